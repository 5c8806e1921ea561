/-
  No cell of these rows narrows 'for every input' (looked for: loops, veiled, ifaces, maps, wideKeys, modest, calm, conditions, laid).
  DERIVED. THE GIVEN ROWS OF THIS SEAT. 3 by the template 'for every input the law returns true; each argument reads behind the call as it read before'; 0 by the template 'total and deterministic' (their statements: YtgcdbcljneoifacTotals.lean).
  GIVEN WITH THE SEED: the statements are not yours to turn. If you find one false, say at which input.
  Laid BY PROGRAM, IN A SANDBOX (cutbox-rows.mjs): the forced cells as the released guide's own fill.sh prints them over the translation 9c99033b1d2126e8… (all of the seat's roots in one cut). By AI agents, Wed Nov 11 2026. No macro, syntax, notation, axiom, sorry.
-/
import Derived.Test.YtgcdbcljneoifacChecked
import GoSem.Claim
import GoSem.ClaimJoined
import GoSem.ClaimMapViews
import Derived.JoinedTies
import Derived.KernelRfl
namespace Go.Proofs.Ytgcdbcljneoifac
/- THE CELL 'sum', in the pinned program and in every row, IS THE sha256 OF THE DUMP (.gsa) THAT YtgcdbcljneoifacProg.lean LOADS. Nothing in Lean hashes anything: it is a label: what it is worth is what the hold of that sum in a sandbox is worth. -/
noncomputable def Try.pinned : Pinned := { name := "ytgcdbcljneoifac", sum := "9c99033b1d2126e815c8c3d95860696991f16faafd206f5702b2a492e7eea141", checked := Try.checked }
namespace Rows
def none {H : Type} : Left H := { results := [], args := [] }

/-- 'mootlaw4.FacesTwo': WHATEVER THE INPUT: true; the input reads as it did. -/
def facesTwoSpec : ChangeSpec := { name := "facesTwo", fn := fun _ => fun
  | [d1, d2, d3] => { results := [.lit (.bool true)], args := [d1, d2, d3] }
  | _ => none }
def facesTwoRow : OpenClaim := { program := "ytgcdbcljneoifac", sum := "9c99033b1d2126e815c8c3d95860696991f16faafd206f5702b2a492e7eea141", func := "mootbell/mootlaw4.FacesTwo", spec := "facesTwo", unfollowed := true, recurses := true, plainKeys := false, apart := false }
def FacesTwoSaid : Prop := facesTwoRow.holds Try.pinned (OpenSpec.ofChange facesTwoSpec)

/-- ITS FALSE NEIGHBOUR: 'it returns false'. Refute it at one input. -/
def facesTwoWrong : ChangeSpec := { name := "facesTwo", fn := fun _ => fun
  | [d1, d2, d3] => { results := [.lit (.bool false)], args := [d1, d2, d3] }
  | _ => none }
def FacesTwoWrongFalsely : Prop := facesTwoRow.holds Try.pinned (OpenSpec.ofChange facesTwoWrong)

/-- 'mootlaw4.FifoBack': WHATEVER THE INPUT: true; the input reads as it did. -/
def fifoBackSpec : ChangeSpec := { name := "fifoBack", fn := fun _ => fun
  | [d1, d2] => { results := [.lit (.bool true)], args := [d1, d2] }
  | _ => none }
def fifoBackRow : OpenClaim := { program := "ytgcdbcljneoifac", sum := "9c99033b1d2126e815c8c3d95860696991f16faafd206f5702b2a492e7eea141", func := "mootbell/mootlaw4.FifoBack", spec := "fifoBack", plainKeys := false, apart := false }
def FifoBackSaid : Prop := fifoBackRow.holds Try.pinned (OpenSpec.ofChange fifoBackSpec)

/-- ITS FALSE NEIGHBOUR: 'it returns false'. Refute it at one input. -/
def fifoBackWrong : ChangeSpec := { name := "fifoBack", fn := fun _ => fun
  | [d1, d2] => { results := [.lit (.bool false)], args := [d1, d2] }
  | _ => none }
def FifoBackWrongFalsely : Prop := fifoBackRow.holds Try.pinned (OpenSpec.ofChange fifoBackWrong)

/-- 'mootlaw4.CauseAlone': WHATEVER THE INPUT: true; the input reads as it did. -/
def causeAloneSpec : ChangeSpec := { name := "causeAlone", fn := fun _ => fun
  | [d1, d2, d3] => { results := [.lit (.bool true)], args := [d1, d2, d3] }
  | _ => none }
def causeAloneRow : OpenClaim := { program := "ytgcdbcljneoifac", sum := "9c99033b1d2126e815c8c3d95860696991f16faafd206f5702b2a492e7eea141", func := "mootbell/mootlaw4.CauseAlone", spec := "causeAlone", unfollowed := true, recurses := true, plainKeys := false, apart := false }
def CauseAloneSaid : Prop := causeAloneRow.holds Try.pinned (OpenSpec.ofChange causeAloneSpec)

/-- ITS FALSE NEIGHBOUR: 'it returns false'. Refute it at one input. -/
def causeAloneWrong : ChangeSpec := { name := "causeAlone", fn := fun _ => fun
  | [d1, d2, d3] => { results := [.lit (.bool false)], args := [d1, d2, d3] }
  | _ => none }
def CauseAloneWrongFalsely : Prop := causeAloneRow.holds Try.pinned (OpenSpec.ofChange causeAloneWrong)

/- THE SECOND FORM. 'bulk': how many values and letters a reading holds, each counted each time it is reached (what is shared counts as often as it is met; a slice's spare places count too). A statement '..UptoSaid' is the law's where the arguments, and the package variables that the reading takes, are together of bulk at most 1048576: NARROWER than '..Said'. Prove '..Said' where nothing that the law and all that it calls make is longer than what came in: it says more and counts as full. Else prove '..UptoSaid'. A law counts once. -/
mutual
def uptoBulk {H : Type} : DataW H → Nat
  | .lit (.string bytes) => bytes.length + 1
  | .lit _ => 1
  | .nil => 1
  | .ptr d => uptoBulk d + 1
  | .slice elems spare => uptoBulkAll elems + uptoBulkAll spare + 1
  | .agg parts => uptoBulkAll parts + 1
  | .iface _ d => uptoBulk d + 1
  | .map entries => uptoBulkEntries entries + 1
  | .held _ => 1
def uptoBulkAll {H : Type} : List (DataW H) → Nat
  | [] => 0
  | d :: r => uptoBulk d + uptoBulkAll r
def uptoBulkEntries {H : Type} : List (Lit × DataW H) → Nat
  | [] => 0
  | x :: r => uptoBulkEntry x + uptoBulkEntries r
def uptoBulkEntry {H : Type} : Lit × DataW H → Nat
  | (.string bytes, d) => bytes.length + uptoBulk d + 1
  | (_, d) => uptoBulk d + 1
 end
def uptoSmall : (H : Type) → List (DataW H) → Bool := fun _ ds => decide (uptoBulkAll ds ≤ 1048576)
def OpenSpec.upto (s : _root_.Go.ChangeSpec) : _root_.Go.OpenSpec := { _root_.Go.OpenSpec.ofChange s with cond := some uptoSmall }

/-- 'mootlaw4.FacesTwo', WHERE WHAT IT READS IS OF BULK AT MOST 1048576: true; the input reads as it did. -/
def facesTwoUptoRow : OpenClaim := { program := "ytgcdbcljneoifac", sum := "9c99033b1d2126e815c8c3d95860696991f16faafd206f5702b2a492e7eea141", func := "mootbell/mootlaw4.FacesTwo", spec := "facesTwo", unfollowed := true, recurses := true, plainKeys := false, apart := false, narrowed := true }
def FacesTwoUptoSaid : Prop := facesTwoUptoRow.holds Try.pinned (OpenSpec.upto facesTwoSpec)

/-- 'mootlaw4.FifoBack', WHERE WHAT IT READS IS OF BULK AT MOST 1048576: true; the input reads as it did. -/
def fifoBackUptoRow : OpenClaim := { program := "ytgcdbcljneoifac", sum := "9c99033b1d2126e815c8c3d95860696991f16faafd206f5702b2a492e7eea141", func := "mootbell/mootlaw4.FifoBack", spec := "fifoBack", plainKeys := false, apart := false, narrowed := true }
def FifoBackUptoSaid : Prop := fifoBackUptoRow.holds Try.pinned (OpenSpec.upto fifoBackSpec)

/-- 'mootlaw4.CauseAlone', WHERE WHAT IT READS IS OF BULK AT MOST 1048576: true; the input reads as it did. -/
def causeAloneUptoRow : OpenClaim := { program := "ytgcdbcljneoifac", sum := "9c99033b1d2126e815c8c3d95860696991f16faafd206f5702b2a492e7eea141", func := "mootbell/mootlaw4.CauseAlone", spec := "causeAlone", unfollowed := true, recurses := true, plainKeys := false, apart := false, narrowed := true }
def CauseAloneUptoSaid : Prop := causeAloneUptoRow.holds Try.pinned (OpenSpec.upto causeAloneSpec)

end Rows
end Go.Proofs.Ytgcdbcljneoifac
