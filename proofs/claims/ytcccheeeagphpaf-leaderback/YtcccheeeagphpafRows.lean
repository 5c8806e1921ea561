/-
  No cell of these rows narrows 'for every input' (looked for: loops, veiled, ifaces, maps, wideKeys, modest, calm, conditions, laid).
  DERIVED. THE GIVEN ROWS OF THIS SEAT. 3 by the template 'for every input the law returns true; each argument reads behind the call as it read before'; 0 by the template 'total and deterministic' (their statements: YtcccheeeagphpafTotals.lean).
  GIVEN WITH THE SEED: the statements are not yours to turn. If you find one false, say at which input.
  Laid BY PROGRAM, IN A SANDBOX (cutbox-rows.mjs): the forced cells as the released guide's own fill.sh prints them over the translation 0daa5d12e8a17281… (all of the seat's roots in one cut). By AI agents, Wed Nov 11 2026. No macro, syntax, notation, axiom, sorry.
-/
import Derived.Test.YtcccheeeagphpafChecked
import GoSem.Claim
import GoSem.ClaimJoined
import GoSem.ClaimMapViews
import Derived.JoinedTies
import Derived.KernelRfl
namespace Go.Proofs.Ytcccheeeagphpaf
/- THE CELL 'sum', in the pinned program and in every row, IS THE sha256 OF THE DUMP (.gsa) THAT YtcccheeeagphpafProg.lean LOADS. Nothing in Lean hashes anything: it is a label: what it is worth is what the hold of that sum in a sandbox is worth. -/
noncomputable def Try.pinned : Pinned := { name := "ytcccheeeagphpaf", sum := "0daa5d12e8a17281c5c277fa4083c287582f6a276591e5be73bb8297adac1ceb", checked := Try.checked }
namespace Rows
def none {H : Type} : Left H := { results := [], args := [] }

/-- 'mootlaw4.AgreeTwo': WHATEVER THE INPUT: true; the input reads as it did. -/
def agreeTwoSpec : ChangeSpec := { name := "agreeTwo", fn := fun _ => fun
  | [d1, d2, d3] => { results := [.lit (.bool true)], args := [d1, d2, d3] }
  | _ => none }
def agreeTwoRow : OpenClaim := { program := "ytcccheeeagphpaf", sum := "0daa5d12e8a17281c5c277fa4083c287582f6a276591e5be73bb8297adac1ceb", func := "mootbell/mootlaw4.AgreeTwo", spec := "agreeTwo", apart := false }
def AgreeTwoSaid : Prop := agreeTwoRow.holds Try.pinned (OpenSpec.ofChange agreeTwoSpec)

/-- ITS FALSE NEIGHBOUR: 'it returns false'. Refute it at one input. -/
def agreeTwoWrong : ChangeSpec := { name := "agreeTwo", fn := fun _ => fun
  | [d1, d2, d3] => { results := [.lit (.bool false)], args := [d1, d2, d3] }
  | _ => none }
def AgreeTwoWrongFalsely : Prop := agreeTwoRow.holds Try.pinned (OpenSpec.ofChange agreeTwoWrong)

/-- 'mootlaw2.LeaderOne': WHATEVER THE INPUT: true; the input reads as it did. -/
def leaderOneSpec : ChangeSpec := { name := "leaderOne", fn := fun _ => fun
  | [d1, d2, d3] => { results := [.lit (.bool true)], args := [d1, d2, d3] }
  | _ => none }
def leaderOneRow : OpenClaim := { program := "ytcccheeeagphpaf", sum := "0daa5d12e8a17281c5c277fa4083c287582f6a276591e5be73bb8297adac1ceb", func := "mootbell/mootlaw2.LeaderOne", spec := "leaderOne", apart := false }
def LeaderOneSaid : Prop := leaderOneRow.holds Try.pinned (OpenSpec.ofChange leaderOneSpec)

/-- ITS FALSE NEIGHBOUR: 'it returns false'. Refute it at one input. -/
def leaderOneWrong : ChangeSpec := { name := "leaderOne", fn := fun _ => fun
  | [d1, d2, d3] => { results := [.lit (.bool false)], args := [d1, d2, d3] }
  | _ => none }
def LeaderOneWrongFalsely : Prop := leaderOneRow.holds Try.pinned (OpenSpec.ofChange leaderOneWrong)

/-- 'mootlaw4.LeaderBack': WHATEVER THE INPUT: true; the input reads as it did. -/
def leaderBackSpec : ChangeSpec := { name := "leaderBack", fn := fun _ => fun
  | [d1, d2] => { results := [.lit (.bool true)], args := [d1, d2] }
  | _ => none }
def leaderBackRow : OpenClaim := { program := "ytcccheeeagphpaf", sum := "0daa5d12e8a17281c5c277fa4083c287582f6a276591e5be73bb8297adac1ceb", func := "mootbell/mootlaw4.LeaderBack", spec := "leaderBack", apart := false }
def LeaderBackSaid : Prop := leaderBackRow.holds Try.pinned (OpenSpec.ofChange leaderBackSpec)

/-- ITS FALSE NEIGHBOUR: 'it returns false'. Refute it at one input. -/
def leaderBackWrong : ChangeSpec := { name := "leaderBack", fn := fun _ => fun
  | [d1, d2] => { results := [.lit (.bool false)], args := [d1, d2] }
  | _ => none }
def LeaderBackWrongFalsely : Prop := leaderBackRow.holds Try.pinned (OpenSpec.ofChange leaderBackWrong)

/- THE SECOND FORM. 'bulk': how many values and letters a reading holds, each counted each time it is reached (what is shared counts as often as it is met; a slice's spare places count too). A statement '..UptoSaid' is the law's where the arguments, and the package variables that the reading takes, are together of bulk at most 1048576: NARROWER than '..Said'. Prove '..Said' where nothing that the law and all that it calls make is longer than what came in: it says more and counts as full. Else prove '..UptoSaid'. A law counts once. -/
mutual
def uptoBulk {H : Type} : DataW H → Nat
  | .lit (.string bytes) => bytes.length + 1
  | .lit _ => 1
  | .nil => 1
  | .ptr d => uptoBulk d + 1
  | .slice elems spare => uptoBulkAll elems + uptoBulkAll spare + 1
  | .agg parts => uptoBulkAll parts + 1
  | .iface _ d => uptoBulk d + 1
  | .map entries => uptoBulkEntries entries + 1
  | .held _ => 1
def uptoBulkAll {H : Type} : List (DataW H) → Nat
  | [] => 0
  | d :: r => uptoBulk d + uptoBulkAll r
def uptoBulkEntries {H : Type} : List (Lit × DataW H) → Nat
  | [] => 0
  | x :: r => uptoBulkEntry x + uptoBulkEntries r
def uptoBulkEntry {H : Type} : Lit × DataW H → Nat
  | (.string bytes, d) => bytes.length + uptoBulk d + 1
  | (_, d) => uptoBulk d + 1
 end
def uptoSmall : (H : Type) → List (DataW H) → Bool := fun _ ds => decide (uptoBulkAll ds ≤ 1048576)
def OpenSpec.upto (s : _root_.Go.ChangeSpec) : _root_.Go.OpenSpec := { _root_.Go.OpenSpec.ofChange s with cond := some uptoSmall }

/-- 'mootlaw4.AgreeTwo', WHERE WHAT IT READS IS OF BULK AT MOST 1048576: true; the input reads as it did. -/
def agreeTwoUptoRow : OpenClaim := { program := "ytcccheeeagphpaf", sum := "0daa5d12e8a17281c5c277fa4083c287582f6a276591e5be73bb8297adac1ceb", func := "mootbell/mootlaw4.AgreeTwo", spec := "agreeTwo", apart := false, narrowed := true }
def AgreeTwoUptoSaid : Prop := agreeTwoUptoRow.holds Try.pinned (OpenSpec.upto agreeTwoSpec)

/-- 'mootlaw2.LeaderOne', WHERE WHAT IT READS IS OF BULK AT MOST 1048576: true; the input reads as it did. -/
def leaderOneUptoRow : OpenClaim := { program := "ytcccheeeagphpaf", sum := "0daa5d12e8a17281c5c277fa4083c287582f6a276591e5be73bb8297adac1ceb", func := "mootbell/mootlaw2.LeaderOne", spec := "leaderOne", apart := false, narrowed := true }
def LeaderOneUptoSaid : Prop := leaderOneUptoRow.holds Try.pinned (OpenSpec.upto leaderOneSpec)

/-- 'mootlaw4.LeaderBack', WHERE WHAT IT READS IS OF BULK AT MOST 1048576: true; the input reads as it did. -/
def leaderBackUptoRow : OpenClaim := { program := "ytcccheeeagphpaf", sum := "0daa5d12e8a17281c5c277fa4083c287582f6a276591e5be73bb8297adac1ceb", func := "mootbell/mootlaw4.LeaderBack", spec := "leaderBack", apart := false, narrowed := true }
def LeaderBackUptoSaid : Prop := leaderBackUptoRow.holds Try.pinned (OpenSpec.upto leaderBackSpec)

end Rows
end Go.Proofs.Ytcccheeeagphpaf
