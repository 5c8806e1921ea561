/-
  NARROWER THAN 'FOR EVERY INPUT', by the rows' own cells (each row's printed sentence says how): FlushLost: laid · FlushPlays: laid · PictureKeeps: laid · PictureStill: laid.
  DERIVED. THE GIVEN ROWS OF THIS SEAT. 4 by the template 'for every input the law returns true; each argument reads behind the call as it read before'; 0 by the template 'total and deterministic' (their statements: YtgcdbcljneoifaiDoorTotals.lean).
  GIVEN WITH THE SEED: the statements are not yours to turn. If you find one false, say at which input.
  Laid BY PROGRAM, IN A SANDBOX (cutbox-rows.mjs): the forced cells as the released guide's own fill.sh prints them over the translation 796c8b153bea91fc… (all of the seat's roots in one cut). By AI agents, Wed Nov 11 2026. No macro, syntax, notation, axiom, sorry.
-/
import Derived.Test.YtgcdbcljneoifaiDoorChecked
import GoSem.Claim
import GoSem.ClaimJoined
import GoSem.ClaimMapViews
import Derived.JoinedTies
import Derived.KernelRfl
namespace Go.Proofs.YtgcdbcljneoifaiDoor
/- THE CELL 'sum', in the pinned program and in every row, IS THE sha256 OF THE DUMP (.gsa) THAT YtgcdbcljneoifaiDoorProg.lean LOADS. Nothing in Lean hashes anything: it is a label: what it is worth is what the hold of that sum in a sandbox is worth. -/
noncomputable def Tryd.pinned : Pinned := { name := "ytgcdbcljneoifaidoor", sum := "796c8b153bea91fc19dd1e77887fee9b15ca4bfadc478934cd09b203fe6ac095", checked := Tryd.checked }
namespace Rows
def none {H : Type} : Left H := { results := [], args := [] }

/- WHAT THE LISTED PACKAGE-LEVEL VARIABLES READ AS WHEN THE CALL BEGINS. Each datum BY PROGRAM (the guide's laid-datum.mjs) off the statement by which the dump's own 'gosem.cut.vars' lays the variable. In a bare row this is a premise. The card (YtgcdbcljneoifaiDoorCards.lean) ties it to the program's text. -/
def laid_errors_errorType {H : Type} : DataW H := .iface "internal/reflectlite.rtype" (.agg [.ptr (.lit (.string [101, 114, 114, 111, 114]))])

/-- 'mootlaw4.FlushLost': WHATEVER THE INPUT: true; the input reads as it did. -/
def flushLostSpec : ChangeSpec := { name := "flushLost", fn := fun _ => fun
  | [d1, d2] => { results := [.lit (.bool true)], args := [d1, d2] }
  | _ => none }
def flushLostRow : OpenClaim := { program := "ytgcdbcljneoifaidoor", sum := "796c8b153bea91fc19dd1e77887fee9b15ca4bfadc478934cd09b203fe6ac095", func := "mootbell/mootlaw4.FlushLost", spec := "flushLost", inPlace := ["internal/reflectlite.ValueOf", "(internal/reflectlite.Value).Type", "(internal/reflectlite.Value).IsNil", "internal/reflectlite.TypeOf", "(internal/reflectlite.Value).Elem", "(internal/reflectlite.Value).Set"], unfollowed := true, recurses := true, named := ["errors.errorType"], plainKeys := false, apart := false, laid := [("errors.errorType", laid_errors_errorType)] }
def FlushLostSaid : Prop := flushLostRow.holds Tryd.pinned (OpenSpec.ofChange flushLostSpec)

/-- ITS FALSE NEIGHBOUR: 'it returns false'. Refute it at one input. -/
def flushLostWrong : ChangeSpec := { name := "flushLost", fn := fun _ => fun
  | [d1, d2] => { results := [.lit (.bool false)], args := [d1, d2] }
  | _ => none }
def FlushLostWrongFalsely : Prop := flushLostRow.holds Tryd.pinned (OpenSpec.ofChange flushLostWrong)

/-- 'mootlaw3.FlushPlays': WHATEVER THE INPUT: true; the input reads as it did. -/
def flushPlaysSpec : ChangeSpec := { name := "flushPlays", fn := fun _ => fun
  | [d1, d2, d3] => { results := [.lit (.bool true)], args := [d1, d2, d3] }
  | _ => none }
def flushPlaysRow : OpenClaim := { program := "ytgcdbcljneoifaidoor", sum := "796c8b153bea91fc19dd1e77887fee9b15ca4bfadc478934cd09b203fe6ac095", func := "mootbell/mootlaw3.FlushPlays", spec := "flushPlays", inPlace := ["internal/reflectlite.ValueOf", "(internal/reflectlite.Value).Type", "(internal/reflectlite.Value).IsNil", "internal/reflectlite.TypeOf", "(internal/reflectlite.Value).Elem", "(internal/reflectlite.Value).Set"], unfollowed := true, recurses := true, named := ["errors.errorType"], plainKeys := false, apart := false, laid := [("errors.errorType", laid_errors_errorType)] }
def FlushPlaysSaid : Prop := flushPlaysRow.holds Tryd.pinned (OpenSpec.ofChange flushPlaysSpec)

/-- ITS FALSE NEIGHBOUR: 'it returns false'. Refute it at one input. -/
def flushPlaysWrong : ChangeSpec := { name := "flushPlays", fn := fun _ => fun
  | [d1, d2, d3] => { results := [.lit (.bool false)], args := [d1, d2, d3] }
  | _ => none }
def FlushPlaysWrongFalsely : Prop := flushPlaysRow.holds Tryd.pinned (OpenSpec.ofChange flushPlaysWrong)

/-- 'mootlaw3.PictureKeeps': WHATEVER THE INPUT: true; the input reads as it did. -/
def pictureKeepsSpec : ChangeSpec := { name := "pictureKeeps", fn := fun _ => fun
  | [d1, d2] => { results := [.lit (.bool true)], args := [d1, d2] }
  | _ => none }
def pictureKeepsRow : OpenClaim := { program := "ytgcdbcljneoifaidoor", sum := "796c8b153bea91fc19dd1e77887fee9b15ca4bfadc478934cd09b203fe6ac095", func := "mootbell/mootlaw3.PictureKeeps", spec := "pictureKeeps", inPlace := ["internal/reflectlite.ValueOf", "(internal/reflectlite.Value).Type", "(internal/reflectlite.Value).IsNil", "internal/reflectlite.TypeOf", "(internal/reflectlite.Value).Elem", "(internal/reflectlite.Value).Set"], unfollowed := true, recurses := true, named := ["errors.errorType"], plainKeys := false, apart := false, laid := [("errors.errorType", laid_errors_errorType)] }
def PictureKeepsSaid : Prop := pictureKeepsRow.holds Tryd.pinned (OpenSpec.ofChange pictureKeepsSpec)

/-- ITS FALSE NEIGHBOUR: 'it returns false'. Refute it at one input. -/
def pictureKeepsWrong : ChangeSpec := { name := "pictureKeeps", fn := fun _ => fun
  | [d1, d2] => { results := [.lit (.bool false)], args := [d1, d2] }
  | _ => none }
def PictureKeepsWrongFalsely : Prop := pictureKeepsRow.holds Tryd.pinned (OpenSpec.ofChange pictureKeepsWrong)

/-- 'mootlaw4.PictureStill': WHATEVER THE INPUT: true; the input reads as it did. -/
def pictureStillSpec : ChangeSpec := { name := "pictureStill", fn := fun _ => fun
  | [d1, d2] => { results := [.lit (.bool true)], args := [d1, d2] }
  | _ => none }
def pictureStillRow : OpenClaim := { program := "ytgcdbcljneoifaidoor", sum := "796c8b153bea91fc19dd1e77887fee9b15ca4bfadc478934cd09b203fe6ac095", func := "mootbell/mootlaw4.PictureStill", spec := "pictureStill", inPlace := ["internal/reflectlite.ValueOf", "(internal/reflectlite.Value).Type", "(internal/reflectlite.Value).IsNil", "internal/reflectlite.TypeOf", "(internal/reflectlite.Value).Elem", "(internal/reflectlite.Value).Set"], unfollowed := true, recurses := true, named := ["errors.errorType"], plainKeys := false, apart := false, laid := [("errors.errorType", laid_errors_errorType)] }
def PictureStillSaid : Prop := pictureStillRow.holds Tryd.pinned (OpenSpec.ofChange pictureStillSpec)

/-- ITS FALSE NEIGHBOUR: 'it returns false'. Refute it at one input. -/
def pictureStillWrong : ChangeSpec := { name := "pictureStill", fn := fun _ => fun
  | [d1, d2] => { results := [.lit (.bool false)], args := [d1, d2] }
  | _ => none }
def PictureStillWrongFalsely : Prop := pictureStillRow.holds Tryd.pinned (OpenSpec.ofChange pictureStillWrong)

/- THE SECOND FORM. 'bulk': how many values and letters a reading holds, each counted each time it is reached (what is shared counts as often as it is met; a slice's spare places count too). A statement '..UptoSaid' is the law's where the arguments, and the package variables that the reading takes, are together of bulk at most 1048576: NARROWER than '..Said'. Prove '..Said' where nothing that the law and all that it calls make is longer than what came in: it says more and counts as full. Else prove '..UptoSaid'. A law counts once. -/
mutual
def uptoBulk {H : Type} : DataW H → Nat
  | .lit (.string bytes) => bytes.length + 1
  | .lit _ => 1
  | .nil => 1
  | .ptr d => uptoBulk d + 1
  | .slice elems spare => uptoBulkAll elems + uptoBulkAll spare + 1
  | .agg parts => uptoBulkAll parts + 1
  | .iface _ d => uptoBulk d + 1
  | .map entries => uptoBulkEntries entries + 1
  | .held _ => 1
def uptoBulkAll {H : Type} : List (DataW H) → Nat
  | [] => 0
  | d :: r => uptoBulk d + uptoBulkAll r
def uptoBulkEntries {H : Type} : List (Lit × DataW H) → Nat
  | [] => 0
  | x :: r => uptoBulkEntry x + uptoBulkEntries r
def uptoBulkEntry {H : Type} : Lit × DataW H → Nat
  | (.string bytes, d) => bytes.length + uptoBulk d + 1
  | (_, d) => uptoBulk d + 1
 end
def uptoSmall : (H : Type) → List (DataW H) → Bool := fun _ ds => decide (uptoBulkAll ds ≤ 1048576)
def OpenSpec.upto (s : _root_.Go.ChangeSpec) : _root_.Go.OpenSpec := { _root_.Go.OpenSpec.ofChange s with cond := some uptoSmall }

/-- 'mootlaw4.FlushLost', WHERE WHAT IT READS IS OF BULK AT MOST 1048576: true; the input reads as it did. -/
def flushLostUptoRow : OpenClaim := { program := "ytgcdbcljneoifaidoor", sum := "796c8b153bea91fc19dd1e77887fee9b15ca4bfadc478934cd09b203fe6ac095", func := "mootbell/mootlaw4.FlushLost", spec := "flushLost", inPlace := ["internal/reflectlite.ValueOf", "(internal/reflectlite.Value).Type", "(internal/reflectlite.Value).IsNil", "internal/reflectlite.TypeOf", "(internal/reflectlite.Value).Elem", "(internal/reflectlite.Value).Set"], unfollowed := true, recurses := true, named := ["errors.errorType"], plainKeys := false, apart := false, laid := [("errors.errorType", laid_errors_errorType)], narrowed := true }
def FlushLostUptoSaid : Prop := flushLostUptoRow.holds Tryd.pinned (OpenSpec.upto flushLostSpec)

/-- 'mootlaw3.FlushPlays', WHERE WHAT IT READS IS OF BULK AT MOST 1048576: true; the input reads as it did. -/
def flushPlaysUptoRow : OpenClaim := { program := "ytgcdbcljneoifaidoor", sum := "796c8b153bea91fc19dd1e77887fee9b15ca4bfadc478934cd09b203fe6ac095", func := "mootbell/mootlaw3.FlushPlays", spec := "flushPlays", inPlace := ["internal/reflectlite.ValueOf", "(internal/reflectlite.Value).Type", "(internal/reflectlite.Value).IsNil", "internal/reflectlite.TypeOf", "(internal/reflectlite.Value).Elem", "(internal/reflectlite.Value).Set"], unfollowed := true, recurses := true, named := ["errors.errorType"], plainKeys := false, apart := false, laid := [("errors.errorType", laid_errors_errorType)], narrowed := true }
def FlushPlaysUptoSaid : Prop := flushPlaysUptoRow.holds Tryd.pinned (OpenSpec.upto flushPlaysSpec)

/-- 'mootlaw3.PictureKeeps', WHERE WHAT IT READS IS OF BULK AT MOST 1048576: true; the input reads as it did. -/
def pictureKeepsUptoRow : OpenClaim := { program := "ytgcdbcljneoifaidoor", sum := "796c8b153bea91fc19dd1e77887fee9b15ca4bfadc478934cd09b203fe6ac095", func := "mootbell/mootlaw3.PictureKeeps", spec := "pictureKeeps", inPlace := ["internal/reflectlite.ValueOf", "(internal/reflectlite.Value).Type", "(internal/reflectlite.Value).IsNil", "internal/reflectlite.TypeOf", "(internal/reflectlite.Value).Elem", "(internal/reflectlite.Value).Set"], unfollowed := true, recurses := true, named := ["errors.errorType"], plainKeys := false, apart := false, laid := [("errors.errorType", laid_errors_errorType)], narrowed := true }
def PictureKeepsUptoSaid : Prop := pictureKeepsUptoRow.holds Tryd.pinned (OpenSpec.upto pictureKeepsSpec)

/-- 'mootlaw4.PictureStill', WHERE WHAT IT READS IS OF BULK AT MOST 1048576: true; the input reads as it did. -/
def pictureStillUptoRow : OpenClaim := { program := "ytgcdbcljneoifaidoor", sum := "796c8b153bea91fc19dd1e77887fee9b15ca4bfadc478934cd09b203fe6ac095", func := "mootbell/mootlaw4.PictureStill", spec := "pictureStill", inPlace := ["internal/reflectlite.ValueOf", "(internal/reflectlite.Value).Type", "(internal/reflectlite.Value).IsNil", "internal/reflectlite.TypeOf", "(internal/reflectlite.Value).Elem", "(internal/reflectlite.Value).Set"], unfollowed := true, recurses := true, named := ["errors.errorType"], plainKeys := false, apart := false, laid := [("errors.errorType", laid_errors_errorType)], narrowed := true }
def PictureStillUptoSaid : Prop := pictureStillUptoRow.holds Tryd.pinned (OpenSpec.upto pictureStillSpec)

end Rows
end Go.Proofs.YtgcdbcljneoifaiDoor
