/-
  No cell of these rows narrows 'for every input' (looked for: loops, veiled, ifaces, maps, wideKeys, modest, calm, conditions, laid).
  DERIVED. THE GIVEN ROWS OF THIS SEAT. 4 by the template 'for every input the law returns true; each argument reads behind the call as it read before'; 0 by the template 'total and deterministic' (their statements: YtcmiihdbkdcfgagTotals.lean).
  GIVEN WITH THE SEED: the statements are not yours to turn. If you find one false, say at which input.
  Laid BY PROGRAM, IN A SANDBOX (cutbox-rows.mjs): the forced cells as the released guide's own fill.sh prints them over the translation 1f30d520ae0df8ec… (all of the seat's roots in one cut). By AI agents, Wed Nov 11 2026. No macro, syntax, notation, axiom, sorry.
-/
import Derived.Test.YtcmiihdbkdcfgagChecked
import GoSem.Claim
import GoSem.ClaimJoined
import GoSem.ClaimMapViews
import Derived.JoinedTies
import Derived.KernelRfl
namespace Go.Proofs.Ytcmiihdbkdcfgag
/- THE CELL 'sum', in the pinned program and in every row, IS THE sha256 OF THE DUMP (.gsa) THAT YtcmiihdbkdcfgagProg.lean LOADS. Nothing in Lean hashes anything: it is a label: what it is worth is what the hold of that sum in a sandbox is worth. -/
noncomputable def Try.pinned : Pinned := { name := "ytcmiihdbkdcfgag", sum := "1f30d520ae0df8ecc8d5743fe4f2f521b94d3d7a9938a1fcb256973237a29ab0", checked := Try.checked }
namespace Rows
def none {H : Type} : Left H := { results := [], args := [] }

/-- 'moottop.TopTotal': WHATEVER THE INPUT: true; the input reads as it did. -/
def topTotalSpec : ChangeSpec := { name := "topTotal", fn := fun _ => fun
  | [d1, d2, d3] => { results := [.lit (.bool true)], args := [d1, d2, d3] }
  | _ => none }
def topTotalRow : OpenClaim := { program := "ytcmiihdbkdcfgag", sum := "1f30d520ae0df8ecc8d5743fe4f2f521b94d3d7a9938a1fcb256973237a29ab0", func := "mootbell/moottop.TopTotal", spec := "topTotal", unfollowed := true, recurses := true, apart := false }
def TopTotalSaid : Prop := topTotalRow.holds Try.pinned (OpenSpec.ofChange topTotalSpec)

/-- ITS FALSE NEIGHBOUR: 'it returns false'. Refute it at one input. -/
def topTotalWrong : ChangeSpec := { name := "topTotal", fn := fun _ => fun
  | [d1, d2, d3] => { results := [.lit (.bool false)], args := [d1, d2, d3] }
  | _ => none }
def TopTotalWrongFalsely : Prop := topTotalRow.holds Try.pinned (OpenSpec.ofChange topTotalWrong)

/-- 'mootlaw2.TokenFair': WHATEVER THE INPUT: true; the input reads as it did. -/
def tokenFairSpec : ChangeSpec := { name := "tokenFair", fn := fun _ => fun
  | [d1, d2, d3] => { results := [.lit (.bool true)], args := [d1, d2, d3] }
  | _ => none }
def tokenFairRow : OpenClaim := { program := "ytcmiihdbkdcfgag", sum := "1f30d520ae0df8ecc8d5743fe4f2f521b94d3d7a9938a1fcb256973237a29ab0", func := "mootbell/mootlaw2.TokenFair", spec := "tokenFair", apart := false }
def TokenFairSaid : Prop := tokenFairRow.holds Try.pinned (OpenSpec.ofChange tokenFairSpec)

/-- ITS FALSE NEIGHBOUR: 'it returns false'. Refute it at one input. -/
def tokenFairWrong : ChangeSpec := { name := "tokenFair", fn := fun _ => fun
  | [d1, d2, d3] => { results := [.lit (.bool false)], args := [d1, d2, d3] }
  | _ => none }
def TokenFairWrongFalsely : Prop := tokenFairRow.holds Try.pinned (OpenSpec.ofChange tokenFairWrong)

/-- 'mootlaw4.TokenRound': WHATEVER THE INPUT: true; the input reads as it did. -/
def tokenRoundSpec : ChangeSpec := { name := "tokenRound", fn := fun _ => fun
  | [d1, d2, d3] => { results := [.lit (.bool true)], args := [d1, d2, d3] }
  | _ => none }
def tokenRoundRow : OpenClaim := { program := "ytcmiihdbkdcfgag", sum := "1f30d520ae0df8ecc8d5743fe4f2f521b94d3d7a9938a1fcb256973237a29ab0", func := "mootbell/mootlaw4.TokenRound", spec := "tokenRound", apart := false }
def TokenRoundSaid : Prop := tokenRoundRow.holds Try.pinned (OpenSpec.ofChange tokenRoundSpec)

/-- ITS FALSE NEIGHBOUR: 'it returns false'. Refute it at one input. -/
def tokenRoundWrong : ChangeSpec := { name := "tokenRound", fn := fun _ => fun
  | [d1, d2, d3] => { results := [.lit (.bool false)], args := [d1, d2, d3] }
  | _ => none }
def TokenRoundWrongFalsely : Prop := tokenRoundRow.holds Try.pinned (OpenSpec.ofChange tokenRoundWrong)

/-- 'mootlaw2.StableRises': WHATEVER THE INPUT: true; the input reads as it did. -/
def stableRisesSpec : ChangeSpec := { name := "stableRises", fn := fun _ => fun
  | [d1, d2, d3, d4] => { results := [.lit (.bool true)], args := [d1, d2, d3, d4] }
  | _ => none }
def stableRisesRow : OpenClaim := { program := "ytcmiihdbkdcfgag", sum := "1f30d520ae0df8ecc8d5743fe4f2f521b94d3d7a9938a1fcb256973237a29ab0", func := "mootbell/mootlaw2.StableRises", spec := "stableRises", unfollowed := true, recurses := true, apart := false }
def StableRisesSaid : Prop := stableRisesRow.holds Try.pinned (OpenSpec.ofChange stableRisesSpec)

/-- ITS FALSE NEIGHBOUR: 'it returns false'. Refute it at one input. -/
def stableRisesWrong : ChangeSpec := { name := "stableRises", fn := fun _ => fun
  | [d1, d2, d3, d4] => { results := [.lit (.bool false)], args := [d1, d2, d3, d4] }
  | _ => none }
def StableRisesWrongFalsely : Prop := stableRisesRow.holds Try.pinned (OpenSpec.ofChange stableRisesWrong)

/- THE SECOND FORM. 'bulk': how many values and letters a reading holds, each counted each time it is reached (what is shared counts as often as it is met; a slice's spare places count too). A statement '..UptoSaid' is the law's where the arguments, and the package variables that the reading takes, are together of bulk at most 1048576: NARROWER than '..Said'. Prove '..Said' where nothing that the law and all that it calls make is longer than what came in: it says more and counts as full. Else prove '..UptoSaid'. A law counts once. -/
mutual
def uptoBulk {H : Type} : DataW H → Nat
  | .lit (.string bytes) => bytes.length + 1
  | .lit _ => 1
  | .nil => 1
  | .ptr d => uptoBulk d + 1
  | .slice elems spare => uptoBulkAll elems + uptoBulkAll spare + 1
  | .agg parts => uptoBulkAll parts + 1
  | .iface _ d => uptoBulk d + 1
  | .map entries => uptoBulkEntries entries + 1
  | .held _ => 1
def uptoBulkAll {H : Type} : List (DataW H) → Nat
  | [] => 0
  | d :: r => uptoBulk d + uptoBulkAll r
def uptoBulkEntries {H : Type} : List (Lit × DataW H) → Nat
  | [] => 0
  | x :: r => uptoBulkEntry x + uptoBulkEntries r
def uptoBulkEntry {H : Type} : Lit × DataW H → Nat
  | (.string bytes, d) => bytes.length + uptoBulk d + 1
  | (_, d) => uptoBulk d + 1
 end
def uptoSmall : (H : Type) → List (DataW H) → Bool := fun _ ds => decide (uptoBulkAll ds ≤ 1048576)
def OpenSpec.upto (s : _root_.Go.ChangeSpec) : _root_.Go.OpenSpec := { _root_.Go.OpenSpec.ofChange s with cond := some uptoSmall }

/-- 'moottop.TopTotal', WHERE WHAT IT READS IS OF BULK AT MOST 1048576: true; the input reads as it did. -/
def topTotalUptoRow : OpenClaim := { program := "ytcmiihdbkdcfgag", sum := "1f30d520ae0df8ecc8d5743fe4f2f521b94d3d7a9938a1fcb256973237a29ab0", func := "mootbell/moottop.TopTotal", spec := "topTotal", unfollowed := true, recurses := true, apart := false, narrowed := true }
def TopTotalUptoSaid : Prop := topTotalUptoRow.holds Try.pinned (OpenSpec.upto topTotalSpec)

/-- 'mootlaw2.TokenFair', WHERE WHAT IT READS IS OF BULK AT MOST 1048576: true; the input reads as it did. -/
def tokenFairUptoRow : OpenClaim := { program := "ytcmiihdbkdcfgag", sum := "1f30d520ae0df8ecc8d5743fe4f2f521b94d3d7a9938a1fcb256973237a29ab0", func := "mootbell/mootlaw2.TokenFair", spec := "tokenFair", apart := false, narrowed := true }
def TokenFairUptoSaid : Prop := tokenFairUptoRow.holds Try.pinned (OpenSpec.upto tokenFairSpec)

/-- 'mootlaw4.TokenRound', WHERE WHAT IT READS IS OF BULK AT MOST 1048576: true; the input reads as it did. -/
def tokenRoundUptoRow : OpenClaim := { program := "ytcmiihdbkdcfgag", sum := "1f30d520ae0df8ecc8d5743fe4f2f521b94d3d7a9938a1fcb256973237a29ab0", func := "mootbell/mootlaw4.TokenRound", spec := "tokenRound", apart := false, narrowed := true }
def TokenRoundUptoSaid : Prop := tokenRoundUptoRow.holds Try.pinned (OpenSpec.upto tokenRoundSpec)

/-- 'mootlaw2.StableRises', WHERE WHAT IT READS IS OF BULK AT MOST 1048576: true; the input reads as it did. -/
def stableRisesUptoRow : OpenClaim := { program := "ytcmiihdbkdcfgag", sum := "1f30d520ae0df8ecc8d5743fe4f2f521b94d3d7a9938a1fcb256973237a29ab0", func := "mootbell/mootlaw2.StableRises", spec := "stableRises", unfollowed := true, recurses := true, apart := false, narrowed := true }
def StableRisesUptoSaid : Prop := stableRisesUptoRow.holds Try.pinned (OpenSpec.upto stableRisesSpec)

end Rows
end Go.Proofs.Ytcmiihdbkdcfgag
