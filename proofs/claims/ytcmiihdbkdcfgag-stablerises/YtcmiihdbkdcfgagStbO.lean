/-
  How the program's rows stand in a walk: what came in lies apart.
-/
import Derived.Test.YtcmiihdbkdcfgagStbP
import Derived.Test.YtcmiihdbkdcfgagVecB
import Derived.Test.YtcmiihdbkdcfgagVecC
import Derived.Deep.QuietTactic
import Derived.BigQuiet
import Derived.Deep.RegionHeld3
import Derived.WalkLawsBesides
import Derived.Handy
namespace Go.Proofs.Ytcmiihdbkdcfgag.Stb
open Go.RowKit
open Go.Proofs.Ytcmiihdbkdcfgag.Vec (Vw)
open Go.Proofs.Ytcmiihdbkdcfgag.Sep (KpL NewL)
set_option linter.unusedVariables false

theorem BS.later {w w' : World} {base P : Nat} {t : T} {fp : List Nat} (h : BS w base P t fp) (hb : Below w.heap.size w w') : BS w' base P t fp := h.of_blocks hb.size fun b hb' => hb.block b (h.fp b hb').2
/-- how it stands: what came in lies apart -/
structure OS (w wr : World) (P : Nat) (t : T) (fp : List Nat) : Prop where
  bs : BS wr w.heap.size P t fp
  inv : Inv t
  bel : Below w.heap.size w wr
theorem OS.far {w wr : World} {P : Nat} {t : T} {fp : List Nat} (h : OS w wr P t fp) {a : Option Addr} {len : Nat} {v : List Int} (hv : Vw w a len v) : ∀ ad, a = some ad → 0 < len → ad.block ∉ fp := fun ad e q z => by
  obtain ⟨b, off, e', hlt, _⟩ := hv.2 q
  rw [e'] at e
  cases e
  have := (h.bs.fp _ z).1
  have h' : b < w.heap.size := hlt
  have h'' : w.heap.size ≤ b := this
  omega
theorem OS.later {w wr w' : World} {P : Nat} {t : T} {fp : List Nat} (h : OS w wr P t fp) (hb : Below wr.heap.size wr w') : OS w w' P t fp := ⟨h.bs.later hb, h.inv, h.bel.trans (hb.mono h.bel.size)⟩
end Go.Proofs.Ytcmiihdbkdcfgag.Stb
