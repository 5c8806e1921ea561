/-
  What is seen of places; errors and lists of numbers as with a leader.
-/
import Derived.Test.YtfjhjjikaodadagDoorTokM
import Derived.Test.YtfjhjjikaodadagDoorLdrE
namespace Go.Proofs.YtfjhjjikaodadagDoor.Tok
open Go.RowKit
open Go.Proofs.YtfjhjjikaodadagDoor.Fif (own_lt own_block own_form own_mono own_vw ret_bool)
open Go.Proofs.YtfjhjjikaodadagDoor.Sep (KpL NewL)
set_option linter.unusedVariables false

/-- a list of places that is seen -/
def Pl (w : World) (a : Option Addr) (len : Nat) (l : List (Int × Int)) : Prop := l.length = len ∧ (0 < len → ∃ b off, a = some ⟨b, off, none⟩ ∧ b < w.heap.size ∧ ∀ k, k < len → w.cell? ⟨b, off + k * 2, none⟩ = some (.int .i64 (l.getD k (0, 0)).1) ∧ w.cell? ⟨b, off + k * 2 + 1, none⟩ = some (.int .i64 (l.getD k (0, 0)).2))
theorem Pl.later {w w' : World} {a : Option Addr} {len : Nat} {l : List (Int × Int)} (h : Pl w a len l) (hb : Below w.heap.size w w') : Pl w' a len l := by
  refine ⟨h.1, fun q => ?_⟩
  obtain ⟨b, off, e, hlt, hc⟩ := h.2 q
  exact ⟨b, off, e, Nat.lt_of_lt_of_le hlt hb.size, fun k hk => ⟨(hb.cell (p := ⟨b, off + k * 2, none⟩) hlt).trans (hc k hk).1, (hb.cell (p := ⟨b, off + k * 2 + 1, none⟩) hlt).trans (hc k hk).2⟩⟩
theorem Pl.of_block {w w' : World} {a : Option Addr} {len : Nat} {l : List (Int × Int)} (h : Pl w a len l) (hs : w.heap.size ≤ w'.heap.size) (hk : ∀ ad, a = some ad → 0 < len → w'.heap[ad.block]? = w.heap[ad.block]?) : Pl w' a len l := by
  refine ⟨h.1, fun q => ?_⟩
  obtain ⟨b, off, e, hlt, hc⟩ := h.2 q
  have eb := hk _ e q
  exact ⟨b, off, e, Nat.lt_of_lt_of_le hlt hs, fun k hk => ⟨(World.cell?_of_block (a := ⟨b, off + k * 2, none⟩) eb).trans (hc k hk).1, (World.cell?_of_block (a := ⟨b, off + k * 2 + 1, none⟩) eb).trans (hc k hk).2⟩⟩
theorem Pl.nil (w : World) : Pl w none 0 [] := ⟨rfl, fun q => absurd q (by decide)⟩
end Go.Proofs.YtfjhjjikaodadagDoor.Tok
