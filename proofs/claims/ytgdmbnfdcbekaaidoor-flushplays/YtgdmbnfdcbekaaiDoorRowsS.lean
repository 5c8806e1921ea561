/-
  A slice of slices of numbers among the arguments, each with the room that it has.
-/
import Derived.Test.YtgdmbnfdcbekaaiDoorRowsF
import Derived.Test.YtgdmbnfdcbekaaiDoorLdrE
namespace Go.Proofs.YtgdmbnfdcbekaaiDoor.Vec
open Go.RowKit Go.ChangeShapes Go.WideShapes Go.Deep
open Go.Proofs.YtgdmbnfdcbekaaiDoor.Ldr (Sl)

/-- lists of numbers, each seen with its room -/
def Rs (w : World) (a : Option Addr) (n : Nat) (ls : List (List Int)) : Prop :=
  ls.length = n ∧ n ≤ maxLen ∧ (0 < n → ∃ b off, a = some ⟨b, off, none⟩ ∧ b < w.heap.size ∧ ∀ k, k < n → ∃ q c, w.cell? ⟨b, off + k, none⟩ = some (.slice q (ls.getD k []).length c) ∧ Sl w (.slice q (ls.getD k []).length c) (ls.getD k []))
theorem Rs.later {w w' : World} {a : Option Addr} {n : Nat} {ls : List (List Int)} (g : Rs w a n ls) (hb : Below w.heap.size w w') : Rs w' a n ls := by
  refine ⟨g.1, g.2.1, fun hn => ?_⟩
  obtain ⟨b, off, e, hlt, hc⟩ := g.2.2 hn
  refine ⟨b, off, e, Nat.lt_of_lt_of_le hlt hb.size, fun k hk => ?_⟩
  obtain ⟨q, c, h1, h2⟩ := hc k hk
  exact ⟨q, c, (hb.cell (p := ⟨b, off + k, none⟩) hlt).trans h1, h2.later hb⟩
theorem srows_of {H : Type} {enc : TypeId × Value → H} {W : World} {a : Option Addr} {len cap : Nat} {d : DataW H} {p : List MemPlace}
    (h : DataW.Trod enc Tryd.prog W 0 (fun _ => true) true 37 (.slice a len cap) d p) : ∃ ls, Rs W a len ls := by
  obtain ⟨fuel, hf⟩ := h
  rcases open_int_rows (e := 28) (q := 3) (k := .i64) Tryd.underlying37 Tryd.underlying28 Tryd.underlying3 (by kernel_rfl) (by kernel_rfl) hf with ⟨hcs, _⟩ | ⟨ad, l, c, A, L, C, Z, hcs, _, hl, hm, _, hx⟩
  · simp [Value.cells] at hcs
    obtain ⟨rfl, rfl, rfl⟩ := hcs
    exact ⟨[], rfl, by unfold maxLen; omega, fun h => absurd h (by omega)⟩
  · simp [Value.cells] at hcs
    obtain ⟨rfl, rfl, rfl⟩ := hcs
    refine ⟨(List.range len).map fun r => (Z r).take (L r), by simp, by omega, fun h0 => ?_⟩
    obtain ⟨b, off, spot⟩ := ad
    have k0 := (hx 0 (by omega)).1
    have hs : spot = none := by simpa [Addr.add] using World.cell?_spot k0
    subst hs
    refine ⟨b, off, rfl, ?_, fun k hk => ?_⟩
    · have := block_lt_of_cell k0
      simpa [Addr.add] using this
    · obtain ⟨g0, g1, g2, g3, _, g5, g6⟩ := hx k (by omega)
      have e : ((List.range len).map fun r => (Z r).take (L r)).getD k [] = (Z k).take (L k) := by simp [List.getD, hk]
      have el : ((Z k).take (L k)).length = L k := by rw [List.length_take]; omega
      rw [e, el]
      rw [Addr.add_lit] at g0
      refine ⟨A k, C k, g0, A k, C k, by rw [el], by rw [el]; omega, by omega, by rw [el], fun hp => ?_⟩
      rw [el] at hp
      cases ha : A k with
      | none => have := g5 ha; omega
      | some a' =>
        obtain ⟨_, hc⟩ := g6 a' ha
        obtain ⟨b', off', spot'⟩ := a'
        have q0 := hc 0 (by omega)
        have hs' : spot' = none := by simpa [Addr.add] using World.cell?_spot q0
        subst hs'
        refine ⟨b', off', rfl, ?_, fun j hj => ?_⟩
        · have := block_lt_of_cell q0
          simpa [Addr.add] using this
        · rw [el] at hj
          have := hc j (by omega)
          rw [Addr.add_lit] at this
          rw [this]
          simp [List.getD, hj]
end Go.Proofs.YtgdmbnfdcbekaaiDoor.Vec
