/-
  A slice of slices of numbers among the arguments, as the reader reads it, seen by its numbers.
-/
import Derived.Test.YtpjoaogiaacikakGreatDoorMgA
import Derived.ProofKit
import Derived.OpenShut
import Derived.ChangeOld
import Derived.Deep.Matrix
namespace Go.Proofs.YtpjoaogiaacikakGreatDoor.Vec
open Go.RowKit Go.ChangeShapes Go.WideShapes Go.Deep

/-- lists of numbers, each seen -/
def Rw (w : World) (a : Option Addr) (n : Nat) (ls : List (List Int)) : Prop :=
  ls.length = n ∧ n ≤ maxLen ∧ (0 < n → ∃ b off, a = some ⟨b, off, none⟩ ∧ b < w.heap.size ∧ ∀ k, k < n → ∃ q c, w.cell? ⟨b, off + k, none⟩ = some (.slice q (ls.getD k []).length c) ∧ Vw w q (ls.getD k []).length (ls.getD k []) ∧ (ls.getD k []).length ≤ maxLen)
theorem Rw.later {w w' : World} {a : Option Addr} {n : Nat} {ls : List (List Int)} (g : Rw w a n ls) (hb : Below w.heap.size w w') : Rw w' a n ls := by
  refine ⟨g.1, g.2.1, fun hn => ?_⟩
  obtain ⟨b, off, e, hlt, hc⟩ := g.2.2 hn
  refine ⟨b, off, e, Nat.lt_of_lt_of_le hlt hb.size, fun k hk => ?_⟩
  obtain ⟨q, c, h1, h2, h3⟩ := hc k hk
  exact ⟨q, c, (hb.cell (p := ⟨b, off + k, none⟩) hlt).trans h1, h2.later hb, h3⟩
/-- numbers that are of 64 bits -/
def Wf (ls : List (List Int)) : Prop := ∀ k j, (Lit.int .i64 ((ls.getD k []).getD j 0)).wf = true
theorem wf_get {l : List Int} (h : ∀ n ∈ l, (Lit.int .i64 n).wf = true) {j : Nat} : (Lit.int .i64 (l.getD j 0)).wf = true := by
  by_cases q : j < l.length
  · rw [show l.getD j 0 = l[j] by simp [List.getD, q]]
    exact h _ (List.getElem_mem q)
  · rw [show l.getD j 0 = 0 by simp [List.getD, Nat.le_of_not_lt q]]
    decide
theorem rows_wf {H : Type} {enc : TypeId × Value → H} {W : World} {a : Option Addr} {len cap : Nat} {d : DataW H} {p : List MemPlace}
    (h : DataW.Trod enc Tryz.prog W 0 (fun _ => true) true 22 (.slice a len cap) d p) : ∃ ls, Rw W a len ls ∧ Wf ls := by
  obtain ⟨fuel, hf⟩ := h
  rcases open_int_rows (e := 30) (q := 3) (k := .i64) Tryz.underlying22 Tryz.underlying30 Tryz.underlying3 (by kernel_rfl) (by kernel_rfl) hf with ⟨hcs, _⟩ | ⟨ad, l, c, A, L, C, Z, hcs, _, hl, hm, _, hx⟩
  · simp [Value.cells] at hcs
    obtain ⟨rfl, rfl, rfl⟩ := hcs
    exact ⟨[], ⟨rfl, by unfold maxLen; omega, fun h => absurd h (by omega)⟩, fun k j => by simp [List.getD]; decide⟩
  · simp [Value.cells] at hcs
    obtain ⟨rfl, rfl, rfl⟩ := hcs
    refine ⟨(List.range len).map fun r => (Z r).take (L r), ⟨by simp, by omega, fun h0 => ?_⟩, fun k j => ?_⟩
    rotate_left
    · refine wf_get fun n hn => ?_
      by_cases hk : k < len
      · have e : ((List.range len).map fun r => (Z r).take (L r)).getD k [] = (Z k).take (L k) := by simp [List.getD, hk]
        rw [e] at hn
        exact (hx k (by omega)).2.2.2.2.1 n (List.mem_of_mem_take hn)
      · have e : ((List.range len).map fun r => (Z r).take (L r)).getD k [] = [] := by simp [List.getD, hk]
        rw [e] at hn
        cases hn
    obtain ⟨b, off, spot⟩ := ad
    have k0 := (hx 0 (by omega)).1
    have hs : spot = none := by simpa [Addr.add] using World.cell?_spot k0
    subst hs
    refine ⟨b, off, rfl, ?_, fun k hk => ?_⟩
    · have := block_lt_of_cell k0
      simpa [Addr.add] using this
    · obtain ⟨g0, g1, g2, g3, _, g5, g6⟩ := hx k (by omega)
      have e : ((List.range len).map fun r => (Z r).take (L r)).getD k [] = (Z k).take (L k) := by simp [List.getD, hk]
      have el : ((Z k).take (L k)).length = L k := by rw [List.length_take]; omega
      rw [e, el]
      rw [Addr.add_lit] at g0
      refine ⟨A k, C k, g0, ⟨el, fun hp => ?_⟩, by omega⟩
      cases ha : A k with
      | none => have := g5 ha; omega
      | some a' =>
        obtain ⟨_, hc⟩ := g6 a' ha
        obtain ⟨b', off', spot'⟩ := a'
        have q0 := hc 0 (by omega)
        have hs' : spot' = none := by simpa [Addr.add] using World.cell?_spot q0
        subst hs'
        refine ⟨b', off', rfl, ?_, fun j hj => ?_⟩
        · have := block_lt_of_cell q0
          simpa [Addr.add] using this
        · have := hc j (by omega)
          rw [Addr.add_lit] at this
          rw [this]
          simp [List.getD, hj]
theorem rows_of {H : Type} {enc : TypeId × Value → H} {W : World} {a : Option Addr} {len cap : Nat} {d : DataW H} {p : List MemPlace}
    (h : DataW.Trod enc Tryz.prog W 0 (fun _ => true) true 22 (.slice a len cap) d p) : ∃ ls, Rw W a len ls := by
  obtain ⟨ls, h, _⟩ := rows_wf h
  exact ⟨ls, h⟩
end Go.Proofs.YtpjoaogiaacikakGreatDoor.Vec
