/-
  Small facts for the walk of VectorTells: a row that an append has made is seen by its numbers, and so it is behind one store.
-/
import Derived.Test.YtcmfhlegpgmakaaDoorRef
import Derived.Test.YtcmfhlegpgmakaaDoorTold
import Derived.Deep.AppendLies
namespace Go.Proofs.YtcmfhlegpgmakaaDoor.Vec
open Go.RowKit

theorem news_of_vw {w : World} {p off : Nat} {xs : List Int} (h : Vw w (some ⟨p, off, none⟩) 5 xs) : ∀ j u, (xs.map (Value.int .i64))[j]? = some u → w.cell? ((⟨p, off, none⟩ : Addr).add j) = some u := by
  intro j u hj
  obtain ⟨p', off', e, _, hc⟩ := h.2 (by omega)
  injection e with e
  injection e with e1 e2 _
  subst e1 e2
  rw [List.getElem?_map] at hj
  cases hx : xs[j]? with
  | none => rw [hx] at hj; cases hj
  | some x =>
    rw [hx] at hj
    have hl : j < 5 := by
      have := (List.getElem?_eq_some_iff.1 hx).1
      have := h.1
      omega
    rw [Addr.add_lit, hc j hl]
    simpa [hx] using hj

theorem ints_one (xs : List Int) : ∀ u ∈ xs.map (Value.int .i64), u.oneCell' = true := by
  intro u hu
  obtain ⟨x, _, rfl⟩ := List.mem_map.1 hu
  rfl

theorem own_cells {w : World} {base g cap k : Nat} {t : TypeId} {xs : List Int} (h : w.ownsRow base t 1 (.slice (some ⟨g, 0, none⟩) k cap) k (xs.map (Value.int .i64))) : ∀ j, j < k → w.cell? ⟨g, j, none⟩ = some (.int .i64 (xs.getD j 0)) ∧ w.frozen? ⟨g, j, none⟩ = false := by
  intro j hj
  obtain ⟨h1, h2⟩ := h
  rcases h2 with ⟨h2, _⟩ | ⟨g', cap', cur, hv, _, hh, _, _, hsz, ht⟩
  · cases h2
  · injection hv with hv _ _
    injection hv with hv
    injection hv with hv _ _
    subst hv
    simp only [Nat.mul_one, List.length_map] at h1 ht
    have hcur : cur.toList[j]? = some (.int .i64 (xs.getD j 0)) := by
      have : (cur.toList.take k)[j]? = (xs.map (Value.int .i64))[j]? := by rw [ht]
      rw [List.getElem?_take_of_lt hj, List.getElem?_map] at this
      rw [this]
      have : j < xs.length := by omega
      simp [this]
    have hlt : j < cur.size := by
      have := (List.getElem?_eq_some_iff.1 hcur).1
      simpa using this
    refine ⟨?_, ?_⟩
    · simp only [World.cell?, hh]
      simpa using hcur
    · simp [World.frozen?, hh]

theorem vw_of_own {w : World} {base g cap : Nat} {t : TypeId} {xs : List Int} (hl : xs.length = 5) (h : w.ownsRow base t 1 (.slice (some ⟨g, 0, none⟩) 5 cap) 5 (xs.map (Value.int .i64))) : Vw w (some ⟨g, 0, none⟩) 5 xs :=
  ⟨hl, fun _ => ⟨g, 0, rfl, block_lt_of_cell (own_cells h 0 (by omega)).1, fun k hk => by rw [Nat.zero_add]; exact (own_cells h k hk).1⟩⟩

theorem vw_set {w : World} {g n : Nat} {xs : List Int} {x : Int} (h : Vw w (some ⟨g, 0, none⟩) 5 xs) (hn : n < 5) (hx : x = xs.getD n 0 + 1) : Vw (w.setCell ⟨g, n, none⟩ (.int .i64 x)) (some ⟨g, 0, none⟩) 5 (stepL xs n) := by
  have hl := h.1
  obtain ⟨p', off', e, hlt, hc⟩ := h.2 (by omega)
  injection e with e
  injection e with e1 e2 _
  subst e1 e2
  refine ⟨by simp [stepL, hl], fun _ => ⟨g, 0, rfl, by simpa [World.setCell] using hlt, fun k hk => ?_⟩⟩
  rw [stepL_get hl hk]
  have h1 := hc k hk
  simp only [Nat.zero_add] at h1 ⊢
  by_cases e : k = n
  · subst e
    rw [if_pos rfl, ← hx]
    exact World.cell?_setCell_same _ _ _ h1
  · rw [if_neg e, World.cell?_setCell_other _ _ _ _ (by intro q; injection q; omega)]
    exact h1

theorem nil_vw (w : World) : Vw w none 0 [] := ⟨rfl, fun h => absurd h (by omega)⟩

theorem take_joinL {xs ys : List Int} {k : Nat} (hk : k < 5) : ((joinL xs ys).take (k + 1)).map (Value.int .i64) = ((joinL xs ys).take k).map (Value.int .i64) ++ [.int .i64 (max (xs.getD k 0) (ys.getD k 0))] := by
  have hl : k < (joinL xs ys).length := by rw [joinL_len]; exact hk
  rw [List.take_succ_eq_append_getElem hl, List.map_append]
  congr 1
  have := joinL_get xs ys hk
  simp only [List.getD_eq_getElem?_getD, List.getElem?_eq_getElem hl, Option.getD_some] at this
  simp [this]

theorem code2_left {xs ys : List Int} (h : code xs ≠ 0) : code2 xs ys = code xs := if_neg h

end Go.Proofs.YtcmfhlegpgmakaaDoor.Vec
