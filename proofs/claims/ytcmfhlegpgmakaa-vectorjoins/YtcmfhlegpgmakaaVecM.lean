/-
  Plain facts on lists of five numbers: the joined one is above both and the least such, and a step is above and not below.
-/
import Derived.Test.YtcmfhlegpgmakaaVecJ
namespace Go.Proofs.Ytcmfhlegpgmakaa.Vec

theorem anyP_congr {p q : Nat → Bool} (h : ∀ j, j < 5 → p j = q j) : anyP p = anyP q := by
  unfold anyP; rw [h 0 (by omega), h 1 (by omega), h 2 (by omega), h 3 (by omega), h 4 (by omega)]

theorem code_of {xs : List Int} (hl : xs.length = 5) (h : ∀ j, j < 5 → 0 ≤ xs.getD j 0 ∧ xs.getD j 0 ≤ 1000000) : code xs = 0 := by
  have hb : bad xs = false := anyP_false fun j hj => by
    have := h j hj
    simp only [out, Bool.or_eq_false_iff, decide_eq_false_iff_not]
    omega
  simp [code, hl, hb]

theorem joinL_len (xs ys : List Int) : (joinL xs ys).length = 5 := by simp [joinL]
theorem joinL_get (xs ys : List Int) {j : Nat} (hj : j < 5) : (joinL xs ys).getD j 0 = max (xs.getD j 0) (ys.getD j 0) := by
  unfold joinL
  simp [hj]

theorem join_code {xs ys : List Int} (h : code xs = 0) (h' : code ys = 0) : code (joinL xs ys) = 0 :=
  code_of (joinL_len _ _) fun j hj => by
    rw [joinL_get _ _ hj]
    have := code_bd h j hj
    have := code_bd h' j hj
    omega

theorem join_comm (xs ys : List Int) : joinL xs ys = joinL ys xs := by
  unfold joinL
  apply List.map_congr_left
  intro k _
  omega

theorem join_left (xs ys : List Int) : gt xs (joinL xs ys) = false := gt_of fun j hj => by rw [joinL_get _ _ hj]; omega
theorem join_right (xs ys : List Int) : gt ys (joinL xs ys) = false := gt_of fun j hj => by rw [joinL_get _ _ hj]; omega

theorem join_least (xs ys zs : List Int) : gt (joinL xs ys) zs = (gt xs zs || gt ys zs) := by
  have e : gt (joinL xs ys) zs = anyP fun k => decide (zs.getD k 0 < xs.getD k 0) || decide (zs.getD k 0 < ys.getD k 0) :=
    anyP_congr fun j hj => by
      rw [joinL_get _ _ hj, ← Bool.decide_or]
      exact decide_eq_decide.2 (by omega)
  rw [e]
  unfold gt anyP
  simp only []
  generalize decide (zs.getD 0 0 < xs.getD 0 0) = a0
  generalize decide (zs.getD 1 0 < xs.getD 1 0) = a1
  generalize decide (zs.getD 2 0 < xs.getD 2 0) = a2
  generalize decide (zs.getD 3 0 < xs.getD 3 0) = a3
  generalize decide (zs.getD 4 0 < xs.getD 4 0) = a4
  generalize decide (zs.getD 0 0 < ys.getD 0 0) = b0
  generalize decide (zs.getD 1 0 < ys.getD 1 0) = b1
  generalize decide (zs.getD 2 0 < ys.getD 2 0) = b2
  generalize decide (zs.getD 3 0 < ys.getD 3 0) = b3
  generalize decide (zs.getD 4 0 < ys.getD 4 0) = b4
  ac_rfl

theorem step_parts {xs : List Int} {who : Int} (h : stepCode xs who = 0) : code xs = 0 ∧ ∃ n : Nat, who = n ∧ n < 5 ∧ xs.getD n 0 ≠ 1000000 := by
  unfold stepCode at h
  split at h
  · rename_i hc
    split at h
    · omega
    · split at h
      · omega
      · rename_i h1 h2
        refine ⟨hc, who.toNat, by omega, by omega, h2⟩
  · contradiction

theorem stepL_get {xs : List Int} {n : Nat} (hl : xs.length = 5) {j : Nat} (hj : j < 5) : (stepL xs n).getD j 0 = if j = n then xs.getD n 0 + 1 else xs.getD j 0 := by
  unfold stepL
  simp only [Int.toNat_natCast]
  by_cases e : j = n
  · subst e; simp [hl, hj]
  · rw [if_neg e]
    simp [Ne.symm e]

theorem step_code {xs : List Int} {n : Nat} (h : code xs = 0) (hn : n < 5) (hx : xs.getD n 0 ≠ 1000000) : code (stepL xs n) = 0 := by
  have hl := code_len h
  refine code_of (by simp [stepL, hl]) fun j hj => ?_
  rw [stepL_get hl hj]
  have := code_bd h j hj
  have := code_bd h n hn
  split <;> omega

theorem step_up {xs : List Int} {n : Nat} (h : code xs = 0) : gt xs (stepL xs n) = false := gt_of fun j hj => by
  rw [stepL_get (code_len h) hj]
  split
  · rename_i e; subst e; omega
  · omega

theorem step_down {xs : List Int} {n : Nat} (h : code xs = 0) (hn : n < 5) : gt (stepL xs n) xs = true :=
  anyP_true (k := n) hn (decide_eq_true (by rw [stepL_get (code_len h) hn, if_pos rfl]; omega))

theorem code2_right {xs zs : List Int} (h : code xs = 0) : code2 xs zs = code zs := if_pos h

end Go.Proofs.Ytcmfhlegpgmakaa.Vec
