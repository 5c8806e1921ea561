/-
  Plain facts: one who heard nothing holds all back.
-/
import Derived.Test.YtcmiihdbkdcfgahStbE
namespace Go.Proofs.Ytcmiihdbkdcfgah.Stb
open Go.Proofs.Ytcmiihdbkdcfgah.His (joinR joinR_len getD_joinR leR leR_of leR_get zero5)
set_option linter.unusedVariables false

/-- the first so many but one were told the same -/
def so (n who : Nat) (v : List Int) (k : Nat) : T := ⟨n, fun j => if j < k ∧ j ≠ who then v else zero5⟩
theorem so_start (n who : Nat) (v : List Int) : start n = so n who v 0 := by
  have e : (fun j => if j < 0 ∧ j ≠ who then v else zero5) = fun _ => zero5 := by
    funext j
    rw [if_neg (by omega)]
  unfold start so
  rw [e]
theorem five_of {v : List Int} (h : v.length = 5) : v = [v.getD 0 0, v.getD 1 0, v.getD 2 0, v.getD 3 0, v.getD 4 0] := by
  rcases v with _ | ⟨a, _ | ⟨b, _ | ⟨c, _ | ⟨d, _ | ⟨e, _ | ⟨f, v⟩⟩⟩⟩⟩⟩ <;> simp at h ⊢
theorem join_zero {v : List Int} (h : vecC v = 0) : joinR zero5 v = v := by
  obtain ⟨h1, h2⟩ := vecC_ok h
  have e := five_of h1
  have m0 := (h2 0).1
  have m1 := (h2 1).1
  have m2 := (h2 2).1
  have m3 := (h2 3).1
  have m4 := (h2 4).1
  unfold joinR
  simp only [zero5_get]
  rw [Int.max_eq_right m0, Int.max_eq_right m1, Int.max_eq_right m2, Int.max_eq_right m3, Int.max_eq_right m4]
  exact e.symm
theorem join_same {v : List Int} (h : vecC v = 0) : joinR v v = v := by
  obtain ⟨h1, h2⟩ := vecC_ok h
  unfold joinR
  simp only [Int.max_self]
  exact (five_of h1).symm
theorem so_inv {n who : Nat} {v : List Int} (k : Nat) (h2 : 2 ≤ n) (h5 : n ≤ 5) (h : vecC v = 0) : Inv (so n who v k) := by
  obtain ⟨l, r⟩ := vecC_ok h
  refine ⟨h2, h5, fun m => ?_, fun m i => ?_⟩
  · show (if m < k ∧ m ≠ who then v else zero5).length = 5
    split
    · exact l
    · rfl
  · show 0 ≤ (if m < k ∧ m ≠ who then v else zero5).getD i 0 ∧ (if m < k ∧ m ≠ who then v else zero5).getD i 0 ≤ 1000000
    split
    · exact r i
    · rw [zero5_get]; omega
theorem so_told {n who : Nat} {v : List Int} {k : Nat} (hk : k < n) (hw : k ≠ who) (h : vecC v = 0) : toldC (so n who v k) (k : Int) v = 0 ∧ told (so n who v k) (k : Int) v = so n who v (k + 1) := by
  have e : toldC (so n who v k) (k : Int) v = 0 := by
    unfold toldC
    rw [if_neg (by rw [in_ok (t := so n who v k) hk]; decide)]
    exact h
  refine ⟨e, ?_⟩
  unfold told
  rw [if_pos e, Int.toNat_natCast]
  have e0 : (so n who v k).r k = zero5 := if_neg (by omega)
  rw [e0, join_zero h]
  unfold so
  congr 1
  funext j
  unfold up
  by_cases ej : j = k
  · subst ej
    rw [if_pos rfl, if_pos ⟨by omega, hw⟩]
  · rw [if_neg ej]
    show (if j < k ∧ j ≠ who then v else zero5) = _
    by_cases q : j < k ∧ j ≠ who
    · rw [if_pos q, if_pos ⟨by omega, q.2⟩]
    · rw [if_neg q, if_neg (by omega)]
theorem so_skip {n who : Nat} {v : List Int} : so n who v who = so n who v (who + 1) := by
  unfold so
  congr 1
  funext j
  by_cases q : j < who ∧ j ≠ who
  · rw [if_pos q, if_pos ⟨by omega, q.2⟩]
  · rw [if_neg q, if_neg (by omega)]
theorem so_least {n who : Nat} {v : List Int} (hw : who < n) (h2 : 2 ≤ n) (h5 : n ≤ 5) (h : vecC v = 0) : least (so n who v n) = zero5 := by
  have hi := so_inv (who := who) n h2 h5 h
  have key : ∀ i, ls (so n who v n) i = 0 := fun i => by
    have h1 := ls_le hi (m := who) hw i
    have e : ((so n who v n).r who).getD i 0 = 0 := by
      show (if who < n ∧ who ≠ who then v else zero5).getD i 0 = 0
      rw [if_neg (by omega), zero5_get]
    rw [e] at h1
    obtain ⟨m, _, e2⟩ := ls_is hi i
    have := (hi.rng m i).1
    omega
  unfold least
  rw [key, key, key, key, key]
  rfl
theorem so_all {n who : Nat} {v : List Int} (hw : who < n) (h2 : 2 ≤ n) (h5 : n ≤ 5) (h : vecC v = 0) : toldC (so n who v n) (who : Int) v = 0 ∧ least (told (so n who v n) (who : Int) v) = v := by
  have hi := so_inv (who := who) n h2 h5 h
  have e : toldC (so n who v n) (who : Int) v = 0 := by
    unfold toldC
    rw [if_neg (by rw [in_ok (t := so n who v n) hw]; decide)]
    exact h
  refine ⟨e, ?_⟩
  have hr : ∀ m, m < n → (told (so n who v n) (who : Int) v).r m = v := fun m hm => by
    unfold told
    rw [if_pos e, Int.toNat_natCast]
    show up (so n who v n).r who (joinR ((so n who v n).r who) v) m = v
    by_cases em : m = who
    · rw [em, up_same]
      have e0 : (so n who v n).r who = zero5 := if_neg (by omega)
      rw [e0, join_zero h]
    · rw [up_other _ _ em]
      exact if_pos ⟨hm, em⟩
  have key : ∀ i, ls (told (so n who v n) (who : Int) v) i = v.getD i 0 := fun i => by
    obtain ⟨m, hm, e2⟩ := ls_is (hi.told (who : Int) v) i
    rw [told_n] at hm
    rw [e2, hr m hm]
  unfold least
  rw [key, key, key, key, key]
  exact (five_of (vecC_ok h).1).symm
end Go.Proofs.Ytcmiihdbkdcfgah.Stb
