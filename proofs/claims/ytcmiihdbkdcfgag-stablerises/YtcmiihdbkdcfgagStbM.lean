/-
  Plain facts on what all have heard: a row for each member that never falls, the least of all, what may be forgotten.
-/
import Derived.Test.YtcmiihdbkdcfgagHisM
import Derived.Test.YtcmiihdbkdcfgagVecA
namespace Go.Proofs.Ytcmiihdbkdcfgag.Stb
open Go.Proofs.Ytcmiihdbkdcfgag.His (joinR joinR_len getD_joinR leR leR_of leR_get zero5)
set_option linter.unusedVariables false

/-- what is wrong with a vector -/
abbrev vecC (v : List Int) : Int := Vec.code v
theorem vecC_ok {v : List Int} (h : vecC v = 0) : v.length = 5 ∧ ∀ m, 0 ≤ v.getD m 0 ∧ v.getD m 0 ≤ 1000000 := by
  have hl : v.length = 5 := by
    unfold vecC Vec.code at h
    split at h
    · rename_i e; exact e
    · omega
  have hb : Vec.bad v = false := by
    cases hb : Vec.bad v
    · rfl
    · simp [vecC, Vec.code, hl, hb] at h
  refine ⟨hl, fun m => ?_⟩
  by_cases q : m < 5
  · cases ho : Vec.out (v.getD m 0)
    · simp only [Vec.out, Bool.or_eq_false_iff, decide_eq_false_iff_not] at ho
      omega
    · have := Vec.anyP_true (p := fun k => Vec.out (v.getD k 0)) q ho
      unfold Vec.bad at hb
      rw [hb] at this
      exact absurd this (by decide)
  · have e : v.getD m 0 = 0 := by simp [List.getD, show v.length ≤ m by omega]
    rw [e]
    omega
theorem vecC_of {v : List Int} (h1 : v.length = 5) (h2 : ∀ m, 0 ≤ v.getD m 0 ∧ v.getD m 0 ≤ 1000000) : vecC v = 0 := by
  have hb : Vec.bad v = false := Vec.anyP_false fun j hj => by
    have := h2 j
    simp only [Vec.out, Bool.or_eq_false_iff, decide_eq_false_iff_not]
    omega
  simp [vecC, Vec.code, h1, hb]
structure T where
  n : Nat
  r : Nat → List Int
def up {α : Type} (f : Nat → α) (m : Nat) (x : α) : Nat → α := fun i => if i = m then x else f i
theorem up_same {α : Type} (f : Nat → α) (m : Nat) (x : α) : up f m x m = x := if_pos rfl
theorem up_other {α : Type} (f : Nat → α) {m i : Nat} (x : α) (h : i ≠ m) : up f m x i = f i := if_neg h
def start (n : Nat) : T := ⟨n, fun _ => zero5⟩
variable {t : T}
def inC (t : T) (who : Int) : Int := if who < 0 ∨ (t.n : Int) ≤ who then 1 else 0
def toldC (t : T) (who : Int) (v : List Int) : Int := if inC t who ≠ 0 then 1 else vecC v
def told (t : T) (who : Int) (v : List Int) : T := if toldC t who v = 0 then { t with r := up t.r who.toNat (joinR (t.r who.toNat) v) } else t
def rowL (t : T) (who : Int) : List Int := if inC t who = 0 then t.r who.toNat else []
/-- the least of the first so many at a place -/
def mn (t : T) (i : Nat) : Nat → Int
  | 0 => (t.r 0).getD i 0
  | k + 1 => min (mn t i k) ((t.r (k + 1)).getD i 0)
def ls (t : T) (i : Nat) : Int := mn t i (t.n - 1)
def least (t : T) : List Int := [ls t 0, ls t 1, ls t 2, ls t 3, ls t 4]
def mayC (t : T) (who n : Int) : Int := if (who < 0 ∨ (t.n : Int) ≤ who) ∨ n < 0 ∨ 1000000 < n then 1 else 0
def may (t : T) (who n : Int) : Bool := decide (mayC t who n = 0) && decide (n ≤ ls t who.toNat)
structure Inv (t : T) : Prop where
  two : 2 ≤ t.n
  five : t.n ≤ 5
  len : ∀ m, (t.r m).length = 5
  rng : ∀ m i, 0 ≤ (t.r m).getD i 0 ∧ (t.r m).getD i 0 ≤ 1000000
theorem zero5_get (i : Nat) : zero5.getD i 0 = 0 := by
  rcases i with _ | _ | _ | _ | _ | i <;> rfl
theorem Inv.start {n : Nat} (h2 : 2 ≤ n) (h5 : n ≤ 5) : Inv (start n) := ⟨h2, h5, fun _ => rfl, fun m i => by show 0 ≤ zero5.getD i 0 ∧ zero5.getD i 0 ≤ 1000000; rw [zero5_get]; omega⟩
theorem told_ok {who : Int} {v : List Int} (h : toldC t who v = 0) : (0 ≤ who ∧ who < (t.n : Int)) ∧ vecC v = 0 := by
  unfold toldC at h
  split at h
  · omega
  · rename_i q
    unfold inC at q
    by_cases z : who < 0 ∨ (t.n : Int) ≤ who
    · rw [if_pos z] at q; exact absurd (by decide) q
    · exact ⟨by omega, h⟩
theorem told_n (t : T) (who : Int) (v : List Int) : (told t who v).n = t.n := by unfold told; split <;> rfl
/-- what a row is then -/
theorem told_get (hi : Inv t) {who : Int} {v : List Int} (h : toldC t who v = 0) (m i : Nat) : ((told t who v).r m).getD i 0 = if m = who.toNat then max ((t.r m).getD i 0) (v.getD i 0) else (t.r m).getD i 0 := by
  obtain ⟨_, hv⟩ := told_ok h
  unfold told
  rw [if_pos h]
  show (up t.r who.toNat (joinR (t.r who.toNat) v) m).getD i 0 = _
  by_cases e : m = who.toNat
  · rw [if_pos e, e, up_same, getD_joinR _ _ (hi.len _) (vecC_ok hv).1]
  · rw [if_neg e, up_other _ _ e]
theorem Inv.told (hi : Inv t) (who : Int) (v : List Int) : Inv (told t who v) := by
  by_cases h : toldC t who v = 0
  · obtain ⟨_, hv⟩ := told_ok h
    refine ⟨by rw [told_n]; exact hi.two, by rw [told_n]; exact hi.five, fun m => ?_, fun m i => ?_⟩
    · unfold Stb.told
      rw [if_pos h]
      show (up t.r who.toNat (joinR (t.r who.toNat) v) m).length = 5
      by_cases e : m = who.toNat
      · rw [e, up_same]; rfl
      · rw [up_other _ _ e]; exact hi.len m
    · rw [told_get hi h]
      have h1 := hi.rng m i
      have h2 := (vecC_ok hv).2 i
      split <;> omega
  · have : Stb.told t who v = t := if_neg h
    rw [this]
    exact hi
theorem mn_le (t : T) (i : Nat) : ∀ k m, m ≤ k → mn t i k ≤ (t.r m).getD i 0 := by
  intro k
  induction k with
  | zero => intro m hm; rw [show m = 0 by omega]; exact Int.le_refl _
  | succ k ih =>
    intro m hm
    show min (mn t i k) _ ≤ _
    by_cases e : m = k + 1
    · rw [e]; exact Int.min_le_right _ _
    · exact Int.le_trans (Int.min_le_left _ _) (ih m (by omega))
theorem mn_is (t : T) (i : Nat) : ∀ k, ∃ m, m ≤ k ∧ mn t i k = (t.r m).getD i 0 := by
  intro k
  induction k with
  | zero => exact ⟨0, Nat.le_refl _, rfl⟩
  | succ k ih =>
    obtain ⟨m, hm, e⟩ := ih
    by_cases q : mn t i k ≤ (t.r (k + 1)).getD i 0
    · exact ⟨m, by omega, by show min (mn t i k) _ = _; rw [Int.min_eq_left q]; exact e⟩
    · exact ⟨k + 1, Nat.le_refl _, by show min (mn t i k) _ = _; rw [Int.min_eq_right (by omega)]⟩
theorem ls_le (hi : Inv t) {m : Nat} (hm : m < t.n) (i : Nat) : ls t i ≤ (t.r m).getD i 0 := mn_le t i _ m (by have := hi.two; omega)
theorem ls_is (hi : Inv t) (i : Nat) : ∃ m, m < t.n ∧ ls t i = (t.r m).getD i 0 := by
  obtain ⟨m, hm, e⟩ := mn_is t i (t.n - 1)
  exact ⟨m, by have := hi.two; omega, e⟩
theorem least_get (t : T) {i : Nat} (h : i < 5) : (least t).getD i 0 = ls t i := by
  rcases i with _ | _ | _ | _ | _ | i <;> first | rfl | omega
theorem least_len (t : T) : (least t).length = 5 := rfl
theorem least_vec (hi : Inv t) : vecC (least t) = 0 := by
  refine vecC_of rfl fun m => ?_
  by_cases h : m < 5
  · rw [least_get t h]
    obtain ⟨j, _, e⟩ := ls_is hi m
    rw [e]
    exact hi.rng j m
  · have e : (least t).getD m 0 = 0 := by simp [List.getD, least, show 5 ≤ m by omega]
    rw [e]
    omega
theorem row_vec (hi : Inv t) (m : Nat) : vecC (t.r m) = 0 := vecC_of (hi.len m) (hi.rng m)
/-- no row falls, nor does the least of all -/
theorem told_rises (hi : Inv t) (who : Int) (v : List Int) (m i : Nat) : (t.r m).getD i 0 ≤ ((told t who v).r m).getD i 0 := by
  by_cases h : toldC t who v = 0
  · rw [told_get hi h]
    split
    · exact Int.le_max_left _ _
    · exact Int.le_refl _
  · have : told t who v = t := if_neg h
    rw [this]
    exact Int.le_refl _
theorem least_rises (hi : Inv t) (who : Int) (v : List Int) (i : Nat) : ls t i ≤ ls (told t who v) i := by
  obtain ⟨m, hm, e⟩ := ls_is (hi.told who v) i
  rw [told_n] at hm
  rw [e]
  exact Int.le_trans (ls_le hi hm i) (told_rises hi who v m i)
/-- told twice is told once -/
theorem told_twice (hi : Inv t) {who : Int} {v : List Int} (h : toldC t who v = 0) : toldC (told t who v) who v = 0 ∧ told (told t who v) who v = told t who v := by
  have e1 : toldC (told t who v) who v = 0 := by
    have q := h
    unfold toldC inC at q ⊢
    rw [told_n]
    exact q
  refine ⟨e1, ?_⟩
  have hv := (told_ok h).2
  have key : ∀ a : List Int, a.length = 5 → joinR (joinR a v) v = joinR a v := by
    intro a ha
    have h1 := (vecC_ok hv).1
    unfold joinR
    simp [Int.max_assoc]
  have e2 : (told t who v).r who.toNat = joinR (t.r who.toNat) v := by
    unfold told
    rw [if_pos h]
    exact up_same _ _ _
  have e3 : (told (told t who v) who v).r = (told t who v).r := by
    have e4 : told (told t who v) who v = { told t who v with r := up (told t who v).r who.toNat (joinR ((told t who v).r who.toNat) v) } := if_pos e1
    rw [e4]
    funext m
    show up (told t who v).r who.toNat _ m = _
    by_cases e : m = who.toNat
    · rw [e, up_same, e2, key _ (hi.len _)]
    · rw [up_other _ _ e]
  have e5 : (told (told t who v) who v).n = (told t who v).n := told_n _ _ _
  cases q : told (told t who v) who v with
  | mk a b =>
    cases q' : told t who v with
    | mk a' b' =>
      rw [q, q'] at e3 e5
      simp only at e3 e5
      rw [e3, e5]
/-- what may be forgotten all have -/
theorem may_all (hi : Inv t) {who n : Int} (h : may t who n = true) {m : Nat} (hm : m < t.n) : n ≤ (t.r m).getD who.toNat 0 := by
  unfold may at h
  rw [Bool.and_eq_true, decide_eq_true_eq, decide_eq_true_eq] at h
  exact Int.le_trans h.2 (ls_le hi hm _)
theorem in_ok {m : Nat} (h : m < t.n) : inC t (m : Int) = 0 := if_neg (by omega)
theorem row_in {m : Nat} (h : m < t.n) : rowL t (m : Int) = t.r m := by
  unfold rowL
  rw [if_pos (in_ok h), Int.toNat_natCast]
end Go.Proofs.Ytcmiihdbkdcfgag.Stb
