/-
  Plain facts on views: what is wrong with one, the next one, a chain, who is in both.
-/
import Derived.WalkKit
namespace Go.Proofs.YtgdmbnfdcbekaaiDoor.Viw
set_option linter.unusedVariables false

/-- a view: its number, and who is in it -/
structure Vi where
  n : Int
  has : List Int
/-- what is wrong at a place -/
def hasAt (l : List Int) (i : Nat) : Int := if l.getD i 0 < 0 ∨ 4 < l.getD i 0 then 1 else if 0 < i ∧ l.getD i 0 ≤ l.getD (i - 1) 0 then 3 else 0
/-- the first fault of the first so many places -/
def scan (f : Nat → Int) : Nat → Int
  | 0 => 0
  | k + 1 => if scan f k = 0 then f k else scan f k
theorem scan_ok {f : Nat → Int} {k : Nat} : scan f k = 0 ↔ ∀ i, i < k → f i = 0 := by
  induction k with
  | zero => exact ⟨fun _ i hi => absurd hi (by omega), fun _ => rfl⟩
  | succ k ih =>
    unfold scan
    constructor
    · intro h i hi
      by_cases q : scan f k = 0
      · rw [if_pos q] at h
        by_cases e : i = k
        · rw [e]; exact h
        · exact ih.1 q i (by omega)
      · rw [if_neg q] at h
        exact absurd h q
    · intro h
      rw [if_pos (ih.2 fun i hi => h i (by omega))]
      exact h k (by omega)
theorem scan_at {f : Nat → Int} {j k : Nat} (hj : j < k) (h : ∀ i, i < j → f i = 0) (hf : f j ≠ 0) : scan f k = f j := by
  induction k with
  | zero => omega
  | succ k ih =>
    unfold scan
    by_cases e : j = k
    · rw [if_pos (scan_ok.2 (by rw [← e]; exact h)), e]
    · rw [ih (by omega), if_neg hf]
theorem scan_eq {f g : Nat → Int} {k : Nat} (h : ∀ i, i < k → f i = g i) : scan f k = scan g k := by
  induction k with
  | zero => rfl
  | succ k ih => unfold scan; rw [ih fun i hi => h i (by omega), h k (by omega)]
def hasC (l : List Int) : Int := if l.length = 0 then 5 else scan (hasAt l) l.length
def viewC (v : Vi) : Int := if v.n < 0 ∨ 1000000 < v.n then 1 else hasC v.has
/-- who of one is in another, too -/
def shared (a b : List Int) : List Int := a.filter fun x => decide (x ∈ b)
/-- not more than half of those ahead -/
def few (a b : List Int) : Bool := decide (2 * (shared a b).length ≤ a.length)
def nxC (v : Vi) (has : List Int) : Int := if v.n = 1000000 then 4 else if hasC has = 0 then (if few v.has has = true then 8 else 0) else hasC has
def nextC (v : Vi) (has : List Int) : Int := if viewC v = 0 then nxC v has else viewC v
def nextV (v : Vi) (has : List Int) : Vi := if nextC v has = 0 then ⟨v.n + 1, has⟩ else ⟨0, []⟩
def noV : Vi := ⟨0, []⟩
def vw (l : List Vi) (i : Nat) : Vi := l.getD i noV
/-- what is wrong with a view of a chain -/
def chAt (l : List Vi) (i : Nat) : Int := if viewC (vw l i) = 0 then (if i = 0 then 0 else if (vw l i).n = (vw l (i - 1)).n + 1 then (if few (vw l (i - 1)).has (vw l i).has = true then 8 else 0) else 3) else viewC (vw l i)
/-- at which it is: 0 if at none -/
def at_ (f : Nat → Int) : Nat → Nat
  | 0 => 0
  | k + 1 => if scan f k = 0 then (if f k = 0 then 0 else k) else at_ f k
theorem at_ok {f : Nat → Int} {k : Nat} (h : scan f k = 0) : at_ f k = 0 := by
  induction k with
  | zero => rfl
  | succ k ih =>
    have h' := scan_ok.1 h
    unfold at_
    rw [if_pos (scan_ok.2 fun i hi => h' i (by omega)), if_pos (h' k (by omega))]
theorem at_at {f : Nat → Int} {j k : Nat} (hj : j < k) (h : ∀ i, i < j → f i = 0) (hf : f j ≠ 0) : at_ f k = j := by
  induction k with
  | zero => omega
  | succ k ih =>
    unfold at_
    by_cases e : j = k
    · rw [if_pos (scan_ok.2 (by rw [← e]; exact h)), ← e, if_neg hf]
    · rw [if_neg (fun q => hf (scan_ok.1 q j (by omega))), ih (by omega)]
def chC (l : List Vi) : Int := if 60 < l.length then 4 else scan (chAt l) l.length
def chN (l : List Vi) : Nat := if 60 < l.length then 0 else at_ (chAt l) l.length
def bothC (a b : Vi) : Int := if viewC a = 0 then viewC b else viewC a
def bothL (a b : Vi) : List Int := if bothC a b = 0 then shared a.has b.has else []
/-! facts -/
theorem shared_len (a b : List Int) : (shared a b).length ≤ a.length := List.length_filter_le _ _
/-- two that each have more than half have somebody in common -/
theorem two_half (v : List Int) (p q : Int → Bool) (h : v.length < (v.filter p).length + (v.filter q).length) : ∃ x ∈ v, p x = true ∧ q x = true := by
  induction v with
  | nil => simp at h
  | cons x v ih =>
    by_cases e : p x = true ∧ q x = true
    · exact ⟨x, List.mem_cons_self, e.1, e.2⟩
    · have h1 : v.length < (v.filter p).length + (v.filter q).length := by
        rw [List.filter_cons, List.filter_cons] at h
        cases hp : p x <;> cases hq : q x <;> simp [hp, hq] at h e <;> omega
      obtain ⟨y, hy, a, b⟩ := ih h1
      exact ⟨y, List.mem_cons_of_mem _ hy, a, b⟩
theorem view_ok {v : Vi} (h : viewC v = 0) : (0 ≤ v.n ∧ v.n ≤ 1000000) ∧ hasC v.has = 0 := by
  unfold viewC at h
  split at h
  · cases h
  · exact ⟨by omega, h⟩
theorem has_ok {l : List Int} (h : hasC l = 0) : 0 < l.length ∧ ∀ i, i < l.length → hasAt l i = 0 := by
  unfold hasC at h
  split at h
  · cases h
  · exact ⟨by omega, scan_ok.1 h⟩
theorem hasAt_ok {l : List Int} {i : Nat} (h : hasAt l i = 0) : (0 ≤ l.getD i 0 ∧ l.getD i 0 ≤ 4) ∧ (0 < i → l.getD (i - 1) 0 < l.getD i 0) := by
  unfold hasAt at h
  split at h
  · cases h
  · split at h
    · cases h
    · rename_i q1 q2
      exact ⟨by omega, fun z => by omega⟩
/-- no more than five -/
theorem has_le {l : List Int} (h : hasC l = 0) : l.length ≤ 5 := by
  obtain ⟨_, h2⟩ := has_ok h
  have key : ∀ i, i < l.length → (i : Int) ≤ l.getD i 0 := by
    intro i
    induction i with
    | zero => intro hi; have := (hasAt_ok (h2 0 hi)).1; omega
    | succ i ih =>
      intro hi
      have h3 := ih (by omega)
      have h4 := (hasAt_ok (h2 (i + 1) hi)).2 (by omega)
      rw [show i + 1 - 1 = i by omega] at h4
      omega
  refine Decidable.byContradiction fun z => ?_
  have h5 := key 5 (by omega)
  have := (hasAt_ok (h2 5 (by omega))).1
  omega
theorem next_ok {v : Vi} {has : List Int} (h : nextC v has = 0) : viewC v = 0 ∧ v.n < 1000000 ∧ hasC has = 0 ∧ few v.has has = false := by
  unfold nextC at h
  split at h
  · rename_i hv
    unfold nxC at h
    split at h
    · cases h
    · split at h
      · split at h
        · cases h
        · rename_i q1 q2 q3
          have := (view_ok hv).1
          exact ⟨hv, by omega, q2, by simpa using q3⟩
      · rename_i q2
        exact absurd h q2
  · rename_i q
    exact absurd h q
theorem next_is {v : Vi} {has : List Int} (h : nextC v has = 0) : nextV v has = ⟨v.n + 1, has⟩ := if_pos h
theorem next_view {v : Vi} {has : List Int} (h : nextC v has = 0) : viewC (nextV v has) = 0 := by
  obtain ⟨h1, h2, h3, h4⟩ := next_ok h
  have := (view_ok h1).1
  rw [next_is h]
  unfold viewC
  rw [if_neg (by show ¬ (v.n + 1 < 0 ∨ 1000000 < v.n + 1); omega)]
  exact h3
theorem few_no {a b : List Int} (h : few a b = false) : a.length < 2 * (shared a b).length := by
  have := of_decide_eq_false h
  omega
/-- who can be next has somebody of the one ahead, and the two are a chain -/
theorem one_next {v : Vi} {a : List Int} (h : nextC v a = 0) : bothC v (nextV v a) = 0 ∧ 0 < (bothL v (nextV v a)).length ∧ chC [v, nextV v a] = 0 ∧ chN [v, nextV v a] = 0 ∧ (nextV v a).n = v.n + 1 := by
  obtain ⟨h1, h2, h3, h4⟩ := next_ok h
  have hb : bothC v (nextV v a) = 0 := by
    unfold bothC
    rw [if_pos h1]
    exact next_view h
  have hf := few_no h4
  have e : nextV v a = ⟨v.n + 1, a⟩ := next_is h
  have hs : scan (chAt [v, nextV v a]) 2 = 0 := by
    refine scan_ok.2 fun i hi => ?_
    rcases (show i = 0 ∨ i = 1 by omega) with rfl | rfl
    · show (if viewC v = 0 then (if (0 : Nat) = 0 then (0 : Int) else _) else _) = 0
      rw [if_pos h1, if_pos rfl]
    · show (if viewC (nextV v a) = 0 then (if (1 : Nat) = 0 then (0 : Int) else if (nextV v a).n = v.n + 1 then (if few v.has (nextV v a).has = true then 8 else 0) else 3) else _) = 0
      rw [if_pos (next_view h), if_neg (by decide), e, if_pos rfl, h4]
      rfl
  refine ⟨hb, ?_, ?_, ?_, by rw [e]⟩
  · unfold bothL
    rw [if_pos hb, e]
    show 0 < (shared v.has a).length
    omega
  · unfold chC
    exact (if_neg (by simp)).trans hs
  · unfold chN
    exact (if_neg (by simp)).trans (at_ok hs)
/-- no two apart go on -/
theorem one_two {v : Vi} {a b : List Int} (h : nextC v a = 0) (h' : nextC v b = 0) : bothC (nextV v a) (nextV v b) = 0 ∧ 0 < (bothL (nextV v a) (nextV v b)).length := by
  have hb : bothC (nextV v a) (nextV v b) = 0 := by
    unfold bothC
    rw [if_pos (next_view h)]
    exact next_view h'
  refine ⟨hb, ?_⟩
  unfold bothL
  rw [if_pos hb, next_is h, next_is h']
  show 0 < (shared a b).length
  have f1 := few_no (next_ok h).2.2.2
  have f2 := few_no (next_ok h').2.2.2
  obtain ⟨x, _, h1, h2⟩ := two_half v.has _ _ (show v.has.length < (shared v.has a).length + (shared v.has b).length by omega)
  exact List.length_pos_of_mem (List.mem_filter.2 ⟨of_decide_eq_true h1, h2⟩)
theorem shared_self (a : List Int) : shared a a = a := List.filter_eq_self.2 fun x hx => decide_eq_true hx
/-- the same members again and again -/
def alls (has : List Int) (k : Nat) : List Vi := (List.range k).map fun (i : Nat) => ⟨(i : Int), has⟩
theorem alls_len (has : List Int) (k : Nat) : (alls has k).length = k := by simp [alls]
theorem alls_vw (has : List Int) {i k : Nat} (h : i < k) : vw (alls has k) i = ⟨(i : Int), has⟩ := by simp [vw, alls, List.getD, h]
theorem alls_succ (has : List Int) (k : Nat) : alls has (k + 1) = alls has k ++ [⟨(k : Int), has⟩] := by simp [alls, List.range_succ]
theorem all_view {has : List Int} (h : hasC has = 0) {i : Nat} (hi : i ≤ 100) : viewC ⟨(i : Int), has⟩ = 0 := by
  unfold viewC
  exact (if_neg (by show ¬ ((i : Int) < 0 ∨ 1000000 < (i : Int)); omega)).trans h
theorem all_few {has : List Int} (h : hasC has = 0) : few has has = false := by
  have := (has_ok h).1
  unfold few
  rw [shared_self]
  exact decide_eq_false (by omega)
theorem all_next {has : List Int} (h : hasC has = 0) {i : Nat} (hi : i ≤ 100) : nextC ⟨(i : Int), has⟩ has = 0 ∧ nextV ⟨(i : Int), has⟩ has = ⟨((i + 1 : Nat) : Int), has⟩ := by
  have e : nextC ⟨(i : Int), has⟩ has = 0 := by
    unfold nextC
    rw [if_pos (all_view h hi)]
    unfold nxC
    rw [if_neg (by show ¬ (i : Int) = 1000000; omega), if_pos h, all_few h]
    rfl
  refine ⟨e, ?_⟩
  rw [next_is e]
  rfl
theorem all_chain {has : List Int} (h : hasC has = 0) {k : Nat} (hk : k ≤ 51) : chC (alls has k) = 0 := by
  unfold chC
  rw [alls_len, if_neg (by omega)]
  refine scan_ok.2 fun i hi => ?_
  unfold chAt
  rw [alls_vw has hi, if_pos (all_view h (by omega))]
  by_cases e : i = 0
  · rw [if_pos e]
  · rw [if_neg e, alls_vw has (show i - 1 < k by omega)]
    rw [if_pos (by show (i : Int) = ((i - 1 : Nat) : Int) + 1; omega), all_few h]
    rfl
theorem next_none : nextC noV [] = 5 := rfl
end Go.Proofs.YtgdmbnfdcbekaaiDoor.Viw
