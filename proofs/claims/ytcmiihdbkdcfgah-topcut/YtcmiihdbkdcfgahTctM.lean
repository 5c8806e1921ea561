/-
  Plain facts: a cut that could have been is closed downward: the join of the vectors of the events that it takes counts no more of each member than it takes.
-/
import Derived.Test.YtcmiihdbkdcfgahStbM
namespace Go.Proofs.Ytcmiihdbkdcfgah.Stb
open Go.Proofs.Ytcmiihdbkdcfgah.His
set_option linter.unusedVariables false
variable {h : List Ev} {many : List Int}

/-- is an event taken by the cut -/
def tk (h : List Ev) (many : List Int) (i : Nat) : Bool := decide (own h i ≤ many.getD (W h i) 0)
/-- members below m whole, of m the events below i -/
def seen (h : List Ev) (m i j : Nat) : Prop := W h j < m ∨ (W h j = m ∧ j < i)
/-- how far it is: the join, and the rows that were told -/
structure CJ (h : List Ev) (many : List Int) (m i : Nat) (J : List Int) (t : T) : Prop where
  inv : Inv t
  num : t.n = 5
  len : J.length = 5
  rng : ∀ x, 0 ≤ J.getD x 0 ∧ J.getD x 0 ≤ 1000000
  up : ∀ j, j < h.length → seen h m i j → tk h many j = true → ∀ x, x < 5 → (row h j).getD x 0 ≤ J.getD x 0
  lo : (∀ j, j < h.length → seen h m i j → tk h many j = true → leR (row h j) many = true) → ∀ x, x < 5 → J.getD x 0 ≤ many.getD x 0
  rows : ∀ k x, x < 5 → (t.r k).getD x 0 ≤ J.getD x 0
theorem CJ.begin (hm : ∀ x, x < 5 → 0 ≤ many.getD x 0) : CJ h many 0 0 zero5 (start 5) :=
  { inv := Inv.start (by decide) (by decide), num := rfl, len := rfl, rng := fun x => (by rw [zero5_get]; omega), up := fun j hj hs => (by
      rcases hs with z | z
      · omega
      · omega)
    lo := fun _ x hx => (by rw [zero5_get]; exact hm x hx), rows := fun k x hx => Int.le_refl _ }
/-- an event of another member, or one that is not taken -/
theorem CJ.pass {m i : Nat} {J : List Int} {t : T} (c : CJ h many m i J t) (hq : W h i ≠ m ∨ tk h many i = false) : CJ h many m (i + 1) J t := by
  have key : ∀ j, seen h m (i + 1) j → tk h many j = true → seen h m i j := fun j hs ht => by
    rcases hs with z | ⟨z, y⟩
    · exact .inl z
    · by_cases e : j = i
      · subst e
        rcases hq with q | q
        · exact absurd z q
        · rw [q] at ht; cases ht
      · exact .inr ⟨z, by omega⟩
  exact { inv := c.inv, num := c.num, len := c.len, rng := c.rng, up := fun j hj hs ht => c.up j hj (key j hs ht) ht, lo := fun hx => c.lo fun j hj hs ht => hx j hj (by
    rcases hs with z | ⟨z, y⟩
    · exact .inl z
    · exact .inr ⟨z, by omega⟩) ht, rows := c.rows }
/-- the next event, and it is taken -/
theorem CJ.take {m i : Nat} {J : List Int} {t : T} (c : CJ h many m i J t) (hg : His.Good h h.length) (hi : i < h.length) (hm5 : m < 5) (hw : W h i = m) (ht : tk h many i = true) (h60 : h.length ≤ 60) :
    vecC (row h i) = 0 ∧ toldC t (m : Int) (row h i) = 0 ∧ vecC J = 0 ∧ CJ h many m (i + 1) (joinR J (row h i)) (told t (m : Int) (row h i)) := by
  have hr : ∀ x, 0 ≤ (row h i).getD x 0 ∧ (row h i).getD x 0 ≤ 1000000 := fun x => by
    have h1 := row_nonneg hg hi x
    have h2 := row_le hg hi x
    have h3 := cnt_le h x (i + 1)
    have : ((i + 1 : Nat) : Int) ≤ 60 := by omega
    omega
  have hv : vecC (row h i) = 0 := vecC_of (row_len h i) hr
  have hc : toldC t (m : Int) (row h i) = 0 := by
    unfold toldC
    rw [if_neg (by rw [in_ok (by rw [c.num]; exact hm5)]; decide)]
    exact hv
  have hJ : ∀ x, (joinR J (row h i)).getD x 0 = max (J.getD x 0) ((row h i).getD x 0) := fun x => getD_joinR _ _ c.len (row_len h i) x
  refine ⟨hv, hc, vecC_of c.len c.rng, { inv := c.inv.told _ _, num := (by rw [told_n]; exact c.num), len := rfl, rng := fun x => ?_, up := fun j hj hs hk x hx => ?_, lo := fun hx x hx5 => ?_, rows := fun k x hx => ?_ }⟩
  · rw [hJ]
    have h1 := c.rng x
    have h2 := hr x
    omega
  · rw [hJ]
    by_cases e : j = i
    · subst e
      exact Int.le_max_right _ _
    · have q : seen h m i j := by
        rcases hs with z | ⟨z, y⟩
        · exact .inl z
        · exact .inr ⟨z, by omega⟩
      exact Int.le_trans (c.up j hj q hk x hx) (Int.le_max_left _ _)
  · rw [hJ]
    have h1 := c.lo (fun j hj hs hk => hx j hj (by
      rcases hs with z | ⟨z, y⟩
      · exact .inl z
      · exact .inr ⟨z, by omega⟩) hk) x hx5
    have h2 := leR_get (hx i hi (.inr ⟨hw, by omega⟩) ht) x hx5
    omega
  · rw [hJ, told_get c.inv hc]
    have h1 := c.rows k x hx
    split
    · rename_i e
      omega
    · omega
theorem CJ.next {m i : Nat} {J : List Int} {t : T} (c : CJ h many m i J t) (hi : h.length ≤ i) : CJ h many (m + 1) 0 J t := by
  have key : ∀ j, j < h.length → (seen h (m + 1) 0 j ↔ seen h m i j) := fun j hj => by
    unfold seen
    constructor
    · rintro (z | z)
      · by_cases e : W h j = m
        · exact .inr ⟨e, by omega⟩
        · exact .inl (by omega)
      · omega
    · rintro (z | z)
      · exact .inl (by omega)
      · exact .inl (by omega)
  exact { inv := c.inv, num := c.num, len := c.len, rng := c.rng, up := fun j hj hs => c.up j hj ((key j hj).1 hs), lo := fun hx => c.lo fun j hj hs ht => hx j hj ((key j hj).2 hs) ht, rows := c.rows }
/-- all of it -/
theorem CJ.done {J : List Int} {t : T} {i : Nat} (c : CJ h many 5 i J t) (hg : His.Good h h.length) : vecC J = 0 ∧ leR J many = (List.range h.length).all (cutAt h many) ∧ leR (least t) J = true := by
  have hs : ∀ j, j < h.length → seen h 5 i j := fun j hj => .inl (W_lt hg hj)
  have hat : ∀ j, j < h.length → (cutAt h many j = true ↔ (tk h many j = true → leR (row h j) many = true)) := fun j hj => by
    unfold cutAt tk
    rw [row_self hg hj, Bool.or_eq_true, decide_eq_true_eq, decide_eq_true_eq]
    constructor
    · rintro (z | z) y
      · omega
      · exact z
    · intro z
      by_cases y : own h j ≤ many.getD (W h j) 0
      · exact .inr (z y)
      · exact .inl (by omega)
  refine ⟨vecC_of c.len c.rng, ?_, leR_of fun x hx => ?_⟩
  · rw [Bool.eq_iff_iff, List.all_eq_true]
    constructor
    · intro z j hj
      have hj' := List.mem_range.1 hj
      refine (hat j hj').2 fun ht => leR_of fun x hx => ?_
      exact Int.le_trans (c.up j hj' (hs j hj') ht x hx) (leR_get z x hx)
    · intro z
      exact leR_of fun x hx => c.lo (fun j hj _ ht => (hat j hj).1 (z j (List.mem_range.2 hj)) ht) x hx
  · rw [least_get t hx]
    exact Int.le_trans (ls_le c.inv (m := 0) (by rw [c.num]; omega) x) (c.rows 0 x hx)
/-- counting along: how many events of a member so far -/
theorem own_count {m i : Nat} (hw : W h i = m) : own h i = cnt h m i + 1 := by
  rw [own_eq, hw]
end Go.Proofs.Ytcmiihdbkdcfgah.Stb
