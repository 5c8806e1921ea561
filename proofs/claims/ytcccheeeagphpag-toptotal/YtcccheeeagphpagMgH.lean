/-
  Texts put together: HisM, FacM, HisA, HisB, HisC, RowG, ClkM, ClkA, ClkR, ClkB, OwnV, ClkC.
-/
import Derived.WalkKit
import Derived.Test.YtcccheeeagphpagRows
import Derived.WalkSmall
import Derived.Deep.QuietTactic
import Derived.BigQuiet
import Derived.Deep.RegionWith
import Derived.Deep.OwnRows
import Derived.LoopN
import Derived.Deep.CutRange
import Derived.Deep.RegionHeld3
import Derived.Test.YtcccheeeagphpagMgA
import Derived.Deep.AppendLies
import Derived.WalkLawsBesides

/-
  Plain facts on histories: what each event reaches counts, of each member, what is ahead of it; so one is ahead of another one just if what it reaches is below.
-/
namespace Go.Proofs.Ytcccheeeagphpag.His

abbrev Ev := Int × Int × Int
def ev (h : List Ev) (i : Nat) : Ev := h.getD i (0, 0, 0)
def says (word : Int) (x : Ev) : Bool := decide (x.2.1 = 2) && decide (x.2.2 = word)
def isOne (e : Ev) : Bool := decide (0 ≤ e.1) && decide (e.1 < 5) && ((decide (e.2.1 = 1) && decide (e.2.2 = 0)) || ((decide (e.2.1 = 2) || decide (e.2.1 = 3)) && (decide (1 ≤ e.2.2) && decide (e.2.2 ≤ 30))))
def next (p : List Ev) (e : Ev) : Int :=
  if isOne e = false then 1 else
  if e.2.1 = 2 ∧ p.any (says e.2.2) = true then 7 else
  if e.2.1 ≠ 3 then 0 else
  if p.any (fun y => y == e) = true then 7 else
  if p.any (says e.2.2) = false then 5 else
  if p.any (fun y => y == (e.1, 2, e.2.2)) = true then 3 else 0
def Good (h : List Ev) (n : Nat) : Prop := ∀ i, i < n → next (h.take i) (ev h i) = 0

def W (h : List Ev) (n : Nat) : Nat := (ev h n).1.toNat
def sayAt (h : List Ev) (word : Int) : Nat := h.findIdx (says word)
def zero5 : List Int := [0, 0, 0, 0, 0]
def joinR (a b : List Int) : List Int := [max (a.getD 0 0) (b.getD 0 0), max (a.getD 1 0) (b.getD 1 0), max (a.getD 2 0) (b.getD 2 0), max (a.getD 3 0) (b.getD 3 0), max (a.getD 4 0) (b.getD 4 0)]
def upd (r : List Int) (w : Nat) : List Int := r.set w (r.getD w 0 + 1)
def far (h : List Ev) (n : Nat) (s : List (List Int) × (Nat → List Int)) : List Int :=
  upd (if (ev h n).2.1 = 3 then joinR (s.2 (W h n)) (s.1.getD (sayAt h (ev h n).2.2) zero5) else s.2 (W h n)) (W h n)
def st (h : List Ev) : Nat → List (List Int) × (Nat → List Int)
  | 0 => ([], fun _ => zero5)
  | n + 1 => ((st h n).1 ++ [far h n (st h n)], fun m => if m = W h n then far h n (st h n) else (st h n).2 m)
def row (h : List Ev) (n : Nat) : List Int := far h n (st h n)
def last (h : List Ev) (n m : Nat) : List Int := (st h n).2 m
def cnt (h : List Ev) (m : Nat) : Nat → Int
  | 0 => 0
  | n + 1 => cnt h m n + if W h n = m then 1 else 0

theorem cnt_step (h : List Ev) (m n : Nat) : cnt h m (n + 1) = cnt h m n + if W h n = m then 1 else 0 := rfl
theorem cnt_nonneg (h : List Ev) (m n : Nat) : 0 ≤ cnt h m n := by
  induction n with
  | zero => exact Int.le_refl _
  | succ n ih => rw [cnt_step]; split <;> omega
theorem cnt_le (h : List Ev) (m n : Nat) : cnt h m n ≤ n := by
  induction n with
  | zero => exact Int.le_refl _
  | succ n ih => rw [cnt_step]; split <;> omega
theorem cnt_mono (h : List Ev) (m : Nat) {a b : Nat} (hab : a ≤ b) : cnt h m a ≤ cnt h m b := by
  induction hab with
  | refl => exact Int.le_refl _
  | step _ ih => rw [cnt_step]; split <;> omega
theorem cnt_same (h : List Ev) (m : Nat) {a b : Nat} (hab : a ≤ b) (hn : ∀ j, a ≤ j → j < b → W h j ≠ m) : cnt h m b = cnt h m a := by
  induction hab with
  | refl => rfl
  | @step b hb ih =>
    rw [cnt_step, if_neg (hn b hb (Nat.lt_succ_self b)), ih (fun j h1 h2 => hn j h1 (Nat.lt_succ_of_lt h2))]
    omega
/-- an event's own count -/
def own (h : List Ev) (i : Nat) : Int := cnt h (W h i) (i + 1)
theorem own_eq (h : List Ev) (i : Nat) : own h i = cnt h (W h i) i + 1 := by simp [own, cnt_step]
theorem own_pos (h : List Ev) (i : Nat) : 1 ≤ own h i := by rw [own_eq]; have := cnt_nonneg h (W h i) i; omega
/-- by its own count an event is where it is -/
theorem own_le {h : List Ev} {i n : Nat} (hl : own h i ≤ cnt h (W h i) n) : i < n := by
  rcases Nat.lt_or_ge i n with h1 | h1
  · exact h1
  · have := cnt_mono h (W h i) h1
    rw [own_eq] at hl
    omega
/-- every count up to what there are is some event's own -/
theorem exists_own (h : List Ev) (m n : Nat) (c : Int) (h1 : 1 ≤ c) (h2 : c ≤ cnt h m n) : ∃ i, i < n ∧ W h i = m ∧ own h i = c := by
  induction n with
  | zero => simp [cnt] at h2; omega
  | succ n ih =>
    by_cases hc : c ≤ cnt h m n
    · obtain ⟨i, a, b, d⟩ := ih hc
      exact ⟨i, Nat.lt_succ_of_lt a, b, d⟩
    · rw [cnt_step] at h2
      split at h2
      · rename_i e
        refine ⟨n, Nat.lt_succ_self n, e, ?_⟩
        rw [own_eq, e]
        omega
      · omega

theorem st_len (h : List Ev) (n : Nat) : (st h n).1.length = n := by
  induction n with
  | zero => rfl
  | succ n ih => simp [st, ih]
theorem st_get (h : List Ev) (n j : Nat) (hj : j < n) : (st h n).1.getD j zero5 = row h j := by
  induction n with
  | zero => omega
  | succ n ih =>
    simp only [st]
    rcases Nat.lt_or_ge j n with h1 | h1
    · rw [← ih h1]
      simp [List.getD, List.getElem?_append_left (show j < (st h n).1.length by rw [st_len]; exact h1)]
    · obtain rfl : j = n := by omega
      simp [List.getD, st_len, row]
theorem last_step (h : List Ev) (n m : Nat) : last h (n + 1) m = if m = W h n then row h n else last h n m := rfl
theorem last_spec (h : List Ev) (m n : Nat) :
    (∃ j, j < n ∧ W h j = m ∧ (∀ j', j < j' → j' < n → W h j' ≠ m) ∧ last h n m = row h j) ∨ ((∀ j, j < n → W h j ≠ m) ∧ last h n m = zero5) := by
  induction n with
  | zero => exact .inr ⟨fun j hj => absurd hj (Nat.not_lt_zero _), rfl⟩
  | succ n ih =>
    rw [last_step]
    by_cases hm : m = W h n
    · rw [if_pos hm]
      exact .inl ⟨n, Nat.lt_succ_self n, hm.symm, fun j' h1 h2 => by omega, rfl⟩
    · rw [if_neg hm]
      rcases ih with ⟨j, h1, h2, h3, h4⟩ | ⟨h1, h2⟩
      · refine .inl ⟨j, Nat.lt_succ_of_lt h1, h2, fun j' a b => ?_, h4⟩
        rcases Nat.lt_succ_iff_lt_or_eq.1 b with b | rfl
        · exact h3 j' a b
        · exact fun e => hm e.symm
      · refine .inr ⟨fun j hj => ?_, h2⟩
        rcases Nat.lt_succ_iff_lt_or_eq.1 hj with b | rfl
        · exact h1 j b
        · exact fun e => hm e.symm

/-! what is right -/
theorem good_one {h : List Ev} {N n : Nat} (hg : Good h N) (hn : n < N) : isOne (ev h n) = true := by
  have := hg n hn
  unfold next at this
  cases hb : isOne (ev h n) with
  | true => rfl
  | false => rw [hb, if_pos rfl] at this; omega
theorem isOne_who {e : Ev} (h : isOne e = true) : 0 ≤ e.1 ∧ e.1 < 5 := by
  simp [isOne] at h
  exact h.1
theorem isOne_what {e : Ev} (h : isOne e = true) : (e.2.1 = 1 ∧ e.2.2 = 0) ∨ ((e.2.1 = 2 ∨ e.2.1 = 3) ∧ 1 ≤ e.2.2 ∧ e.2.2 ≤ 30) := by
  simp [isOne] at h
  exact h.2
theorem W_lt {h : List Ev} {N n : Nat} (hg : Good h N) (hn : n < N) : W h n < 5 := by
  have := isOne_who (good_one hg hn)
  unfold W
  omega
theorem W_cast {h : List Ev} {N n : Nat} (hg : Good h N) (hn : n < N) : ((W h n : Nat) : Int) = (ev h n).1 := by
  have := isOne_who (good_one hg hn)
  unfold W
  omega
theorem good_said {h : List Ev} {N n : Nat} (hg : Good h N) (hn : n < N) (h3 : (ev h n).2.1 = 3) : (h.take n).any (says (ev h n).2.2) = true := by
  have := hg n hn
  unfold next at this
  rw [if_neg (by rw [good_one hg hn]; decide), if_neg (by omega), if_neg (by omega)] at this
  split at this
  · omega
  · cases hb : (h.take n).any (says (ev h n).2.2) with
    | true => rfl
    | false => rw [hb, if_pos rfl] at this; omega
theorem sayAt_lt {h : List Ev} {N n : Nat} (hg : Good h N) (hn : n < N) (h3 : (ev h n).2.1 = 3) :
    sayAt h (ev h n).2.2 < n ∧ sayAt h (ev h n).2.2 < h.length ∧ says (ev h n).2.2 (ev h (sayAt h (ev h n).2.2)) = true := by
  have hs := good_said hg hn h3
  obtain ⟨x, hx, hp⟩ := List.any_eq_true.1 hs
  obtain ⟨j, hj, rfl⟩ := List.getElem_of_mem hx
  have hj2 : j < n ∧ j < h.length := by simpa [List.length_take, Nat.lt_min] using hj
  have hp' : says (ev h n).2.2 h[j] = true := by simpa [List.getElem_take] using hp
  have hle : sayAt h (ev h n).2.2 ≤ j := by
    rcases Nat.lt_or_ge j (sayAt h (ev h n).2.2) with h1 | h1
    · exact absurd hp' (by simpa using List.not_of_lt_findIdx h1)
    · exact h1
  have hlt : sayAt h (ev h n).2.2 < h.length := by omega
  refine ⟨by omega, hlt, ?_⟩
  have := List.findIdx_getElem (w := hlt)
  have e : ev h (sayAt h (ev h n).2.2) = h[sayAt h (ev h n).2.2] := by
    show h.getD _ _ = _
    rw [List.getD, List.getElem?_eq_getElem hlt]
    rfl
  rw [e]
  exact this

/-! lengths -/
theorem joinR_len (a b : List Int) : (joinR a b).length = 5 := rfl
theorem upd_len (r : List Int) (w : Nat) : (upd r w).length = r.length := by simp [upd]
theorem rows_key (h : List Ev) (n : Nat) (hl : ∀ m, (last h n m).length = 5) : (row h n).length = 5 := by
  unfold row far
  rw [upd_len]
  split
  · rfl
  · exact hl _
theorem rows_len (h : List Ev) (n : Nat) : (∀ m, (last h n m).length = 5) ∧ (row h n).length = 5 := by
  induction n with
  | zero => exact ⟨fun _ => rfl, rows_key _ _ fun _ => rfl⟩
  | succ n ih =>
    have hl : ∀ m, (last h (n + 1) m).length = 5 := by
      intro m
      rw [last_step]
      split
      · exact ih.2
      · exact ih.1 m
    exact ⟨hl, rows_key _ _ hl⟩
theorem row_len (h : List Ev) (n : Nat) : (row h n).length = 5 := (rows_len h n).2
theorem last_len (h : List Ev) (n m : Nat) : (last h n m).length = 5 := (rows_len h n).1 m
theorem getD_upd (r : List Int) (w m : Nat) (hw : w < r.length) : (upd r w).getD m 0 = r.getD m 0 + if w = m then 1 else 0 := by
  unfold upd
  by_cases e : w = m
  · subst e
    simp [List.getD, hw]
  · simp [List.getD, List.getElem?_set_ne e, e]
theorem getD_joinR (a b : List Int) (ha : a.length = 5) (hb : b.length = 5) (m : Nat) : (joinR a b).getD m 0 = max (a.getD m 0) (b.getD m 0) := by
  rcases m with _ | _ | _ | _ | _ | m
  · rfl
  · rfl
  · rfl
  · rfl
  · rfl
  · simp [joinR, List.getD, List.getElem?_eq_none (show a.length ≤ m + 5 by omega), List.getElem?_eq_none (show b.length ≤ m + 5 by omega)]

/-- what an event reaches, number by number -/
theorem row_get {h : List Ev} {N n : Nat} (hg : Good h N) (hn : n < N) (m : Nat) :
    (row h n).getD m 0 = (if (ev h n).2.1 = 3 then max ((last h n (W h n)).getD m 0) ((row h (sayAt h (ev h n).2.2)).getD m 0) else (last h n (W h n)).getD m 0) + if W h n = m then 1 else 0 := by
  have hw := W_lt hg hn
  have e : row h n = upd (if (ev h n).2.1 = 3 then joinR (last h n (W h n)) ((st h n).1.getD (sayAt h (ev h n).2.2) zero5) else last h n (W h n)) (W h n) := rfl
  rw [e]
  by_cases h3 : (ev h n).2.1 = 3
  · rw [if_pos h3, if_pos h3, getD_upd _ _ _ (by rw [joinR_len]; exact hw), st_get h n _ (sayAt_lt hg hn h3).1, getD_joinR _ _ (last_len h n _) (row_len h _)]
  · rw [if_neg h3, if_neg h3, getD_upd _ _ _ (by rw [last_len h n (W h n)]; exact hw)]

theorem bounds {h : List Ev} {N : Nat} (hg : Good h N) : ∀ n, n < N → (∀ m, 0 ≤ (row h n).getD m 0 ∧ (row h n).getD m 0 ≤ cnt h m (n + 1)) ∧ (row h n).getD (W h n) 0 = own h n := by
  intro n
  induction n using Nat.strongRecOn with
  | _ n ih =>
    intro hn
    have hlast : ∀ m, 0 ≤ (last h n (W h n)).getD m 0 ∧ (last h n (W h n)).getD m 0 ≤ cnt h m n := by
      intro m
      rcases last_spec h (W h n) n with ⟨j, h1, h2, h3, h4⟩ | ⟨_, h2⟩
      · rw [h4]
        have := (ih j h1 (by omega)).1 m
        have := cnt_mono h m (show j + 1 ≤ n by omega)
        omega
      · rw [h2]
        have := cnt_nonneg h m n
        rcases m with _ | _ | _ | _ | _ | m <;> simp [zero5] <;> omega
    have hself : (last h n (W h n)).getD (W h n) 0 = cnt h (W h n) n := by
      rcases last_spec h (W h n) n with ⟨j, h1, h2, h3, h4⟩ | ⟨h1, h2⟩
      · rw [h4]
        have := (ih j h1 (by omega)).2
        rw [h2] at this
        rw [this]
        unfold own
        rw [h2]
        exact (cnt_same h (W h n) (show j + 1 ≤ n by omega) (fun j' a b => h3 j' (by omega) b)).symm
      · rw [h2, cnt_same h (W h n) (Nat.zero_le n) (fun j _ b => h1 j b)]
        have : W h n < 5 := W_lt hg hn
        generalize W h n = x at this
        rcases x with _ | _ | _ | _ | _ | x <;> first | rfl | omega
    have hsay : (ev h n).2.1 = 3 → ∀ m, 0 ≤ (row h (sayAt h (ev h n).2.2)).getD m 0 ∧ (row h (sayAt h (ev h n).2.2)).getD m 0 ≤ cnt h m n := by
      intro h3 m
      have hs := (sayAt_lt hg hn h3).1
      have := (ih _ hs (by omega)).1 m
      have := cnt_mono h m (show sayAt h (ev h n).2.2 + 1 ≤ n by omega)
      omega
    refine ⟨fun m => ?_, ?_⟩
    · rw [row_get hg hn, cnt_step]
      have := hlast m
      split
      · rename_i h3
        have := hsay h3 m
        split <;> omega
      · split <;> omega
    · rw [row_get hg hn, own_eq, if_pos rfl, hself]
      split
      · rename_i h3
        have := hsay h3 (W h n)
        omega
      · rfl

theorem row_self {h : List Ev} {N n : Nat} (hg : Good h N) (hn : n < N) : (row h n).getD (W h n) 0 = own h n := (bounds hg n hn).2
theorem row_nonneg {h : List Ev} {N n : Nat} (hg : Good h N) (hn : n < N) (m : Nat) : 0 ≤ (row h n).getD m 0 := ((bounds hg n hn).1 m).1
theorem row_le {h : List Ev} {N n : Nat} (hg : Good h N) (hn : n < N) (m : Nat) : (row h n).getD m 0 ≤ cnt h m (n + 1) := ((bounds hg n hn).1 m).2

/-- the last one of a member is below -/
theorem last_below {h : List Ev} {N n : Nat} (hg : Good h N) (hn : n < N) (m : Nat) : (last h n (W h n)).getD m 0 ≤ (row h n).getD m 0 := by
  rw [row_get hg hn]
  split <;> split <;> omega
/-- what is said is below what is heard -/
theorem say_below {h : List Ev} {N n : Nat} (hg : Good h N) (hn : n < N) (h3 : (ev h n).2.1 = 3) (m : Nat) : (row h (sayAt h (ev h n).2.2)).getD m 0 ≤ (row h n).getD m 0 := by
  rw [row_get hg hn, if_pos h3]
  split <;> omega
/-- of one member what was earlier is below -/
theorem mem_below {h : List Ev} {N : Nat} (hg : Good h N) : ∀ n, n < N → ∀ j, j ≤ n → W h j = W h n → ∀ m, (row h j).getD m 0 ≤ (row h n).getD m 0 := by
  intro n
  induction n using Nat.strongRecOn with
  | _ n ih =>
    intro hn j hj hw m
    rcases Nat.lt_or_ge j n with hlt | hge
    · have hb := last_below hg hn m
      rcases last_spec h (W h n) n with ⟨l, h1, h2, h3, h4⟩ | ⟨h1, _⟩
      · rw [h4] at hb
        have hjl : j ≤ l := by
          rcases Nat.lt_or_ge l j with a | a
          · exact absurd hw (h3 j a hlt)
          · exact a
        exact Int.le_trans (ih l h1 (by omega) j hjl (hw.trans h2.symm) m) hb
      · exact absurd hw (h1 j hlt)
    · obtain rfl : j = n := by omega
      exact Int.le_refl _

/-- one that is reached is below, and no later -/
theorem dom {h : List Ev} {N : Nat} (hg : Good h N) : ∀ k, k < N → ∀ i, own h i ≤ (row h k).getD (W h i) 0 → i ≤ k ∧ ∀ m, (row h i).getD m 0 ≤ (row h k).getD m 0 := by
  intro k
  induction k using Nat.strongRecOn with
  | _ k ih =>
    intro hk i hi
    by_cases hw : W h i = W h k
    · rw [hw, row_self hg hk] at hi
      have hik : i < k + 1 := own_le (by rw [hw]; exact hi)
      exact ⟨by omega, mem_below hg k hk i (by omega) hw⟩
    · have hp := own_pos h i
      have hr := row_get hg hk (W h i)
      rw [if_neg (show ¬ W h k = W h i from fun e => hw e.symm)] at hr
      have hcase : own h i ≤ (last h k (W h k)).getD (W h i) 0 ∨ ((ev h k).2.1 = 3 ∧ own h i ≤ (row h (sayAt h (ev h k).2.2)).getD (W h i) 0) := by
        by_cases h3 : (ev h k).2.1 = 3
        · rw [if_pos h3] at hr
          rcases Int.le_total ((last h k (W h k)).getD (W h i) 0) ((row h (sayAt h (ev h k).2.2)).getD (W h i) 0) with a | a
          · right; exact ⟨h3, by omega⟩
          · left; omega
        · rw [if_neg h3] at hr
          left; omega
      rcases hcase with hl | ⟨h3, hl⟩
      · rcases last_spec h (W h k) k with ⟨l, h1, _, _, h4⟩ | ⟨_, h2⟩
        · have hb := last_below hg hk
          rw [h4] at hl
          obtain ⟨a, b⟩ := ih l h1 (by omega) i hl
          refine ⟨by omega, fun m => ?_⟩
          have := hb m
          rw [h4] at this
          exact Int.le_trans (b m) this
        · rw [h2] at hl
          generalize W h i = x at hl
          rcases x with _ | _ | _ | _ | _ | x <;> simp [zero5] at hl <;> omega
      · obtain ⟨a, b⟩ := ih _ (sayAt_lt hg hk h3).1 (by have := (sayAt_lt hg hk h3).1; omega) i hl
        exact ⟨by have := (sayAt_lt hg hk h3).1; omega, fun m => Int.le_trans (b m) (say_below hg hk h3 m)⟩

/-- is one ahead of another one? -/
def bef (h : List Ev) (i k : Nat) : Bool := decide (i ≠ k) && decide ((row h i).getD (W h i) 0 ≤ (row h k).getD (W h i) 0)
theorem bef_iff {h : List Ev} {N i k : Nat} (hg : Good h N) (hi : i < N) : bef h i k = true ↔ i ≠ k ∧ own h i ≤ (row h k).getD (W h i) 0 := by
  simp only [bef, Bool.and_eq_true, decide_eq_true_eq, row_self hg hi]
theorem bef_self (h : List Ev) (i : Nat) : bef h i i = false := by simp [bef]
theorem bef_lt {h : List Ev} {N i k : Nat} (hg : Good h N) (hi : i < N) (hk : k < N) (hb : bef h i k = true) : i < k := by
  obtain ⟨a, b⟩ := (bef_iff hg hi).1 hb
  have := (dom hg k hk i b).1
  omega
theorem bef_trans {h : List Ev} {N i k j : Nat} (hg : Good h N) (hi : i < N) (hk : k < N) (hj : j < N) (h1 : bef h i k = true) (h2 : bef h k j = true) : bef h i j = true := by
  have l1 := bef_lt hg hi hk h1
  have l2 := bef_lt hg hk hj h2
  obtain ⟨_, a⟩ := (bef_iff hg hi).1 h1
  obtain ⟨_, b⟩ := (bef_iff hg hk).1 h2
  exact (bef_iff hg hi).2 ⟨by omega, Int.le_trans a ((dom hg j hj k b).2 _)⟩

/-- is a cut one that could have been? -/
def leR (a b : List Int) : Bool := decide (a.getD 0 0 ≤ b.getD 0 0) && decide (a.getD 1 0 ≤ b.getD 1 0) && decide (a.getD 2 0 ≤ b.getD 2 0) && decide (a.getD 3 0 ≤ b.getD 3 0) && decide (a.getD 4 0 ≤ b.getD 4 0)
def cutAt (h : List Ev) (many : List Int) (n : Nat) : Bool := decide (many.getD (W h n) 0 < (row h n).getD (W h n) 0) || leR (row h n) many
theorem leR_of {a b : List Int} (hx : ∀ m, m < 5 → a.getD m 0 ≤ b.getD m 0) : leR a b = true := by
  simp only [leR, Bool.and_eq_true, decide_eq_true_eq]
  exact ⟨⟨⟨⟨hx 0 (by omega), hx 1 (by omega)⟩, hx 2 (by omega)⟩, hx 3 (by omega)⟩, hx 4 (by omega)⟩
theorem leR_get {a b : List Int} (hx : leR a b = true) (m : Nat) (hm : m < 5) : a.getD m 0 ≤ b.getD m 0 := by
  simp only [leR, Bool.and_eq_true, decide_eq_true_eq] at hx
  obtain ⟨⟨⟨⟨a0, a1⟩, a2⟩, a3⟩, a4⟩ := hx
  rcases m with _ | _ | _ | _ | _ | m
  · exact a0
  · exact a1
  · exact a2
  · exact a3
  · exact a4
  · omega
/-- a beginning is a cut that could have been -/
theorem begin_cut {h : List Ev} {N n i : Nat} (hg : Good h N) (hi : i < N) (many : List Int) (hm : ∀ m, m < 5 → many.getD m 0 = cnt h m n) : cutAt h many i = true := by
  unfold cutAt
  rw [Bool.or_eq_true]
  have hw := W_lt hg hi
  by_cases hc : many.getD (W h i) 0 < (row h i).getD (W h i) 0
  · exact .inl (decide_eq_true hc)
  · right
    rw [row_self hg hi, hm _ hw] at hc
    have hin : i < n := own_le (h := h) (by omega)
    refine leR_of fun m hm5 => ?_
    rw [hm m hm5]
    exact Int.le_trans (row_le hg hi m) (cnt_mono h m hin)
end Go.Proofs.Ytcccheeeagphpag.His

/-
  Plain facts on what members hear: what each has heard, in which order; whether whoever heard a word had those that were to be ahead of it; whether any two have in one order what both have.
-/
namespace Go.Proofs.Ytcccheeeagphpag.His

/-- what one has heard, or said -/
def has (who : Int) (e : Ev) : Bool := decide (e.1 = who) && decide (e.2.1 ≠ 1)
def hrd (h : List Ev) (who : Int) : List Int := (h.filter (has who)).map (·.2.2)
def ix (l : List Int) (x : Int) : Nat := l.findIdx (fun y => y == x)
def both (a b : List Int) : List Int := a.filter (fun x => b.contains x)
/-- of two words, and what one has heard: who heard the later one had the earlier one -/
def hv1 (words : List Int) (who lw : Int) (ew lword : Int) : Bool := decide (who = lw) || !(words.contains lword) || (words.take (ix words lword)).contains ew
def hv5 (h : List Ev) (e l : Ev) : Bool := (List.range 5).all fun m => hv1 (hrd h m) m l.1 e.2.2 l.2.2
def kp1 (h : List Ev) (needs : Nat → Nat → Bool) (i k : Nat) : Bool := !(decide ((ev h i).2.1 = 2) && decide ((ev h k).2.1 = 2) && needs i k) || hv5 h (ev h i) (ev h k)
def keepB (h : List Ev) (needs : Nat → Nat → Bool) : Bool := (List.range h.length).all fun k => (List.range k).all fun i => kp1 h needs i k
def smB (h : List Ev) (i k : Nat) : Bool := decide ((ev h i).1 = (ev h k).1)
def fifoB (h : List Ev) : Bool := keepB h (smB h)
def causB (h : List Ev) : Bool := keepB h (bef h)
def ag1 (a b : List Int) : Bool := both a b == both b a
def totB (h : List Ev) : Bool := (List.range 5).all fun m => (List.range m).all fun o => ag1 (hrd h m) (hrd h o)

theorem hrd_step (h : List Ev) (who : Int) {n : Nat} (hn : n < h.length) : hrd (h.take (n + 1)) who = hrd (h.take n) who ++ (if has who (ev h n) then [(ev h n).2.2] else []) := by
  have e : ev h n = h[n] := by
    show h.getD _ _ = _
    rw [List.getD, List.getElem?_eq_getElem hn]
    rfl
  rw [e, List.take_succ_eq_append_getElem hn]
  unfold hrd
  rw [List.filter_append, List.map_append]
  congr 1
  by_cases hh : has who h[n] = true
  · simp [hh]
  · simp [hh]
theorem hrd_len (h : List Ev) (who : Int) : (hrd h who).length ≤ h.length := by
  unfold hrd
  rw [List.length_map]
  exact List.length_filter_le _ _
theorem ev_get {h : List Ev} {i : Nat} (hi : i < h.length) : ev h i = h[i] := by
  show h.getD _ _ = _
  rw [List.getD, List.getElem?_eq_getElem hi]
  rfl
theorem mem_hrd {h : List Ev} {who x : Int} : x ∈ hrd h who ↔ ∃ j, j < h.length ∧ has who (ev h j) = true ∧ (ev h j).2.2 = x := by
  unfold hrd
  rw [List.mem_map]
  constructor
  · rintro ⟨e, he, rfl⟩
    obtain ⟨hm, hh⟩ := List.mem_filter.1 he
    obtain ⟨j, hj, rfl⟩ := List.getElem_of_mem hm
    exact ⟨j, hj, by rw [ev_get hj]; exact hh, by rw [ev_get hj]⟩
  · rintro ⟨j, hj, hh, rfl⟩
    rw [ev_get hj] at hh ⊢
    exact ⟨_, List.mem_filter.2 ⟨List.getElem_mem hj, hh⟩, rfl⟩
theorem ev_take' {h : List Ev} {k j : Nat} (hj : j < k) : ev (h.take k) j = ev h j := by
  simp [ev, List.getD, List.getElem?_take_of_lt hj]
theorem mem_hrd_take {h : List Ev} {who x : Int} {n : Nat} (hn : n ≤ h.length) : x ∈ hrd (h.take n) who ↔ ∃ j, j < n ∧ has who (ev h j) = true ∧ (ev h j).2.2 = x := by
  rw [mem_hrd, List.length_take, Nat.min_eq_left hn]
  constructor
  · rintro ⟨j, hj, a, b⟩
    rw [ev_take' hj] at a b
    exact ⟨j, hj, a, b⟩
  · rintro ⟨j, hj, a, b⟩
    refine ⟨j, hj, ?_, ?_⟩
    · rw [ev_take' hj]; exact a
    · rw [ev_take' hj]; exact b

/-- one begins as it began -/
theorem hrd_split (h : List Ev) (who : Int) (n : Nat) : hrd h who = hrd (h.take n) who ++ hrd (h.drop n) who := by
  unfold hrd
  rw [← List.map_append, ← List.filter_append, List.take_append_drop]

/-! nobody has a word twice -/
theorem mem_take_ev {h : List Ev} {i j : Nat} (hj : j < h.length) (hji : j < i) : ev h j ∈ h.take i := by
  have e : (h.take i)[j]? = some (ev h j) := by
    rw [List.getElem?_take_of_lt hji, ev_get hj, List.getElem?_eq_getElem hj]
  exact List.mem_of_getElem? e
theorem once {h : List Ev} {N : Nat} (hg : Good h N) (hN : N ≤ h.length) {j n : Nat} (hjn : j < n) (hn : n < N) {who : Int} (hj : has who (ev h j) = true) (hh : has who (ev h n) = true) : (ev h j).2.2 ≠ (ev h n).2.2 := by
  intro e
  have g1 := isOne_what (good_one hg (show j < N by omega))
  have g2 := isOne_what (good_one hg hn)
  simp only [has, Bool.and_eq_true, decide_eq_true_eq] at hj hh
  have hnx := hg n hn
  unfold next at hnx
  rw [if_neg (by rw [good_one hg hn]; decide)] at hnx
  have hmem : ev h j ∈ h.take n := mem_take_ev (by omega) hjn
  rcases g2 with ⟨a, _⟩ | ⟨a | a, _⟩
  · exact hh.2 a
  · -- said now
    have hs : (h.take n).any (says (ev h n).2.2) = true := by
      rcases g1 with ⟨b, _⟩ | ⟨b | b, _⟩
      · exact absurd b hj.2
      · exact List.any_eq_true.2 ⟨_, hmem, by simp [says, b, e]⟩
      · have := good_said hg (show j < N by omega) b
        obtain ⟨x, hx, hp⟩ := List.any_eq_true.1 this
        rw [e] at hp
        exact List.any_eq_true.2 ⟨x, List.mem_of_mem_take (by rw [List.take_take, Nat.min_eq_left (by omega)]; exact hx : x ∈ (h.take n).take j), hp⟩
    rw [if_pos ⟨a, hs⟩] at hnx
    omega
  · rw [if_neg (by omega), if_neg (by omega)] at hnx
    rcases g1 with ⟨b, _⟩ | ⟨b | b, _⟩
    · exact hj.2 b
    · split at hnx
      · omega
      · split at hnx
        · omega
        · rw [if_pos] at hnx
          · omega
          · refine List.any_eq_true.2 ⟨_, hmem, ?_⟩
            have : ev h j = ((ev h n).1, 2, (ev h n).2.2) := Prod.ext (by rw [hj.1, hh.1]) (Prod.ext b e)
            simp [this]
    · rw [if_pos] at hnx
      · omega
      · refine List.any_eq_true.2 ⟨_, hmem, ?_⟩
        have : ev h j = ev h n := Prod.ext (by rw [hj.1, hh.1]) (Prod.ext (by rw [a, b]) e)
        simp [this]
/-- where a word stands among what one has -/
theorem word_not {h : List Ev} (hg : Good h h.length) {j : Nat} (hj : j < h.length) {who : Int} (hh : has who (ev h j) = true) : (ev h j).2.2 ∉ hrd (h.take j) who := by
  rw [mem_hrd_take (by omega)]
  rintro ⟨m, hm, a, b⟩
  exact once hg (Nat.le_refl _) hm hj a hh b
theorem ix_not {l : List Int} {x : Int} (hx : x ∉ l) (r : List Int) : ix (l ++ x :: r) x = l.length := by
  unfold ix
  rw [List.findIdx_append]
  have h1 : l.findIdx (fun y => y == x) = l.length := by
    rw [List.findIdx_eq_length]
    intro y hy
    simp only [beq_eq_false_iff_ne]
    rintro rfl
    exact hx hy
  rw [h1, if_neg (by omega)]
  simp [List.findIdx_cons]
theorem hrd_at {h : List Ev} {j : Nat} (hj : j < h.length) {who : Int} (hh : has who (ev h j) = true) : hrd h who = hrd (h.take j) who ++ (ev h j).2.2 :: hrd (h.drop (j + 1)) who := by
  rw [hrd_split h who (j + 1), hrd_step h who hj, if_pos hh]
  simp
theorem take_ix {h : List Ev} (hg : Good h h.length) {j : Nat} (hj : j < h.length) {who : Int} (hh : has who (ev h j) = true) : (hrd h who).take (ix (hrd h who) (ev h j).2.2) = hrd (h.take j) who := by
  rw [hrd_at hj hh, ix_not (word_not hg hj hh), List.take_left']
  rfl
theorem hrd_nodup {h : List Ev} (hg : Good h h.length) (who : Int) : ∀ n, n ≤ h.length → (hrd (h.take n) who).Nodup := by
  intro n
  induction n with
  | zero => intro _; simp [hrd]
  | succ n ih =>
    intro hn
    rw [hrd_step h who (by omega)]
    by_cases hh : has who (ev h n) = true
    · rw [if_pos hh, List.nodup_append]
      refine ⟨ih (by omega), by simp, ?_⟩
      intro a ha b hb
      rw [List.mem_singleton] at hb
      rintro rfl
      rw [hb] at ha
      exact word_not hg (by omega) hh ha
    · rw [if_neg hh, List.append_nil]
      exact ih (by omega)
theorem hrd_nd {h : List Ev} (hg : Good h h.length) (who : Int) : (hrd h who).Nodup := by
  have := hrd_nodup hg who h.length (Nat.le_refl _)
  rwa [List.take_length] at this

/-! what is kept, told by events -/
theorem hv5_iff {h : List Ev} (hg : Good h h.length) (e l : Ev) : hv5 h e l = true ↔ ∀ j, j < h.length → (ev h j).2.1 ≠ 1 → (ev h j).1 ≠ l.1 → (ev h j).2.2 = l.2.2 → ∃ m, m < j ∧ has (ev h j).1 (ev h m) = true ∧ (ev h m).2.2 = e.2.2 := by
  unfold hv5
  rw [List.all_eq_true]
  constructor
  · intro ha j hj hne hw hword
    have hwho := isOne_who (good_one hg hj)
    have hh : has (ev h j).1 (ev h j) = true := by simp [has, hne]
    have := ha (ev h j).1.toNat (List.mem_range.2 (by omega))
    rw [show (((ev h j).1.toNat : Nat) : Int) = (ev h j).1 by omega] at this
    unfold hv1 at this
    rw [← hword, take_ix hg hj hh] at this
    simp only [Bool.or_eq_true, decide_eq_true_eq, Bool.not_eq_true', List.contains_eq_mem, decide_eq_false_iff_not] at this
    rcases this with (a | a) | a
    · exact absurd a hw
    · exact absurd (mem_hrd.2 ⟨j, hj, hh, rfl⟩) a
    · exact (mem_hrd_take (by omega)).1 a
  · intro hx m _
    unfold hv1
    simp only [Bool.or_eq_true, decide_eq_true_eq, Bool.not_eq_true', List.contains_eq_mem, decide_eq_false_iff_not]
    by_cases h1 : (m : Int) = l.1
    · exact .inl (.inl h1)
    · by_cases h2 : l.2.2 ∈ hrd h m
      · right
        obtain ⟨j, hj, hh, he⟩ := mem_hrd.1 h2
        have hhw : (ev h j).1 = (m : Int) ∧ (ev h j).2.1 ≠ 1 := by simpa [has] using hh
        have := hx j hj hhw.2 (by rw [hhw.1]; exact h1) he
        rw [← he, take_ix hg hj hh, mem_hrd_take (by omega), ← hhw.1]
        exact this
      · exact .inl (.inr h2)
theorem keep_iff {h : List Ev} {needs : Nat → Nat → Bool} : keepB h needs = true ↔ ∀ i k, i < k → k < h.length → (ev h i).2.1 = 2 → (ev h k).2.1 = 2 → needs i k = true → hv5 h (ev h i) (ev h k) = true := by
  unfold keepB
  simp only [List.all_eq_true, List.mem_range, kp1, Bool.or_eq_true, Bool.not_eq_true']
  constructor
  · intro ha i k hik hk h1 h2 h3
    rcases ha k hk i hik with a | a
    · simp [h1, h2, h3] at a
    · exact a
  · intro ha k hk i hik
    by_cases h1 : (ev h i).2.1 = 2
    · by_cases h2 : (ev h k).2.1 = 2
      · cases h3 : needs i k with
        | true => exact .inr (ha i k hik hk h1 h2 h3)
        | false => left; simp
      · left; simp [h2]
    · left; simp [h1]
theorem keep_of {h : List Ev} {p q : Nat → Nat → Bool} (hk : keepB h p = true) (hpq : ∀ i k, i < k → k < h.length → (ev h i).2.1 = 2 → (ev h k).2.1 = 2 → q i k = true → p i k = true) : keepB h q = true := by
  rw [keep_iff] at hk ⊢
  intro i k hik hkl h1 h2 h3
  exact hk i k hik hkl h1 h2 (hpq i k hik hkl h1 h2 h3)
theorem sm_bef {h : List Ev} (hg : Good h h.length) {i k : Nat} (hik : i < k) (hk : k < h.length) (hs : smB h i k = true) : bef h i k = true := by
  have hi : i < h.length := by omega
  have hw : W h i = W h k := by unfold W; rw [of_decide_eq_true hs]
  refine (bef_iff hg hi).2 ⟨by omega, ?_⟩
  rw [← row_self hg hi]
  exact mem_below hg k hk i (by omega) hw _
/-- what is causal is fifo -/
theorem caus_fifo {h : List Ev} (hg : Good h h.length) (hc : causB h = true) : fifoB h = true :=
  keep_of hc fun _ _ hik hk _ _ hs => sm_bef hg hik hk hs
/-- where only one speaks fifo is causal -/
theorem alone_fifo {h : List Ev} (hg : Good h h.length) (ha : ∀ i k, k < i → i < h.length → (ev h i).2.1 = 2 → (ev h k).2.1 = 2 → (ev h i).1 = (ev h k).1) : fifoB h = causB h := by
  rw [Bool.eq_iff_iff]
  constructor
  · intro hf
    exact keep_of hf fun i k hik hk h1 h2 _ => decide_eq_true (ha k i hik hk h2 h1).symm
  · exact caus_fifo hg

/-! what both have, in one order -/
theorem one_row {R : Int → Int → Prop} (htr : ∀ {x y z}, R x y → R y z → R x z) (hirr : ∀ x, ¬ R x x) : ∀ {a b : List Int}, a.Pairwise R → b.Pairwise R → (∀ i, i ∈ a ↔ i ∈ b) → a = b := by
  intro a
  induction a with
  | nil =>
    intro b _ _ hm
    cases b with
    | nil => rfl
    | cons x b => exact absurd ((hm x).2 (List.mem_cons_self ..)) (List.not_mem_nil)
  | cons x a ih =>
    intro b ha hb hm
    cases b with
    | nil => exact absurd ((hm x).1 (List.mem_cons_self ..)) (List.not_mem_nil)
    | cons y b =>
      rw [List.pairwise_cons] at ha hb
      have hxy : x = y := by
        rcases List.mem_cons.1 ((hm x).1 (List.mem_cons_self ..)) with e | e
        · exact e
        · rcases List.mem_cons.1 ((hm y).2 (List.mem_cons_self ..)) with e2 | e2
          · exact e2.symm
          · exact absurd (htr (ha.1 y e2) (hb.1 x e)) (hirr _)
      subst hxy
      congr 1
      refine ih ha.2 hb.2 fun i => ?_
      constructor
      · intro hi
        rcases List.mem_cons.1 ((hm i).1 (List.mem_cons_of_mem _ hi)) with e | e
        · exact absurd (e ▸ ha.1 i hi) (hirr _)
        · exact e
      · intro hi
        rcases List.mem_cons.1 ((hm i).2 (List.mem_cons_of_mem _ hi)) with e | e
        · exact absurd (e ▸ hb.1 i hi) (hirr _)
        · exact e
theorem ix_lt {l : List Int} {x : Int} (hx : x ∈ l) : ix l x < l.length := by
  unfold ix
  rw [List.findIdx_lt_length]
  exact ⟨x, hx, by simp⟩
theorem ix_get {l : List Int} {x : Int} (hx : x ∈ l) : l[ix l x]'(ix_lt hx) = x := by
  have := List.findIdx_getElem (p := fun y => y == x) (w := ix_lt hx)
  exact eq_of_beq this
theorem ix_inj {l : List Int} {x y : Int} (hx : x ∈ l) (hy : y ∈ l) (he : ix l x = ix l y) : x = y := by
  rw [← ix_get hx, ← ix_get hy]
  simp only [he]
theorem ix_of {l : List Int} (hl : l.Nodup) {i : Nat} (hi : i < l.length) : ix l l[i] = i := by
  have hm : l[i] ∈ l := List.getElem_mem hi
  have := ix_get hm
  exact (List.getElem_inj hl).1 this
theorem pw_self {l : List Int} (hl : l.Nodup) : l.Pairwise (fun x y => ix l x < ix l y) := by
  rw [List.pairwise_iff_getElem]
  intro i j hi hj hij
  rw [ix_of hl hi, ix_of hl hj]
  exact hij
/-- what both have is in one order just if no two are in unlike orders -/
theorem ag1_iff {a b : List Int} (ha : a.Nodup) (hb : b.Nodup) : ag1 a b = true ↔ a.Pairwise (fun x y => x ∈ b → y ∈ b → ix b x ≤ ix b y) := by
  unfold ag1
  rw [beq_iff_eq]
  constructor
  · intro he
    rw [List.pairwise_iff_forall_sublist]
    intro x y hxy hx hy
    have h1 : [x, y].Sublist (both b a) := by
      rw [← he]
      have := hxy.filter (fun z => b.contains z)
      simpa [both, hx, hy] using this
    have h2 : [x, y].Sublist b := h1.trans (List.filter_sublist ..)
    have := (pw_self hb).sublist h2
    simp at this
    omega
  · intro hp
    refine one_row (R := fun x y => ix b x < ix b y) (fun h1 h2 => Nat.lt_trans h1 h2) (fun x => Nat.lt_irrefl _) ?_ ?_ ?_
    · have h1 : (both a b).Pairwise (fun x y => x ≠ y ∧ (x ∈ b → y ∈ b → ix b x ≤ ix b y)) := (List.Pairwise.and ha hp).sublist (List.filter_sublist ..)
      refine h1.imp_of_mem ?_
      intro x y hx hy hh
      have hx' : x ∈ b := by simpa using (List.mem_filter.1 hx).2
      have hy' : y ∈ b := by simpa using (List.mem_filter.1 hy).2
      have := hh.2 hx' hy'
      rcases Nat.lt_or_ge (ix b x) (ix b y) with q | q
      · exact q
      · exact absurd (ix_inj hx' hy' (by omega)) hh.1
    · exact (pw_self hb).sublist (List.filter_sublist ..)
    · intro i
      simp only [both, List.mem_filter, List.contains_eq_mem, decide_eq_true_eq]
      exact ⟨fun ⟨p, q⟩ => ⟨q, p⟩, fun ⟨p, q⟩ => ⟨q, p⟩⟩

/-! a beginning -/
theorem good_take {h : List Ev} {n : Nat} (hg : Good h h.length) (hn : n ≤ h.length) : Good (h.take n) (h.take n).length := by
  rw [List.length_take, Nat.min_eq_left hn]
  intro i hi
  rw [List.take_take, Nat.min_eq_left (by omega), ev_take' hi]
  exact hg i (by omega)
theorem sayAt_take {h : List Ev} {n : Nat} (hg : Good h h.length) (hn : n ≤ h.length) {i : Nat} (hi : i < n) (h3 : (ev h i).2.1 = 3) : sayAt (h.take n) (ev h i).2.2 = sayAt h (ev h i).2.2 := by
  have hs := sayAt_lt hg (show i < h.length by omega) h3
  have hsp : ∀ w, h.findIdx (says w) = (h.take n ++ h.drop n).findIdx (says w) := fun w => by rw [List.take_append_drop]
  unfold sayAt
  rw [hsp, List.findIdx_append]
  have : (h.take n).findIdx (says (ev h i).2.2) < (h.take n).length := by
    rw [List.findIdx_lt_length]
    exact ⟨_, mem_take_ev hs.2.1 (show _ < n by omega), hs.2.2⟩
  rw [if_pos this]
theorem st_take {h : List Ev} {n : Nat} (hg : Good h h.length) (hn : n ≤ h.length) : ∀ i, i ≤ n → st (h.take n) i = st h i := by
  intro i
  induction i with
  | zero => intro _; rfl
  | succ i ih =>
    intro hi
    have e := ih (by omega)
    have hev : ev (h.take n) i = ev h i := ev_take' (by omega)
    have hW : W (h.take n) i = W h i := by unfold W; rw [hev]
    have hf : far (h.take n) i (st h i) = far h i (st h i) := by
      unfold far
      rw [hW, hev]
      by_cases h3 : (ev h i).2.1 = 3
      · rw [if_pos h3, if_pos h3, sayAt_take hg hn (by omega) h3]
      · rw [if_neg h3, if_neg h3]
    simp only [st, e, hf, hW]
theorem row_take {h : List Ev} {n : Nat} (hg : Good h h.length) (hn : n ≤ h.length) {i : Nat} (hi : i < n) : row (h.take n) i = row h i := by
  have e := st_take hg hn (i + 1) (by omega)
  have e1 : ((st (h.take n) (i + 1)).1).getD i zero5 = ((st h (i + 1)).1).getD i zero5 := by rw [e]
  rwa [st_get _ _ _ (by omega), st_get _ _ _ (by omega)] at e1
theorem bef_take {h : List Ev} {n : Nat} (hg : Good h h.length) (hn : n ≤ h.length) {i k : Nat} (hi : i < n) (hk : k < n) : bef (h.take n) i k = bef h i k := by
  have hW : W (h.take n) i = W h i := by unfold W; rw [ev_take' hi]
  unfold bef
  rw [row_take hg hn hi, row_take hg hn hk, hW]
theorem keep_take {h : List Ev} {n : Nat} (hg : Good h h.length) (hn : n ≤ h.length) {p q : Nat → Nat → Bool} (hpq : ∀ i k, i < n → k < n → q i k = p i k) (hk : keepB h p = true) : keepB (h.take n) q = true := by
  have hl : (h.take n).length = n := by rw [List.length_take]; omega
  rw [keep_iff] at hk ⊢
  intro i k hik hkl h1 h2 h3
  rw [hl] at hkl
  rw [ev_take' (by omega)] at h1
  rw [ev_take' hkl] at h2
  rw [hpq i k (by omega) hkl] at h3
  have := hk i k hik (by omega) h1 h2 h3
  rw [ev_take' (show i < n by omega), ev_take' hkl]
  rw [hv5_iff hg] at this
  rw [hv5_iff (good_take hg hn), hl]
  intro j hj g1 g2 g3
  rw [ev_take' hj] at g1 g2 g3 ⊢
  obtain ⟨m, a, b, c⟩ := this j (by omega) g1 g2 g3
  refine ⟨m, a, ?_, ?_⟩
  · rw [ev_take' (by omega)]; exact b
  · rw [ev_take' (by omega)]; exact c
theorem fifo_take {h : List Ev} {n : Nat} (hg : Good h h.length) (hn : n ≤ h.length) (hf : fifoB h = true) : fifoB (h.take n) = true := by
  refine keep_take hg hn (fun i k hi hk => ?_) hf
  unfold smB
  rw [ev_take' hi, ev_take' hk]
theorem caus_take {h : List Ev} {n : Nat} (hg : Good h h.length) (hn : n ≤ h.length) (hf : causB h = true) : causB (h.take n) = true :=
  keep_take hg hn (fun _ _ hi hk => bef_take hg hn hi hk) hf
theorem tot_iff {h : List Ev} : totB h = true ↔ ∀ m o : Nat, m < 5 → o < m → ag1 (hrd h m) (hrd h o) = true := by
  unfold totB
  simp only [List.all_eq_true, List.mem_range]
  exact ⟨fun ha m o hm ho => ha m hm o ho, fun ha m hm o ho => ha m o hm ho⟩
theorem ix_front {a b : List Int} {x : Int} (hx : x ∈ a) : ix (a ++ b) x = ix a x := by
  unfold ix
  rw [List.findIdx_append]
  exact if_pos (ix_lt hx)
theorem tot_take {h : List Ev} {n : Nat} (hg : Good h h.length) (hn : n ≤ h.length) (hf : totB h = true) : totB (h.take n) = true := by
  rw [tot_iff] at hf ⊢
  intro m o hm ho
  have hx := hf m o hm ho
  rw [ag1_iff (hrd_nd hg _) (hrd_nd hg _)] at hx
  rw [ag1_iff (hrd_nodup hg _ n hn) (hrd_nodup hg _ n hn)]
  have hp := hx.sublist (l₁ := hrd (h.take n) m) (by rw [hrd_split h m n]; exact List.sublist_append_left _ _)
  refine hp.imp ?_
  intro x y hxy g1 g2
  rw [hrd_split h o n] at hxy
  have := hxy (List.mem_append_left _ g1) (List.mem_append_left _ g2)
  rwa [ix_front g1, ix_front g2] at this
end Go.Proofs.Ytcccheeeagphpag.His

/-
  Contracts of package history's says and isOne, and of the searches of package slices over events.
-/
namespace Go.Proofs.Ytcccheeeagphpag.His
open Go.RowKit

theorem ret_bool {a b : Bool} (h : a = b) : Ending.returned (.bool a) = .returned (.bool b) := by rw [h]
theorem below_up {w w1 w2 : World} {B : Nat} (hB : B = w.heap.size) (h : Below B w w1) (h' : Below w1.heap.size w1 w2) : Below B w w2 := by
  subst hB
  exact h.trans (h'.mono h.size)

theorem says1 (who what wd : Int) (word : Int) (B : Nat) (w : World) (hv : w.cell? ⟨B, 0, none⟩ = some (.int .i64 word)) :
    Calls Try.prog 64 #[.agg #[.int .i64 who, .int .i64 what, .int .i64 wd], .pointer (some ⟨B, 0, none⟩)] w fun x w' => x = .returned (.bool (says word (who, what, wd))) ∧ Below w.heap.size w w' := by
  have hB := block_lt_of_cell hv
  by_cases h2 : what = 2
  · subst h2
    go_enter Try.func64, Try.ntmps64
    go_wp2
    go_ret
    exact ⟨ret_bool (by rw [Bool.eq_iff_iff]; simp [says]), (Below.refl _ _).alloc (Nat.le_refl _) _⟩
  · have h2' : (what == 2) = false := by simp [h2]
    go_enter Try.func64, Try.ntmps64
    go_wp2
    go_ret
    exact ⟨ret_bool (by simp [says, h2]), (Below.refl _ _).alloc (Nat.le_refl _) _⟩

theorem one1 (who what wd : Int) (w : World) :
    Calls Try.prog 65 #[.agg #[.int .i64 who, .int .i64 what, .int .i64 wd]] w fun x w' => x = .returned (.bool (isOne (who, what, wd))) ∧ Below w.heap.size w w' := by
  by_cases h0 : who < 0
  · go_enter Try.func65, Try.ntmps65
    go_wp2
    go_ret
    exact ⟨ret_bool (by simp [isOne]; omega), (Below.refl _ _).alloc (Nat.le_refl _) _⟩
  by_cases h5 : 5 ≤ who
  · go_enter Try.func65, Try.ntmps65
    go_wp2
    go_ret
    exact ⟨ret_bool (by simp [isOne]; omega), (Below.refl _ _).alloc (Nat.le_refl _) _⟩
  by_cases h1 : what = 1
  · subst h1
    go_enter Try.func65, Try.ntmps65
    go_wp2
    go_ret
    exact ⟨ret_bool (by rw [Bool.eq_iff_iff]; simp [isOne]; omega), (Below.refl _ _).alloc (Nat.le_refl _) _⟩
  have h1' : (what == 1) = false := by simp [h1]
  by_cases h23 : what = 2 ∨ what = 3
  · by_cases hw : 1 ≤ wd
    · rcases h23 with rfl | rfl
      · go_enter Try.func65, Try.ntmps65
        go_wp2
        go_ret
        exact ⟨ret_bool (by rw [Bool.eq_iff_iff]; simp [isOne]; omega), (Below.refl _ _).alloc (Nat.le_refl _) _⟩
      · go_enter Try.func65, Try.ntmps65
        go_wp2
        go_ret
        exact ⟨ret_bool (by rw [Bool.eq_iff_iff]; simp [isOne]; omega), (Below.refl _ _).alloc (Nat.le_refl _) _⟩
    · have hw' : wd < 1 := by omega
      rcases h23 with rfl | rfl
      · go_enter Try.func65, Try.ntmps65
        go_wp2
        go_ret
        exact ⟨ret_bool (by simp [isOne]; omega), (Below.refl _ _).alloc (Nat.le_refl _) _⟩
      · go_enter Try.func65, Try.ntmps65
        go_wp2
        go_ret
        exact ⟨ret_bool (by simp [isOne]; omega), (Below.refl _ _).alloc (Nat.le_refl _) _⟩
  · have h2' : (what == 2) = false := by simp; omega
    have h3' : (what == 3) = false := by simp; omega
    go_enter Try.func65, Try.ntmps65
    go_wp2
    go_ret
    exact ⟨ret_bool (by simp [isOne]; omega), (Below.refl _ _).alloc (Nat.le_refl _) _⟩

/-- A slice of events, seen by what they are. -/
def Ew (w : World) (a : Option Addr) (len : Nat) (h : List Ev) : Prop :=
  h.length = len ∧ (0 < len → ∃ b off, a = some ⟨b, off, none⟩ ∧ b < w.heap.size ∧ ∀ k, k < len → w.cell? ⟨b, off + k * 3, none⟩ = some (.int .i64 (ev h k).1) ∧ w.cell? ⟨b, off + k * 3 + 1, none⟩ = some (.int .i64 (ev h k).2.1) ∧ w.cell? ⟨b, off + k * 3 + 2, none⟩ = some (.int .i64 (ev h k).2.2))

theorem Ew.later {w w' : World} {a : Option Addr} {len : Nat} {h : List Ev} (g : Ew w a len h) (hb : Below w.heap.size w w') : Ew w' a len h := by
  refine ⟨g.1, fun hl => ?_⟩
  obtain ⟨b, off, e, hlt, hc⟩ := g.2 hl
  exact ⟨b, off, e, Nat.lt_of_lt_of_le hlt hb.size, fun k hk => ⟨(hb.cell (p := ⟨b, off + k * 3, none⟩) hlt).trans (hc k hk).1, (hb.cell (p := ⟨b, off + k * 3 + 1, none⟩) hlt).trans (hc k hk).2.1, (hb.cell (p := ⟨b, off + k * 3 + 2, none⟩) hlt).trans (hc k hk).2.2⟩⟩

def idxI (p : Ev → Bool) (h : List Ev) : Int := if h.any p = true then (h.findIdx p : Nat) else -1

theorem idx_hit {p : Ev → Bool} {h : List Ev} {k : Nat} (hk : k < h.length) (hp : p (ev h k) = true) (hb : ∀ j, j < k → p (ev h j) = false) : idxI p h = (k : Int) := by
  have e : ∀ j (hj : j < h.length), ev h j = h[j] := by
    intro j hj
    show h.getD j _ = _
    rw [List.getD, List.getElem?_eq_getElem hj]
    rfl
  have ha : h.any p = true := List.any_eq_true.2 ⟨h[k], List.getElem_mem hk, by rw [← e k hk]; exact hp⟩
  have hf : h.findIdx p = k := by
    rw [List.findIdx_eq hk]
    exact ⟨by rw [← e k hk]; exact hp, fun j hj => by rw [← e j (by omega)]; simpa using hb j hj⟩
  rw [idxI, if_pos ha, hf]
theorem idx_miss {p : Ev → Bool} {h : List Ev} (hb : ∀ j, j < h.length → p (ev h j) = false) : h.any p = false := by
  rw [List.any_eq_false]
  intro x hx
  obtain ⟨j, hj, rfl⟩ := List.getElem_of_mem hx
  have := hb j hj
  have e : ev h j = h[j] := by
    show h.getD j _ = _
    rw [List.getD, List.getElem?_eq_getElem hj]
    rfl
  rw [e] at this
  simp [this]
theorem ret_int {a b : Int} (h : a = b) : Ending.returned (.int .i64 a) = .returned (.int .i64 b) := by rw [h]

theorem idxFunc (a : Option Addr) (len cap : Nat) (h : List Ev) (word : Int) (B : Nat) (w : World) (hm : len ≤ maxLen) (hv : Ew w a len h) (hB : B < w.heap.size) (hc : w.cell? ⟨B, 0, none⟩ = some (.int .i64 word)) :
    Calls Try.prog 56 #[.slice a len cap, .func (.func 64) #[] #[.pointer (some ⟨B, 0, none⟩)]] w fun x w' => x = .returned (.int .i64 (idxI (says word) h)) ∧ Below w.heap.size w w' := by
  unfold maxLen at hm
  have H1 : Hid (h.length = len) := hv.1
  have G : Hid (Ew w a len h) := hv
  have HC : Hid (B < w.heap.size ∧ w.cell? ⟨B, 0, none⟩ = some (.int .i64 word)) := ⟨hB, hc⟩
  clear hv hB hc
  go_enter Try.func56, Try.ntmps56
  go_wp2
  go_loopw [8] (fun i wr => ∃ k : Nat, k ≤ len ∧ i = .int .i64 k ∧ Hid (Below w.heap.size w wr) ∧ Hid (∀ j, j < k → says word (ev h j) = false)) (fun i _ => len - (intOf i).toNat)
  case atStart => exact ⟨0, by omega, rfl, Below.refl _ _, fun j hj => absurd hj (by omega)⟩
  case round =>
    obtain ⟨k, hk, rfl, hbel, hp⟩ := hrel
    by_cases hlt : k < len
    · obtain ⟨b, off, rfl, hpb, hcs⟩ := (G.out.later hbel.out).2 (by omega)
      obtain ⟨c0, c1, c2⟩ := hcs k hlt
      have hBw : wr.cell? ⟨B, 0, none⟩ = some (.int .i64 word) := (hbel.out.cell (p := ⟨B, 0, none⟩) HC.out.1).trans HC.out.2
      obtain ⟨q, eq⟩ : ∃ q, q = ev h k := ⟨_, rfl⟩
      rw [← eq] at c0 c1 c2
      obtain ⟨q0, q1, q2⟩ := q
      have EQ : Hid _ := eq
      have HBW : Hid _ := hBw
      clear hcs eq hBw hpb
      have hk0 : (0 : Int) ≤ (k : Int) := by omega
      have hkl : (k : Int) < (len : Int) := by omega
      cases hb : says word (ev h k)
      · go_wp2_with (go_at_call 64; refine (says1 q0 q1 q2 word B _ HBW.out).mono ?_; rintro e w' ⟨rfl, hb2⟩; rw [EQ.out, hb])
        go_roundw
        case rel => exact ⟨k + 1, by omega, by go_num, below_up rfl hbel.out hb2, fun j hj => if e : j < k then hp.out j e else by rw [show j = k by omega]; exact hb⟩
        case measure => simp [intOf]; omega
      · go_wp2_with (go_at_call 64; refine (says1 q0 q1 q2 word B _ HBW.out).mono ?_; rintro e w' ⟨rfl, hb2⟩; rw [EQ.out, hb])
        go_ret
        exact ⟨ret_int (idx_hit (by rw [H1.out]; exact hlt) hb hp.out).symm, below_up rfl hbel.out hb2⟩
    · go_wp2
      go_ret
      refine ⟨ret_int ?_, hbel.out⟩
      rw [idxI, if_neg]
      rw [idx_miss fun j hj => hp.out j (by have := H1.out; omega)]
      decide

theorem contFunc (a : Option Addr) (len cap : Nat) (h : List Ev) (word : Int) (B : Nat) (w : World) (hm : len ≤ maxLen) (hv : Ew w a len h) (hB : B < w.heap.size) (hc : w.cell? ⟨B, 0, none⟩ = some (.int .i64 word)) :
    Calls Try.prog 66 #[.slice a len cap, .func (.func 64) #[] #[.pointer (some ⟨B, 0, none⟩)]] w fun x w' => x = .returned (.bool (h.any (says word))) ∧ Below w.heap.size w w' := by
  go_enter Try.func66, Try.ntmps66
  go_wp2_with fail
  refine (idxFunc a len cap h word B _ hm hv hB hc).mono ?_
  rintro e w1 ⟨rfl, hb⟩
  clear hv hc
  go_wp2
  go_ret
  refine ⟨ret_bool ?_, hb⟩
  rw [idxI]
  cases h.any (says word) <;> simp

theorem says0 (word : Int) (w : World) :
    Calls Try.prog 57 #[.int .i64 word] w fun x w' => x = .returned (.func (.func 64) #[] #[.pointer (some ⟨w.heap.size, 0, none⟩)]) ∧ w' = w.alloc (.cells #[.int .i64 word] 3) := by
  go_enter Try.func57, Try.ntmps57
  go_wp2
  go_ret
  exact ⟨rfl, rfl⟩

theorem eqGd : Try.prog.eqGuardType Try.prog.depth 45 = false := by kernel_rfl
theorem eqEv (a b c d e f : Int) (w : World) : (Op.equalIn 10000 45 (.agg #[.int .i64 a, .int .i64 b, .int .i64 c]) (.agg #[.int .i64 d, .int .i64 e, .int .i64 f])).run Try.prog w = .ok (((d, e, f) : Ev) == (a, b, c)) w := by
  have u3 := Try.underlying3
  have a3 := Try.isAgg3
  have z3 := Try.sizeOf3
  have hS : Try.prog.underlying 45 = some (.struct (Try.prog.fieldsOf 45)) := by kernel_rfl
  have hp : Try.prog.stoodInHeld 45 = false := by kernel_rfl
  rw [show (10000 : Nat) = 9999 + 1 from rfl, run_equalIn_agg w 9999 45 _ _ hS hp]
  simp only [Program.fieldsOf, Try.underlying45]
  go_simp
  have e1 : (d = a) = (a = d) := propext eq_comm
  have e2 : (e = b) = (b = e) := propext eq_comm
  have e3 : (f = c) = (c = f) := propext eq_comm
  have h0 : (((d, e, f) : Ev) == (a, b, c)) = (decide (a = d) && (decide (b = e) && decide (c = f))) := by
    rw [Bool.eq_iff_iff]
    simp [e1, e2, e3]
  rw [h0]
  by_cases h1 : a = d <;> by_cases h2 : b = e <;> by_cases h3 : c = f <;> simp [h1, h2, h3]

theorem idxEv (a : Option Addr) (len cap : Nat) (h : List Ev) (x0 x1 x2 : Int) (w : World) (hm : len ≤ maxLen) (hv : Ew w a len h) :
    Calls Try.prog 69 #[.slice a len cap, .agg #[.int .i64 x0, .int .i64 x1, .int .i64 x2]] w fun x w' => x = .returned (.int .i64 (idxI (fun y => y == (x0, x1, x2)) h)) ∧ Below w.heap.size w w' := by
  unfold maxLen at hm
  have H1 : Hid (h.length = len) := hv.1
  have G : Hid (Ew w a len h) := hv
  clear hv
  go_enter Try.func69, Try.ntmps69
  go_wp2
  go_loopw [8] (fun i wr => ∃ k : Nat, k ≤ len ∧ i = .int .i64 k ∧ (∃ n, wr = (w.alloc (.cells #[.int .i64 x0, .int .i64 x1, .int .i64 x2] 45)).drewN n) ∧ Hid (∀ j, j < k → (ev h j == (x0, x1, x2)) = false)) (fun i _ => len - (intOf i).toNat)
  case atStart => exact ⟨0, by omega, rfl, ⟨0, rfl⟩, fun j hj => absurd hj (by omega)⟩
  case round =>
    obtain ⟨k, hk, rfl, ⟨n, rfl⟩, hp⟩ := hrel
    by_cases hlt : k < len
    · obtain ⟨b, off, rfl, hpb, hcs⟩ := (G.out.later ((Below.refl _ _).alloc (Nat.le_refl _) (.cells #[.int .i64 x0, .int .i64 x1, .int .i64 x2] 45))).2 (by omega)
      obtain ⟨c0, c1, c2⟩ := hcs k hlt
      obtain ⟨q, eq⟩ : ∃ q, q = ev h k := ⟨_, rfl⟩
      rw [← eq] at c0 c1 c2
      obtain ⟨q0, q1, q2⟩ := q
      have EQ : Hid _ := eq
      clear hcs eq hpb
      have hk0 : (0 : Int) ≤ (k : Int) := by omega
      have hkl : (k : Int) < (len : Int) := by omega
      obtain ⟨r, er⟩ : ∃ r : Bool, r = (((q0, q1, q2) : Ev) == (x0, x1, x2)) := ⟨_, rfl⟩
      have hgd := eqGd
      have hev := eqEv x0 x1 x2 q0 q1 q2
      rw [← er] at hev
      have ER : Hid (r = (ev h k == (x0, x1, x2))) := by rw [← EQ.out]; exact er
      clear er
      cases r
      · go_wp2
        go_quiet (fail)
        go_wp2
        go_roundw
        case rel => exact ⟨k + 1, by omega, by go_num, ⟨_, rfl⟩, fun j hj => if e : j < k then hp.out j e else by rw [show j = k by omega]; exact ER.out.symm⟩
        case measure => simp [intOf]; omega
      · go_wp2
        go_quiet (fail)
        go_wp2
        go_ret
        refine ⟨ret_int (idx_hit (by rw [H1.out]; exact hlt) ER.out.symm hp.out).symm, ?_⟩
        exact below_drewN (below_drewN ((Below.refl _ _).alloc (Nat.le_refl _) _) _) _
    · go_wp2
      go_ret
      refine ⟨ret_int ?_, below_drewN ((Below.refl _ _).alloc (Nat.le_refl _) _) _⟩
      rw [idxI, if_neg]
      rw [idx_miss fun j hj => hp.out j (by have := H1.out; omega)]
      decide

theorem contEv (a : Option Addr) (len cap : Nat) (h : List Ev) (x0 x1 x2 : Int) (w : World) (hm : len ≤ maxLen) (hv : Ew w a len h) :
    Calls Try.prog 67 #[.slice a len cap, .agg #[.int .i64 x0, .int .i64 x1, .int .i64 x2]] w fun x w' => x = .returned (.bool (h.any (fun y => y == (x0, x1, x2)))) ∧ Below w.heap.size w w' := by
  go_enter Try.func67, Try.ntmps67
  go_wp2_with fail
  refine (idxEv a len cap h x0 x1 x2 _ hm (hv.later ((Below.refl _ _).alloc (Nat.le_refl _) _))).mono ?_
  rintro e w1 ⟨rfl, hb⟩
  clear hv
  go_wp2
  go_ret
  refine ⟨ret_bool ?_, below_up rfl ((Below.refl _ _).alloc (Nat.le_refl _) _) hb⟩
  rw [idxI]
  cases h.any (fun y => y == (x0, x1, x2)) <;> simp

/-- an error by its number; none is nil -/
def errV (c : Int) : Value := if c = 0 then .nilIface else .iface 54 (.int .i64 c)
theorem ret_err {c : Int} {v : Value} (h : v = errV c) : Ending.returned v = .returned (errV c) := by rw [h]

theorem Ew.alloc {w : World} {a : Option Addr} {len : Nat} {h : List Ev} (g : Ew w a len h) (o : Obj) : Ew (w.alloc o) a len h := g.later ((Below.refl _ _).alloc (Nat.le_refl _) _)
end Go.Proofs.Ytcccheeeagphpag.His

/-
  Contracts of package history's checkNext and Check: which event is wrong, and how.
-/
namespace Go.Proofs.Ytcccheeeagphpag.His
open Go.RowKit

theorem next_cases (p : List Ev) (e : Ev) :
    (isOne e = false ∧ next p e = 1) ∨ (isOne e = true ∧ e.2.1 = 2 ∧ p.any (says e.2.2) = true ∧ next p e = 7) ∨ (isOne e = true ∧ e.2.1 = 2 ∧ p.any (says e.2.2) = false ∧ next p e = 0) ∨
    (isOne e = true ∧ e.2.1 = 1 ∧ next p e = 0) ∨
    (isOne e = true ∧ e.2.1 = 3 ∧ p.any (fun y => y == e) = true ∧ next p e = 7) ∨
    (isOne e = true ∧ e.2.1 = 3 ∧ p.any (fun y => y == e) = false ∧ p.any (says e.2.2) = false ∧ next p e = 5) ∨
    (isOne e = true ∧ e.2.1 = 3 ∧ p.any (fun y => y == e) = false ∧ p.any (says e.2.2) = true ∧ p.any (fun y => y == (e.1, 2, e.2.2)) = true ∧ next p e = 3) ∨
    (isOne e = true ∧ e.2.1 = 3 ∧ p.any (fun y => y == e) = false ∧ p.any (says e.2.2) = true ∧ p.any (fun y => y == (e.1, 2, e.2.2)) = false ∧ next p e = 0) := by
  unfold next
  cases h0 : isOne e with
  | false => exact .inl ⟨rfl, rfl⟩
  | true =>
    right
    rcases isOne_what h0 with ⟨h1, _⟩ | ⟨h2 | h3, _⟩
    · refine .inr (.inr (.inl ⟨rfl, h1, ?_⟩))
      simp [h1]
    · cases hs : p.any (says e.2.2) with
      | true => exact .inl ⟨rfl, h2, rfl, by simp [h2]⟩
      | false => exact .inr (.inl ⟨rfl, h2, rfl, by simp [h2]⟩)
    · cases hc : p.any (fun y => y == e) with
      | true => exact .inr (.inr (.inr (.inl ⟨rfl, h3, rfl, by simp [h3]⟩)))
      | false =>
        cases hs : p.any (says e.2.2) with
        | false => exact .inr (.inr (.inr (.inr (.inl ⟨rfl, h3, rfl, rfl, by simp [h3]⟩))))
        | true =>
          cases hd : p.any (fun y => y == (e.1, 2, e.2.2)) with
          | true => exact .inr (.inr (.inr (.inr (.inr (.inl ⟨rfl, h3, rfl, rfl, rfl, by simp [h3]⟩)))))
          | false => exact .inr (.inr (.inr (.inr (.inr (.inr ⟨rfl, h3, rfl, rfl, rfl, by simp [h3]⟩)))))

/-- an event in a variable of the call's own -/
def Bx (w : World) (B : Nat) (x0 x1 x2 : Int) : Prop := B < w.heap.size ∧ w.cell? ⟨B, 0, none⟩ = some (.int .i64 x0) ∧ w.cell? ⟨B, 1, none⟩ = some (.int .i64 x1) ∧ w.cell? ⟨B, 2, none⟩ = some (.int .i64 x2)
theorem Bx.later {w w' : World} {B : Nat} {x0 x1 x2 : Int} (h : Bx w B x0 x1 x2) (hb : Below w.heap.size w w') : Bx w' B x0 x1 x2 :=
  ⟨Nat.lt_of_lt_of_le h.1 hb.size, (hb.cell (p := ⟨B, 0, none⟩) h.1).trans h.2.1, (hb.cell (p := ⟨B, 1, none⟩) h.1).trans h.2.2.1, (hb.cell (p := ⟨B, 2, none⟩) h.1).trans h.2.2.2⟩
theorem Bx.lit (w : World) (x0 x1 x2 : Int) (t : TypeId) : Bx (w.alloc (.cells #[.int .i64 x0, .int .i64 x1, .int .i64 x2] t)) w.heap.size x0 x1 x2 := by
  refine ⟨by simp, ?_, ?_, ?_⟩ <;> simp

set_option maxRecDepth 100000 in
theorem checkNext_any (a : Option Addr) (len cap : Nat) (p : List Ev) (x0 x1 x2 : Int) (w : World) (hm : len ≤ maxLen) (hv : Ew w a len p) :
    Calls Try.prog 60 #[.slice a len cap, .agg #[.int .i64 x0, .int .i64 x1, .int .i64 x2]] w fun x w' => x = .returned (errV (next p (x0, x1, x2))) ∧ Below w.heap.size w w' := by
  rcases next_cases p (x0, x1, x2) with ⟨h0, hn⟩ | ⟨h0, h2, hs, hn⟩ | ⟨h0, h2, hs, hn⟩ | ⟨h0, h1, hn⟩ | ⟨h0, h3, hc, hn⟩ | ⟨h0, h3, hc, hs, hn⟩ | ⟨h0, h3, hc, hs, hd, hn⟩ | ⟨h0, h3, hc, hs, hd, hn⟩
  · rw [hn]
    have HV : Hid (Ew w a len p) := hv
    clear hv hn
    go_enter Try.func60, Try.ntmps60
    go_wp2_with fail
    have b1 := (Below.refl w.heap.size w).alloc (Nat.le_refl _) (.cells #[.int .i64 x0, .int .i64 x1, .int .i64 x2] 45)
    have bx := Bx.lit w x0 x1 x2 45
    refine (one1 x0 x1 x2 _).mono ?_
    rintro e w1 ⟨rfl, hb⟩
    rw [h0]
    have V1 : Hid (Below w.heap.size w w1) := below_up rfl b1 hb
    have X1 : Hid (Bx w1 w.heap.size x0 x1 x2) := bx.later hb
    clear hb bx b1
    go_wp2
    go_ret
    exact ⟨rfl, V1.out⟩
  · subst h2
    rw [hn]
    have HV : Hid (Ew w a len p) := hv
    clear hv hn
    go_enter Try.func60, Try.ntmps60
    go_wp2_with fail
    have b1 := (Below.refl w.heap.size w).alloc (Nat.le_refl _) (.cells #[.int .i64 x0, .int .i64 2, .int .i64 x2] 45)
    have bx := Bx.lit w x0 2 x2 45
    refine (one1 x0 2 x2 _).mono ?_
    rintro e w1 ⟨rfl, hb⟩
    rw [h0]
    have V1 : Hid (Below w.heap.size w w1) := below_up rfl b1 hb
    have X1 : Hid (Bx w1 w.heap.size x0 2 x2) := bx.later hb
    clear hb bx b1
    obtain ⟨_, c0, c1, c2⟩ := X1.out
    go_wp2_with fail
    refine (says0 x2 _).mono ?_
    rintro e w2 ⟨rfl, e2⟩
    have b2 : Below w1.heap.size w1 w2 := by rw [e2]; exact (Below.refl _ _).alloc (Nat.le_refl _) _
    have B2 : Hid (Below w1.heap.size w1 w2) := b2
    have k2 : w2.cell? ⟨w1.heap.size, 0, none⟩ = some (.int .i64 x2) := by rw [e2]; simp
    have K2 : Hid (w2.cell? ⟨w1.heap.size, 0, none⟩ = some (.int .i64 x2)) := k2
    have V2 : Hid (Below w.heap.size w w2) := below_up rfl V1.out b2
    have X2 : Hid (Bx w2 w.heap.size x0 2 x2) := X1.out.later b2
    clear e2 b2 k2 c0 c1 c2
    go_wp2_with fail
    refine (contFunc a len cap p x2 w1.heap.size _ hm (HV.out.later V2.out) (block_lt_of_cell K2.out) K2.out).mono ?_
    rintro e w3 ⟨rfl, b3⟩
    rw [hs]
    have V3 : Hid (Below w.heap.size w w3) := below_up rfl V2.out b3
    have X3 : Hid (Bx w3 w.heap.size x0 2 x2) := X2.out.later b3
    obtain ⟨_, c0, c1, c2⟩ := X3.out
    clear b3 V1 X1 V2 X2 B2 K2
    go_wp2
    go_ret
    exact ⟨rfl, V3.out⟩
  · subst h2
    rw [hn]
    have HV : Hid (Ew w a len p) := hv
    clear hv hn
    go_enter Try.func60, Try.ntmps60
    go_wp2_with fail
    have b1 := (Below.refl w.heap.size w).alloc (Nat.le_refl _) (.cells #[.int .i64 x0, .int .i64 2, .int .i64 x2] 45)
    have bx := Bx.lit w x0 2 x2 45
    refine (one1 x0 2 x2 _).mono ?_
    rintro e w1 ⟨rfl, hb⟩
    rw [h0]
    have V1 : Hid (Below w.heap.size w w1) := below_up rfl b1 hb
    have X1 : Hid (Bx w1 w.heap.size x0 2 x2) := bx.later hb
    clear hb bx b1
    obtain ⟨_, c0, c1, c2⟩ := X1.out
    go_wp2_with fail
    refine (says0 x2 _).mono ?_
    rintro e w2 ⟨rfl, e2⟩
    have b2 : Below w1.heap.size w1 w2 := by rw [e2]; exact (Below.refl _ _).alloc (Nat.le_refl _) _
    have B2 : Hid (Below w1.heap.size w1 w2) := b2
    have k2 : w2.cell? ⟨w1.heap.size, 0, none⟩ = some (.int .i64 x2) := by rw [e2]; simp
    have K2 : Hid (w2.cell? ⟨w1.heap.size, 0, none⟩ = some (.int .i64 x2)) := k2
    have V2 : Hid (Below w.heap.size w w2) := below_up rfl V1.out b2
    have X2 : Hid (Bx w2 w.heap.size x0 2 x2) := X1.out.later b2
    clear e2 b2 k2 c0 c1 c2
    go_wp2_with fail
    refine (contFunc a len cap p x2 w1.heap.size _ hm (HV.out.later V2.out) (block_lt_of_cell K2.out) K2.out).mono ?_
    rintro e w3 ⟨rfl, b3⟩
    rw [hs]
    have V3 : Hid (Below w.heap.size w w3) := below_up rfl V2.out b3
    have X3 : Hid (Bx w3 w.heap.size x0 2 x2) := X2.out.later b3
    obtain ⟨_, c0, c1, c2⟩ := X3.out
    clear b3 V1 X1 V2 X2 B2 K2
    go_wp2
    go_ret
    exact ⟨rfl, V3.out⟩
  · subst h1
    rw [hn]
    have HV : Hid (Ew w a len p) := hv
    clear hv hn
    go_enter Try.func60, Try.ntmps60
    go_wp2_with fail
    have b1 := (Below.refl w.heap.size w).alloc (Nat.le_refl _) (.cells #[.int .i64 x0, .int .i64 1, .int .i64 x2] 45)
    have bx := Bx.lit w x0 1 x2 45
    refine (one1 x0 1 x2 _).mono ?_
    rintro e w1 ⟨rfl, hb⟩
    rw [h0]
    have V1 : Hid (Below w.heap.size w w1) := below_up rfl b1 hb
    have X1 : Hid (Bx w1 w.heap.size x0 1 x2) := bx.later hb
    clear hb bx b1
    generalize hq : p.any (says x2) = q
    obtain ⟨_, c0, c1, c2⟩ := X1.out
    go_wp2_with fail
    refine (says0 x2 _).mono ?_
    rintro e w2 ⟨rfl, e2⟩
    have b2 : Below w1.heap.size w1 w2 := by rw [e2]; exact (Below.refl _ _).alloc (Nat.le_refl _) _
    have B2 : Hid (Below w1.heap.size w1 w2) := b2
    have k2 : w2.cell? ⟨w1.heap.size, 0, none⟩ = some (.int .i64 x2) := by rw [e2]; simp
    have K2 : Hid (w2.cell? ⟨w1.heap.size, 0, none⟩ = some (.int .i64 x2)) := k2
    have V2 : Hid (Below w.heap.size w w2) := below_up rfl V1.out b2
    have X2 : Hid (Bx w2 w.heap.size x0 1 x2) := X1.out.later b2
    clear e2 b2 k2 c0 c1 c2
    go_wp2_with fail
    refine (contFunc a len cap p x2 w1.heap.size _ hm (HV.out.later V2.out) (block_lt_of_cell K2.out) K2.out).mono ?_
    rintro e w3 ⟨rfl, b3⟩
    rw [hq]
    have V3 : Hid (Below w.heap.size w w3) := below_up rfl V2.out b3
    have X3 : Hid (Bx w3 w.heap.size x0 1 x2) := X2.out.later b3
    obtain ⟨_, c0, c1, c2⟩ := X3.out
    clear b3 V1 X1 V2 X2 B2 K2
    go_wp2
    go_ret
    exact ⟨rfl, V3.out⟩
  · subst h3
    rw [hn]
    have HV : Hid (Ew w a len p) := hv
    clear hv hn
    go_enter Try.func60, Try.ntmps60
    go_wp2_with fail
    have b1 := (Below.refl w.heap.size w).alloc (Nat.le_refl _) (.cells #[.int .i64 x0, .int .i64 3, .int .i64 x2] 45)
    have bx := Bx.lit w x0 3 x2 45
    refine (one1 x0 3 x2 _).mono ?_
    rintro e w1 ⟨rfl, hb⟩
    rw [h0]
    have V1 : Hid (Below w.heap.size w w1) := below_up rfl b1 hb
    have X1 : Hid (Bx w1 w.heap.size x0 3 x2) := bx.later hb
    clear hb bx b1
    generalize hq : p.any (says x2) = q
    obtain ⟨_, c0, c1, c2⟩ := X1.out
    go_wp2_with fail
    refine (says0 x2 _).mono ?_
    rintro e w2 ⟨rfl, e2⟩
    have b2 : Below w1.heap.size w1 w2 := by rw [e2]; exact (Below.refl _ _).alloc (Nat.le_refl _) _
    have B2 : Hid (Below w1.heap.size w1 w2) := b2
    have k2 : w2.cell? ⟨w1.heap.size, 0, none⟩ = some (.int .i64 x2) := by rw [e2]; simp
    have K2 : Hid (w2.cell? ⟨w1.heap.size, 0, none⟩ = some (.int .i64 x2)) := k2
    have V2 : Hid (Below w.heap.size w w2) := below_up rfl V1.out b2
    have X2 : Hid (Bx w2 w.heap.size x0 3 x2) := X1.out.later b2
    clear e2 b2 k2 c0 c1 c2
    go_wp2_with fail
    refine (contFunc a len cap p x2 w1.heap.size _ hm (HV.out.later V2.out) (block_lt_of_cell K2.out) K2.out).mono ?_
    rintro e w3 ⟨rfl, b3⟩
    rw [hq]
    have V3 : Hid (Below w.heap.size w w3) := below_up rfl V2.out b3
    have X3 : Hid (Bx w3 w.heap.size x0 3 x2) := X2.out.later b3
    obtain ⟨_, c0, c1, c2⟩ := X3.out
    clear b3 V1 X1 V2 X2 B2 K2
    go_wp2_with fail
    refine (contEv a len cap p x0 3 x2 _ hm (HV.out.later V3.out)).mono ?_
    rintro e w4 ⟨rfl, b4⟩
    rw [hc]
    have V4 : Hid (Below w.heap.size w w4) := below_up rfl V3.out b4
    have X4 : Hid (Bx w4 w.heap.size x0 3 x2) := X3.out.later b4
    clear b4 c0 c1 c2
    obtain ⟨_, c0, c1, c2⟩ := X4.out
    go_wp2
    go_ret
    exact ⟨rfl, V4.out⟩
  · subst h3
    rw [hn]
    have HV : Hid (Ew w a len p) := hv
    clear hv hn
    go_enter Try.func60, Try.ntmps60
    go_wp2_with fail
    have b1 := (Below.refl w.heap.size w).alloc (Nat.le_refl _) (.cells #[.int .i64 x0, .int .i64 3, .int .i64 x2] 45)
    have bx := Bx.lit w x0 3 x2 45
    refine (one1 x0 3 x2 _).mono ?_
    rintro e w1 ⟨rfl, hb⟩
    rw [h0]
    have V1 : Hid (Below w.heap.size w w1) := below_up rfl b1 hb
    have X1 : Hid (Bx w1 w.heap.size x0 3 x2) := bx.later hb
    clear hb bx b1
    obtain ⟨_, c0, c1, c2⟩ := X1.out
    go_wp2_with fail
    refine (says0 x2 _).mono ?_
    rintro e w2 ⟨rfl, e2⟩
    have b2 : Below w1.heap.size w1 w2 := by rw [e2]; exact (Below.refl _ _).alloc (Nat.le_refl _) _
    have B2 : Hid (Below w1.heap.size w1 w2) := b2
    have k2 : w2.cell? ⟨w1.heap.size, 0, none⟩ = some (.int .i64 x2) := by rw [e2]; simp
    have K2 : Hid (w2.cell? ⟨w1.heap.size, 0, none⟩ = some (.int .i64 x2)) := k2
    have V2 : Hid (Below w.heap.size w w2) := below_up rfl V1.out b2
    have X2 : Hid (Bx w2 w.heap.size x0 3 x2) := X1.out.later b2
    clear e2 b2 k2 c0 c1 c2
    go_wp2_with fail
    refine (contFunc a len cap p x2 w1.heap.size _ hm (HV.out.later V2.out) (block_lt_of_cell K2.out) K2.out).mono ?_
    rintro e w3 ⟨rfl, b3⟩
    rw [hs]
    have V3 : Hid (Below w.heap.size w w3) := below_up rfl V2.out b3
    have X3 : Hid (Bx w3 w.heap.size x0 3 x2) := X2.out.later b3
    obtain ⟨_, c0, c1, c2⟩ := X3.out
    clear b3 V1 X1 V2 X2 B2 K2
    go_wp2_with fail
    refine (contEv a len cap p x0 3 x2 _ hm (HV.out.later V3.out)).mono ?_
    rintro e w4 ⟨rfl, b4⟩
    rw [hc]
    have V4 : Hid (Below w.heap.size w w4) := below_up rfl V3.out b4
    have X4 : Hid (Bx w4 w.heap.size x0 3 x2) := X3.out.later b4
    clear b4 c0 c1 c2
    obtain ⟨_, c0, c1, c2⟩ := X4.out
    go_wp2
    go_ret
    exact ⟨rfl, V4.out⟩
  · subst h3
    rw [hn]
    have HV : Hid (Ew w a len p) := hv
    clear hv hn
    go_enter Try.func60, Try.ntmps60
    go_wp2_with fail
    have b1 := (Below.refl w.heap.size w).alloc (Nat.le_refl _) (.cells #[.int .i64 x0, .int .i64 3, .int .i64 x2] 45)
    have bx := Bx.lit w x0 3 x2 45
    refine (one1 x0 3 x2 _).mono ?_
    rintro e w1 ⟨rfl, hb⟩
    rw [h0]
    have V1 : Hid (Below w.heap.size w w1) := below_up rfl b1 hb
    have X1 : Hid (Bx w1 w.heap.size x0 3 x2) := bx.later hb
    clear hb bx b1
    obtain ⟨_, c0, c1, c2⟩ := X1.out
    go_wp2_with fail
    refine (says0 x2 _).mono ?_
    rintro e w2 ⟨rfl, e2⟩
    have b2 : Below w1.heap.size w1 w2 := by rw [e2]; exact (Below.refl _ _).alloc (Nat.le_refl _) _
    have B2 : Hid (Below w1.heap.size w1 w2) := b2
    have k2 : w2.cell? ⟨w1.heap.size, 0, none⟩ = some (.int .i64 x2) := by rw [e2]; simp
    have K2 : Hid (w2.cell? ⟨w1.heap.size, 0, none⟩ = some (.int .i64 x2)) := k2
    have V2 : Hid (Below w.heap.size w w2) := below_up rfl V1.out b2
    have X2 : Hid (Bx w2 w.heap.size x0 3 x2) := X1.out.later b2
    clear e2 b2 k2 c0 c1 c2
    go_wp2_with fail
    refine (contFunc a len cap p x2 w1.heap.size _ hm (HV.out.later V2.out) (block_lt_of_cell K2.out) K2.out).mono ?_
    rintro e w3 ⟨rfl, b3⟩
    rw [hs]
    have V3 : Hid (Below w.heap.size w w3) := below_up rfl V2.out b3
    have X3 : Hid (Bx w3 w.heap.size x0 3 x2) := X2.out.later b3
    obtain ⟨_, c0, c1, c2⟩ := X3.out
    clear b3 V1 X1 V2 X2 B2 K2
    go_wp2_with fail
    refine (contEv a len cap p x0 3 x2 _ hm (HV.out.later V3.out)).mono ?_
    rintro e w4 ⟨rfl, b4⟩
    rw [hc]
    have V4 : Hid (Below w.heap.size w w4) := below_up rfl V3.out b4
    have X4 : Hid (Bx w4 w.heap.size x0 3 x2) := X3.out.later b4
    clear b4 c0 c1 c2
    obtain ⟨_, c0, c1, c2⟩ := X4.out
    go_wp2_with fail
    refine (contEv a len cap p x0 2 x2 _ hm (HV.out.later V4.out)).mono ?_
    rintro e w5 ⟨rfl, b5⟩
    rw [hd]
    have V5 : Hid (Below w.heap.size w w5) := below_up rfl V4.out b5
    clear b5 c0 c1 c2
    go_wp2
    go_ret
    exact ⟨rfl, V5.out⟩
  · subst h3
    rw [hn]
    have HV : Hid (Ew w a len p) := hv
    clear hv hn
    go_enter Try.func60, Try.ntmps60
    go_wp2_with fail
    have b1 := (Below.refl w.heap.size w).alloc (Nat.le_refl _) (.cells #[.int .i64 x0, .int .i64 3, .int .i64 x2] 45)
    have bx := Bx.lit w x0 3 x2 45
    refine (one1 x0 3 x2 _).mono ?_
    rintro e w1 ⟨rfl, hb⟩
    rw [h0]
    have V1 : Hid (Below w.heap.size w w1) := below_up rfl b1 hb
    have X1 : Hid (Bx w1 w.heap.size x0 3 x2) := bx.later hb
    clear hb bx b1
    obtain ⟨_, c0, c1, c2⟩ := X1.out
    go_wp2_with fail
    refine (says0 x2 _).mono ?_
    rintro e w2 ⟨rfl, e2⟩
    have b2 : Below w1.heap.size w1 w2 := by rw [e2]; exact (Below.refl _ _).alloc (Nat.le_refl _) _
    have B2 : Hid (Below w1.heap.size w1 w2) := b2
    have k2 : w2.cell? ⟨w1.heap.size, 0, none⟩ = some (.int .i64 x2) := by rw [e2]; simp
    have K2 : Hid (w2.cell? ⟨w1.heap.size, 0, none⟩ = some (.int .i64 x2)) := k2
    have V2 : Hid (Below w.heap.size w w2) := below_up rfl V1.out b2
    have X2 : Hid (Bx w2 w.heap.size x0 3 x2) := X1.out.later b2
    clear e2 b2 k2 c0 c1 c2
    go_wp2_with fail
    refine (contFunc a len cap p x2 w1.heap.size _ hm (HV.out.later V2.out) (block_lt_of_cell K2.out) K2.out).mono ?_
    rintro e w3 ⟨rfl, b3⟩
    rw [hs]
    have V3 : Hid (Below w.heap.size w w3) := below_up rfl V2.out b3
    have X3 : Hid (Bx w3 w.heap.size x0 3 x2) := X2.out.later b3
    obtain ⟨_, c0, c1, c2⟩ := X3.out
    clear b3 V1 X1 V2 X2 B2 K2
    go_wp2_with fail
    refine (contEv a len cap p x0 3 x2 _ hm (HV.out.later V3.out)).mono ?_
    rintro e w4 ⟨rfl, b4⟩
    rw [hc]
    have V4 : Hid (Below w.heap.size w w4) := below_up rfl V3.out b4
    have X4 : Hid (Bx w4 w.heap.size x0 3 x2) := X3.out.later b4
    clear b4 c0 c1 c2
    obtain ⟨_, c0, c1, c2⟩ := X4.out
    go_wp2_with fail
    refine (contEv a len cap p x0 2 x2 _ hm (HV.out.later V4.out)).mono ?_
    rintro e w5 ⟨rfl, b5⟩
    rw [hd]
    have V5 : Hid (Below w.heap.size w w5) := below_up rfl V4.out b5
    clear b5 c0 c1 c2
    go_wp2
    go_ret
    exact ⟨rfl, V5.out⟩
end Go.Proofs.Ytcccheeeagphpag.His

/-
  Contract of package history's Check: which event is the first that is wrong, and how.
-/
namespace Go.Proofs.Ytcccheeeagphpag.His
open Go.RowKit

def firstBad (h : List Ev) : Option Nat := (List.range h.length).find? fun i => decide (next (h.take i) (ev h i) ≠ 0)
def chkC (h : List Ev) : Int := if 60 < h.length then 4 else (match firstBad h with | none => 0 | some i => next (h.take i) (ev h i))
def chkAt (h : List Ev) : Int := if 60 < h.length then 0 else (match firstBad h with | none => 0 | some i => (i : Int))
theorem chk_full {h : List Ev} (hl : 60 < h.length) : chkC h = 4 ∧ chkAt h = 0 := by
  unfold chkC chkAt
  exact ⟨if_pos hl, if_pos hl⟩
theorem find_range_some {p : Nat → Bool} {n i : Nat} (hi : i < n) (hp : p i = true) (hb : ∀ j, j < i → p j = false) : (List.range n).find? p = some i := by
  rw [List.find?_range_eq_some]
  exact ⟨hp, List.mem_range.2 hi, fun j hj => by simp [hb j hj]⟩
theorem chk_bad {h : List Ev} {i : Nat} (hl : h.length ≤ 60) (hi : i < h.length) (hg : Good h i) (hn : next (h.take i) (ev h i) ≠ 0) : chkC h = next (h.take i) (ev h i) ∧ chkAt h = (i : Int) := by
  have hf : firstBad h = some i := find_range_some hi (decide_eq_true hn) fun j hj => decide_eq_false (by simp [hg j hj])
  unfold chkC chkAt
  rw [if_neg (by omega), if_neg (by omega), hf]
  exact ⟨rfl, rfl⟩
theorem chk_ok {h : List Ev} (hl : h.length ≤ 60) (hg : Good h h.length) : chkC h = 0 ∧ chkAt h = 0 := by
  have hf : firstBad h = none := by
    unfold firstBad
    rw [List.find?_eq_none]
    intro i hi
    rw [List.mem_range] at hi
    simp [hg i hi]
  unfold chkC chkAt
  rw [if_neg (by omega), if_neg (by omega), hf]
  exact ⟨rfl, rfl⟩
theorem chk_zero {h : List Ev} (hc : chkC h = 0) : h.length ≤ 60 ∧ Good h h.length := by
  by_cases hl : 60 < h.length
  · rw [(chk_full hl).1] at hc
    omega
  · refine ⟨by omega, ?_⟩
    cases hf : firstBad h with
    | none =>
      unfold firstBad at hf
      rw [List.find?_eq_none] at hf
      intro i hi
      have := hf i (List.mem_range.2 hi)
      simpa using this
    | some i =>
      exfalso
      have hp := List.find?_some hf
      unfold chkC at hc
      rw [if_neg hl, hf] at hc
      simp [hc] at hp
theorem ev_take {h : List Ev} {k j : Nat} (hj : j < k) : ev (h.take k) j = ev h j := by
  simp [ev, List.getD, List.getElem?_take_of_lt hj]
theorem Ew.take {w : World} {a : Option Addr} {len : Nat} {h : List Ev} (g : Ew w a len h) {k : Nat} (hk : k ≤ len) : Ew w a k (h.take k) := by
  refine ⟨by rw [List.length_take, g.1]; omega, fun h0 => ?_⟩
  obtain ⟨b, off, e, hlt, hc⟩ := g.2 (by omega)
  refine ⟨b, off, e, hlt, fun j hj => ?_⟩
  rw [ev_take hj]
  exact hc j (by omega)
theorem errV_ok : errV 0 = .nilIface := rfl
theorem errV_no {c : Int} (h : c ≠ 0) : errV c = .iface 54 (.int .i64 c) := by simp [errV, h]

set_option maxRecDepth 100000 in
theorem check_any (a : Option Addr) (len cap : Nat) (h : List Ev) (w : World) (hlc : len ≤ cap) (hm : cap ≤ maxLen) (hv : Ew w a len h) :
    Calls Try.prog 44 #[.slice a len cap] w fun x w' => x = .returned (.tuple #[.int .i64 (chkAt h), errV (chkC h)]) ∧ Below w.heap.size w w' := by
  have HL : Hid (h.length = len) := hv.1
  by_cases h60 : 60 < len
  · have h60' : (60 : Int) < (len : Int) := by omega
    have E := chk_full (h := h) (by rw [HL.out]; exact h60)
    rw [E.1, E.2]
    clear E hv
    go_enter Try.func44, Try.ntmps44
    go_wp2
    go_ret2
    exact ⟨rfl, Below.refl _ _⟩
  · have h60' : (len : Int) ≤ 60 := by omega
    have G : Hid (Ew w a len h) := hv
    have HM : Hid (len ≤ cap ∧ cap ≤ maxLen) := ⟨hlc, hm⟩
    unfold maxLen at hm
    clear hv
    go_enter Try.func44, Try.ntmps44
    go_wp2
    go_loopw [13] (fun i wr => ∃ k : Nat, k ≤ len ∧ i = .int .i64 k ∧ Hid (Below w.heap.size w wr) ∧ Hid (Good h k)) (fun i _ => len - (intOf i).toNat)
    case atStart => exact ⟨0, by omega, rfl, Below.refl _ _, fun j hj => absurd hj (by omega)⟩
    case round =>
      obtain ⟨k, hk, rfl, hbel, hp⟩ := hrel
      by_cases hlt : k < len
      · obtain ⟨b, off, rfl, hpb, hcs⟩ := (G.out.later hbel.out).2 (by omega)
        obtain ⟨c0, c1, c2⟩ := hcs k hlt
        obtain ⟨q, eq⟩ : ∃ q, q = ev h k := ⟨_, rfl⟩
        rw [← eq] at c0 c1 c2
        obtain ⟨q0, q1, q2⟩ := q
        have EQ : Hid _ := eq
        clear hcs eq hpb
        have hk0 : (0 : Int) ≤ (k : Int) := by omega
        have hkl : (k : Int) < (len : Int) := by omega
        have hkc : (k : Int) ≤ (cap : Int) := by omega
        have BQ : Hid (Below w.heap.size w (wr.alloc (.cells #[.int .i64 q0, .int .i64 q1, .int .i64 q2] 45)).drew) := (hbel.out.alloc hbel.out.size _).drew
        have g1 : Hid (k ≤ maxLen) := by have := HM.out; show k ≤ maxLen; omega
        have hkl' : Hid (k ≤ len) := by show k ≤ len; omega
        by_cases hn : next (h.take k) (ev h k) = 0
        · go_wp2_with fail
          go_region_with (go_at_call 60; refine (checkNext_any (some ⟨b, off, none⟩) k cap (h.take k) q0 q1 q2 _ g1.out ((G.out.later BQ.out).take hkl'.out)).mono ?_; rintro e w1 ⟨rfl, hb⟩; rw [EQ.out, hn, errV_ok])
          go_wp2
          go_roundw
          case rel => exact ⟨k + 1, by omega, by go_num, below_up rfl BQ.out hb, fun j hj => if e : j < k then hp.out j e else by rw [show j = k by omega]; exact hn⟩
          case measure => simp [intOf]; omega
        · have HN : Hid (next (h.take k) (ev h k) ≠ 0) := hn
          have E : Hid _ := chk_bad (h := h) (by rw [HL.out]; omega) (by rw [HL.out]; exact hlt) hp.out hn
          go_wp2_with fail
          go_region_with (go_at_call 60; refine (checkNext_any (some ⟨b, off, none⟩) k cap (h.take k) q0 q1 q2 _ g1.out ((G.out.later BQ.out).take hkl'.out)).mono ?_; rintro e w1 ⟨rfl, hb⟩; rw [EQ.out, errV_no hn])
          go_wp2
          go_ret2
          refine ⟨?_, below_up rfl BQ.out hb⟩
          rw [E.out.1, E.out.2, errV_no HN.out]
          rfl
      · have hkl : k = len := by omega
        subst hkl
        have E : Hid _ := chk_ok (h := h) (by rw [HL.out]; omega) (by rw [HL.out]; exact hp.out)
        go_wp2
        go_ret2
        refine ⟨?_, hbel.out⟩
        rw [E.out.1, E.out.2]
        rfl
end Go.Proofs.Ytcccheeeagphpag.His

/-
  Plain facts on rows in memory and on what an event reaches.
-/
namespace Go.Proofs.Ytcccheeeagphpag.His
open Go.RowKit

theorem rowIs_later {w w' : World} {b : Nat} {t : TypeId} {n : Nat} {f : Nat → Value} (h : w.rowIs b t n f) (hb : Below w.heap.size w w') : w'.rowIs b t n f := h.of_block (hb.block b h.lt)

theorem wp_gen {P : Program} {c : Code} {Q : Exit → Act → World → Prop} {a : Act} {w : World} (R : World → Prop) (h : R w) (k : ∀ w', R w' → Code.wp P c Q a w') : Code.wp P c Q a w := k w h

theorem list5 {r : List Int} (h : r.length = 5) : [r.getD 0 0, r.getD 1 0, r.getD 2 0, r.getD 3 0, r.getD 4 0] = r := by
  match r, h with
  | [a, b, c, d, e], _ => rfl
theorem last_bd {h : List Ev} {N n : Nat} (hg : Good h N) (hn : n < N) (m : Nat) : 0 ≤ (last h n (W h n)).getD m 0 ∧ (last h n (W h n)).getD m 0 ≤ n := by
  rcases last_spec h (W h n) n with ⟨j, h1, h2, h3, h4⟩ | ⟨_, h2⟩
  · rw [h4]
    have := row_nonneg hg (show j < N by omega) m
    have := row_le hg (show j < N by omega) m
    have := cnt_le h m (j + 1)
    omega
  · rw [h2]
    rcases m with _ | _ | _ | _ | _ | m <;> simp [zero5]
theorem row_bd {h : List Ev} {N n : Nat} (hg : Good h N) (hn : n < N) (m : Nat) : 0 ≤ (row h n).getD m 0 ∧ (row h n).getD m 0 ≤ n + 1 := by
  have := row_nonneg hg hn m
  have := row_le hg hn m
  have := cnt_le h m (n + 1)
  omega
theorem row_plain {h : List Ev} {n : Nat} (h3 : (ev h n).2.1 ≠ 3) : row h n = upd (last h n (W h n)) (W h n) := by
  unfold row far
  rw [if_neg h3]
  rfl
theorem row_hear {h : List Ev} {N n : Nat} (hg : Good h N) (hn : n < N) (h3 : (ev h n).2.1 = 3) : row h n = upd (joinR (last h n (W h n)) (row h (sayAt h (ev h n).2.2))) (W h n) := by
  have e : row h n = upd (if (ev h n).2.1 = 3 then joinR (last h n (W h n)) ((st h n).1.getD (sayAt h (ev h n).2.2) zero5) else last h n (W h n)) (W h n) := rfl
  rw [e, if_pos h3, st_get h n _ (sayAt_lt hg hn h3).1]

theorem Bx.set {w : World} {B F i : Nat} {x0 x1 x2 : Int} (h : Bx w B x0 x1 x2) (hne : B ≠ F) (v : Value) : Bx (w.setCell ⟨F, i, none⟩ v) B x0 x1 x2 := by
  have key : ∀ j, (w.setCell ⟨F, i, none⟩ v).cell? ⟨B, j, none⟩ = w.cell? ⟨B, j, none⟩ := fun j => World.cell?_setCell_other _ _ _ _ (fun e => hne (congrArg Addr.block e).symm)
  refine ⟨?_, by rw [key]; exact h.2.1, by rw [key]; exact h.2.2.1, by rw [key]; exact h.2.2.2⟩
  have := h.1
  simpa [World.setCell] using this
end Go.Proofs.Ytcccheeeagphpag.His

/-
  Plain facts on numbers of events: each is above those of what is straight ahead of it; so it is above those of all that is ahead; no two of one member are the same.
-/
namespace Go.Proofs.Ytcccheeeagphpag.His

def nfar (h : List Ev) (n : Nat) (s : List Int × (Nat → Int)) : Int :=
  max (s.2 (W h n)) (if (ev h n).2.1 = 3 then s.1.getD (sayAt h (ev h n).2.2) 0 else 0) + 1
def nst (h : List Ev) : Nat → List Int × (Nat → Int)
  | 0 => ([], fun _ => 0)
  | n + 1 => ((nst h n).1 ++ [nfar h n (nst h n)], fun m => if m = W h n then nfar h n (nst h n) else (nst h n).2 m)
def num (h : List Ev) (n : Nat) : Int := nfar h n (nst h n)
def nlast (h : List Ev) (n m : Nat) : Int := (nst h n).2 m

theorem nst_len (h : List Ev) (n : Nat) : (nst h n).1.length = n := by
  induction n with
  | zero => rfl
  | succ n ih => simp [nst, ih]
theorem nst_get (h : List Ev) (n j : Nat) (hj : j < n) : (nst h n).1.getD j 0 = num h j := by
  induction n with
  | zero => omega
  | succ n ih =>
    simp only [nst]
    rcases Nat.lt_or_ge j n with h1 | h1
    · rw [← ih h1]
      simp [List.getD, List.getElem?_append_left (show j < (nst h n).1.length by rw [nst_len]; exact h1)]
    · obtain rfl : j = n := by omega
      simp [List.getD, nst_len, num]
theorem nlast_step (h : List Ev) (n m : Nat) : nlast h (n + 1) m = if m = W h n then num h n else nlast h n m := rfl
theorem nlast_spec (h : List Ev) (m n : Nat) :
    (∃ j, j < n ∧ W h j = m ∧ (∀ j', j < j' → j' < n → W h j' ≠ m) ∧ nlast h n m = num h j) ∨ ((∀ j, j < n → W h j ≠ m) ∧ nlast h n m = 0) := by
  induction n with
  | zero => exact .inr ⟨fun j hj => absurd hj (Nat.not_lt_zero _), rfl⟩
  | succ n ih =>
    rw [nlast_step]
    by_cases hm : m = W h n
    · rw [if_pos hm]
      exact .inl ⟨n, Nat.lt_succ_self n, hm.symm, fun j' h1 h2 => by omega, rfl⟩
    · rw [if_neg hm]
      rcases ih with ⟨j, h1, h2, h3, h4⟩ | ⟨h1, h2⟩
      · refine .inl ⟨j, Nat.lt_succ_of_lt h1, h2, fun j' a b => ?_, h4⟩
        rcases Nat.lt_succ_iff_lt_or_eq.1 b with b | rfl
        · exact h3 j' a b
        · exact fun e => hm e.symm
      · refine .inr ⟨fun j hj => ?_, h2⟩
        rcases Nat.lt_succ_iff_lt_or_eq.1 hj with b | rfl
        · exact h1 j b
        · exact fun e => hm e.symm
/-- what a number is above -/
theorem num_get {h : List Ev} {N n : Nat} (hg : Good h N) (hn : n < N) :
    num h n = max (nlast h n (W h n)) (if (ev h n).2.1 = 3 then num h (sayAt h (ev h n).2.2) else 0) + 1 := by
  have e : num h n = max (nlast h n (W h n)) (if (ev h n).2.1 = 3 then (nst h n).1.getD (sayAt h (ev h n).2.2) 0 else 0) + 1 := rfl
  rw [e]
  by_cases h3 : (ev h n).2.1 = 3
  · rw [if_pos h3, if_pos h3, nst_get h n _ (sayAt_lt hg hn h3).1]
  · rw [if_neg h3, if_neg h3]
theorem num_bounds {h : List Ev} {N : Nat} (hg : Good h N) : ∀ n, n < N → 1 ≤ num h n ∧ num h n ≤ n + 1 := by
  intro n
  induction n using Nat.strongRecOn with
  | _ n ih =>
    intro hn
    have hl : 0 ≤ nlast h n (W h n) ∧ nlast h n (W h n) ≤ n := by
      rcases nlast_spec h (W h n) n with ⟨j, h1, _, _, h4⟩ | ⟨_, h4⟩
      · rw [h4]
        have := ih j h1 (by omega)
        omega
      · rw [h4]; omega
    have hs : (if (ev h n).2.1 = 3 then num h (sayAt h (ev h n).2.2) else 0) ≤ (n : Int) := by
      by_cases h3 : (ev h n).2.1 = 3
      · rw [if_pos h3]
        have h4 := (sayAt_lt hg hn h3).1
        have := ih _ h4 (by omega)
        omega
      · rw [if_neg h3]; omega
    rw [num_get hg hn]
    omega
theorem nlast_bounds {h : List Ev} {N n : Nat} (hg : Good h N) (hn : n ≤ N) (m : Nat) : 0 ≤ nlast h n m ∧ nlast h n m ≤ n := by
  rcases nlast_spec h m n with ⟨j, h1, _, _, h4⟩ | ⟨_, h4⟩
  · rw [h4]
    have := num_bounds hg j (by omega)
    omega
  · rw [h4]; omega
theorem nlast_less {h : List Ev} {N n : Nat} (hg : Good h N) (hn : n < N) : nlast h n (W h n) < num h n := by
  rw [num_get hg hn]
  omega
theorem nsay_less {h : List Ev} {N n : Nat} (hg : Good h N) (hn : n < N) (h3 : (ev h n).2.1 = 3) : num h (sayAt h (ev h n).2.2) < num h n := by
  rw [num_get hg hn, if_pos h3]
  omega
/-- of one member what was earlier has less -/
theorem mem_less {h : List Ev} {N : Nat} (hg : Good h N) : ∀ n, n < N → ∀ j, j < n → W h j = W h n → num h j < num h n := by
  intro n
  induction n using Nat.strongRecOn with
  | _ n ih =>
    intro hn j hj hw
    have hb := nlast_less hg hn
    rcases nlast_spec h (W h n) n with ⟨l, h1, h2, h3, h4⟩ | ⟨h1, _⟩
    · rw [h4] at hb
      rcases Nat.lt_trichotomy j l with a | rfl | a
      · have := ih l h1 (by omega) j a (hw.trans h2.symm)
        omega
      · exact hb
      · exact absurd hw (h3 j a hj)
    · exact absurd hw (h1 j hj)
theorem num_one {h : List Ev} {N i k : Nat} (hg : Good h N) (hi : i < N) (hk : k < N) (he : num h i = num h k) (hw : W h i = W h k) : i = k := by
  rcases Nat.lt_trichotomy i k with a | a | a
  · have := mem_less hg k hk i a hw
    omega
  · exact a
  · have := mem_less hg i hi k a hw.symm
    omega
/-- what is ahead has less -/
theorem dom_less {h : List Ev} {N : Nat} (hg : Good h N) : ∀ k, k < N → ∀ i, own h i ≤ (row h k).getD (W h i) 0 → i = k ∨ num h i < num h k := by
  intro k
  induction k using Nat.strongRecOn with
  | _ k ih =>
    intro hk i hi
    by_cases hw : W h i = W h k
    · rw [hw, row_self hg hk] at hi
      have hik : i < k + 1 := own_le (by rw [hw]; exact hi)
      rcases Nat.lt_or_ge i k with a | a
      · exact .inr (mem_less hg k hk i a hw)
      · exact .inl (by omega)
    · right
      have hp := own_pos h i
      have hr := row_get hg hk (W h i)
      rw [if_neg (show ¬ W h k = W h i from fun e => hw e.symm)] at hr
      have hcase : own h i ≤ (last h k (W h k)).getD (W h i) 0 ∨ ((ev h k).2.1 = 3 ∧ own h i ≤ (row h (sayAt h (ev h k).2.2)).getD (W h i) 0) := by
        by_cases h3 : (ev h k).2.1 = 3
        · rw [if_pos h3] at hr
          rcases Int.le_total ((last h k (W h k)).getD (W h i) 0) ((row h (sayAt h (ev h k).2.2)).getD (W h i) 0) with a | a
          · right; exact ⟨h3, by omega⟩
          · left; omega
        · rw [if_neg h3] at hr
          left; omega
      rcases hcase with hl | ⟨h3, hl⟩
      · rcases last_spec h (W h k) k with ⟨l, h1, h2, _, h4⟩ | ⟨_, h2⟩
        · rw [h4] at hl
          have hlk := mem_less hg k hk l h1 h2
          rcases ih l h1 (by omega) i hl with rfl | b
          · exact hlk
          · omega
        · rw [h2] at hl
          generalize W h i = x at hl
          rcases x with _ | _ | _ | _ | _ | x <;> simp [zero5] at hl <;> omega
      · have hsl := nsay_less hg hk h3
        have hs := (sayAt_lt hg hk h3).1
        rcases ih _ hs (by omega) i hl with e | b
        · rw [e]; exact hsl
        · omega
theorem bef_less {h : List Ev} {N i k : Nat} (hg : Good h N) (hi : i < N) (hk : k < N) (hb : bef h i k = true) : num h i < num h k := by
  obtain ⟨a, b⟩ := (bef_iff hg hi).1 hb
  rcases dom_less hg k hk i b with e | e
  · exact absurd e a
  · exact e
/-- ahead just if below, and two -/
theorem bef_leR {h : List Ev} {N i k : Nat} (hg : Good h N) (hi : i < N) (hk : k < N) : bef h i k = (leR (row h i) (row h k) && decide (i ≠ k)) := by
  rw [Bool.eq_iff_iff, bef_iff hg hi, Bool.and_eq_true, decide_eq_true_eq]
  constructor
  · rintro ⟨a, b⟩
    exact ⟨leR_of fun m _ => (dom hg k hk i b).2 m, a⟩
  · rintro ⟨a, b⟩
    refine ⟨b, ?_⟩
    have := leR_get a (W h i) (W_lt hg hi)
    rwa [row_self hg hi] at this

/-! by numbers, then by members -/
def lt2 (h : List Ev) (i k : Nat) : Prop := num h i < num h k ∨ (num h i = num h k ∧ (ev h i).1 < (ev h k).1)
theorem lt2_trans {h : List Ev} {i k j : Nat} (a : lt2 h i k) (b : lt2 h k j) : lt2 h i j := by
  unfold lt2 at *
  omega
theorem lt2_irr {h : List Ev} {i : Nat} : ¬ lt2 h i i := by
  unfold lt2
  omega
theorem who_eq {h : List Ev} {N i k : Nat} (hg : Good h N) (hi : i < N) (hk : k < N) : (ev h i).1 = (ev h k).1 ↔ W h i = W h k := by
  have := W_cast hg hi
  have := W_cast hg hk
  omega
theorem lt2_total {h : List Ev} {N i k : Nat} (hg : Good h N) (hi : i < N) (hk : k < N) (a : ¬ lt2 h i k) (b : ¬ lt2 h k i) : i = k := by
  unfold lt2 at *
  have e : num h i = num h k := by omega
  have e2 : (ev h i).1 = (ev h k).1 := by omega
  exact num_one hg hi hk e ((who_eq hg hi hk).1 e2)
/-- an order: all events, each once, by numbers and members -/
def IsOrd (h : List Ev) (n : Nat) (o : List Nat) : Prop := o.Pairwise (lt2 h) ∧ ∀ i, i ∈ o ↔ i < n
theorem isOrd_one {h : List Ev} : ∀ {a b : List Nat}, a.Pairwise (lt2 h) → b.Pairwise (lt2 h) → (∀ i, i ∈ a ↔ i ∈ b) → a = b := by
  intro a
  induction a with
  | nil =>
    intro b _ _ hm
    cases b with
    | nil => rfl
    | cons x b => exact absurd ((hm x).2 (List.mem_cons_self ..)) (List.not_mem_nil)
  | cons x a ih =>
    intro b ha hb hm
    cases b with
    | nil => exact absurd ((hm x).1 (List.mem_cons_self ..)) (List.not_mem_nil)
    | cons y b =>
      rw [List.pairwise_cons] at ha hb
      have hxy : x = y := by
        rcases List.mem_cons.1 ((hm x).1 (List.mem_cons_self ..)) with e | e
        · exact e
        · rcases List.mem_cons.1 ((hm y).2 (List.mem_cons_self ..)) with e2 | e2
          · exact e2.symm
          · exact absurd (lt2_trans (ha.1 y e2) (hb.1 x e)) lt2_irr
      subst hxy
      congr 1
      refine ih ha.2 hb.2 fun i => ?_
      constructor
      · intro hi
        rcases List.mem_cons.1 ((hm i).1 (List.mem_cons_of_mem _ hi)) with e | e
        · exact absurd (e ▸ ha.1 i hi) lt2_irr
        · exact e
      · intro hi
        rcases List.mem_cons.1 ((hm i).2 (List.mem_cons_of_mem _ hi)) with e | e
        · exact absurd (e ▸ hb.1 i hi) lt2_irr
        · exact e
end Go.Proofs.Ytcccheeeagphpag.His

/-
  Contracts of package clock's saidAt, nextNumber and nextVector.
-/
namespace Go.Proofs.Ytcccheeeagphpag.His
open Go.RowKit

theorem said1 (who what wd : Int) (word : Int) (B : Nat) (w : World) (hv : w.cell? ⟨B, 0, none⟩ = some (.int .i64 word)) :
    Calls Try.prog 68 #[.agg #[.int .i64 who, .int .i64 what, .int .i64 wd], .pointer (some ⟨B, 0, none⟩)] w fun x w' => x = .returned (.bool (says word (who, what, wd))) ∧ Below w.heap.size w w' := by
  have hB := block_lt_of_cell hv
  by_cases h2 : what = 2
  · subst h2
    go_enter Try.func68, Try.ntmps68
    go_wp2
    go_ret
    exact ⟨ret_bool (by rw [Bool.eq_iff_iff]; simp [says]), (Below.refl _ _).alloc (Nat.le_refl _) _⟩
  · have h2' : (what == 2) = false := by simp [h2]
    go_enter Try.func68, Try.ntmps68
    go_wp2
    go_ret
    exact ⟨ret_bool (by simp [says, h2]), (Below.refl _ _).alloc (Nat.le_refl _) _⟩

theorem idxFunc2 (a : Option Addr) (len cap : Nat) (h : List Ev) (word : Int) (B : Nat) (w : World) (hm : len ≤ maxLen) (hv : Ew w a len h) (hB : B < w.heap.size) (hc : w.cell? ⟨B, 0, none⟩ = some (.int .i64 word)) :
    Calls Try.prog 56 #[.slice a len cap, .func (.func 68) #[] #[.pointer (some ⟨B, 0, none⟩)]] w fun x w' => x = .returned (.int .i64 (idxI (says word) h)) ∧ Below w.heap.size w w' := by
  unfold maxLen at hm
  have H1 : Hid (h.length = len) := hv.1
  have G : Hid (Ew w a len h) := hv
  have HC : Hid (B < w.heap.size ∧ w.cell? ⟨B, 0, none⟩ = some (.int .i64 word)) := ⟨hB, hc⟩
  clear hv hB hc
  go_enter Try.func56, Try.ntmps56
  go_wp2
  go_loopw [8] (fun i wr => ∃ k : Nat, k ≤ len ∧ i = .int .i64 k ∧ Hid (Below w.heap.size w wr) ∧ Hid (∀ j, j < k → says word (ev h j) = false)) (fun i _ => len - (intOf i).toNat)
  case atStart => exact ⟨0, by omega, rfl, Below.refl _ _, fun j hj => absurd hj (by omega)⟩
  case round =>
    obtain ⟨k, hk, rfl, hbel, hp⟩ := hrel
    by_cases hlt : k < len
    · obtain ⟨b, off, rfl, hpb, hcs⟩ := (G.out.later hbel.out).2 (by omega)
      obtain ⟨c0, c1, c2⟩ := hcs k hlt
      have hBw : wr.cell? ⟨B, 0, none⟩ = some (.int .i64 word) := (hbel.out.cell (p := ⟨B, 0, none⟩) HC.out.1).trans HC.out.2
      obtain ⟨q, eq⟩ : ∃ q, q = ev h k := ⟨_, rfl⟩
      rw [← eq] at c0 c1 c2
      obtain ⟨q0, q1, q2⟩ := q
      have EQ : Hid _ := eq
      have HBW : Hid _ := hBw
      clear hcs eq hBw hpb
      have hk0 : (0 : Int) ≤ (k : Int) := by omega
      have hkl : (k : Int) < (len : Int) := by omega
      cases hb : says word (ev h k)
      · go_wp2_with (go_at_call 68; refine (said1 q0 q1 q2 word B _ HBW.out).mono ?_; rintro e w' ⟨rfl, hb2⟩; rw [EQ.out, hb])
        go_roundw
        case rel => exact ⟨k + 1, by omega, by go_num, below_up rfl hbel.out hb2, fun j hj => if e : j < k then hp.out j e else by rw [show j = k by omega]; exact hb⟩
        case measure => simp [intOf]; omega
      · go_wp2_with (go_at_call 68; refine (said1 q0 q1 q2 word B _ HBW.out).mono ?_; rintro e w' ⟨rfl, hb2⟩; rw [EQ.out, hb])
        go_ret
        exact ⟨ret_int (idx_hit (by rw [H1.out]; exact hlt) hb hp.out).symm, below_up rfl hbel.out hb2⟩
    · go_wp2
      go_ret
      refine ⟨ret_int ?_, hbel.out⟩
      rw [idxI, if_neg]
      rw [idx_miss fun j hj => hp.out j (by have := H1.out; omega)]
      decide


theorem saidAt1 (a : Option Addr) (len cap : Nat) (h : List Ev) (word : Int) (w : World) (hm : len ≤ maxLen) (hv : Ew w a len h) :
    Calls Try.prog 61 #[.slice a len cap, .int .i64 word] w fun x w' => x = .returned (.int .i64 (idxI (says word) h)) ∧ Below w.heap.size w w' := by
  have B1 : Hid (Below w.heap.size w (w.alloc (.cells #[.int .i64 word] 3))) := (Below.refl _ _).alloc (Nat.le_refl _) _
  go_enter Try.func61, Try.ntmps61
  go_wp2_with fail
  refine (idxFunc2 a len cap h word w.heap.size _ hm (hv.later B1.out) (by simp) (by simp)).mono ?_
  rintro e w1 ⟨rfl, hb⟩
  clear hv
  go_wp2
  go_ret
  exact ⟨rfl, below_up rfl B1.out hb⟩
theorem idx_say2 {h : List Ev} {N n : Nat} (hg : Good h N) (hn : n < N) (h3 : (ev h n).2.1 = 3) : idxI (says (ev h n).2.2) h = (sayAt h (ev h n).2.2 : Nat) := by
  have ha : h.any (says (ev h n).2.2) = true := by
    obtain ⟨x, hx, hp⟩ := List.any_eq_true.1 (good_said hg hn h3)
    exact List.any_eq_true.2 ⟨x, List.mem_of_mem_take hx, hp⟩
  rw [idxI, if_pos ha]
  rfl

set_option maxRecDepth 100000 in
set_option maxHeartbeats 4000000 in
theorem nextVector1 (m : Nat) (hm : m < 5) (a0 a1 a2 a3 a4 b0 b1 b2 b3 b4 : Int) (w : World)
    (ha : (0 ≤ a0 ∧ a0 ≤ 60) ∧ (0 ≤ a1 ∧ a1 ≤ 60) ∧ (0 ≤ a2 ∧ a2 ≤ 60) ∧ (0 ≤ a3 ∧ a3 ≤ 60) ∧ (0 ≤ a4 ∧ a4 ≤ 60)) (hb : (0 ≤ b0 ∧ b0 ≤ 60) ∧ (0 ≤ b1 ∧ b1 ≤ 60) ∧ (0 ≤ b2 ∧ b2 ≤ 60) ∧ (0 ≤ b3 ∧ b3 ≤ 60) ∧ (0 ≤ b4 ∧ b4 ≤ 60)) :
    Calls Try.prog 46 #[.int .i64 (m : Int), .agg #[.int .i64 a0, .int .i64 a1, .int .i64 a2, .int .i64 a3, .int .i64 a4], .agg #[.int .i64 b0, .int .i64 b1, .int .i64 b2, .int .i64 b3, .int .i64 b4]] w
      fun x w' => (∃ r0 r1 r2 r3 r4 : Int, x = .returned (.agg #[.int .i64 r0, .int .i64 r1, .int .i64 r2, .int .i64 r3, .int .i64 r4]) ∧ [r0, r1, r2, r3, r4] = upd (joinR [a0, a1, a2, a3, a4] [b0, b1, b2, b3, b4]) m) ∧ Below w.heap.size w w' := by
  have i0 : ∀ w : World, (Instr.index 95 (.agg #[.int .i64 b0, .int .i64 b1, .int .i64 b2, .int .i64 b3, .int .i64 b4]) (.int .i64 0)).run Try.prog w = .ok (.int .i64 b0) w := fun _ => by kernel_rfl
  have i1 : ∀ w : World, (Instr.index 95 (.agg #[.int .i64 b0, .int .i64 b1, .int .i64 b2, .int .i64 b3, .int .i64 b4]) (.int .i64 1)).run Try.prog w = .ok (.int .i64 b1) w := fun _ => by kernel_rfl
  have i2 : ∀ w : World, (Instr.index 95 (.agg #[.int .i64 b0, .int .i64 b1, .int .i64 b2, .int .i64 b3, .int .i64 b4]) (.int .i64 2)).run Try.prog w = .ok (.int .i64 b2) w := fun _ => by kernel_rfl
  have i3 : ∀ w : World, (Instr.index 95 (.agg #[.int .i64 b0, .int .i64 b1, .int .i64 b2, .int .i64 b3, .int .i64 b4]) (.int .i64 3)).run Try.prog w = .ok (.int .i64 b3) w := fun _ => by kernel_rfl
  have i4 : ∀ w : World, (Instr.index 95 (.agg #[.int .i64 b0, .int .i64 b1, .int .i64 b2, .int .i64 b3, .int .i64 b4]) (.int .i64 4)).run Try.prog w = .ok (.int .i64 b4) w := fun _ => by kernel_rfl
  have m0 : (if a0 < b0 then b0 else a0) = max a0 b0 := by omega
  have m1 : (if a1 < b1 then b1 else a1) = max a1 b1 := by omega
  have m2 : (if a2 < b2 then b2 else a2) = max a2 b2 := by omega
  have m3 : (if a3 < b3 then b3 else a3) = max a3 b3 := by omega
  have m4 : (if a4 < b4 then b4 else a4) = max a4 b4 := by omega
  obtain ⟨c0, e0⟩ : ∃ c, c = max a0 b0 := ⟨_, rfl⟩
  obtain ⟨c1, e1⟩ : ∃ c, c = max a1 b1 := ⟨_, rfl⟩
  obtain ⟨c2, e2⟩ : ∃ c, c = max a2 b2 := ⟨_, rfl⟩
  obtain ⟨c3, e3⟩ : ∃ c, c = max a3 b3 := ⟨_, rfl⟩
  obtain ⟨c4, e4⟩ : ∃ c, c = max a4 b4 := ⟨_, rfl⟩
  rw [← e0] at m0
  rw [← e1] at m1
  rw [← e2] at m2
  rw [← e3] at m3
  rw [← e4] at m4
  have hc : (0 ≤ c0 ∧ c0 ≤ 60) ∧ (0 ≤ c1 ∧ c1 ≤ 60) ∧ (0 ≤ c2 ∧ c2 ≤ 60) ∧ (0 ≤ c3 ∧ c3 ≤ 60) ∧ (0 ≤ c4 ∧ c4 ≤ 60) := by omega
  have HJ : Hid (joinR [a0, a1, a2, a3, a4] [b0, b1, b2, b3, b4] = [c0, c1, c2, c3, c4]) := by rw [e0, e1, e2, e3, e4]; rfl
  obtain ⟨hc0, hc1, hc2, hc3, hc4⟩ := hc
  clear e0 e1 e2 e3 e4 ha hb
  have hm' : m = 0 ∨ m = 1 ∨ m = 2 ∨ m = 3 ∨ m = 4 := by omega
  clear hm
  rcases hm' with rfl | rfl | rfl | rfl | rfl
  · go_enter Try.func46, Try.ntmps46
    go_wp2
    refine wp_loop_rounds 6 ?_
    rw [rounds_succ]; go_wp2
    rw [rounds_succ]; go_wp2
    rw [rounds_succ]; go_wp2
    rw [rounds_succ]; go_wp2
    rw [rounds_succ]; go_wp2
    rw [rounds_succ]; go_wp2
    refine bodyPost_ret (v := .agg #[.int .i64 (c0 + 1), .int .i64 c1, .int .i64 c2, .int .i64 c3, .int .i64 c4]) ?_ rfl ?_
    · have u3 := Try.underlying3
      simp [results, Try.results46, go_sem]
    · exact ⟨⟨(c0 + 1), c1, c2, c3, c4, rfl, by rw [HJ.out]; rfl⟩, (((Below.refl _ _).alloc (Nat.le_refl _) _).alloc (by simp) _).alloc (by simp; omega) _⟩
  · go_enter Try.func46, Try.ntmps46
    go_wp2
    refine wp_loop_rounds 6 ?_
    rw [rounds_succ]; go_wp2
    rw [rounds_succ]; go_wp2
    rw [rounds_succ]; go_wp2
    rw [rounds_succ]; go_wp2
    rw [rounds_succ]; go_wp2
    rw [rounds_succ]; go_wp2
    refine bodyPost_ret (v := .agg #[.int .i64 c0, .int .i64 (c1 + 1), .int .i64 c2, .int .i64 c3, .int .i64 c4]) ?_ rfl ?_
    · have u3 := Try.underlying3
      simp [results, Try.results46, go_sem]
    · exact ⟨⟨c0, (c1 + 1), c2, c3, c4, rfl, by rw [HJ.out]; rfl⟩, (((Below.refl _ _).alloc (Nat.le_refl _) _).alloc (by simp) _).alloc (by simp; omega) _⟩
  · go_enter Try.func46, Try.ntmps46
    go_wp2
    refine wp_loop_rounds 6 ?_
    rw [rounds_succ]; go_wp2
    rw [rounds_succ]; go_wp2
    rw [rounds_succ]; go_wp2
    rw [rounds_succ]; go_wp2
    rw [rounds_succ]; go_wp2
    rw [rounds_succ]; go_wp2
    refine bodyPost_ret (v := .agg #[.int .i64 c0, .int .i64 c1, .int .i64 (c2 + 1), .int .i64 c3, .int .i64 c4]) ?_ rfl ?_
    · have u3 := Try.underlying3
      simp [results, Try.results46, go_sem]
    · exact ⟨⟨c0, c1, (c2 + 1), c3, c4, rfl, by rw [HJ.out]; rfl⟩, (((Below.refl _ _).alloc (Nat.le_refl _) _).alloc (by simp) _).alloc (by simp; omega) _⟩
  · go_enter Try.func46, Try.ntmps46
    go_wp2
    refine wp_loop_rounds 6 ?_
    rw [rounds_succ]; go_wp2
    rw [rounds_succ]; go_wp2
    rw [rounds_succ]; go_wp2
    rw [rounds_succ]; go_wp2
    rw [rounds_succ]; go_wp2
    rw [rounds_succ]; go_wp2
    refine bodyPost_ret (v := .agg #[.int .i64 c0, .int .i64 c1, .int .i64 c2, .int .i64 (c3 + 1), .int .i64 c4]) ?_ rfl ?_
    · have u3 := Try.underlying3
      simp [results, Try.results46, go_sem]
    · exact ⟨⟨c0, c1, c2, (c3 + 1), c4, rfl, by rw [HJ.out]; rfl⟩, (((Below.refl _ _).alloc (Nat.le_refl _) _).alloc (by simp) _).alloc (by simp; omega) _⟩
  · go_enter Try.func46, Try.ntmps46
    go_wp2
    refine wp_loop_rounds 6 ?_
    rw [rounds_succ]; go_wp2
    rw [rounds_succ]; go_wp2
    rw [rounds_succ]; go_wp2
    rw [rounds_succ]; go_wp2
    rw [rounds_succ]; go_wp2
    rw [rounds_succ]; go_wp2
    refine bodyPost_ret (v := .agg #[.int .i64 c0, .int .i64 c1, .int .i64 c2, .int .i64 c3, .int .i64 (c4 + 1)]) ?_ rfl ?_
    · have u3 := Try.underlying3
      simp [results, Try.results46, go_sem]
    · exact ⟨⟨c0, c1, c2, c3, (c4 + 1), rfl, by rw [HJ.out]; rfl⟩, (((Below.refl _ _).alloc (Nat.le_refl _) _).alloc (by simp) _).alloc (by simp; omega) _⟩
end Go.Proofs.Ytcccheeeagphpag.His

/-
  What a round of package clock's along does to the rows that it fills: plain facts on memory.
-/
namespace Go.Proofs.Ytcccheeeagphpag.His
open Go.RowKit

def CReached (h : List Ev) (w : World) (base A L len k : Nat) : Prop :=
  ∃ fa fl, w.rowIs A 95 (len * 5) fa ∧ w.rowIs L 112 25 fl ∧ A ≠ L ∧ base ≤ A ∧ base ≤ L ∧ (∀ j, j < k → ∀ i, i < 5 → fa (j * 5 + i) = .int .i64 ((row h j).getD i 0)) ∧ (∀ m, m < 5 → ∀ i, i < 5 → fl (m * 5 + i) = .int .i64 ((last h k m).getD i 0))

theorem mkc_info : (Try.prog.info? 95).map (fun i => (i.zero, i.size, i.bytes)) = some (some (.agg #[.int .i64 0, .int .i64 0, .int .i64 0, .int .i64 0, .int .i64 0]), 5, 40) := by kernel_rfl
theorem mk_counts (n : Nat) (hn : n ≤ 60) (w : World) :
    (Instr.makeSlice 93 (.int .i64 (n : Int)) (.int .i64 (n : Int))).run Try.prog w = .ok (.slice (some ⟨w.heap.size, 0, none⟩) n n) (w.alloc (.cells (madeCells #[.int .i64 0, .int .i64 0, .int .i64 0, .int .i64 0, .int .i64 0] (n * 5)) 95)) := by
  obtain ⟨i, hi, hzz⟩ := Option.map_eq_some_iff.1 mkc_info
  simp only [Prod.mk.injEq] at hzz
  obtain ⟨hz, hs, hb⟩ := hzz
  have hr := run_make (P := Try.prog) w 93 95 i _ (by kernel_rfl) hi hz .i64 .i64 n n (by omega) (Int.le_refl _) (by rw [hb]; omega) (by omega)
  simp only [Int.toNat_natCast, hs] at hr
  exact hr

/-- what an event reaches, in a variable of the call's own -/
def CFr (w : World) (F : Nat) (r : List Int) : Prop := w.rowIs F 95 5 (fun i => .int .i64 (r.getD i 0))
theorem CFr.lit (w : World) (a b c d e : Int) : CFr (w.alloc (.cells #[.int .i64 a, .int .i64 b, .int .i64 c, .int .i64 d, .int .i64 e] 95)) w.heap.size [a, b, c, d, e] := by
  refine World.rowIs_alloc w _ _ _ fun i hi => ?_
  have : i < 5 := hi
  rcases i with _ | _ | _ | _ | _ | i
  · rfl
  · rfl
  · rfl
  · rfl
  · rfl
  · omega
theorem CFr.later {w w' : World} {F : Nat} {r : List Int} (h : CFr w F r) (hb : Below w.heap.size w w') : CFr w' F r := rowIs_later h hb
theorem CFr.cells {w : World} {F : Nat} {a b c d e : Int} (h : CFr w F [a, b, c, d, e]) : w.cell? ⟨F, 0, none⟩ = some (.int .i64 a) ∧ w.cell? ⟨F, 1, none⟩ = some (.int .i64 b) ∧ w.cell? ⟨F, 2, none⟩ = some (.int .i64 c) ∧ w.cell? ⟨F, 3, none⟩ = some (.int .i64 d) ∧ w.cell? ⟨F, 4, none⟩ = some (.int .i64 e) :=
  ⟨World.rowIs.cell h (by omega), World.rowIs.cell h (by omega), World.rowIs.cell h (by omega), World.rowIs.cell h (by omega), World.rowIs.cell h (by omega)⟩
theorem CFr.set {w : World} {F : Nat} {r : List Int} (h : CFr w F r) (hr : r.length = 5) (m : Nat) (hm : m < 5) (x : Int) : CFr (w.setCell ⟨F, m, none⟩ (.int .i64 x)) F (r.set m x) := by
  refine (World.rowIs.set h m _).congr fun i hi => ?_
  by_cases e : i = m
  · subst e
    simp [List.getD, hr, hm]
  · simp [e, List.getD, List.getElem?_set_ne (Ne.symm e)]
/-- the row of one event among all -/
def c9fact (w : World) (A s : Nat) (s0 s1 s2 s3 s4 : Int) : Prop := w.cell? ⟨A, s * 5, none⟩ = some (.int .i64 s0) ∧ w.cell? ⟨A, s * 5 + 1, none⟩ = some (.int .i64 s1) ∧ w.cell? ⟨A, s * 5 + 2, none⟩ = some (.int .i64 s2) ∧ w.cell? ⟨A, s * 5 + 3, none⟩ = some (.int .i64 s3) ∧ w.cell? ⟨A, s * 5 + 4, none⟩ = some (.int .i64 s4)
theorem c9fact.later {w w' : World} {A s : Nat} {s0 s1 s2 s3 s4 : Int} (h : c9fact w A s s0 s1 s2 s3 s4) (hA : A < w.heap.size) (hb : Below w.heap.size w w') : c9fact w' A s s0 s1 s2 s3 s4 :=
  ⟨(hb.cell (p := ⟨A, _, none⟩) hA).trans h.1, (hb.cell (p := ⟨A, _, none⟩) hA).trans h.2.1, (hb.cell (p := ⟨A, _, none⟩) hA).trans h.2.2.1, (hb.cell (p := ⟨A, _, none⟩) hA).trans h.2.2.2.1, (hb.cell (p := ⟨A, _, none⟩) hA).trans h.2.2.2.2⟩

/-- what make and the variable lay -/
theorem made5c (n i : Nat) (hi : i < n) : (madeCells #[.int .i64 0, .int .i64 0, .int .i64 0, .int .i64 0, .int .i64 0] n)[i]? = some (.int .i64 0) := by
  unfold madeCells
  have : ∀ j, j < 5 → (#[Value.int .i64 0, .int .i64 0, .int .i64 0, .int .i64 0, .int .i64 0] : Array Value)[j]! = .int .i64 0 := by
    intro j hj
    rcases j with _ | _ | _ | _ | _ | j
    · rfl
    · rfl
    · rfl
    · rfl
    · rfl
    · omega
  simp only [Array.getElem?_map, Array.getElem?_range, hi, if_true, Option.map_some]
  exact congrArg some (this _ (Nat.mod_lt _ (by decide)))
theorem zero25c (i : Nat) (hi : i < 25) : (Array.replicate 25 (Value.int .i64 0))[i]? = some (.int .i64 0) := by simp [hi]
theorem CReached.start (h : List Ev) (w : World) (len : Nat) (c : Array Value) (hc : c.size = 25) (hz : ∀ i, i < 25 → c[i]? = some (.int .i64 0)) :
    CReached h ((w.alloc (.cells (madeCells #[.int .i64 0, .int .i64 0, .int .i64 0, .int .i64 0, .int .i64 0] (len * 5)) 95)).alloc (.cells c 112)) w.heap.size w.heap.size (w.heap.size + 1) len 0 := by
  have ra := World.rowIs_alloc w (madeCells #[.int .i64 0, .int .i64 0, .int .i64 0, .int .i64 0, .int .i64 0] (len * 5)) 95 (fun _ => .int .i64 0) (fun i hi => made5c _ i (by rwa [size_madeCells] at hi))
  rw [size_madeCells] at ra
  have rl := World.rowIs_alloc (w.alloc (.cells (madeCells #[.int .i64 0, .int .i64 0, .int .i64 0, .int .i64 0, .int .i64 0] (len * 5)) 95)) c 112 (fun _ => .int .i64 0) (fun i hi => hz i (by omega))
  have es : (w.alloc (.cells (madeCells #[.int .i64 0, .int .i64 0, .int .i64 0, .int .i64 0, .int .i64 0] (len * 5)) 95)).heap.size = w.heap.size + 1 := by simp
  rw [es, hc] at rl
  refine ⟨_, _, ra.alloc _, rl, by omega, Nat.le_refl _, by omega, fun j hj => by omega, fun m hm i hi => ?_⟩
  show _ = Value.int .i64 (zero5.getD i 0)
  rcases i with _ | _ | _ | _ | _ | i
  · rfl
  · rfl
  · rfl
  · rfl
  · rfl
  · omega

/-- an event's row stored, ahead of the store into its member's -/
def CMid (h : List Ev) (w : World) (base A L len k : Nat) (r0 r1 r2 r3 r4 : Int) : Prop :=
  ∃ fa fl, w.rowIs A 95 (len * 5) fa ∧ w.rowIs L 112 25 fl ∧ A ≠ L ∧ base ≤ A ∧ base ≤ L ∧ (∀ j, j < k → ∀ i, i < 5 → fa (j * 5 + i) = .int .i64 ((row h j).getD i 0)) ∧ (∀ m, m < 5 → ∀ i, i < 5 → fl (m * 5 + i) = .int .i64 ((last h k m).getD i 0))
    ∧ (fa (k * 5) = .int .i64 r0 ∧ fa (k * 5 + 1) = .int .i64 r1 ∧ fa (k * 5 + 2) = .int .i64 r2 ∧ fa (k * 5 + 3) = .int .i64 r3 ∧ fa (k * 5 + 4) = .int .i64 r4)
theorem CReached.later {h : List Ev} {w w' : World} {base A L len k : Nat} (g : CReached h w base A L len k) (hb : Below w.heap.size w w') : CReached h w' base A L len k := by
  obtain ⟨fa, fl, ra, rl, x⟩ := g
  exact ⟨fa, fl, rowIs_later ra hb, rowIs_later rl hb, x⟩
theorem CReached.mid {h : List Ev} {w : World} {base A L len k : Nat} (g : CReached h w base A L len k) (r0 r1 r2 r3 r4 : Int) :
    CMid h (((((w.setCell ⟨A, k * 5, none⟩ (.int .i64 r0)).setCell ⟨A, k * 5 + 1, none⟩ (.int .i64 r1)).setCell ⟨A, k * 5 + 2, none⟩ (.int .i64 r2)).setCell ⟨A, k * 5 + 3, none⟩ (.int .i64 r3)).setCell ⟨A, k * 5 + 4, none⟩ (.int .i64 r4)) base A L len k r0 r1 r2 r3 r4 := by
  obtain ⟨fa, fl, ra, rl, hAL, hA, hL, ha, hl⟩ := g
  have ra5 := (((((ra.set (k * 5) (.int .i64 r0)).set (k * 5 + 1) (.int .i64 r1)).set (k * 5 + 2) (.int .i64 r2)).set (k * 5 + 3) (.int .i64 r3)).set (k * 5 + 4) (.int .i64 r4))
  have rl5 := (((((rl.setOther (a := ⟨A, k * 5, none⟩) (Ne.symm hAL) (.int .i64 r0)).setOther (a := ⟨A, k * 5 + 1, none⟩) (Ne.symm hAL) (.int .i64 r1)).setOther (a := ⟨A, k * 5 + 2, none⟩) (Ne.symm hAL) (.int .i64 r2)).setOther (a := ⟨A, k * 5 + 3, none⟩) (Ne.symm hAL) (.int .i64 r3)).setOther (a := ⟨A, k * 5 + 4, none⟩) (Ne.symm hAL) (.int .i64 r4))
  refine ⟨_, _, ra5, rl5, hAL, hA, hL, ?_, hl, ?_, ?_, ?_, ?_, ?_⟩
  · intro j hj i hi
    show (if j * 5 + i = k * 5 + 4 then _ else if j * 5 + i = k * 5 + 3 then _ else if j * 5 + i = k * 5 + 2 then _ else if j * 5 + i = k * 5 + 1 then _ else if j * 5 + i = k * 5 then _ else _) = _
    rw [if_neg (by omega), if_neg (by omega), if_neg (by omega), if_neg (by omega), if_neg (by omega)]
    exact ha j hj i hi
  · show (if k * 5 = k * 5 + 4 then _ else if k * 5 = k * 5 + 3 then _ else if k * 5 = k * 5 + 2 then _ else if k * 5 = k * 5 + 1 then _ else if k * 5 = k * 5 then _ else _) = _
    rw [if_neg (by omega), if_neg (by omega), if_neg (by omega), if_neg (by omega), if_pos rfl]
  · show (if k * 5 + 1 = k * 5 + 4 then _ else if k * 5 + 1 = k * 5 + 3 then _ else if k * 5 + 1 = k * 5 + 2 then _ else if k * 5 + 1 = k * 5 + 1 then _ else _) = _
    rw [if_neg (by omega), if_neg (by omega), if_neg (by omega), if_pos rfl]
  · show (if k * 5 + 2 = k * 5 + 4 then _ else if k * 5 + 2 = k * 5 + 3 then _ else if k * 5 + 2 = k * 5 + 2 then _ else _) = _
    rw [if_neg (by omega), if_neg (by omega), if_pos rfl]
  · show (if k * 5 + 3 = k * 5 + 4 then _ else if k * 5 + 3 = k * 5 + 3 then _ else _) = _
    rw [if_neg (by omega), if_pos rfl]
  · show (if k * 5 + 4 = k * 5 + 4 then _ else _) = _
    rw [if_pos rfl]
theorem CMid.drew {h : List Ev} {w : World} {base A L len k : Nat} {r0 r1 r2 r3 r4 : Int} (g : CMid h w base A L len k r0 r1 r2 r3 r4) : CMid h w.drew base A L len k r0 r1 r2 r3 r4 := g
theorem CReached.drew {h : List Ev} {w : World} {base A L len k : Nat} (g : CReached h w base A L len k) : CReached h w.drew base A L len k := g
theorem CMid.step {h : List Ev} {w : World} {base A L len k m : Nat} {r0 r1 r2 r3 r4 : Int} (g : CMid h w base A L len k r0 r1 r2 r3 r4) (hm : m = W h k) (hr : [r0, r1, r2, r3, r4] = row h k) :
    CReached h (((((w.setCell ⟨L, m * 5, none⟩ (.int .i64 r0)).setCell ⟨L, m * 5 + 1, none⟩ (.int .i64 r1)).setCell ⟨L, m * 5 + 2, none⟩ (.int .i64 r2)).setCell ⟨L, m * 5 + 3, none⟩ (.int .i64 r3)).setCell ⟨L, m * 5 + 4, none⟩ (.int .i64 r4)) base A L len (k + 1) := by
  obtain ⟨fa, fl, ra, rl, hAL, hA, hL, ha, hl, h0, h1, h2, h3, h4⟩ := g
  have ra5 := (((((ra.setOther (a := ⟨L, m * 5, none⟩) hAL (.int .i64 r0)).setOther (a := ⟨L, m * 5 + 1, none⟩) hAL (.int .i64 r1)).setOther (a := ⟨L, m * 5 + 2, none⟩) hAL (.int .i64 r2)).setOther (a := ⟨L, m * 5 + 3, none⟩) hAL (.int .i64 r3)).setOther (a := ⟨L, m * 5 + 4, none⟩) hAL (.int .i64 r4))
  have rl5 := (((((rl.set (m * 5) (.int .i64 r0)).set (m * 5 + 1) (.int .i64 r1)).set (m * 5 + 2) (.int .i64 r2)).set (m * 5 + 3) (.int .i64 r3)).set (m * 5 + 4) (.int .i64 r4))
  refine ⟨_, _, ra5, rl5, hAL, hA, hL, ?_, ?_⟩
  · intro j hj i hi
    rcases Nat.lt_or_ge j k with hjk | hjk
    · exact ha j hjk i hi
    · obtain rfl : j = k := by omega
      rw [← hr]
      rcases i with _ | _ | _ | _ | _ | i
      · exact h0
      · exact h1
      · exact h2
      · exact h3
      · exact h4
      · omega
  · intro m' hm' i hi
    show (if m' * 5 + i = m * 5 + 4 then _ else if m' * 5 + i = m * 5 + 3 then _ else if m' * 5 + i = m * 5 + 2 then _ else if m' * 5 + i = m * 5 + 1 then _ else if m' * 5 + i = m * 5 then _ else _) = _
    rw [last_step]
    by_cases e : m' = m
    · rw [if_pos (e.trans hm), ← hr]
      rcases i with _ | _ | _ | _ | _ | i
      · rw [if_neg (by omega), if_neg (by omega), if_neg (by omega), if_neg (by omega), if_pos (by omega)]; rfl
      · rw [if_neg (by omega), if_neg (by omega), if_neg (by omega), if_pos (by omega)]; rfl
      · rw [if_neg (by omega), if_neg (by omega), if_pos (by omega)]; rfl
      · rw [if_neg (by omega), if_pos (by omega)]; rfl
      · rw [if_pos (by omega)]; rfl
      · omega
    · rw [if_neg (by omega), if_neg (by omega), if_neg (by omega), if_neg (by omega), if_neg (by omega), if_neg (fun q => e (q.trans hm.symm))]
      exact hl m' hm' i hi
theorem below_five {base : Nat} {w w9 : World} {A p0 p1 p2 p3 p4 : Nat} {r0 r1 r2 r3 r4 : Int} (hb : Below base w w9) (hA : base ≤ A) :
    Below base w (((((w9.setCell ⟨A, p0, none⟩ (.int .i64 r0)).setCell ⟨A, p1, none⟩ (.int .i64 r1)).setCell ⟨A, p2, none⟩ (.int .i64 r2)).setCell ⟨A, p3, none⟩ (.int .i64 r3)).setCell ⟨A, p4, none⟩ (.int .i64 r4)) :=
  (((((hb.setCell (p := ⟨A, _, none⟩) hA _).setCell (p := ⟨A, _, none⟩) hA _).setCell (p := ⟨A, _, none⟩) hA _).setCell (p := ⟨A, _, none⟩) hA _).setCell (p := ⟨A, _, none⟩) hA _)
theorem bx_five {w : World} {B A p0 p1 p2 p3 p4 : Nat} {x0 x1 x2 r0 r1 r2 r3 r4 : Int} (h : Bx w B x0 x1 x2) (hne : B ≠ A) :
    Bx (((((w.setCell ⟨A, p0, none⟩ (.int .i64 r0)).setCell ⟨A, p1, none⟩ (.int .i64 r1)).setCell ⟨A, p2, none⟩ (.int .i64 r2)).setCell ⟨A, p3, none⟩ (.int .i64 r3)).setCell ⟨A, p4, none⟩ (.int .i64 r4)) B x0 x1 x2 :=
  ((((h.set hne _).set hne _).set hne _).set hne _).set hne _
theorem join_zero {a0 a1 a2 a3 a4 : Int} (h0 : 0 ≤ a0) (h1 : 0 ≤ a1) (h2 : 0 ≤ a2) (h3 : 0 ≤ a3) (h4 : 0 ≤ a4) : joinR [a0, a1, a2, a3, a4] [0, 0, 0, 0, 0] = [a0, a1, a2, a3, a4] := by
  show [max a0 0, max a1 0, max a2 0, max a3 0, max a4 0] = _
  rw [show max a0 0 = a0 by omega, show max a1 0 = a1 by omega, show max a2 0 = a2 by omega, show max a3 0 = a3 by omega, show max a4 0 = a4 by omega]

end Go.Proofs.Ytcccheeeagphpag.His

/-
  Contracts of package clock's along: the numbers, and the vectors, of all events of a right history.
-/
namespace Go.Proofs.Ytcccheeeagphpag.His
open Go.RowKit

set_option maxRecDepth 100000 in
set_option maxHeartbeats 8000000 in
theorem alongV (a : Option Addr) (len cap : Nat) (h : List Ev) (w : World) (hlen : len ≤ 60) (hv : Ew w a len h) (hg : Good h len) :
    Calls Try.prog 45 #[.slice a len cap, .func (.func 46) #[] #[]] w fun x w' => ∃ A, x = .returned (.slice (some ⟨A, 0, none⟩) len len) ∧ Below w.heap.size w w' ∧ (∃ L, CReached h w' w.heap.size A L len len) := by
  have HG : Hid (Good h len) := hg
  have G : Hid (Ew w a len h) := hv
  have hmk := mk_counts len hlen
  have HM : Hid (len ≤ maxLen) := by show len ≤ maxLen; unfold maxLen; omega
  clear hg hv
  go_enter Try.func45, Try.ntmps45
  go_wp2
  go_loopw [15] (fun i wr => ∃ k : Nat, k ≤ len ∧ i = .int .i64 k ∧ Hid (Below w.heap.size w wr) ∧ Hid (CReached h wr w.heap.size w.heap.size (w.heap.size + 1) len k)) (fun i _ => len - (intOf i).toNat)
  case atStart =>
    refine ⟨0, by omega, rfl, ((Below.refl _ _).alloc (Nat.le_refl _) _).alloc (by simp) _, CReached.start h w len _ rfl ?_⟩
    intro i hi
    exact zero25c i hi
  case round =>
    obtain ⟨k, hk, rfl, hbel, hR⟩ := hrel
    clear hmk
    by_cases hlt : k < len
    · obtain ⟨b, off, rfl, hpb, hcs⟩ := (G.out.later hbel.out).2 (by omega)
      obtain ⟨c0, c1, c2⟩ := hcs k hlt
      have hw5 := W_lt HG.out hlt
      have hwc := W_cast HG.out hlt
      rw [← hwc] at c0
      obtain ⟨q1, eq1⟩ : ∃ q, q = (ev h k).2.1 := ⟨_, rfl⟩
      obtain ⟨q2, eq2⟩ : ∃ q, q = (ev h k).2.2 := ⟨_, rfl⟩
      obtain ⟨m, em⟩ : ∃ m, m = W h k := ⟨_, rfl⟩
      rw [← eq1] at c1
      rw [← eq2] at c2
      rw [← em] at c0 hw5
      have EQ : Hid (m = W h k ∧ q1 = (ev h k).2.1 ∧ q2 = (ev h k).2.2) := And.intro em (And.intro eq1 eq2)
      have hk0 : (0 : Int) ≤ (k : Int) := by omega
      have hkl : (k : Int) < (len : Int) := by omega
      have hm0 : (0 : Int) ≤ (m : Int) := by omega
      have hm5 : (m : Int) < 5 := by omega
      clear hcs hpb hwc em eq1 eq2
      have hFw : w.heap.size ≤ wr.heap.size + 1 := Nat.le_succ_of_le hbel.out.size
      have hAne : Hid (wr.heap.size ≠ w.heap.size) := by
        obtain ⟨fa, fl, ra, rl, hAL, hA, hL, ha, hl⟩ := hR.out
        exact Ne.symm (Nat.ne_of_lt ra.lt)
      have hbd := fun i (_ : i < 5) => last_bd HG.out hlt i
      rw [← EQ.out.1] at hbd
      obtain ⟨l0, el0⟩ : ∃ x, x = (last h k m).getD 0 0 := ⟨_, rfl⟩
      obtain ⟨l1, el1⟩ : ∃ x, x = (last h k m).getD 1 0 := ⟨_, rfl⟩
      obtain ⟨l2, el2⟩ : ∃ x, x = (last h k m).getD 2 0 := ⟨_, rfl⟩
      obtain ⟨l3, el3⟩ : ∃ x, x = (last h k m).getD 3 0 := ⟨_, rfl⟩
      obtain ⟨l4, el4⟩ : ∃ x, x = (last h k m).getD 4 0 := ⟨_, rfl⟩
      have b0 := hbd 0 (by omega)
      have b1 := hbd 1 (by omega)
      have b2 := hbd 2 (by omega)
      have b3 := hbd 3 (by omega)
      have b4 := hbd 4 (by omega)
      rw [← el0] at b0
      rw [← el1] at b1
      rw [← el2] at b2
      rw [← el3] at b3
      rw [← el4] at b4
      have EL : Hid (last h k m = [l0, l1, l2, l3, l4]) := by rw [el0, el1, el2, el3, el4]; exact (list5 (last_len h k m)).symm
      have LB : Hid ((0 ≤ l0 ∧ l0 ≤ 60) ∧ (0 ≤ l1 ∧ l1 ≤ 60) ∧ (0 ≤ l2 ∧ l2 ≤ 60) ∧ (0 ≤ l3 ∧ l3 ≤ 60) ∧ (0 ≤ l4 ∧ l4 ≤ 60)) := by
        show _ ∧ _
        omega
      clear el0 el1 el2 el3 el4 hbd b0 b1 b2 b3 b4
      go_upto_if 22 with fail
      go_cut [15] from 15 to 49 (fun i wc => i = .int .i64 k ∧ ∃ s0 s1 s2 s3 s4 : Int, Hid ((0 ≤ s0 ∧ s0 ≤ 60) ∧ (0 ≤ s1 ∧ s1 ≤ 60) ∧ (0 ≤ s2 ∧ s2 ≤ 60) ∧ (0 ≤ s3 ∧ s3 ≤ 60) ∧ (0 ≤ s4 ∧ s4 ≤ 60)) ∧ Hid (row h k = upd (joinR [l0, l1, l2, l3, l4] [s0, s1, s2, s3, s4]) m) ∧ Hid (Below w.heap.size w wc) ∧ Hid (Below wr.heap.size wr wc) ∧ Hid (Bx wc wr.heap.size m q1 q2) ∧ Hid (CFr wc (wr.heap.size + 1) [s0, s1, s2, s3, s4]))
      case first =>
        by_cases h3 : q1 = 3
        · subst h3
          have h3 : (ev h k).2.1 = 3 := EQ.out.2.1.symm
          have hs := sayAt_lt HG.out hlt h3
          have hx := idx_say2 HG.out hlt h3
          rw [← EQ.out.2.2] at hs hx
          obtain ⟨s, es⟩ : ∃ s, s = sayAt h q2 := ⟨_, rfl⟩
          rw [← es] at hs hx
          have HX : Hid (idxI (says q2) h = (s : Int)) := hx
          have hsk : s < k := hs.1
          have hsl : (s : Int) < (len : Int) := by omega
          have hs0 : (0 : Int) ≤ (s : Int) := by omega
          have hrow := row_hear HG.out hlt h3
          rw [← EQ.out.2.2, ← EQ.out.1, ← es, EL.out] at hrow
          have hsb := fun i => row_bd HG.out (show s < len by omega) i
          obtain ⟨s0, e0⟩ : ∃ x, x = (row h s).getD 0 0 := ⟨_, rfl⟩
          obtain ⟨s1, e1⟩ : ∃ x, x = (row h s).getD 1 0 := ⟨_, rfl⟩
          obtain ⟨s2, e2⟩ : ∃ x, x = (row h s).getD 2 0 := ⟨_, rfl⟩
          obtain ⟨s3, e3⟩ : ∃ x, x = (row h s).getD 3 0 := ⟨_, rfl⟩
          obtain ⟨s4, e4⟩ : ∃ x, x = (row h s).getD 4 0 := ⟨_, rfl⟩
          have t0 := hsb 0
          have t1 := hsb 1
          have t2 := hsb 2
          have t3 := hsb 3
          have t4 := hsb 4
          have HS : Hid (c9fact wr w.heap.size s s0 s1 s2 s3 s4 ∧ w.heap.size < wr.heap.size) := by
            obtain ⟨fa, fl, ra, rl, hAL, hA, hL, ha, hl⟩ := hR.out
            refine ⟨⟨?_, ?_, ?_, ?_, ?_⟩, ra.lt⟩
            · rw [e0]; exact (ra.cell (i := s * 5) (by omega)).trans (congrArg some (ha s hsk 0 (by omega)))
            · rw [e1]; exact (ra.cell (i := s * 5 + 1) (by omega)).trans (congrArg some (ha s hsk 1 (by omega)))
            · rw [e2]; exact (ra.cell (i := s * 5 + 2) (by omega)).trans (congrArg some (ha s hsk 2 (by omega)))
            · rw [e3]; exact (ra.cell (i := s * 5 + 3) (by omega)).trans (congrArg some (ha s hsk 3 (by omega)))
            · rw [e4]; exact (ra.cell (i := s * 5 + 4) (by omega)).trans (congrArg some (ha s hsk 4 (by omega)))
          have hrs : row h s = [s0, s1, s2, s3, s4] := by rw [e0, e1, e2, e3, e4]; exact (list5 (row_len h s)).symm
          rw [hrs] at hrow
          rw [← e0] at t0
          rw [← e1] at t1
          rw [← e2] at t2
          rw [← e3] at t3
          rw [← e4] at t4
          have ROW : Hid (row h k = upd (joinR [l0, l1, l2, l3, l4] [s0, s1, s2, s3, s4]) m) := hrow
          have SB : Hid ((0 ≤ s0 ∧ s0 ≤ 60) ∧ (0 ≤ s1 ∧ s1 ≤ 60) ∧ (0 ≤ s2 ∧ s2 ≤ 60) ∧ (0 ≤ s3 ∧ s3 ≤ 60) ∧ (0 ≤ s4 ∧ s4 ≤ 60)) := by
            show _ ∧ _
            omega
          clear hrow hrs e0 e1 e2 e3 e4 hsb hs hx h3 es t0 t1 t2 t3 t4
          have B8 : Hid (Below wr.heap.size wr ((wr.alloc (.cells #[.int .i64 (m : Int), .int .i64 3, .int .i64 q2] 45)).alloc (.cells #[.int .i64 0, .int .i64 0, .int .i64 0, .int .i64 0, .int .i64 0] 95))) := ((Below.refl _ _).alloc (Nat.le_refl _) _).alloc (by simp) _
          have X8 : Hid (Bx ((wr.alloc (.cells #[.int .i64 (m : Int), .int .i64 3, .int .i64 q2] 45)).alloc (.cells #[.int .i64 0, .int .i64 0, .int .i64 0, .int .i64 0, .int .i64 0] 95)) wr.heap.size m 3 q2) := (Bx.lit _ _ _ _ _).later ((Below.refl _ _).alloc (Nat.le_refl _) _)
          have F8 : Hid (CFr ((wr.alloc (.cells #[.int .i64 (m : Int), .int .i64 3, .int .i64 q2] 45)).alloc (.cells #[.int .i64 0, .int .i64 0, .int .i64 0, .int .i64 0, .int .i64 0] 95)) (wr.heap.size + 1) [0, 0, 0, 0, 0]) := by
            have F := CFr.lit (wr.alloc (.cells #[.int .i64 (m : Int), .int .i64 3, .int .i64 q2] 45)) 0 0 0 0 0
            simp only [World.size_alloc] at F
            exact F
          go_wp2_with fail
          · clear c0 c1 c2
            refine (saidAt1 (some ⟨b, off, none⟩) len cap h q2 _ HM.out ((G.out.later hbel.out).later B8.out)).mono ?_
            rintro e w9 ⟨rfl, hb9⟩
            rw [HX.out]
            have H9 : Hid (Below wr.heap.size wr w9) := below_up rfl B8.out hb9
            have X9 : Hid (Bx w9 wr.heap.size m 3 q2) := X8.out.later hb9
            have F9 : Hid (CFr w9 (wr.heap.size + 1) [0, 0, 0, 0, 0]) := F8.out.later hb9
            obtain ⟨g0, g1, g2, g3, g4⟩ := HS.out.1.later HS.out.2 H9.out
            obtain ⟨f0, f1, f2, f3, f4⟩ := F9.out.cells
            have z9 := fun i => World.rowIs.frozen F9.out i
            clear hb9
            go_wp2
            go_meet
            case rel =>
              refine ⟨rfl, s0, s1, s2, s3, s4, SB.out, ROW.out, ?_, ?_, ?_, ?_⟩
              · exact below_five (below_up rfl hbel.out H9.out) hFw
              · exact below_five H9.out (Nat.le_succ _)
              · exact bx_five X9.out (Nat.ne_of_lt (Nat.lt_succ_self _))
              · exact (((((F9.out.set rfl 0 (by omega) _).set rfl 1 (by omega) _).set rfl 2 (by omega) _).set rfl 3 (by omega) _).set rfl 4 (by omega) _)
        · have h3' : (q1 == 3) = false := by simp [h3]
          have hrow := row_plain (h := h) (n := k) (by rw [← EQ.out.2.1]; exact h3)
          rw [← EQ.out.1, EL.out] at hrow
          have ROW : Hid (row h k = upd (joinR [l0, l1, l2, l3, l4] [0, 0, 0, 0, 0]) m) := by
            obtain ⟨y0, y1, y2, y3, y4⟩ := LB.out
            show _ = _
            rw [hrow, join_zero y0.1 y1.1 y2.1 y3.1 y4.1]
          clear hrow
          go_wp2
          go_meet
          case rel =>
            refine ⟨rfl, 0, 0, 0, 0, 0, ⟨by omega, by omega, by omega, by omega, by omega⟩, ROW.out, ?_, ?_, ?_, ?_⟩
            · exact ((hbel.out.alloc hbel.out.size _).alloc (by simp; have := hbel.out.size; omega) _)
            · exact ((Below.refl _ _).alloc (Nat.le_refl _) _).alloc (by simp) _
            · exact (Bx.lit _ _ _ _ _).later ((Below.refl _ _).alloc (Nat.le_refl _) _)
            · have F := CFr.lit (wr.alloc (.cells #[.int .i64 (m : Int), .int .i64 q1, .int .i64 q2] 45)) 0 0 0 0 0
              simp only [World.size_alloc] at F
              exact F
      case rest =>
        obtain ⟨rfl, s0, s1, s2, s3, s4, SB, hrow, hB, hBr, hX, hF⟩ := hcut
        clear c0 c1 c2
        obtain ⟨hx, x0, x1, x2⟩ := hX.out
        obtain ⟨f0, f1, f2, f3, f4⟩ := hF.out.cells
        have hFr : wr.heap.size + 1 < wc.heap.size := World.rowIs.lt hF.out
        have RC : Hid (CReached h wc w.heap.size w.heap.size (w.heap.size + 1) len k) := hR.out.later hBr.out
        have dd : c9fact wc (w.heap.size + 1) m l0 l1 l2 l3 l4 := by
          obtain ⟨fa, fl, ra, rl, hAL, hA, hL, ha, hl⟩ := RC.out
          have hl := hl m hw5
          rw [EL.out] at hl
          have q := fun i (hi : i < 5) => (rl.cell (i := m * 5 + i) (by omega)).trans (congrArg some (hl i hi))
          exact ⟨q 0 (by omega), q 1 (by omega), q 2 (by omega), q 3 (by omega), q 4 (by omega)⟩
        obtain ⟨d0, d1, d2, d3, d4⟩ := dd
        have hk5 : k * 5 + 4 < len * 5 := by omega
        have uu : ∃ y0 y1 y2 y3 y4, wc.cell? ⟨w.heap.size, k * 5, none⟩ = some y0 ∧ wc.cell? ⟨w.heap.size, k * 5 + 1, none⟩ = some y1 ∧ wc.cell? ⟨w.heap.size, k * 5 + 2, none⟩ = some y2 ∧ wc.cell? ⟨w.heap.size, k * 5 + 3, none⟩ = some y3 ∧ wc.cell? ⟨w.heap.size, k * 5 + 4, none⟩ = some y4 ∧ ∀ i, wc.frozen? ⟨w.heap.size, i, none⟩ = false := by
          obtain ⟨fa, fl, ra, rl, hAL, hA, hL, ha, hl⟩ := RC.out
          exact ⟨_, _, _, _, _, ra.cell (i := k * 5) (by omega), ra.cell (i := k * 5 + 1) (by omega), ra.cell (i := k * 5 + 2) (by omega), ra.cell (i := k * 5 + 3) (by omega), ra.cell (i := k * 5 + 4) (by omega), ra.frozen⟩
        obtain ⟨y0, y1, y2, y3, y4, u0, u1, u2, u3, u4, z0⟩ := uu
        have UU : Hid (wc.cell? ⟨w.heap.size, k * 5, none⟩ = some y0 ∧ wc.cell? ⟨w.heap.size, k * 5 + 1, none⟩ = some y1 ∧ wc.cell? ⟨w.heap.size, k * 5 + 2, none⟩ = some y2 ∧ wc.cell? ⟨w.heap.size, k * 5 + 3, none⟩ = some y3 ∧ wc.cell? ⟨w.heap.size, k * 5 + 4, none⟩ = some y4 ∧ (∀ i, wc.frozen? ⟨w.heap.size, i, none⟩ = false) ∧ w.heap.size < wc.heap.size) := ⟨u0, u1, u2, u3, u4, z0, block_lt_of_cell u0⟩
        go_wp2_with fail
        have CC : Hid (Bx wc wr.heap.size m q1 q2 ∧ c9fact wc (w.heap.size + 1) m l0 l1 l2 l3 l4 ∧ w.heap.size + 1 < wc.heap.size ∧ CFr wc (wr.heap.size + 1) [s0, s1, s2, s3, s4]) := ⟨hX.out, ⟨d0, d1, d2, d3, d4⟩, block_lt_of_cell d0, hF.out⟩
        have hne1 : wr.heap.size ≠ w.heap.size := hAne.out
        have hne2 : wr.heap.size + 1 ≠ w.heap.size := by have := hbel.out.size; omega
        have hne3 : w.heap.size ≠ wr.heap.size := Ne.symm hne1
        have hne4 : w.heap.size ≠ wr.heap.size + 1 := Ne.symm hne2
        go_region_held3 (fun w' => w'.cell? ⟨wr.heap.size, 0, none⟩ = some (.int .i64 (m : Int)) ∧ w'.cell? ⟨w.heap.size + 1, m * 5, none⟩ = some (.int .i64 l0) ∧ w'.cell? ⟨w.heap.size + 1, m * 5 + 1, none⟩ = some (.int .i64 l1) ∧ w'.cell? ⟨w.heap.size + 1, m * 5 + 2, none⟩ = some (.int .i64 l2) ∧ w'.cell? ⟨w.heap.size + 1, m * 5 + 3, none⟩ = some (.int .i64 l3) ∧ w'.cell? ⟨w.heap.size + 1, m * 5 + 4, none⟩ = some (.int .i64 l4)
            ∧ w'.cell? ⟨wr.heap.size + 1, 0, none⟩ = some (.int .i64 s0) ∧ w'.cell? ⟨wr.heap.size + 1, 1, none⟩ = some (.int .i64 s1) ∧ w'.cell? ⟨wr.heap.size + 1, 2, none⟩ = some (.int .i64 s2) ∧ w'.cell? ⟨wr.heap.size + 1, 3, none⟩ = some (.int .i64 s3) ∧ w'.cell? ⟨wr.heap.size + 1, 4, none⟩ = some (.int .i64 s4)) (go_keep)
          (first | (go_at_call 46; refine (nextVector1 m hw5 l0 l1 l2 l3 l4 s0 s1 s2 s3 s4 _ LB.out SB.out).mono ?_; rintro e w91 ⟨⟨r0, r1, r2, r3, r4, rfl, hr⟩, hb91⟩; have HR : Hid ([r0, r1, r2, r3, r4] = row h k) := hr.trans hrow.out.symm; have H91 : Hid (Below wc.heap.size wc w91) := below_up rfl (Below.refl wc.heap.size wc).drew hb91; have R91 : Hid (CReached h w91 w.heap.size w.heap.size (w.heap.size + 1) len k) := RC.out.later H91.out; have X91 : Hid (Bx w91 wr.heap.size m q1 q2) := hX.out.later H91.out; have n0 := (H91.out.cell (p := ⟨w.heap.size, k * 5, none⟩) UU.out.2.2.2.2.2.2).trans UU.out.1; have n1 := (H91.out.cell (p := ⟨w.heap.size, k * 5 + 1, none⟩) UU.out.2.2.2.2.2.2).trans UU.out.2.1; have n2 := (H91.out.cell (p := ⟨w.heap.size, k * 5 + 2, none⟩) UU.out.2.2.2.2.2.2).trans UU.out.2.2.1; have n3 := (H91.out.cell (p := ⟨w.heap.size, k * 5 + 3, none⟩) UU.out.2.2.2.2.2.2).trans UU.out.2.2.2.1; have n4 := (H91.out.cell (p := ⟨w.heap.size, k * 5 + 4, none⟩) UU.out.2.2.2.2.2.2).trans UU.out.2.2.2.2.1; have nz := fun i => (H91.out.frozen (p := ⟨w.heap.size, i, none⟩) UU.out.2.2.2.2.2.2).trans (UU.out.2.2.2.2.2.1 i); obtain ⟨-, j0, -, -⟩ := CC.out.1.later H91.out; obtain ⟨j1, j2, j3, j4, j5⟩ := CC.out.2.1.later CC.out.2.2.1 H91.out; obtain ⟨j6, j7, j8, j9, j10⟩ := (CC.out.2.2.2.later H91.out).cells; clear hr hb91))
        all_goals
          go_wp2_with fail
          refine wp_gen (fun w10 => Hid (Below w.heap.size w w10) ∧ Hid (Bx w10 wr.heap.size m q1 q2) ∧ Hid (CMid h w10 w.heap.size w.heap.size (w.heap.size + 1) len k r0 r1 r2 r3 r4)) ?_ ?_
          · refine ⟨?_, ?_, ?_⟩
            · exact below_five (below_up rfl hB.out H91.out) (Nat.le_refl _)
            · exact bx_five X91.out hAne.out
            · exact R91.out.mid _ _ _ _ _
          · rintro w10 ⟨B10, X10, M10⟩
            clear x0 x1 x2 hx d0 d1 d2 d3 d4 u0 u1 u2 u3 u4 z0 f0 f1 f2 f3 f4 n0 n1 n2 n3 n4 nz j0 j1 j2 j3 j4 j5 j6 j7 j8 j9 j10
            obtain ⟨hx, x0, x1, x2⟩ := X10.out
            have uu : c9fact w10 w.heap.size k r0 r1 r2 r3 r4 ∧ ∃ y0 y1 y2 y3 y4, w10.cell? ⟨w.heap.size + 1, m * 5, none⟩ = some y0 ∧ w10.cell? ⟨w.heap.size + 1, m * 5 + 1, none⟩ = some y1 ∧ w10.cell? ⟨w.heap.size + 1, m * 5 + 2, none⟩ = some y2 ∧ w10.cell? ⟨w.heap.size + 1, m * 5 + 3, none⟩ = some y3 ∧ w10.cell? ⟨w.heap.size + 1, m * 5 + 4, none⟩ = some y4 ∧ ∀ i, w10.frozen? ⟨w.heap.size + 1, i, none⟩ = false := by
              obtain ⟨fa, fl, ra, rl, hAL, hA, hL, ha, hl, k0, k1, k2, k3, k4⟩ := M10.out
              exact ⟨⟨(ra.cell (i := k * 5) (by omega)).trans (congrArg some k0), (ra.cell (i := k * 5 + 1) (by omega)).trans (congrArg some k1), (ra.cell (i := k * 5 + 2) (by omega)).trans (congrArg some k2), (ra.cell (i := k * 5 + 3) (by omega)).trans (congrArg some k3), (ra.cell (i := k * 5 + 4) (by omega)).trans (congrArg some k4)⟩,
                _, _, _, _, _, rl.cell (i := m * 5) (by omega), rl.cell (i := m * 5 + 1) (by omega), rl.cell (i := m * 5 + 2) (by omega), rl.cell (i := m * 5 + 3) (by omega), rl.cell (i := m * 5 + 4) (by omega), rl.frozen⟩
            obtain ⟨⟨g0, g1, g2, g3, g4⟩, v0, v1, v2, v3, v4, p0, p1, p2, p3, p4, z1⟩ := uu
            go_region
            go_wp2
            go_roundw
            case rel =>
              exact ⟨k + 1, by omega, by go_num, (below_five (A := w.heap.size + 1) B10.out (Nat.le_succ _)).drew, (M10.out.step EQ.out.1 HR.out).drew⟩
            case measure => simp [intOf]; omega
    · have hkl : k = len := by omega
      subst hkl
      go_wp2
      go_ret
      exact ⟨_, rfl, hbel.out, _, hR.out⟩
end Go.Proofs.Ytcccheeeagphpag.His

/-
  Plain facts on slices of numbers that the call owns.
-/
namespace Go.Proofs.Ytcccheeeagphpag.His
open Go.RowKit
open Go.Proofs.Ytcccheeeagphpag.Vec

theorem own_vw {w : World} {base n : Nat} {t : TypeId} {v : Value} {xs : List Int} (h : w.ownsRow base t 1 v n (xs.map (Value.int .i64))) : ∃ a cap, v = .slice a n cap ∧ Vw w a n xs := by
  obtain ⟨h1, h2⟩ := h
  have hl : xs.length = n := by simpa using h1
  rcases h2 with ⟨h2, rfl⟩ | ⟨g, cap, cur, hv, _, hh, _, _, hsz, ht⟩
  · exact ⟨none, 0, h2, hl, fun q => absurd q (by omega)⟩
  · refine ⟨_, cap, hv, hl, fun _ => ⟨g, 0, rfl, ?_, fun k hk => ?_⟩⟩
    · rcases Nat.lt_or_ge g w.heap.size with hlt | hge
      · exact hlt
      · rw [Array.getElem?_eq_none hge] at hh; cases hh
    · rw [Nat.zero_add, World.cell?, hh]
      have : (cur.toList.take (n * 1))[k]? = (xs.map (Value.int .i64))[k]? := by rw [ht]
      rw [Nat.mul_one, List.getElem?_take_of_lt hk, List.getElem?_map] at this
      have hx : k < xs.length := by omega
      simp only [Option.isSome_none, Bool.false_eq_true, if_false]
      rw [← Array.getElem?_toList, this]
      simp [hx, List.getD]

theorem Vw.one (w : World) (x : Int) (t : TypeId) : Vw (w.alloc (.cells #[.int .i64 x] t)) (some ⟨w.heap.size, 0, none⟩) 1 [x] := by
  refine ⟨rfl, fun _ => ⟨_, _, rfl, by simp, fun k hk => ?_⟩⟩
  rcases k with _ | k
  · simp
  · omega
theorem infoI : (Try.prog.info? 3).map (fun i => (i.zero, i.size, i.bytes)) = some (some (.int .i64 0), 1, 8) := by kernel_rfl
theorem info_int : ∃ i, Try.prog.info? 3 = some i ∧ i.zero = some (.int .i64 0) ∧ i.size = 1 ∧ i.bytes = 8 := by
  obtain ⟨i, hi, hzz⟩ := Option.map_eq_some_iff.1 infoI
  simp only [Prod.mk.injEq] at hzz
  exact ⟨i, hi, hzz.1, hzz.2.1, hzz.2.2⟩
theorem new_int (w : World) (B : Nat) (hB : B = w.heap.size) (x : Int) (t : TypeId) : ∀ j u, [Value.int .i64 x][j]? = some u → (w.alloc (.cells #[.int .i64 x] t)).cell? ((⟨B, 0, none⟩ : Addr).add j) = some u := by
  subst hB
  intro j u hj
  rw [Addr.add_lit, Nat.zero_add]
  rcases j with _ | j
  · simpa using hj
  · simp at hj
theorem int_one (x : Int) : ∀ u ∈ [Value.int .i64 x], u.oneCell' = true := by
  intro u hu
  obtain rfl := List.mem_singleton.1 hu
  rfl
theorem own_base {w : World} {base : Nat} {t : TypeId} {s : Nat} {v : Value} {n : Nat} {xs : List Value} (o : w.ownsRow base t s v n xs) : ∀ k, v.ownBlock = some k → base ≤ k := by
  intro k hk
  rcases o.2 with ⟨h2, _⟩ | ⟨g', cap', cur, hv, hbg, _⟩
  · rw [h2] at hk; cases hk
  · rw [hv] at hk
    have : g' = k := by simpa [Value.ownBlock] using hk
    omega
theorem own_later {w w' : World} {base : Nat} {t : TypeId} {s : Nat} {v : Value} {n : Nat} {xs : List Value} (o : w.ownsRow base t s v n xs) (hb : Below w.heap.size w w') : w'.ownsRow base t s v n xs := by
  obtain ⟨h1, h2⟩ := o
  refine ⟨h1, ?_⟩
  rcases h2 with h2 | ⟨g', cap', cur, hv, hbg, hh, hc, hm, hsz, ht⟩
  · exact .inl h2
  · refine .inr ⟨g', cap', cur, hv, hbg, ?_, hc, hm, hsz, ht⟩
    rw [hb.block g' ?_]
    · exact hh
    · rcases Nat.lt_or_ge g' w.heap.size with hlt | hge
      · exact hlt
      · rw [Array.getElem?_eq_none hge] at hh; cases hh
end Go.Proofs.Ytcccheeeagphpag.His

/-
  Contracts of package clock's Numbers and Vectors, and of slices.Clone.
-/
namespace Go.Proofs.Ytcccheeeagphpag.His
open Go.RowKit
open Go.Proofs.Ytcccheeeagphpag.Vec

def nums (h : List Ev) (n : Nat) : List Int := (List.range n).map (num h)
theorem nums_len (h : List Ev) (n : Nat) : (nums h n).length = n := by simp [nums]
theorem nums_get (h : List Ev) {n k : Nat} (hk : k < n) : (nums h n).getD k 0 = num h k := by simp [nums, List.getD, hk]
/-- a slice of slices of numbers, seen -/
def Lw (w : World) (a : Option Addr) (n : Nat) (ls : List (List Int)) : Prop :=
  ls.length = n ∧ (0 < n → ∃ b off, a = some ⟨b, off, none⟩ ∧ b < w.heap.size ∧ ∀ k, k < n → ∃ q c, w.cell? ⟨b, off + k, none⟩ = some (.slice q (ls.getD k []).length c) ∧ Vw w q (ls.getD k []).length (ls.getD k []))
theorem Lw.later {w w' : World} {a : Option Addr} {n : Nat} {ls : List (List Int)} (g : Lw w a n ls) (hb : Below w.heap.size w w') : Lw w' a n ls := by
  refine ⟨g.1, fun hn => ?_⟩
  obtain ⟨b, off, e, hlt, hc⟩ := g.2 hn
  refine ⟨b, off, e, Nat.lt_of_lt_of_le hlt hb.size, fun k hk => ?_⟩
  obtain ⟨q, c, h1, h2⟩ := hc k hk
  exact ⟨q, c, (hb.cell (p := ⟨b, off + k, none⟩) hlt).trans h1, h2.later hb⟩

theorem five_cells {w : World} {a : Option Addr} {xs : List Int} (hv : Vw w a 5 xs) : ∃ b off, a = some ⟨b, off, none⟩ ∧ b < w.heap.size ∧ ∀ j u, (xs.map (Value.int .i64))[j]? = some u → w.cell? ((⟨b, off, none⟩ : Addr).add j) = some u := by
  obtain ⟨b, off, rfl, hlt, hc⟩ := hv.2 (by omega)
  refine ⟨b, off, rfl, hlt, fun j u hu => ?_⟩
  rw [Addr.add_lit]
  rw [List.getElem?_map] at hu
  obtain ⟨x, hx, rfl⟩ := Option.map_eq_some_iff.1 hu
  have hj : j < 5 := by
    have := (List.getElem?_eq_some_iff.1 hx).1
    have := hv.1
    omega
  rw [hc j hj]
  simp [List.getD, hx]
theorem map_one (xs : List Int) : ∀ u ∈ xs.map (Value.int .i64), u.oneCell' = true := by
  intro u hu
  obtain ⟨x, _, rfl⟩ := List.mem_map.1 hu
  rfl

theorem own_none (w : World) : (w.alloc (.cells #[] 3)).ownsRow w.heap.size 3 1 (.slice (some ⟨w.heap.size, 0, none⟩) 0 0) 0 ([] : List Value) := by
  refine ⟨rfl, .inr ⟨w.heap.size, 0, #[], rfl, Nat.le_refl _, ?_, Nat.le_refl _, by unfold maxLen; omega, rfl, rfl⟩⟩
  show (w.heap.push _)[w.heap.size]? = _
  simp

set_option maxRecDepth 100000 in
set_option maxHeartbeats 1000000 in
theorem clone5 (a : Option Addr) (cap : Nat) (xs : List Int) (w : World) (hv : Vw w a 5 xs) :
    Calls Try.prog 30 #[.slice a 5 cap] w fun e w' => (∃ g c, e = .returned (.slice (some ⟨g, 0, none⟩) 5 c) ∧ w.heap.size ≤ g ∧ Vw w' (some ⟨g, 0, none⟩) 5 xs) ∧ Below w.heap.size w w' := by
  obtain ⟨b, off, rfl, hlt, hcs⟩ := five_cells hv
  have HL : Hid (xs.length = 5) := hv.1
  have HC : Hid (∀ j u, (xs.map (Value.int .i64))[j]? = some u → (w.alloc (.cells #[] 3)).cell? ((⟨b, off, none⟩ : Addr).add j) = some u) := by
    intro j u hu
    have := hcs j u hu
    rw [Addr.add_lit] at this ⊢
    exact (((Below.refl w.heap.size w).alloc (Nat.le_refl _) _).cell (p := ⟨b, off + j, none⟩) hlt).trans this
  obtain ⟨ie, hi, hz0, hz1, hz2⟩ := info_int
  have HI : Hid (Try.prog.info? 3 = some ie ∧ ie.zero = some (.int .i64 0) ∧ ie.size = 1 ∧ ie.bytes = 8) := ⟨hi, hz0, hz1, hz2⟩
  have hnil := fun W : World => Lib.run_eql_slice_nil (P := Try.prog) W 22 3 (some ⟨b, off, none⟩) 5 cap 0 0 Try.underlying22
  clear hv hlt hcs hi hz0 hz1 hz2
  go_enter Try.func30, Try.ntmps30
  go_wp2_with (at_builtin; refine wpList_append_own _ rfl _ _ 22 rfl w.heap.size 3 ie (.int .i64 0) 1 8 Try.underlying22 HI.out.1 HI.out.2.1 HI.out.2.2.1 HI.out.2.2.2 rfl (by decide) _ 0 _ rfl (own_none w) ⟨b, off, none⟩ 5 cap (xs.map (Value.int .i64)) rfl (by rw [List.length_map]; exact HL.out) HC.out (map_one xs) (by unfold maxLen; omega) (by omega) (by simp) ?_; intro v' wn hown hgrow _; have HO : Hid _ := hown; have HGr : Hid _ := hgrow; clear hown hgrow)
  go_ret
  refine ⟨?_, ((Below.refl w.heap.size w).alloc (Nat.le_refl _) _).grown HGr.out (by simp) (own_base (own_none w))⟩
  have o := HO.out
  rw [List.nil_append] at o
  obtain ⟨q, c, e, hq⟩ := own_vw o
  obtain ⟨g, off', rfl, _⟩ := hq.2 (by omega)
  rcases o.2 with ⟨e2, _⟩ | ⟨g', cap', cur, e2, hg, _⟩
  · rw [e] at e2; cases e2
  · rw [e] at e2
    cases e2
    subst e
    exact ⟨g, c, rfl, hg, hq⟩

/-- vectors -/
def rows (h : List Ev) (n : Nat) : List (List Int) := (List.range n).map (row h)
theorem rows_length (h : List Ev) (n : Nat) : (rows h n).length = n := by simp [rows]
theorem rows_get (h : List Ev) {n k : Nat} (hk : k < n) : (rows h n).getD k [] = row h k := by simp [rows, List.getD, hk]

/-- the rows that are copied so far; none of the copies lies where they lie -/
def VApart (h : List Ev) (w : World) (B len k : Nat) : Prop :=
  ∃ f, w.rowIs B 22 len f ∧ ∀ j, j < k → ∃ g o c, f j = .slice (some ⟨g, o, none⟩) 5 c ∧ g ≠ B ∧ Vw w (some ⟨g, o, none⟩) 5 (row h j)
theorem VApart.later {h : List Ev} {w w' : World} {B len k : Nat} (g : VApart h w B len k) (hb : Below w.heap.size w w') : VApart h w' B len k := by
  obtain ⟨f, r, x⟩ := g
  refine ⟨f, rowIs_later r hb, fun j hj => ?_⟩
  obtain ⟨q, o, c, e, hne, v⟩ := x j hj
  exact ⟨q, o, c, e, hne, v.later hb⟩
theorem vw_setOther {w : World} {g o n : Nat} {xs : List Int} (hv : Vw w (some ⟨g, o, none⟩) n xs) {B i : Nat} (hne : g ≠ B) (v : Value) : Vw (w.setCell ⟨B, i, none⟩ v) (some ⟨g, o, none⟩) n xs := by
  refine ⟨hv.1, fun hn => ?_⟩
  obtain ⟨b, off, e, hlt, hc⟩ := hv.2 hn
  cases e
  refine ⟨g, o, rfl, by simpa [World.setCell] using hlt, fun k hk => ?_⟩
  rw [World.cell?_setCell_other _ _ _ _ (fun e => hne (congrArg Addr.block e).symm)]
  exact hc k hk
theorem VApart.step {h : List Ev} {w : World} {B len k g o c : Nat} (x : VApart h w B len k) (hne : g ≠ B) (hv : Vw w (some ⟨g, o, none⟩) 5 (row h k)) : VApart h (w.setCell ⟨B, k, none⟩ (.slice (some ⟨g, o, none⟩) 5 c)) B len (k + 1) := by
  obtain ⟨f, r, y⟩ := x
  refine ⟨_, r.set k _, fun j hj => ?_⟩
  rcases Nat.lt_or_ge j k with hjk | hjk
  · obtain ⟨g', o', c', e, hn, v⟩ := y j hjk
    refine ⟨g', o', c', ?_, hn, vw_setOther v hn _⟩
    show (if j = k then _ else _) = _
    rw [if_neg (by omega)]
    exact e
  · obtain rfl : j = k := by omega
    exact ⟨g, o, c, if_pos rfl, hne, vw_setOther hv hne _⟩
theorem VApart.lw {h : List Ev} {w : World} {B len : Nat} (x : VApart h w B len len) : Lw w (some ⟨B, 0, none⟩) len (rows h len) := by
  obtain ⟨f, r, y⟩ := x
  refine ⟨rows_length h len, fun _ => ⟨B, 0, rfl, r.lt, fun k hk => ?_⟩⟩
  obtain ⟨g, o, c, e, _, v⟩ := y k hk
  rw [rows_get h hk, row_len, Nat.zero_add]
  exact ⟨_, c, (r.cell hk).trans (congrArg some e), v⟩
theorem mkl_info : (Try.prog.info? 22).map (fun i => (i.zero, i.size, i.bytes)) = some (some (.slice none 0 0), 1, 24) := by kernel_rfl
theorem mk_lists (n : Nat) (hn : n ≤ 60) (w : World) :
    (Instr.makeSlice 74 (.int .i64 (n : Int)) (.int .i64 (n : Int))).run Try.prog w = .ok (.slice (some ⟨w.heap.size, 0, none⟩) n n) (w.alloc (.cells (madeCells #[.slice none 0 0] n) 22)) := by
  obtain ⟨i, hi, hzz⟩ := Option.map_eq_some_iff.1 mkl_info
  simp only [Prod.mk.injEq] at hzz
  obtain ⟨hz, hs, hb⟩ := hzz
  have hr := run_make (P := Try.prog) w 74 22 i _ (by kernel_rfl) hi hz .i64 .i64 n n (by omega) (Int.le_refl _) (by rw [hb]; omega) (by omega)
  simp only [Int.toNat_natCast, hs, Nat.mul_one] at hr
  exact hr
theorem CReached.cells {h : List Ev} {w : World} {base A L len : Nat} (g : CReached h w base A L len len) : A < w.heap.size ∧ ∀ j, j < len → c9fact w A j ((row h j).getD 0 0) ((row h j).getD 1 0) ((row h j).getD 2 0) ((row h j).getD 3 0) ((row h j).getD 4 0) := by
  obtain ⟨fa, fl, ra, rl, _, _, _, ha, _⟩ := g
  refine ⟨ra.lt, fun j hj => ?_⟩
  have q := fun i (hi : i < 5) => (ra.cell (i := j * 5 + i) (by omega)).trans (congrArg some (ha j hj i hi))
  exact ⟨q 0 (by omega), q 1 (by omega), q 2 (by omega), q 3 (by omega), q 4 (by omega)⟩

set_option maxRecDepth 100000 in
set_option maxHeartbeats 2000000 in
theorem vectors_ok (a : Option Addr) (len cap : Nat) (h : List Ev) (w : World) (hlc : len ≤ cap) (hm : cap ≤ maxLen) (hv : Ew w a len h) (hc : chkC h = 0) :
    Calls Try.prog 31 #[.slice a len cap] w fun e w' => ∃ A, e = .returned (.tuple #[.slice (some ⟨A, 0, none⟩) len len, .nilIface]) ∧ Below w.heap.size w w' ∧ Lw w' (some ⟨A, 0, none⟩) len (rows h len) := by
  obtain ⟨h60, hg⟩ := chk_zero hc
  rw [hv.1] at h60 hg
  have hmk := mk_lists len h60
  go_enter Try.func31, Try.ntmps31
  go_wp2_with fail
  refine (check_any a len cap h w hlc hm hv).mono ?_
  rintro e w1 ⟨rfl, hb⟩
  rw [hc, errV_ok]
  have V1 : Hid (Below w.heap.size w w1) := hb
  have B2 : Hid (Below w1.heap.size w1 (w1.alloc (.cells (madeCells #[.slice none 0 0] len) 22))) := (Below.refl _ _).alloc (Nat.le_refl _) _
  have E1 : Hid (Ew (w1.alloc (.cells (madeCells #[.slice none 0 0] len) 22)) a len h) := (hv.later hb).later B2.out
  have D1 : Hid (VApart h (w1.alloc (.cells (madeCells #[.slice none 0 0] len) 22)) w1.heap.size len 0) := ⟨_, World.rowIs_made w1 _ len _, fun j hj => absurd hj (by omega)⟩
  have HG : Hid (Good h len) := hg
  clear hv hb hg
  go_wp2_with fail
  refine (alongV a len cap h _ h60 E1.out HG.out).mono ?_
  rintro e w2 ⟨A, rfl, hb, L, hR⟩
  have V2 : Hid (Below w.heap.size w w2) := below_up rfl V1.out (below_up rfl B2.out hb)
  have D2 : Hid (VApart h w2 w1.heap.size len 0) := D1.out.later hb
  have C2 : Hid _ := hR.cells
  have HA1 : Hid (A ≠ w1.heap.size) := by
    obtain ⟨fa, fl, ra, rl, hAL, hA, _⟩ := hR
    have : w1.heap.size + 1 ≤ A := by simpa using hA
    show A ≠ _
    omega
  clear hb hR hmk
  go_wp2
  go_loopw [23] (fun i wr => ∃ k : Nat, k ≤ len ∧ i = .int .i64 k ∧ Hid (Below w.heap.size w wr) ∧ Hid (A < wr.heap.size ∧ ∀ j, j < len → c9fact wr A j ((row h j).getD 0 0) ((row h j).getD 1 0) ((row h j).getD 2 0) ((row h j).getD 3 0) ((row h j).getD 4 0)) ∧ Hid (VApart h wr w1.heap.size len k)) (fun i _ => len - (intOf i).toNat)
  case atStart => exact ⟨0, by omega, rfl, V2.out, C2.out, D2.out⟩
  case round =>
    obtain ⟨k, hk, rfl, hbel, hC, hD⟩ := hrel
    by_cases hlt : k < len
    · obtain ⟨g0, g1, g2, g3, g4⟩ := hC.out.2 k hlt
      obtain ⟨r0, e0⟩ : ∃ x, x = (row h k).getD 0 0 := ⟨_, rfl⟩
      obtain ⟨r1, e1⟩ : ∃ x, x = (row h k).getD 1 0 := ⟨_, rfl⟩
      obtain ⟨r2, e2⟩ : ∃ x, x = (row h k).getD 2 0 := ⟨_, rfl⟩
      obtain ⟨r3, e3⟩ : ∃ x, x = (row h k).getD 3 0 := ⟨_, rfl⟩
      obtain ⟨r4, e4⟩ : ∃ x, x = (row h k).getD 4 0 := ⟨_, rfl⟩
      have hrs : Hid (row h k = [r0, r1, r2, r3, r4]) := by show _ = _; rw [e0, e1, e2, e3, e4]; exact (list5 (row_len h k)).symm
      rw [← e0] at g0
      rw [← e1] at g1
      rw [← e2] at g2
      rw [← e3] at g3
      rw [← e4] at g4
      clear e0 e1 e2 e3 e4
      have hk0 : (0 : Int) ≤ (k : Int) := by omega
      have hkl : (k : Int) < (len : Int) := by omega
      have B3 : Hid (Below wr.heap.size wr (wr.alloc (.cells #[.int .i64 r0, .int .i64 r1, .int .i64 r2, .int .i64 r3, .int .i64 r4] 95))) := (Below.refl _ _).alloc (Nat.le_refl _) _
      go_wp2_with fail
      refine (clone5 _ 5 [r0, r1, r2, r3, r4] _ (Vw.lit wr r0 r1 r2 r3 r4 _)).mono ?_
      rintro e w3 ⟨⟨g, c, rfl, hge, hq⟩, hb⟩
      have H3 : Hid (Below wr.heap.size wr w3) := below_up rfl B3.out hb
      have Q3 : Hid (Vw w3 (some ⟨g, 0, none⟩) 5 (row h k)) := by show Vw _ _ _ _; rw [hrs.out]; exact hq
      have D3 : Hid (VApart h w3 w1.heap.size len k) := hD.out.later H3.out
      have hB1 : w1.heap.size < wr.heap.size := by
        obtain ⟨f, r, _⟩ := hD.out
        exact r.lt
      have hA1 : Hid (A ≠ w1.heap.size) := HA1
      have hgB : Hid (g ≠ w1.heap.size) := by
        have : wr.heap.size + 1 ≤ g := by simpa using hge
        show g ≠ _
        omega
      have hu : ∃ y, w3.cell? ⟨w1.heap.size, k, none⟩ = some y ∧ w3.frozen? ⟨w1.heap.size, k, none⟩ = false := by
        obtain ⟨f, r, _⟩ := D3.out
        exact ⟨_, r.cell hlt, r.frozen k⟩
      obtain ⟨y, u0, z0⟩ := hu
      have C3 : Hid (A < w3.heap.size ∧ ∀ j, j < len → c9fact w3 A j ((row h j).getD 0 0) ((row h j).getD 1 0) ((row h j).getD 2 0) ((row h j).getD 3 0) ((row h j).getD 4 0)) := ⟨Nat.lt_of_lt_of_le hC.out.1 H3.out.size, fun j hj => (hC.out.2 j hj).later hC.out.1 H3.out⟩
      clear hge hq hb g0 g1 g2 g3 g4
      go_wp2
      go_roundw
      case rel =>
        refine ⟨k + 1, by omega, by go_num, (below_up rfl hbel.out H3.out).setCell (p := ⟨_, _, none⟩) V1.out.size _, ⟨?_, fun j hj => ?_⟩, D3.out.step hgB.out Q3.out⟩
        · simpa [World.setCell] using C3.out.1
        · have key : ∀ i, (w3.setCell ⟨w1.heap.size, k, none⟩ (.slice (some ⟨g, 0, none⟩) 5 c)).cell? ⟨A, i, none⟩ = w3.cell? ⟨A, i, none⟩ := fun i => World.cell?_setCell_other _ _ _ _ (fun e => hA1.out (congrArg Addr.block e).symm)
          obtain ⟨g0, g1, g2, g3, g4⟩ := C3.out.2 j hj
          exact ⟨(key _).trans g0, (key _).trans g1, (key _).trans g2, (key _).trans g3, (key _).trans g4⟩
      case measure => simp [intOf]; omega
    · have hkl : k = len := by omega
      subst hkl
      go_wp2
      go_ret2
      exact ⟨_, rfl, hbel.out, hD.out.lw⟩
set_option maxRecDepth 100000 in
theorem vectors_no (a : Option Addr) (len cap : Nat) (h : List Ev) (w : World) (hlc : len ≤ cap) (hm : cap ≤ maxLen) (hv : Ew w a len h) (hc : chkC h ≠ 0) :
    Calls Try.prog 31 #[.slice a len cap] w fun e w' => e = .returned (.tuple #[.slice none 0 0, .iface 54 (.int .i64 (chkC h))]) ∧ Below w.heap.size w w' := by
  go_enter Try.func31, Try.ntmps31
  go_wp2_with fail
  refine (check_any a len cap h w hlc hm hv).mono ?_
  rintro e w1 ⟨rfl, hb⟩
  rw [errV_no hc]
  have V1 : Hid (Below w.heap.size w w1) := hb
  clear hv hb hc
  go_wp2
  go_ret2
  exact ⟨rfl, V1.out⟩
end Go.Proofs.Ytcccheeeagphpag.His
