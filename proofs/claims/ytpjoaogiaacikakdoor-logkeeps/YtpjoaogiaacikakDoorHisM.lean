/-
  Plain facts on histories: what each event reaches counts, of each member, what is ahead of it; so one is ahead of another one just if what it reaches is below.
-/
import Derived.WalkKit
namespace Go.Proofs.YtpjoaogiaacikakDoor.His

abbrev Ev := Int × Int × Int
def ev (h : List Ev) (i : Nat) : Ev := h.getD i (0, 0, 0)
def says (word : Int) (x : Ev) : Bool := decide (x.2.1 = 2) && decide (x.2.2 = word)
def isOne (e : Ev) : Bool := decide (0 ≤ e.1) && decide (e.1 < 5) && ((decide (e.2.1 = 1) && decide (e.2.2 = 0)) || ((decide (e.2.1 = 2) || decide (e.2.1 = 3)) && (decide (1 ≤ e.2.2) && decide (e.2.2 ≤ 30))))
def next (p : List Ev) (e : Ev) : Int :=
  if isOne e = false then 1 else
  if e.2.1 = 2 ∧ p.any (says e.2.2) = true then 7 else
  if e.2.1 ≠ 3 then 0 else
  if p.any (fun y => y == e) = true then 7 else
  if p.any (says e.2.2) = false then 5 else
  if p.any (fun y => y == (e.1, 2, e.2.2)) = true then 3 else 0
def Good (h : List Ev) (n : Nat) : Prop := ∀ i, i < n → next (h.take i) (ev h i) = 0

def W (h : List Ev) (n : Nat) : Nat := (ev h n).1.toNat
def sayAt (h : List Ev) (word : Int) : Nat := h.findIdx (says word)
def zero5 : List Int := [0, 0, 0, 0, 0]
def joinR (a b : List Int) : List Int := [max (a.getD 0 0) (b.getD 0 0), max (a.getD 1 0) (b.getD 1 0), max (a.getD 2 0) (b.getD 2 0), max (a.getD 3 0) (b.getD 3 0), max (a.getD 4 0) (b.getD 4 0)]
def upd (r : List Int) (w : Nat) : List Int := r.set w (r.getD w 0 + 1)
def far (h : List Ev) (n : Nat) (s : List (List Int) × (Nat → List Int)) : List Int :=
  upd (if (ev h n).2.1 = 3 then joinR (s.2 (W h n)) (s.1.getD (sayAt h (ev h n).2.2) zero5) else s.2 (W h n)) (W h n)
def st (h : List Ev) : Nat → List (List Int) × (Nat → List Int)
  | 0 => ([], fun _ => zero5)
  | n + 1 => ((st h n).1 ++ [far h n (st h n)], fun m => if m = W h n then far h n (st h n) else (st h n).2 m)
def row (h : List Ev) (n : Nat) : List Int := far h n (st h n)
def last (h : List Ev) (n m : Nat) : List Int := (st h n).2 m
def cnt (h : List Ev) (m : Nat) : Nat → Int
  | 0 => 0
  | n + 1 => cnt h m n + if W h n = m then 1 else 0

theorem cnt_step (h : List Ev) (m n : Nat) : cnt h m (n + 1) = cnt h m n + if W h n = m then 1 else 0 := rfl
theorem cnt_nonneg (h : List Ev) (m n : Nat) : 0 ≤ cnt h m n := by
  induction n with
  | zero => exact Int.le_refl _
  | succ n ih => rw [cnt_step]; split <;> omega
theorem cnt_le (h : List Ev) (m n : Nat) : cnt h m n ≤ n := by
  induction n with
  | zero => exact Int.le_refl _
  | succ n ih => rw [cnt_step]; split <;> omega
theorem cnt_mono (h : List Ev) (m : Nat) {a b : Nat} (hab : a ≤ b) : cnt h m a ≤ cnt h m b := by
  induction hab with
  | refl => exact Int.le_refl _
  | step _ ih => rw [cnt_step]; split <;> omega
theorem cnt_same (h : List Ev) (m : Nat) {a b : Nat} (hab : a ≤ b) (hn : ∀ j, a ≤ j → j < b → W h j ≠ m) : cnt h m b = cnt h m a := by
  induction hab with
  | refl => rfl
  | @step b hb ih =>
    rw [cnt_step, if_neg (hn b hb (Nat.lt_succ_self b)), ih (fun j h1 h2 => hn j h1 (Nat.lt_succ_of_lt h2))]
    omega
/-- an event's own count -/
def own (h : List Ev) (i : Nat) : Int := cnt h (W h i) (i + 1)
theorem own_eq (h : List Ev) (i : Nat) : own h i = cnt h (W h i) i + 1 := by simp [own, cnt_step]
theorem own_pos (h : List Ev) (i : Nat) : 1 ≤ own h i := by rw [own_eq]; have := cnt_nonneg h (W h i) i; omega
/-- by its own count an event is where it is -/
theorem own_le {h : List Ev} {i n : Nat} (hl : own h i ≤ cnt h (W h i) n) : i < n := by
  rcases Nat.lt_or_ge i n with h1 | h1
  · exact h1
  · have := cnt_mono h (W h i) h1
    rw [own_eq] at hl
    omega
/-- every count up to what there are is some event's own -/
theorem exists_own (h : List Ev) (m n : Nat) (c : Int) (h1 : 1 ≤ c) (h2 : c ≤ cnt h m n) : ∃ i, i < n ∧ W h i = m ∧ own h i = c := by
  induction n with
  | zero => simp [cnt] at h2; omega
  | succ n ih =>
    by_cases hc : c ≤ cnt h m n
    · obtain ⟨i, a, b, d⟩ := ih hc
      exact ⟨i, Nat.lt_succ_of_lt a, b, d⟩
    · rw [cnt_step] at h2
      split at h2
      · rename_i e
        refine ⟨n, Nat.lt_succ_self n, e, ?_⟩
        rw [own_eq, e]
        omega
      · omega

theorem st_len (h : List Ev) (n : Nat) : (st h n).1.length = n := by
  induction n with
  | zero => rfl
  | succ n ih => simp [st, ih]
theorem st_get (h : List Ev) (n j : Nat) (hj : j < n) : (st h n).1.getD j zero5 = row h j := by
  induction n with
  | zero => omega
  | succ n ih =>
    simp only [st]
    rcases Nat.lt_or_ge j n with h1 | h1
    · rw [← ih h1]
      simp [List.getD, List.getElem?_append_left (show j < (st h n).1.length by rw [st_len]; exact h1)]
    · obtain rfl : j = n := by omega
      simp [List.getD, st_len, row]
theorem last_step (h : List Ev) (n m : Nat) : last h (n + 1) m = if m = W h n then row h n else last h n m := rfl
theorem last_spec (h : List Ev) (m n : Nat) :
    (∃ j, j < n ∧ W h j = m ∧ (∀ j', j < j' → j' < n → W h j' ≠ m) ∧ last h n m = row h j) ∨ ((∀ j, j < n → W h j ≠ m) ∧ last h n m = zero5) := by
  induction n with
  | zero => exact .inr ⟨fun j hj => absurd hj (Nat.not_lt_zero _), rfl⟩
  | succ n ih =>
    rw [last_step]
    by_cases hm : m = W h n
    · rw [if_pos hm]
      exact .inl ⟨n, Nat.lt_succ_self n, hm.symm, fun j' h1 h2 => by omega, rfl⟩
    · rw [if_neg hm]
      rcases ih with ⟨j, h1, h2, h3, h4⟩ | ⟨h1, h2⟩
      · refine .inl ⟨j, Nat.lt_succ_of_lt h1, h2, fun j' a b => ?_, h4⟩
        rcases Nat.lt_succ_iff_lt_or_eq.1 b with b | rfl
        · exact h3 j' a b
        · exact fun e => hm e.symm
      · refine .inr ⟨fun j hj => ?_, h2⟩
        rcases Nat.lt_succ_iff_lt_or_eq.1 hj with b | rfl
        · exact h1 j b
        · exact fun e => hm e.symm

/-! what is right -/
theorem good_one {h : List Ev} {N n : Nat} (hg : Good h N) (hn : n < N) : isOne (ev h n) = true := by
  have := hg n hn
  unfold next at this
  cases hb : isOne (ev h n) with
  | true => rfl
  | false => rw [hb, if_pos rfl] at this; omega
theorem isOne_who {e : Ev} (h : isOne e = true) : 0 ≤ e.1 ∧ e.1 < 5 := by
  simp [isOne] at h
  exact h.1
theorem isOne_what {e : Ev} (h : isOne e = true) : (e.2.1 = 1 ∧ e.2.2 = 0) ∨ ((e.2.1 = 2 ∨ e.2.1 = 3) ∧ 1 ≤ e.2.2 ∧ e.2.2 ≤ 30) := by
  simp [isOne] at h
  exact h.2
theorem W_lt {h : List Ev} {N n : Nat} (hg : Good h N) (hn : n < N) : W h n < 5 := by
  have := isOne_who (good_one hg hn)
  unfold W
  omega
theorem W_cast {h : List Ev} {N n : Nat} (hg : Good h N) (hn : n < N) : ((W h n : Nat) : Int) = (ev h n).1 := by
  have := isOne_who (good_one hg hn)
  unfold W
  omega
theorem good_said {h : List Ev} {N n : Nat} (hg : Good h N) (hn : n < N) (h3 : (ev h n).2.1 = 3) : (h.take n).any (says (ev h n).2.2) = true := by
  have := hg n hn
  unfold next at this
  rw [if_neg (by rw [good_one hg hn]; decide), if_neg (by omega), if_neg (by omega)] at this
  split at this
  · omega
  · cases hb : (h.take n).any (says (ev h n).2.2) with
    | true => rfl
    | false => rw [hb, if_pos rfl] at this; omega
theorem sayAt_lt {h : List Ev} {N n : Nat} (hg : Good h N) (hn : n < N) (h3 : (ev h n).2.1 = 3) :
    sayAt h (ev h n).2.2 < n ∧ sayAt h (ev h n).2.2 < h.length ∧ says (ev h n).2.2 (ev h (sayAt h (ev h n).2.2)) = true := by
  have hs := good_said hg hn h3
  obtain ⟨x, hx, hp⟩ := List.any_eq_true.1 hs
  obtain ⟨j, hj, rfl⟩ := List.getElem_of_mem hx
  have hj2 : j < n ∧ j < h.length := by simpa [List.length_take, Nat.lt_min] using hj
  have hp' : says (ev h n).2.2 h[j] = true := by simpa [List.getElem_take] using hp
  have hle : sayAt h (ev h n).2.2 ≤ j := by
    rcases Nat.lt_or_ge j (sayAt h (ev h n).2.2) with h1 | h1
    · exact absurd hp' (by simpa using List.not_of_lt_findIdx h1)
    · exact h1
  have hlt : sayAt h (ev h n).2.2 < h.length := by omega
  refine ⟨by omega, hlt, ?_⟩
  have := List.findIdx_getElem (w := hlt)
  have e : ev h (sayAt h (ev h n).2.2) = h[sayAt h (ev h n).2.2] := by
    show h.getD _ _ = _
    rw [List.getD, List.getElem?_eq_getElem hlt]
    rfl
  rw [e]
  exact this

/-! lengths -/
theorem joinR_len (a b : List Int) : (joinR a b).length = 5 := rfl
theorem upd_len (r : List Int) (w : Nat) : (upd r w).length = r.length := by simp [upd]
theorem rows_key (h : List Ev) (n : Nat) (hl : ∀ m, (last h n m).length = 5) : (row h n).length = 5 := by
  unfold row far
  rw [upd_len]
  split
  · rfl
  · exact hl _
theorem rows_len (h : List Ev) (n : Nat) : (∀ m, (last h n m).length = 5) ∧ (row h n).length = 5 := by
  induction n with
  | zero => exact ⟨fun _ => rfl, rows_key _ _ fun _ => rfl⟩
  | succ n ih =>
    have hl : ∀ m, (last h (n + 1) m).length = 5 := by
      intro m
      rw [last_step]
      split
      · exact ih.2
      · exact ih.1 m
    exact ⟨hl, rows_key _ _ hl⟩
theorem row_len (h : List Ev) (n : Nat) : (row h n).length = 5 := (rows_len h n).2
theorem last_len (h : List Ev) (n m : Nat) : (last h n m).length = 5 := (rows_len h n).1 m
theorem getD_upd (r : List Int) (w m : Nat) (hw : w < r.length) : (upd r w).getD m 0 = r.getD m 0 + if w = m then 1 else 0 := by
  unfold upd
  by_cases e : w = m
  · subst e
    simp [List.getD, hw]
  · simp [List.getD, List.getElem?_set_ne e, e]
theorem getD_joinR (a b : List Int) (ha : a.length = 5) (hb : b.length = 5) (m : Nat) : (joinR a b).getD m 0 = max (a.getD m 0) (b.getD m 0) := by
  rcases m with _ | _ | _ | _ | _ | m
  · rfl
  · rfl
  · rfl
  · rfl
  · rfl
  · simp [joinR, List.getD, List.getElem?_eq_none (show a.length ≤ m + 5 by omega), List.getElem?_eq_none (show b.length ≤ m + 5 by omega)]

/-- what an event reaches, number by number -/
theorem row_get {h : List Ev} {N n : Nat} (hg : Good h N) (hn : n < N) (m : Nat) :
    (row h n).getD m 0 = (if (ev h n).2.1 = 3 then max ((last h n (W h n)).getD m 0) ((row h (sayAt h (ev h n).2.2)).getD m 0) else (last h n (W h n)).getD m 0) + if W h n = m then 1 else 0 := by
  have hw := W_lt hg hn
  have e : row h n = upd (if (ev h n).2.1 = 3 then joinR (last h n (W h n)) ((st h n).1.getD (sayAt h (ev h n).2.2) zero5) else last h n (W h n)) (W h n) := rfl
  rw [e]
  by_cases h3 : (ev h n).2.1 = 3
  · rw [if_pos h3, if_pos h3, getD_upd _ _ _ (by rw [joinR_len]; exact hw), st_get h n _ (sayAt_lt hg hn h3).1, getD_joinR _ _ (last_len h n _) (row_len h _)]
  · rw [if_neg h3, if_neg h3, getD_upd _ _ _ (by rw [last_len h n (W h n)]; exact hw)]

theorem bounds {h : List Ev} {N : Nat} (hg : Good h N) : ∀ n, n < N → (∀ m, 0 ≤ (row h n).getD m 0 ∧ (row h n).getD m 0 ≤ cnt h m (n + 1)) ∧ (row h n).getD (W h n) 0 = own h n := by
  intro n
  induction n using Nat.strongRecOn with
  | _ n ih =>
    intro hn
    have hlast : ∀ m, 0 ≤ (last h n (W h n)).getD m 0 ∧ (last h n (W h n)).getD m 0 ≤ cnt h m n := by
      intro m
      rcases last_spec h (W h n) n with ⟨j, h1, h2, h3, h4⟩ | ⟨_, h2⟩
      · rw [h4]
        have := (ih j h1 (by omega)).1 m
        have := cnt_mono h m (show j + 1 ≤ n by omega)
        omega
      · rw [h2]
        have := cnt_nonneg h m n
        rcases m with _ | _ | _ | _ | _ | m <;> simp [zero5] <;> omega
    have hself : (last h n (W h n)).getD (W h n) 0 = cnt h (W h n) n := by
      rcases last_spec h (W h n) n with ⟨j, h1, h2, h3, h4⟩ | ⟨h1, h2⟩
      · rw [h4]
        have := (ih j h1 (by omega)).2
        rw [h2] at this
        rw [this]
        unfold own
        rw [h2]
        exact (cnt_same h (W h n) (show j + 1 ≤ n by omega) (fun j' a b => h3 j' (by omega) b)).symm
      · rw [h2, cnt_same h (W h n) (Nat.zero_le n) (fun j _ b => h1 j b)]
        have : W h n < 5 := W_lt hg hn
        generalize W h n = x at this
        rcases x with _ | _ | _ | _ | _ | x <;> first | rfl | omega
    have hsay : (ev h n).2.1 = 3 → ∀ m, 0 ≤ (row h (sayAt h (ev h n).2.2)).getD m 0 ∧ (row h (sayAt h (ev h n).2.2)).getD m 0 ≤ cnt h m n := by
      intro h3 m
      have hs := (sayAt_lt hg hn h3).1
      have := (ih _ hs (by omega)).1 m
      have := cnt_mono h m (show sayAt h (ev h n).2.2 + 1 ≤ n by omega)
      omega
    refine ⟨fun m => ?_, ?_⟩
    · rw [row_get hg hn, cnt_step]
      have := hlast m
      split
      · rename_i h3
        have := hsay h3 m
        split <;> omega
      · split <;> omega
    · rw [row_get hg hn, own_eq, if_pos rfl, hself]
      split
      · rename_i h3
        have := hsay h3 (W h n)
        omega
      · rfl

theorem row_self {h : List Ev} {N n : Nat} (hg : Good h N) (hn : n < N) : (row h n).getD (W h n) 0 = own h n := (bounds hg n hn).2
theorem row_nonneg {h : List Ev} {N n : Nat} (hg : Good h N) (hn : n < N) (m : Nat) : 0 ≤ (row h n).getD m 0 := ((bounds hg n hn).1 m).1
theorem row_le {h : List Ev} {N n : Nat} (hg : Good h N) (hn : n < N) (m : Nat) : (row h n).getD m 0 ≤ cnt h m (n + 1) := ((bounds hg n hn).1 m).2

/-- the last one of a member is below -/
theorem last_below {h : List Ev} {N n : Nat} (hg : Good h N) (hn : n < N) (m : Nat) : (last h n (W h n)).getD m 0 ≤ (row h n).getD m 0 := by
  rw [row_get hg hn]
  split <;> split <;> omega
/-- what is said is below what is heard -/
theorem say_below {h : List Ev} {N n : Nat} (hg : Good h N) (hn : n < N) (h3 : (ev h n).2.1 = 3) (m : Nat) : (row h (sayAt h (ev h n).2.2)).getD m 0 ≤ (row h n).getD m 0 := by
  rw [row_get hg hn, if_pos h3]
  split <;> omega
/-- of one member what was earlier is below -/
theorem mem_below {h : List Ev} {N : Nat} (hg : Good h N) : ∀ n, n < N → ∀ j, j ≤ n → W h j = W h n → ∀ m, (row h j).getD m 0 ≤ (row h n).getD m 0 := by
  intro n
  induction n using Nat.strongRecOn with
  | _ n ih =>
    intro hn j hj hw m
    rcases Nat.lt_or_ge j n with hlt | hge
    · have hb := last_below hg hn m
      rcases last_spec h (W h n) n with ⟨l, h1, h2, h3, h4⟩ | ⟨h1, _⟩
      · rw [h4] at hb
        have hjl : j ≤ l := by
          rcases Nat.lt_or_ge l j with a | a
          · exact absurd hw (h3 j a hlt)
          · exact a
        exact Int.le_trans (ih l h1 (by omega) j hjl (hw.trans h2.symm) m) hb
      · exact absurd hw (h1 j hlt)
    · obtain rfl : j = n := by omega
      exact Int.le_refl _

/-- one that is reached is below, and no later -/
theorem dom {h : List Ev} {N : Nat} (hg : Good h N) : ∀ k, k < N → ∀ i, own h i ≤ (row h k).getD (W h i) 0 → i ≤ k ∧ ∀ m, (row h i).getD m 0 ≤ (row h k).getD m 0 := by
  intro k
  induction k using Nat.strongRecOn with
  | _ k ih =>
    intro hk i hi
    by_cases hw : W h i = W h k
    · rw [hw, row_self hg hk] at hi
      have hik : i < k + 1 := own_le (by rw [hw]; exact hi)
      exact ⟨by omega, mem_below hg k hk i (by omega) hw⟩
    · have hp := own_pos h i
      have hr := row_get hg hk (W h i)
      rw [if_neg (show ¬ W h k = W h i from fun e => hw e.symm)] at hr
      have hcase : own h i ≤ (last h k (W h k)).getD (W h i) 0 ∨ ((ev h k).2.1 = 3 ∧ own h i ≤ (row h (sayAt h (ev h k).2.2)).getD (W h i) 0) := by
        by_cases h3 : (ev h k).2.1 = 3
        · rw [if_pos h3] at hr
          rcases Int.le_total ((last h k (W h k)).getD (W h i) 0) ((row h (sayAt h (ev h k).2.2)).getD (W h i) 0) with a | a
          · right; exact ⟨h3, by omega⟩
          · left; omega
        · rw [if_neg h3] at hr
          left; omega
      rcases hcase with hl | ⟨h3, hl⟩
      · rcases last_spec h (W h k) k with ⟨l, h1, _, _, h4⟩ | ⟨_, h2⟩
        · have hb := last_below hg hk
          rw [h4] at hl
          obtain ⟨a, b⟩ := ih l h1 (by omega) i hl
          refine ⟨by omega, fun m => ?_⟩
          have := hb m
          rw [h4] at this
          exact Int.le_trans (b m) this
        · rw [h2] at hl
          generalize W h i = x at hl
          rcases x with _ | _ | _ | _ | _ | x <;> simp [zero5] at hl <;> omega
      · obtain ⟨a, b⟩ := ih _ (sayAt_lt hg hk h3).1 (by have := (sayAt_lt hg hk h3).1; omega) i hl
        exact ⟨by have := (sayAt_lt hg hk h3).1; omega, fun m => Int.le_trans (b m) (say_below hg hk h3 m)⟩

/-- is one ahead of another one? -/
def bef (h : List Ev) (i k : Nat) : Bool := decide (i ≠ k) && decide ((row h i).getD (W h i) 0 ≤ (row h k).getD (W h i) 0)
theorem bef_iff {h : List Ev} {N i k : Nat} (hg : Good h N) (hi : i < N) : bef h i k = true ↔ i ≠ k ∧ own h i ≤ (row h k).getD (W h i) 0 := by
  simp only [bef, Bool.and_eq_true, decide_eq_true_eq, row_self hg hi]
theorem bef_self (h : List Ev) (i : Nat) : bef h i i = false := by simp [bef]
theorem bef_lt {h : List Ev} {N i k : Nat} (hg : Good h N) (hi : i < N) (hk : k < N) (hb : bef h i k = true) : i < k := by
  obtain ⟨a, b⟩ := (bef_iff hg hi).1 hb
  have := (dom hg k hk i b).1
  omega
theorem bef_trans {h : List Ev} {N i k j : Nat} (hg : Good h N) (hi : i < N) (hk : k < N) (hj : j < N) (h1 : bef h i k = true) (h2 : bef h k j = true) : bef h i j = true := by
  have l1 := bef_lt hg hi hk h1
  have l2 := bef_lt hg hk hj h2
  obtain ⟨_, a⟩ := (bef_iff hg hi).1 h1
  obtain ⟨_, b⟩ := (bef_iff hg hk).1 h2
  exact (bef_iff hg hi).2 ⟨by omega, Int.le_trans a ((dom hg j hj k b).2 _)⟩

/-- is a cut one that could have been? -/
def leR (a b : List Int) : Bool := decide (a.getD 0 0 ≤ b.getD 0 0) && decide (a.getD 1 0 ≤ b.getD 1 0) && decide (a.getD 2 0 ≤ b.getD 2 0) && decide (a.getD 3 0 ≤ b.getD 3 0) && decide (a.getD 4 0 ≤ b.getD 4 0)
def cutAt (h : List Ev) (many : List Int) (n : Nat) : Bool := decide (many.getD (W h n) 0 < (row h n).getD (W h n) 0) || leR (row h n) many
theorem leR_of {a b : List Int} (hx : ∀ m, m < 5 → a.getD m 0 ≤ b.getD m 0) : leR a b = true := by
  simp only [leR, Bool.and_eq_true, decide_eq_true_eq]
  exact ⟨⟨⟨⟨hx 0 (by omega), hx 1 (by omega)⟩, hx 2 (by omega)⟩, hx 3 (by omega)⟩, hx 4 (by omega)⟩
theorem leR_get {a b : List Int} (hx : leR a b = true) (m : Nat) (hm : m < 5) : a.getD m 0 ≤ b.getD m 0 := by
  simp only [leR, Bool.and_eq_true, decide_eq_true_eq] at hx
  obtain ⟨⟨⟨⟨a0, a1⟩, a2⟩, a3⟩, a4⟩ := hx
  rcases m with _ | _ | _ | _ | _ | m
  · exact a0
  · exact a1
  · exact a2
  · exact a3
  · exact a4
  · omega
/-- a beginning is a cut that could have been -/
theorem begin_cut {h : List Ev} {N n i : Nat} (hg : Good h N) (hi : i < N) (many : List Int) (hm : ∀ m, m < 5 → many.getD m 0 = cnt h m n) : cutAt h many i = true := by
  unfold cutAt
  rw [Bool.or_eq_true]
  have hw := W_lt hg hi
  by_cases hc : many.getD (W h i) 0 < (row h i).getD (W h i) 0
  · exact .inl (decide_eq_true hc)
  · right
    rw [row_self hg hi, hm _ hw] at hc
    have hin : i < n := own_le (h := h) (by omega)
    refine leR_of fun m hm5 => ?_
    rw [hm m hm5]
    exact Int.le_trans (row_le hg hi m) (cnt_mono h m hin)
end Go.Proofs.YtpjoaogiaacikakDoor.His
