/-
  Plain facts on clocks, held against the document's own way of telling: how many of each are ahead; the longest row of events that leads up to each; all events by numbers and members.
-/
import Derived.Test.YtibgdikahihgeabDoorHisN
import Derived.Test.YtibgdikahihgeabDoorClkM
namespace Go.Proofs.YtibgdikahihgeabDoor.His

/-- of each member how many are ahead of an event, or it itself -/
def vcnt (h : List Ev) (k m : Nat) : Nat → Int
  | 0 => 0
  | i + 1 => vcnt h k m i + if W h i = m ∧ (i = k ∨ bef h i k = true) then 1 else 0
theorem vcnt_step (h : List Ev) (k m i : Nat) : vcnt h k m (i + 1) = vcnt h k m i + if W h i = m ∧ (i = k ∨ bef h i k = true) then 1 else 0 := rfl
theorem vcnt_min {h : List Ev} {N k : Nat} (hg : Good h N) (hk : k < N) (m : Nat) : ∀ i, i ≤ k + 1 → vcnt h k m i = min (cnt h m i) ((row h k).getD m 0) := by
  intro i
  induction i with
  | zero =>
    intro _
    have := row_nonneg hg hk m
    simp only [vcnt, cnt]
    omega
  | succ i ih =>
    intro hi
    have ih := ih (by omega)
    rw [vcnt_step, cnt_step, ih]
    by_cases hw : W h i = m
    · have hown : (i = k ∨ bef h i k = true) ↔ cnt h m i + 1 ≤ (row h k).getD m 0 := by
        have e : own h i = cnt h m i + 1 := by rw [own_eq, hw]
        rw [← e, ← hw]
        constructor
        · rintro (rfl | b)
          · rw [row_self hg hk]; exact Int.le_refl _
          · exact ((bef_iff hg (show i < N by omega)).1 b).2
        · intro b
          by_cases q : i = k
          · exact .inl q
          · exact .inr ((bef_iff hg (show i < N by omega)).2 ⟨q, b⟩)
      rw [if_pos hw]
      by_cases hc : cnt h m i + 1 ≤ (row h k).getD m 0
      · rw [if_pos ⟨hw, hown.2 hc⟩]; omega
      · rw [if_neg (fun q => hc (hown.1 q.2))]; omega
    · rw [if_neg hw, if_neg (fun q => hw q.1)]; omega
theorem vcnt_row {h : List Ev} {N k : Nat} (hg : Good h N) (hk : k < N) (m : Nat) : vcnt h k m (k + 1) = (row h k).getD m 0 := by
  rw [vcnt_min hg hk m (k + 1) (Nat.le_refl _)]
  have := row_le hg hk m
  omega

/-- who said what is heard -/
theorem say_one {h : List Ev} {N i k : Nat} (hg : Good h N) (hk : k < N) (hlt : i < k) (h2 : (ev h i).2.1 = 2) (h3 : (ev h k).2.1 = 3) (hw : (ev h i).2.2 = (ev h k).2.2) : sayAt h (ev h k).2.2 = i := by
  have hi : i < N := by omega
  have hs := sayAt_lt hg hk h3
  rcases Nat.lt_trichotomy (sayAt h (ev h k).2.2) i with a | a | a
  · exfalso
    have h7 := hg i hi
    unfold next at h7
    rw [if_neg (by rw [good_one hg hi]; decide), if_pos] at h7
    · omega
    · refine ⟨h2, List.any_eq_true.2 ⟨ev h (sayAt h (ev h k).2.2), ?_, ?_⟩⟩
      · have e : (h.take i)[sayAt h (ev h k).2.2]? = some (ev h (sayAt h (ev h k).2.2)) := by
          rw [List.getElem?_take_of_lt a]
          show _ = some (h.getD _ _)
          rw [List.getD, List.getElem?_eq_getElem hs.2.1]
          rfl
        exact List.mem_of_getElem? e
      · rw [hw]; exact hs.2.2
  · exact a
  · exfalso
    have : says (ev h k).2.2 (ev h i) = true := by simp [says, h2, hw]
    have hil : i < h.length := by omega
    have e : ev h i = h[i] := by
      show h.getD _ _ = _
      rw [List.getD, List.getElem?_eq_getElem hil]
      rfl
    rw [e] at this
    have := List.not_of_lt_findIdx a
    simp_all

/-- the greatest number of those straight ahead -/
def mx (h : List Ev) (k : Nat) : Nat → Int
  | 0 => 0
  | i + 1 => if edge h i k = true ∧ num h i > mx h k i then num h i else mx h k i
theorem mx_step (h : List Ev) (k i : Nat) : mx h k (i + 1) = if edge h i k = true ∧ num h i > mx h k i then num h i else mx h k i := rfl
theorem mx_ge (h : List Ev) (k : Nat) : ∀ i j, j < i → edge h j k = true → num h j ≤ mx h k i := by
  intro i
  induction i with
  | zero => intro j hj; omega
  | succ i ih =>
    intro j hj he
    rw [mx_step]
    rcases Nat.lt_succ_iff_lt_or_eq.1 hj with a | rfl
    · have := ih j a he
      split <;> omega
    · split
      · exact Int.le_refl _
      · rename_i q
        rcases Int.lt_or_le (mx h k j) (num h j) with b | b
        · exact absurd ⟨he, b⟩ q
        · exact b
theorem mx_is (h : List Ev) (k : Nat) : ∀ i, mx h k i = 0 ∨ ∃ j, j < i ∧ edge h j k = true ∧ mx h k i = num h j := by
  intro i
  induction i with
  | zero => exact .inl rfl
  | succ i ih =>
    rw [mx_step]
    split
    · rename_i q
      exact .inr ⟨i, Nat.lt_succ_self i, q.1, rfl⟩
    · rcases ih with a | ⟨j, a, b, c⟩
      · exact .inl a
      · exact .inr ⟨j, Nat.lt_succ_of_lt a, b, c⟩
theorem mx_nonneg {h : List Ev} {N k : Nat} (hg : Good h N) (hk : k < N) (i : Nat) (hi : i ≤ k) : 0 ≤ mx h k i ∧ mx h k i ≤ k := by
  rcases mx_is h k i with a | ⟨j, a, _, c⟩
  · omega
  · have := num_bounds hg j (by omega)
    omega
theorem mx_num {h : List Ev} {N k : Nat} (hg : Good h N) (hk : k < N) : mx h k k + 1 = num h k := by
  rw [num_get hg hk]
  have hle : mx h k k ≤ max (nlast h k (W h k)) (if (ev h k).2.1 = 3 then num h (sayAt h (ev h k).2.2) else 0) := by
    rcases mx_is h k k with a | ⟨j, hj, he, c⟩
    · have := (nlast_bounds hg (Nat.le_of_lt hk) (W h k)).1
      omega
    · rw [c]
      simp only [edge, Bool.and_eq_true, Bool.or_eq_true, decide_eq_true_eq] at he
      rcases he.2 with hw | ⟨⟨h2, h3⟩, hw⟩
      · have hW : W h j = W h k := (who_eq hg (by omega) hk).1 hw
        have : num h j ≤ nlast h k (W h k) := by
          rcases nlast_spec h (W h k) k with ⟨l, h1, h2, h3, h4⟩ | ⟨h1, _⟩
          · rw [h4]
            rcases Nat.lt_trichotomy j l with a | rfl | a
            · have := mem_less hg l (by omega) j a (hW.trans h2.symm)
              omega
            · exact Int.le_refl _
            · exact absurd hW (h3 j a hj)
          · exact absurd hW (h1 j hj)
        omega
      · rw [if_pos h3, say_one hg hk hj h2 h3 hw]
        omega
  have h1 : nlast h k (W h k) ≤ mx h k k := by
    rcases nlast_spec h (W h k) k with ⟨l, h1, h2, _, h4⟩ | ⟨_, h4⟩
    · rw [h4]
      refine mx_ge h k k l h1 ?_
      have : (ev h l).1 = (ev h k).1 := (who_eq hg (by omega) hk).2 h2
      simp [edge, h1, this]
    · rw [h4]; exact (mx_nonneg hg hk k (Nat.le_refl _)).1
  have h2 : (if (ev h k).2.1 = 3 then num h (sayAt h (ev h k).2.2) else 0) ≤ mx h k k := by
    by_cases h3 : (ev h k).2.1 = 3
    · rw [if_pos h3]
      have hs := sayAt_lt hg hk h3
      refine mx_ge h k k _ hs.1 ?_
      have := hs.2.2
      simp only [says, Bool.and_eq_true, decide_eq_true_eq] at this
      simp [edge, hs.1, h3, this.1, this.2]
    · rw [if_neg h3]; exact (mx_nonneg hg hk k (Nat.le_refl _)).1
  omega

/-! the order, one number and one member behind the other -/
def ordI (h : List Ev) (n : Nat) (w : Nat) (i : Nat) : List Nat := (List.range i).filter fun j => decide (num h j = n) && decide (W h j = w)
def ordW (h : List Ev) (N : Nat) (n : Nat) : Nat → List Nat
  | 0 => []
  | w + 1 => ordW h N n w ++ ordI h n w N
def ordN (h : List Ev) (N : Nat) : Nat → List Nat
  | 0 => []
  | n + 1 => ordN h N n ++ ordW h N (n + 1) 5
theorem ordI_mem {h : List Ev} {n w i j : Nat} : j ∈ ordI h n w i ↔ j < i ∧ num h j = n ∧ W h j = w := by
  simp [ordI]
theorem ordW_mem {h : List Ev} {N n : Nat} : ∀ {w j : Nat}, j ∈ ordW h N n w ↔ j < N ∧ num h j = n ∧ W h j < w := by
  intro w
  induction w with
  | zero => intro j; simp [ordW]
  | succ w ih =>
    intro j
    rw [ordW, List.mem_append, ih, ordI_mem]
    omega
theorem ordN_mem {h : List Ev} {N : Nat} (hg : Good h N) : ∀ {n j : Nat}, j ∈ ordN h N n ↔ j < N ∧ num h j ≤ n := by
  intro n
  induction n with
  | zero =>
    intro j
    rw [ordN]
    constructor
    · intro a; exact absurd a List.not_mem_nil
    · rintro ⟨a, b⟩
      have := num_bounds hg j a
      omega
  | succ n ih =>
    intro j
    rw [ordN, List.mem_append, ih, ordW_mem]
    constructor
    · rintro (a | a) <;> omega
    · rintro ⟨a, b⟩
      have := W_lt hg a
      rcases Int.lt_or_le (n : Int) (num h j) with c | c
      · exact .inr ⟨a, by omega, this⟩
      · exact .inl ⟨a, c⟩
theorem ordI_pair {h : List Ev} {N n w : Nat} (hg : Good h N) : (ordI h n w N).Pairwise (lt2 h) := by
  have hnd : (ordI h n w N).Pairwise (fun a b => a ≠ b) := List.Pairwise.filter _ List.nodup_range
  refine (List.Pairwise.imp_of_mem (fun {a b} ha hb hne => ?_) hnd)
  rw [ordI_mem] at ha hb
  exact absurd (num_one hg ha.1 hb.1 (ha.2.1.trans hb.2.1.symm) (ha.2.2.trans hb.2.2.symm)) hne
theorem ordW_pair {h : List Ev} {N n : Nat} (hg : Good h N) : ∀ w, (ordW h N n w).Pairwise (lt2 h) := by
  intro w
  induction w with
  | zero => exact List.Pairwise.nil
  | succ w ih =>
    rw [ordW, List.pairwise_append]
    refine ⟨ih, ordI_pair hg, fun a ha b hb => ?_⟩
    rw [ordW_mem] at ha
    rw [ordI_mem] at hb
    have := W_cast hg ha.1
    have := W_cast hg hb.1
    unfold lt2
    omega
theorem ordN_pair {h : List Ev} {N : Nat} (hg : Good h N) : ∀ n, (ordN h N n).Pairwise (lt2 h) := by
  intro n
  induction n with
  | zero => exact List.Pairwise.nil
  | succ n ih =>
    rw [ordN, List.pairwise_append]
    refine ⟨ih, ordW_pair hg 5, fun a ha b hb => ?_⟩
    rw [ordN_mem hg] at ha
    rw [ordW_mem] at hb
    unfold lt2
    omega
theorem ordN_ord {h : List Ev} {N : Nat} (hg : Good h N) (hN : N ≤ 60) : IsOrd h N (ordN h N 60) := by
  refine ⟨ordN_pair hg 60, fun i => ?_⟩
  rw [ordN_mem hg]
  constructor
  · exact fun a => a.1
  · intro a
    have := num_bounds hg i a
    exact ⟨a, by omega⟩
theorem ord_eq {h : List Ev} {N : Nat} {o p : List Nat} (a : IsOrd h N o) (b : IsOrd h N p) : o = p :=
  isOrd_one a.1 b.1 fun i => (a.2 i).trans (b.2 i).symm
theorem ordI_step {h : List Ev} {n w i : Nat} : ordI h n w (i + 1) = ordI h n w i ++ (if num h i = n ∧ W h i = w then [i] else []) := by
  by_cases hb : num h i = n ∧ W h i = w
  · rw [if_pos hb]; simp [ordI, List.range_succ, List.filter_append, hb.1, hb.2]
  · rw [if_neg hb]
    have : (decide (num h i = n) && decide (W h i = w)) = false := by
      rw [Bool.and_eq_false_iff, decide_eq_false_iff_not, decide_eq_false_iff_not]
      by_cases c : num h i = n
      · exact .inr fun d => hb ⟨c, d⟩
      · exact .inl c
    simp [ordI, List.range_succ, List.filter_append, this]
end Go.Proofs.YtibgdikahihgeabDoor.His
