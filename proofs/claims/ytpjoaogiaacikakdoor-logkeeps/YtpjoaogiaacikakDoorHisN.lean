/-
  Plain facts on histories, held against the document's own way of telling: one over the other until nothing more comes of it is what is reached; a cut is closed just if what its events reach is taken.
-/
import Derived.Test.YtpjoaogiaacikakDoorHisM
namespace Go.Proofs.YtpjoaogiaacikakDoor.His

/-- one step ahead -/
def edge (h : List Ev) (i k : Nat) : Bool := decide (i < k) && (decide ((ev h i).1 = (ev h k).1) || (decide ((ev h i).2.1 = 2) && decide ((ev h k).2.1 = 3) && decide ((ev h i).2.2 = (ev h k).2.2)))
def wa (h : List Ev) (n : Nat) : Nat → Nat → Nat → Bool
  | 0 => fun i k => edge h i k && decide (k < n)
  | m + 1 => fun i k => wa h n m i k || (wa h n m i m && wa h n m m k)

theorem wa_lt (h : List Ev) (n m : Nat) : ∀ i k, wa h n m i k = true → i < k ∧ k < n := by
  induction m with
  | zero =>
    intro i k hk
    simp [wa, edge] at hk
    omega
  | succ m ih =>
    intro i k hk
    simp only [wa, Bool.or_eq_true, Bool.and_eq_true] at hk
    rcases hk with a | ⟨a, b⟩
    · exact ih i k a
    · have := ih i m a
      have := ih m k b
      omega
theorem wa_mono (h : List Ev) (n : Nat) {a b : Nat} (hab : a ≤ b) (i k : Nat) (hk : wa h n a i k = true) : wa h n b i k = true := by
  induction hab with
  | refl => exact hk
  | step _ ih => simp only [wa, Bool.or_eq_true]; exact .inl ih
theorem wa_trans (h : List Ev) (n m : Nat) : ∀ p, p < m → ∀ i k, wa h n m i p = true → wa h n m p k = true → wa h n m i k = true := by
  induction m with
  | zero => intro p hp; omega
  | succ m ih =>
    intro p hp i k h1 h2
    have e1 : wa h n m i p = true := by
      simp only [wa, Bool.or_eq_true, Bool.and_eq_true] at h1
      rcases h1 with a | ⟨_, b⟩
      · exact a
      · have := wa_lt h n m m p b
        omega
    simp only [wa, Bool.or_eq_true, Bool.and_eq_true] at h2 ⊢
    rcases h2 with a | ⟨a, b⟩
    · rcases Nat.lt_succ_iff_lt_or_eq.1 hp with q | rfl
      · exact .inl (ih p q i k e1 a)
      · exact .inr ⟨e1, a⟩
    · rcases Nat.lt_succ_iff_lt_or_eq.1 hp with q | rfl
      · exact .inr ⟨ih p q i m e1 a, b⟩
      · have := wa_lt h n p p p a
        omega
theorem edge_bef {h : List Ev} {N i k : Nat} (hg : Good h N) (hk : k < N) (he : edge h i k = true) : bef h i k = true := by
  simp only [edge, Bool.and_eq_true, Bool.or_eq_true, decide_eq_true_eq] at he
  obtain ⟨hlt, hc⟩ := he
  have hi : i < N := by omega
  refine (bef_iff hg hi).2 ⟨by omega, ?_⟩
  rcases hc with hw | ⟨⟨h2, h3⟩, hw⟩
  · have hW : W h i = W h k := by unfold W; rw [hw]
    rw [← row_self hg hi]
    exact mem_below hg k hk i (by omega) hW _
  · have hs := sayAt_lt hg hk h3
    have hsay : sayAt h (ev h k).2.2 = i := by
      rcases Nat.lt_trichotomy (sayAt h (ev h k).2.2) i with a | a | a
      · exfalso
        have h7 := hg i hi
        unfold next at h7
        rw [if_neg (by rw [good_one hg hi]; decide), if_pos] at h7
        · omega
        · refine ⟨h2, List.any_eq_true.2 ⟨ev h (sayAt h (ev h k).2.2), ?_, ?_⟩⟩
          · have e : (h.take i)[sayAt h (ev h k).2.2]? = some (ev h (sayAt h (ev h k).2.2)) := by
              rw [List.getElem?_take_of_lt a]
              show _ = some (h.getD _ _)
              rw [List.getD, List.getElem?_eq_getElem hs.2.1]
              rfl
            exact List.mem_of_getElem? e
          · rw [hw]; exact hs.2.2
      · exact a
      · exfalso
        have : says (ev h k).2.2 (ev h i) = true := by simp [says, h2, hw]
        have hil : i < h.length := by omega
        have e : ev h i = h[i] := by
          show h.getD _ _ = _
          rw [List.getD, List.getElem?_eq_getElem hil]
          rfl
        rw [e] at this
        have := List.not_of_lt_findIdx a
        simp_all
    rw [← row_self hg hi]
    have := say_below hg hk h3 (W h i)
    rw [hsay] at this
    exact this
theorem wa_bef {h : List Ev} {N : Nat} (hg : Good h N) (m : Nat) (hm : m ≤ N) : ∀ i k, wa h N m i k = true → bef h i k = true := by
  induction m with
  | zero =>
    intro i k hk
    simp only [wa, Bool.and_eq_true, decide_eq_true_eq] at hk
    exact edge_bef hg hk.2 hk.1
  | succ m ih =>
    intro i k hk
    simp only [wa, Bool.or_eq_true, Bool.and_eq_true] at hk
    rcases hk with a | ⟨a, b⟩
    · exact ih (by omega) i k a
    · have l1 := wa_lt h N m i m a
      have l2 := wa_lt h N m m k b
      exact bef_trans hg (by omega) (by omega) l2.2 (ih (by omega) _ _ a) (ih (by omega) _ _ b)
theorem bef_wa {h : List Ev} {N : Nat} (hg : Good h N) : ∀ k, k < N → ∀ i, i < N → bef h i k = true → wa h N N i k = true := by
  intro k
  induction k using Nat.strongRecOn with
  | _ k ih =>
    intro hk i hi hb
    have hlt := bef_lt hg hi hk hb
    obtain ⟨hne, hown⟩ := (bef_iff hg hi).1 hb
    have step : ∀ l, l < k → (l = i ∨ wa h N N i l = true) → edge h l k = true → wa h N N i k = true := by
      intro l hlk hil he
      have e : wa h N N l k = true := wa_mono h N (Nat.zero_le N) l k (by simp [wa, he, hk])
      rcases hil with rfl | a
      · exact e
      · exact wa_trans h N N l (by omega) i k a e
    have via : ∀ l, l < k → own h i ≤ (row h l).getD (W h i) 0 → (l = i ∨ wa h N N i l = true) := by
      intro l hlk ho
      by_cases e : l = i
      · exact .inl e
      · exact .inr (ih l hlk (by omega) i hi ((bef_iff hg hi).2 ⟨fun q => e q.symm, ho⟩))
    by_cases hw : W h i = W h k
    · refine step i hlt (.inl rfl) ?_
      have : (ev h i).1 = (ev h k).1 := by rw [← W_cast hg hi, ← W_cast hg hk, hw]
      simp [edge, hlt, this]
    · have hp := own_pos h i
      have hr := row_get hg hk (W h i)
      rw [if_neg (show ¬ W h k = W h i from fun e => hw e.symm)] at hr
      have hcase : own h i ≤ (last h k (W h k)).getD (W h i) 0 ∨ ((ev h k).2.1 = 3 ∧ own h i ≤ (row h (sayAt h (ev h k).2.2)).getD (W h i) 0) := by
        by_cases h3 : (ev h k).2.1 = 3
        · rw [if_pos h3] at hr
          rcases Int.le_total ((last h k (W h k)).getD (W h i) 0) ((row h (sayAt h (ev h k).2.2)).getD (W h i) 0) with a | a
          · right; exact ⟨h3, by omega⟩
          · left; omega
        · rw [if_neg h3] at hr
          left; omega
      rcases hcase with hlst | ⟨h3, hlst⟩
      · rcases last_spec h (W h k) k with ⟨l, h1, h2, _, h4⟩ | ⟨_, h2⟩
        · rw [h4] at hlst
          refine step l h1 (via l h1 hlst) ?_
          have : (ev h l).1 = (ev h k).1 := by rw [← W_cast hg (show l < N by omega), ← W_cast hg hk, h2]
          simp [edge, h1, this]
        · rw [h2] at hlst
          generalize W h i = x at hlst
          rcases x with _ | _ | _ | _ | _ | x <;> simp [zero5] at hlst <;> omega
      · have hs := sayAt_lt hg hk h3
        refine step _ hs.1 (via _ hs.1 hlst) ?_
        have := hs.2.2
        simp only [says, Bool.and_eq_true, decide_eq_true_eq] at this
        simp [edge, hs.1, h3, this.1, this.2]
theorem wa_eq {h : List Ev} {N i k : Nat} (hg : Good h N) (hi : i < N) (hk : k < N) : wa h N N i k = bef h i k := by
  cases hb : bef h i k with
  | true => exact bef_wa hg k hk i hi hb
  | false =>
    cases hw : wa h N N i k with
    | false => rfl
    | true => rw [wa_bef hg N (Nat.le_refl _) i k hw] at hb; exact absurd hb (by decide)

/-- is an event taken? -/
def taken (h : List Ev) (many : List Int) (i : Nat) : Bool := decide (cnt h (W h i) i < many.getD (W h i) 0)
theorem taken_iff (h : List Ev) (many : List Int) (i : Nat) : taken h many i = true ↔ own h i ≤ many.getD (W h i) 0 := by
  simp only [taken, decide_eq_true_eq, own_eq]
  omega
theorem cut_iff {h : List Ev} {N : Nat} (hg : Good h N) (many : List Int) (hm : ∀ m, m < 5 → 0 ≤ many.getD m 0) :
    (∀ n, n < N → cutAt h many n = true) ↔ (∀ i k, i < k → k < N → bef h i k = true → taken h many k = true → taken h many i = true) := by
  constructor
  · intro hc i k hik hk hb ht
    have hi : i < N := by omega
    rw [taken_iff] at ht ⊢
    have := hc k hk
    simp only [cutAt, Bool.or_eq_true, decide_eq_true_eq, row_self hg hk] at this
    rcases this with a | a
    · omega
    · exact Int.le_trans ((bef_iff hg hi).1 hb).2 (leR_get a _ (W_lt hg hi))
  · intro hc n hn
    simp only [cutAt, Bool.or_eq_true, decide_eq_true_eq, row_self hg hn]
    by_cases ht : own h n ≤ many.getD (W h n) 0
    · right
      refine leR_of fun m hm5 => ?_
      by_cases h0 : (row h n).getD m 0 ≤ 0
      · exact Int.le_trans h0 (hm m hm5)
      · obtain ⟨i, h1, h2, h3⟩ := exists_own h m (n + 1) ((row h n).getD m 0) (by omega) (row_le hg hn m)
        have hi : i < N := by omega
        rw [← h3, ← h2]
        rcases Nat.lt_or_ge i n with a | a
        · refine (taken_iff h many i).1 (hc i n a hn ((bef_iff hg hi).2 ⟨by omega, ?_⟩) ((taken_iff h many n).2 ht))
          rw [h3, h2]
          exact Int.le_refl _
        · obtain rfl : i = n := by omega
          exact ht
    · left; omega
end Go.Proofs.YtpjoaogiaacikakDoor.His
