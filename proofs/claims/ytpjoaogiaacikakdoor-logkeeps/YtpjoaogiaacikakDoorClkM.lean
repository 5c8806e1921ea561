/-
  Plain facts on numbers of events: each is above those of what is straight ahead of it; so it is above those of all that is ahead; no two of one member are the same.
-/
import Derived.Test.YtpjoaogiaacikakDoorHisM
namespace Go.Proofs.YtpjoaogiaacikakDoor.His

def nfar (h : List Ev) (n : Nat) (s : List Int × (Nat → Int)) : Int :=
  max (s.2 (W h n)) (if (ev h n).2.1 = 3 then s.1.getD (sayAt h (ev h n).2.2) 0 else 0) + 1
def nst (h : List Ev) : Nat → List Int × (Nat → Int)
  | 0 => ([], fun _ => 0)
  | n + 1 => ((nst h n).1 ++ [nfar h n (nst h n)], fun m => if m = W h n then nfar h n (nst h n) else (nst h n).2 m)
def num (h : List Ev) (n : Nat) : Int := nfar h n (nst h n)
def nlast (h : List Ev) (n m : Nat) : Int := (nst h n).2 m

theorem nst_len (h : List Ev) (n : Nat) : (nst h n).1.length = n := by
  induction n with
  | zero => rfl
  | succ n ih => simp [nst, ih]
theorem nst_get (h : List Ev) (n j : Nat) (hj : j < n) : (nst h n).1.getD j 0 = num h j := by
  induction n with
  | zero => omega
  | succ n ih =>
    simp only [nst]
    rcases Nat.lt_or_ge j n with h1 | h1
    · rw [← ih h1]
      simp [List.getD, List.getElem?_append_left (show j < (nst h n).1.length by rw [nst_len]; exact h1)]
    · obtain rfl : j = n := by omega
      simp [List.getD, nst_len, num]
theorem nlast_step (h : List Ev) (n m : Nat) : nlast h (n + 1) m = if m = W h n then num h n else nlast h n m := rfl
theorem nlast_spec (h : List Ev) (m n : Nat) :
    (∃ j, j < n ∧ W h j = m ∧ (∀ j', j < j' → j' < n → W h j' ≠ m) ∧ nlast h n m = num h j) ∨ ((∀ j, j < n → W h j ≠ m) ∧ nlast h n m = 0) := by
  induction n with
  | zero => exact .inr ⟨fun j hj => absurd hj (Nat.not_lt_zero _), rfl⟩
  | succ n ih =>
    rw [nlast_step]
    by_cases hm : m = W h n
    · rw [if_pos hm]
      exact .inl ⟨n, Nat.lt_succ_self n, hm.symm, fun j' h1 h2 => by omega, rfl⟩
    · rw [if_neg hm]
      rcases ih with ⟨j, h1, h2, h3, h4⟩ | ⟨h1, h2⟩
      · refine .inl ⟨j, Nat.lt_succ_of_lt h1, h2, fun j' a b => ?_, h4⟩
        rcases Nat.lt_succ_iff_lt_or_eq.1 b with b | rfl
        · exact h3 j' a b
        · exact fun e => hm e.symm
      · refine .inr ⟨fun j hj => ?_, h2⟩
        rcases Nat.lt_succ_iff_lt_or_eq.1 hj with b | rfl
        · exact h1 j b
        · exact fun e => hm e.symm
/-- what a number is above -/
theorem num_get {h : List Ev} {N n : Nat} (hg : Good h N) (hn : n < N) :
    num h n = max (nlast h n (W h n)) (if (ev h n).2.1 = 3 then num h (sayAt h (ev h n).2.2) else 0) + 1 := by
  have e : num h n = max (nlast h n (W h n)) (if (ev h n).2.1 = 3 then (nst h n).1.getD (sayAt h (ev h n).2.2) 0 else 0) + 1 := rfl
  rw [e]
  by_cases h3 : (ev h n).2.1 = 3
  · rw [if_pos h3, if_pos h3, nst_get h n _ (sayAt_lt hg hn h3).1]
  · rw [if_neg h3, if_neg h3]
theorem num_bounds {h : List Ev} {N : Nat} (hg : Good h N) : ∀ n, n < N → 1 ≤ num h n ∧ num h n ≤ n + 1 := by
  intro n
  induction n using Nat.strongRecOn with
  | _ n ih =>
    intro hn
    have hl : 0 ≤ nlast h n (W h n) ∧ nlast h n (W h n) ≤ n := by
      rcases nlast_spec h (W h n) n with ⟨j, h1, _, _, h4⟩ | ⟨_, h4⟩
      · rw [h4]
        have := ih j h1 (by omega)
        omega
      · rw [h4]; omega
    have hs : (if (ev h n).2.1 = 3 then num h (sayAt h (ev h n).2.2) else 0) ≤ (n : Int) := by
      by_cases h3 : (ev h n).2.1 = 3
      · rw [if_pos h3]
        have h4 := (sayAt_lt hg hn h3).1
        have := ih _ h4 (by omega)
        omega
      · rw [if_neg h3]; omega
    rw [num_get hg hn]
    omega
theorem nlast_bounds {h : List Ev} {N n : Nat} (hg : Good h N) (hn : n ≤ N) (m : Nat) : 0 ≤ nlast h n m ∧ nlast h n m ≤ n := by
  rcases nlast_spec h m n with ⟨j, h1, _, _, h4⟩ | ⟨_, h4⟩
  · rw [h4]
    have := num_bounds hg j (by omega)
    omega
  · rw [h4]; omega
theorem nlast_less {h : List Ev} {N n : Nat} (hg : Good h N) (hn : n < N) : nlast h n (W h n) < num h n := by
  rw [num_get hg hn]
  omega
theorem nsay_less {h : List Ev} {N n : Nat} (hg : Good h N) (hn : n < N) (h3 : (ev h n).2.1 = 3) : num h (sayAt h (ev h n).2.2) < num h n := by
  rw [num_get hg hn, if_pos h3]
  omega
/-- of one member what was earlier has less -/
theorem mem_less {h : List Ev} {N : Nat} (hg : Good h N) : ∀ n, n < N → ∀ j, j < n → W h j = W h n → num h j < num h n := by
  intro n
  induction n using Nat.strongRecOn with
  | _ n ih =>
    intro hn j hj hw
    have hb := nlast_less hg hn
    rcases nlast_spec h (W h n) n with ⟨l, h1, h2, h3, h4⟩ | ⟨h1, _⟩
    · rw [h4] at hb
      rcases Nat.lt_trichotomy j l with a | rfl | a
      · have := ih l h1 (by omega) j a (hw.trans h2.symm)
        omega
      · exact hb
      · exact absurd hw (h3 j a hj)
    · exact absurd hw (h1 j hj)
theorem num_one {h : List Ev} {N i k : Nat} (hg : Good h N) (hi : i < N) (hk : k < N) (he : num h i = num h k) (hw : W h i = W h k) : i = k := by
  rcases Nat.lt_trichotomy i k with a | a | a
  · have := mem_less hg k hk i a hw
    omega
  · exact a
  · have := mem_less hg i hi k a hw.symm
    omega
/-- what is ahead has less -/
theorem dom_less {h : List Ev} {N : Nat} (hg : Good h N) : ∀ k, k < N → ∀ i, own h i ≤ (row h k).getD (W h i) 0 → i = k ∨ num h i < num h k := by
  intro k
  induction k using Nat.strongRecOn with
  | _ k ih =>
    intro hk i hi
    by_cases hw : W h i = W h k
    · rw [hw, row_self hg hk] at hi
      have hik : i < k + 1 := own_le (by rw [hw]; exact hi)
      rcases Nat.lt_or_ge i k with a | a
      · exact .inr (mem_less hg k hk i a hw)
      · exact .inl (by omega)
    · right
      have hp := own_pos h i
      have hr := row_get hg hk (W h i)
      rw [if_neg (show ¬ W h k = W h i from fun e => hw e.symm)] at hr
      have hcase : own h i ≤ (last h k (W h k)).getD (W h i) 0 ∨ ((ev h k).2.1 = 3 ∧ own h i ≤ (row h (sayAt h (ev h k).2.2)).getD (W h i) 0) := by
        by_cases h3 : (ev h k).2.1 = 3
        · rw [if_pos h3] at hr
          rcases Int.le_total ((last h k (W h k)).getD (W h i) 0) ((row h (sayAt h (ev h k).2.2)).getD (W h i) 0) with a | a
          · right; exact ⟨h3, by omega⟩
          · left; omega
        · rw [if_neg h3] at hr
          left; omega
      rcases hcase with hl | ⟨h3, hl⟩
      · rcases last_spec h (W h k) k with ⟨l, h1, h2, _, h4⟩ | ⟨_, h2⟩
        · rw [h4] at hl
          have hlk := mem_less hg k hk l h1 h2
          rcases ih l h1 (by omega) i hl with rfl | b
          · exact hlk
          · omega
        · rw [h2] at hl
          generalize W h i = x at hl
          rcases x with _ | _ | _ | _ | _ | x <;> simp [zero5] at hl <;> omega
      · have hsl := nsay_less hg hk h3
        have hs := (sayAt_lt hg hk h3).1
        rcases ih _ hs (by omega) i hl with e | b
        · rw [e]; exact hsl
        · omega
theorem bef_less {h : List Ev} {N i k : Nat} (hg : Good h N) (hi : i < N) (hk : k < N) (hb : bef h i k = true) : num h i < num h k := by
  obtain ⟨a, b⟩ := (bef_iff hg hi).1 hb
  rcases dom_less hg k hk i b with e | e
  · exact absurd e a
  · exact e
/-- ahead just if below, and two -/
theorem bef_leR {h : List Ev} {N i k : Nat} (hg : Good h N) (hi : i < N) (hk : k < N) : bef h i k = (leR (row h i) (row h k) && decide (i ≠ k)) := by
  rw [Bool.eq_iff_iff, bef_iff hg hi, Bool.and_eq_true, decide_eq_true_eq]
  constructor
  · rintro ⟨a, b⟩
    exact ⟨leR_of fun m _ => (dom hg k hk i b).2 m, a⟩
  · rintro ⟨a, b⟩
    refine ⟨b, ?_⟩
    have := leR_get a (W h i) (W_lt hg hi)
    rwa [row_self hg hi] at this

/-! by numbers, then by members -/
def lt2 (h : List Ev) (i k : Nat) : Prop := num h i < num h k ∨ (num h i = num h k ∧ (ev h i).1 < (ev h k).1)
theorem lt2_trans {h : List Ev} {i k j : Nat} (a : lt2 h i k) (b : lt2 h k j) : lt2 h i j := by
  unfold lt2 at *
  omega
theorem lt2_irr {h : List Ev} {i : Nat} : ¬ lt2 h i i := by
  unfold lt2
  omega
theorem who_eq {h : List Ev} {N i k : Nat} (hg : Good h N) (hi : i < N) (hk : k < N) : (ev h i).1 = (ev h k).1 ↔ W h i = W h k := by
  have := W_cast hg hi
  have := W_cast hg hk
  omega
theorem lt2_total {h : List Ev} {N i k : Nat} (hg : Good h N) (hi : i < N) (hk : k < N) (a : ¬ lt2 h i k) (b : ¬ lt2 h k i) : i = k := by
  unfold lt2 at *
  have e : num h i = num h k := by omega
  have e2 : (ev h i).1 = (ev h k).1 := by omega
  exact num_one hg hi hk e ((who_eq hg hi hk).1 e2)
/-- an order: all events, each once, by numbers and members -/
def IsOrd (h : List Ev) (n : Nat) (o : List Nat) : Prop := o.Pairwise (lt2 h) ∧ ∀ i, i ∈ o ↔ i < n
theorem isOrd_one {h : List Ev} : ∀ {a b : List Nat}, a.Pairwise (lt2 h) → b.Pairwise (lt2 h) → (∀ i, i ∈ a ↔ i ∈ b) → a = b := by
  intro a
  induction a with
  | nil =>
    intro b _ _ hm
    cases b with
    | nil => rfl
    | cons x b => exact absurd ((hm x).2 (List.mem_cons_self ..)) (List.not_mem_nil)
  | cons x a ih =>
    intro b ha hb hm
    cases b with
    | nil => exact absurd ((hm x).1 (List.mem_cons_self ..)) (List.not_mem_nil)
    | cons y b =>
      rw [List.pairwise_cons] at ha hb
      have hxy : x = y := by
        rcases List.mem_cons.1 ((hm x).1 (List.mem_cons_self ..)) with e | e
        · exact e
        · rcases List.mem_cons.1 ((hm y).2 (List.mem_cons_self ..)) with e2 | e2
          · exact e2.symm
          · exact absurd (lt2_trans (ha.1 y e2) (hb.1 x e)) lt2_irr
      subst hxy
      congr 1
      refine ih ha.2 hb.2 fun i => ?_
      constructor
      · intro hi
        rcases List.mem_cons.1 ((hm i).1 (List.mem_cons_of_mem _ hi)) with e | e
        · exact absurd (e ▸ ha.1 i hi) lt2_irr
        · exact e
      · intro hi
        rcases List.mem_cons.1 ((hm i).2 (List.mem_cons_of_mem _ hi)) with e | e
        · exact absurd (e ▸ hb.1 i hi) lt2_irr
        · exact e
end Go.Proofs.YtpjoaogiaacikakDoor.His
