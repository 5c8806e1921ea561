/-
  What the program keeps of a group in which one gives the places: by place what was said, by place what waits at a member, the place that each hears next. Plain facts.
-/
import Derived.Test.YtcccheeeagphpagDoorLdrM
import Derived.Test.YtcccheeeagphpagDoorMapV
namespace Go.Proofs.YtcccheeeagphpagDoor.Ldr
open Go.Proofs.YtcccheeeagphpagDoor.MapV (putT delT)
set_option linter.unusedVariables false

/-- how many of the first so many are so -/
def cnt (p : Nat → Bool) : Nat → Nat
  | 0 => 0
  | k + 1 => cnt p k + if p k = true then 1 else 0
theorem cnt_le (p : Nat → Bool) (k : Nat) : cnt p k ≤ k := by
  induction k with
  | zero => exact Nat.le_refl _
  | succ k ih => unfold cnt; split <;> omega
theorem cnt_eq {p q : Nat → Bool} {k : Nat} (h : ∀ i, i < k → p i = q i) : cnt p k = cnt q k := by
  induction k with
  | zero => rfl
  | succ k ih =>
    unfold cnt
    rw [ih fun i hi => h i (by omega), h k (by omega)]
/-- one more -/
theorem cnt_one {p q : Nat → Bool} {k j : Nat} (hj : j < k) (h : ∀ i, i ≠ j → p i = q i) (hp : p j = false) (hq : q j = true) : cnt q k = cnt p k + 1 := by
  induction k with
  | zero => omega
  | succ k ih =>
    unfold cnt
    by_cases e : j = k
    · subst e
      rw [hp, hq, cnt_eq (p := p) (q := q) fun i hi => h i (by omega)]
      simp
    · rw [ih (by omega), h k (fun z => e z.symm)]
      omega
def iv (x : Int) : Value := .int .i64 x
/-- what was said, by place -/
def TS (ws : List Int) : Int → Option Value := fun i => if 0 ≤ i ∧ i < (ws.length : Int) then some (iv (ws.getD i.toNat 0)) else none
/-- what waits at a member that hears k next, by place -/
def TW (l : L) (m k : Nat) : Int → Option Value := fun i => if (k : Int) ≤ i ∧ l.come m i.toNat = true then some (iv (l.ws.getD i.toNat 0)) else none
def cW (l : L) (m k : Nat) : Nat := cnt (fun i => decide (k ≤ i) && l.come m i) l.ws.length
theorem cW_le (l : L) (m k : Nat) : cW l m k ≤ l.ws.length := cnt_le _ _
theorem TS_put (ws : List Int) (x : Int) : ∀ i, TS (ws ++ [x]) i = putT (TS ws) (ws.length : Int) (iv x) i := by
  intro i
  unfold TS putT
  rw [List.length_append]
  simp only [List.length_cons, List.length_nil]
  by_cases e : i = (ws.length : Int)
  · rw [if_pos e, if_pos (by omega), e]
    simp [List.getD]
  · rw [if_neg e]
    by_cases q : 0 ≤ i ∧ i < (ws.length : Int)
    · rw [if_pos q, if_pos (by omega)]
      have : i.toNat < ws.length := by omega
      simp [List.getD, List.getElem?_append_left this]
    · rw [if_neg q, if_neg (by omega)]
theorem TS_at {ws : List Int} {k : Nat} (h : k < ws.length) : TS ws (k : Int) = some (iv (ws.getD k 0)) := by
  unfold TS
  rw [if_pos ⟨by omega, by omega⟩, Int.toNat_natCast]
theorem TS_not {ws : List Int} {i : Int} (h : i < 0 ∨ (ws.length : Int) ≤ i) : TS ws i = none := if_neg (by omega)
theorem TS_some {ws : List Int} {i : Int} {u : Value} (h : TS ws i = some u) : ∃ k : Nat, i = (k : Int) ∧ k < ws.length ∧ u = iv (ws.getD k 0) := by
  unfold TS at h
  split at h
  · rename_i q
    exact ⟨i.toNat, by omega, by omega, (Option.some.inj h).symm⟩
  · cases h
variable {l : L}
theorem TW_say (hi : Inv l) (x : Int) (m k : Nat) : ∀ i, TW { l with ws := l.ws ++ [x] } m k i = TW l m k i := by
  intro i
  unfold TW
  by_cases q : (k : Int) ≤ i ∧ l.come m i.toNat = true
  · rw [if_pos q, if_pos q]
    have : i.toNat < l.ws.length := (hi.come m _ q.2).2
    simp [List.getD, List.getElem?_append_left this]
  · rw [if_neg q, if_neg q]
theorem cW_say (hi : Inv l) (x : Int) (m k : Nat) : cW { l with ws := l.ws ++ [x] } m k = cW l m k := by
  unfold cW
  show cnt _ (l.ws ++ [x]).length = _
  rw [List.length_append]
  show cnt _ (l.ws.length + 1) = _
  have e : l.come m l.ws.length = false := by
    rw [Bool.eq_false_iff]
    intro q
    have := (hi.come m _ q).2
    omega
  rw [cnt, e]
  simp
theorem hn_say (hi : Inv l) (x : Int) (m : Nat) : hn { l with ws := l.ws ++ [x] } m = hn l m := by
  unfold hn
  show cons (l.come m) (l.ws ++ [x]).length = _
  rw [List.length_append]
  refine cons_grow (fun i h => ?_) 1
  rw [Bool.eq_false_iff]
  intro q
  have := (hi.come m _ q).2
  omega
theorem hn_le (l : L) (m : Nat) : hn l m ≤ l.ws.length := cons_le _ _
theorem hn_come {m k : Nat} (h : k < hn l m) : l.come m k = true := cons_come h
theorem hn_stop (hi : Inv l) (m : Nat) : l.come m (hn l m) = false := by
  rw [Bool.eq_false_iff]
  intro q
  have h1 := (hi.come m _ q).2
  rw [show l.come m (hn l m) = false from cons_stop h1] at q
  cases q
/-- one has come to a member -/
def got (l : L) (m k : Nat) : L := { l with come := up2 l.come m k true }
theorem tk_got {m k : Nat} (hm : m < l.n) (hk : k < l.ws.length) : tk l (m : Int) (k : Int) = got l m k := by
  have e : tkC l (m : Int) (k : Int) = 0 := by
    unfold tkC
    rw [if_neg (by rw [in_ok hm]; decide), if_neg (by omega)]
  unfold tk
  rw [if_pos e]
  rfl
theorem got_come (l : L) (m k i j : Nat) : (got l m k).come i j = if i = m ∧ j = k then true else l.come i j := rfl
theorem TW_got {m k a : Nat} (ha : a ≤ k) : ∀ i, TW (got l m k) m a i = putT (TW l m a) (k : Int) (iv (l.ws.getD k 0)) i := by
  intro i
  unfold TW putT
  rw [got_come]
  by_cases e : i = (k : Int)
  · rw [if_pos e, e, Int.toNat_natCast, if_pos ⟨by omega, by simp⟩]
    rfl
  · rw [if_neg e]
    by_cases q : (a : Int) ≤ i
    · rw [if_neg (show ¬ (m = m ∧ i.toNat = k) by omega)]
      rfl
    · rw [if_neg (fun z => q z.1)]
      exact (if_neg (fun z => q z.1)).symm
theorem TW_got_other {m k j : Nat} (h : j ≠ m) (a : Nat) : ∀ i, TW (got l m k) j a i = TW l j a i := by
  intro i
  have e : (got l m k).come j i.toNat = l.come j i.toNat := by rw [got_come]; exact if_neg (fun q => h q.1)
  unfold TW
  rw [e]
  rfl
theorem cW_got {m k a : Nat} (ha : a ≤ k) (hk : k < l.ws.length) (hc : l.come m k = false) : cW (got l m k) m a = cW l m a + 1 := by
  unfold cW
  refine cnt_one hk (fun i hi => ?_) ?_ ?_
  · show _ = (decide (a ≤ i) && if m = m ∧ i = k then true else l.come m i)
    rw [if_neg (fun q => hi q.2)]
  · simp [hc]
  · show (decide (a ≤ k) && if m = m ∧ k = k then true else l.come m k) = true
    simp [ha]
theorem cW_got_other {m k j : Nat} (h : j ≠ m) (a : Nat) : cW (got l m k) j a = cW l j a := by
  unfold cW
  refine cnt_eq fun i hi => ?_
  show (decide (a ≤ i) && if j = m ∧ i = k then true else l.come j i) = _
  rw [if_neg (fun q => h q.1)]
theorem hn_got_other {m k j : Nat} (h : j ≠ m) : hn (got l m k) j = hn l j := by
  unfold hn
  show cons (fun i => if j = m ∧ i = k then true else l.come j i) l.ws.length = _
  congr 1
  funext i
  rw [if_neg (fun q => h q.1)]
theorem hn_got_le (l : L) (m k j : Nat) : hn l j ≤ hn (got l m k) j := by
  refine cons_mono fun i hi => ?_
  show (if j = m ∧ i = k then true else l.come j i) = true
  rw [hi]
  simp
/-- one that had come -/
theorem got_same {m k : Nat} (h : l.come m k = true) : got l m k = l := by
  unfold got up2
  have : (fun a b => if a = m ∧ b = k then true else l.come a b) = l.come := by
    funext a b
    by_cases q : a = m ∧ b = k
    · rw [if_pos q, q.1, q.2, h]
    · rw [if_neg q]
  rw [this]
/-- one of those that wait is heard -/
theorem TW_next {m k : Nat} : ∀ i, TW l m (k + 1) i = delT (TW l m k) (k : Int) i := by
  intro i
  unfold TW delT
  by_cases e : i = (k : Int)
  · rw [if_pos e, if_neg (fun q => by omega)]
  · rw [if_neg e]
    by_cases q : (k : Int) ≤ i ∧ l.come m i.toNat = true
    · rw [if_pos ⟨by omega, q.2⟩]
      exact (if_pos q).symm
    · rw [if_neg (fun z => q ⟨by omega, z.2⟩)]
      exact (if_neg q).symm
theorem cW_next {m k : Nat} (hk : k < l.ws.length) (hc : l.come m k = true) : cW l m (k + 1) = cW l m k - 1 := by
  have : cW l m k = cW l m (k + 1) + 1 := by
    unfold cW
    refine cnt_one hk (fun i hi => ?_) (by simp only [Bool.and_eq_false_imp, decide_eq_true_eq]; omega) (by simp [hc])
    congr 1
    exact decide_eq_decide.2 (by omega)
  omega
theorem TW_at {m k : Nat} (a : Nat) (ha : a ≤ k) : TW l m a (k : Int) = if l.come m k = true then some (iv (l.ws.getD k 0)) else none := by
  unfold TW
  rw [Int.toNat_natCast]
  by_cases q : l.come m k = true
  · rw [if_pos q, if_pos ⟨by omega, q⟩]
  · rw [if_neg q, if_neg (fun z => q z.2)]
/-- what had come to it: heard, or waiting -/
theorem come_is (hi : Inv l) {m k : Nat} : ((TW l m (hn l m) (k : Int)).isSome || decide (k < hn l m)) = l.come m k := by
  by_cases q : k < hn l m
  · rw [decide_eq_true q, hn_come q, Bool.or_true]
  · rw [decide_eq_false q, Bool.or_false, TW_at _ (by omega)]
    cases h : l.come m k <;> simp
/-- what is heard, one more -/
theorem part_succ {ws : List Int} {a k : Nat} (ha : a ≤ k) (hk : k < ws.length) : (ws.take (k + 1)).drop a = (ws.take k).drop a ++ [ws.getD k 0] := by
  have e : ws.take (k + 1) = ws.take k ++ [ws.getD k 0] := by
    rw [List.take_succ_eq_append_getElem hk]
    simp [List.getD, hk]
  rw [e, List.drop_append_of_le_length (by rw [List.length_take]; omega)]
theorem take_succ {ws : List Int} {k : Nat} (hk : k < ws.length) : ws.take (k + 1) = ws.take k ++ [ws.getD k 0] := by
  have := part_succ (a := 0) (Nat.zero_le k) hk
  simpa using this
/-- of places below the next one none lacks -/
theorem lkN_heard {m k : Nat} (h : k ≤ hn l m) : lkN l m k = [] := by
  induction k with
  | zero => rfl
  | succ k ih => rw [lkN_succ, ih (by omega), if_pos (hn_come (show k < hn l m by omega))]; rfl
end Go.Proofs.YtcccheeeagphpagDoor.Ldr
