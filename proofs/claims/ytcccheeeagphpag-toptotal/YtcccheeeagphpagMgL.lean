/-
  Texts put together: LdrM, LdrE, LdrK, LdrL.
-/
import Derived.WalkKit
import Derived.Test.YtcccheeeagphpagMgA
import Derived.Test.YtcccheeeagphpagMgR

/-
  Plain facts on a group in which one gives the places: what is refused, what is heard, what lacks.
-/
namespace Go.Proofs.Ytcccheeeagphpag.Ldr
set_option linter.unusedVariables false

/-- how many of the first so many have come without one lacking -/
def cons (c : Nat → Bool) : Nat → Nat
  | 0 => 0
  | k + 1 => if cons c k = k ∧ c k = true then k + 1 else cons c k
theorem cons_le (c : Nat → Bool) (k : Nat) : cons c k ≤ k := by
  induction k with
  | zero => exact Nat.le_refl _
  | succ k ih => unfold cons; split <;> omega
theorem cons_come {c : Nat → Bool} {k i : Nat} (h : i < cons c k) : c i = true := by
  induction k with
  | zero => simp [cons] at h
  | succ k ih =>
    unfold cons at h
    split at h
    · rename_i q
      by_cases e : i = k
      · rw [e]; exact q.2
      · exact ih (by rw [q.1]; omega)
    · exact ih h
theorem cons_stop {c : Nat → Bool} {k : Nat} (h : cons c k < k) : c (cons c k) = false := by
  induction k with
  | zero => omega
  | succ k ih =>
    unfold cons at h ⊢
    split
    · rename_i q
      rw [if_pos q] at h
      omega
    · rename_i q
      by_cases e : cons c k = k
      · rw [e, Bool.eq_false_iff]
        exact fun z => q ⟨e, z⟩
      · have := cons_le c k
        exact ih (by omega)
/-- it is the one such number -/
theorem cons_eq {c : Nat → Bool} {k n : Nat} (hn : n ≤ k) (h1 : ∀ i, i < n → c i = true) (h2 : n < k → c n = false) : cons c k = n := by
  rcases Nat.lt_trichotomy (cons c k) n with q | q | q
  · have := cons_stop (c := c) (k := k) (by omega)
    rw [h1 _ q] at this
    cases this
  · exact q
  · have h3 := cons_come q
    have := cons_le c k
    rw [h2 (by omega)] at h3
    cases h3
theorem cons_all {c : Nat → Bool} {k : Nat} (h : ∀ i, i < k → c i = true) : cons c k = k := cons_eq (Nat.le_refl _) h (fun q => absurd q (by omega))
theorem cons_none {c : Nat → Bool} {k : Nat} (h : c 0 = false) : cons c k = 0 := cons_eq (Nat.zero_le _) (fun i hi => absurd hi (by omega)) (fun _ => h)
theorem cons_mono {c c' : Nat → Bool} {k : Nat} (h : ∀ i, c i = true → c' i = true) : cons c k ≤ cons c' k := by
  rcases Nat.lt_or_ge (cons c' k) (cons c k) with q | q
  · have h1 := h _ (cons_come q)
    have := cons_le c k
    rw [cons_stop (c := c') (k := k) (by omega)] at h1
    cases h1
  · exact q
theorem cons_grow {c : Nat → Bool} {k : Nat} (h : ∀ i, k ≤ i → c i = false) (d : Nat) : cons c (k + d) = cons c k := by
  have hl := cons_le c k
  refine cons_eq (by omega) (fun i hi => cons_come hi) fun _ => ?_
  rcases Nat.lt_or_ge (cons c k) k with q | q
  · exact cons_stop q
  · exact h _ q

structure L where
  n : Nat
  ws : List Int
  come : Nat → Nat → Bool
def start (n : Nat) : L := ⟨n, [], fun _ _ => false⟩
def up2 {α : Type} (f : Nat → Nat → α) (i j : Nat) (x : α) : Nat → Nat → α := fun a b => if a = i ∧ b = j then x else f a b
variable {l : L}
def sayC (l : L) (word : Int) : Int := if word < 1 ∨ 30 < word then 1 else if word ∈ l.ws then 7 else 0
def sayP (l : L) (word : Int) : Int × Int := if sayC l word = 0 then ((l.ws.length : Int), word) else (0, 0)
def say (l : L) (word : Int) : L := if sayC l word = 0 then { l with ws := l.ws ++ [word] } else l
def inC (l : L) (who : Int) : Int := if who < 0 ∨ (l.n : Int) ≤ who then 1 else 0
def hn (l : L) (m : Nat) : Nat := cons (l.come m) l.ws.length
def hd (l : L) (who : Int) : List Int := if inC l who = 0 then l.ws.take (hn l who.toNat) else []
def lkN (l : L) (m k : Nat) : List Int := ((List.range k).filter fun i => !l.come m i).map fun i : Nat => (i : Int)
def lk (l : L) (who : Int) : List Int := if inC l who = 0 then lkN l who.toNat l.ws.length else []
def tkC (l : L) (who at_ : Int) : Int := if inC l who ≠ 0 then 1 else if at_ < 0 ∨ (l.ws.length : Int) ≤ at_ then 5 else 0
def tk (l : L) (who at_ : Int) : L := if tkC l who at_ = 0 then { l with come := up2 l.come who.toNat at_.toNat true } else l
def tkO (l : L) (who at_ : Int) : List Int := if tkC l who at_ = 0 then (l.ws.take (hn (tk l who at_) who.toNat)).drop (hn l who.toNat) else []
structure Inv (l : L) : Prop where
  two : 2 ≤ l.n
  five : l.n ≤ 5
  word : ∀ x ∈ l.ws, 1 ≤ x ∧ x ≤ 30
  nd : l.ws.Nodup
  come : ∀ m i, l.come m i = true → m < l.n ∧ i < l.ws.length
theorem Inv.start {n : Nat} (h2 : 2 ≤ n) (h5 : n ≤ 5) : Inv (start n) := ⟨h2, h5, fun x h => absurd h List.not_mem_nil, List.nodup_nil, fun m i h => by cases h⟩
theorem few {l : List Int} : ∀ (n : Nat), l.Nodup → (∀ x ∈ l, 1 ≤ x ∧ x ≤ (n : Int)) → l.length ≤ n := by
  intro n
  induction n generalizing l with
  | zero =>
    intro _ hl
    cases l with
    | nil => simp
    | cons x l => have := hl x (List.mem_cons_self ..); omega
  | succ n ih =>
    intro hd hl
    by_cases hm : ((n + 1 : Nat) : Int) ∈ l
    · have h1 := List.length_erase_of_mem hm
      have h2 : (l.erase ((n + 1 : Nat) : Int)).length ≤ n := ih (hd.erase _) fun x hx => by
        obtain ⟨a, b⟩ := (hd.mem_erase_iff).1 hx
        have := hl x b
        omega
      omega
    · have := ih hd fun x hx => by
        have h1 := hl x hx
        have : x ≠ ((n + 1 : Nat) : Int) := fun e => hm (e ▸ hx)
        omega
      omega
theorem Inv.len (h : Inv l) : l.ws.length ≤ 30 := few 30 h.nd h.word
theorem sayC_ok {word : Int} (h : sayC l word = 0) : (1 ≤ word ∧ word ≤ 30) ∧ word ∉ l.ws := by
  unfold sayC at h
  split at h
  · omega
  · split at h
    · omega
    · rename_i q
      exact ⟨by omega, q⟩
theorem Inv.say (h : Inv l) (word : Int) : Inv (say l word) := by
  unfold Ldr.say
  split
  · rename_i hc
    obtain ⟨a, b⟩ := sayC_ok hc
    refine ⟨h.two, h.five, fun x hx => ?_, ?_, fun m i q => ?_⟩
    · rcases List.mem_append.1 hx with z | z
      · exact h.word x z
      · rw [List.mem_singleton.1 z]; exact a
    · rw [List.nodup_append]
      refine ⟨h.nd, by simp, fun x hx y hy e => ?_⟩
      rw [List.mem_singleton.1 hy] at e
      exact b (e ▸ hx)
    · have := h.come m i q
      exact ⟨this.1, by rw [List.length_append]; omega⟩
  · exact h
theorem tkC_ok {who at_ : Int} (h : tkC l who at_ = 0) : (0 ≤ who ∧ who < (l.n : Int)) ∧ 0 ≤ at_ ∧ at_ < (l.ws.length : Int) := by
  by_cases q : who < 0 ∨ (l.n : Int) ≤ who
  · have e : inC l who = 1 := if_pos q
    unfold tkC at h
    rw [e, if_pos (by decide)] at h
    omega
  · have e : inC l who = 0 := if_neg q
    unfold tkC at h
    rw [e, if_neg (by decide)] at h
    split at h
    · omega
    · exact ⟨by omega, by omega, by omega⟩
theorem Inv.tk (h : Inv l) (who at_ : Int) : Inv (tk l who at_) := by
  unfold Ldr.tk
  split
  · rename_i hc
    obtain ⟨a, b, c⟩ := tkC_ok hc
    refine ⟨h.two, h.five, h.word, h.nd, fun m i q => ?_⟩
    have q' : (if m = who.toNat ∧ i = at_.toNat then true else l.come m i) = true := q
    by_cases e : m = who.toNat ∧ i = at_.toNat
    · rw [e.1, e.2]
      exact ⟨by show who.toNat < l.n; omega, by show at_.toNat < l.ws.length; omega⟩
    · rw [if_neg e] at q'
      exact h.come m i q'
  · exact h
theorem say_n (l : L) (word : Int) : (say l word).n = l.n := by unfold say; split <;> rfl
theorem tk_n (l : L) (who at_ : Int) : (tk l who at_).n = l.n := by unfold tk; split <;> rfl
theorem tk_ws (l : L) (who at_ : Int) : (tk l who at_).ws = l.ws := by unfold tk; split <;> rfl
theorem tk_come {who at_ : Int} {m i : Nat} (h : l.come m i = true) : (tk l who at_).come m i = true := by
  unfold tk
  split
  · show (if m = who.toNat ∧ i = at_.toNat then true else l.come m i) = true
    rw [h]
    simp
  · exact h
theorem tk_came {m i : Nat} (hm : m < l.n) (hi : i < l.ws.length) : (tk l (m : Int) (i : Int)).come m i = true ∧ tkC l (m : Int) (i : Int) = 0 := by
  have e : tkC l (m : Int) (i : Int) = 0 := by
    unfold tkC inC
    rw [if_neg (by rw [if_neg (by omega)]; decide), if_neg (by omega)]
  refine ⟨?_, e⟩
  unfold tk
  rw [if_pos e]
  show (if m = ((m : Int)).toNat ∧ i = ((i : Int)).toNat then true else l.come m i) = true
  rw [if_pos ⟨by omega, by omega⟩]
theorem in_ok {m : Nat} (h : m < l.n) : inC l (m : Int) = 0 := if_neg (by omega)
theorem hd_in {m : Nat} (h : m < l.n) : hd l (m : Int) = l.ws.take (hn l m) := if_pos (in_ok h)
theorem lk_in {m : Nat} (h : m < l.n) : lk l (m : Int) = lkN l m l.ws.length := if_pos (in_ok h)
theorem hd_prefix {m : Nat} (h : m < l.n) : hd l (m : Int) <+: l.ws := by rw [hd_in h]; exact List.take_prefix _ _
theorem lkN_succ (l : L) (m k : Nat) : lkN l m (k + 1) = lkN l m k ++ (if l.come m k = true then [] else [(k : Int)]) := by
  unfold lkN
  rw [List.range_succ, List.filter_append, List.map_append]
  congr 1
  cases q : l.come m k <;> simp [q]
theorem lkN_len (l : L) (m k : Nat) : (lkN l m k).length ≤ k := by
  unfold lkN
  rw [List.length_map]
  exact Nat.le_trans (List.length_filter_le _ _) (by simp)
theorem lkN_mem {m k : Nat} {x : Int} : x ∈ lkN l m k ↔ ∃ i : Nat, x = (i : Int) ∧ i < k ∧ l.come m i = false := by
  unfold lkN
  rw [List.mem_map]
  constructor
  · rintro ⟨i, hi, rfl⟩
    rw [List.mem_filter, List.mem_range] at hi
    exact ⟨i, rfl, hi.1, by simpa using hi.2⟩
  · rintro ⟨i, rfl, h1, h2⟩
    exact ⟨i, by rw [List.mem_filter, List.mem_range]; exact ⟨h1, by rw [h2]; rfl⟩, rfl⟩
end Go.Proofs.Ytcccheeeagphpag.Ldr

/-
  Errors as the program tells them; a list of numbers that is seen.
-/
namespace Go.Proofs.Ytcccheeeagphpag.Ldr
open Go.RowKit
open Go.Proofs.Ytcccheeeagphpag.Fif (own_lt own_block own_form own_mono own_vw ret_bool)
open Go.Proofs.Ytcccheeeagphpag.Vec (Vw)
open Go.Proofs.Ytcccheeeagphpag.Sep (KpL NewL)
set_option linter.unusedVariables false

def errF (c : Int) : Value := if c = 0 then .nilIface else .iface 54 (.int .i64 c)
theorem errF_ok : errF 0 = .nilIface := rfl
theorem errF_no {c : Int} (h : c ≠ 0) : errF c = .iface 54 (.int .i64 c) := if_neg h
/-- a list of numbers that is seen -/
def Sl (w : World) (v : Value) (l : List Int) : Prop := ∃ a cap, v = .slice a l.length cap ∧ l.length ≤ cap ∧ cap ≤ maxLen ∧ Vw w a l.length l
theorem Sl.later {w w' : World} {v : Value} {l : List Int} (h : Sl w v l) (hb : Below w.heap.size w w') : Sl w' v l := by
  obtain ⟨a, cap, e, h1, h2, h3⟩ := h
  exact ⟨a, cap, e, h1, h2, h3.later hb⟩
theorem Sl.nil (w : World) : Sl w (.slice none 0 0) [] := ⟨none, 0, rfl, Nat.le_refl _, Nat.zero_le _, rfl, fun q => absurd q (by decide)⟩
theorem Sl.of_own {w : World} {base : Nat} {v : Value} {l : List Int} {t : TypeId} (o : w.ownsRow base t 1 v l.length (l.map (Value.int .i64))) : Sl w v l := by
  obtain ⟨a, cap, e, hv⟩ := own_vw o
  refine ⟨a, cap, e, ?_, ?_, hv⟩
  · rcases o.2 with ⟨h2, h3⟩ | ⟨g, cap', cur, hv', _, _, hc, hm, _, _⟩
    · rw [e] at h2
      injection h2 with _ _ h4
      omega
    · rw [e] at hv'
      injection hv' with _ _ h4
      omega
  · rcases o.2 with ⟨h2, h3⟩ | ⟨g, cap', cur, hv', _, _, hc, hm, _, _⟩
    · rw [e] at h2
      injection h2 with _ _ h4
      unfold maxLen
      omega
    · rw [e] at hv'
      injection hv' with _ _ h4
      rw [h4]
      exact hm
end Go.Proofs.Ytcccheeeagphpag.Ldr

/-
  What the program keeps of a group in which one gives the places: by place what was said, by place what waits at a member, the place that each hears next. Plain facts.
-/
namespace Go.Proofs.Ytcccheeeagphpag.Ldr
open Go.Proofs.Ytcccheeeagphpag.MapV (putT delT)
set_option linter.unusedVariables false

/-- how many of the first so many are so -/
def cnt (p : Nat → Bool) : Nat → Nat
  | 0 => 0
  | k + 1 => cnt p k + if p k = true then 1 else 0
theorem cnt_le (p : Nat → Bool) (k : Nat) : cnt p k ≤ k := by
  induction k with
  | zero => exact Nat.le_refl _
  | succ k ih => unfold cnt; split <;> omega
theorem cnt_eq {p q : Nat → Bool} {k : Nat} (h : ∀ i, i < k → p i = q i) : cnt p k = cnt q k := by
  induction k with
  | zero => rfl
  | succ k ih =>
    unfold cnt
    rw [ih fun i hi => h i (by omega), h k (by omega)]
/-- one more -/
theorem cnt_one {p q : Nat → Bool} {k j : Nat} (hj : j < k) (h : ∀ i, i ≠ j → p i = q i) (hp : p j = false) (hq : q j = true) : cnt q k = cnt p k + 1 := by
  induction k with
  | zero => omega
  | succ k ih =>
    unfold cnt
    by_cases e : j = k
    · subst e
      rw [hp, hq, cnt_eq (p := p) (q := q) fun i hi => h i (by omega)]
      simp
    · rw [ih (by omega), h k (fun z => e z.symm)]
      omega
def iv (x : Int) : Value := .int .i64 x
/-- what was said, by place -/
def TS (ws : List Int) : Int → Option Value := fun i => if 0 ≤ i ∧ i < (ws.length : Int) then some (iv (ws.getD i.toNat 0)) else none
/-- what waits at a member that hears k next, by place -/
def TW (l : L) (m k : Nat) : Int → Option Value := fun i => if (k : Int) ≤ i ∧ l.come m i.toNat = true then some (iv (l.ws.getD i.toNat 0)) else none
def cW (l : L) (m k : Nat) : Nat := cnt (fun i => decide (k ≤ i) && l.come m i) l.ws.length
theorem cW_le (l : L) (m k : Nat) : cW l m k ≤ l.ws.length := cnt_le _ _
theorem TS_put (ws : List Int) (x : Int) : ∀ i, TS (ws ++ [x]) i = putT (TS ws) (ws.length : Int) (iv x) i := by
  intro i
  unfold TS putT
  rw [List.length_append]
  simp only [List.length_cons, List.length_nil]
  by_cases e : i = (ws.length : Int)
  · rw [if_pos e, if_pos (by omega), e]
    simp [List.getD]
  · rw [if_neg e]
    by_cases q : 0 ≤ i ∧ i < (ws.length : Int)
    · rw [if_pos q, if_pos (by omega)]
      have : i.toNat < ws.length := by omega
      simp [List.getD, List.getElem?_append_left this]
    · rw [if_neg q, if_neg (by omega)]
theorem TS_at {ws : List Int} {k : Nat} (h : k < ws.length) : TS ws (k : Int) = some (iv (ws.getD k 0)) := by
  unfold TS
  rw [if_pos ⟨by omega, by omega⟩, Int.toNat_natCast]
theorem TS_not {ws : List Int} {i : Int} (h : i < 0 ∨ (ws.length : Int) ≤ i) : TS ws i = none := if_neg (by omega)
theorem TS_some {ws : List Int} {i : Int} {u : Value} (h : TS ws i = some u) : ∃ k : Nat, i = (k : Int) ∧ k < ws.length ∧ u = iv (ws.getD k 0) := by
  unfold TS at h
  split at h
  · rename_i q
    exact ⟨i.toNat, by omega, by omega, (Option.some.inj h).symm⟩
  · cases h
variable {l : L}
theorem TW_say (hi : Inv l) (x : Int) (m k : Nat) : ∀ i, TW { l with ws := l.ws ++ [x] } m k i = TW l m k i := by
  intro i
  unfold TW
  by_cases q : (k : Int) ≤ i ∧ l.come m i.toNat = true
  · rw [if_pos q, if_pos q]
    have : i.toNat < l.ws.length := (hi.come m _ q.2).2
    simp [List.getD, List.getElem?_append_left this]
  · rw [if_neg q, if_neg q]
theorem cW_say (hi : Inv l) (x : Int) (m k : Nat) : cW { l with ws := l.ws ++ [x] } m k = cW l m k := by
  unfold cW
  show cnt _ (l.ws ++ [x]).length = _
  rw [List.length_append]
  show cnt _ (l.ws.length + 1) = _
  have e : l.come m l.ws.length = false := by
    rw [Bool.eq_false_iff]
    intro q
    have := (hi.come m _ q).2
    omega
  rw [cnt, e]
  simp
theorem hn_say (hi : Inv l) (x : Int) (m : Nat) : hn { l with ws := l.ws ++ [x] } m = hn l m := by
  unfold hn
  show cons (l.come m) (l.ws ++ [x]).length = _
  rw [List.length_append]
  refine cons_grow (fun i h => ?_) 1
  rw [Bool.eq_false_iff]
  intro q
  have := (hi.come m _ q).2
  omega
theorem hn_le (l : L) (m : Nat) : hn l m ≤ l.ws.length := cons_le _ _
theorem hn_come {m k : Nat} (h : k < hn l m) : l.come m k = true := cons_come h
theorem hn_stop (hi : Inv l) (m : Nat) : l.come m (hn l m) = false := by
  rw [Bool.eq_false_iff]
  intro q
  have h1 := (hi.come m _ q).2
  rw [show l.come m (hn l m) = false from cons_stop h1] at q
  cases q
/-- one has come to a member -/
def got (l : L) (m k : Nat) : L := { l with come := up2 l.come m k true }
theorem tk_got {m k : Nat} (hm : m < l.n) (hk : k < l.ws.length) : tk l (m : Int) (k : Int) = got l m k := by
  have e : tkC l (m : Int) (k : Int) = 0 := by
    unfold tkC
    rw [if_neg (by rw [in_ok hm]; decide), if_neg (by omega)]
  unfold tk
  rw [if_pos e]
  rfl
theorem got_come (l : L) (m k i j : Nat) : (got l m k).come i j = if i = m ∧ j = k then true else l.come i j := rfl
theorem TW_got {m k a : Nat} (ha : a ≤ k) : ∀ i, TW (got l m k) m a i = putT (TW l m a) (k : Int) (iv (l.ws.getD k 0)) i := by
  intro i
  unfold TW putT
  rw [got_come]
  by_cases e : i = (k : Int)
  · rw [if_pos e, e, Int.toNat_natCast, if_pos ⟨by omega, by simp⟩]
    rfl
  · rw [if_neg e]
    by_cases q : (a : Int) ≤ i
    · rw [if_neg (show ¬ (m = m ∧ i.toNat = k) by omega)]
      rfl
    · rw [if_neg (fun z => q z.1)]
      exact (if_neg (fun z => q z.1)).symm
theorem TW_got_other {m k j : Nat} (h : j ≠ m) (a : Nat) : ∀ i, TW (got l m k) j a i = TW l j a i := by
  intro i
  have e : (got l m k).come j i.toNat = l.come j i.toNat := by rw [got_come]; exact if_neg (fun q => h q.1)
  unfold TW
  rw [e]
  rfl
theorem cW_got {m k a : Nat} (ha : a ≤ k) (hk : k < l.ws.length) (hc : l.come m k = false) : cW (got l m k) m a = cW l m a + 1 := by
  unfold cW
  refine cnt_one hk (fun i hi => ?_) ?_ ?_
  · show _ = (decide (a ≤ i) && if m = m ∧ i = k then true else l.come m i)
    rw [if_neg (fun q => hi q.2)]
  · simp [hc]
  · show (decide (a ≤ k) && if m = m ∧ k = k then true else l.come m k) = true
    simp [ha]
theorem cW_got_other {m k j : Nat} (h : j ≠ m) (a : Nat) : cW (got l m k) j a = cW l j a := by
  unfold cW
  refine cnt_eq fun i hi => ?_
  show (decide (a ≤ i) && if j = m ∧ i = k then true else l.come j i) = _
  rw [if_neg (fun q => h q.1)]
theorem hn_got_other {m k j : Nat} (h : j ≠ m) : hn (got l m k) j = hn l j := by
  unfold hn
  show cons (fun i => if j = m ∧ i = k then true else l.come j i) l.ws.length = _
  congr 1
  funext i
  rw [if_neg (fun q => h q.1)]
theorem hn_got_le (l : L) (m k j : Nat) : hn l j ≤ hn (got l m k) j := by
  refine cons_mono fun i hi => ?_
  show (if j = m ∧ i = k then true else l.come j i) = true
  rw [hi]
  simp
/-- one that had come -/
theorem got_same {m k : Nat} (h : l.come m k = true) : got l m k = l := by
  unfold got up2
  have : (fun a b => if a = m ∧ b = k then true else l.come a b) = l.come := by
    funext a b
    by_cases q : a = m ∧ b = k
    · rw [if_pos q, q.1, q.2, h]
    · rw [if_neg q]
  rw [this]
/-- one of those that wait is heard -/
theorem TW_next {m k : Nat} : ∀ i, TW l m (k + 1) i = delT (TW l m k) (k : Int) i := by
  intro i
  unfold TW delT
  by_cases e : i = (k : Int)
  · rw [if_pos e, if_neg (fun q => by omega)]
  · rw [if_neg e]
    by_cases q : (k : Int) ≤ i ∧ l.come m i.toNat = true
    · rw [if_pos ⟨by omega, q.2⟩]
      exact (if_pos q).symm
    · rw [if_neg (fun z => q ⟨by omega, z.2⟩)]
      exact (if_neg q).symm
theorem cW_next {m k : Nat} (hk : k < l.ws.length) (hc : l.come m k = true) : cW l m (k + 1) = cW l m k - 1 := by
  have : cW l m k = cW l m (k + 1) + 1 := by
    unfold cW
    refine cnt_one hk (fun i hi => ?_) (by simp only [Bool.and_eq_false_imp, decide_eq_true_eq]; omega) (by simp [hc])
    congr 1
    exact decide_eq_decide.2 (by omega)
  omega
theorem TW_at {m k : Nat} (a : Nat) (ha : a ≤ k) : TW l m a (k : Int) = if l.come m k = true then some (iv (l.ws.getD k 0)) else none := by
  unfold TW
  rw [Int.toNat_natCast]
  by_cases q : l.come m k = true
  · rw [if_pos q, if_pos ⟨by omega, q⟩]
  · rw [if_neg q, if_neg (fun z => q z.2)]
/-- what had come to it: heard, or waiting -/
theorem come_is (hi : Inv l) {m k : Nat} : ((TW l m (hn l m) (k : Int)).isSome || decide (k < hn l m)) = l.come m k := by
  by_cases q : k < hn l m
  · rw [decide_eq_true q, hn_come q, Bool.or_true]
  · rw [decide_eq_false q, Bool.or_false, TW_at _ (by omega)]
    cases h : l.come m k <;> simp
/-- what is heard, one more -/
theorem part_succ {ws : List Int} {a k : Nat} (ha : a ≤ k) (hk : k < ws.length) : (ws.take (k + 1)).drop a = (ws.take k).drop a ++ [ws.getD k 0] := by
  have e : ws.take (k + 1) = ws.take k ++ [ws.getD k 0] := by
    rw [List.take_succ_eq_append_getElem hk]
    simp [List.getD, hk]
  rw [e, List.drop_append_of_le_length (by rw [List.length_take]; omega)]
theorem take_succ {ws : List Int} {k : Nat} (hk : k < ws.length) : ws.take (k + 1) = ws.take k ++ [ws.getD k 0] := by
  have := part_succ (a := 0) (Nat.zero_le k) hk
  simpa using this
/-- of places below the next one none lacks -/
theorem lkN_heard {m k : Nat} (h : k ≤ hn l m) : lkN l m k = [] := by
  induction k with
  | zero => rfl
  | succ k ih => rw [lkN_succ, ih (by omega), if_pos (hn_come (show k < hn l m by omega))]; rfl
end Go.Proofs.Ytcccheeeagphpag.Ldr

/-
  The program's group with a leader in memory: a block, a map of what was said, a map of what waits a member.
-/
namespace Go.Proofs.Ytcccheeeagphpag.Ldr
open Go.RowKit Go.Maps
open Go.Proofs.Ytcccheeeagphpag.Fif (own_lt own_block own_form own_mono own_vw ret_bool)
open Go.Proofs.Ytcccheeeagphpag.MapV (MM putT delT turned_below g_of_turned)
open Go.Proofs.Ytcccheeeagphpag.Sep (KpL NewL)
set_option linter.unusedVariables false

/-- what is kept -/
structure Rc where
  n : Nat
  S : Int → Option Value
  cS : Nat
  W : Nat → Int → Option Value
  cW : Nat → Nat
  nx : Nat → Nat
def up {α : Type} (f : Nat → α) (m : Nat) (x : α) : Nat → α := fun i => if i = m then x else f i
theorem up_same {α : Type} (f : Nat → α) (m : Nat) (x : α) : up f m x m = x := if_pos rfl
theorem up_other {α : Type} (f : Nat → α) {m i : Nat} (x : α) (h : i ≠ m) : up f m x i = f i := if_neg h
def av (r : Rc) (mS : Nat) (mb : Nat → Nat) (k : Nat) : Value :=
  if k = 0 then .int .i64 (r.n : Int) else if k = 1 then .map (some mS) else if k < 7 then .int .i64 (r.nx (k - 2) : Int) else (if k - 7 < r.n then .map (some (mb (k - 7))) else .map none)
structure LF (w : World) (base P mS : Nat) (mb : Nat → Nat) (r : Rc) : Prop where
  row : w.rowIs P 65 12 (av r mS mb)
  said : MM w mS r.S r.cS
  wait : ∀ i, i < r.n → MM w (mb i) (r.W i) (r.cW i)
  low : base ≤ P ∧ base ≤ mS ∧ ∀ i, i < r.n → base ≤ mb i
  five : r.n ≤ 5
  dS : ∀ i, i < r.n → mb i ≠ mS
  dW : ∀ i j, i < r.n → j < r.n → i ≠ j → mb i ≠ mb j
def fpL (P mS n : Nat) (mb : Nat → Nat) : List Nat := P :: mS :: (List.range n).map mb
theorem fpL_iff {P mS n : Nat} {mb : Nat → Nat} {b : Nat} : b ∈ fpL P mS n mb ↔ b = P ∨ b = mS ∨ (∃ i, i < n ∧ mb i = b) := by
  simp [fpL]
variable {w w' : World} {base P mS : Nat} {mb : Nat → Nat} {r : Rc}
theorem LF.c0 (h : LF w base P mS mb r) : w.cell? ⟨P, 0, none⟩ = some (.int .i64 (r.n : Int)) := World.rowIs.cell h.row (i := 0) (by omega)
theorem LF.c1 (h : LF w base P mS mb r) : w.cell? ⟨P, 1, none⟩ = some (.map (some mS)) := World.rowIs.cell h.row (i := 1) (by omega)
theorem LF.fr (h : LF w base P mS mb r) (k : Nat) : w.frozen? ⟨P, k, none⟩ = false := World.rowIs.frozen h.row k
theorem LF.cl (h : LF w base P mS mb r) {m : Nat} (hm : m < 5) : w.cell? ⟨P, 2 + m, none⟩ = some (.int .i64 (r.nx m : Int)) := by
  rw [World.rowIs.cell h.row (i := 2 + m) (by omega)]
  unfold av
  rw [if_neg (by omega), if_neg (by omega), if_pos (by omega), show 2 + m - 2 = m by omega]
theorem LF.cw (h : LF w base P mS mb r) {m : Nat} (hm : m < r.n) : w.cell? ⟨P, 7 + m, none⟩ = some (.map (some (mb m))) := by
  have := h.five
  rw [World.rowIs.cell h.row (i := 7 + m) (by omega)]
  unfold av
  rw [if_neg (by omega), if_neg (by omega), if_neg (by omega), show 7 + m - 7 = m by omega, if_pos hm]
theorem LF.lt (h : LF w base P mS mb r) : P < w.heap.size := World.rowIs.lt h.row
theorem LF.fp (h : LF w base P mS mb r) : ∀ b ∈ fpL P mS r.n mb, base ≤ b ∧ b < w.heap.size := by
  intro b hb
  rcases fpL_iff.1 hb with rfl | rfl | ⟨i, hi, rfl⟩
  · exact ⟨h.low.1, h.lt⟩
  · exact ⟨h.low.2.1, h.said.lt⟩
  · exact ⟨h.low.2.2 i hi, (h.wait i hi).lt⟩
theorem LF.of_blocks (h : LF w base P mS mb r) (hk : ∀ b ∈ fpL P mS r.n mb, w'.heap[b]? = w.heap[b]?) : LF w' base P mS mb r :=
  { row := World.rowIs.of_block h.row (hk P (fpL_iff.2 (.inl rfl)))
    said := h.said.of_block (hk mS (fpL_iff.2 (.inr (.inl rfl))))
    wait := fun i hi => (h.wait i hi).of_block (hk _ (fpL_iff.2 (.inr (.inr ⟨i, hi, rfl⟩))))
    low := h.low, five := h.five, dS := h.dS, dW := h.dW }
theorem LF.later (h : LF w base P mS mb r) (hb : Below w.heap.size w w') : LF w' base P mS mb r := h.of_blocks fun b q => hb.block b (h.fp b q).2
theorem LF.heap (h : LF w base P mS mb r) (e : w'.heap = w.heap) : LF w' base P mS mb r := h.of_blocks fun b _ => by rw [e]
theorem LF.lower (h : LF w base P mS mb r) {base' : Nat} (hb : base' ≤ base) : LF w base' P mS mb r :=
  { row := h.row, said := h.said, wait := h.wait
    low := ⟨Nat.le_trans hb h.low.1, Nat.le_trans hb h.low.2.1, fun i hi => Nat.le_trans hb (h.low.2.2 i hi)⟩, five := h.five, dS := h.dS, dW := h.dW }
/-- the place that a member hears next -/
theorem LF.setNx (h : LF w base P mS mb r) {m : Nat} (hm : m < 5) (y : Nat) : LF (w.setCell ⟨P, 2 + m, none⟩ (.int .i64 (y : Int))) base P mS mb { r with nx := up r.nx m y } := by
  have hk : ∀ b, b ≠ P → (w.setCell ⟨P, 2 + m, none⟩ (.int .i64 (y : Int))).heap[b]? = w.heap[b]? := fun b hb => Deep.blk_setCell_other _ _ _ _ hb
  refine { row := (World.rowIs.set h.row (2 + m) _).congr fun k hk => ?_, said := h.said.of_block (hk _ (h.said.row h.row).symm), wait := fun i hi => (h.wait i hi).of_block (hk _ ((h.wait i hi).row h.row).symm), low := h.low, five := h.five, dS := h.dS, dW := h.dW }
  unfold av
  by_cases e : k = 2 + m
  · rw [if_pos e, if_neg (by omega), if_neg (by omega), if_pos (by omega)]
    show _ = Value.int .i64 ((up r.nx m y (k - 2) : Nat) : Int)
    rw [show k - 2 = m by omega, up_same]
  · rw [if_neg e]
    by_cases e0 : k = 0
    · rw [if_pos e0, if_pos e0]
    · rw [if_neg e0, if_neg e0]
      by_cases e1 : k = 1
      · rw [if_pos e1, if_pos e1]
      · rw [if_neg e1, if_neg e1]
        by_cases e7 : k < 7
        · rw [if_pos e7, if_pos e7]
          show _ = Value.int .i64 ((up r.nx m y (k - 2) : Nat) : Int)
          rw [up_other _ _ (show k - 2 ≠ m by omega)]
        · rw [if_neg e7, if_neg e7]
theorem LF.turnS (h : LF w base P mS mb r) {S' : Int → Option Value} {c' : Nat} (hm : MM w' mS S' c') (ht : w.mapTurned w' mS) : LF w' base P mS mb { r with S := S', cS := c' } := by
  have hk : ∀ b, b < w.heap.size → b ≠ mS → w'.heap[b]? = w.heap[b]? := fun b hb hne => g_of_turned ht hb hne
  exact
  { row := World.rowIs.of_block h.row (hk P h.lt (h.said.row h.row))
    said := hm
    wait := fun i hi => (h.wait i hi).of_block (hk _ (h.wait i hi).lt (h.dS i hi))
    low := h.low, five := h.five, dS := h.dS, dW := h.dW }
theorem LF.turnW (h : LF w base P mS mb r) {m : Nat} (hmn : m < r.n) {T' : Int → Option Value} {c' : Nat} (hm : MM w' (mb m) T' c') (ht : w.mapTurned w' (mb m)) : LF w' base P mS mb { r with W := up r.W m T', cW := up r.cW m c' } := by
  have hk : ∀ b, b < w.heap.size → b ≠ mb m → w'.heap[b]? = w.heap[b]? := fun b hb hne => g_of_turned ht hb hne
  exact
  { row := World.rowIs.of_block h.row (hk P h.lt ((h.wait m hmn).row h.row))
    said := h.said.of_block (hk _ h.said.lt (h.dS m hmn).symm)
    wait := fun i hi => (by
      show MM w' (mb i) (up r.W m T' i) (up r.cW m c' i)
      by_cases e : i = m
      · subst e
        rw [up_same, up_same]
        exact hm
      · rw [up_other _ _ e, up_other _ _ e]
        exact (h.wait i hi).of_block (hk _ (h.wait i hi).lt (h.dW i m hi hmn e)))
    low := h.low, five := h.five, dS := h.dS, dW := h.dW }
/-- the same, in other words -/
theorem LF.congr (h : LF w base P mS mb r) {r' : Rc} (en : r'.n = r.n) (eS : ∀ i, r'.S i = r.S i) (ec : r'.cS = r.cS) (eW : ∀ m, m < r.n → ∀ i, r'.W m i = r.W m i) (ecw : ∀ m, m < r.n → r'.cW m = r.cW m) (em : ∀ m, m < 5 → r'.nx m = r.nx m) : LF w base P mS mb r' := by
  refine { row := h.row.congr fun k hk => ?_, said := h.said.congr eS ec, wait := fun i hi => (h.wait i (by omega)).congr (eW i (by omega)) (ecw i (by omega)), low := ⟨h.low.1, h.low.2.1, fun i hi => h.low.2.2 i (by omega)⟩, five := (by rw [en]; exact h.five), dS := fun i hi => h.dS i (by omega), dW := fun i j hi hj => h.dW i j (by omega) (by omega) }
  unfold av
  rw [en]
  by_cases e7 : k < 7
  · rw [if_pos e7, if_pos e7]
    by_cases e0 : k = 0
    · rw [if_pos e0, if_pos e0]
    · by_cases e1 : k = 1
      · rw [if_pos e1, if_pos e1]
      · rw [if_neg e0, if_neg e1, if_neg e0, if_neg e1, em _ (by omega)]
  · rw [if_neg e7, if_neg e7]
theorem kp_refl (w : World) (fp : List Nat) : KpL w w fp := ⟨Nat.le_refl _, fun _ _ _ => rfl⟩
theorem kp_trans {w1 w2 w3 : World} {fp : List Nat} (h : KpL w1 w2 fp) (h' : KpL w2 w3 fp) : KpL w1 w3 fp := ⟨Nat.le_trans h.1 h'.1, fun b hb hn => (h'.2 b (Nat.lt_of_lt_of_le hb h.1) hn).trans (h.2 b hb hn)⟩
theorem kp_turned {b : Nat} {fp : List Nat} (h : w.mapTurned w' b) (hb : b ∈ fp) : KpL w w' fp := ⟨h.grown.size, fun k hk hn => g_of_turned h hk (fun e => hn (e ▸ hb))⟩
theorem kp_set {fp : List Nat} (w : World) (i : Nat) (v : Value) (hb : P ∈ fp) : KpL w (w.setCell ⟨P, i, none⟩ v) fp := ⟨by simp [World.setCell], fun b _ hn => Deep.blk_setCell_other _ _ _ _ (fun e => hn (e ▸ hb))⟩
theorem kp_heap {w1 w2 w3 : World} {fp : List Nat} (h : KpL w1 w2 fp) (e : w3.heap = w2.heap) : KpL w1 w3 fp := ⟨by rw [e]; exact h.1, fun b hb hn => by rw [e]; exact h.2 b hb hn⟩
theorem P_fp {n : Nat} : P ∈ fpL P mS n mb := fpL_iff.2 (.inl rfl)
theorem S_fp {n : Nat} : mS ∈ fpL P mS n mb := fpL_iff.2 (.inr (.inl rfl))
theorem W_fp {n m : Nat} (h : m < n) : mb m ∈ fpL P mS n mb := fpL_iff.2 (.inr (.inr ⟨m, h, rfl⟩))
theorem drewsL {B : Nat} {a w : World} (h : Below B a w) (n : Nat) : Below B a (w.drewN n) := ⟨h.os, h.tape, h.output, h.size, h.block⟩
theorem same_heap {B : Nat} {a w1 w2 : World} (h : Below B a w1) (e : w2.heap = w1.heap) (e1 : w2.os = w1.os) (e2 : w2.tape = w1.tape) (e3 : w2.output = w1.output) : Below B a w2 := ⟨by rw [e1]; exact h.os, by rw [e2]; exact h.tape, by rw [e3]; exact h.output, by rw [e]; exact h.size, fun k hk => by rw [e]; exact h.block k hk⟩
/-- the group that it shows, where each hears that place next -/
def rcN (l : L) (nx : Nat → Nat) : Rc := ⟨l.n, TS l.ws, l.ws.length, fun m => TW l m (nx m), fun m => cW l m (nx m), nx⟩
def rc (l : L) : Rc := rcN l (hn l)
def LS (w : World) (base P : Nat) (l : L) (fp : List Nat) : Prop := ∃ mS mb, fp = fpL P mS l.n mb ∧ LF w base P mS mb (rc l)
theorem LS.of_blocks {w w' : World} {base P : Nat} {l : L} {fp : List Nat} (h : LS w base P l fp) (hs : w.heap.size ≤ w'.heap.size) (hk : ∀ b ∈ fp, w'.heap[b]? = w.heap[b]?) : LS w' base P l fp := by
  obtain ⟨mS, mb, rfl, h⟩ := h
  exact ⟨mS, mb, rfl, h.of_blocks hk⟩
theorem LS.fp {w : World} {base P : Nat} {l : L} {fp : List Nat} (h : LS w base P l fp) : ∀ b ∈ fp, base ≤ b ∧ b < w.heap.size := by
  obtain ⟨mS, mb, rfl, h⟩ := h
  exact LF.fp h
theorem LS.lower {w : World} {base base' P : Nat} {l : L} {fp : List Nat} (h : LS w base P l fp) (hb : base' ≤ base) : LS w base' P l fp := by
  obtain ⟨mS, mb, rfl, h⟩ := h
  exact ⟨mS, mb, rfl, h.lower hb⟩
theorem zeroI (W : World) : (zeroValue 3).run Try.prog W = .ok (.int .i64 0) W := by kernel_rfl
/-- look-ups: what was said -/
theorem LF.lkS_ok (h : LF w base P mS mb r) {x : Int} (hx : (Lit.int .i64 x).wf = true) {s : Option Int} (hs : r.S x = s.map iv) : ∀ W : World, W.heap[mS]? = w.heap[mS]? → (Instr.lookup 62 (.map (some mS)) (.int .i64 x) true).run Try.prog W = .ok (.tuple #[.int .i64 (s.getD 0), .bool s.isSome]) W := by
  intro W hW
  have hlk := h.said.look_ok Try.underlying62 zeroI hx W hW
  rw [hs] at hlk
  cases s <;> exact hlk
theorem LF.lkS (h : LF w base P mS mb r) {x : Int} (hx : (Lit.int .i64 x).wf = true) {s : Option Int} (hs : r.S x = s.map iv) : ∀ W : World, W.heap[mS]? = w.heap[mS]? → (Instr.lookup 62 (.map (some mS)) (.int .i64 x) false).run Try.prog W = .ok (.int .i64 (s.getD 0)) W := by
  intro W hW
  have hlk := h.said.look Try.underlying62 zeroI hx W hW
  rw [hs] at hlk
  cases s <;> exact hlk
/-- look-ups: what waits -/
theorem LF.lkW_ok (h : LF w base P mS mb r) {m : Nat} (hm : m < r.n) {x : Int} (hx : (Lit.int .i64 x).wf = true) {s : Option Int} (hs : r.W m x = s.map iv) : ∀ W : World, W.heap[mb m]? = w.heap[mb m]? → (Instr.lookup 62 (.map (some (mb m))) (.int .i64 x) true).run Try.prog W = .ok (.tuple #[.int .i64 (s.getD 0), .bool s.isSome]) W := by
  intro W hW
  have hlk := (h.wait m hm).look_ok Try.underlying62 zeroI hx W hW
  rw [hs] at hlk
  cases s <;> exact hlk
theorem mm_len {T : Int → Option Value} {b c : Nat} (h : MM w b T c) (ty : TypeId) : ∀ W : World, W.heap[b]? = w.heap[b]? → (Builtin.len_ #[62] ty #[.map (some b)]).run Try.prog W = .ok (.int .i64 (c : Nat)) W := by
  intro W hW
  obtain ⟨D, hm, v⟩ := h
  rw [(MapV.own_heap hm hW).len Try.underlying62 ty, v.size]
end Go.Proofs.Ytcccheeeagphpag.Ldr
