/-
  Plain facts on a group in which one gives the places: what is refused, what is heard, what lacks.
-/
import Derived.WalkKit
namespace Go.Proofs.YtgcdbcljneoifajDoor.Ldr
set_option linter.unusedVariables false

/-- how many of the first so many have come without one lacking -/
def cons (c : Nat → Bool) : Nat → Nat
  | 0 => 0
  | k + 1 => if cons c k = k ∧ c k = true then k + 1 else cons c k
theorem cons_le (c : Nat → Bool) (k : Nat) : cons c k ≤ k := by
  induction k with
  | zero => exact Nat.le_refl _
  | succ k ih => unfold cons; split <;> omega
theorem cons_come {c : Nat → Bool} {k i : Nat} (h : i < cons c k) : c i = true := by
  induction k with
  | zero => simp [cons] at h
  | succ k ih =>
    unfold cons at h
    split at h
    · rename_i q
      by_cases e : i = k
      · rw [e]; exact q.2
      · exact ih (by rw [q.1]; omega)
    · exact ih h
theorem cons_stop {c : Nat → Bool} {k : Nat} (h : cons c k < k) : c (cons c k) = false := by
  induction k with
  | zero => omega
  | succ k ih =>
    unfold cons at h ⊢
    split
    · rename_i q
      rw [if_pos q] at h
      omega
    · rename_i q
      by_cases e : cons c k = k
      · rw [e, Bool.eq_false_iff]
        exact fun z => q ⟨e, z⟩
      · have := cons_le c k
        exact ih (by omega)
/-- it is the one such number -/
theorem cons_eq {c : Nat → Bool} {k n : Nat} (hn : n ≤ k) (h1 : ∀ i, i < n → c i = true) (h2 : n < k → c n = false) : cons c k = n := by
  rcases Nat.lt_trichotomy (cons c k) n with q | q | q
  · have := cons_stop (c := c) (k := k) (by omega)
    rw [h1 _ q] at this
    cases this
  · exact q
  · have h3 := cons_come q
    have := cons_le c k
    rw [h2 (by omega)] at h3
    cases h3
theorem cons_all {c : Nat → Bool} {k : Nat} (h : ∀ i, i < k → c i = true) : cons c k = k := cons_eq (Nat.le_refl _) h (fun q => absurd q (by omega))
theorem cons_none {c : Nat → Bool} {k : Nat} (h : c 0 = false) : cons c k = 0 := cons_eq (Nat.zero_le _) (fun i hi => absurd hi (by omega)) (fun _ => h)
theorem cons_mono {c c' : Nat → Bool} {k : Nat} (h : ∀ i, c i = true → c' i = true) : cons c k ≤ cons c' k := by
  rcases Nat.lt_or_ge (cons c' k) (cons c k) with q | q
  · have h1 := h _ (cons_come q)
    have := cons_le c k
    rw [cons_stop (c := c') (k := k) (by omega)] at h1
    cases h1
  · exact q
theorem cons_grow {c : Nat → Bool} {k : Nat} (h : ∀ i, k ≤ i → c i = false) (d : Nat) : cons c (k + d) = cons c k := by
  have hl := cons_le c k
  refine cons_eq (by omega) (fun i hi => cons_come hi) fun _ => ?_
  rcases Nat.lt_or_ge (cons c k) k with q | q
  · exact cons_stop q
  · exact h _ q

structure L where
  n : Nat
  ws : List Int
  come : Nat → Nat → Bool
def start (n : Nat) : L := ⟨n, [], fun _ _ => false⟩
def up2 {α : Type} (f : Nat → Nat → α) (i j : Nat) (x : α) : Nat → Nat → α := fun a b => if a = i ∧ b = j then x else f a b
variable {l : L}
def sayC (l : L) (word : Int) : Int := if word < 1 ∨ 30 < word then 1 else if word ∈ l.ws then 7 else 0
def sayP (l : L) (word : Int) : Int × Int := if sayC l word = 0 then ((l.ws.length : Int), word) else (0, 0)
def say (l : L) (word : Int) : L := if sayC l word = 0 then { l with ws := l.ws ++ [word] } else l
def inC (l : L) (who : Int) : Int := if who < 0 ∨ (l.n : Int) ≤ who then 1 else 0
def hn (l : L) (m : Nat) : Nat := cons (l.come m) l.ws.length
def hd (l : L) (who : Int) : List Int := if inC l who = 0 then l.ws.take (hn l who.toNat) else []
def lkN (l : L) (m k : Nat) : List Int := ((List.range k).filter fun i => !l.come m i).map fun i : Nat => (i : Int)
def lk (l : L) (who : Int) : List Int := if inC l who = 0 then lkN l who.toNat l.ws.length else []
def tkC (l : L) (who at_ : Int) : Int := if inC l who ≠ 0 then 1 else if at_ < 0 ∨ (l.ws.length : Int) ≤ at_ then 5 else 0
def tk (l : L) (who at_ : Int) : L := if tkC l who at_ = 0 then { l with come := up2 l.come who.toNat at_.toNat true } else l
def tkO (l : L) (who at_ : Int) : List Int := if tkC l who at_ = 0 then (l.ws.take (hn (tk l who at_) who.toNat)).drop (hn l who.toNat) else []
structure Inv (l : L) : Prop where
  two : 2 ≤ l.n
  five : l.n ≤ 5
  word : ∀ x ∈ l.ws, 1 ≤ x ∧ x ≤ 30
  nd : l.ws.Nodup
  come : ∀ m i, l.come m i = true → m < l.n ∧ i < l.ws.length
theorem Inv.start {n : Nat} (h2 : 2 ≤ n) (h5 : n ≤ 5) : Inv (start n) := ⟨h2, h5, fun x h => absurd h List.not_mem_nil, List.nodup_nil, fun m i h => by cases h⟩
theorem few {l : List Int} : ∀ (n : Nat), l.Nodup → (∀ x ∈ l, 1 ≤ x ∧ x ≤ (n : Int)) → l.length ≤ n := by
  intro n
  induction n generalizing l with
  | zero =>
    intro _ hl
    cases l with
    | nil => simp
    | cons x l => have := hl x (List.mem_cons_self ..); omega
  | succ n ih =>
    intro hd hl
    by_cases hm : ((n + 1 : Nat) : Int) ∈ l
    · have h1 := List.length_erase_of_mem hm
      have h2 : (l.erase ((n + 1 : Nat) : Int)).length ≤ n := ih (hd.erase _) fun x hx => by
        obtain ⟨a, b⟩ := (hd.mem_erase_iff).1 hx
        have := hl x b
        omega
      omega
    · have := ih hd fun x hx => by
        have h1 := hl x hx
        have : x ≠ ((n + 1 : Nat) : Int) := fun e => hm (e ▸ hx)
        omega
      omega
theorem Inv.len (h : Inv l) : l.ws.length ≤ 30 := few 30 h.nd h.word
theorem sayC_ok {word : Int} (h : sayC l word = 0) : (1 ≤ word ∧ word ≤ 30) ∧ word ∉ l.ws := by
  unfold sayC at h
  split at h
  · omega
  · split at h
    · omega
    · rename_i q
      exact ⟨by omega, q⟩
theorem Inv.say (h : Inv l) (word : Int) : Inv (say l word) := by
  unfold Ldr.say
  split
  · rename_i hc
    obtain ⟨a, b⟩ := sayC_ok hc
    refine ⟨h.two, h.five, fun x hx => ?_, ?_, fun m i q => ?_⟩
    · rcases List.mem_append.1 hx with z | z
      · exact h.word x z
      · rw [List.mem_singleton.1 z]; exact a
    · rw [List.nodup_append]
      refine ⟨h.nd, by simp, fun x hx y hy e => ?_⟩
      rw [List.mem_singleton.1 hy] at e
      exact b (e ▸ hx)
    · have := h.come m i q
      exact ⟨this.1, by rw [List.length_append]; omega⟩
  · exact h
theorem tkC_ok {who at_ : Int} (h : tkC l who at_ = 0) : (0 ≤ who ∧ who < (l.n : Int)) ∧ 0 ≤ at_ ∧ at_ < (l.ws.length : Int) := by
  by_cases q : who < 0 ∨ (l.n : Int) ≤ who
  · have e : inC l who = 1 := if_pos q
    unfold tkC at h
    rw [e, if_pos (by decide)] at h
    omega
  · have e : inC l who = 0 := if_neg q
    unfold tkC at h
    rw [e, if_neg (by decide)] at h
    split at h
    · omega
    · exact ⟨by omega, by omega, by omega⟩
theorem Inv.tk (h : Inv l) (who at_ : Int) : Inv (tk l who at_) := by
  unfold Ldr.tk
  split
  · rename_i hc
    obtain ⟨a, b, c⟩ := tkC_ok hc
    refine ⟨h.two, h.five, h.word, h.nd, fun m i q => ?_⟩
    have q' : (if m = who.toNat ∧ i = at_.toNat then true else l.come m i) = true := q
    by_cases e : m = who.toNat ∧ i = at_.toNat
    · rw [e.1, e.2]
      exact ⟨by show who.toNat < l.n; omega, by show at_.toNat < l.ws.length; omega⟩
    · rw [if_neg e] at q'
      exact h.come m i q'
  · exact h
theorem say_n (l : L) (word : Int) : (say l word).n = l.n := by unfold say; split <;> rfl
theorem tk_n (l : L) (who at_ : Int) : (tk l who at_).n = l.n := by unfold tk; split <;> rfl
theorem tk_ws (l : L) (who at_ : Int) : (tk l who at_).ws = l.ws := by unfold tk; split <;> rfl
theorem tk_come {who at_ : Int} {m i : Nat} (h : l.come m i = true) : (tk l who at_).come m i = true := by
  unfold tk
  split
  · show (if m = who.toNat ∧ i = at_.toNat then true else l.come m i) = true
    rw [h]
    simp
  · exact h
theorem tk_came {m i : Nat} (hm : m < l.n) (hi : i < l.ws.length) : (tk l (m : Int) (i : Int)).come m i = true ∧ tkC l (m : Int) (i : Int) = 0 := by
  have e : tkC l (m : Int) (i : Int) = 0 := by
    unfold tkC inC
    rw [if_neg (by rw [if_neg (by omega)]; decide), if_neg (by omega)]
  refine ⟨?_, e⟩
  unfold tk
  rw [if_pos e]
  show (if m = ((m : Int)).toNat ∧ i = ((i : Int)).toNat then true else l.come m i) = true
  rw [if_pos ⟨by omega, by omega⟩]
theorem in_ok {m : Nat} (h : m < l.n) : inC l (m : Int) = 0 := if_neg (by omega)
theorem hd_in {m : Nat} (h : m < l.n) : hd l (m : Int) = l.ws.take (hn l m) := if_pos (in_ok h)
theorem lk_in {m : Nat} (h : m < l.n) : lk l (m : Int) = lkN l m l.ws.length := if_pos (in_ok h)
theorem hd_prefix {m : Nat} (h : m < l.n) : hd l (m : Int) <+: l.ws := by rw [hd_in h]; exact List.take_prefix _ _
theorem lkN_succ (l : L) (m k : Nat) : lkN l m (k + 1) = lkN l m k ++ (if l.come m k = true then [] else [(k : Int)]) := by
  unfold lkN
  rw [List.range_succ, List.filter_append, List.map_append]
  congr 1
  cases q : l.come m k <;> simp [q]
theorem lkN_len (l : L) (m k : Nat) : (lkN l m k).length ≤ k := by
  unfold lkN
  rw [List.length_map]
  exact Nat.le_trans (List.length_filter_le _ _) (by simp)
theorem lkN_mem {m k : Nat} {x : Int} : x ∈ lkN l m k ↔ ∃ i : Nat, x = (i : Int) ∧ i < k ∧ l.come m i = false := by
  unfold lkN
  rw [List.mem_map]
  constructor
  · rintro ⟨i, hi, rfl⟩
    rw [List.mem_filter, List.mem_range] at hi
    exact ⟨i, rfl, hi.1, by simpa using hi.2⟩
  · rintro ⟨i, rfl, h1, h2⟩
    exact ⟨i, by rw [List.mem_filter, List.mem_range]; exact ⟨h1, by rw [h2]; rfl⟩, rfl⟩
end Go.Proofs.YtgcdbcljneoifajDoor.Ldr
