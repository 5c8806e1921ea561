/-
  Plain facts: places that come the wrong way round; when what lacks has come all is heard.
-/
import Derived.Test.YtcccheeeagphpagDoorLdrM
namespace Go.Proofs.YtcccheeeagphpagDoor.Ldr
set_option linter.unusedVariables false
variable {l : L}

/-! from the last to the first -/
def nums (k : Nat) : List Int := (List.range k).map fun i : Nat => (i : Int) + 1
theorem nums_succ (k : Nat) : nums (k + 1) = nums k ++ [(k : Int) + 1] := by
  unfold nums
  rw [List.range_succ, List.map_append]
  rfl
theorem nums_len (k : Nat) : (nums k).length = k := by simp [nums]
theorem nums_mem {k : Nat} {x : Int} : x ∈ nums k ↔ 1 ≤ x ∧ x ≤ (k : Int) := by
  unfold nums
  rw [List.mem_map]
  constructor
  · rintro ⟨i, hi, rfl⟩
    have := List.mem_range.1 hi
    omega
  · intro h
    exact ⟨(x - 1).toNat, List.mem_range.2 (by omega), by omega⟩
/-- of words from 1 on, as many as were said; those from a place on have come to the first member -/
structure LB (n k a : Nat) (l : L) : Prop where
  inv : Inv l
  num : l.n = n
  ws : l.ws = nums k
  come : ∀ m i, l.come m i = true ↔ m = 0 ∧ a ≤ i ∧ i < k
variable {n k a : Nat}
theorem LB.start (h2 : 2 ≤ n) (h5 : n ≤ 5) : LB n 0 0 (start n) := ⟨Inv.start h2 h5, rfl, rfl, fun m i => by
  show false = true ↔ _
  simp⟩
theorem LB.say (h : LB n k k l) (hk : k < 30) : sayC l ((k : Int) + 1) = 0 ∧ sayP l ((k : Int) + 1) = ((k : Int), (k : Int) + 1) ∧ LB n (k + 1) (k + 1) (say l ((k : Int) + 1)) := by
  have c : sayC l ((k : Int) + 1) = 0 := by
    unfold sayC
    rw [if_neg (by omega), if_neg]
    rw [h.ws, nums_mem]
    omega
  refine ⟨c, ?_, h.inv.say _, by rw [say_n]; exact h.num, ?_, fun m i => ?_⟩
  · unfold sayP
    rw [if_pos c, h.ws, nums_len]
  · unfold Ldr.say
    rw [if_pos c]
    show l.ws ++ _ = _
    rw [h.ws, nums_succ]
  · have e : (Ldr.say l ((k : Int) + 1)).come m i = l.come m i := by
      unfold Ldr.say
      rw [if_pos c]
    rw [e, h.come]
    omega
theorem LB.none (h : LB n k a l) (ha : 0 < a) (m : Nat) : hn l m = 0 := cons_none (by
  rw [Bool.eq_false_iff]
  intro q
  have := (h.come m 0).1 q
  omega)
theorem LB.tk (h : LB n k (a + 1) l) (ha : a < k) (h0 : 0 < n) : tkC l 0 (a : Int) = 0 ∧ LB n k a (tk l 0 (a : Int)) := by
  obtain ⟨_, c⟩ := tk_came (l := l) (m := 0) (i := a) (by rw [h.num]; exact h0) (by rw [h.ws, nums_len]; exact ha)
  have c' : tkC l 0 (a : Int) = 0 := c
  refine ⟨c', h.inv.tk _ _, by rw [tk_n]; exact h.num, by rw [tk_ws]; exact h.ws, fun m i => ?_⟩
  have e : (Ldr.tk l 0 (a : Int)).come m i = if m = (0 : Int).toNat ∧ i = ((a : Int)).toNat then true else l.come m i := by
    unfold Ldr.tk
    rw [if_pos c']
    rfl
  rw [e]
  by_cases q : m = (0 : Int).toNat ∧ i = ((a : Int)).toNat
  · rw [if_pos q]
    simp at q ⊢
    omega
  · rw [if_neg q, h.come]
    simp at q
    omega
theorem LB.quiet (h : LB n k (a + 1) l) (ha : a < k) (h0 : 0 < n) (ha0 : 0 < a) : tkO l 0 (a : Int) = [] := by
  obtain ⟨c, h'⟩ := h.tk ha h0
  unfold tkO
  rw [if_pos c]
  have e : hn (Ldr.tk l 0 (a : Int)) (0 : Int).toNat = 0 := h'.none ha0 0
  rw [e]
  simp
theorem LB.all (h : LB n k 1 l) (hk : 0 < k) (h0 : 0 < n) : (tkO l 0 0).length = k := by
  obtain ⟨c, h'⟩ := h.tk (a := 0) hk h0
  have c' : tkC l 0 0 = 0 := c
  unfold tkO
  rw [if_pos c']
  have e1 : hn (Ldr.tk l 0 0) (0 : Int).toNat = k := by
    show cons ((Ldr.tk l 0 0).come 0) (Ldr.tk l 0 0).ws.length = k
    rw [tk_ws, h.ws, nums_len]
    exact cons_all fun i hi => (h'.come 0 i).2 ⟨rfl, Nat.zero_le _, hi⟩
  have e2 : hn l (0 : Int).toNat = 0 := h.none (by omega) 0
  rw [e1, e2, h.ws]
  simp [nums_len]
theorem LB.quiet1 (h : LB n k 0 l) (h1 : 1 < n) : hd l 1 = [] := by
  have e : hd l ((1 : Nat) : Int) = l.ws.take (hn l 1) := hd_in (by rw [h.num]; exact h1)
  have e0 : hn l 1 = 0 := cons_none (by
    rw [Bool.eq_false_iff]
    intro q
    have := (h.come 1 0).1 q
    omega)
  have e' : hd l 1 = l.ws.take (hn l 1) := e
  rw [e', e0]
  simp
/-! when what lacks has come -/
theorem all_come {l0 : L} {m : Nat} (hm : m < l.n) (hw : l.ws = l0.ws) (h1 : ∀ i, l0.come m i = true → l.come m i = true) (h2 : ∀ x ∈ lkN l0 m l0.ws.length, l.come m x.toNat = true) : hd l (m : Int) = l.ws := by
  rw [hd_in hm]
  have e : hn l m = l.ws.length := cons_all fun i hi => by
    cases q : l0.come m i
    · have := h2 (i : Int) (lkN_mem.2 ⟨i, rfl, by rw [← hw]; exact hi, q⟩)
      simpa using this
    · exact h1 i q
  rw [e, List.take_length]
theorem one_fact : sayC (start 2) 8 = 0 ∧ sayP (start 2) 8 = (0, 8) ∧ sayC (say (start 2) 8) 9 = 0 ∧ sayP (say (start 2) 8) 9 = (1, 9) ∧ tkC (say (say (start 2) 8) 9) 1 1 = 0 ∧ tkO (say (say (start 2) 8) 9) 1 1 = [] ∧ tkC (tk (say (say (start 2) 8) 9) 1 1) 1 0 = 0 ∧ tkO (tk (say (say (start 2) 8) 9) 1 1) 1 0 = [8, 9] := by decide
end Go.Proofs.YtcccheeeagphpagDoor.Ldr
