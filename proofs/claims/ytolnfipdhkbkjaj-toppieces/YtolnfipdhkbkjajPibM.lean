/-
  Plain facts: pieces of a text that come in whatever order.
-/
import Derived.Test.YtolnfipdhkbkjajPieM
namespace Go.Proofs.Ytolnfipdhkbkjaj.Pie
set_option linter.unusedVariables false

/-- how many of the first have come -/
def cnt (is : Nat → Bool) (n : Nat) : Nat := ((List.range n).filter is).length
theorem cnt_succ (is : Nat → Bool) (n : Nat) : cnt is (n + 1) = cnt is n + (if is n = true then 1 else 0) := by
  unfold cnt
  rw [List.range_succ, List.filter_append, List.length_append]
  congr 1
  cases h : is n <;> simp [h]
theorem cnt_le (is : Nat → Bool) (n : Nat) : cnt is n ≤ n := by
  unfold cnt
  exact Nat.le_trans (List.length_filter_le _ _) (by simp)
def put (is : Nat → Bool) (k : Nat) : Nat → Bool := fun i => if i = k then true else is i
theorem cnt_put (is : Nat → Bool) (k : Nat) : ∀ n, cnt (put is k) n = cnt is n + (if k < n ∧ is k = false then 1 else 0) := by
  intro n
  induction n with
  | zero => simp [cnt]
  | succ n ih =>
    have e0 : put is k n = if n = k then true else is n := rfl
    rw [cnt_succ, cnt_succ, ih, e0]
    by_cases e : n = k
    · subst e
      cases h : is n
      · simp
      · simp
    · have q1 : (k < n + 1 ∧ is k = false) ↔ (k < n ∧ is k = false) := ⟨fun x => ⟨by omega, x.2⟩, fun x => ⟨by omega, x.2⟩⟩
      rw [if_neg e]
      simp only [q1]
      omega
theorem cnt_all {is : Nat → Bool} {n : Nat} (h : cnt is n = n) : ∀ i, i < n → is i = true := by
  induction n with
  | zero => intro i hi; omega
  | succ n ih =>
    rw [cnt_succ] at h
    have := cnt_le is n
    intro i hi
    have hn : is n = true := by
      cases q : is n
      · rw [q] at h; simp at h; omega
      · rfl
    rw [hn] at h
    by_cases e : i = n
    · rw [e]; exact hn
    · exact ih (by simp at h; omega) i (by omega)
theorem cnt_none {is : Nat → Bool} {n : Nat} (h : cnt is n = 0) : ∀ i, i < n → is i = false := by
  induction n with
  | zero => intro i hi; omega
  | succ n ih =>
    rw [cnt_succ] at h
    intro i hi
    have hn : is n = false := by
      cases q : is n
      · rfl
      · rw [q] at h; simp at h
    by_cases e : i = n
    · rw [e]; exact hn
    · exact ih (by omega) i (by omega)
/-- pieces of a text, those that came -/
structure BK (t : ByteArray) (size : Nat) (j : J) (is : Nat → Bool) : Prop where
  T : ∀ i, j.T i = if is i = true then some (cut t size i) else none
  lt : ∀ i, is i = true → i < many t.size size
  of : j.of = if cnt is (many t.size size) = 0 then 0 else many t.size size
theorem BK.start (t : ByteArray) (size : Nat) : BK t size start (fun _ => false) := by
  refine ⟨fun i => rfl, fun i h => (by cases h), ?_⟩
  have e : cnt (fun _ => false) (many t.size size) = 0 := by simp [cnt]
  rw [if_pos e]
  rfl
variable {t : ByteArray} {size : Nat} {j : J} {is : Nat → Bool}
theorem BK.takeC (g : BK t size j is) (h1 : 1 ≤ size) (h12 : size ≤ 12) (h60 : t.size ≤ 60) {k : Nat} (hk : k < many t.size size) : Pie.takeC j ((k : Int), (many t.size size : Int), cut t size k) = 0 := by
  have m60 := many_le h1 h60
  have hc := cut_le t size k
  have hb : pcBad ((k : Int), (many t.size size : Int), cut t size k) = false := by
    simp [pcBad]
    omega
  unfold Pie.takeC
  rw [if_neg (by rw [hb]; decide), if_neg, if_neg]
  · unfold other
    simp only [Int.toNat_natCast]
    rw [g.T k]
    cases q : is k <;> simp
  · rintro ⟨a, b⟩
    rw [g.of] at a b
    split at b
    · rename_i e
      rw [if_pos e] at a
      exact a rfl
    · exact b rfl
theorem BK.takeN (g : BK t size j is) (h1 : 1 ≤ size) (h12 : size ≤ 12) (h60 : t.size ≤ 60) {k : Nat} (hk : k < many t.size size) : Pie.takeN j ((k : Int), (many t.size size : Int), cut t size k) = !is k := by
  unfold Pie.takeN
  rw [g.takeC h1 h12 h60 hk]
  simp only [Int.toNat_natCast]
  rw [g.T k]
  cases q : is k <;> simp
theorem BK.take (g : BK t size j is) (h1 : 1 ≤ size) (h12 : size ≤ 12) (h60 : t.size ≤ 60) {k : Nat} (hk : k < many t.size size) : BK t size (takeJ j ((k : Int), (many t.size size : Int), cut t size k)) (put is k) := by
  unfold takeJ
  rw [if_pos (g.takeC h1 h12 h60 hk)]
  refine ⟨fun i => ?_, fun i h => ?_, ?_⟩
  · show (if i = ((k : Nat) : Int).toNat then some (cut t size k) else j.T i) = if put is k i = true then some (cut t size i) else none
    rw [Int.toNat_natCast]
    unfold put
    by_cases e : i = k
    · rw [if_pos e, if_pos e, if_pos rfl, e]
    · rw [if_neg e, if_neg e]
      exact g.T i
  · unfold put at h
    split at h
    · rename_i e; rw [e]; exact hk
    · exact g.lt i h
  · show ((many t.size size : Nat) : Int).toNat = _
    rw [Int.toNat_natCast, if_neg]
    intro q
    have := cnt_none q k hk
    simp [put] at this
theorem BK.lackLen (g : BK t size j is) (h : cnt is (many t.size size) ≠ 0) : (lackN j j.of).length = many t.size size - cnt is (many t.size size) := by
  have e : j.of = many t.size size := by rw [g.of, if_neg h]
  rw [e]
  have key : ∀ n, (lackN j n).length + cnt is n = n := by
    intro n
    induction n with
    | zero => simp [lackN, cnt]
    | succ n ih =>
      rw [lackN_succ, cnt_succ, List.length_append, g.T n]
      cases q : is n <;> simp <;> omega
  have := key (many t.size size)
  omega
theorem BK.part (g : BK t size j is) (h : cnt is (many t.size size) < many t.size size) : textC j = 5 ∧ textS j = .empty := by
  have hc : textC j = 5 := by
    unfold textC
    rw [if_pos]
    by_cases q : cnt is (many t.size size) = 0
    · left; rw [g.of, if_pos q]
    · right
      intro z
      have := g.lackLen q
      rw [z] at this
      simp at this
      omega
  exact ⟨hc, by unfold textS; rw [hc, if_neg (by decide)]⟩
theorem BK.whole (g : BK t size j is) (h1 : 1 ≤ size) (h : cnt is (many t.size size) = many t.size size) : textC j = 0 ∧ textS j = t ∧ lacks j = [] := by
  have m1 := (many_spec (len := t.size) h1).1
  have hn : cnt is (many t.size size) ≠ 0 := by omega
  have hl := g.lackLen hn
  have hl0 : lackN j j.of = [] := List.eq_nil_of_length_eq_zero (by omega)
  have e : j.of = many t.size size := by rw [g.of, if_neg hn]
  have hc : textC j = 0 := by
    unfold textC
    rw [if_neg]
    rintro (a | a)
    · omega
    · exact a hl0
  refine ⟨hc, ?_, by unfold lacks; rw [hl0]; rfl⟩
  unfold textS
  rw [hc, if_pos rfl, e]
  exact cuts_whole h1 fun i hi => by rw [g.T i, if_pos (cnt_all h i hi)]
end Go.Proofs.Ytolnfipdhkbkjaj.Pie
