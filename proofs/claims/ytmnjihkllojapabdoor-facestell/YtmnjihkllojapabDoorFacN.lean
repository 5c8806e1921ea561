/-
  Plain facts on what members hear, held against the document's own way of telling: event by event who had heard what.
-/
import Derived.Test.YtmnjihkllojapabDoorFacM
namespace Go.Proofs.YtmnjihkllojapabDoor.His

/-- had one, ahead of an event of its own, a word? -/
def hadB (h : List Ev) (i j : Nat) (n : Nat) : Bool := (List.range n).any fun m => decide ((ev h m).1 = (ev h j).1) && decide ((ev h m).2.2 = (ev h i).2.2) && decide ((ev h m).2.1 ≠ 1)
/-- a word was heard, and one that was ahead of it was not -/
def missB (h : List Ev) (i k j : Nat) : Bool := decide (k < j) && decide ((ev h j).2.1 = 3) && decide ((ev h j).2.2 = (ev h k).2.2) && !(hadB h i j j)
def pairB (h : List Ev) (i k : Nat) : Bool := decide (i < k) && decide ((ev h i).2.1 = 2) && decide ((ev h k).2.1 = 2) && bef h i k
/-- no such one among so many -/
def cJ (h : List Ev) (i k n : Nat) : Bool := (List.range n).all fun j => !(missB h i k j)
def fJ (h : List Ev) (i k n : Nat) : Bool := !(smB h i k) || cJ h i k n
def cK (h : List Ev) (N i n : Nat) : Bool := (List.range n).all fun k => !(pairB h i k) || cJ h i k N
def fK (h : List Ev) (N i n : Nat) : Bool := (List.range n).all fun k => !(pairB h i k) || fJ h i k N
def cI (h : List Ev) (N n : Nat) : Bool := (List.range n).all fun i => cK h N i N
def fI (h : List Ev) (N n : Nat) : Bool := (List.range n).all fun i => fK h N i N
theorem all_step (p : Nat → Bool) (n : Nat) : (List.range (n + 1)).all p = ((List.range n).all p && p n) := by
  rw [List.range_succ, List.all_append]
  simp
theorem any_step (p : Nat → Bool) (n : Nat) : (List.range (n + 1)).any p = ((List.range n).any p || p n) := by
  rw [List.range_succ, List.any_append]
  simp

theorem said_once {h : List Ev} {N i k : Nat} (hg : Good h N) (hN : N ≤ h.length) (hik : i < k) (hk : k < N) (h1 : (ev h i).2.1 = 2) (h2 : (ev h k).2.1 = 2) : (ev h i).2.2 ≠ (ev h k).2.2 := by
  intro e
  have hnx := hg k hk
  unfold next at hnx
  rw [if_neg (by rw [good_one hg hk]; decide), if_pos] at hnx
  · omega
  · exact ⟨h2, List.any_eq_true.2 ⟨_, mem_take_ev (by omega) hik, by simp [says, h1, e]⟩⟩
theorem hear_other {h : List Ev} {N k j : Nat} (hg : Good h N) (hN : N ≤ h.length) (hkj : k < j) (hj : j < N) (h2 : (ev h k).2.1 = 2) (h3 : (ev h j).2.1 = 3) (hw : (ev h j).2.2 = (ev h k).2.2) : (ev h j).1 ≠ (ev h k).1 := by
  intro e
  have a : has (ev h k).1 (ev h k) = true := by simp [has, h2]
  have b : has (ev h k).1 (ev h j) = true := by simp [has, h3, e]
  exact once hg hN hkj hj a b hw.symm
theorem hear_later {h : List Ev} {k j : Nat} (hg : Good h h.length) (hk : k < h.length) (hj : j < h.length) (h2 : (ev h k).2.1 = 2) (hne : (ev h j).2.1 ≠ 1) (hwho : (ev h j).1 ≠ (ev h k).1) (hw : (ev h j).2.2 = (ev h k).2.2) : k < j ∧ (ev h j).2.1 = 3 := by
  have h3 : (ev h j).2.1 = 3 := by
    rcases isOne_what (good_one hg hj) with ⟨a, _⟩ | ⟨a | a, _⟩
    · exact absurd a hne
    · exfalso
      rcases Nat.lt_trichotomy j k with b | b | b
      · exact said_once hg (Nat.le_refl _) b hk a h2 hw
      · subst b; exact hwho rfl
      · exact said_once hg (Nat.le_refl _) b hj h2 a hw.symm
    · exact a
  refine ⟨?_, h3⟩
  have hs := sayAt_lt hg hj h3
  have hsy := hs.2.2
  simp only [says, Bool.and_eq_true, decide_eq_true_eq] at hsy
  rcases Nat.lt_trichotomy (sayAt h (ev h j).2.2) k with b | b | b
  · exact absurd (hsy.2.trans hw) (said_once hg (Nat.le_refl _) b hk hsy.1 h2)
  · omega
  · omega
/-- what is kept of two words -/
theorem hv5_cJ {h : List Ev} (hg : Good h h.length) {i k : Nat} (hk : k < h.length) (h2 : (ev h k).2.1 = 2) : hv5 h (ev h i) (ev h k) = cJ h i k h.length := by
  rw [Bool.eq_iff_iff, hv5_iff hg]
  unfold cJ
  simp only [List.all_eq_true, List.mem_range, Bool.not_eq_true', missB]
  constructor
  · intro ha j hj
    by_cases hkj : k < j
    · by_cases h3 : (ev h j).2.1 = 3
      · by_cases hw : (ev h j).2.2 = (ev h k).2.2
        · obtain ⟨m, hm, hh, he⟩ := ha j hj (by omega) (hear_other hg (Nat.le_refl _) hkj hj h2 h3 hw) hw
          have : hadB h i j j = true := by
            unfold hadB
            rw [List.any_eq_true]
            refine ⟨m, List.mem_range.2 hm, ?_⟩
            simp only [has, Bool.and_eq_true, decide_eq_true_eq] at hh
            simp [hh.1, hh.2, he]
          simp [this]
        · simp [hw]
      · simp [h3]
    · simp [hkj]
  · intro ha j hj hne hwho hw
    obtain ⟨hkj, h3⟩ := hear_later hg hk hj h2 hne hwho hw
    have := ha j hj
    simp only [hkj, h3, hw, decide_true, Bool.true_and, Bool.not_eq_false'] at this
    unfold hadB at this
    rw [List.any_eq_true] at this
    obtain ⟨m, hm, hh⟩ := this
    simp only [Bool.and_eq_true, decide_eq_true_eq] at hh
    refine ⟨m, List.mem_range.1 hm, ?_, hh.1.2⟩
    simp only [has, Bool.and_eq_true, decide_eq_true_eq]
    exact ⟨hh.1.1, hh.2⟩
theorem caus_eq {h : List Ev} (hg : Good h h.length) : causB h = cI h h.length h.length := by
  rw [Bool.eq_iff_iff]
  unfold causB
  rw [keep_iff]
  unfold cI cK
  simp only [List.all_eq_true, List.mem_range, Bool.or_eq_true, Bool.not_eq_true', pairB]
  constructor
  · intro ha i hi k hk
    by_cases hik : i < k
    · by_cases h1 : (ev h i).2.1 = 2
      · by_cases h2 : (ev h k).2.1 = 2
        · cases hb : bef h i k with
          | true => right; rw [← hv5_cJ hg hk h2]; exact ha i k hik hk h1 h2 hb
          | false => left; simp
        · left; simp [h2]
      · left; simp [h1]
    · left; simp [hik]
  · intro ha i k hik hk h1 h2 hb
    rw [hv5_cJ hg hk h2]
    rcases ha i (by omega) k hk with a | a
    · simp [hik, h1, h2, hb] at a
    · exact a
theorem fifo_eq {h : List Ev} (hg : Good h h.length) : fifoB h = fI h h.length h.length := by
  rw [Bool.eq_iff_iff]
  unfold fifoB
  rw [keep_iff]
  unfold fI fK fJ
  simp only [List.all_eq_true, List.mem_range, Bool.or_eq_true, Bool.not_eq_true', pairB]
  constructor
  · intro ha i hi k hk
    by_cases hik : i < k
    · by_cases h1 : (ev h i).2.1 = 2
      · by_cases h2 : (ev h k).2.1 = 2
        · cases hb : smB h i k with
          | true => right; right; rw [← hv5_cJ hg hk h2]; exact ha i k hik hk h1 h2 hb
          | false => right; left; rfl
        · left; simp [h2]
      · left; simp [h1]
    · left; simp [hik]
  · intro ha i k hik hk h1 h2 hb
    rw [hv5_cJ hg hk h2]
    rcases ha i (by omega) k hk with a | a | a
    · simp [hik, h1, h2, sm_bef hg hik hk hb] at a
    · rw [hb] at a; exact absurd a (by decide)
    · exact a

/-! in unlike orders -/
def unB (x y : List Int) (i k : Nat) : Bool := decide (i < k) && decide (x.getD i 0 ∈ y) && decide (x.getD k 0 ∈ y) && decide (ix y (x.getD k 0) < ix y (x.getD i 0))
def tK (x y : List Int) (i n : Nat) : Bool := (List.range n).all fun k => !(unB x y i k)
def tI (x y : List Int) (n : Nat) : Bool := (List.range n).all fun i => tK x y i x.length
def tC (h : List Ev) (a n : Nat) : Bool := (List.range n).all fun c => tI (hrd h a) (hrd h c) (hrd h a).length
def tA (h : List Ev) (n : Nat) : Bool := (List.range n).all fun a => tC h a a
theorem ag1_tI {x y : List Int} (hx : x.Nodup) (hy : y.Nodup) : ag1 x y = tI x y x.length := by
  rw [Bool.eq_iff_iff, ag1_iff hx hy, List.pairwise_iff_getElem]
  unfold tI tK
  simp only [List.all_eq_true, List.mem_range, Bool.not_eq_true', unB]
  have e : ∀ j (hj : j < x.length), x.getD j 0 = x[j] := by
    intro j hj
    simp [List.getD, hj]
  constructor
  · intro ha i hi k hk
    rw [e i hi, e k hk]
    by_cases hik : i < k
    · by_cases h1 : x[i] ∈ y
      · by_cases h2 : x[k] ∈ y
        · have := ha i k hi hk hik h1 h2
          simp [h1, h2, hik, this]
        · simp [h2]
      · simp [h1]
    · simp [hik]
  · intro ha i k hi hk hik h1 h2
    have := ha i hi k hk
    rw [e i hi, e k hk] at this
    simp [h1, h2, hik] at this
    exact this
theorem tot_eq {h : List Ev} (hg : Good h h.length) : totB h = tA h 5 := by
  unfold totB tA tC
  congr 1
  funext m
  congr 1
  funext o
  exact ag1_tI (hrd_nd hg _) (hrd_nd hg _)
end Go.Proofs.YtmnjihkllojapabDoor.His
