/-
  Contract of the document's own History: it tells the same event and the same fault as package history's Check.
-/
import Derived.Test.YtpjoaogiaacikakDoorHisC
import Derived.Deep.RegionWith
namespace Go.Proofs.YtpjoaogiaacikakDoor.His
open Go.RowKit

/-- who said a word last, among the first ones; none: -1 -/
def byOf (h : List Ev) (word : Int) : Nat → Int
  | 0 => -1
  | k + 1 => if says word (ev h k) = true then (ev h k).1 else byOf h word k
theorem byOf_step (h : List Ev) (word : Int) (k : Nat) : byOf h word (k + 1) = if says word (ev h k) = true then (ev h k).1 else byOf h word k := rfl
theorem any_take {h : List Ev} {p : Ev → Bool} {n : Nat} (hn : n ≤ h.length) : (h.take n).any p = true ↔ ∃ j, j < n ∧ p (ev h j) = true := by
  rw [List.any_eq_true]
  constructor
  · rintro ⟨x, hx, hp⟩
    obtain ⟨j, hj, rfl⟩ := List.getElem_of_mem hx
    have hj2 : j < n := by simp at hj; omega
    refine ⟨j, hj2, ?_⟩
    have e : ev h j = (h.take n)[j] := by
      simp [ev, List.getD, List.getElem_take, List.getElem?_eq_getElem (show j < h.length by omega)]
    rw [e]
    exact hp
  · rintro ⟨j, hj, hp⟩
    refine ⟨ev h j, ?_, hp⟩
    have e : (h.take n)[j]? = some (ev h j) := by
      rw [List.getElem?_take_of_lt hj]
      simp [ev, List.getD, List.getElem?_eq_getElem (show j < h.length by omega)]
    exact List.mem_of_getElem? e
theorem byOf_none {h : List Ev} {word : Int} {n : Nat} (hb : ∀ j, j < n → says word (ev h j) = false) : byOf h word n = -1 := by
  induction n with
  | zero => rfl
  | succ n ih =>
    rw [byOf_step, if_neg (by rw [hb n (Nat.lt_succ_self n)]; decide)]
    exact ih fun j hj => hb j (Nat.lt_succ_of_lt hj)
theorem byOf_some {h : List Ev} {word : Int} {n : Nat} (hs : ∃ j, j < n ∧ says word (ev h j) = true) : ∃ j, j < n ∧ says word (ev h j) = true ∧ byOf h word n = (ev h j).1 := by
  induction n with
  | zero => obtain ⟨j, hj, _⟩ := hs; omega
  | succ n ih =>
    rw [byOf_step]
    by_cases e : says word (ev h n) = true
    · rw [if_pos e]
      exact ⟨n, Nat.lt_succ_self n, e, rfl⟩
    · rw [if_neg e]
      obtain ⟨j, hj, hp⟩ := hs
      have hjn : j < n := by
        rcases Nat.lt_succ_iff_lt_or_eq.1 hj with a | rfl
        · exact a
        · exact absurd hp e
      obtain ⟨l, a, b, c⟩ := ih ⟨j, hjn, hp⟩
      exact ⟨l, Nat.lt_succ_of_lt a, b, c⟩
theorem says_once {h : List Ev} {word : Int} {N j l : Nat} (hl : N ≤ h.length) (hg : Good h N) (hj : j < N) (hln : l < N) (h1 : says word (ev h j) = true) (h2 : says word (ev h l) = true) : j = l := by
  have key : ∀ j l, j < l → l < N → says word (ev h j) = true → says word (ev h l) = true → False := by
    intro j l hjl hl' h1 h2
    have h7 := hg l hl'
    have g1 := good_one hg hl'
    simp only [says, Bool.and_eq_true, decide_eq_true_eq] at h2
    unfold next at h7
    rw [if_neg (by rw [g1]; decide), if_pos] at h7
    · omega
    · refine ⟨h2.1, (any_take (by omega)).2 ⟨j, hjl, ?_⟩⟩
      rw [h2.2]
      exact h1
  rcases Nat.lt_trichotomy j l with a | a | a
  · exact (key j l a hln h1 h2).elim
  · exact a
  · exact (key l j a hj h2 h1).elim
/-- what the last one that said a word tells -/
theorem by_said {h : List Ev} {word : Int} {n : Nat} (hl : n ≤ h.length) (hg : Good h n) : (h.take n).any (says word) = decide (0 ≤ byOf h word n) := by
  cases ha : (h.take n).any (says word) with
  | true =>
    obtain ⟨j, hj, _, e⟩ := byOf_some ((any_take hl).1 ha)
    have := (isOne_who (good_one hg hj)).1
    rw [e, decide_eq_true this]
  | false =>
    rw [byOf_none, decide_eq_false (by omega)]
    intro j hj
    cases hs : says word (ev h j) with
    | false => rfl
    | true => rw [(any_take hl).2 ⟨j, hj, hs⟩] at ha; cases ha
theorem by_who {h : List Ev} {word who : Int} {n : Nat} (hl : n ≤ h.length) (hg : Good h n) (hw : 0 ≤ who) : (h.take n).any (fun y => y == (who, 2, word)) = decide (byOf h word n = who) := by
  rw [Bool.eq_iff_iff, any_take hl, decide_eq_true_eq]
  constructor
  · rintro ⟨j, hj, hp⟩
    have e : ev h j = (who, 2, word) := by simpa using hp
    have hs : says word (ev h j) = true := by rw [e]; simp [says]
    obtain ⟨l, a, b, c⟩ := byOf_some ⟨j, hj, hs⟩
    rw [c, ← says_once hl hg hj a hs b, e]
  · intro e
    have hs : ∃ j, j < n ∧ says word (ev h j) = true := by
      refine (any_take hl).1 ?_
      rw [by_said hl hg, e, decide_eq_true hw]
    obtain ⟨l, a, b, c⟩ := byOf_some hs
    refine ⟨l, a, ?_⟩
    simp only [says, Bool.and_eq_true, decide_eq_true_eq] at b
    have : ev h l = (who, 2, word) := by
      rw [← b.1, ← b.2, ← e, c]
    simp [this]
end Go.Proofs.YtpjoaogiaacikakDoor.His
