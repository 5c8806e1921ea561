/-
  Plain facts: one that thinks again and again, till it stops.
-/
import Derived.Test.YtpjoaogiaacikajDoorLgsM
namespace Go.Proofs.YtpjoaogiaacikajDoor.Lgs
open Go.Proofs.YtpjoaogiaacikajDoor.His (Ev ev next chkC chk_ok chk_zero isOne says)
set_option linter.unusedVariables false

def think : Ev := (0, 1, 0)
def wrong : Ev := (5, 1, 0)
def word4 : Ev := (2, 2, 4)
theorem next_think (p : List Ev) : next p think = 0 := by simp [next, think, isOne]
theorem next_wrong (p : List Ev) : next p wrong = 1 := by simp [next, wrong, isOne]
theorem chk_rep : ∀ {m : Nat}, m ≤ 60 → chkC (List.replicate m think) = 0
  | 0, _ => by decide
  | m + 1, h => by
    rw [List.replicate_succ', chk_snoc (chk_rep (by omega)) (by simp; omega)]
    exact next_think _
theorem chk_think {m : Nat} (h : m < 60) : chkC (List.replicate m think ++ [think]) = 0 := by
  rw [chk_snoc (chk_rep (by omega)) (by simp; omega)]
  exact next_think _
theorem chk_wrong {m : Nat} (h : m < 60) : chkC (List.replicate m think ++ [wrong]) = 1 := by
  rw [chk_snoc (chk_rep (by omega)) (by simp; omega)]
  exact next_wrong _
theorem chk_word {m : Nat} (h : m < 60) : chkC (List.replicate m think ++ [word4]) = 0 := by
  rw [chk_snoc (chk_rep (by omega)) (by simp; omega)]
  have e : (List.replicate m think).any (says 4) = false := by
    rw [List.any_eq_false]
    intro x hx
    obtain rfl := (List.mem_replicate.1 hx).2
    decide
  simp [next, word4, isOne, e]
/-- how it stands behind so many steps -/
structure TS (after s : Nat) (l : L) : Prop where
  es : ∃ m, m ≤ 20 ∧ m ≤ s ∧ l.es = List.replicate m think
  go : s ≤ after → l.left = (after : Int) - s ∧ l.stop = false
  st : after < s → l.stop = true
variable {after s : Nat} {l : L}
theorem TS.start {after : Nat} : TS after 0 (failL new (after : Int)) := by
  refine ⟨⟨0, by omega, by omega, rfl⟩, fun _ => ⟨?_, rfl⟩, fun h => by omega⟩
  show (if (after : Int) < 0 then -1 else (after : Int)) = _
  rw [if_neg (by omega)]
  omega
theorem TS.wrongC (h : TS after s l) : doC l wrong = if after < s then 6 else 1 := by
  obtain ⟨m, h1, _, h2⟩ := h.es
  unfold doC
  by_cases q : after < s
  · rw [if_pos (h.st q), if_pos q]
  · rw [if_neg (by rw [(h.go (by omega)).2]; decide), if_neg q, h2, chk_wrong (by omega), if_pos (by decide)]
theorem TS.wrongL (h : TS after s l) (k : Nat) : doL l wrong k = l := by
  obtain ⟨m, h1, _, h2⟩ := h.es
  unfold doL
  rw [if_pos (.inr (by rw [h2, chk_wrong (by omega)]; decide))]
theorem TS.thinkC (h : TS after s l) : doC l think = if s < after then 0 else 6 := by
  obtain ⟨m, h1, _, h2⟩ := h.es
  unfold doC
  by_cases q : after < s
  · rw [if_pos (h.st q), if_neg (by omega)]
  · obtain ⟨g1, g2⟩ := h.go (by omega)
    rw [if_neg (by rw [g2]; decide), h2, chk_think (by omega), if_neg (by decide), g1]
    by_cases q2 : s < after
    · rw [if_neg (by omega), if_pos q2]
    · rw [if_pos (by omega), if_neg q2]
theorem TS.think (h : TS after s l) (k : Nat) (hs : s < 20) : TS after (s + 1) (doL l Lgs.think k) := by
  obtain ⟨m, h1, h3, h2⟩ := h.es
  unfold doL
  by_cases q : after < s
  · rw [if_pos (.inl (h.st q))]
    exact ⟨⟨m, h1, by omega, h2⟩, fun z => by omega, fun _ => h.st q⟩
  · obtain ⟨g1, g2⟩ := h.go (by omega)
    rw [if_neg (by rw [g2, h2, chk_think (by omega)]; simp)]
    split
    · rename_i g0
      exact ⟨⟨m, h1, by omega, h2⟩, fun z => by omega, fun _ => rfl⟩
    · rename_i g0
      refine ⟨⟨m + 1, by omega, by omega, ?_⟩, fun z => ⟨?_, g2⟩, fun z => by omega⟩
      · show l.es ++ [Lgs.think] = _
        rw [h2, List.replicate_succ']
      · show tick l.left = _
        unfold tick
        rw [g1, if_neg (by omega)]
        omega
theorem TS.syncC (h : TS after s l) : Lgs.syncC l = if s < after then 0 else 6 := by
  unfold Lgs.syncC
  by_cases q : after < s
  · rw [if_pos (.inl (h.st q)), if_neg (by omega)]
  · obtain ⟨g1, g2⟩ := h.go (by omega)
    by_cases q2 : s < after
    · rw [if_neg (by rw [g1, g2]; simp; omega), if_pos q2]
    · rw [if_pos (.inr (by rw [g1]; omega)), if_neg q2]
theorem TS.sync (h : TS after s l) : TS after (s + 1) (Lgs.syncL l) := by
  obtain ⟨m, h1, h3, h2⟩ := h.es
  unfold Lgs.syncL
  by_cases q : after < s
  · rw [if_pos (h.st q)]
    exact ⟨⟨m, h1, by omega, h2⟩, fun z => by omega, fun _ => h.st q⟩
  · obtain ⟨g1, g2⟩ := h.go (by omega)
    rw [if_neg (by rw [g2]; decide)]
    split
    · rename_i g0
      exact ⟨⟨m, h1, by omega, h2⟩, fun z => by omega, fun _ => rfl⟩
    · rename_i g0
      refine ⟨⟨m, h1, by omega, h2⟩, fun z => ⟨?_, g2⟩, fun z => by omega⟩
      show tick l.left = _
      unfold tick
      rw [g1, if_neg (by omega)]
      omega
theorem TS.stopped (h : TS after s l) (hs : after < s) (e : Ev) : doC l e = 6 ∧ Lgs.syncC l = 6 ∧ Lgs.syncL l = l ∧ ∀ k, doL l e k = l := by
  have q := h.st hs
  refine ⟨by unfold doC; rw [if_pos q], by unfold Lgs.syncC; rw [if_pos (.inl q)], by unfold Lgs.syncL; rw [if_pos q], fun k => by unfold doL; rw [if_pos (.inl q)]⟩
/-- behind the crash it goes on -/
theorem TS.crash (h : TS after s l) (keep : Int) : ∃ m, m ≤ 20 ∧ (crashL l keep).es = List.replicate m Lgs.think ∧ (crashL l keep).stop = false ∧ (crashL l keep).left = -1 := by
  obtain ⟨m, h1, _, h2⟩ := h.es
  refine ⟨min (whole l.rs (high l keep)) m, by omega, ?_, rfl, rfl⟩
  show l.es.take _ = _
  rw [h2, List.take_replicate]
theorem goes_on {l : L} {m : Nat} (hm : m ≤ 20) (he : l.es = List.replicate m think) (hs : l.stop = false) (hl : l.left = -1) (k : Nat) : doC l word4 = 0 ∧ (doL l word4 k).es = List.replicate m think ++ [word4] ∧ Lgs.syncC (doL l word4 k) = 0 ∧ (Lgs.syncL (doL l word4 k)).es = List.replicate m think ++ [word4] := by
  have c : chkC (l.es ++ [word4]) = 0 := by rw [he]; exact chk_word (by omega)
  have e : doL l word4 k = { l with es := l.es ++ [word4], rs := l.rs ++ [k], left := tick l.left } := by
    unfold doL
    rw [if_neg (by rw [hs, c]; simp), if_neg (by rw [hl]; omega)]
  refine ⟨by unfold doC; rw [if_neg (by rw [hs]; decide), c, if_neg (by decide), if_neg (by rw [hl]; omega)], by rw [e, ← he], ?_, ?_⟩
  · rw [e]
    unfold Lgs.syncC
    rw [if_neg]
    simp only [hs, hl]
    decide
  · rw [e]
    unfold Lgs.syncL
    simp only [hs, hl]
    rw [if_neg (by decide), if_neg (by decide), ← he]
end Go.Proofs.YtpjoaogiaacikajDoor.Lgs
