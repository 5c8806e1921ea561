/-
  Plain facts: a word that was not said, and one that was.
-/
import Derived.Test.YtpjoaogiaacikakDoorLgsM
namespace Go.Proofs.YtpjoaogiaacikakDoor.Lgs
open Go.Proofs.YtpjoaogiaacikakDoor.His (Ev ev next chkC chk_ok chk_zero isOne says)
set_option linter.unusedVariables false

theorem chk_first (e : Ev) : chkC ([] ++ [e]) = next [] e := chk_snoc (by decide) (by decide)
theorem hear_bad {who w : Int} (h : who < 0 ∨ 4 < who ∨ w < 1 ∨ 30 < w) : doC new (who, 3, w) = 1 ∧ ∀ k, doL new (who, 3, w) k = new := by
  have hi : isOne (who, 3, w) = false := by
    cases q : isOne (who, 3, w)
    · rfl
    · simp [isOne] at q
      omega
  have hn : next [] (who, 3, w) = 1 := by
    unfold next
    rw [if_pos hi]
  have hc : chkC (new.es ++ [(who, 3, w)]) = 1 := (chk_first _).trans hn
  exact ⟨by unfold doC; rw [if_neg (by simp [new]), hc, if_pos (by decide)], fun k => by unfold doL; rw [if_pos (.inr (by rw [hc]; decide))]⟩
variable {who w : Int}
theorem one_of (h0 : 0 ≤ who) (h4 : who ≤ 4) (h1 : 1 ≤ w) (h30 : w ≤ 30) {c : Int} (hc : c = 2 ∨ c = 3) : isOne (who, c, w) = true := by
  rcases hc with rfl | rfl <;> simp [isOne] <;> omega
theorem hear_none (h0 : 0 ≤ who) (h4 : who ≤ 4) (h1 : 1 ≤ w) (h30 : w ≤ 30) : doC new (who, 3, w) = 5 ∧ ∀ k, doL new (who, 3, w) k = new := by
  have hn : next [] (who, 3, w) = 5 := by
    unfold next
    rw [if_neg (by rw [one_of h0 h4 h1 h30 (.inr rfl)]; decide)]
    simp
  have hc : chkC (new.es ++ [(who, 3, w)]) = 5 := (chk_first _).trans hn
  exact ⟨by unfold doC; rw [if_neg (by simp [new]), hc, if_pos (by decide)], fun k => by unfold doL; rw [if_pos (.inr (by rw [hc]; decide))]⟩
theorem say_ok (h0 : 0 ≤ who) (h4 : who ≤ 4) (h1 : 1 ≤ w) (h30 : w ≤ 30) : doC new (who, 2, w) = 0 ∧ ∀ k, doL new (who, 2, w) k = ⟨[(who, 2, w)], [k], 0, 0, -1, false⟩ := by
  have hn : next [] (who, 2, w) = 0 := by
    unfold next
    rw [if_neg (by rw [one_of h0 h4 h1 h30 (.inl rfl)]; decide)]
    simp
  have hc : chkC (new.es ++ [(who, 2, w)]) = 0 := (chk_first _).trans hn
  exact ⟨by unfold doC; rw [if_neg (by simp [new]), hc, if_neg (by decide), if_neg (by simp [new])], fun k => by unfold doL; rw [if_neg (by rw [hc]; simp [new]), if_neg (by simp [new])]; rfl⟩
theorem say_twice {v : Int} (h0 : 0 ≤ who) (h4 : who ≤ 4) (h1 : 1 ≤ w) (h30 : w ≤ 30) (hv : 0 ≤ v ∧ v ≤ 4) (k : Nat) : doC ⟨[(who, 2, w)], [k], 0, 0, -1, false⟩ (v, 2, w) = 7 ∧ ∀ m, doL ⟨[(who, 2, w)], [k], 0, 0, -1, false⟩ (v, 2, w) m = ⟨[(who, 2, w)], [k], 0, 0, -1, false⟩ := by
  have hg : chkC [(who, 2, w)] = 0 := by
    have hn : next [] (who, 2, w) = 0 := by
      unfold next
      rw [if_neg (by rw [one_of h0 h4 h1 h30 (.inl rfl)]; decide)]
      simp
    exact (chk_first _).trans hn
  have hn : next [(who, 2, w)] (v, 2, w) = 7 := by
    unfold next
    rw [if_neg (by rw [one_of hv.1 hv.2 h1 h30 (.inl rfl)]; decide), if_pos]
    exact ⟨rfl, by simp [says]⟩
  have hc : chkC ([(who, 2, w)] ++ [(v, 2, w)]) = 7 := (chk_snoc hg (by simp)).trans hn
  exact ⟨by unfold doC; rw [if_neg (by simp), hc, if_pos (by decide)], fun m => by unfold doL; rw [if_pos (.inr (by rw [hc]; decide))]⟩
end Go.Proofs.YtpjoaogiaacikakDoor.Lgs
