/-
  The document's own group: Settle, whatever comes of it.
-/
import Derived.Test.YtcolcjnmdejfeafDoorAgrU
namespace Go.Proofs.YtcolcjnmdejfeafDoor.Agr
open Go.RowKit
open Go.Proofs.YtcolcjnmdejfeafDoor.Sep (KpL NewL)
set_option linter.unusedVariables false
variable {base P : Nat} {g : G} {hs : Nat → Value}

theorem refSet (who word : Int) (w : World) (h : RA w base P g hs) (hi : Inv0 g) (hM : ∀ i, g.most i ≤ 100000) (hbw : base ≤ w.heap.size) : Calls Tryd.prog 23 #[.pointer (some ⟨P, 0, none⟩), .int .i64 who, .int .i64 word] w fun x w' => ∃ vo hs', x = .returned (.tuple #[vo, .int .i64 (setC g who word)]) ∧ w'.ownsRow w.heap.size 3 1 vo (setO g who word).length (vals (setO g who word)) ∧ RA w' base P (set g who word) hs' ∧ Below base w w' ∧ KpL w w' (rfp P hs) ∧ NewL w (rfp P hs) (rfp P hs') ∧ ∀ b, vo.ownBlock = some b → b ∉ rfp P hs' := by
  have stay : ∀ (c : Int) (w' : World), setC g who word = c → c ≠ 0 → Below w.heap.size w w' → ∃ vo hs', Ending.returned (.tuple #[.slice none 0 0, .int .i64 c]) = .returned (.tuple #[vo, .int .i64 (setC g who word)]) ∧ w'.ownsRow w.heap.size 3 1 vo (setO g who word).length (vals (setO g who word)) ∧ RA w' base P (set g who word) hs' ∧ Below base w w' ∧ KpL w w' (rfp P hs) ∧ NewL w (rfp P hs) (rfp P hs') ∧ ∀ b, vo.ownBlock = some b → b ∉ rfp P hs' := by
    intro c w' ec hc hb
    have e1 : setO g who word = [] := if_neg (by rw [ec]; exact hc)
    have e2 : set g who word = g := if_neg (by rw [ec]; exact hc)
    rw [e1, e2, ec]
    exact ⟨_, hs, rfl, World.ownsRow_nil _ _ _ _, h.later hb, hb.mono hbw, KpL.below hb _, NewL.refl _ _, fun b e => by cases e⟩
  by_cases hc : chkC g who word = 0
  · have hr : (0 ≤ who ∧ who < (g.n : Int)) ∧ (1 ≤ word ∧ word ≤ 30) := by
      unfold chkC at hc
      split at hc <;> omega
    obtain ⟨m, rfl⟩ : ∃ m : Nat, who = (m : Int) := ⟨who.toNat, by omega⟩
    obtain ⟨k, rfl⟩ : ∃ k : Nat, word = (k : Int) := ⟨word.toNat, by omega⟩
    have hm : m < g.n := by omega
    have hk : k < 31 := by omega
    cases ha : allG g k
    · have e : setC g (m : Int) (k : Int) = 6 := by
        unfold setC
        rw [if_neg (by rw [hc]; decide), if_pos]
        exact ha
      refine (refSet_not m k w h hi.five hm hk hc ha).mono ?_
      rintro x w' ⟨rfl, hb⟩
      exact stay 6 w' e (by decide) hb
    · cases hkn : g.kn k m
      · have e : setC g (m : Int) (k : Int) = 0 := by
          unfold setC
          rw [if_neg (by rw [hc]; decide), if_neg, if_neg]
          · show ¬ g.kn k m = true
            rw [hkn]; decide
          · show ¬ allG g k = false
            rw [ha]; decide
        obtain ⟨e1, e2⟩ := set_eq e
        rw [e1, e2, e]
        exact refSet_ok m k w h hi hm hk hc ha hkn hM hbw
      · have e : setC g (m : Int) (k : Int) = 7 := by
          unfold setC
          rw [if_neg (by rw [hc]; decide), if_neg, if_pos]
          · exact hkn
          · show ¬ allG g k = false
            rw [ha]; decide
        refine (refSet_knew m k w h hi.five hm hk hc ha hkn).mono ?_
        rintro x w' ⟨rfl, hb⟩
        exact stay 7 w' e (by decide) hb
  · have e : setC g who word = chkC g who word := if_pos hc
    refine (refSet_chk who word w h hi.five hc).mono ?_
    rintro x w' ⟨rfl, rfl⟩
    exact stay _ _ e hc (Below.refl _ _)
end Go.Proofs.YtcolcjnmdejfeafDoor.Agr
