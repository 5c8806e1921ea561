/-
  AgainOld: the walk.
-/
import Derived.Test.YtdhlfbpflngmbaeDoorAgaP
namespace Go.Proofs.YtdhlfbpflngmbaeDoor.Aga
open Go.RowKit
open Go.Proofs.YtdhlfbpflngmbaeDoor.Fif (Cm tkC bad run run_go run_stop fnd own_lt own_block own_form own_mono Kp ret_bool)
open Go.Proofs.YtdhlfbpflngmbaeDoor.Sep (KpL NewL)
set_option linter.unusedVariables false

theorem old_step {i : Nat} (hi : i < 30) : hrC (i : Int) [] ((i : Int) + 1) ((i : Int) + 1) = 0 ∧ hrT (i : Int) [] ((i : Int) + 1) ((i : Int) + 1) = ([(i : Int) + 1], (i : Int) + 1, []) := by
  have hc : tkC (i : Int) [] 0 ((i : Int) + 1) ((i : Int) + 1) = 0 := by
    unfold tkC
    rw [if_neg (by simp [bad]; omega), if_neg (by omega), if_neg (by simp [fnd]), if_neg (by simp)]
  refine ⟨by unfold hrC; rw [hc]; rfl, ?_⟩
  rw [hrT_ok hc]
  have hs : fnd ([] ++ [((0 : Int), (i : Int) + 1, (i : Int) + 1)]) 0 ((i : Int) + 1) = some ((i : Int) + 1) := by simp [fnd, Fif.key]
  rw [run_go (by simp [Fif.Uq]) hs]
  have e : Fif.rm ([] ++ [((0 : Int), (i : Int) + 1, (i : Int) + 1)]) 0 ((i : Int) + 1) = [] := by simp [Fif.rm, Fif.key]
  rw [e, run_stop (by simp [fnd])]
theorem old_again {n k : Nat} (h1 : 1 ≤ k) (h2 : k ≤ n) (h3 : n ≤ 30) : hrC (n : Int) [] (k : Int) (k : Int) = 0 ∧ hrT (n : Int) [] (k : Int) (k : Int) = ([], (n : Int), []) := by
  have hc : tkC (n : Int) [] 0 (k : Int) (k : Int) = 7 := by
    unfold tkC
    rw [if_neg (by simp [bad]; omega), if_pos (by omega)]
  exact ⟨by unfold hrC; rw [hc]; rfl, hrT_no (by rw [hc]; decide)⟩
theorem old_lacks {n : Nat} (h : n ≤ 30) : lkC (n : Int) = 0 ∧ lkL (n : Int) [] (n : Int) = [] := by
  have hc : lkC (n : Int) = 0 := if_neg (by omega)
  refine ⟨hc, ?_⟩
  unfold lkL
  rw [if_pos hc, show ((n : Int) - (n : Int)).toNat = 0 by omega]
  rfl
theorem HInv.some {n : Nat} (h : n ≤ 30) : HInv (n : Int) [] := ⟨by omega, by omega, List.Pairwise.nil, fun c hc => absurd hc List.not_mem_nil, by simp⟩
set_option maxRecDepth 100000 in
theorem old_bad (n k : Int) (w : World) (hL : As.Laid w) (h : n < 1 ∨ (¬ n < 1 ∧ 30 < n) ∨ (¬ n < 1 ∧ ¬ 30 < n ∧ k < 1) ∨ (¬ n < 1 ∧ ¬ 30 < n ∧ ¬ k < 1 ∧ n < k)) :
    Calls Tryd.prog 6 #[.int .i64 n, .int .i64 k] w fun x w' => x = .returned (.bool true) ∧ Below w.heap.size w w' := by
  have HL : Hid (As.Laid w) := hL
  have hc : hrC 0 [] 0 1 = 1 := by decide
  clear hL
  rcases h with h | ⟨h1, h2⟩ | ⟨h1, h2, h3⟩ | ⟨h1, h2, h3, h4⟩
  · go_enter Tryd.func6, Tryd.ntmps6
    go_wp2_with fail
    refine (newH _).mono ?_
    rintro e w1 ⟨P, fp, rfl, hH, hb1⟩
    have B1 : Hid (HS w1 w.heap.size P 0 [] fp ∧ Below w.heap.size w w1) := ⟨hH, hb1⟩
    clear hH hb1
    go_wp2_with fail
    refine (takeH w.heap.size P 0 [] fp 0 1 w1 B1.out.1 HInv.start B1.out.2.size).mono ?_
    rintro e w2 ⟨v, fp', rfl, ho, hH, hb2, -, -, -⟩
    rw [hc]
    obtain ⟨q, cap, rfl⟩ := own_form ho
    have B2 : Hid (Below w.heap.size w w2) := B1.out.2.trans hb2
    clear ho hH hb2
    go_wp2_with fail
    refine (errF_same 1 w2 (HL.out.later B2.out)).mono ?_
    rintro e w3 ⟨rfl, hb3⟩
    go_wp2
    go_ret
    exact ⟨rfl, B2.out.trans (hb3.mono B2.out.size)⟩
  · go_enter Tryd.func6, Tryd.ntmps6
    go_wp2_with fail
    refine (newH _).mono ?_
    rintro e w1 ⟨P, fp, rfl, hH, hb1⟩
    have B1 : Hid (HS w1 w.heap.size P 0 [] fp ∧ Below w.heap.size w w1) := ⟨hH, hb1⟩
    clear hH hb1
    go_wp2_with fail
    refine (takeH w.heap.size P 0 [] fp 0 1 w1 B1.out.1 HInv.start B1.out.2.size).mono ?_
    rintro e w2 ⟨v, fp', rfl, ho, hH, hb2, -, -, -⟩
    rw [hc]
    obtain ⟨q, cap, rfl⟩ := own_form ho
    have B2 : Hid (Below w.heap.size w w2) := B1.out.2.trans hb2
    clear ho hH hb2
    go_wp2_with fail
    refine (errF_same 1 w2 (HL.out.later B2.out)).mono ?_
    rintro e w3 ⟨rfl, hb3⟩
    go_wp2
    go_ret
    exact ⟨rfl, B2.out.trans (hb3.mono B2.out.size)⟩
  · go_enter Tryd.func6, Tryd.ntmps6
    go_wp2_with fail
    refine (newH _).mono ?_
    rintro e w1 ⟨P, fp, rfl, hH, hb1⟩
    have B1 : Hid (HS w1 w.heap.size P 0 [] fp ∧ Below w.heap.size w w1) := ⟨hH, hb1⟩
    clear hH hb1
    go_wp2_with fail
    refine (takeH w.heap.size P 0 [] fp 0 1 w1 B1.out.1 HInv.start B1.out.2.size).mono ?_
    rintro e w2 ⟨v, fp', rfl, ho, hH, hb2, -, -, -⟩
    rw [hc]
    obtain ⟨q, cap, rfl⟩ := own_form ho
    have B2 : Hid (Below w.heap.size w w2) := B1.out.2.trans hb2
    clear ho hH hb2
    go_wp2_with fail
    refine (errF_same 1 w2 (HL.out.later B2.out)).mono ?_
    rintro e w3 ⟨rfl, hb3⟩
    go_wp2
    go_ret
    exact ⟨rfl, B2.out.trans (hb3.mono B2.out.size)⟩
  · go_enter Tryd.func6, Tryd.ntmps6
    go_wp2_with fail
    refine (newH _).mono ?_
    rintro e w1 ⟨P, fp, rfl, hH, hb1⟩
    have B1 : Hid (HS w1 w.heap.size P 0 [] fp ∧ Below w.heap.size w w1) := ⟨hH, hb1⟩
    clear hH hb1
    go_wp2_with fail
    refine (takeH w.heap.size P 0 [] fp 0 1 w1 B1.out.1 HInv.start B1.out.2.size).mono ?_
    rintro e w2 ⟨v, fp', rfl, ho, hH, hb2, -, -, -⟩
    rw [hc]
    obtain ⟨q, cap, rfl⟩ := own_form ho
    have B2 : Hid (Below w.heap.size w w2) := B1.out.2.trans hb2
    clear ho hH hb2
    go_wp2_with fail
    refine (errF_same 1 w2 (HL.out.later B2.out)).mono ?_
    rintro e w3 ⟨rfl, hb3⟩
    go_wp2
    go_ret
    exact ⟨rfl, B2.out.trans (hb3.mono B2.out.size)⟩
set_option maxRecDepth 100000 in
theorem old_yes (n k : Nat) (w : World) (h1 : 1 ≤ k) (h2 : k ≤ n) (h3 : n ≤ 30) :
    Calls Tryd.prog 6 #[.int .i64 (n : Int), .int .i64 (k : Int)] w fun x w' => x = .returned (.bool true) ∧ Below w.heap.size w w' := by
  have d1 : decide ((n : Int) < 1) = false := decide_eq_false (by omega)
  have d2 : decide ((n : Int) > 30) = false := decide_eq_false (by omega)
  have d3 : decide ((k : Int) < 1) = false := decide_eq_false (by omega)
  have d4 : ¬ n < k := by omega
  have H0 : Hid (1 ≤ k ∧ k ≤ n ∧ n ≤ 30) := ⟨h1, h2, h3⟩
  clear h1 h2
  go_enter Tryd.func6, Tryd.ntmps6
  go_wp2_with fail
  refine (newH _).mono ?_
  rintro e w1 ⟨P, fp, rfl, hH, hb1⟩
  have B1 : Hid (∃ fp, HS w1 w.heap.size P ((0 : Nat) : Int) [] fp ∧ Below w.heap.size w w1) := ⟨fp, hH, hb1⟩
  clear hH hb1
  go_wp2
  go_loopw [8] (fun x wr => ∃ i : Nat, i ≤ n ∧ x = .int .i64 ((i : Int) + 1) ∧ Hid (∃ fp, HS wr w.heap.size P (i : Int) [] fp ∧ Below w.heap.size w wr)) (fun x _ => n + 1 - (intOf x).toNat)
  case atStart => exact ⟨0, by omega, rfl, B1.out⟩
  case round =>
    obtain ⟨i, hin, rfl, hR⟩ := hrel
    obtain ⟨fp2, hR⟩ := hR.out
    have R : Hid (HS wr w.heap.size P (i : Int) [] fp2 ∧ Below w.heap.size w wr) := hR
    clear hR
    by_cases hlt : i < n
    · obtain ⟨e1, e2⟩ := old_step (i := i) (by omega)
      have hi0 : (0 : Int) ≤ (i : Int) := by omega
      have hin' : ((i : Int) + 1) ≤ (n : Int) := by omega
      have ED : Hid (hrC (i : Int) [] ((i : Int) + 1) ((i : Int) + 1) = 0 ∧ hrT (i : Int) [] ((i : Int) + 1) ((i : Int) + 1) = ([(i : Int) + 1], (i : Int) + 1, [])) := ⟨e1, e2⟩
      clear e1 e2
      go_wp2_with fail
      refine (takeH w.heap.size P (i : Int) [] fp2 ((i : Int) + 1) ((i : Int) + 1) wr R.out.1 (HInv.some (by omega)) R.out.2.size).mono ?_
      rintro e w2 ⟨v, fp', rfl, ho, hH, hb2, -, -, -⟩
      rw [ED.out.1, errF_ok]
      rw [ED.out.2] at ho hH
      obtain ⟨q, cap, rfl⟩ := own_form ho
      have B2 : Hid (HS w2 w.heap.size P ((i : Int) + 1) [] fp' ∧ Below w.heap.size w w2) := ⟨hH, R.out.2.trans hb2⟩
      clear ho hH hb2
      go_wp2
      go_roundw
      case rel => exact ⟨i + 1, by omega, by go_num, fp', by rw [show (((i + 1 : Nat) : Int)) = (i : Int) + 1 by omega]; exact B2.out.1, B2.out.2⟩
      case measure => simp [intOf]; omega
    · have hi : i = n := by omega
      subst hi
      obtain ⟨e1, e2⟩ := old_again H0.out.1 H0.out.2.1 H0.out.2.2
      obtain ⟨e3, e4⟩ := old_lacks H0.out.2.2
      have ED : Hid ((hrC (i : Int) [] (k : Int) (k : Int) = 0 ∧ hrT (i : Int) [] (k : Int) (k : Int) = ([], (i : Int), [])) ∧ lkC (i : Int) = 0 ∧ lkL (i : Int) [] (i : Int) = []) := ⟨⟨e1, e2⟩, e3, e4⟩
      clear e1 e2 e3 e4
      go_wp2_with fail
      refine (takeH w.heap.size P (i : Int) [] fp2 (k : Int) (k : Int) wr R.out.1 (HInv.some (by omega)) R.out.2.size).mono ?_
      rintro e w2 ⟨v, fp', rfl, ho, hH, hb2, -, -, -⟩
      rw [ED.out.1.1, errF_ok]
      rw [ED.out.1.2] at ho hH
      obtain ⟨q, cap, rfl⟩ := own_form ho
      have B2 : Hid (HS w2 w.heap.size P (i : Int) [] fp' ∧ Below w.heap.size w w2) := ⟨hH, R.out.2.trans hb2⟩
      clear ho hH hb2
      go_wp2_with fail
      refine (lacksH w.heap.size P (i : Int) [] fp' (i : Int) w2 B2.out.1 (HInv.some (by omega))).mono ?_
      rintro e w3 ⟨v, rfl, ho, hb3⟩
      rw [ED.out.2.1, errF_ok]
      rw [ED.out.2.2] at ho
      obtain ⟨q', cap', rfl⟩ := own_form ho
      have B3 : Hid (Below w.heap.size w w3) := B2.out.2.trans (hb3.mono B2.out.2.size)
      clear ho hb3
      go_wp2
      go_ret
      exact ⟨rfl, B3.out⟩
theorem old_any (n k : Int) (w : World) (hL : As.Laid w) : Calls Tryd.prog 6 #[.int .i64 n, .int .i64 k] w fun x w' => x = .returned (.bool true) ∧ Below w.heap.size w w' := by
  by_cases h : 1 ≤ n ∧ n ≤ 30 ∧ 1 ≤ k ∧ k ≤ n
  · obtain ⟨a, rfl⟩ : ∃ a : Nat, n = (a : Int) := ⟨n.toNat, by omega⟩
    obtain ⟨b, rfl⟩ : ∃ b : Nat, k = (b : Int) := ⟨k.toNat, by omega⟩
    exact old_yes a b w (by omega) (by omega) (by omega)
  · exact old_bad n k w hL (by omega)
end Go.Proofs.YtdhlfbpflngmbaeDoor.Aga
