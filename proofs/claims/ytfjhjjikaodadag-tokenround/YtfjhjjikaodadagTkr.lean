/-
  Once around it is back: the walk of TokenRound.
-/
import Derived.Test.YtfjhjjikaodadagTokP
import Derived.Deep.QuietTactic
import Derived.BigQuiet
import Derived.Deep.RegionHeld3
import Derived.WalkLawsBesides
import Derived.Handy
namespace Go.Proofs.Ytfjhjjikaodadag.Tok
open Go.RowKit
open Go.Proofs.Ytfjhjjikaodadag.Fif (ret_bool)
open Go.Proofs.Ytfjhjjikaodadag.Sep (KpL NewL)
open Go.Proofs.Ytfjhjjikaodadag.Ldr (errF errF_ok errF_no Sl)
set_option linter.unusedVariables false

theorem TS.later {w w' : World} {base P : Nat} {k : K} {fp : List Nat} (h : TS w base P k fp) (hb : Below w.heap.size w w') : TS w' base P k fp := h.of_blocks hb.size fun b hb' => hb.block b (h.fp b hb').2
theorem rnd_zero (n most : Nat) : start n most = rnd n most 0 := by
  unfold rnd start
  rw [Nat.zero_mod]
theorem same_from {B : Nat} {a w1 X w2 : World} (h2 : Below B X w2) (h : Below B a w1) (e : X.heap = w1.heap) (e1 : X.os = w1.os) (e2 : X.tape = w1.tape) (e3 : X.output = w1.output) : Below B a w2 := by
  have hX : Below B a X := ⟨by rw [e1]; exact h.os, by rw [e2]; exact h.tape, by rw [e3]; exact h.output, by rw [e]; exact h.size, fun k hk => by rw [e]; exact h.block k hk⟩
  exact hX.trans h2
set_option maxRecDepth 100000 in
theorem round_bad (n most rounds : Int) (w : World) (hn : (n < 2 ∨ 5 < n) ∨ most < 1 ∨ 10 < most) : Calls Try.prog 5 #[.int .i64 n, .int .i64 most, .int .i64 rounds] w fun x w' => x = .returned (.bool true) ∧ Below w.heap.size w w' := by
  have HN : Hid ((n < 2 ∨ 5 < n) ∨ most < 1 ∨ 10 < most) := hn
  rcases (show n < 2 ∨ (¬ n < 2 ∧ n > 5) ∨ (¬ n < 2 ∧ ¬ n > 5 ∧ most < 1) ∨ (¬ n < 2 ∧ ¬ n > 5 ∧ ¬ most < 1 ∧ most > 10) by omega) with d1 | ⟨d1, d2⟩ | ⟨d1, d2, d3⟩ | ⟨d1, d2, d3, d4⟩
  all_goals
    clear hn
    go_enter Try.func5, Try.ntmps5
    go_wp2_with fail
    refine (newT_no n most HN.out w).mono ?_
    rintro e w1 ⟨rfl, hb⟩
    rw [errF_no (by decide)]
    have B1 : Hid _ := hb
    clear hb
    go_wp2
    go_ret
    exact ⟨rfl, B1.out⟩
set_option maxRecDepth 100000 in
theorem round_out (n most : Nat) (rounds : Int) (w : World) (h2 : 2 ≤ n) (h5 : n ≤ 5) (h1 : 1 ≤ most) (h10 : most ≤ 10) (hr : rounds < 0 ∨ 50 < rounds) : Calls Try.prog 5 #[.int .i64 (n : Int), .int .i64 (most : Int), .int .i64 rounds] w fun x w' => x = .returned (.bool true) ∧ Below w.heap.size w w' := by
  rcases (show rounds < 0 ∨ (¬ rounds < 0 ∧ rounds > 50) by omega) with d1 | ⟨d1, d2⟩
  all_goals
    clear hr
    go_enter Try.func5, Try.ntmps5
    go_wp2_with fail
    refine (newT_ok n most h2 h5 h1 h10 w).mono ?_
    rintro e w1 ⟨P, fp, rfl, hA, hb⟩
    have B1 : Hid _ := hb
    clear hb hA
    go_wp2
    go_ret
    exact ⟨rfl, B1.out⟩
theorem rem_nat (i n : Nat) : Int.tmod (i : Int) (n : Int) = ((i % n : Nat) : Int) := by
  rw [← Int.ofNat_tmod]
set_option maxRecDepth 100000 in
set_option maxHeartbeats 1000000 in
theorem round_ok (n most rounds : Nat) (w : World) (h2 : 2 ≤ n) (h5 : n ≤ 5) (h1 : 1 ≤ most) (h10 : most ≤ 10) (hr : rounds ≤ 50) : Calls Try.prog 5 #[.int .i64 (n : Int), .int .i64 (most : Int), .int .i64 (rounds : Int)] w fun x w' => x = .returned (.bool true) ∧ Below w.heap.size w w' := by
  have d1 : ¬ (rounds : Int) < 0 := by omega
  have d2 : ¬ (rounds : Int) > 50 := by omega
  have hn0 : ¬ (n : Int) = 0 := by omega
  have hn0' : ¬ n = 0 := by omega
  have HN : Hid (2 ≤ n ∧ n ≤ 5 ∧ 1 ≤ most ∧ most ≤ 10) := ⟨h2, h5, h1, h10⟩
  obtain ⟨N, eN⟩ : ∃ N, N = rounds * n := ⟨_, rfl⟩
  have hN : (rounds : Int) * (n : Int) = (N : Int) := by rw [eN, Int.natCast_mul]
  have hN250 : N ≤ 250 := by rw [eN]; exact Nat.mul_le_mul hr h5
  have HZ : Hid (rnd n most N = rnd n most 0) := by
    show _ = _
    unfold rnd
    rw [eN, Nat.mul_mod_left, Nat.zero_mod]
  clear eN
  go_enter Try.func5, Try.ntmps5
  go_wp2_with fail
  refine (newT_ok n most h2 h5 h1 h10 w).mono ?_
  rintro e w1 ⟨P, fp, rfl, hA, hb⟩
  have M0 : Hid (TS w1 w.heap.size P (rnd n most 0) fp ∧ Below w.heap.size w w1) := by rw [rnd_zero] at hA; exact ⟨hA, hb⟩
  clear hA hb
  go_wp2
  go_loopw [9] (fun x wr => ∃ (i : Nat) (fp : List Nat), i ≤ N ∧ x = .int .i64 (i : Int) ∧ Hid (TS wr w.heap.size P (rnd n most i) fp ∧ Below w.heap.size w wr)) (fun x _ => N - (intOf x).toNat)
  case atStart => exact ⟨0, fp, by omega, rfl, M0⟩
  case round =>
    obtain ⟨i, f, hi, rfl, hQ⟩ := hrel
    have IV : Hid (Inv (rnd n most i)) := rnd_inv i HN.out.1 HN.out.2.1 HN.out.2.2.1 HN.out.2.2.2
    by_cases hlt : i < N
    · have hlt' : (i : Int) < (N : Int) := by omega
      have hP := rnd_pass (n := n) (most := most) (i := i) HN.out.1 HN.out.2.1
      have HP : Hid (pass (rnd n most i) = rnd n most (i + 1) ∧ (passL (rnd n most i)).length = 0) := ⟨hP.1, by unfold passL; rw [plN_len, hP.2]; rfl⟩
      obtain ⟨r, er⟩ : ∃ r : Int, r = ((rnd n most i).hold : Int) := ⟨_, rfl⟩
      have ER : Hid (r = ((rnd n most i).hold : Int)) := er
      have e0 : Int.tmod (i : Int) (n : Int) = r := by rw [er, rem_nat]; rfl
      have e1 : (i : Int) % (n : Int) = r := by rw [← e0, rem_nat]; rfl
      have e2 : ((i % n : Nat) : Int) = r := by rw [← e1]; rfl
      have d3 : (r != r) = false := by simp
      have hr5 : 0 ≤ r ∧ r < 5 := by
        rw [er]
        have := IV.out.hold
        have e : (rnd n most i).n = n := rfl
        omega
      clear hP er
      go_wp2_with fail
      go_region_held3 (fun X => True) (trivial) (first
        | (go_at_call 19; refine (passT w.heap.size P (rnd n most i) f _ (by exact B2.out.1.of_blocks (Nat.le_refl _) fun _ _ => rfl) IV.out (by exact B2.out.2.size)).mono ?_; rintro e3 w3 ⟨a3, c3, f3, rfl, _, _, _, hA3, hb3, _, _⟩; rw [HP.out.1] at hA3; rw [HP.out.2]; have T3 : Hid (TS w3 w.heap.size P (rnd n most (i + 1)) f3 ∧ Below w.heap.size w w3) := ⟨hA3, same_from hb3 B2.out.2 rfl rfl rfl rfl⟩; clear hA3 hb3)
        | (go_at_call 20; refine (holdT w.heap.size P (rnd n most i) f _ (by exact hQ.out.1.of_blocks (Nat.le_refl _) fun _ _ => rfl) IV.out).mono ?_; rintro e2 w2 ⟨rfl, hb2⟩; rw [← ER.out]; have B2 : Hid (TS w2 w.heap.size P (rnd n most i) f ∧ Below w.heap.size w w2) := ⟨TS.later (by exact hQ.out.1.of_blocks (Nat.le_refl _) fun _ _ => rfl) hb2, same_from (hb2.mono (by exact hQ.out.2.size)) hQ.out.2 rfl rfl rfl rfl⟩; clear hb2))
      go_wp2
      go_roundw
      case rel => exact ⟨i + 1, f3, by omega, by go_num, T3⟩
      case measure => simp [intOf]; omega
    · have hlt' : ¬ (i : Int) < (N : Int) := by omega
      have ei : i = N := by omega
      subst ei
      have Q0 : Hid (TS wr w.heap.size P (rnd n most 0) f ∧ Below w.heap.size w wr ∧ Inv (rnd n most 0)) := ⟨by rw [← HZ.out]; exact hQ.out.1, hQ.out.2, by rw [← HZ.out]; exact IV.out⟩
      have HS := rnd_last (n := n) (most := most) HN.out.1 HN.out.2.2.1
      have HT : Hid (sayC (rnd n most 0) 0 5 = 0 ∧ (passL (say (rnd n most 0) 0 5)).length = 1) := HS
      clear HS hQ IV HZ
      go_wp2_with fail
      refine (holdT w.heap.size P (rnd n most 0) f wr Q0.out.1 Q0.out.2.2).mono ?_
      rintro e2 w2 ⟨rfl, hb2⟩
      have e0 : ((rnd n most 0).hold : Int) = 0 := by
        show ((0 % n : Nat) : Int) = 0
        rw [Nat.zero_mod]
        rfl
      rw [e0]
      have Q2 : Hid (TS w2 w.heap.size P (rnd n most 0) f ∧ Below w.heap.size w w2) := ⟨Q0.out.1.later hb2, Q0.out.2.1.trans (hb2.mono Q0.out.2.1.size)⟩
      clear hb2 e0
      go_wp2_with fail
      refine (sayT w.heap.size P (rnd n most 0) f 0 5 w2 Q2.out.1 Q0.out.2.2 Q2.out.2.size).mono ?_
      rintro e3 w3 ⟨f3, rfl, hA3, hb3, _, _⟩
      rw [HT.out.1, errF_ok]
      have Q3 : Hid (TS w3 w.heap.size P (say (rnd n most 0) 0 5) f3 ∧ Below w.heap.size w w3) := ⟨hA3, Q2.out.2.trans hb3⟩
      clear hA3 hb3
      go_wp2_with fail
      refine (passT w.heap.size P _ f3 w3 Q3.out.1 (Q0.out.2.2.say 0 5) Q3.out.2.size).mono ?_
      rintro e4 w4 ⟨a4, c4, f4, rfl, _, _, _, _, hb4, _, _⟩
      rw [HT.out.2]
      have B4 : Hid (Below w.heap.size w w4) := Q3.out.2.trans hb4
      clear hb4
      go_wp2
      go_ret
      exact ⟨rfl, B4.out⟩
theorem round_any (n most rounds : Int) (w : World) : Calls Try.prog 5 #[.int .i64 n, .int .i64 most, .int .i64 rounds] w fun x w' => x = .returned (.bool true) ∧ Below w.heap.size w w' := by
  by_cases h : (n < 2 ∨ 5 < n) ∨ most < 1 ∨ 10 < most
  · exact round_bad n most rounds w h
  · obtain ⟨a, rfl⟩ : ∃ a : Nat, n = (a : Int) := ⟨n.toNat, by omega⟩
    obtain ⟨b, rfl⟩ : ∃ b : Nat, most = (b : Int) := ⟨most.toNat, by omega⟩
    by_cases hr : rounds < 0 ∨ 50 < rounds
    · exact round_out a b rounds w (by omega) (by omega) (by omega) (by omega) hr
    · obtain ⟨c, rfl⟩ : ∃ c : Nat, rounds = (c : Int) := ⟨rounds.toNat, by omega⟩
      exact round_ok a b c w (by omega) (by omega) (by omega) (by omega) (by omega)
end Go.Proofs.Ytfjhjjikaodadag.Tok
