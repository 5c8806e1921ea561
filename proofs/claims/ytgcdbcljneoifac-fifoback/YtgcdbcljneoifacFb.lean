/-
  The walk of FifoBack: words that come the wrong way round wait, and with the first all are heard.
-/
import Derived.Test.YtgcdbcljneoifacFifH
import Derived.Test.YtgcdbcljneoifacFbM
namespace Go.Proofs.Ytgcdbcljneoifac.Fif
open Go.RowKit
open Go.Proofs.Ytgcdbcljneoifac.Vec (Vw)
set_option linter.unusedVariables false

set_option maxRecDepth 100000 in
set_option maxHeartbeats 1000000 in
theorem back_yes (n : Int) (m : Nat) (w : World) (h1 : 1 ≤ n) (h2 : n ≤ 30) (hm : m < 5) :
    Calls Try.prog 4 #[.int .i64 n, .int .i64 (m : Int)] w fun e w' => e = .returned (.bool true) ∧ Below w.heap.size w w' := by
  have hm0 : (0 : Int) ≤ (m : Int) := by omega
  have hm4 : (m : Int) ≤ 4 := by omega
  have hm5 : (m : Int) < 5 := by omega
  have d1 : decide (n < 1) = false := by simp; omega
  have d2 : decide (30 < n) = false := by simp; omega
  have d3 : decide ((m : Int) < 0) = false := by simp
  have d4 : decide (4 < (m : Int)) = false := by simp; omega
  go_enter Try.func4, Try.ntmps4
  go_wp2_with fail
  refine (new_any w).mono ?_
  rintro e w1 ⟨P, mb, rfl, hF, hB⟩
  have S1 : Hid (FoM w1 w.heap.size P mb [0, 0, 0, 0, 0] [] ∧ Below w.heap.size w w1) := ⟨hF, hB⟩
  clear hF hB
  go_wp2
  go_loopw [6] (fun x wr => ∃ k : Int, 1 ≤ k ∧ k ≤ n ∧ x = .int .i64 k ∧ Hid (∃ H ws, FoM wr w.heap.size P mb H ws ∧ Bk m n k H ws ∧ Below w.heap.size w wr)) (fun x _ => (intOf x).toNat)
  case atStart => exact ⟨n, by omega, by omega, rfl, _, _, S1.out.1, Bk.start m h1 hm, S1.out.2⟩
  case round =>
    obtain ⟨k, hk1, hk2, rfl, hR⟩ := hrel
    obtain ⟨H, ws, hF, hK, hB⟩ := hR.out
    have R : Hid (FoM wr w.heap.size P mb H ws ∧ Bk m n k H ws ∧ Below w.heap.size w wr) := ⟨hF, hK, hB⟩
    clear hR hF hK hB
    by_cases hlt : 1 < k
    · have T : Hid _ := R.out.2.1.step hm h2 hlt hk2
      go_wp2_with fail
      refine (take_any w.heap.size P mb H ws (m : Int) k k wr R.out.1 R.out.2.1.inv R.out.2.2.size).mono ?_
      rintro e w2 ⟨vo, rfl, hF, hO, hB, hKp⟩
      rw [T.out.2.1] at hO
      rw [T.out.1, errF_ok]
      obtain ⟨q, c, rfl⟩ := own_form hO
      have hlen := T.out.2.2.len
      obtain ⟨ln, eln⟩ : ∃ ln, ln = (tk H ws (m : Int) k k).2.2.length := ⟨_, rfl⟩
      rw [← eln] at hlen
      have hne : ((ln : Int) == n - k + 1) = true := by simp; omega
      have F2 : Hid (FoM w2 w.heap.size P mb (tk H ws (m : Int) k k).2.1 (tk H ws (m : Int) k k).2.2 ∧ Below w.heap.size w w2) := ⟨hF, R.out.2.2.trans hB⟩
      have W2 : Hid (Calls Try.prog 10 #[.pointer (some ⟨P, 0, none⟩)] w2 fun x w' => x = .returned (.int .i64 ln) ∧ w' = w2) := by rw [eln]; exact waits_any w.heap.size P mb _ _ w2 hF
      clear hF hO hB hKp eln
      go_wp2_with fail
      refine W2.out.mono ?_
      rintro e w3 ⟨rfl, rfl⟩
      go_wp2
      go_roundw
      case rel => exact ⟨k - 1, by omega, by omega, by go_num, _, _, F2.out.1, T.out.2.2, F2.out.2⟩
      case measure => simp [intOf]; omega
    · have hk : k = 1 := by omega
      subst hk
      have T : Hid _ := R.out.2.1.last hm h2 h1
      go_wp2_with fail
      refine (take_any w.heap.size P mb H ws (m : Int) 1 1 wr R.out.1 R.out.2.1.inv R.out.2.2.size).mono ?_
      rintro e w2 ⟨vo, rfl, hF, hO, hB, hKp⟩
      rw [T.out.2.2.1] at hF
      rw [T.out.1, errF_ok]
      obtain ⟨ln, eln⟩ : ∃ ln, ln = (tk H ws (m : Int) 1 1).1.length := ⟨_, rfl⟩
      rw [← eln] at hO
      obtain ⟨q, c, rfl⟩ := own_form hO
      have hln : ((ln : Int) == n) = true := by
        have := T.out.2.1
        rw [eln]
        simpa using this
      have F2 : Hid (FoM w2 w.heap.size P mb (tk H ws (m : Int) 1 1).2.1 [] ∧ Below w.heap.size w w2) := ⟨hF, R.out.2.2.trans hB⟩
      clear hF hO hB hKp eln
      go_wp2_with fail
      refine (next_any w.heap.size P mb _ _ w2 F2.out.1).mono ?_
      rintro e w3 ⟨v, rfl, hO, hB⟩
      obtain ⟨q3, c3, rfl, hv⟩ := own_vw hO
      obtain ⟨b3, o3, rfl, -, hcs⟩ := hv.2 (by omega)
      have x0 := hcs m (by omega)
      have ex : (up (tk H ws (m : Int) 1 1).2.1).getD m 0 = n + 1 := by
        rw [up, List.getD, List.getElem?_map, List.getElem?_range (by omega)]
        show (tk H ws (m : Int) 1 1).2.1.getD m 0 + 1 = _
        rw [T.out.2.2.2]
      rw [ex] at x0
      have hnn : (n + 1 == n + 1) = true := by simp
      have F3 : Hid (FoM w3 w.heap.size P mb (tk H ws (m : Int) 1 1).2.1 [] ∧ Below w.heap.size w w3) := ⟨F2.out.1.later hB, F2.out.2.trans (hB.mono F2.out.2.size)⟩
      have W3 : Hid (Calls Try.prog 10 #[.pointer (some ⟨P, 0, none⟩)] w3 fun x w' => x = .returned (.int .i64 0) ∧ w' = w3) := waits_any w.heap.size P mb _ _ w3 F3.out.1
      clear hO hB hv hcs ex
      go_wp2_with fail
      refine W3.out.mono ?_
      rintro e w4 ⟨rfl, rfl⟩
      go_wp2
      go_ret
      exact ⟨rfl, F3.out.2⟩
theorem back_walk (n who : Int) (w : World) :
    Calls Try.prog 4 #[.int .i64 n, .int .i64 who] w fun e w' => e = .returned (.bool true) ∧ Below w.heap.size w w' := by
  by_cases h : 1 ≤ n ∧ n ≤ 30 ∧ 0 ≤ who ∧ who ≤ 4
  · obtain ⟨m, rfl⟩ : ∃ m : Nat, who = (m : Int) := ⟨who.toNat, by omega⟩
    exact back_yes n m w h.1 h.2.1 (by omega)
  · rcases (show n < 1 ∨ (1 ≤ n ∧ 30 < n) ∨ (1 ≤ n ∧ n ≤ 30 ∧ who < 0) ∨ (1 ≤ n ∧ n ≤ 30 ∧ 0 ≤ who ∧ 4 < who) by omega) with h1 | ⟨h1, h2⟩ | ⟨h1, h2, h3⟩ | ⟨h1, h2, h3, h4⟩
    all_goals
      clear h
      go_enter Try.func4, Try.ntmps4
      go_wp2
      go_ret
      exact ⟨rfl, Below.refl _ _⟩
end Go.Proofs.Ytgcdbcljneoifac.Fif
