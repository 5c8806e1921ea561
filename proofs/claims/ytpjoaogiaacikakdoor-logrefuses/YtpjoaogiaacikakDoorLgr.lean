/-
  LogRefuses: the walk.
-/
import Derived.Test.YtpjoaogiaacikakDoorLgsW
import Derived.Test.YtpjoaogiaacikakDoorLgrM
import Derived.Test.YtpjoaogiaacikakDoorAtI
namespace Go.Proofs.YtpjoaogiaacikakDoor.Lgs
open Go.RowKit
open Go.Proofs.YtpjoaogiaacikakDoor.Fif (own_lt own_block own_form own_mono)
open Go.Proofs.YtpjoaogiaacikakDoor.His (Ev ev errV errV_ok errV_no Eo at_any atI)
open Go.Proofs.YtpjoaogiaacikakDoor.Sep (KpL NewL)
open Go.Proofs.YtpjoaogiaacikakDoor.Vec (Vw)
open Go.Proofs.YtpjoaogiaacikakDoor.As (Laid)
set_option linter.unusedVariables false

set_option maxRecDepth 100000 in
set_option maxHeartbeats 2000000 in
theorem refuses_bad (who w0 : Int) (w : World) (hL : Laid w) (h : who < 0 ∨ 4 < who ∨ w0 < 1 ∨ 30 < w0) : Calls Tryd.prog 3 #[.int .i64 who, .int .i64 w0] w fun x w' => x = .returned (.bool true) ∧ Below w.heap.size w w' := by
  have HB := hear_bad h
  have H : Hid (Laid w ∧ doC new (who, 3, w0) = 1 ∧ ∀ k, doL new (who, 3, w0) k = new) := ⟨hL, HB⟩
  clear hL HB
  cases d0 : decide (who < 0)
  · cases d1 : decide (who > 4)
    · cases d2 : decide (w0 < 1)
      · cases d3 : decide (w0 > 30)
        · exfalso
          simp at d0 d1 d2 d3
          omega
        · clear h
          go_enter Tryd.func3, Tryd.ntmps3
          go_wp2_with fail
          refine (LW.new w).mono ?_
          rintro e w1 ⟨P, rfl, hl⟩
          have L1 : Hid (LW w w1 w.heap.size P new) := hl
          clear hl
          go_wp2_with fail
          refine (L1.out.do (who, 3, w0)).mono ?_
          rintro e w2 ⟨k, rfl, _, hl⟩
          rw [H.out.2.2] at hl
          rw [H.out.2.1]
          have L2 : Hid (LW w w2 w.heap.size P new) := hl
          clear hl
          go_wp2_with fail
          refine (errV_same 1 1 w2 (H.out.1.later L2.out.bel)).mono ?_
          rintro e w3 ⟨rfl, hb⟩
          have L3 : Hid (LW w w3 w.heap.size P new) := L2.out.later hb
          clear hb
          go_wp2_with fail
          refine L3.out.bytes.mono ?_
          rintro e w4 ⟨rfl, hl⟩
          have L4 : Hid (LW w w4 w.heap.size P new) := hl
          clear hl
          rw [show bytes new = 0 from rfl]
          go_wp2
          go_ret
          exact ⟨rfl, L4.out.bel⟩
      · clear h
        go_enter Tryd.func3, Tryd.ntmps3
        go_wp2_with fail
        refine (LW.new w).mono ?_
        rintro e w1 ⟨P, rfl, hl⟩
        have L1 : Hid (LW w w1 w.heap.size P new) := hl
        clear hl
        go_wp2_with fail
        refine (L1.out.do (who, 3, w0)).mono ?_
        rintro e w2 ⟨k, rfl, _, hl⟩
        rw [H.out.2.2] at hl
        rw [H.out.2.1]
        have L2 : Hid (LW w w2 w.heap.size P new) := hl
        clear hl
        go_wp2_with fail
        refine (errV_same 1 1 w2 (H.out.1.later L2.out.bel)).mono ?_
        rintro e w3 ⟨rfl, hb⟩
        have L3 : Hid (LW w w3 w.heap.size P new) := L2.out.later hb
        clear hb
        go_wp2_with fail
        refine L3.out.bytes.mono ?_
        rintro e w4 ⟨rfl, hl⟩
        have L4 : Hid (LW w w4 w.heap.size P new) := hl
        clear hl
        rw [show bytes new = 0 from rfl]
        go_wp2
        go_ret
        exact ⟨rfl, L4.out.bel⟩
    · clear h
      go_enter Tryd.func3, Tryd.ntmps3
      go_wp2_with fail
      refine (LW.new w).mono ?_
      rintro e w1 ⟨P, rfl, hl⟩
      have L1 : Hid (LW w w1 w.heap.size P new) := hl
      clear hl
      go_wp2_with fail
      refine (L1.out.do (who, 3, w0)).mono ?_
      rintro e w2 ⟨k, rfl, _, hl⟩
      rw [H.out.2.2] at hl
      rw [H.out.2.1]
      have L2 : Hid (LW w w2 w.heap.size P new) := hl
      clear hl
      go_wp2_with fail
      refine (errV_same 1 1 w2 (H.out.1.later L2.out.bel)).mono ?_
      rintro e w3 ⟨rfl, hb⟩
      have L3 : Hid (LW w w3 w.heap.size P new) := L2.out.later hb
      clear hb
      go_wp2_with fail
      refine L3.out.bytes.mono ?_
      rintro e w4 ⟨rfl, hl⟩
      have L4 : Hid (LW w w4 w.heap.size P new) := hl
      clear hl
      rw [show bytes new = 0 from rfl]
      go_wp2
      go_ret
      exact ⟨rfl, L4.out.bel⟩
  · clear h
    go_enter Tryd.func3, Tryd.ntmps3
    go_wp2_with fail
    refine (LW.new w).mono ?_
    rintro e w1 ⟨P, rfl, hl⟩
    have L1 : Hid (LW w w1 w.heap.size P new) := hl
    clear hl
    go_wp2_with fail
    refine (L1.out.do (who, 3, w0)).mono ?_
    rintro e w2 ⟨k, rfl, _, hl⟩
    rw [H.out.2.2] at hl
    rw [H.out.2.1]
    have L2 : Hid (LW w w2 w.heap.size P new) := hl
    clear hl
    go_wp2_with fail
    refine (errV_same 1 1 w2 (H.out.1.later L2.out.bel)).mono ?_
    rintro e w3 ⟨rfl, hb⟩
    have L3 : Hid (LW w w3 w.heap.size P new) := L2.out.later hb
    clear hb
    go_wp2_with fail
    refine L3.out.bytes.mono ?_
    rintro e w4 ⟨rfl, hl⟩
    have L4 : Hid (LW w w4 w.heap.size P new) := hl
    clear hl
    rw [show bytes new = 0 from rfl]
    go_wp2
    go_ret
    exact ⟨rfl, L4.out.bel⟩
set_option maxRecDepth 100000 in
set_option maxHeartbeats 2000000 in
theorem refuses_ok (who w0 : Int) (w : World) (hL : Laid w) (h0 : 0 ≤ who) (h4 : who ≤ 4) (h1 : 1 ≤ w0) (h30 : w0 ≤ 30) : Calls Tryd.prog 3 #[.int .i64 who, .int .i64 w0] w fun x w' => x = .returned (.bool true) ∧ Below w.heap.size w w' := by
  have d0 : decide (who < 0) = false := decide_eq_false (by omega)
  have d1 : decide (who > 4) = false := decide_eq_false (by omega)
  have d2 : decide (w0 < 1) = false := decide_eq_false (by omega)
  have d3 : decide (w0 > 30) = false := decide_eq_false (by omega)
  have H : Hid (Laid w ∧ (doC new (who, 3, w0) = 5 ∧ ∀ k, doL new (who, 3, w0) k = new) ∧ (doC new (who, 2, w0) = 0 ∧ ∀ k, doL new (who, 2, w0) k = ⟨[(who, 2, w0)], [k], 0, 0, -1, false⟩) ∧ ∀ (v : Int) (k : Nat), 0 ≤ v ∧ v ≤ 4 → doC ⟨[(who, 2, w0)], [k], 0, 0, -1, false⟩ (v, 2, w0) = 7 ∧ ∀ m, doL ⟨[(who, 2, w0)], [k], 0, 0, -1, false⟩ (v, 2, w0) m = ⟨[(who, 2, w0)], [k], 0, 0, -1, false⟩) := ⟨hL, hear_none h0 h4 h1 h30, say_ok h0 h4 h1 h30, fun v k hv => say_twice h0 h4 h1 h30 hv k⟩
  clear hL
  go_enter Tryd.func3, Tryd.ntmps3
  go_wp2_with fail
  refine (LW.new w).mono ?_
  rintro e w1 ⟨P, rfl, hl⟩
  have L1 : Hid (LW w w1 w.heap.size P new) := hl
  clear hl
  go_wp2_with fail
  refine (L1.out.do (who, 3, w0)).mono ?_
  rintro e w2 ⟨k, rfl, _, hl⟩
  rw [H.out.2.1.2] at hl
  rw [H.out.2.1.1]
  have L2 : Hid (LW w w2 w.heap.size P new) := hl
  clear hl
  go_wp2_with fail
  refine (errV_same 5 5 w2 (H.out.1.later L2.out.bel)).mono ?_
  rintro e w3 ⟨rfl, hb⟩
  have L3 : Hid (LW w w3 w.heap.size P new) := L2.out.later hb
  clear hb
  go_wp2_with fail
  refine L3.out.bytes.mono ?_
  rintro e w4 ⟨rfl, hl⟩
  have L4 : Hid (LW w w4 w.heap.size P new) := hl
  clear hl
  rw [show bytes new = 0 from rfl]
  go_wp2_with fail
  refine (L4.out.do (who, 2, w0)).mono ?_
  rintro e w5 ⟨k5, rfl, hk5, hl⟩
  rw [H.out.2.2.1.2] at hl
  rw [H.out.2.2.1.1, errV_ok]
  have L5 : Hid (LW w w5 w.heap.size P ⟨[(who, 2, w0)], [k5], 0, 0, -1, false⟩ ∧ 2 ≤ k5) := ⟨hl, hk5⟩
  clear hl
  go_wp2_with fail
  refine L5.out.1.bytes.mono ?_
  rintro e w6 ⟨rfl, hl⟩
  have L6 : Hid (LW w w6 w.heap.size P ⟨[(who, 2, w0)], [k5], 0, 0, -1, false⟩) := hl
  clear hl
  rw [show bytes (⟨[(who, 2, w0)], [k5], 0, 0, -1, false⟩ : L) = k5 by simp [bytes]]
  obtain ⟨v, ev⟩ : ∃ v, v = (who + 1) % 5 := ⟨_, rfl⟩
  have EV : Hid (0 ≤ v ∧ v ≤ 4) := by rw [ev]; exact ⟨by omega, by omega⟩
  have hk2 : (2 : Int) ≤ (k5 : Int) := by have := L5.out.2; omega
  have dk : decide ((k5 : Int) ≥ 2) = true := decide_eq_true hk2
  have dkk : ((k5 : Int) == (k5 : Int)) = true := by simp
  go_wp2_with fail
  rw [← ev]
  refine (L6.out.do (v, 2, w0)).mono ?_
  rintro e w7 ⟨k7, rfl, _, hl⟩
  rw [(H.out.2.2.2 v k5 EV.out).2] at hl
  rw [(H.out.2.2.2 v k5 EV.out).1]
  have L7 : Hid (LW w w7 w.heap.size P ⟨[(who, 2, w0)], [k5], 0, 0, -1, false⟩) := hl
  clear hl
  go_wp2_with fail
  refine (errV_same 7 7 w7 (H.out.1.later L7.out.bel)).mono ?_
  rintro e w8 ⟨rfl, hb⟩
  have L8 : Hid (LW w w8 w.heap.size P ⟨[(who, 2, w0)], [k5], 0, 0, -1, false⟩) := L7.out.later hb
  clear hb
  go_wp2_with fail
  refine L8.out.bytes.mono ?_
  rintro e w9 ⟨rfl, hl⟩
  have L9 : Hid (LW w w9 w.heap.size P ⟨[(who, 2, w0)], [k5], 0, 0, -1, false⟩) := hl
  clear hl
  rw [show bytes (⟨[(who, 2, w0)], [k5], 0, 0, -1, false⟩ : L) = k5 by simp [bytes]]
  go_wp2_with fail
  have L10 : Hid (LW w (w9.alloc (.cells #[.int .i64 1] 3)) w.heap.size P ⟨[(who, 2, w0)], [k5], 0, 0, -1, false⟩ ∧ Vw (w9.alloc (.cells #[.int .i64 1] 3)) (some ⟨w9.heap.size, 0, none⟩) 1 [1]) := by
    have hb := (Below.refl w9.heap.size w9).alloc (Nat.le_refl _) (.cells #[.int .i64 1] 3)
    refine ⟨L9.out.later hb, rfl, fun _ => ⟨_, 0, rfl, by simp, fun k hk => ?_⟩⟩
    obtain rfl : k = 0 := by omega
    simp
  refine L10.out.1.all.mono ?_
  rintro e w11 ⟨u, rfl, ho, hl, hsz⟩
  have L11 : Hid (LW w w11 w.heap.size P ⟨[(who, 2, w0)], [k5], 0, 0, -1, false⟩ ∧ Vw w11 (some ⟨w9.heap.size, 0, none⟩) 1 [1]) := ⟨hl, L10.out.2.later hsz⟩
  obtain ⟨q, c, rfl⟩ := own_form ho
  rw [show (⟨[(who, 2, w0)], [k5], 0, 0, -1, false⟩ : L).es.length = 1 from rfl]
  clear hl ho hsz
  go_wp2_with fail
  refine (at_any (some ⟨w9.heap.size, 0, none⟩) 1 1 [1] 1 w11 (by decide) L11.out.2).mono ?_
  rintro e w12 ⟨rfl, rfl⟩
  rw [show atI [1] 1 = 0 by decide]
  go_wp2
  go_ret
  exact ⟨rfl, L11.out.1.bel⟩
theorem refuses_any (who w0 : Int) (w : World) (hL : Laid w) : Calls Tryd.prog 3 #[.int .i64 who, .int .i64 w0] w fun x w' => x = .returned (.bool true) ∧ Below w.heap.size w w' := by
  by_cases h : who < 0 ∨ 4 < who ∨ w0 < 1 ∨ 30 < w0
  · exact refuses_bad who w0 w hL h
  · exact refuses_ok who w0 w hL (by omega) (by omega) (by omega) (by omega)
end Go.Proofs.YtpjoaogiaacikakDoor.Lgs
