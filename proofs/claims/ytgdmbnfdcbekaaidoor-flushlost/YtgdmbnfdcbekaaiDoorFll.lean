/-
  What nobody heard who stays is lost: the walk of FlushLost.
-/
import Derived.Test.YtgdmbnfdcbekaaiDoorFllM
import Derived.Test.YtgdmbnfdcbekaaiDoorFluO
import Derived.Deep.QuietTactic
import Derived.BigQuiet
import Derived.Deep.RegionHeld3
import Derived.WalkLawsBesides
import Derived.Handy
namespace Go.Proofs.YtgdmbnfdcbekaaiDoor.Flu
open Go.RowKit
open Go.Proofs.YtgdmbnfdcbekaaiDoor.As (Laid)
open Go.Proofs.YtgdmbnfdcbekaaiDoor.Fif (ret_bool)
open Go.Proofs.YtgdmbnfdcbekaaiDoor.Vec (Vw)
open Go.Proofs.YtgdmbnfdcbekaaiDoor.Sep (KpL NewL)
open Go.Proofs.YtgdmbnfdcbekaaiDoor.Ldr (errF errF_ok errF_no errF_same Sl)
open Go.Proofs.YtgdmbnfdcbekaaiDoor.Viw (nextV)
set_option linter.unusedVariables false

theorem sl3u (w : World) (x y z : Int) : Sl (w.alloc (.cells #[.int .i64 x, .int .i64 y, .int .i64 z] 3)) (.slice (some ⟨w.heap.size, 0, none⟩) 3 3) [x, y, z] := by
  have r := World.rowIs_alloc w #[.int .i64 x, .int .i64 y, .int .i64 z] 3 (fun i => .int .i64 ([x, y, z].getD i 0)) (fun i hi => by rcases i with _ | _ | _ | i <;> first | rfl | (exfalso; have : _ < 3 := hi; omega))
  exact ⟨some ⟨w.heap.size, 0, none⟩, 3, rfl, Nat.le_refl _, by decide, rfl, fun _ => ⟨w.heap.size, 0, rfl, by simp, fun k hk => by rw [Nat.zero_add]; exact World.rowIs.cell r hk⟩⟩
set_option maxRecDepth 100000 in
theorem lost_bad (a b : Int) (w : World) (h : a < 1 ∨ 30 < a ∨ b < 1 ∨ 30 < b ∨ a = b) : Calls Tryd.prog 3 #[.int .i64 a, .int .i64 b] w fun x w' => x = .returned (.bool true) ∧ Below w.heap.size w w' := by
  rcases (show a < 1 ∨ (¬ a < 1 ∧ a > 30) ∨ (¬ a < 1 ∧ ¬ a > 30 ∧ b < 1) ∨ (¬ a < 1 ∧ ¬ a > 30 ∧ ¬ b < 1 ∧ b > 30) ∨ (¬ a < 1 ∧ ¬ a > 30 ∧ ¬ b < 1 ∧ ¬ b > 30 ∧ a = b) by omega) with d1 | ⟨d1, d2⟩ | ⟨d1, d2, d3⟩ | ⟨d1, d2, d3, d4⟩ | ⟨d1, d2, d3, d4, rfl⟩
  all_goals
    clear h
    go_enter Tryd.func3, Tryd.ntmps3
    go_wp2_with fail
    refine (newU_ok 4 (by omega) (by omega) w).mono ?_
    rintro e w1 ⟨P, fp, rfl, _, hb⟩
    have B1 : Hid (Below w.heap.size w w1) := hb
    clear hb
    go_wp2
    go_ret
    exact ⟨rfl, B1.out⟩
set_option maxRecDepth 100000 in
set_option maxHeartbeats 2000000 in
theorem lost_ok (a b : Int) (w : World) (hL : Laid w) (h : AB a b) : Calls Tryd.prog 3 #[.int .i64 a, .int .i64 b] w fun x w' => x = .returned (.bool true) ∧ Below w.heap.size w w' := by
  have H : Hid (AB a b ∧ Laid w) := ⟨h, hL⟩
  have d1 : ¬ a < 1 := by have := h.a1; omega
  have d2 : ¬ a > 30 := by have := h.a2; omega
  have d3 : ¬ b < 1 := by have := h.b1; omega
  have d4 : ¬ b > 30 := by have := h.b2; omega
  have d5 : (a == b) = false := by rw [beq_eq_false_iff_ne]; exact h.ne
  have q1 : decide (a < 1) = false := decide_eq_false d1
  have q2 : decide (30 < a) = false := decide_eq_false (by omega)
  have q3 : decide (b < 1) = false := decide_eq_false d3
  have q4 : decide (30 < b) = false := decide_eq_false (by omega)
  clear h hL
  go_enter Tryd.func3, Tryd.ntmps3
  go_wp2_with fail
  refine (newU_ok 4 (by omega) (by omega) w).mono ?_
  rintro e w1 ⟨P, f1, rfl, hA, hb⟩
  have U1 : Hid (UO w w1 P (start 4) f1) := ⟨hA, hb⟩
  clear hA hb
  go_wp2_with fail
  refine (sayU w.heap.size P (start 4) f1 3 a w1 U1.out.us i0 U1.out.bel.size).mono ?_
  rintro e w2 ⟨f2, rfl, hA, hb, _, _⟩
  rw [s1 H.out.1, errF_ok]
  have U2 : Hid (UO w w2 P (g1 a) f2) := ⟨hA, U1.out.bel.trans hb⟩
  clear hA hb U1
  go_wp2_with fail
  refine (sayU w.heap.size P (g1 a) f2 3 b w2 U2.out.us (i1 a) U2.out.bel.size).mono ?_
  rintro e w3 ⟨f3, rfl, hA, hb, _, _⟩
  rw [s2 H.out.1, errF_ok]
  have U3 : Hid (UO w w3 P (g2 a b) f3) := ⟨hA, U2.out.bel.trans hb⟩
  clear hA hb U2
  go_wp2_with fail
  refine (giveU w.heap.size P (g2 a b) f3 1 b w3 U3.out.us (i2 a b) U3.out.bel.size).mono ?_
  rintro e w4 ⟨f4, rfl, hA, hb, _, _⟩
  rw [s3 H.out.1, errF_ok]
  have U4 : Hid (UO w w4 P (g3 a b) f4) := ⟨hA, U3.out.bel.trans hb⟩
  clear hA hb U3
  obtain ⟨W5, eW5⟩ : ∃ W5, W5 = w4.alloc (.cells #[.int .i64 0, .int .i64 1, .int .i64 2] 3) := ⟨_, rfl⟩
  have U5 : Hid (UO w W5 P (g3 a b) f4 ∧ Sl W5 (.slice (some ⟨w4.heap.size, 0, none⟩) 3 3) [0, 1, 2]) := by rw [eW5]; exact ⟨U4.out.later (below_alu _ _), sl3u w4 0 1 2⟩
  go_wp2_with fail
  rw [← eW5]
  clear eW5
  refine (changeU w.heap.size P (g3 a b) f4 [0, 1, 2] (some ⟨w4.heap.size, 0, none⟩) 3 3 W5 U5.out.1.us (i3 a b) U5.out.1.bel.size U5.out.2 (fun ad e _ q => by cases e; exact Nat.lt_irrefl _ (U4.out.us.fp _ q).2) (by rw [(v3 H.out.1).1]; decide)).mono ?_
  rintro e w6 ⟨q6, c6, f6, rfl, hs, hn, hA, hb, _, _⟩
  rw [s4 H.out.1, errF_ok, nv4 H.out.1]
  rw [nv4 H.out.1] at hs
  have U6 : Hid (UO w w6 P (g4 a b) f6) := ⟨hA, U5.out.1.bel.trans hb⟩
  clear hA hb hs hn U5 U4
  obtain ⟨W7, eW7⟩ : ∃ W7, W7 = w6.alloc (.cells #[.int .i64 1, .slice q6 3 c6] 30) := ⟨_, rfl⟩
  have U7 : Hid (UO w W7 P (g4 a b) f6) := by rw [eW7]; exact U6.out.later (below_alu _ _)
  go_wp2_with fail
  rw [← eW7]
  clear eW7 U6
  refine (sayU w.heap.size P (g4 a b) f6 3 1 W7 U7.out.us (i4 a b) U7.out.bel.size).mono ?_
  rintro e w8 ⟨f8, rfl, hA, hb, _, _⟩
  rw [s5 H.out.1]
  have U8 : Hid (UO w w8 P (g4 a b) f8) := ⟨by have e : say (g4 a b) 3 1 = g4 a b := if_neg (by rw [s5 H.out.1]; decide); rw [e] at hA; exact hA, U7.out.bel.trans hb⟩
  clear hA hb U7
  go_wp2_with fail
  refine (errF_same 8 w8 (H.out.2.later U8.out.bel)).mono ?_
  rintro e w9 ⟨rfl, hb⟩
  have U9 : Hid (UO w w9 P (g4 a b) f8) := U8.out.later hb
  clear hb U8
  go_wp2
  go_loopw [8, 9, 10] (fun y y9 y10 wr => ∃ m : Nat, m ≤ 3 ∧ y = .int .i64 (m : Int) ∧ Hid (UO w wr P (g4 a b) f8)) (fun y _ _ _ => 3 - (intOf y).toNat)
  case atStart => exact ⟨0, by omega, rfl, U9⟩
  case round =>
    obtain ⟨m, hm, rfl, hU⟩ := hrel
    by_cases hm3 : m < 3
    · have hm3' : (m : Int) < 3 := by omega
      go_wp2_with fail
      refine (heardU w.heap.size P (g4 a b) f8 (m : Int) 0 wr hU.out.us (i4 a b) (by rw [v4 H.out.1]; decide)).mono ?_
      rintro e w10 ⟨q10, c10, rfl, hs, _, hb⟩
      rw [(hdL4 H.out.1 hm3).1, errF_ok, (hdL4 H.out.1 hm3).2]
      rw [(hdL4 H.out.1 hm3).2] at hs
      have U10 : Hid (UO w w10 P (g4 a b) f8) := hU.out.later hb
      obtain ⟨_, _, e3, _, _, hv3⟩ := hs
      cases e3
      obtain ⟨b3, o3, rfl, hlt3, hc3⟩ := hv3.2 (by simp)
      have g0 : w10.cell? ⟨b3, o3, none⟩ = some (.int .i64 b) := hc3 0 (by simp)
      clear hb hv3 hc3
      have hbb : (b != b) = false := by simp
      go_wp2
      go_roundw
      case rel => exact ⟨m + 1, by omega, by go_num, U10.out⟩
      case measure => simp [intOf]; omega
    · have hm3' : ¬ (m : Int) < 3 := by omega
      go_wp2_with fail
      refine (heardU w.heap.size P (g4 a b) f8 3 0 wr hU.out.us (i4 a b) (by rw [v4 H.out.1]; decide)).mono ?_
      rintro e w10 ⟨q10, c10, rfl, hs, _, hb⟩
      rw [(hdL43 H.out.1).1, errF_ok, (hdL43 H.out.1).2]
      have U10 : Hid (UO w w10 P (g4 a b) f8) := hU.out.later hb
      clear hb hs
      go_wp2
      go_ret
      exact ⟨rfl, U10.out.bel⟩
theorem lost_any (a b : Int) (w : World) (hL : Laid w) : Calls Tryd.prog 3 #[.int .i64 a, .int .i64 b] w fun x w' => x = .returned (.bool true) ∧ Below w.heap.size w w' := by
  by_cases h : a < 1 ∨ 30 < a ∨ b < 1 ∨ 30 < b ∨ a = b
  · exact lost_bad a b w h
  · exact lost_ok a b w hL ⟨by omega, by omega, by omega, by omega, by omega⟩
end Go.Proofs.YtgdmbnfdcbekaaiDoor.Flu
