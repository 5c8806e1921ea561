/-
  Contract of package history's reaches: what each event of a right history reaches.
-/
import Derived.Test.YtpjoaogiaacikakGreatDoorMgW
import Derived.Deep.CutRange
namespace Go.Proofs.YtpjoaogiaacikakGreatDoor.His
open Go.RowKit

theorem says2 (word : Int) (w : World) :
    Calls Tryz.prog 72 #[.int .i64 word] w fun x w' => ∃ B, x = .returned (.func (.func 100) #[] #[.pointer (some ⟨B, 0, none⟩)]) ∧ Below w.heap.size w w' ∧ B < w'.heap.size ∧ w'.cell? ⟨B, 0, none⟩ = some (.int .i64 word) := by
  refine (says0 word w).mono ?_
  rintro e w' ⟨rfl, rfl⟩
  exact ⟨_, rfl, (Below.refl _ _).alloc (Nat.le_refl _) _, by simp, by simp⟩

theorem idx_say {h : List Ev} {N n : Nat} (hg : Good h N) (hn : n < N) (h3 : (ev h n).2.1 = 3) : idxI (says (ev h n).2.2) h = (sayAt h (ev h n).2.2 : Nat) := by
  have hs := sayAt_lt hg hn h3
  have ha : h.any (says (ev h n).2.2) = true := by
    obtain ⟨x, hx, hp⟩ := List.any_eq_true.1 (good_said hg hn h3)
    exact List.any_eq_true.2 ⟨x, List.mem_of_mem_take hx, hp⟩
  rw [idxI, if_pos ha]
  rfl

set_option maxRecDepth 100000 in
set_option maxHeartbeats 4000000 in
theorem reaches_any (a : Option Addr) (len cap : Nat) (h : List Ev) (w : World) (hlen : len ≤ 60) (hv : Ew w a len h) (hg : Good h len) :
    Calls Tryz.prog 43 #[.slice a len cap] w fun x w' => ∃ A, x = .returned (.slice (some ⟨A, 0, none⟩) len len) ∧ Below w.heap.size w w' ∧ (∃ L, Reached h w' w.heap.size A L len len) := by
  have HG : Hid (Good h len) := hg
  have G : Hid (Ew w a len h) := hv
  have hmk := mk_reach len hlen
  have HM : Hid (len ≤ maxLen) := by show len ≤ maxLen; unfold maxLen; omega
  clear hg hv
  go_enter Tryz.func43, Tryz.ntmps43
  go_wp2
  go_loopw [13] (fun i wr => ∃ k : Nat, k ≤ len ∧ i = .int .i64 k ∧ Hid (Below w.heap.size w wr) ∧ Hid (Reached h wr w.heap.size w.heap.size (w.heap.size + 1) len k)) (fun i _ => len - (intOf i).toNat)
  case atStart =>
    refine ⟨0, by omega, rfl, ((Below.refl _ _).alloc (Nat.le_refl _) _).alloc (by simp) _, Reached.start h w len _ rfl ?_⟩
    intro i hi
    exact zero25 i hi
  case round =>
    obtain ⟨k, hk, rfl, hbel, hR⟩ := hrel
    clear hmk
    by_cases hlt : k < len
    · obtain ⟨b, off, rfl, hpb, hcs⟩ := (G.out.later hbel.out).2 (by omega)
      obtain ⟨c0, c1, c2⟩ := hcs k hlt
      have hw5 := W_lt HG.out hlt
      have hwc := W_cast HG.out hlt
      rw [← hwc] at c0
      obtain ⟨q1, eq1⟩ : ∃ q, q = (ev h k).2.1 := ⟨_, rfl⟩
      obtain ⟨q2, eq2⟩ : ∃ q, q = (ev h k).2.2 := ⟨_, rfl⟩
      obtain ⟨m, em⟩ : ∃ m, m = W h k := ⟨_, rfl⟩
      rw [← eq1] at c1
      rw [← eq2] at c2
      rw [← em] at c0 hw5
      have EQ : Hid (m = W h k ∧ q1 = (ev h k).2.1 ∧ q2 = (ev h k).2.2) := And.intro em (And.intro eq1 eq2)
      have hk0 : (0 : Int) ≤ (k : Int) := by omega
      have hkl : (k : Int) < (len : Int) := by omega
      have hm0 : (0 : Int) ≤ (m : Int) := by omega
      have hm5 : (m : Int) < 5 := by omega
      clear hcs hpb hwc em eq1 eq2
      obtain ⟨fa, fl, ra, rl, hAL, hA, hL, ha, hl⟩ := hR.out
      have d0 := (rl.cell (i := m * 5) (by omega)).trans (congrArg some (hl m hw5 0 (by omega)))
      have d1 := (rl.cell (i := m * 5 + 1) (by omega)).trans (congrArg some (hl m hw5 1 (by omega)))
      have d2 := (rl.cell (i := m * 5 + 2) (by omega)).trans (congrArg some (hl m hw5 2 (by omega)))
      have d3 := (rl.cell (i := m * 5 + 3) (by omega)).trans (congrArg some (hl m hw5 3 (by omega)))
      have d4 := (rl.cell (i := m * 5 + 4) (by omega)).trans (congrArg some (hl m hw5 4 (by omega)))
      have hLs := rl.lt
      have RA : Hid (wr.rowIs w.heap.size 129 (len * 5) fa) := ra
      have RL : Hid (wr.rowIs (w.heap.size + 1) 130 25 fl) := rl
      have HA : Hid (∀ j, j < k → ∀ i, i < 5 → fa (j * 5 + i) = .int .i64 ((row h j).getD i 0)) := ha
      have HL : Hid (∀ m, m < 5 → ∀ i, i < 5 → fl (m * 5 + i) = .int .i64 ((last h k m).getD i 0)) := hl
      clear ra rl hAL hA hL ha hl hR
      have hbd := fun i (hi : i < 5) => last_bd HG.out hlt i
      rw [← EQ.out.1] at hbd
      obtain ⟨l0, el0⟩ : ∃ x, x = (last h k m).getD 0 0 := ⟨_, rfl⟩
      obtain ⟨l1, el1⟩ : ∃ x, x = (last h k m).getD 1 0 := ⟨_, rfl⟩
      obtain ⟨l2, el2⟩ : ∃ x, x = (last h k m).getD 2 0 := ⟨_, rfl⟩
      obtain ⟨l3, el3⟩ : ∃ x, x = (last h k m).getD 3 0 := ⟨_, rfl⟩
      obtain ⟨l4, el4⟩ : ∃ x, x = (last h k m).getD 4 0 := ⟨_, rfl⟩
      have b0 := hbd 0 (by omega)
      have b1 := hbd 1 (by omega)
      have b2 := hbd 2 (by omega)
      have b3 := hbd 3 (by omega)
      have b4 := hbd 4 (by omega)
      rw [← el0] at d0 b0
      rw [← el1] at d1 b1
      rw [← el2] at d2 b2
      rw [← el3] at d3 b3
      rw [← el4] at d4 b4
      have EL : Hid (last h k m = [l0, l1, l2, l3, l4]) := by rw [el0, el1, el2, el3, el4]; exact (list5 (last_len h k m)).symm
      clear el0 el1 el2 el3 el4 hbd
      have hm5' : Hid (m = 0 ∨ m = 1 ∨ m = 2 ∨ m = 3 ∨ m = 4) := by show _ ∨ _; omega
      have hFw : w.heap.size ≤ wr.heap.size + 1 := Nat.le_succ_of_le hbel.out.size
      go_upto_if 24 with fail
      go_cut [13] from 13 to 49 (fun i wc => i = .int .i64 k ∧ ∃ r0 r1 r2 r3 r4 : Int, ((0 ≤ r0 ∧ r0 ≤ 60) ∧ (0 ≤ r1 ∧ r1 ≤ 60) ∧ (0 ≤ r2 ∧ r2 ≤ 60) ∧ (0 ≤ r3 ∧ r3 ≤ 60) ∧ (0 ≤ r4 ∧ r4 ≤ 60)) ∧ Hid (row h k = upd [r0, r1, r2, r3, r4] m) ∧ Hid (Below w.heap.size w wc) ∧ Hid (Below wr.heap.size wr wc) ∧ Hid (Bx wc wr.heap.size m q1 q2) ∧ Hid (Fr wc (wr.heap.size + 1) [r0, r1, r2, r3, r4]))
      case first =>
        by_cases h3 : q1 = 3
        · subst h3
          have h3 : (ev h k).2.1 = 3 := EQ.out.2.1.symm
          have hs := sayAt_lt HG.out hlt h3
          have hx := idx_say HG.out hlt h3
          rw [← EQ.out.2.2] at hs hx
          obtain ⟨s, es⟩ : ∃ s, s = sayAt h q2 := ⟨_, rfl⟩
          rw [← es] at hs hx
          have HX : Hid (idxI (says q2) h = (s : Int)) := hx
          have hsk : s < k := hs.1
          have hsl : (s : Int) < (len : Int) := by omega
          have hs0 : (0 : Int) ≤ (s : Int) := by omega
          have hrow := row_hear HG.out hlt h3
          rw [← EQ.out.2.2, ← EQ.out.1, ← es, EL.out] at hrow
          have hsb := fun i => row_bd HG.out (show s < len by omega) i
          obtain ⟨s0, e0⟩ : ∃ x, x = (row h s).getD 0 0 := ⟨_, rfl⟩
          obtain ⟨s1, e1⟩ : ∃ x, x = (row h s).getD 1 0 := ⟨_, rfl⟩
          obtain ⟨s2, e2⟩ : ∃ x, x = (row h s).getD 2 0 := ⟨_, rfl⟩
          obtain ⟨s3, e3⟩ : ∃ x, x = (row h s).getD 3 0 := ⟨_, rfl⟩
          obtain ⟨s4, e4⟩ : ∃ x, x = (row h s).getD 4 0 := ⟨_, rfl⟩
          have t0 := hsb 0
          have t1 := hsb 1
          have t2 := hsb 2
          have t3 := hsb 3
          have t4 := hsb 4
          have HS : Hid (w9fact wr w.heap.size s s0 s1 s2 s3 s4) := by
            refine ⟨?_, ?_, ?_, ?_, ?_⟩
            · rw [e0]; exact (RA.out.cell (i := s * 5) (by omega)).trans (congrArg some (HA.out s hsk 0 (by omega)))
            · rw [e1]; exact (RA.out.cell (i := s * 5 + 1) (by omega)).trans (congrArg some (HA.out s hsk 1 (by omega)))
            · rw [e2]; exact (RA.out.cell (i := s * 5 + 2) (by omega)).trans (congrArg some (HA.out s hsk 2 (by omega)))
            · rw [e3]; exact (RA.out.cell (i := s * 5 + 3) (by omega)).trans (congrArg some (HA.out s hsk 3 (by omega)))
            · rw [e4]; exact (RA.out.cell (i := s * 5 + 4) (by omega)).trans (congrArg some (HA.out s hsk 4 (by omega)))
          have hrs : row h s = [s0, s1, s2, s3, s4] := by rw [e0, e1, e2, e3, e4]; exact (list5 (row_len h s)).symm
          rw [hrs] at hrow
          rw [← e0] at t0
          rw [← e1] at t1
          rw [← e2] at t2
          rw [← e3] at t3
          rw [← e4] at t4
          have hrow' : row h k = upd [max l0 s0, max l1 s1, max l2 s2, max l3 s3, max l4 s4] m := hrow
          have ROW : Hid (row h k = upd [max l0 s0, max l1 s1, max l2 s2, max l3 s3, max l4 s4] m) := hrow'
          clear hrow hrow' hrs e0 e1 e2 e3 e4 hsb hs hx h3 es
          go_wp2_with fail
          refine wp_gen (fun w8 => Hid (Below wr.heap.size wr w8) ∧ Hid (Bx w8 wr.heap.size m 3 q2) ∧ Hid (Fr w8 (wr.heap.size + 1) [l0, l1, l2, l3, l4])) ?_ ?_
          · refine ⟨((Below.refl _ _).alloc (Nat.le_refl _) _).alloc (by simp) _, (Bx.lit _ _ _ _ _).later ((Below.refl _ _).alloc (Nat.le_refl _) _), ?_⟩
            have F := Fr.lit (wr.alloc (.cells #[.int .i64 (m : Int), .int .i64 3, .int .i64 q2] 40)) l0 l1 l2 l3 l4
            simp only [World.size_alloc] at F
            exact F
          · rintro w8 ⟨B8, X8, F8⟩
            obtain ⟨hx8, x0, x1, x2⟩ := X8.out
            obtain ⟨f0, f1, f2, f3, f4⟩ := F8.out.cells
            clear c0 c1 c2 d0 d1 d2 d3 d4
            go_region_with (first
              | (go_at_call 72; refine (says2 q2 _).mono ?_; rintro e w81 ⟨B, rfl, h81', g81, k81⟩; have h81 : Below w8.heap.size w8 w81 := below_up rfl (Below.refl w8.heap.size w8).drew h81'; have y1 := (F8.out.later h81).cells; obtain ⟨f10, f11, f12, f13, f14⟩ := y1; have H81 : Hid (Below w8.heap.size w8 w81 ∧ B < w81.heap.size ∧ w81.cell? ⟨B, 0, none⟩ = some (.int .i64 q2)) := ⟨h81, g81, k81⟩; clear h81 h81' g81 k81)
              | (go_at_call 71; refine (idxFunc (some ⟨b, off, none⟩) len cap h q2 _ _ HM.out ?_ H81.out.2.1 H81.out.2.2).mono ?_; exact ((G.out.later hbel.out).later B8.out).later H81.out.1; rintro e w82 ⟨rfl, h82⟩; rw [HX.out]; have H82 : Hid (Below w8.heap.size w8 w82) := below_up rfl H81.out.1 h82; have y2 := (F8.out.later H82.out).cells; obtain ⟨f20, f21, f22, f23, f24⟩ := y2; have y3 := HS.out.later RA.out.lt (below_up rfl B8.out H82.out); obtain ⟨g0, g1, g2, g3, g4⟩ := y3; clear h82)
              | (go_at_call 70; refine (with1 l0 l1 l2 l3 l4 s0 s1 s2 s3 s4 _).mono ?_; rintro e w83 ⟨rfl, h83⟩; have H83 : Hid (Below w8.heap.size w8 w83) := below_up rfl H82.out h83; have y4 := (F8.out.later H83.out).cells; obtain ⟨f30, f31, f32, f33, f34⟩ := y4; have z4 := fun i => World.rowIs.frozen (F8.out.later H83.out) i; clear h83))
            all_goals
              go_wp2_with fail
              go_meet
              case rel =>
                refine ⟨rfl, max l0 s0, max l1 s1, max l2 s2, max l3 s3, max l4 s4, by omega, ROW.out, ?_, ?_, ?_, ?_⟩
                · exact (((((below_up rfl hbel.out (below_up rfl B8.out H83.out)).setCell (p := ⟨_, _, none⟩) hFw _).setCell (p := ⟨_, _, none⟩) hFw _).setCell (p := ⟨_, _, none⟩) hFw _).setCell (p := ⟨_, _, none⟩) hFw _).setCell (p := ⟨_, _, none⟩) hFw _
                · exact (((((below_up rfl B8.out H83.out).setCell (p := ⟨_, _, none⟩) (Nat.le_succ _) _).setCell (p := ⟨_, _, none⟩) (Nat.le_succ _) _).setCell (p := ⟨_, _, none⟩) (Nat.le_succ _) _).setCell (p := ⟨_, _, none⟩) (Nat.le_succ _) _).setCell (p := ⟨_, _, none⟩) (Nat.le_succ _) _
                · exact (((((X8.out.later H83.out).set (Nat.ne_of_lt (Nat.lt_succ_self _)) _).set (Nat.ne_of_lt (Nat.lt_succ_self _)) _).set (Nat.ne_of_lt (Nat.lt_succ_self _)) _).set (Nat.ne_of_lt (Nat.lt_succ_self _)) _).set (Nat.ne_of_lt (Nat.lt_succ_self _)) _
                · exact (((((F8.out.later H83.out).set rfl 0 (by omega) _).set rfl 1 (by omega) _).set rfl 2 (by omega) _).set rfl 3 (by omega) _).set rfl 4 (by omega) _
        · have h3' : (q1 == 3) = false := by simp [h3]
          have hrow := row_plain (h := h) (n := k) (by rw [← EQ.out.2.1]; exact h3)
          rw [← EQ.out.1, EL.out] at hrow
          have ROW : Hid (row h k = upd [l0, l1, l2, l3, l4] m) := hrow
          clear hrow
          go_wp2
          go_meet
          case rel =>
            refine ⟨rfl, l0, l1, l2, l3, l4, by omega, ROW.out, ?_, ?_, ?_, ?_⟩
            · exact ((hbel.out.alloc hbel.out.size _).alloc (by simp; have := hbel.out.size; omega) _)
            · exact ((Below.refl _ _).alloc (Nat.le_refl _) _).alloc (by simp) _
            · exact (Bx.lit _ _ _ _ _).later ((Below.refl _ _).alloc (Nat.le_refl _) _)
            · have F := Fr.lit (wr.alloc (.cells #[.int .i64 (m : Int), .int .i64 q1, .int .i64 q2] 40)) l0 l1 l2 l3 l4
              simp only [World.size_alloc] at F
              exact F
      case rest =>
        obtain ⟨rfl, r0, r1, r2, r3, r4, ⟨b0, b1, b2, b3, b4⟩, hrow, hB, hBr, hX, hF⟩ := hcut
        clear c0 c1 c2 d0 d1 d2 d3 d4
        obtain ⟨hx, x0, x1, x2⟩ := hX.out
        obtain ⟨f0, f1, f2, f3, f4⟩ := hF.out.cells
        have z0 := fun i => World.rowIs.frozen hF.out i
        have hFr : wr.heap.size + 1 < wc.heap.size := World.rowIs.lt hF.out
        rcases hm5'.out with rfl | rfl | rfl | rfl | rfl
        · go_wp2_with fail
          refine wp_gen (fun w9 => Hid (Below w.heap.size w w9) ∧ Hid (Below wr.heap.size wr w9) ∧ Hid (Bx w9 wr.heap.size 0 q1 q2) ∧ Hid (Fr w9 (wr.heap.size + 1) [r0 + 1, r1, r2, r3, r4])) ?_ ?_
          · refine ⟨?_, ?_, ?_, ?_⟩
            · exact hB.out.setCell (p := ⟨_, _, none⟩) hFw _
            · exact hBr.out.setCell (p := ⟨_, _, none⟩) (Nat.le_succ _) _
            · exact hX.out.set (Nat.ne_of_lt (Nat.lt_succ_self _)) _
            · exact hF.out.set rfl 0 (by omega) _
          · rintro w9 ⟨B9, Br9, X9, F9⟩
            have RA9 : Hid (w9.rowIs w.heap.size 129 (len * 5) fa) := rowIs_later RA.out Br9.out
            have RL9 : Hid (w9.rowIs (w.heap.size + 1) 130 25 fl) := rowIs_later RL.out Br9.out
            clear x0 x1 x2 f0 f1 f2 f3 f4 z0 hx
            obtain ⟨hx, x0, x1, x2⟩ := X9.out
            obtain ⟨f0, f1, f2, f3, f4⟩ := F9.out.cells
            have hk5 : k * 5 + 4 < len * 5 := by omega
            have u0 := RA9.out.cell (i := k * 5) (by omega)
            have u1 := RA9.out.cell (i := k * 5 + 1) (by omega)
            have u2 := RA9.out.cell (i := k * 5 + 2) (by omega)
            have u3 := RA9.out.cell (i := k * 5 + 3) (by omega)
            have u4 := RA9.out.cell (i := k * 5 + 4) (by omega)
            have z1 := RA9.out.frozen
            have v0 := RL9.out.cell (i := 0) (by omega)
            have v1 := RL9.out.cell (i := 1) (by omega)
            have v2 := RL9.out.cell (i := 2) (by omega)
            have v3 := RL9.out.cell (i := 3) (by omega)
            have v4 := RL9.out.cell (i := 4) (by omega)
            have z2 := RL9.out.frozen
            go_region
            go_wp2
            go_roundw
            case rel =>
              exact ⟨k + 1, by omega, by go_num, Below.store10 B9.out (Nat.le_refl _) (Nat.le_succ _), Reached.step RA9.out RL9.out (Nat.ne_of_lt (Nat.lt_succ_self _)) (Nat.le_refl _) (Nat.le_succ _) HA.out HL.out EQ.out.1 hrow.out rfl rfl rfl rfl rfl⟩
            case measure => simp [intOf]; omega
        · go_wp2_with fail
          refine wp_gen (fun w9 => Hid (Below w.heap.size w w9) ∧ Hid (Below wr.heap.size wr w9) ∧ Hid (Bx w9 wr.heap.size 1 q1 q2) ∧ Hid (Fr w9 (wr.heap.size + 1) [r0, r1 + 1, r2, r3, r4])) ?_ ?_
          · refine ⟨?_, ?_, ?_, ?_⟩
            · exact hB.out.setCell (p := ⟨_, _, none⟩) hFw _
            · exact hBr.out.setCell (p := ⟨_, _, none⟩) (Nat.le_succ _) _
            · exact hX.out.set (Nat.ne_of_lt (Nat.lt_succ_self _)) _
            · exact hF.out.set rfl 1 (by omega) _
          · rintro w9 ⟨B9, Br9, X9, F9⟩
            have RA9 : Hid (w9.rowIs w.heap.size 129 (len * 5) fa) := rowIs_later RA.out Br9.out
            have RL9 : Hid (w9.rowIs (w.heap.size + 1) 130 25 fl) := rowIs_later RL.out Br9.out
            clear x0 x1 x2 f0 f1 f2 f3 f4 z0 hx
            obtain ⟨hx, x0, x1, x2⟩ := X9.out
            obtain ⟨f0, f1, f2, f3, f4⟩ := F9.out.cells
            have hk5 : k * 5 + 4 < len * 5 := by omega
            have u0 := RA9.out.cell (i := k * 5) (by omega)
            have u1 := RA9.out.cell (i := k * 5 + 1) (by omega)
            have u2 := RA9.out.cell (i := k * 5 + 2) (by omega)
            have u3 := RA9.out.cell (i := k * 5 + 3) (by omega)
            have u4 := RA9.out.cell (i := k * 5 + 4) (by omega)
            have z1 := RA9.out.frozen
            have v0 := RL9.out.cell (i := 5) (by omega)
            have v1 := RL9.out.cell (i := 6) (by omega)
            have v2 := RL9.out.cell (i := 7) (by omega)
            have v3 := RL9.out.cell (i := 8) (by omega)
            have v4 := RL9.out.cell (i := 9) (by omega)
            have z2 := RL9.out.frozen
            go_region
            go_wp2
            go_roundw
            case rel =>
              exact ⟨k + 1, by omega, by go_num, Below.store10 B9.out (Nat.le_refl _) (Nat.le_succ _), Reached.step RA9.out RL9.out (Nat.ne_of_lt (Nat.lt_succ_self _)) (Nat.le_refl _) (Nat.le_succ _) HA.out HL.out EQ.out.1 hrow.out rfl rfl rfl rfl rfl⟩
            case measure => simp [intOf]; omega
        · go_wp2_with fail
          refine wp_gen (fun w9 => Hid (Below w.heap.size w w9) ∧ Hid (Below wr.heap.size wr w9) ∧ Hid (Bx w9 wr.heap.size 2 q1 q2) ∧ Hid (Fr w9 (wr.heap.size + 1) [r0, r1, r2 + 1, r3, r4])) ?_ ?_
          · refine ⟨?_, ?_, ?_, ?_⟩
            · exact hB.out.setCell (p := ⟨_, _, none⟩) hFw _
            · exact hBr.out.setCell (p := ⟨_, _, none⟩) (Nat.le_succ _) _
            · exact hX.out.set (Nat.ne_of_lt (Nat.lt_succ_self _)) _
            · exact hF.out.set rfl 2 (by omega) _
          · rintro w9 ⟨B9, Br9, X9, F9⟩
            have RA9 : Hid (w9.rowIs w.heap.size 129 (len * 5) fa) := rowIs_later RA.out Br9.out
            have RL9 : Hid (w9.rowIs (w.heap.size + 1) 130 25 fl) := rowIs_later RL.out Br9.out
            clear x0 x1 x2 f0 f1 f2 f3 f4 z0 hx
            obtain ⟨hx, x0, x1, x2⟩ := X9.out
            obtain ⟨f0, f1, f2, f3, f4⟩ := F9.out.cells
            have hk5 : k * 5 + 4 < len * 5 := by omega
            have u0 := RA9.out.cell (i := k * 5) (by omega)
            have u1 := RA9.out.cell (i := k * 5 + 1) (by omega)
            have u2 := RA9.out.cell (i := k * 5 + 2) (by omega)
            have u3 := RA9.out.cell (i := k * 5 + 3) (by omega)
            have u4 := RA9.out.cell (i := k * 5 + 4) (by omega)
            have z1 := RA9.out.frozen
            have v0 := RL9.out.cell (i := 10) (by omega)
            have v1 := RL9.out.cell (i := 11) (by omega)
            have v2 := RL9.out.cell (i := 12) (by omega)
            have v3 := RL9.out.cell (i := 13) (by omega)
            have v4 := RL9.out.cell (i := 14) (by omega)
            have z2 := RL9.out.frozen
            go_region
            go_wp2
            go_roundw
            case rel =>
              exact ⟨k + 1, by omega, by go_num, Below.store10 B9.out (Nat.le_refl _) (Nat.le_succ _), Reached.step RA9.out RL9.out (Nat.ne_of_lt (Nat.lt_succ_self _)) (Nat.le_refl _) (Nat.le_succ _) HA.out HL.out EQ.out.1 hrow.out rfl rfl rfl rfl rfl⟩
            case measure => simp [intOf]; omega
        · go_wp2_with fail
          refine wp_gen (fun w9 => Hid (Below w.heap.size w w9) ∧ Hid (Below wr.heap.size wr w9) ∧ Hid (Bx w9 wr.heap.size 3 q1 q2) ∧ Hid (Fr w9 (wr.heap.size + 1) [r0, r1, r2, r3 + 1, r4])) ?_ ?_
          · refine ⟨?_, ?_, ?_, ?_⟩
            · exact hB.out.setCell (p := ⟨_, _, none⟩) hFw _
            · exact hBr.out.setCell (p := ⟨_, _, none⟩) (Nat.le_succ _) _
            · exact hX.out.set (Nat.ne_of_lt (Nat.lt_succ_self _)) _
            · exact hF.out.set rfl 3 (by omega) _
          · rintro w9 ⟨B9, Br9, X9, F9⟩
            have RA9 : Hid (w9.rowIs w.heap.size 129 (len * 5) fa) := rowIs_later RA.out Br9.out
            have RL9 : Hid (w9.rowIs (w.heap.size + 1) 130 25 fl) := rowIs_later RL.out Br9.out
            clear x0 x1 x2 f0 f1 f2 f3 f4 z0 hx
            obtain ⟨hx, x0, x1, x2⟩ := X9.out
            obtain ⟨f0, f1, f2, f3, f4⟩ := F9.out.cells
            have hk5 : k * 5 + 4 < len * 5 := by omega
            have u0 := RA9.out.cell (i := k * 5) (by omega)
            have u1 := RA9.out.cell (i := k * 5 + 1) (by omega)
            have u2 := RA9.out.cell (i := k * 5 + 2) (by omega)
            have u3 := RA9.out.cell (i := k * 5 + 3) (by omega)
            have u4 := RA9.out.cell (i := k * 5 + 4) (by omega)
            have z1 := RA9.out.frozen
            have v0 := RL9.out.cell (i := 15) (by omega)
            have v1 := RL9.out.cell (i := 16) (by omega)
            have v2 := RL9.out.cell (i := 17) (by omega)
            have v3 := RL9.out.cell (i := 18) (by omega)
            have v4 := RL9.out.cell (i := 19) (by omega)
            have z2 := RL9.out.frozen
            go_region
            go_wp2
            go_roundw
            case rel =>
              exact ⟨k + 1, by omega, by go_num, Below.store10 B9.out (Nat.le_refl _) (Nat.le_succ _), Reached.step RA9.out RL9.out (Nat.ne_of_lt (Nat.lt_succ_self _)) (Nat.le_refl _) (Nat.le_succ _) HA.out HL.out EQ.out.1 hrow.out rfl rfl rfl rfl rfl⟩
            case measure => simp [intOf]; omega
        · go_wp2_with fail
          refine wp_gen (fun w9 => Hid (Below w.heap.size w w9) ∧ Hid (Below wr.heap.size wr w9) ∧ Hid (Bx w9 wr.heap.size 4 q1 q2) ∧ Hid (Fr w9 (wr.heap.size + 1) [r0, r1, r2, r3, r4 + 1])) ?_ ?_
          · refine ⟨?_, ?_, ?_, ?_⟩
            · exact hB.out.setCell (p := ⟨_, _, none⟩) hFw _
            · exact hBr.out.setCell (p := ⟨_, _, none⟩) (Nat.le_succ _) _
            · exact hX.out.set (Nat.ne_of_lt (Nat.lt_succ_self _)) _
            · exact hF.out.set rfl 4 (by omega) _
          · rintro w9 ⟨B9, Br9, X9, F9⟩
            have RA9 : Hid (w9.rowIs w.heap.size 129 (len * 5) fa) := rowIs_later RA.out Br9.out
            have RL9 : Hid (w9.rowIs (w.heap.size + 1) 130 25 fl) := rowIs_later RL.out Br9.out
            clear x0 x1 x2 f0 f1 f2 f3 f4 z0 hx
            obtain ⟨hx, x0, x1, x2⟩ := X9.out
            obtain ⟨f0, f1, f2, f3, f4⟩ := F9.out.cells
            have hk5 : k * 5 + 4 < len * 5 := by omega
            have u0 := RA9.out.cell (i := k * 5) (by omega)
            have u1 := RA9.out.cell (i := k * 5 + 1) (by omega)
            have u2 := RA9.out.cell (i := k * 5 + 2) (by omega)
            have u3 := RA9.out.cell (i := k * 5 + 3) (by omega)
            have u4 := RA9.out.cell (i := k * 5 + 4) (by omega)
            have z1 := RA9.out.frozen
            have v0 := RL9.out.cell (i := 20) (by omega)
            have v1 := RL9.out.cell (i := 21) (by omega)
            have v2 := RL9.out.cell (i := 22) (by omega)
            have v3 := RL9.out.cell (i := 23) (by omega)
            have v4 := RL9.out.cell (i := 24) (by omega)
            have z2 := RL9.out.frozen
            go_region
            go_wp2
            go_roundw
            case rel =>
              exact ⟨k + 1, by omega, by go_num, Below.store10 B9.out (Nat.le_refl _) (Nat.le_succ _), Reached.step RA9.out RL9.out (Nat.ne_of_lt (Nat.lt_succ_self _)) (Nat.le_refl _) (Nat.le_succ _) HA.out HL.out EQ.out.1 hrow.out rfl rfl rfl rfl rfl⟩
            case measure => simp [intOf]; omega
    · have hkl : k = len := by omega
      subst hkl
      go_wp2
      go_ret
      exact ⟨_, rfl, hbel.out, _, hR.out⟩
end Go.Proofs.YtpjoaogiaacikakGreatDoor.His
