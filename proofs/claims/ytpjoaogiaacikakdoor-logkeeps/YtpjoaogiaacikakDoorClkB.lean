/-
  Contracts of package clock's along: the numbers, and the vectors, of all events of a right history.
-/
import Derived.Test.YtpjoaogiaacikakDoorClkR
import Derived.Deep.CutRange
import Derived.Deep.RegionWith
import Derived.Deep.RegionHeld3
namespace Go.Proofs.YtpjoaogiaacikakDoor.His
open Go.RowKit

set_option maxRecDepth 100000 in
set_option maxHeartbeats 8000000 in
theorem alongV (a : Option Addr) (len cap : Nat) (h : List Ev) (w : World) (hlen : len ≤ 60) (hv : Ew w a len h) (hg : Good h len) :
    Calls Tryd.prog 31 #[.slice a len cap, .func (.func 32) #[] #[]] w fun x w' => ∃ A, x = .returned (.slice (some ⟨A, 0, none⟩) len len) ∧ Below w.heap.size w w' ∧ (∃ L, CReached h w' w.heap.size A L len len) := by
  have HG : Hid (Good h len) := hg
  have G : Hid (Ew w a len h) := hv
  have hmk := mk_counts len hlen
  have HM : Hid (len ≤ maxLen) := by show len ≤ maxLen; unfold maxLen; omega
  clear hg hv
  go_enter Tryd.func31, Tryd.ntmps31
  go_wp2
  go_loopw [15] (fun i wr => ∃ k : Nat, k ≤ len ∧ i = .int .i64 k ∧ Hid (Below w.heap.size w wr) ∧ Hid (CReached h wr w.heap.size w.heap.size (w.heap.size + 1) len k)) (fun i _ => len - (intOf i).toNat)
  case atStart =>
    refine ⟨0, by omega, rfl, ((Below.refl _ _).alloc (Nat.le_refl _) _).alloc (by simp) _, CReached.start h w len _ rfl ?_⟩
    intro i hi
    exact zero25c i hi
  case round =>
    obtain ⟨k, hk, rfl, hbel, hR⟩ := hrel
    clear hmk
    by_cases hlt : k < len
    · obtain ⟨b, off, rfl, hpb, hcs⟩ := (G.out.later hbel.out).2 (by omega)
      obtain ⟨c0, c1, c2⟩ := hcs k hlt
      have hw5 := W_lt HG.out hlt
      have hwc := W_cast HG.out hlt
      rw [← hwc] at c0
      obtain ⟨q1, eq1⟩ : ∃ q, q = (ev h k).2.1 := ⟨_, rfl⟩
      obtain ⟨q2, eq2⟩ : ∃ q, q = (ev h k).2.2 := ⟨_, rfl⟩
      obtain ⟨m, em⟩ : ∃ m, m = W h k := ⟨_, rfl⟩
      rw [← eq1] at c1
      rw [← eq2] at c2
      rw [← em] at c0 hw5
      have EQ : Hid (m = W h k ∧ q1 = (ev h k).2.1 ∧ q2 = (ev h k).2.2) := And.intro em (And.intro eq1 eq2)
      have hk0 : (0 : Int) ≤ (k : Int) := by omega
      have hkl : (k : Int) < (len : Int) := by omega
      have hm0 : (0 : Int) ≤ (m : Int) := by omega
      have hm5 : (m : Int) < 5 := by omega
      clear hcs hpb hwc em eq1 eq2
      have hFw : w.heap.size ≤ wr.heap.size + 1 := Nat.le_succ_of_le hbel.out.size
      have hAne : Hid (wr.heap.size ≠ w.heap.size) := by
        obtain ⟨fa, fl, ra, rl, hAL, hA, hL, ha, hl⟩ := hR.out
        exact Ne.symm (Nat.ne_of_lt ra.lt)
      have hbd := fun i (_ : i < 5) => last_bd HG.out hlt i
      rw [← EQ.out.1] at hbd
      obtain ⟨l0, el0⟩ : ∃ x, x = (last h k m).getD 0 0 := ⟨_, rfl⟩
      obtain ⟨l1, el1⟩ : ∃ x, x = (last h k m).getD 1 0 := ⟨_, rfl⟩
      obtain ⟨l2, el2⟩ : ∃ x, x = (last h k m).getD 2 0 := ⟨_, rfl⟩
      obtain ⟨l3, el3⟩ : ∃ x, x = (last h k m).getD 3 0 := ⟨_, rfl⟩
      obtain ⟨l4, el4⟩ : ∃ x, x = (last h k m).getD 4 0 := ⟨_, rfl⟩
      have b0 := hbd 0 (by omega)
      have b1 := hbd 1 (by omega)
      have b2 := hbd 2 (by omega)
      have b3 := hbd 3 (by omega)
      have b4 := hbd 4 (by omega)
      rw [← el0] at b0
      rw [← el1] at b1
      rw [← el2] at b2
      rw [← el3] at b3
      rw [← el4] at b4
      have EL : Hid (last h k m = [l0, l1, l2, l3, l4]) := by rw [el0, el1, el2, el3, el4]; exact (list5 (last_len h k m)).symm
      have LB : Hid ((0 ≤ l0 ∧ l0 ≤ 60) ∧ (0 ≤ l1 ∧ l1 ≤ 60) ∧ (0 ≤ l2 ∧ l2 ≤ 60) ∧ (0 ≤ l3 ∧ l3 ≤ 60) ∧ (0 ≤ l4 ∧ l4 ≤ 60)) := by
        show _ ∧ _
        omega
      clear el0 el1 el2 el3 el4 hbd b0 b1 b2 b3 b4
      go_upto_if 22 with fail
      go_cut [15] from 15 to 49 (fun i wc => i = .int .i64 k ∧ ∃ s0 s1 s2 s3 s4 : Int, Hid ((0 ≤ s0 ∧ s0 ≤ 60) ∧ (0 ≤ s1 ∧ s1 ≤ 60) ∧ (0 ≤ s2 ∧ s2 ≤ 60) ∧ (0 ≤ s3 ∧ s3 ≤ 60) ∧ (0 ≤ s4 ∧ s4 ≤ 60)) ∧ Hid (row h k = upd (joinR [l0, l1, l2, l3, l4] [s0, s1, s2, s3, s4]) m) ∧ Hid (Below w.heap.size w wc) ∧ Hid (Below wr.heap.size wr wc) ∧ Hid (Bx wc wr.heap.size m q1 q2) ∧ Hid (CFr wc (wr.heap.size + 1) [s0, s1, s2, s3, s4]))
      case first =>
        by_cases h3 : q1 = 3
        · subst h3
          have h3 : (ev h k).2.1 = 3 := EQ.out.2.1.symm
          have hs := sayAt_lt HG.out hlt h3
          have hx := idx_say2 HG.out hlt h3
          rw [← EQ.out.2.2] at hs hx
          obtain ⟨s, es⟩ : ∃ s, s = sayAt h q2 := ⟨_, rfl⟩
          rw [← es] at hs hx
          have HX : Hid (idxI (says q2) h = (s : Int)) := hx
          have hsk : s < k := hs.1
          have hsl : (s : Int) < (len : Int) := by omega
          have hs0 : (0 : Int) ≤ (s : Int) := by omega
          have hrow := row_hear HG.out hlt h3
          rw [← EQ.out.2.2, ← EQ.out.1, ← es, EL.out] at hrow
          have hsb := fun i => row_bd HG.out (show s < len by omega) i
          obtain ⟨s0, e0⟩ : ∃ x, x = (row h s).getD 0 0 := ⟨_, rfl⟩
          obtain ⟨s1, e1⟩ : ∃ x, x = (row h s).getD 1 0 := ⟨_, rfl⟩
          obtain ⟨s2, e2⟩ : ∃ x, x = (row h s).getD 2 0 := ⟨_, rfl⟩
          obtain ⟨s3, e3⟩ : ∃ x, x = (row h s).getD 3 0 := ⟨_, rfl⟩
          obtain ⟨s4, e4⟩ : ∃ x, x = (row h s).getD 4 0 := ⟨_, rfl⟩
          have t0 := hsb 0
          have t1 := hsb 1
          have t2 := hsb 2
          have t3 := hsb 3
          have t4 := hsb 4
          have HS : Hid (c9fact wr w.heap.size s s0 s1 s2 s3 s4 ∧ w.heap.size < wr.heap.size) := by
            obtain ⟨fa, fl, ra, rl, hAL, hA, hL, ha, hl⟩ := hR.out
            refine ⟨⟨?_, ?_, ?_, ?_, ?_⟩, ra.lt⟩
            · rw [e0]; exact (ra.cell (i := s * 5) (by omega)).trans (congrArg some (ha s hsk 0 (by omega)))
            · rw [e1]; exact (ra.cell (i := s * 5 + 1) (by omega)).trans (congrArg some (ha s hsk 1 (by omega)))
            · rw [e2]; exact (ra.cell (i := s * 5 + 2) (by omega)).trans (congrArg some (ha s hsk 2 (by omega)))
            · rw [e3]; exact (ra.cell (i := s * 5 + 3) (by omega)).trans (congrArg some (ha s hsk 3 (by omega)))
            · rw [e4]; exact (ra.cell (i := s * 5 + 4) (by omega)).trans (congrArg some (ha s hsk 4 (by omega)))
          have hrs : row h s = [s0, s1, s2, s3, s4] := by rw [e0, e1, e2, e3, e4]; exact (list5 (row_len h s)).symm
          rw [hrs] at hrow
          rw [← e0] at t0
          rw [← e1] at t1
          rw [← e2] at t2
          rw [← e3] at t3
          rw [← e4] at t4
          have ROW : Hid (row h k = upd (joinR [l0, l1, l2, l3, l4] [s0, s1, s2, s3, s4]) m) := hrow
          have SB : Hid ((0 ≤ s0 ∧ s0 ≤ 60) ∧ (0 ≤ s1 ∧ s1 ≤ 60) ∧ (0 ≤ s2 ∧ s2 ≤ 60) ∧ (0 ≤ s3 ∧ s3 ≤ 60) ∧ (0 ≤ s4 ∧ s4 ≤ 60)) := by
            show _ ∧ _
            omega
          clear hrow hrs e0 e1 e2 e3 e4 hsb hs hx h3 es t0 t1 t2 t3 t4
          have B8 : Hid (Below wr.heap.size wr ((wr.alloc (.cells #[.int .i64 (m : Int), .int .i64 3, .int .i64 q2] 28)).alloc (.cells #[.int .i64 0, .int .i64 0, .int .i64 0, .int .i64 0, .int .i64 0] 69))) := ((Below.refl _ _).alloc (Nat.le_refl _) _).alloc (by simp) _
          have X8 : Hid (Bx ((wr.alloc (.cells #[.int .i64 (m : Int), .int .i64 3, .int .i64 q2] 28)).alloc (.cells #[.int .i64 0, .int .i64 0, .int .i64 0, .int .i64 0, .int .i64 0] 69)) wr.heap.size m 3 q2) := (Bx.lit _ _ _ _ _).later ((Below.refl _ _).alloc (Nat.le_refl _) _)
          have F8 : Hid (CFr ((wr.alloc (.cells #[.int .i64 (m : Int), .int .i64 3, .int .i64 q2] 28)).alloc (.cells #[.int .i64 0, .int .i64 0, .int .i64 0, .int .i64 0, .int .i64 0] 69)) (wr.heap.size + 1) [0, 0, 0, 0, 0]) := by
            have F := CFr.lit (wr.alloc (.cells #[.int .i64 (m : Int), .int .i64 3, .int .i64 q2] 28)) 0 0 0 0 0
            simp only [World.size_alloc] at F
            exact F
          go_wp2_with fail
          · clear c0 c1 c2
            refine (saidAt1 (some ⟨b, off, none⟩) len cap h q2 _ HM.out ((G.out.later hbel.out).later B8.out)).mono ?_
            rintro e w9 ⟨rfl, hb9⟩
            rw [HX.out]
            have H9 : Hid (Below wr.heap.size wr w9) := below_up rfl B8.out hb9
            have X9 : Hid (Bx w9 wr.heap.size m 3 q2) := X8.out.later hb9
            have F9 : Hid (CFr w9 (wr.heap.size + 1) [0, 0, 0, 0, 0]) := F8.out.later hb9
            obtain ⟨g0, g1, g2, g3, g4⟩ := HS.out.1.later HS.out.2 H9.out
            obtain ⟨f0, f1, f2, f3, f4⟩ := F9.out.cells
            have z9 := fun i => World.rowIs.frozen F9.out i
            clear hb9
            go_wp2
            go_meet
            case rel =>
              refine ⟨rfl, s0, s1, s2, s3, s4, SB.out, ROW.out, ?_, ?_, ?_, ?_⟩
              · exact below_five (below_up rfl hbel.out H9.out) hFw
              · exact below_five H9.out (Nat.le_succ _)
              · exact bx_five X9.out (Nat.ne_of_lt (Nat.lt_succ_self _))
              · exact (((((F9.out.set rfl 0 (by omega) _).set rfl 1 (by omega) _).set rfl 2 (by omega) _).set rfl 3 (by omega) _).set rfl 4 (by omega) _)
        · have h3' : (q1 == 3) = false := by simp [h3]
          have hrow := row_plain (h := h) (n := k) (by rw [← EQ.out.2.1]; exact h3)
          rw [← EQ.out.1, EL.out] at hrow
          have ROW : Hid (row h k = upd (joinR [l0, l1, l2, l3, l4] [0, 0, 0, 0, 0]) m) := by
            obtain ⟨y0, y1, y2, y3, y4⟩ := LB.out
            show _ = _
            rw [hrow, join_zero y0.1 y1.1 y2.1 y3.1 y4.1]
          clear hrow
          go_wp2
          go_meet
          case rel =>
            refine ⟨rfl, 0, 0, 0, 0, 0, ⟨by omega, by omega, by omega, by omega, by omega⟩, ROW.out, ?_, ?_, ?_, ?_⟩
            · exact ((hbel.out.alloc hbel.out.size _).alloc (by simp; have := hbel.out.size; omega) _)
            · exact ((Below.refl _ _).alloc (Nat.le_refl _) _).alloc (by simp) _
            · exact (Bx.lit _ _ _ _ _).later ((Below.refl _ _).alloc (Nat.le_refl _) _)
            · have F := CFr.lit (wr.alloc (.cells #[.int .i64 (m : Int), .int .i64 q1, .int .i64 q2] 28)) 0 0 0 0 0
              simp only [World.size_alloc] at F
              exact F
      case rest =>
        obtain ⟨rfl, s0, s1, s2, s3, s4, SB, hrow, hB, hBr, hX, hF⟩ := hcut
        clear c0 c1 c2
        obtain ⟨hx, x0, x1, x2⟩ := hX.out
        obtain ⟨f0, f1, f2, f3, f4⟩ := hF.out.cells
        have hFr : wr.heap.size + 1 < wc.heap.size := World.rowIs.lt hF.out
        have RC : Hid (CReached h wc w.heap.size w.heap.size (w.heap.size + 1) len k) := hR.out.later hBr.out
        have dd : c9fact wc (w.heap.size + 1) m l0 l1 l2 l3 l4 := by
          obtain ⟨fa, fl, ra, rl, hAL, hA, hL, ha, hl⟩ := RC.out
          have hl := hl m hw5
          rw [EL.out] at hl
          have q := fun i (hi : i < 5) => (rl.cell (i := m * 5 + i) (by omega)).trans (congrArg some (hl i hi))
          exact ⟨q 0 (by omega), q 1 (by omega), q 2 (by omega), q 3 (by omega), q 4 (by omega)⟩
        obtain ⟨d0, d1, d2, d3, d4⟩ := dd
        have hk5 : k * 5 + 4 < len * 5 := by omega
        have uu : ∃ y0 y1 y2 y3 y4, wc.cell? ⟨w.heap.size, k * 5, none⟩ = some y0 ∧ wc.cell? ⟨w.heap.size, k * 5 + 1, none⟩ = some y1 ∧ wc.cell? ⟨w.heap.size, k * 5 + 2, none⟩ = some y2 ∧ wc.cell? ⟨w.heap.size, k * 5 + 3, none⟩ = some y3 ∧ wc.cell? ⟨w.heap.size, k * 5 + 4, none⟩ = some y4 ∧ ∀ i, wc.frozen? ⟨w.heap.size, i, none⟩ = false := by
          obtain ⟨fa, fl, ra, rl, hAL, hA, hL, ha, hl⟩ := RC.out
          exact ⟨_, _, _, _, _, ra.cell (i := k * 5) (by omega), ra.cell (i := k * 5 + 1) (by omega), ra.cell (i := k * 5 + 2) (by omega), ra.cell (i := k * 5 + 3) (by omega), ra.cell (i := k * 5 + 4) (by omega), ra.frozen⟩
        obtain ⟨y0, y1, y2, y3, y4, u0, u1, u2, u3, u4, z0⟩ := uu
        have UU : Hid (wc.cell? ⟨w.heap.size, k * 5, none⟩ = some y0 ∧ wc.cell? ⟨w.heap.size, k * 5 + 1, none⟩ = some y1 ∧ wc.cell? ⟨w.heap.size, k * 5 + 2, none⟩ = some y2 ∧ wc.cell? ⟨w.heap.size, k * 5 + 3, none⟩ = some y3 ∧ wc.cell? ⟨w.heap.size, k * 5 + 4, none⟩ = some y4 ∧ (∀ i, wc.frozen? ⟨w.heap.size, i, none⟩ = false) ∧ w.heap.size < wc.heap.size) := ⟨u0, u1, u2, u3, u4, z0, block_lt_of_cell u0⟩
        go_wp2_with fail
        have CC : Hid (Bx wc wr.heap.size m q1 q2 ∧ c9fact wc (w.heap.size + 1) m l0 l1 l2 l3 l4 ∧ w.heap.size + 1 < wc.heap.size ∧ CFr wc (wr.heap.size + 1) [s0, s1, s2, s3, s4]) := ⟨hX.out, ⟨d0, d1, d2, d3, d4⟩, block_lt_of_cell d0, hF.out⟩
        have hne1 : wr.heap.size ≠ w.heap.size := hAne.out
        have hne2 : wr.heap.size + 1 ≠ w.heap.size := by have := hbel.out.size; omega
        have hne3 : w.heap.size ≠ wr.heap.size := Ne.symm hne1
        have hne4 : w.heap.size ≠ wr.heap.size + 1 := Ne.symm hne2
        go_region_held3 (fun w' => w'.cell? ⟨wr.heap.size, 0, none⟩ = some (.int .i64 (m : Int)) ∧ w'.cell? ⟨w.heap.size + 1, m * 5, none⟩ = some (.int .i64 l0) ∧ w'.cell? ⟨w.heap.size + 1, m * 5 + 1, none⟩ = some (.int .i64 l1) ∧ w'.cell? ⟨w.heap.size + 1, m * 5 + 2, none⟩ = some (.int .i64 l2) ∧ w'.cell? ⟨w.heap.size + 1, m * 5 + 3, none⟩ = some (.int .i64 l3) ∧ w'.cell? ⟨w.heap.size + 1, m * 5 + 4, none⟩ = some (.int .i64 l4)
            ∧ w'.cell? ⟨wr.heap.size + 1, 0, none⟩ = some (.int .i64 s0) ∧ w'.cell? ⟨wr.heap.size + 1, 1, none⟩ = some (.int .i64 s1) ∧ w'.cell? ⟨wr.heap.size + 1, 2, none⟩ = some (.int .i64 s2) ∧ w'.cell? ⟨wr.heap.size + 1, 3, none⟩ = some (.int .i64 s3) ∧ w'.cell? ⟨wr.heap.size + 1, 4, none⟩ = some (.int .i64 s4)) (go_keep)
          (first | (go_at_call 32; refine (nextVector1 m hw5 l0 l1 l2 l3 l4 s0 s1 s2 s3 s4 _ LB.out SB.out).mono ?_; rintro e w91 ⟨⟨r0, r1, r2, r3, r4, rfl, hr⟩, hb91⟩; have HR : Hid ([r0, r1, r2, r3, r4] = row h k) := hr.trans hrow.out.symm; have H91 : Hid (Below wc.heap.size wc w91) := below_up rfl (Below.refl wc.heap.size wc).drew hb91; have R91 : Hid (CReached h w91 w.heap.size w.heap.size (w.heap.size + 1) len k) := RC.out.later H91.out; have X91 : Hid (Bx w91 wr.heap.size m q1 q2) := hX.out.later H91.out; have n0 := (H91.out.cell (p := ⟨w.heap.size, k * 5, none⟩) UU.out.2.2.2.2.2.2).trans UU.out.1; have n1 := (H91.out.cell (p := ⟨w.heap.size, k * 5 + 1, none⟩) UU.out.2.2.2.2.2.2).trans UU.out.2.1; have n2 := (H91.out.cell (p := ⟨w.heap.size, k * 5 + 2, none⟩) UU.out.2.2.2.2.2.2).trans UU.out.2.2.1; have n3 := (H91.out.cell (p := ⟨w.heap.size, k * 5 + 3, none⟩) UU.out.2.2.2.2.2.2).trans UU.out.2.2.2.1; have n4 := (H91.out.cell (p := ⟨w.heap.size, k * 5 + 4, none⟩) UU.out.2.2.2.2.2.2).trans UU.out.2.2.2.2.1; have nz := fun i => (H91.out.frozen (p := ⟨w.heap.size, i, none⟩) UU.out.2.2.2.2.2.2).trans (UU.out.2.2.2.2.2.1 i); obtain ⟨-, j0, -, -⟩ := CC.out.1.later H91.out; obtain ⟨j1, j2, j3, j4, j5⟩ := CC.out.2.1.later CC.out.2.2.1 H91.out; obtain ⟨j6, j7, j8, j9, j10⟩ := (CC.out.2.2.2.later H91.out).cells; clear hr hb91))
        all_goals
          go_wp2_with fail
          refine wp_gen (fun w10 => Hid (Below w.heap.size w w10) ∧ Hid (Bx w10 wr.heap.size m q1 q2) ∧ Hid (CMid h w10 w.heap.size w.heap.size (w.heap.size + 1) len k r0 r1 r2 r3 r4)) ?_ ?_
          · refine ⟨?_, ?_, ?_⟩
            · exact below_five (below_up rfl hB.out H91.out) (Nat.le_refl _)
            · exact bx_five X91.out hAne.out
            · exact R91.out.mid _ _ _ _ _
          · rintro w10 ⟨B10, X10, M10⟩
            clear x0 x1 x2 hx d0 d1 d2 d3 d4 u0 u1 u2 u3 u4 z0 f0 f1 f2 f3 f4 n0 n1 n2 n3 n4 nz j0 j1 j2 j3 j4 j5 j6 j7 j8 j9 j10
            obtain ⟨hx, x0, x1, x2⟩ := X10.out
            have uu : c9fact w10 w.heap.size k r0 r1 r2 r3 r4 ∧ ∃ y0 y1 y2 y3 y4, w10.cell? ⟨w.heap.size + 1, m * 5, none⟩ = some y0 ∧ w10.cell? ⟨w.heap.size + 1, m * 5 + 1, none⟩ = some y1 ∧ w10.cell? ⟨w.heap.size + 1, m * 5 + 2, none⟩ = some y2 ∧ w10.cell? ⟨w.heap.size + 1, m * 5 + 3, none⟩ = some y3 ∧ w10.cell? ⟨w.heap.size + 1, m * 5 + 4, none⟩ = some y4 ∧ ∀ i, w10.frozen? ⟨w.heap.size + 1, i, none⟩ = false := by
              obtain ⟨fa, fl, ra, rl, hAL, hA, hL, ha, hl, k0, k1, k2, k3, k4⟩ := M10.out
              exact ⟨⟨(ra.cell (i := k * 5) (by omega)).trans (congrArg some k0), (ra.cell (i := k * 5 + 1) (by omega)).trans (congrArg some k1), (ra.cell (i := k * 5 + 2) (by omega)).trans (congrArg some k2), (ra.cell (i := k * 5 + 3) (by omega)).trans (congrArg some k3), (ra.cell (i := k * 5 + 4) (by omega)).trans (congrArg some k4)⟩,
                _, _, _, _, _, rl.cell (i := m * 5) (by omega), rl.cell (i := m * 5 + 1) (by omega), rl.cell (i := m * 5 + 2) (by omega), rl.cell (i := m * 5 + 3) (by omega), rl.cell (i := m * 5 + 4) (by omega), rl.frozen⟩
            obtain ⟨⟨g0, g1, g2, g3, g4⟩, v0, v1, v2, v3, v4, p0, p1, p2, p3, p4, z1⟩ := uu
            go_region
            go_wp2
            go_roundw
            case rel =>
              exact ⟨k + 1, by omega, by go_num, (below_five (A := w.heap.size + 1) B10.out (Nat.le_succ _)).drew, (M10.out.step EQ.out.1 HR.out).drew⟩
            case measure => simp [intOf]; omega
    · have hkl : k = len := by omega
      subst hkl
      go_wp2
      go_ret
      exact ⟨_, rfl, hbel.out, _, hR.out⟩
end Go.Proofs.YtpjoaogiaacikakDoor.His
