/-
  TopCast: the walk.
-/
import Derived.Test.YtpjoaogiaacikakGreatDoorTpcC
namespace Go.Proofs.YtpjoaogiaacikakGreatDoor.Tpc
open Go.RowKit
open Go.Proofs.YtpjoaogiaacikakGreatDoor.As (Laid)
open Go.Proofs.YtpjoaogiaacikakGreatDoor.Cas (G GI CA start start_gi newC_ok newC_no histC_any)
open Go.Proofs.YtpjoaogiaacikakGreatDoor.Fif (own_lt own_block own_form own_mono)
open Go.Proofs.YtpjoaogiaacikakGreatDoor.His (Ev Ew ev chkC Eo flat row row_len rows rows_get Lv vectors_cap)
open Go.Proofs.YtpjoaogiaacikakGreatDoor.Vec (Vw Rw)
open Go.Proofs.YtpjoaogiaacikakGreatDoor.Net (errF errF_ok errF_no)
open Go.Proofs.YtpjoaogiaacikakGreatDoor.Wir (Sl packC packS packP unpackX said_same box box_sl wv)
set_option linter.unusedVariables false

theorem lv_at {w : World} {A n i : Nat} {H : List Ev} (g : Lv w (some ⟨A, 0, none⟩) n (rows H n)) (hi : i < n) : A < w.heap.size ∧ ∃ q c, w.cell? ⟨A, i, none⟩ = some (.slice q 5 c) ∧ Sl w (.slice q 5 c) (row H i) := by
  obtain ⟨b, off, e, hlt, hc⟩ := g.2 (by omega)
  cases e
  obtain ⟨q, c, h1, h2, h3, h4⟩ := hc i hi
  rw [rows_get H hi] at h1 h2 h3
  rw [row_len] at h1 h3
  rw [Nat.zero_add] at h1
  refine ⟨hlt, q, c, h1, q, c, ?_, by rw [row_len]; exact h3, h4, h2⟩
  rw [row_len]
set_option maxRecDepth 100000 in
set_option maxHeartbeats 4000000 in
theorem tpc_bad (n : Int) (a : Option Addr) (len cap : Nat) (w : World) (h : n < 2 ∨ 5 < n) :
    Calls Tryz.prog 3 #[.int .i64 n, .slice a len cap] w fun e w' => e = .returned (.bool true) ∧ Below w.heap.size w w' := by
  go_enter Tryz.func3, Tryz.ntmps3
  go_wp2_with fail
  refine (His.one_any w).mono ?_
  rintro e w1 ⟨rfl, hb⟩
  have B1 : Hid (Below w.heap.size w w1) := hb
  clear hb
  go_wp2_with fail
  refine (newC_no n w1 h).mono ?_
  rintro e x4 ⟨v, rfl, hb⟩
  rw [errF_no (by decide)]
  have B4 : Hid (Below w.heap.size w x4) := B1.out.trans (hb.mono B1.out.size)
  clear hb
  go_wp2
  go_ret
  exact ⟨rfl, B4.out⟩
set_option maxRecDepth 100000 in
set_option maxHeartbeats 8000000 in
theorem tpc_ok (n : Nat) (a : Option Addr) (len cap : Nat) (ls : List (List Int)) (w : World) (hL : Laid w) (hR : Rw w a len ls) (h2 : 2 ≤ n) (h5 : n ≤ 5) :
    Calls Tryz.prog 3 #[.int .i64 (n : Int), .slice a len cap] w fun e w' => e = .returned (.bool true) ∧ Below w.heap.size w w' := by
  have HL : Hid (Laid w ∧ Rw w a len ls) := ⟨hL, hR⟩
  have hlm : len ≤ maxLen := hR.2.1
  have hn2 : (2 : Int) ≤ (n : Int) := by omega
  have hn5 : (n : Int) ≤ 5 := by omega
  clear hL hR
  go_enter Tryz.func3, Tryz.ntmps3
  go_wp2_with fail
  refine (His.one_any w).mono ?_
  rintro e x3 ⟨rfl, hb⟩
  have B3 : Hid (Below w.heap.size w x3) := hb
  clear hb
  go_wp2_with fail
  refine (newC_ok n x3 h2 h5 (HL.out.1.later B3.out)).mono ?_
  rintro e x4 ⟨P, fp4, rfl, hA, hb⟩
  have C4 : Hid (CI x3 x4 P ∧ Below w.heap.size w x3) := ⟨⟨Cas.start n, fp4, hA, (start_gi h2 h5).1, hb⟩, B3.out⟩
  clear hA hb
  go_wp2
  go_loopw [8] (fun y wr => ∃ i : Nat, i ≤ len ∧ y = .int .i64 (i : Int) ∧ Hid (CI x3 wr P)) (fun y _ => len - (intOf y).toNat)
  case atStart => exact ⟨0, by omega, rfl, C4.out.1⟩
  case round =>
    obtain ⟨i, hi, rfl, hC⟩ := hrel
    by_cases hgo : (i : Int) < (len : Int) ∧ (i : Int) < 100
    · obtain ⟨hil, hi120⟩ := hgo
      obtain ⟨wo, ewo⟩ : ∃ wo, wo = wr := ⟨_, rfl⟩
      subst ewo
      have hi0 : (0 : Int) ≤ (i : Int) := by omega
      have BO : Hid (Below w.heap.size w wo ∧ Laid wo) := by
        have b := C4.out.2.trans (hC.out.bel.mono C4.out.2.size)
        exact ⟨b, HL.out.1.later b⟩
      obtain ⟨rb, ro, rfl, hrb, hrc⟩ := (HL.out.2.later BO.out.1).2.2 (by omega)
      obtain ⟨qi, ci, g0, hvi, hmi⟩ := hrc i (by omega)
      obtain ⟨li, eli⟩ : ∃ li, li = (ls.getD i []).length := ⟨_, rfl⟩
      rw [← eli] at g0 hvi hmi
      have XV : Hid (wo.cell? ⟨rb, ro + i, none⟩ = some (.slice qi li ci) ∧ rb < wo.heap.size ∧ Vw wo qi li (ls.getD i [])) := ⟨g0, hrb, hvi⟩
      have hmi2 : (li : Int) ≤ 9223372036854775807 := by unfold maxLen at hmi; omega
      clear hrc g0 hrb hvi hmi eli
      have A1 : Hid (R3 wo (wo.alloc (.cells #[.int .i64 0, .int .i64 0, .int .i64 0] 29))) := by
        refine ⟨fun _ => 0, ?_, (Below.refl _ _).alloc (Nat.le_refl _) _⟩
        exact World.rowIs_alloc wo #[.int .i64 0, .int .i64 0, .int .i64 0] 29 _ (fun t ht => by rcases t with _ | _ | _ | t <;> first | rfl | (exfalso; have : _ < 3 := ht; omega))
      go_wp2_with fail
      go_loopw [10] (fun y wz => ∃ j : Nat, j ≤ 3 ∧ y = .int .i64 (j : Int) ∧ Hid (R3 wo wz)) (fun y _ => 3 - (intOf y).toNat)
      case atStart => exact ⟨0, by omega, rfl, A1⟩
      case round =>
        obtain ⟨j, hj, rfl, hA⟩ := hrel
        have x0 : wr.cell? ⟨rb, ro + i, none⟩ = some (.slice qi li ci) := by
          obtain ⟨f, _, hb⟩ := hA.out
          exact (hb.cell (p := ⟨rb, ro + i, none⟩) XV.out.2.1).trans XV.out.1
        have hj0 : (0 : Int) ≤ (j : Int) := by omega
        by_cases hjl : (j : Int) < (li : Int) ∧ (j : Int) < 3
        · obtain ⟨hjl, hj3⟩ := hjl
          obtain ⟨f, hf, hb⟩ := hA.out
          obtain ⟨bi, oi, rfl, hlti, hci⟩ := XV.out.2.2.2 (by omega)
          have y0 := (hb.cell (p := ⟨bi, oi + j, none⟩) hlti).trans (hci j (by omega))
          have c0 := World.rowIs.cell hf (i := j) (by omega)
          have z0 := World.rowIs.frozen hf j
          obtain ⟨yv, ey⟩ : ∃ yv, yv = (ls.getD i []).getD j 0 := ⟨_, rfl⟩
          rw [← ey] at y0
          have FB : Hid (wr.rowIs wo.heap.size 29 3 (fun t => .int .i64 (f t)) ∧ Below wo.heap.size wo wr) := ⟨hf, hb⟩
          clear hf hb hci hlti ey hA
          go_wp2
          go_roundw
          case rel =>
            refine ⟨j + 1, by omega, by go_num, fun t => if t = j then yv else f t, (World.rowIs.set FB.out.1 j _).congr fun t ht => ?_, FB.out.2.setCell (p := ⟨wo.heap.size, j, none⟩) (Nat.le_refl _) _⟩
            by_cases e : t = j
            · rw [if_pos e]; simp [e]
            · rw [if_neg e]; simp [e]
          case measure => simp [intOf]; omega
        · obtain ⟨f, hf, hb⟩ := hA.out
          have c0 := World.rowIs.cell hf (i := 0) (by omega)
          have c1 := World.rowIs.cell hf (i := 1) (by omega)
          have c2 := World.rowIs.cell hf (i := 2) (by omega)
          obtain ⟨k0, ek0⟩ : ∃ k, k = f 0 := ⟨_, rfl⟩
          obtain ⟨k1, ek1⟩ : ∃ k, k = f 1 := ⟨_, rfl⟩
          obtain ⟨k2, ek2⟩ : ∃ k, k = f 2 := ⟨_, rfl⟩
          rw [← ek0] at c0
          rw [← ek1] at c1
          rw [← ek2] at c2
          have CZ : Hid (CI x3 wr P ∧ Laid wr) := ⟨hC.out.later hb, BO.out.2.later hb⟩
          have hex : ((j : Int) < (li : Int) ∧ ¬ (j : Int) < 3) ∨ ¬ (j : Int) < (li : Int) := by omega
          clear hf hb ek0 ek1 ek2 hA A1
          clear hjl
          rcases hex with ⟨e1, e2⟩ | e1
          all_goals
            by_cases q0 : k0 < 2
            · go_wp2_with fail
              refine (sayW CZ.out.1 CZ.out.2 k1 k2).mono ?_
              rintro e w7 ⟨vr, rfl, hc7⟩
              have C7 : Hid (CI x3 w7 P) := hc7
              clear hc7
              go_wp2
              go_roundw
              case rel => exact ⟨i + 1, by omega, by go_num, C7.out⟩
              case measure => simp [intOf]; omega
            · go_wp2_with fail
              refine (giveW CZ.out.1 CZ.out.2 k1).mono ?_
              rintro e w7 ⟨vr, rfl, hc7⟩
              have C7 : Hid (CI x3 w7 P) := hc7
              clear hc7
              go_wp2
              go_roundw
              case rel => exact ⟨i + 1, by omega, by go_num, C7.out⟩
              case measure => simp [intOf]; omega
    · rcases (show ((i : Int) < (len : Int) ∧ ¬ (i : Int) < 100) ∨ ¬ (i : Int) < (len : Int) by omega) with ⟨e1, e2⟩ | e1
      all_goals
        obtain ⟨g5, fp5, hA5, hG5, hB5⟩ := hC.out
        have C5 : Hid (CA wr x3.heap.size P g5 fp5 ∧ GI g5 ∧ Below w.heap.size w wr) := ⟨hA5, hG5, C4.out.2.trans (hB5.mono C4.out.2.size)⟩
        clear hA5 hG5 hB5 hC hgo
        go_wp2_with fail
        refine (histC_any x3.heap.size P g5 fp5 wr C5.out.1 C5.out.2.1).mono ?_
        rintro e w5 ⟨v5, rfl, ho5, hb5⟩
        obtain ⟨b5, hE⟩ : ∃ b5, Eo w5 b5 v5 g5.H := ⟨_, ho5⟩
        obtain ⟨q5, c5, rfl, hc5, hm5, hew5⟩ := Lgs.eo_view hE
        obtain ⟨H, eH⟩ : ∃ H, H = g5.H := ⟨_, rfl⟩
        have HH : Hid (chkC H = 0 ∧ (∀ i, i < H.length → (ev H i).2.1 ≠ 1) ∧ His.fifoB H = true ∧ His.causB H = true) := by
          have f := Cas.faces_ok C5.out.2.1
          rw [eH]
          exact ⟨cast_ok C5.out.2.1, fun i hi => cast_what C5.out.2.1 hi, f.2.2, f.2.1⟩
        rw [← eH] at hE hc5 hew5 ⊢
        obtain ⟨N, eN⟩ : ∃ N, N = H.length := ⟨_, rfl⟩
        have hN60 : N ≤ 60 := by rw [eN]; exact (His.chk_zero HH.out.1).1
        rw [← eN] at hE hc5 hew5 ⊢
        have EN : Hid (N = H.length) := eN
        have S5 : Hid (Ew w5 q5 N H ∧ N ≤ c5 ∧ c5 ≤ maxLen ∧ Eo w5 b5 (.slice q5 N c5) H ∧ Below w.heap.size w w5) := ⟨hew5, hc5, hm5, hE, C5.out.2.2.trans (hb5.mono C5.out.2.2.size)⟩
        clear ho5 hb5 hc5 hm5 hew5 hE eN eH
        go_wp2_with fail
        refine (newJ w5 H).mono ?_
        rintro e w6 ⟨PJ, rfl, hj⟩
        have J6 : Hid (LJ w5 w6 PJ 0 H) := hj
        clear hj
        go_wp2_with fail
        go_loopw [13] (fun y wr => ∃ i : Nat, i ≤ N ∧ y = .int .i64 (i : Int) ∧ Hid (LJ w5 wr PJ i H)) (fun y _ => N - (intOf y).toNat)
        case atStart => exact ⟨0, by omega, rfl, J6.out⟩
        case round =>
          obtain ⟨i3, hi3, rfl, hJ⟩ := hrel
          have hi30 : (0 : Int) ≤ (i3 : Int) := by omega
          by_cases hlt : (i3 : Int) < (N : Int)
          · obtain ⟨be, oe, rfl, hbe, y0, y1, y2⟩ := ew_at S5.out.1 (k := i3) (by omega)
            have z0 := (hJ.out.bel.cell (p := ⟨be, oe + i3 * 3, none⟩) hbe).trans y0
            have z1 := (hJ.out.bel.cell (p := ⟨be, oe + i3 * 3 + 1, none⟩) hbe).trans y1
            have z2 := (hJ.out.bel.cell (p := ⟨be, oe + i3 * 3 + 2, none⟩) hbe).trans y2
            obtain ⟨p, ep⟩ : ∃ p, p = ev H i3 := ⟨_, rfl⟩
            rw [← ep] at z0 z1 z2
            obtain ⟨p0, p1, p2⟩ := p
            simp only at z0 z1 z2
            have EP : Hid (ev H i3 = (p0, p1, p2)) := ep.symm
            clear y0 y1 y2 ep
            go_wp2_with fail
            refine (hJ.out.do (by have := EN.out; omega) HH.out.1 EP.out).mono ?_
            rintro e w7 ⟨rfl, hj7⟩
            have J7 : Hid (LJ w5 w7 PJ (i3 + 1) H) := hj7
            clear hj7
            go_wp2
            go_roundw
            case rel => exact ⟨i3 + 1, by omega, by go_num, J7.out⟩
            case measure => simp [intOf]; omega
          · have hiN : i3 = H.length := by have := EN.out; omega
            have J7 : Hid (LJ w5 wr PJ H.length H) := by rw [← hiN]; exact hJ.out
            clear hiN hJ J6
            go_wp2_with fail
            refine J7.out.sync.mono ?_
            rintro e w7 ⟨rfl, hs7⟩
            have J8 : Hid (LS w5 w7 PJ H) := hs7
            clear hs7
            go_wp2_with fail
            refine J8.out.crash.mono ?_
            rintro e w8 ⟨rfl, hs8⟩
            have J9 : Hid (LE w5 w8 PJ H) := hs8
            clear hs8
            go_wp2_with fail
            refine J9.out.faces.mono ?_
            rw [HH.out.2.2.1, HH.out.2.2.2]
            rintro e w9 ⟨rfl, hb9⟩
            obtain ⟨ft, eft⟩ : ∃ ft, ft = His.totB H := ⟨_, rfl⟩
            rw [← eft]
            have J10 : Hid (LE w5 w9 PJ H) := J9.out.later hb9
            clear hb9 eft
            go_wp2_with fail
            obtain ⟨W9, eW9⟩ : ∃ W, W = w9.alloc (.cells #[.bool true, .bool true, .bool ft] 44) := ⟨_, rfl⟩
            obtain ⟨BF, eBF⟩ : ∃ b, b = w9.heap.size := ⟨_, rfl⟩
            rw [← eW9, ← eBF]
            have R9 : Hid ((W9.cell? ⟨BF, 0, none⟩ = some (.bool true) ∧ W9.cell? ⟨BF, 1, none⟩ = some (.bool true)) ∧ BF < W9.heap.size ∧ LE w5 W9 PJ H) := by
              refine ⟨?_, ?_, ?_⟩
              · rw [eW9, eBF]
                exact ⟨by go_cell, by go_cell⟩
              · rw [eW9, eBF]; simp
              · rw [eW9]
                exact J10.out.later ((Below.refl _ _).alloc (Nat.le_refl _) _)
            clear eW9 eBF
            go_wp2_with fail
            refine (vectors_cap q5 N c5 H W9 S5.out.2.1 S5.out.2.2.1 (S5.out.1.later R9.out.2.2.bel) HH.out.1).mono ?_
            rintro e w10 ⟨A, rfl, hb10, hv10⟩
            have V10 : Hid (Below W9.heap.size W9 w10 ∧ Lv w10 (some ⟨A, 0, none⟩) N (rows H N) ∧ LE w5 w10 PJ H) := ⟨hb10, hv10, R9.out.2.2.later hb10⟩
            have x0 := (hb10.cell (p := ⟨BF, 0, none⟩) R9.out.2.1).trans R9.out.1.1
            have x1 := (hb10.cell (p := ⟨BF, 1, none⟩) R9.out.2.1).trans R9.out.1.2
            clear hb10 hv10
            go_wp2_with fail
            refine V10.out.2.2.all.mono ?_
            rintro e w11 ⟨u, rfl, ho11, hb11⟩
            have V11 : Hid (Eo w11 w10.heap.size u H ∧ Below w10.heap.size w10 w11 ∧ Eo w11 b5 (.slice q5 N c5) H) := by
              have b := V10.out.2.2.bel.trans (hb11.mono V10.out.2.2.bel.size)
              exact ⟨ho11, hb11, own_block S5.out.2.2.2.1 fun k hk => b.block k (own_lt S5.out.2.2.2.1 k hk).2⟩
            clear ho11 hb11
            go_wp2_with fail
            refine (Lgs.events_same _ _ _ _ H w11 V11.out.1 V11.out.2.2 (by rw [← EN.out]; exact hN60)).mono ?_
            rintro e w12 ⟨rfl, m12, rfl⟩
            have B12 : Hid (Below w10.heap.size w10 (w11.drewN m12)) := Wir.drews V11.out.2.1 m12
            go_wp2_with fail
            go_loopw [18] (fun y wx => ∃ i : Nat, i ≤ N ∧ y = .int .i64 (i : Int) ∧ Hid (Below w10.heap.size w10 wx)) (fun y _ => N - (intOf y).toNat)
            case atStart => exact ⟨0, by omega, rfl, B12.out⟩
            case round =>
              clear B12
              obtain ⟨i4, hi4, rfl, hB⟩ := hrel
              have hi40 : (0 : Int) ≤ (i4 : Int) := by omega
              by_cases hlt4 : (i4 : Int) < (N : Int)
              · have BZ : Hid (Below w5.heap.size w5 wr) := V10.out.2.2.bel.trans (hB.out.mono V10.out.2.2.bel.size)
                obtain ⟨be, oe, rfl, hbe, y0, y1, y2⟩ := ew_at S5.out.1 (k := i4) (by omega)
                have z0 := (BZ.out.cell (p := ⟨be, oe + i4 * 3, none⟩) hbe).trans y0
                have z1 := (BZ.out.cell (p := ⟨be, oe + i4 * 3 + 1, none⟩) hbe).trans y1
                have z2 := (BZ.out.cell (p := ⟨be, oe + i4 * 3 + 2, none⟩) hbe).trans y2
                obtain ⟨p, ep⟩ : ∃ p, p = ev H i4 := ⟨_, rfl⟩
                have hp1 : p.2.1 ≠ 1 := by rw [ep]; exact HH.out.2.1 i4 (by have := EN.out; omega)
                have HS : Hid (packC (p.1, p.2.2, row H i4) = 0) := by
                  have := sd_ok HH.out.1 (i := i4) (by have := EN.out; omega) (by rw [← ep]; exact hp1)
                  unfold sd at this
                  rw [← ep] at this
                  exact this
                rw [← ep] at z0 z1 z2
                obtain ⟨p0, p1, p2⟩ := p
                simp only at z0 z1 z2 hp1 HS
                have dp1 : (p1 == 1) = false := by simp [hp1]
                obtain ⟨hA, qv, cv, hcv, hsv⟩ := lv_at V10.out.2.1 (i := i4) (by omega)
                have z3 := (hB.out.cell (p := ⟨A, i4, none⟩) hA).trans hcv
                have SV : Hid (Sl wr (.slice qv 5 cv) (row H i4)) := hsv.later hB.out
                have hAl : A < wr.heap.size := Nat.lt_of_lt_of_le hA hB.out.size
                have hbl : be < wr.heap.size := Nat.lt_of_lt_of_le hbe BZ.out.size
                clear y0 y1 y2 ep hA hcv hsv hp1
                go_upto_region 37 with fail
                go_region
                obtain ⟨W1, eW1⟩ : ∃ W, W = (wr.alloc (.cells #[.int .i64 p0, .int .i64 p2, .slice qv 5 cv] 51)).drew := ⟨_, rfl⟩
                obtain ⟨BS, eBS⟩ : ∃ b, b = wr.heap.size := ⟨_, rfl⟩
                rw [← eW1, ← eBS]
                have W1f : Hid (Below wr.heap.size wr W1 ∧ Sl W1 (.slice qv 5 cv) (row H i4) ∧ W1.rowIs BS 51 3 (wv p0 p2 (.slice qv 5 cv))) := by
                  have b : Below wr.heap.size wr W1 := by rw [eW1]; exact ((Below.refl _ _).alloc (Nat.le_refl _) _).drew
                  refine ⟨b, SV.out.later b, ?_⟩
                  rw [eW1, eBS]
                  exact (box wr p0 p2 (.slice qv 5 cv)).drew
                clear eW1 eBS z0 z1 z2 z3 dp1
                have k0 : W1.cell? ⟨BS, 0, none⟩ = some (.int .i64 p0) := World.rowIs.cell W1f.out.2.2 (i := 0) (by omega)
                have k1 : W1.cell? ⟨BS, 1, none⟩ = some (.int .i64 p2) := World.rowIs.cell W1f.out.2.2 (i := 1) (by omega)
                have k2 : W1.cell? ⟨BS, 2, none⟩ = some (.slice qv 5 cv) := World.rowIs.cell W1f.out.2.2 (i := 2) (by omega)
                have hBS : BS < W1.heap.size := World.rowIs.lt W1f.out.2.2
                go_wp2_with fail
                refine (packP (p0, p2, row H i4) (.slice qv 5 cv) W1 W1f.out.2.1).mono ?_
                rw [HS.out, (back HS.out).1, Wir.errF_ok]
                rintro e w14 ⟨rfl, hb14⟩
                obtain ⟨tx, etx⟩ : ∃ tx, tx = Wir.txt (Wir.pk (p0, p2, row H i4)) := ⟨_, rfl⟩
                have TX : Hid (Wir.unC tx = 0 ∧ Wir.unS tx = (p0, p2, row H i4)) := by
                  rw [etx]
                  exact (back HS.out).2
                rw [← etx]
                have K14 : Hid (Below W1.heap.size W1 w14) := hb14
                clear hb14 etx k0 k1 k2
                go_wp2_with fail
                refine (unpackX tx w14).mono ?_
                rw [TX.out.1, TX.out.2, Wir.errF_ok]
                rintro e w15 ⟨x3, y3, q3, n3, c3, rfl, hs3, hb15⟩
                obtain ⟨⟨e1', e2'⟩, hsl⟩ := hs3.out
                simp only at e1' e2' hsl
                subst e1' e2'
                obtain ⟨W2, eW2⟩ : ∃ W, W = w15.alloc (.cells #[.int .i64 x3, .int .i64 y3, .slice q3 n3 c3] 51) := ⟨_, rfl⟩
                obtain ⟨BT, eBT⟩ : ∃ b, b = w15.heap.size := ⟨_, rfl⟩
                have W2f : Hid (Below W1.heap.size W1 W2 ∧ Sl W2 (.slice q3 n3 c3) (row H i4) ∧ W2.rowIs BT 51 3 (wv x3 y3 (.slice q3 n3 c3))) := by
                  have b := K14.out.trans (hb15.mono K14.out.size)
                  rw [eW2, eBT]
                  exact ⟨b.alloc b.size _, box_sl hsl _ _, box w15 x3 y3 (.slice q3 n3 c3)⟩
                clear hs3 hb15 hsl
                have k0 : W2.cell? ⟨BS, 0, none⟩ = some (.int .i64 x3) := (W2f.out.1.cell (p := ⟨BS, 0, none⟩) hBS).trans (World.rowIs.cell W1f.out.2.2 (i := 0) (by omega))
                have k1 : W2.cell? ⟨BS, 1, none⟩ = some (.int .i64 y3) := (W2f.out.1.cell (p := ⟨BS, 1, none⟩) hBS).trans (World.rowIs.cell W1f.out.2.2 (i := 1) (by omega))
                have k2 : W2.cell? ⟨BS, 2, none⟩ = some (.slice qv 5 cv) := (W2f.out.1.cell (p := ⟨BS, 2, none⟩) hBS).trans (World.rowIs.cell W1f.out.2.2 (i := 2) (by omega))
                have j0 : W2.cell? ⟨BT, 0, none⟩ = some (.int .i64 x3) := World.rowIs.cell W2f.out.2.2 (i := 0) (by omega)
                have j1 : W2.cell? ⟨BT, 1, none⟩ = some (.int .i64 y3) := World.rowIs.cell W2f.out.2.2 (i := 1) (by omega)
                have j2 : W2.cell? ⟨BT, 2, none⟩ = some (.slice q3 n3 c3) := World.rowIs.cell W2f.out.2.2 (i := 2) (by omega)
                go_upto_region 40 with fail
                rw [← eW2, ← eBT]
                clear eW2 eBT
                go_wp2_with fail
                refine (said_same x3 y3 (row H i4) (.slice q3 n3 c3) (.slice qv 5 cv) W2 W2f.out.2.1 (W1f.out.2.1.later W2f.out.1)).mono ?_
                rintro e w16 ⟨rfl, hb16⟩
                have B16 : Hid (Below w10.heap.size w10 w16) := by
                  have b1 := hB.out.trans (W1f.out.1.mono hB.out.size)
                  have b2 := b1.trans (W2f.out.1.mono b1.size)
                  exact b2.trans (hb16.mono b2.size)
                clear hb16 k0 k1 k2 j0 j1 j2
                go_wp2
                go_roundw
                case rel => exact ⟨i4 + 1, by omega, by go_num, B16.out⟩
                case measure => simp [intOf]; omega
              · have BZ : Hid (Below w.heap.size w wr) := by
                  have b1 := V10.out.2.2.bel.trans (hB.out.mono V10.out.2.2.bel.size)
                  exact S5.out.2.2.2.2.trans (b1.mono S5.out.2.2.2.2.size)
                go_wp2
                go_ret
                exact ⟨rfl, BZ.out⟩
theorem tpc_any (n : Int) (a : Option Addr) (len cap : Nat) (ls : List (List Int)) (w : World) (hL : Laid w) (hR : Rw w a len ls) :
    Calls Tryz.prog 3 #[.int .i64 n, .slice a len cap] w fun e w' => e = .returned (.bool true) ∧ Below w.heap.size w w' := by
  by_cases h : n < 2 ∨ 5 < n
  · exact tpc_bad n a len cap w h
  · obtain ⟨m, rfl⟩ : ∃ m : Nat, n = (m : Int) := ⟨n.toNat, by omega⟩
    exact tpc_ok m a len cap ls w hL hR (by omega) (by omega)
end Go.Proofs.YtpjoaogiaacikakGreatDoor.Tpc
