/-
  Where nothing moves a picture shows what there is: the walk of PictureStill.
-/
import Derived.Test.YtgcdbcljneoifaiDoorPicS
import Derived.Test.YtgcdbcljneoifaiDoorPisM
import Derived.Deep.QuietTactic
import Derived.BigQuiet
import Derived.Deep.RegionHeld3
import Derived.WalkLawsBesides
import Derived.Handy
import Derived.Deep.CutBlock
import Derived.Deep.CutRange
namespace Go.Proofs.YtgcdbcljneoifaiDoor.Pic
open Go.RowKit
open Go.Proofs.YtgcdbcljneoifaiDoor.As (Laid)
open Go.Proofs.YtgcdbcljneoifaiDoor.Fif (ret_bool)
open Go.Proofs.YtgcdbcljneoifaiDoor.Vec (Vw)
open Go.Proofs.YtgcdbcljneoifaiDoor.Sep (KpL NewL)
open Go.Proofs.YtgcdbcljneoifaiDoor.Ldr (errF errF_ok errF_no errF_same Sl)
set_option linter.unusedVariables false

set_option maxRecDepth 100000 in
theorem still_no (q : Option Addr) (len cap : Nat) (l : List Int) (who : Int) (w : World) (hs : Sl w (.slice q len cap) l) (hc : newC l ≠ 0) : Calls Tryd.prog 6 #[.slice q len cap, .int .i64 who] w fun e w' => e = .returned (.bool true) ∧ Below w.heap.size w w' := by
  have HS : Hid (Sl w (.slice q len cap) l ∧ newC l ≠ 0) := ⟨hs, hc⟩
  clear hs hc
  go_enter Tryd.func6, Tryd.ntmps6
  go_wp2_with fail
  refine (newG_no l q len cap w HS.out.1 HS.out.2).mono ?_
  rintro e w1 ⟨rfl, hb⟩
  rw [errF_no (by decide)]
  have B1 : Hid (Below w.heap.size w w1) := hb
  clear hb
  go_wp2
  go_ret
  exact ⟨rfl, B1.out⟩
set_option maxRecDepth 100000 in
theorem still_out (q : Option Addr) (len cap : Nat) (l : List Int) (who : Int) (w : World) (hs : Sl w (.slice q len cap) l) (hc : newC l = 0) (hw : who < 0 ∨ (len : Int) ≤ who) : Calls Tryd.prog 6 #[.slice q len cap, .int .i64 who] w fun e w' => e = .returned (.bool true) ∧ Below w.heap.size w w' := by
  have hl := (sl_vwP hs).1
  have eb : begC (start l) who = 1 := by
    unfold begC
    rw [if_neg (fun z => by unfold inM at z; have : (start l).n = l.length := rfl; omega)]
  have HS : Hid (Sl w (.slice q len cap) l ∧ newC l = 0 ∧ begC (start l) who = 1) := ⟨hs, hc, eb⟩
  clear hs hc eb hl
  rcases (show who < 0 ∨ (¬ who < 0 ∧ who ≥ (len : Int)) by omega) with d1 | ⟨d1, d2⟩
  all_goals
    clear hw
    go_enter Tryd.func6, Tryd.ntmps6
    go_wp2_with fail
    refine (newG_ok l q len cap w HS.out.1 HS.out.2.1).mono ?_
    rintro e w1 ⟨P, fp1, rfl, hA, hb⟩
    have O1 : Hid (TO w w1 P (start l) fp1) := ⟨hA, hb⟩
    clear hA hb
    go_wp2_with fail
    refine (begG w.heap.size P (start l) fp1 _ who w1 O1.out.us (Inv.start HS.out.2.1) O1.out.bel.size).mono ?_
    rintro e w2 ⟨fp2, rfl, -, hb, -, -⟩
    rw [HS.out.2.2, errF_no (by decide)]
    have B2 : Hid (Below w.heap.size w w2) := O1.out.bel.trans hb
    clear hb
    go_wp2
    go_ret
    exact ⟨rfl, B2.out⟩
set_option maxRecDepth 100000 in
set_option maxHeartbeats 4000000 in
theorem still_ok (q : Option Addr) (len cap : Nat) (l : List Int) (m : Nat) (w : World) (hL : Laid w) (hs : Sl w (.slice q len cap) l) (hc : newC l = 0) (hm : m < len) : Calls Tryd.prog 6 #[.slice q len cap, .int .i64 (m : Int)] w fun e w' => e = .returned (.bool true) ∧ Below w.heap.size w w' := by
  obtain ⟨hl, hv, -, -⟩ := sl_vwP hs
  have h5 := (len_start l hc).1
  obtain ⟨all, eall⟩ : ∃ all, all = S (fun i => l.getD i 0) l.length := ⟨_, rfl⟩
  have HS : Hid (Sl w (.slice q len cap) l ∧ newC l = 0 ∧ Laid w ∧ len = l.length ∧ Vw w q len l ∧ all = S (fun i => l.getD i 0) l.length ∧ m < len ∧ begC (start l) (m : Int) = 0) := ⟨hs, hc, hL, hl, hv, eall, hm, begC_start (by rw [← hl]; exact hm)⟩
  have hl5 : len ≤ 5 := by omega
  clear hs hc hL hl hv eall h5
  go_enter Tryd.func6, Tryd.ntmps6
  go_wp2_with fail
  refine (newG_ok l q len cap w HS.out.1 HS.out.2.1).mono ?_
  rintro e w1 ⟨P, fp1, rfl, hA, hb⟩
  have O1 : Hid (TO w w1 P (start l) fp1) := ⟨hA, hb⟩
  clear hA hb
  go_wp2_with fail
  refine (begG w.heap.size P (start l) fp1 _ (m : Int) w1 O1.out.us (Inv.start HS.out.2.1) O1.out.bel.size).mono ?_
  rintro e w2 ⟨fp2, rfl, hA, hb, -, -⟩
  rw [HS.out.2.2.2.2.2.2.2, errF_ok]
  have O2 : Hid (∃ g fp, TO w w2 P g fp ∧ K1 m 0 all g ∧ g.n = len) := by
    refine ⟨_, fp2, ⟨hA, O1.out.bel.trans hb⟩, ?_, ?_⟩
    · rw [HS.out.2.2.2.2.2.1]; exact K1.start HS.out.2.1 (by rw [← HS.out.2.2.2.1]; exact HS.out.2.2.2.2.2.2.1)
    · unfold beg; rw [if_pos HS.out.2.2.2.2.2.2.2, HS.out.2.2.2.1]; rfl
  clear hA hb O1
  go_upto_block 0 with fail
  go_cut [8, 9, 10] from 45 to 65 (fun x8 x9 x10 wc => Hid (∃ g fp, TO w wc P g fp ∧ K1 m len all g ∧ g.n = len))
  case first =>
    go_wp2_with fail
    go_loopw [8, 9, 10] (fun x y z wr => ∃ i : Nat, i ≤ len ∧ x = .int .i64 (i : Int) ∧ Hid (∃ g fp, TO w wr P g fp ∧ K1 m i all g ∧ g.n = len)) (fun x _ _ _ => len - (intOf x).toNat)
    case atStart => exact ⟨0, by omega, rfl, O2⟩
    case round =>
      obtain ⟨i, hi, rfl, hQ⟩ := hrel
      by_cases hil : i < len
      · have hil' : (i : Int) < (len : Int) := by omega
        by_cases him : i = m
        · have dm : ((i : Int) != (m : Int)) = false := by simp [him]
          have N1 : Hid (∃ g fp, TO w wr P g fp ∧ K1 m (i + 1) all g ∧ g.n = len) := by
            obtain ⟨g, fp, h1, h2, h3⟩ := hQ.out
            exact ⟨g, fp, h1, h2.skip him, h3⟩
          clear him
          go_wp2
          go_roundw
          case rel => exact ⟨i + 1, by omega, by go_num, N1⟩
          case measure => simp [intOf]; omega
        · have dm : ((i : Int) != (m : Int)) = true := by rw [bne_iff_ne]; omega
          obtain ⟨g, fp, h1, h2, h3⟩ := hQ.out
          obtain ⟨k1, k2, k3⟩ := h2.come (by rw [h3]; exact hil) him
          have G1 : Hid (TO w wr P g fp ∧ K1 m i all g ∧ g.n = len ∧ comeC g (m : Int) (i : Int) = 0 ∧ comeN g (m : Int) (i : Int) = 0 ∧ K1 m (i + 1) all (come g (m : Int) (i : Int))) := ⟨h1, h2, h3, k1, k2, k3⟩
          clear h1 h2 h3 k1 k2 k3 hQ
          go_wp2_with fail
          refine (comeG w.heap.size P g fp all (m : Int) (i : Int) wr G1.out.1.us G1.out.2.1.inv G1.out.1.bel.size).mono ?_
          rintro e w3 ⟨fp3, rfl, hA, hb, -, -⟩
          rw [G1.out.2.2.2.1, G1.out.2.2.2.2.1, errF_ok]
          have N1 : Hid (∃ g fp, TO w w3 P g fp ∧ K1 m (i + 1) all g ∧ g.n = len) := ⟨_, fp3, ⟨hA, G1.out.1.bel.trans hb⟩, G1.out.2.2.2.2.2, by rw [come_n]; exact G1.out.2.2.1⟩
          clear hA hb
          go_wp2
          go_roundw
          case rel => exact ⟨i + 1, by omega, by go_num, N1⟩
          case measure => simp [intOf]; omega
      · have hil' : ¬ (i : Int) < (len : Int) := by omega
        have e : i = len := by omega
        subst e
        go_wp2
        go_meet
        exact hQ.out
  case rest =>
    have O3 : Hid (∃ g fp, TO w wc P g fp ∧ K2 m 0 0 all g ∧ g.n = len) := by
      obtain ⟨g, fp, h1, h2, h3⟩ := hcut.out
      rw [← h3] at h2
      exact ⟨g, fp, h1, h2.next, h3⟩
    clear hcut O2
    go_upto_block 2 with fail
    go_cut [11, 12, 13, 14] from 66 to 96 (fun x11 x12 x13 x14 wd => Hid (∃ g fp, TO w wd P g fp ∧ K2 m len 0 all g ∧ g.n = len))
    case first =>
      go_wp2_with fail
      go_loopw [11, 12, 13, 14] (fun x y y3 y4 wr => ∃ i : Nat, i ≤ len ∧ x = .int .i64 (i : Int) ∧ Hid (∃ g fp, TO w wr P g fp ∧ K2 m i 0 all g ∧ g.n = len)) (fun x _ _ _ _ => len - (intOf x).toNat)
      case atStart => exact ⟨0, by omega, rfl, O3⟩
      case round =>
        obtain ⟨i, hi, rfl, hQ⟩ := hrel
        by_cases hil : i < len
        · have hil' : (i : Int) < (len : Int) := by omega
          go_wp2_with fail
          go_loopw [12, 13, 14] (fun x y3 y4 wz => ∃ j : Nat, j ≤ len ∧ x = .int .i64 (j : Int) ∧ Hid (∃ g fp, TO w wz P g fp ∧ K2 m i j all g ∧ g.n = len)) (fun x _ _ _ => len - (intOf x).toNat)
          case atStart => exact ⟨0, by omega, rfl, hQ⟩
          case round =>
            obtain ⟨j, hj, rfl, hR⟩ := hrel
            by_cases hjl : j < len
            · have hjl' : (j : Int) < (len : Int) := by omega
              by_cases hij : i = m ∨ j = i
              · have N1 : Hid (∃ g fp, TO w wr P g fp ∧ K2 m i (j + 1) all g ∧ g.n = len) := by
                  obtain ⟨g, fp, h1, h2, h3⟩ := hR.out
                  exact ⟨g, fp, h1, h2.skip hij, h3⟩
                rcases (show i = m ∨ (i ≠ m ∧ j = i) by omega) with him | ⟨him, hji⟩
                · have dm : ((i : Int) != (m : Int)) = false := by simp [him]
                  clear hij him
                  go_wp2
                  go_roundw
                  case rel => exact ⟨j + 1, by omega, by go_num, N1⟩
                  case measure => simp [intOf]; omega
                · have dm : ((i : Int) != (m : Int)) = true := by rw [bne_iff_ne]; omega
                  have dj : ((j : Int) != (i : Int)) = false := by simp [hji]
                  clear hij him hji
                  go_wp2
                  go_roundw
                  case rel => exact ⟨j + 1, by omega, by go_num, N1⟩
                  case measure => simp [intOf]; omega
              · have dm : ((i : Int) != (m : Int)) = true := by rw [bne_iff_ne]; omega
                have dj : ((j : Int) != (i : Int)) = true := by rw [bne_iff_ne]; omega
                obtain ⟨g, fp, h1, h2, h3⟩ := hR.out
                obtain ⟨k1, k2, k3⟩ := h2.come (by rw [h3]; exact hil) (by rw [h3]; exact hjl) (by omega) (by omega)
                have G1 : Hid (TO w wr P g fp ∧ K2 m i j all g ∧ g.n = len ∧ comeC g (i : Int) (j : Int) = 0 ∧ comeN g (i : Int) (j : Int) = 0 ∧ K2 m i (j + 1) all (come g (i : Int) (j : Int))) := ⟨h1, h2, h3, k1, k2, k3⟩
                clear h1 h2 h3 k1 k2 k3 hR hij
                go_wp2_with fail
                refine (comeG w.heap.size P g fp all (i : Int) (j : Int) wr G1.out.1.us G1.out.2.1.inv G1.out.1.bel.size).mono ?_
                rintro e w3 ⟨fp3, rfl, hA, hb, -, -⟩
                rw [G1.out.2.2.2.1, G1.out.2.2.2.2.1, errF_ok]
                have N1 : Hid (∃ g fp, TO w w3 P g fp ∧ K2 m i (j + 1) all g ∧ g.n = len) := ⟨_, fp3, ⟨hA, G1.out.1.bel.trans hb⟩, G1.out.2.2.2.2.2, by rw [come_n]; exact G1.out.2.2.1⟩
                clear hA hb
                go_wp2
                go_roundw
                case rel => exact ⟨j + 1, by omega, by go_num, N1⟩
                case measure => simp [intOf]; omega
            · have hjl' : ¬ (j : Int) < (len : Int) := by omega
              have e : j = len := by omega
              subst e
              have N1 : Hid (∃ g fp, TO w wr P g fp ∧ K2 m (i + 1) 0 all g ∧ g.n = j) := by
                obtain ⟨g, fp, h1, h2, h3⟩ := hR.out
                rw [← h3] at h2
                exact ⟨g, fp, h1, h2.row, h3⟩
              go_wp2
              go_roundw
              case rel => exact ⟨i + 1, by omega, by go_num, N1⟩
              case measure => simp [intOf]; omega
        · have hil' : ¬ (i : Int) < (len : Int) := by omega
          have e : i = len := by omega
          subst e
          go_wp2
          go_meet
          exact hQ.out
    case rest =>
      obtain ⟨g, fp, hT, hK, hn⟩ := hcut.out
      obtain ⟨w4, ew4⟩ : ∃ w4, w4 = wc := ⟨_, rfl⟩
      subst ew4
      rw [← hn] at hK
      have G4 : Hid (TO w w4 P g fp ∧ Inv all g ∧ g.n = len ∧ Dn g ∧ S g.wrote g.n = all ∧ g.ow = 0 ∧ g.begun = true) := ⟨hT, hK.inv, hn, hK.done.1, hK.done.2.1, hK.done.2.2, hK.bg⟩
      clear hcut hT hK hn O3
      go_upto_block 6 with fail
      go_cut [15, 16] from 97 to 107 (fun x15 x16 wd => x15 = .int .i64 all ∧ wd = w4)
      case first =>
        go_wp2_with fail
        go_loopw [15, 16] (fun y x wr => ∃ i : Nat, i ≤ len ∧ x = .int .i64 (i : Int) ∧ y = .int .i64 (S (fun i => l.getD i 0) i) ∧ wr = w4) (fun _ x _ => len - (intOf x).toNat)
        case atStart => exact ⟨0, by omega, rfl, rfl, rfl⟩
        case round =>
          obtain ⟨i, hi, rfl, rfl, rfl⟩ := hrel
          by_cases hil : i < len
          · have hil' : (i : Int) < (len : Int) := by omega
            have hi0 : (0 : Int) ≤ (i : Int) := by omega
            obtain ⟨b, o, rfl, hlt, hcl⟩ := HS.out.2.2.2.2.1.2 (by omega)
            have c0 := (G4.out.1.bel.cell (p := ⟨b, o + i, none⟩) hlt).trans (hcl i hil)
            obtain ⟨x, ex⟩ : ∃ x, x = l.getD i 0 := ⟨_, rfl⟩
            obtain ⟨s, es⟩ : ∃ s, s = S (fun i => l.getD i 0) i := ⟨_, rfl⟩
            rw [← ex] at c0
            have hs := S_bound HS.out.2.1 (k := i) (by rw [← HS.out.2.2.2.1]; exact hi)
            have hg := gold_le HS.out.2.1 (i := i) (by rw [← HS.out.2.2.2.1]; exact hil)
            rw [← es] at hs
            rw [← ex] at hg
            rw [← es]
            have NS : Hid (S (fun i => l.getD i 0) (i + 1) = s + x) := by rw [es, ex]; rfl
            clear hcl hlt ex es
            go_wp2
            go_roundw
            case rel => exact ⟨i + 1, by omega, by go_num, by rw [NS.out], by first | rfl | trivial⟩
            case measure => simp [intOf]; omega
          · have hil' : ¬ (i : Int) < (len : Int) := by omega
            have e : i = len := by omega
            obtain ⟨s, es⟩ : ∃ s, s = S (fun i => l.getD i 0) i := ⟨_, rfl⟩
            have NS : Hid (s = all) := by show _ = _; rw [es, HS.out.2.2.2.2.2.1, e, HS.out.2.2.2.1]
            rw [← es]
            clear e es
            go_wp2
            go_meet
            exact ⟨by rw [NS.out], rfl⟩
      case rest =>
        obtain ⟨rfl, ew4⟩ := hcut
        subst ew4
        obtain ⟨w4, ew4⟩ : ∃ w4, w4 = wc := ⟨_, rfl⟩
        subst ew4
        have sd := sum_done G4.out.2.2.2.1
        go_wp2_with fail
        refine (sumG w.heap.size P g fp all w4 G4.out.1.us G4.out.2.1).mono ?_
        rintro e w5 ⟨rfl, hb5⟩
        rw [sd.2.1, sd.2.2.1, sd.2.2.2, G4.out.2.2.2.2.1, G4.out.2.2.2.2.2.1, errF_ok]
        obtain ⟨W6, eW6⟩ : ∃ W6, W6 = w5.alloc (.cells #[.int .i64 all, .int .i64 0] 60) := ⟨_, rfl⟩
        obtain ⟨B6, eB6⟩ : ∃ B6, B6 = w5.heap.size := ⟨_, rfl⟩
        have b6 : Below w5.heap.size w5 W6 := by rw [eW6]; exact (Below.refl _ _).alloc (Nat.le_refl _) _
        have O6 : Hid (TO w W6 P g fp ∧ doneB g = true ∧ W6.cell? ⟨B6, 0, none⟩ = some (.int .i64 all) ∧ W6.cell? ⟨B6, 1, none⟩ = some (.int .i64 0) ∧ B6 < W6.heap.size ∧ begC g (m : Int) = 6) := by
          refine ⟨(G4.out.1.later hb5).later b6, sd.1, ?_, ?_, by rw [eW6, eB6]; simp, beg_again (by rw [G4.out.2.2.1]; exact HS.out.2.2.2.2.2.2.1) G4.out.2.2.2.2.2.2⟩
          · rw [eW6, eB6]; go_cell
          · rw [eW6, eB6]; go_cell
        clear hb5 sd b6
        go_upto_region 28 with fail
        rw [← eW6, ← eB6]
        clear eW6 eB6
        go_wp2_with fail
        refine (doneG w.heap.size P g fp all W6 O6.out.1.us G4.out.2.1).mono ?_
        rintro e w7 ⟨rfl, hb7⟩
        rw [O6.out.2.1]
        have O7 : Hid (TO w w7 P g fp) := O6.out.1.later hb7
        have c0 := (hb7.cell (p := ⟨B6, 0, none⟩) O6.out.2.2.2.2.1).trans O6.out.2.2.1
        have c1 := (hb7.cell (p := ⟨B6, 1, none⟩) O6.out.2.2.2.2.1).trans O6.out.2.2.2.1
        have da : (all == all) = true := by simp
        clear hb7
        go_wp2_with fail
        refine (begG w.heap.size P g fp all (m : Int) w7 O7.out.us G4.out.2.1 O7.out.bel.size).mono ?_
        rintro e w8 ⟨fp8, rfl, -, hb8, -, -⟩
        rw [O6.out.2.2.2.2.2]
        have B8 : Hid (Below w.heap.size w w8) := O7.out.bel.trans hb8
        clear hb8 c0 c1
        go_wp2_with fail
        refine (errF_same 6 w8 (HS.out.2.2.1.later B8.out)).mono ?_
        rintro e w9 ⟨rfl, hb9⟩
        have B9 : Hid (Below w.heap.size w w9) := B8.out.trans (hb9.mono B8.out.size)
        clear hb9
        go_wp2
        go_ret
        exact ⟨rfl, B9.out⟩
theorem still_any (q : Option Addr) (len cap : Nat) (l : List Int) (who : Int) (w : World) (hL : Laid w) (hs : Sl w (.slice q len cap) l) : Calls Tryd.prog 6 #[.slice q len cap, .int .i64 who] w fun e w' => e = .returned (.bool true) ∧ Below w.heap.size w w' := by
  by_cases hc : newC l = 0
  · by_cases hw : who < 0 ∨ (len : Int) ≤ who
    · exact still_out q len cap l who w hs hc hw
    · obtain ⟨m, rfl⟩ : ∃ m : Nat, who = (m : Int) := ⟨who.toNat, by omega⟩
      exact still_ok q len cap l m w hL hs hc (by omega)
  · exact still_no q len cap l who w hs hc
end Go.Proofs.YtgcdbcljneoifaiDoor.Pic
