/-
  Anything that is said, given a number, settled: the walk of AgreePlays.
-/
import Derived.Test.YtcolcjnmdejfeafDoorAgqZ
import Derived.Deep.CutBlock
import Derived.Deep.CutRange
namespace Go.Proofs.YtcolcjnmdejfeafDoor.Agr
open Go.RowKit
open Go.Proofs.YtcolcjnmdejfeafDoor.Fif (own_lt own_block own_form own_mono own_vw ret_bool)
open Go.Proofs.YtcolcjnmdejfeafDoor.Vec (Vw Rw)
open Go.Proofs.YtcolcjnmdejfeafDoor.As (Laid)
open Go.Proofs.YtcolcjnmdejfeafDoor.Sep (KpL NewL)
set_option linter.unusedVariables false

set_option maxRecDepth 100000 in
theorem plays_bad (n : Int) (a : Option Addr) (len cap : Nat) (w : World) (hL : Laid w) (h : n < 2 ∨ 5 < n) : Calls Tryd.prog 5 #[.int .i64 n, .slice a len cap] w fun e w' => e = .returned (.bool true) ∧ Below w.heap.size w w' := by
  have HL : Hid (Laid w) := hL
  clear hL
  by_cases h1 : n < 2
  · have h0 : Hid (n < 2 ∨ 5 < n) := h
    clear h
    go_enter Tryd.func5, Tryd.ntmps5
    go_wp2_with fail
    refine (newA_no n h0.out w).mono ?_
    rintro e w1 ⟨rfl, hb⟩
    go_wp2_with fail
    refine (errF_same 1 w1 (HL.out.later hb)).mono ?_
    rintro e w2 ⟨rfl, hb2⟩
    go_wp2
    go_ret
    exact ⟨rfl, hb.trans (hb2.mono hb.size)⟩
  · have h0 : Hid (n < 2 ∨ 5 < n) := h
    have h2 : 5 < n := by omega
    clear h
    go_enter Tryd.func5, Tryd.ntmps5
    go_wp2_with fail
    refine (newA_no n h0.out w).mono ?_
    rintro e w1 ⟨rfl, hb⟩
    go_wp2_with fail
    refine (errF_same 1 w1 (HL.out.later hb)).mono ?_
    rintro e w2 ⟨rfl, hb2⟩
    go_wp2
    go_ret
    exact ⟨rfl, hb.trans (hb2.mono hb.size)⟩
set_option maxRecDepth 100000 in
set_option maxHeartbeats 8000000 in
theorem plays_ok (n : Nat) (a : Option Addr) (len cap : Nat) (ls : List (List Int)) (w : World) (hL : Laid w) (hR : Rw w a len ls) (h2 : 2 ≤ n) (h5 : n ≤ 5) : Calls Tryd.prog 5 #[.int .i64 (n : Int), .slice a len cap] w fun e w' => e = .returned (.bool true) ∧ Below w.heap.size w w' := by
  have HL : Hid (Laid w ∧ Rw w a len ls) := ⟨hL, hR⟩
  have hlm : len ≤ maxLen := hR.2.1
  have hn2 : (2 : Int) ≤ (n : Int) := by omega
  have hn5 : (n : Int) ≤ 5 := by omega
  clear hL hR
  go_enter Tryd.func5, Tryd.ntmps5
  go_wp2_with fail
  refine (newA_ok n h2 h5 w).mono ?_
  rintro e w1 ⟨P, fp1, rfl, hA, hb⟩
  have A1 : Hid (AS w1 w.heap.size P (start n) fp1 ∧ Below w.heap.size w w1) := ⟨hA, hb⟩
  clear hA hb
  go_wp2_with fail
  refine (As.error_nil 0 w1).mono ?_
  rintro e w2 ⟨rfl, hb2⟩
  have A2 : Hid (AS w2 w.heap.size P (start n) fp1 ∧ Below w.heap.size w w2) := ⟨A1.out.1.of_blocks hb2.size fun b hb' => hb2.block b (A1.out.1.fp b hb').2, A1.out.2.trans (hb2.mono A1.out.2.size)⟩
  clear hb2 A1
  have hzr := zero_any
  have hzn := zAg_ne
  have P1 : Hid (PA w P w2.heap.size n 0 (w2.alloc (.cells (zAg.setIfInBounds 0 (.int .i64 (n : Int))) 69))) := by
    have b3 : Below w2.heap.size w2 (w2.alloc (.cells (zAg.setIfInBounds 0 (.int .i64 (n : Int))) 69)) := (Below.refl _ _).alloc (Nat.le_refl _) _
    refine ⟨start n, fp1, nil5, A2.out.1.of_blocks b3.size fun b hb' => b3.block b (A2.out.1.fp b hb').2, RA.made w2 w.heap.size n A2.out.2.size, fun b h1 q => ?_, Inv.start h2 h5, rfl, Le.start n, A2.out.2.trans (b3.mono A2.out.2.size)⟩
    have := (A2.out.1.fp b h1).2
    rcases mem_rfp.1 q with z | ⟨i, hi, z⟩
    · omega
    · cases z
  obtain ⟨Q, eQ⟩ : ∃ Q, Q = w2.heap.size := ⟨_, rfl⟩
  obtain ⟨w3, ew3⟩ : ∃ w3, w3 = w2.alloc (.cells (zAg.setIfInBounds 0 (.int .i64 (n : Int))) 69) := ⟨_, rfl⟩
  rw [← eQ, ← ew3] at P1
  go_wp2_with fail
  rw [← ew3, ← eQ]
  clear ew3 eQ hzr hzn A2
  go_loopw [10] (fun x wr => ∃ i : Nat, i ≤ len ∧ i ≤ 150 ∧ x = .int .i64 (i : Int) ∧ Hid (PA w P Q n i wr)) (fun x _ => len - (intOf x).toNat)
  case atStart => exact ⟨0, by omega, by omega, rfl, P1⟩
  case round =>
    obtain ⟨i, hi, hi150, rfl, hC⟩ := hrel
    by_cases hgo : (i : Int) < (len : Int) ∧ (i : Int) < 150
    · obtain ⟨hil, hi120⟩ := hgo
      obtain ⟨wo, ewo⟩ : ∃ wo, wo = wr := ⟨_, rfl⟩
      subst ewo
      have hi0 : (0 : Int) ≤ (i : Int) := by omega
      obtain ⟨g, fp, hs, p1, p2, p3, p4, p5, p6, p7⟩ := hC.out
      have R : Hid (AS wo w.heap.size P g fp ∧ RA wo w.heap.size Q g hs ∧ (∀ b, b ∈ fp → b ∉ rfp Q hs) ∧ Inv g ∧ g.n = n ∧ Le g i ∧ Below w.heap.size w wo) := ⟨p1, p2, p3, p4, p5, p6, p7⟩
      clear p1 p2 p3 p4 p5 p6 p7 hC
      obtain ⟨rb, ro, rfl, hrb, hrc⟩ := (HL.out.2.later R.out.2.2.2.2.2.2).2.2 (by omega)
      obtain ⟨qi, ci, g0, hvi, hmi⟩ := hrc i (by omega)
      obtain ⟨li, eli⟩ : ∃ li, li = (ls.getD i []).length := ⟨_, rfl⟩
      rw [← eli] at g0 hvi hmi
      have XV : Hid (wo.cell? ⟨rb, ro + i, none⟩ = some (.slice qi li ci) ∧ rb < wo.heap.size ∧ Vw wo qi li (ls.getD i [])) := ⟨g0, hrb, hvi⟩
      have hmi2 : (li : Int) ≤ 9223372036854775807 := by unfold maxLen at hmi; omega
      clear hrc g0 hrb hvi hmi eli
      have A1 : Hid (R3q wo (wo.alloc (.cells #[.int .i64 0, .int .i64 0, .int .i64 0] 36))) := by
        refine ⟨fun _ => 0, ?_, (Below.refl _ _).alloc (Nat.le_refl _) _⟩
        exact World.rowIs_alloc wo #[.int .i64 0, .int .i64 0, .int .i64 0] 36 _ (fun t ht => by rcases t with _ | _ | _ | t <;> first | rfl | (exfalso; have : _ < 3 := ht; omega))
      go_upto_block 2 with fail
      go_cut [12] from 59 to 80 (fun x wc => Hid (R3q wo wc))
      case first =>
        go_wp2_with fail
        go_loopw [12] (fun y wz => ∃ j : Nat, j ≤ 3 ∧ y = .int .i64 (j : Int) ∧ Hid (R3q wo wz)) (fun y _ => 3 - (intOf y).toNat)
        case atStart => exact ⟨0, by omega, rfl, A1⟩
        case round =>
          obtain ⟨j, hj, rfl, hA⟩ := hrel
          have x0 : wr.cell? ⟨rb, ro + i, none⟩ = some (.slice qi li ci) := by
            obtain ⟨f, _, hb⟩ := hA.out
            exact (hb.cell (p := ⟨rb, ro + i, none⟩) XV.out.2.1).trans XV.out.1
          have hj0 : (0 : Int) ≤ (j : Int) := by omega
          by_cases hjl : (j : Int) < (li : Int) ∧ (j : Int) < 3
          · obtain ⟨hjl, hj3⟩ := hjl
            obtain ⟨f, hf, hb⟩ := hA.out
            obtain ⟨bi, oi, rfl, hlti, hci⟩ := XV.out.2.2.2 (by omega)
            have y0 := (hb.cell (p := ⟨bi, oi + j, none⟩) hlti).trans (hci j (by omega))
            have c0 := World.rowIs.cell hf (i := j) (by omega)
            have z0 := World.rowIs.frozen hf j
            obtain ⟨yv, ey⟩ : ∃ yv, yv = (ls.getD i []).getD j 0 := ⟨_, rfl⟩
            rw [← ey] at y0
            have FB : Hid (wr.rowIs wo.heap.size 36 3 (fun t => .int .i64 (f t)) ∧ Below wo.heap.size wo wr) := ⟨hf, hb⟩
            clear hf hb hci hlti ey hA
            go_wp2
            go_roundw
            case rel =>
              refine ⟨j + 1, by omega, by go_num, fun t => if t = j then yv else f t, (World.rowIs.set FB.out.1 j _).congr fun t ht => ?_, FB.out.2.setCell (p := ⟨wo.heap.size, j, none⟩) (Nat.le_refl _) _⟩
              by_cases e : t = j
              · rw [if_pos e]; simp [e]
              · rw [if_neg e]; simp [e]
            case measure => simp [intOf]; omega
          · rcases (show ((j : Int) < (li : Int) ∧ ¬ (j : Int) < 3) ∨ ¬ (j : Int) < (li : Int) by omega) with ⟨e1, e2⟩ | e1
            all_goals
              go_wp2
              go_meet
              exact hA.out
      case rest =>
        obtain ⟨f, hf, hb⟩ := hcut.out
        obtain ⟨k0, ek0⟩ : ∃ k, k = f 0 := ⟨_, rfl⟩
        obtain ⟨k1, ek1⟩ : ∃ k, k = f 1 := ⟨_, rfl⟩
        obtain ⟨k2, ek2⟩ : ∃ k, k = f 2 := ⟨_, rfl⟩
        obtain ⟨V, eV⟩ : ∃ V, V = wo.heap.size := ⟨_, rfl⟩
        have G2 : Hid (PS w P Q V wc g fp g hs k0 k1 k2) := by
          rw [eV]
          refine ⟨R.out.1.of_blocks hb.size fun b hb' => hb.block b (R.out.1.fp b hb').2, R.out.2.1.later hb, R.out.2.2.1, ⟨?_, ?_, ?_⟩, World.rowIs.lt hf, fun q => ?_, fun q => ?_, R.out.2.2.2.2.2.2.trans (hb.mono R.out.2.2.2.2.2.2.size)⟩
          · rw [ek0]; exact World.rowIs.cell hf (i := 0) (by omega)
          · rw [ek1]; exact World.rowIs.cell hf (i := 1) (by omega)
          · rw [ek2]; exact World.rowIs.cell hf (i := 2) (by omega)
          · have := (R.out.1.fp _ q).2; omega
          · have := (R.out.2.1.fp _ q).2; omega
        have RI : Hid (Inv g ∧ g.n = n ∧ Le g i) := ⟨R.out.2.2.2.1, R.out.2.2.2.2.1, R.out.2.2.2.2.2.1⟩
        rw [← eV]
        clear hf hb ek0 ek1 ek2 hcut eV A1 XV R
        obtain ⟨w4, ew4⟩ : ∃ w4, w4 = wc := ⟨_, rfl⟩
        subst ew4
        obtain ⟨y0, y1, y2⟩ := G2.out.v
        have hV := G2.out.vl
        go_upto_block 4 with fail
        go_cut [5, 8, 13, 14, 15, 16, 17, 18, 19, 20] from 83 to 167 (fun x5 x8 x13 x14 x15 x16 x17 x18 x19 x20 wz => x8 = .bool true ∧ Hid (∃ g fp hs, PS w P Q V wz g fp g hs k0 k1 k2 ∧ Inv g ∧ g.n = n ∧ Le g (i + 1)))
        case first =>
          by_cases q0 : k0 = 0
          · subst q0
            by_cases b1 : k2 < 1
            · have EC : Hid (sayC g k2 = 1) := if_pos (.inl b1)
              have ES : Hid (say g k2 = g) := if_neg (by rw [EC.out]; decide)
              obtain ⟨W, eW⟩ : ∃ W, W = w4 := ⟨_, rfl⟩
              have GW : Hid (PS w P Q V W g fp g hs 0 k1 k2) := by rw [eW]; exact G2.out
              go_wp2_with fail
              rw [← eW]
              refine (sayA w.heap.size P g fp k2 W GW.out.ag RI.out.1 (RI.out.2.2.mono (by omega)) GW.out.bel.size).mono ?_
              rintro e w6 ⟨f6, rfl, hA6, hb6, hk6, hn6⟩
              have G6 : Hid (PS w P Q V w6 (say g k2) f6 g hs 0 k1 k2) := GW.out.prog hA6 hb6 hk6 hn6
              rw [EC.out]
              clear hA6 hb6 hk6 hn6
              go_wp2_with fail
              refine (errF_same 1 w6 (HL.out.1.later G6.out.bel)).mono ?_
              rintro e w7 ⟨rfl, hb7⟩
              have G7 : Hid (PS w P Q V w7 (say g k2) f6 g hs 0 k1 k2) := G6.out.later hb7
              clear hb7
              go_wp2
              go_meet
              refine ⟨rfl, say g k2, f6, hs, ?_, RI.out.1.say k2, by rw [say_n]; exact RI.out.2.1, (RI.out.2.2.say k2).mono (by omega)⟩
              have q := G7.out
              rw [ES.out] at q ⊢
              exact q
            · by_cases b2 : 30 < k2
              · have EC : Hid (sayC g k2 = 1) := if_pos (.inr b2)
                have ES : Hid (say g k2 = g) := if_neg (by rw [EC.out]; decide)
                obtain ⟨W, eW⟩ : ∃ W, W = w4 := ⟨_, rfl⟩
                have GW : Hid (PS w P Q V W g fp g hs 0 k1 k2) := by rw [eW]; exact G2.out
                go_wp2_with fail
                rw [← eW]
                refine (sayA w.heap.size P g fp k2 W GW.out.ag RI.out.1 (RI.out.2.2.mono (by omega)) GW.out.bel.size).mono ?_
                rintro e w6 ⟨f6, rfl, hA6, hb6, hk6, hn6⟩
                have G6 : Hid (PS w P Q V w6 (say g k2) f6 g hs 0 k1 k2) := GW.out.prog hA6 hb6 hk6 hn6
                rw [EC.out]
                clear hA6 hb6 hk6 hn6
                go_wp2_with fail
                refine (errF_same 1 w6 (HL.out.1.later G6.out.bel)).mono ?_
                rintro e w7 ⟨rfl, hb7⟩
                have G7 : Hid (PS w P Q V w7 (say g k2) f6 g hs 0 k1 k2) := G6.out.later hb7
                clear hb7
                go_wp2
                go_meet
                refine ⟨rfl, say g k2, f6, hs, ?_, RI.out.1.say k2, by rw [say_n]; exact RI.out.2.1, (RI.out.2.2.say k2).mono (by omega)⟩
                have q := G7.out
                rw [ES.out] at q ⊢
                exact q
              · obtain ⟨k, rfl⟩ : ∃ k : Nat, k2 = (k : Int) := ⟨k2.toNat, by omega⟩
                have hk31 : k < 31 := by omega
                have hk0 : (0 : Int) ≤ (k : Int) := by omega
                have hk31' : (k : Int) < 31 := by omega
                have cW := G2.out.ra.row.cW (i := k) hk31
                have eWw : (ofG g hs).W k = g.was k := rfl
                rw [eWw] at cW
                cases hw : g.was k
                · rw [hw] at cW
                  have EC : Hid (sayC g (k : Int) = 0) := sayC_new (by omega) hw
                  have ES : Hid (say g (k : Int) = also g k) := if_pos EC.out
                  have zW := G2.out.ra.row.fz (1 + k)
                  clear hw eWw
                  go_wp2_with fail
                  go_quiet (fail)
                  go_wp2_with fail
                  go_region
                  obtain ⟨W, eW⟩ : ∃ W, W = (w4.drewN (nq + 1)).setCell ⟨Q, 1 + k, none⟩ (.bool true) := ⟨_, rfl⟩
                  have GW : Hid (PS w P Q V W g fp (also g k) hs 0 k1 (k : Int)) := by
                    have p := G2.out.later (w' := w4.drewN (nq + 1)) (drewsG (Below.refl _ _) _)
                    obtain ⟨r1, r2, r3⟩ := p.ra.also hk31
                    rw [eW]
                    exact p.ref r1 r3 r2 (NewL.refl _ _)
                  rw [← eW]
                  have z2 := GW.out.v.2.2
                  clear eW y0 y1 y2 cW zW
                  go_wp2_with fail
                  refine (sayA w.heap.size P g fp (k : Int) W GW.out.ag RI.out.1 (RI.out.2.2.mono (by omega)) GW.out.bel.size).mono ?_
                  rintro e w6 ⟨f6, rfl, hA6, hb6, hk6, hn6⟩
                  have G6 : Hid (PS w P Q V w6 (say g (k : Int)) f6 (also g k) hs 0 k1 (k : Int)) := GW.out.prog hA6 hb6 hk6 hn6
                  rw [EC.out]
                  clear hA6 hb6 hk6 hn6
                  go_wp2_with fail
                  refine (errF_same 0 w6 (HL.out.1.later G6.out.bel)).mono ?_
                  rintro e w7 ⟨rfl, hb7⟩
                  have G7 : Hid (PS w P Q V w7 (say g (k : Int)) f6 (also g k) hs 0 k1 (k : Int)) := G6.out.later hb7
                  clear hb7
                  go_wp2
                  go_meet
                  refine ⟨rfl, say g (k : Int), f6, hs, ?_, RI.out.1.say (k : Int), by rw [say_n]; exact RI.out.2.1, (RI.out.2.2.say (k : Int)).mono (by omega)⟩
                  have q := G7.out
                  rw [ES.out] at q ⊢
                  exact q
                · rw [hw] at cW
                  have EC : Hid (sayC g (k : Int) = 7) := by
                    show (if (k : Int) < 1 ∨ 30 < (k : Int) then 1 else if g.was ((k : Int)).toNat = true then 7 else 0) = (7 : Int)
                    rw [if_neg (by omega), if_pos]
                    exact hw
                  have ES : Hid (say g (k : Int) = g) := if_neg (by rw [EC.out]; decide)
                  clear hw eWw
                  go_wp2_with fail
                  go_quiet (fail)
                  obtain ⟨W, eW⟩ : ∃ W, W = w4.drewN nq := ⟨_, rfl⟩
                  have GW : Hid (PS w P Q V W g fp g hs 0 k1 (k : Int)) := by rw [eW]; exact G2.out.later (drewsG (Below.refl _ _) _)
                  rw [← eW]
                  have z2 := GW.out.v.2.2
                  clear eW y0 y1 y2 cW
                  go_wp2_with fail
                  refine (sayA w.heap.size P g fp (k : Int) W GW.out.ag RI.out.1 (RI.out.2.2.mono (by omega)) GW.out.bel.size).mono ?_
                  rintro e w6 ⟨f6, rfl, hA6, hb6, hk6, hn6⟩
                  have G6 : Hid (PS w P Q V w6 (say g (k : Int)) f6 g hs 0 k1 (k : Int)) := GW.out.prog hA6 hb6 hk6 hn6
                  rw [EC.out]
                  clear hA6 hb6 hk6 hn6
                  go_wp2_with fail
                  refine (errF_same 7 w6 (HL.out.1.later G6.out.bel)).mono ?_
                  rintro e w7 ⟨rfl, hb7⟩
                  have G7 : Hid (PS w P Q V w7 (say g (k : Int)) f6 g hs 0 k1 (k : Int)) := G6.out.later hb7
                  clear hb7
                  go_wp2
                  go_meet
                  refine ⟨rfl, say g (k : Int), f6, hs, ?_, RI.out.1.say (k : Int), by rw [say_n]; exact RI.out.2.1, (RI.out.2.2.say (k : Int)).mono (by omega)⟩
                  have q := G7.out
                  rw [ES.out] at q ⊢
                  exact q
          · have q0' : (k0 == 0) = false := by simp [q0]
            by_cases q1 : k0 = 1
            · subst q1
              clear y0
              go_wp2_with fail
              refine (refPro k1 k2 w4 G2.out.ra RI.out.1.toInv0 (RI.out.2.2.mono (by omega)) G2.out.bel.size).mono ?_
              rintro e w5 ⟨rfl, hr5, hb5, hk5⟩
              obtain ⟨s0, es0⟩ : ∃ s0, s0 = (proS g k1 k2).1 := ⟨_, rfl⟩
              obtain ⟨s1, es1⟩ : ∃ s1, s1 = (proS g k1 k2).2 := ⟨_, rfl⟩
              obtain ⟨c, ec⟩ : ∃ c, c = proC g k1 k2 := ⟨_, rfl⟩
              rw [← es0, ← es1, ← ec]
              have ES : Hid (s0 = (proS g k1 k2).1 ∧ s1 = (proS g k1 k2).2 ∧ c = proC g k1 k2) := ⟨es0, es1, ec⟩
              obtain ⟨W5, eW5⟩ : ∃ W5, W5 = w5.alloc (.cells #[.int .i64 (s0 : Int), .int .i64 (s1 : Int)] 56) := ⟨_, rfl⟩
              have G5 : Hid (PS w P Q V W5 g fp (pro g k1 k2) hs 1 k1 k2 ∧ W5.rowIs w5.heap.size 56 2 (sv (s0, s1)) ∧ w4.heap.size ≤ w5.heap.size ∧ w5.heap.size < W5.heap.size) := by
                have p := G2.out.ref hr5 hb5 hk5 (NewL.refl _ _)
                rw [eW5]
                exact ⟨p.later ((Below.refl _ _).alloc (Nat.le_refl _) _), box2 w5 s0 s1, hk5.1, by simp⟩
              have p5 := G2.out.ref hr5 hb5 hk5 (NewL.refl _ _)
              have z1 := p5.v.2.1
              have z2 := p5.v.2.2
              have hV5 := p5.vl
              clear hr5 hb5 hk5 es0 es1 ec y1 y2 p5
              go_wp2_with fail
              rw [← eW5]
              clear eW5
              refine (proA w.heap.size P g fp k1 k2 W5 G5.out.1.ag RI.out.1 (RI.out.2.2.mono (by omega)) G5.out.1.bel.size).mono ?_
              rintro e w6 ⟨f6, rfl, hA6, hb6, hk6, hn6⟩
              rw [← ES.out.1, ← ES.out.2.1, ← ES.out.2.2]
              have hnf : w5.heap.size ∉ fp := fun q => by have := (G2.out.ag.fp _ q).2; have := G5.out.2.2.1; omega
              have T6 : Hid (PS w P Q V w6 (pro g k1 k2) f6 (pro g k1 k2) hs 1 k1 k2 ∧ w6.rowIs w5.heap.size 56 2 (sv (s0, s1))) := ⟨G5.out.1.prog hA6 hb6 hk6 hn6, World.rowIs.of_block G5.out.2.1 (hk6.2 _ G5.out.2.2.2 hnf)⟩
              clear hA6 hb6 hk6 hn6 hnf z1 z2 hV5
              obtain ⟨W6, eW6⟩ : ∃ W6, W6 = w6.alloc (.cells #[.int .i64 (s0 : Int), .int .i64 (s1 : Int)] 56) := ⟨_, rfl⟩
              have T7 : Hid (PS w P Q V W6 (pro g k1 k2) f6 (pro g k1 k2) hs 1 k1 k2 ∧ W6.rowIs w5.heap.size 56 2 (sv (s0, s1)) ∧ W6.rowIs w6.heap.size 56 2 (sv (s0, s1))) := by
                rw [eW6]
                exact ⟨T6.out.1.later ((Below.refl _ _).alloc (Nat.le_refl _) _), World.rowIs.of_block T6.out.2 (Below.heap_alloc _ _ _ (World.rowIs.lt T6.out.2)), box2 w6 s0 s1⟩
              go_wp2_with fail
              rw [← eW6]
              clear eW6
              refine (errF_same c W6 (HL.out.1.later T7.out.1.bel)).mono ?_
              rintro e w7 ⟨rfl, hb7⟩
              have T8 : Hid (PS w P Q V w7 (pro g k1 k2) f6 (pro g k1 k2) hs 1 k1 k2) := T7.out.1.later hb7
              have u1 := World.rowIs.of_block T7.out.2.1 (hb7.block _ (World.rowIs.lt T7.out.2.1))
              have u2 := World.rowIs.of_block T7.out.2.2 (hb7.block _ (World.rowIs.lt T7.out.2.2))
              have a0 := (box_c0 u1).1
              have a1 := (box_c1 u1).1
              have b0 := (box_c0 u2).1
              have b1 := (box_c1 u2).1
              simp only at a0 a1 b0 b1
              have hgd := eqGs
              have heq := eqSt (s0 : Int) (s1 : Int)
              clear hb7 u1 u2
              go_wp2
              go_meet
              exact ⟨rfl, pro g k1 k2, f6, hs, T8.out, RI.out.1.pro k1 k2, by rw [pro_n]; exact RI.out.2.1, RI.out.2.2.pro k1 k2⟩
            · have q1' : (k0 == 1) = false := by simp [q1]
              by_cases q2 : k0 = 2
              · subst q2
                clear y0
                go_wp2_with fail
                refine (refPro k1 k2 w4 G2.out.ra RI.out.1.toInv0 (RI.out.2.2.mono (by omega)) G2.out.bel.size).mono ?_
                rintro e w5 ⟨rfl, hr5, hb5, hk5⟩
                obtain ⟨s0, es0⟩ : ∃ s0, s0 = (proS g k1 k2).1 := ⟨_, rfl⟩
                obtain ⟨s1, es1⟩ : ∃ s1, s1 = (proS g k1 k2).2 := ⟨_, rfl⟩
                obtain ⟨c, ec⟩ : ∃ c, c = proC g k1 k2 := ⟨_, rfl⟩
                rw [← es0, ← es1, ← ec]
                have ES : Hid (s0 = (proS g k1 k2).1 ∧ s1 = (proS g k1 k2).2 ∧ c = proC g k1 k2) := ⟨es0, es1, ec⟩
                obtain ⟨W5, eW5⟩ : ∃ W5, W5 = w5.alloc (.cells #[.int .i64 (s0 : Int), .int .i64 (s1 : Int)] 56) := ⟨_, rfl⟩
                have G5 : Hid (PS w P Q V W5 g fp (pro g k1 k2) hs 2 k1 k2 ∧ W5.rowIs w5.heap.size 56 2 (sv (s0, s1)) ∧ w4.heap.size ≤ w5.heap.size ∧ w5.heap.size < W5.heap.size) := by
                  have p := G2.out.ref hr5 hb5 hk5 (NewL.refl _ _)
                  rw [eW5]
                  exact ⟨p.later ((Below.refl _ _).alloc (Nat.le_refl _) _), box2 w5 s0 s1, hk5.1, by simp⟩
                have p5 := G2.out.ref hr5 hb5 hk5 (NewL.refl _ _)
                have z1 := p5.v.2.1
                have z2 := p5.v.2.2
                have hV5 := p5.vl
                clear hr5 hb5 hk5 es0 es1 ec y1 y2 p5
                go_wp2_with fail
                rw [← eW5]
                clear eW5
                refine (proA w.heap.size P g fp k1 k2 W5 G5.out.1.ag RI.out.1 (RI.out.2.2.mono (by omega)) G5.out.1.bel.size).mono ?_
                rintro e w6 ⟨f6, rfl, hA6, hb6, hk6, hn6⟩
                rw [← ES.out.1, ← ES.out.2.1, ← ES.out.2.2]
                have hnf : w5.heap.size ∉ fp := fun q => by have := (G2.out.ag.fp _ q).2; have := G5.out.2.2.1; omega
                have T6 : Hid (PS w P Q V w6 (pro g k1 k2) f6 (pro g k1 k2) hs 2 k1 k2 ∧ w6.rowIs w5.heap.size 56 2 (sv (s0, s1))) := ⟨G5.out.1.prog hA6 hb6 hk6 hn6, World.rowIs.of_block G5.out.2.1 (hk6.2 _ G5.out.2.2.2 hnf)⟩
                clear hA6 hb6 hk6 hn6 hnf z1 z2 hV5
                obtain ⟨W6, eW6⟩ : ∃ W6, W6 = w6.alloc (.cells #[.int .i64 (s0 : Int), .int .i64 (s1 : Int)] 56) := ⟨_, rfl⟩
                have T7 : Hid (PS w P Q V W6 (pro g k1 k2) f6 (pro g k1 k2) hs 2 k1 k2 ∧ W6.rowIs w5.heap.size 56 2 (sv (s0, s1)) ∧ W6.rowIs w6.heap.size 56 2 (sv (s0, s1))) := by
                  rw [eW6]
                  exact ⟨T6.out.1.later ((Below.refl _ _).alloc (Nat.le_refl _) _), World.rowIs.of_block T6.out.2 (Below.heap_alloc _ _ _ (World.rowIs.lt T6.out.2)), box2 w6 s0 s1⟩
                go_wp2_with fail
                rw [← eW6]
                clear eW6
                refine (errF_same c W6 (HL.out.1.later T7.out.1.bel)).mono ?_
                rintro e w7 ⟨rfl, hb7⟩
                have T8 : Hid (PS w P Q V w7 (pro g k1 k2) f6 (pro g k1 k2) hs 2 k1 k2) := T7.out.1.later hb7
                have u1 := World.rowIs.of_block T7.out.2.1 (hb7.block _ (World.rowIs.lt T7.out.2.1))
                have u2 := World.rowIs.of_block T7.out.2.2 (hb7.block _ (World.rowIs.lt T7.out.2.2))
                have a0 := (box_c0 u1).1
                have a1 := (box_c1 u1).1
                have b0 := (box_c0 u2).1
                have b1 := (box_c1 u2).1
                simp only at a0 a1 b0 b1
                have hgd := eqGs
                have heq := eqSt (s0 : Int) (s1 : Int)
                clear hb7 u1 u2
                go_wp2
                go_meet
                exact ⟨rfl, pro g k1 k2, f6, hs, T8.out, RI.out.1.pro k1 k2, by rw [pro_n]; exact RI.out.2.1, RI.out.2.2.pro k1 k2⟩
              · have q2' : (k0 == 2) = false := by simp [q2]
                by_cases q3 : k0 = 3
                · subst q3
                  clear y0
                  go_wp2_with fail
                  refine (refPro k1 k2 w4 G2.out.ra RI.out.1.toInv0 (RI.out.2.2.mono (by omega)) G2.out.bel.size).mono ?_
                  rintro e w5 ⟨rfl, hr5, hb5, hk5⟩
                  obtain ⟨s0, es0⟩ : ∃ s0, s0 = (proS g k1 k2).1 := ⟨_, rfl⟩
                  obtain ⟨s1, es1⟩ : ∃ s1, s1 = (proS g k1 k2).2 := ⟨_, rfl⟩
                  obtain ⟨c, ec⟩ : ∃ c, c = proC g k1 k2 := ⟨_, rfl⟩
                  rw [← es0, ← es1, ← ec]
                  have ES : Hid (s0 = (proS g k1 k2).1 ∧ s1 = (proS g k1 k2).2 ∧ c = proC g k1 k2) := ⟨es0, es1, ec⟩
                  obtain ⟨W5, eW5⟩ : ∃ W5, W5 = w5.alloc (.cells #[.int .i64 (s0 : Int), .int .i64 (s1 : Int)] 56) := ⟨_, rfl⟩
                  have G5 : Hid (PS w P Q V W5 g fp (pro g k1 k2) hs 3 k1 k2 ∧ W5.rowIs w5.heap.size 56 2 (sv (s0, s1)) ∧ w4.heap.size ≤ w5.heap.size ∧ w5.heap.size < W5.heap.size) := by
                    have p := G2.out.ref hr5 hb5 hk5 (NewL.refl _ _)
                    rw [eW5]
                    exact ⟨p.later ((Below.refl _ _).alloc (Nat.le_refl _) _), box2 w5 s0 s1, hk5.1, by simp⟩
                  have p5 := G2.out.ref hr5 hb5 hk5 (NewL.refl _ _)
                  have z1 := p5.v.2.1
                  have z2 := p5.v.2.2
                  have hV5 := p5.vl
                  clear hr5 hb5 hk5 es0 es1 ec y1 y2 p5
                  go_wp2_with fail
                  rw [← eW5]
                  clear eW5
                  refine (proA w.heap.size P g fp k1 k2 W5 G5.out.1.ag RI.out.1 (RI.out.2.2.mono (by omega)) G5.out.1.bel.size).mono ?_
                  rintro e w6 ⟨f6, rfl, hA6, hb6, hk6, hn6⟩
                  rw [← ES.out.1, ← ES.out.2.1, ← ES.out.2.2]
                  have hnf : w5.heap.size ∉ fp := fun q => by have := (G2.out.ag.fp _ q).2; have := G5.out.2.2.1; omega
                  have T6 : Hid (PS w P Q V w6 (pro g k1 k2) f6 (pro g k1 k2) hs 3 k1 k2 ∧ w6.rowIs w5.heap.size 56 2 (sv (s0, s1))) := ⟨G5.out.1.prog hA6 hb6 hk6 hn6, World.rowIs.of_block G5.out.2.1 (hk6.2 _ G5.out.2.2.2 hnf)⟩
                  clear hA6 hb6 hk6 hn6 hnf z1 z2 hV5
                  obtain ⟨W6, eW6⟩ : ∃ W6, W6 = w6.alloc (.cells #[.int .i64 (s0 : Int), .int .i64 (s1 : Int)] 56) := ⟨_, rfl⟩
                  have T7 : Hid (PS w P Q V W6 (pro g k1 k2) f6 (pro g k1 k2) hs 3 k1 k2 ∧ W6.rowIs w5.heap.size 56 2 (sv (s0, s1)) ∧ W6.rowIs w6.heap.size 56 2 (sv (s0, s1))) := by
                    rw [eW6]
                    exact ⟨T6.out.1.later ((Below.refl _ _).alloc (Nat.le_refl _) _), World.rowIs.of_block T6.out.2 (Below.heap_alloc _ _ _ (World.rowIs.lt T6.out.2)), box2 w6 s0 s1⟩
                  go_wp2_with fail
                  rw [← eW6]
                  clear eW6
                  refine (errF_same c W6 (HL.out.1.later T7.out.1.bel)).mono ?_
                  rintro e w7 ⟨rfl, hb7⟩
                  have T8 : Hid (PS w P Q V w7 (pro g k1 k2) f6 (pro g k1 k2) hs 3 k1 k2) := T7.out.1.later hb7
                  have u1 := World.rowIs.of_block T7.out.2.1 (hb7.block _ (World.rowIs.lt T7.out.2.1))
                  have u2 := World.rowIs.of_block T7.out.2.2 (hb7.block _ (World.rowIs.lt T7.out.2.2))
                  have a0 := (box_c0 u1).1
                  have a1 := (box_c1 u1).1
                  have b0 := (box_c0 u2).1
                  have b1 := (box_c1 u2).1
                  simp only at a0 a1 b0 b1
                  have hgd := eqGs
                  have heq := eqSt (s0 : Int) (s1 : Int)
                  clear hb7 u1 u2
                  go_wp2
                  go_meet
                  exact ⟨rfl, pro g k1 k2, f6, hs, T8.out, RI.out.1.pro k1 k2, by rw [pro_n]; exact RI.out.2.1, RI.out.2.2.pro k1 k2⟩
                · have q3' : (k0 == 3) = false := by simp [q3]
                  clear y0
                  go_wp2_with fail
                  refine (refSet k1 k2 w4 G2.out.ra RI.out.1.toInv0 (RI.out.2.2.mono (by omega)) G2.out.bel.size).mono ?_
                  rintro e w5 ⟨vo, hs5, rfl, ho5, hr5, hb5, hk5, hn5', hv5⟩
                  obtain ⟨c, ec⟩ : ∃ c, c = setC g k1 k2 := ⟨_, rfl⟩
                  rw [← ec]
                  have ES : Hid (c = setC g k1 k2) := ec
                  have G5 : Hid (PS w P Q V w5 g fp (set g k1 k2) hs5 k0 k1 k2 ∧ w5.ownsRow w4.heap.size 3 1 vo (setO g k1 k2).length (vals (setO g k1 k2))) := ⟨G2.out.ref hr5 hb5 hk5 hn5', ho5⟩
                  have z1 := G5.out.1.v.2.1
                  have z2 := G5.out.1.v.2.2
                  clear hr5 hb5 hk5 hn5' hv5 ho5 ec y1 y2
                  go_wp2_with fail
                  refine (setA w.heap.size P g fp k1 k2 w5 G5.out.1.ag RI.out.1 (RI.out.2.2.mono (by omega)) G5.out.1.bel.size).mono ?_
                  rintro e w6 ⟨v6, f6, rfl, hs6, hA6, hb6, hk6, hn6⟩
                  rw [← ES.out]
                  have T6 : Hid (PS w P Q V w6 (set g k1 k2) f6 (set g k1 k2) hs5 k0 k1 k2 ∧ Sl w6 v6 (setO g k1 k2) ∧ Sl w6 vo (setO g k1 k2)) := by
                    refine ⟨G5.out.1.prog hA6 hb6 hk6 hn6, hs6, own_sl (own_block G5.out.2 fun b e => hk6.2 b (own_lt G5.out.2 b e).2 (fun q => ?_))⟩
                    have := (G2.out.ag.fp _ q).2
                    have := (own_lt G5.out.2 b e).1
                    omega
                  clear hA6 hb6 hk6 hn6 hs6 z1 z2
                  go_wp2_with fail
                  refine (errF_same c w6 (HL.out.1.later T6.out.1.bel)).mono ?_
                  rintro e w7 ⟨rfl, hb7⟩
                  have T7 : Hid (PS w P Q V w7 (set g k1 k2) f6 (set g k1 k2) hs5 k0 k1 k2 ∧ Sl w7 v6 (setO g k1 k2) ∧ Sl w7 vo (setO g k1 k2)) := ⟨T6.out.1.later hb7, T6.out.2.1.later hb7, T6.out.2.2.later hb7⟩
                  clear hb7
                  go_wp2_with fail
                  refine (same_any T7.out.2.1 T7.out.2.2).mono ?_
                  rintro e w8 ⟨rfl, hb8⟩
                  have e8 : decide (setO g k1 k2 = setO g k1 k2) = true := decide_eq_true rfl
                  rw [e8]
                  have T8 : Hid (PS w P Q V w8 (set g k1 k2) f6 (set g k1 k2) hs5 k0 k1 k2) := T7.out.1.later hb8
                  clear hb8 e8
                  go_wp2
                  go_meet
                  exact ⟨rfl, set g k1 k2, f6, hs5, T8.out, RI.out.1.set k1 k2, by rw [set_n RI.out.1.toInv0]; exact RI.out.2.1, (RI.out.2.2.set RI.out.1.toInv0 k1 k2).mono (by omega)⟩
        case rest =>
          obtain ⟨rfl, hx⟩ := hcut
          obtain ⟨w5, ew5⟩ : ∃ w5, w5 = wc := ⟨_, rfl⟩
          subst ew5
          clear G2 RI y0 y1 y2 hV
          obtain ⟨g, fp, hs, hp, hi1, hn1, hl1⟩ := hx.out
          have G5 : Hid (PS w P Q V w5 g fp g hs k0 k1 k2) := hp
          have RJ : Hid (Inv g ∧ g.n = n ∧ Le g (i + 1)) := ⟨hi1, hn1, hl1⟩
          have z1 := hp.v.2.1
          have hV5 := hp.vl
          clear hx hp hi1 hn1 hl1
          by_cases h1 : k1 < 0
          · have EC : Hid (hdC g k1 = 1) := if_pos (.inl h1)
            have EL : Hid (hdL g k1 = []) := if_neg (by rw [EC.out]; decide)
            obtain ⟨W, eW⟩ : ∃ W, W = w5 := ⟨_, rfl⟩
            have GW : Hid (PS w P Q V W g fp g hs k0 k1 k2) := by rw [eW]; exact G5.out
            have HV : Hid (Sl W (.slice none 0 0) []) := ⟨none, 0, rfl, Nat.le_refl _, Nat.zero_le _, rfl, fun q => absurd q (by decide)⟩
            go_wp2_with fail
            rw [← eW]
            clear eW

            refine (hdA w.heap.size P g fp k1 W GW.out.ag RJ.out.1 (RJ.out.2.2.mono (by omega))).mono ?_
            rintro e w6 ⟨v6, rfl, hs6, hb6⟩
            rw [EC.out]
            rw [EL.out] at hs6
            have G6 : Hid (PS w P Q V w6 g fp g hs k0 k1 k2 ∧ Sl w6 v6 ([] : List Nat) ∧ Sl w6 (.slice none 0 0) ([] : List Nat)) := ⟨GW.out.later hb6, hs6, HV.out.later hb6⟩
            clear hs6 hb6
            go_wp2_with fail
            refine (errF_same 1 w6 (HL.out.1.later G6.out.1.bel)).mono ?_
            rintro e w7 ⟨rfl, hb7⟩
            have G7 : Hid (PS w P Q V w7 g fp g hs k0 k1 k2 ∧ Sl w7 v6 ([] : List Nat) ∧ Sl w7 (.slice none 0 0) ([] : List Nat)) := ⟨G6.out.1.later hb7, G6.out.2.1.later hb7, G6.out.2.2.later hb7⟩
            clear hb7
            go_wp2_with fail
            refine (same_any G7.out.2.1 G7.out.2.2).mono ?_
            rintro e w8 ⟨rfl, hb8⟩
            have e8 : decide (([] : List Nat) = ([] : List Nat)) = true := decide_eq_true rfl
            rw [e8]
            have G8 : Hid (PS w P Q V w8 g fp g hs k0 k1 k2) := G7.out.1.later hb8
            clear hb8 e8
            go_wp2
            go_roundw
            case rel => exact ⟨i + 1, by omega, by omega, by go_num, G8.out.pa RJ.out.1 RJ.out.2.1 RJ.out.2.2⟩
            case measure => simp [intOf]; omega
          · by_cases h3 : (n : Int) ≤ k1
            · have EC : Hid (hdC g k1 = 1) := if_pos (.inr (by rw [RJ.out.2.1]; exact h3))
              have EL : Hid (hdL g k1 = []) := if_neg (by rw [EC.out]; decide)
              obtain ⟨W, eW⟩ : ∃ W, W = w5 := ⟨_, rfl⟩
              have GW : Hid (PS w P Q V W g fp g hs k0 k1 k2) := by rw [eW]; exact G5.out
              have HV : Hid (Sl W (.slice none 0 0) []) := ⟨none, 0, rfl, Nat.le_refl _, Nat.zero_le _, rfl, fun q => absurd q (by decide)⟩
              go_wp2_with fail
              rw [← eW]
              clear eW

              refine (hdA w.heap.size P g fp k1 W GW.out.ag RJ.out.1 (RJ.out.2.2.mono (by omega))).mono ?_
              rintro e w6 ⟨v6, rfl, hs6, hb6⟩
              rw [EC.out]
              rw [EL.out] at hs6
              have G6 : Hid (PS w P Q V w6 g fp g hs k0 k1 k2 ∧ Sl w6 v6 ([] : List Nat) ∧ Sl w6 (.slice none 0 0) ([] : List Nat)) := ⟨GW.out.later hb6, hs6, HV.out.later hb6⟩
              clear hs6 hb6
              go_wp2_with fail
              refine (errF_same 1 w6 (HL.out.1.later G6.out.1.bel)).mono ?_
              rintro e w7 ⟨rfl, hb7⟩
              have G7 : Hid (PS w P Q V w7 g fp g hs k0 k1 k2 ∧ Sl w7 v6 ([] : List Nat) ∧ Sl w7 (.slice none 0 0) ([] : List Nat)) := ⟨G6.out.1.later hb7, G6.out.2.1.later hb7, G6.out.2.2.later hb7⟩
              clear hb7
              go_wp2_with fail
              refine (same_any G7.out.2.1 G7.out.2.2).mono ?_
              rintro e w8 ⟨rfl, hb8⟩
              have e8 : decide (([] : List Nat) = ([] : List Nat)) = true := decide_eq_true rfl
              rw [e8]
              have G8 : Hid (PS w P Q V w8 g fp g hs k0 k1 k2) := G7.out.1.later hb8
              clear hb8 e8
              go_wp2
              go_roundw
              case rel => exact ⟨i + 1, by omega, by omega, by go_num, G8.out.pa RJ.out.1 RJ.out.2.1 RJ.out.2.2⟩
              case measure => simp [intOf]; omega
            · obtain ⟨m, rfl⟩ : ∃ m : Nat, k1 = (m : Int) := ⟨k1.toNat, by omega⟩
              have m5 : m < 5 := by omega
              have hm0 : (0 : Int) ≤ (m : Int) := by omega
              have hm5 : (m : Int) < 5 := by omega
              have hmn : (m : Int) < (n : Int) := by omega
              have EC : Hid (hdC g (m : Int) = 0) := if_neg (by rw [RJ.out.2.1]; omega)
              have EL : Hid (hdL g (m : Int) = g.hd m) := if_pos EC.out
              obtain ⟨qh, ch, eh⟩ := own_form (G5.out.ra.own m m5)
              obtain ⟨lh, elh⟩ : ∃ lh, lh = (g.hd m).length := ⟨_, rfl⟩
              rw [← elh] at eh
              have cS := G5.out.ra.row.cS (i := m) m5
              have eS : (ofG g hs).S m = hs m := rfl
              rw [eS, eh] at cS
              have HV0 : Hid (Sl w5 (.slice qh lh ch) (g.hd m)) := by rw [← eh]; exact G5.out.ra.sl m5
              clear eS eh elh
              go_wp2_with fail
              go_quiet (fail)
              obtain ⟨W, eW⟩ : ∃ W, W = w5.drewN nq := ⟨_, rfl⟩
              have GW : Hid (PS w P Q V W g fp g hs k0 (m : Int) k2) := by rw [eW]; exact G5.out.later (drewsG (Below.refl _ _) _)
              have HV : Hid (Sl W (.slice qh lh ch) (g.hd m)) := by rw [eW]; exact HV0.out.later (drewsG (Below.refl _ _) _)
              rw [← eW]
              have z1' := GW.out.v.2.1
              clear eW z1 cS
              go_wp2_with fail
              refine (hdA w.heap.size P g fp (m : Int) W GW.out.ag RJ.out.1 (RJ.out.2.2.mono (by omega))).mono ?_
              rintro e w6 ⟨v6, rfl, hs6, hb6⟩
              rw [EC.out]
              rw [EL.out] at hs6
              have G6 : Hid (PS w P Q V w6 g fp g hs k0 (m : Int) k2 ∧ Sl w6 v6 (g.hd m) ∧ Sl w6 (.slice qh lh ch) (g.hd m)) := ⟨GW.out.later hb6, hs6, HV.out.later hb6⟩
              clear hs6 hb6
              go_wp2_with fail
              refine (errF_same 0 w6 (HL.out.1.later G6.out.1.bel)).mono ?_
              rintro e w7 ⟨rfl, hb7⟩
              have G7 : Hid (PS w P Q V w7 g fp g hs k0 (m : Int) k2 ∧ Sl w7 v6 (g.hd m) ∧ Sl w7 (.slice qh lh ch) (g.hd m)) := ⟨G6.out.1.later hb7, G6.out.2.1.later hb7, G6.out.2.2.later hb7⟩
              clear hb7
              go_wp2_with fail
              refine (same_any G7.out.2.1 G7.out.2.2).mono ?_
              rintro e w8 ⟨rfl, hb8⟩
              have e8 : decide ((g.hd m) = (g.hd m)) = true := decide_eq_true rfl
              rw [e8]
              have G8 : Hid (PS w P Q V w8 g fp g hs k0 (m : Int) k2) := G7.out.1.later hb8
              clear hb8 e8
              go_wp2
              go_roundw
              case rel => exact ⟨i + 1, by omega, by omega, by go_num, G8.out.pa RJ.out.1 RJ.out.2.1 RJ.out.2.2⟩
              case measure => simp [intOf]; omega
    · rcases (show ((i : Int) < (len : Int) ∧ ¬ (i : Int) < 150) ∨ ¬ (i : Int) < (len : Int) by omega) with ⟨e1, e2⟩ | e1
      all_goals
        obtain ⟨g, fp, hs, p1, p2, p3, p4, p5, p6, p7⟩ := hC.out
        have B9 : Hid (Below w.heap.size w wr) := p7
        clear p1 p2 p3 p4 p5 p6 p7 hC hgo
        go_wp2
        go_ret
        exact ⟨rfl, B9.out⟩
theorem plays_any (n : Int) (a : Option Addr) (len cap : Nat) (ls : List (List Int)) (w : World) (hL : Laid w) (hR : Rw w a len ls) : Calls Tryd.prog 5 #[.int .i64 n, .slice a len cap] w fun e w' => e = .returned (.bool true) ∧ Below w.heap.size w w' := by
  by_cases h : n < 2 ∨ 5 < n
  · exact plays_bad n a len cap w hL h
  · obtain ⟨k, rfl⟩ : ∃ k : Nat, n = (k : Int) := ⟨n.toNat, by omega⟩
    exact plays_ok k a len cap ls w hL hR (by omega) (by omega)
end Go.Proofs.YtcolcjnmdejfeafDoor.Agr
