/-
  Anything that is said and heard in views that change: the walk of FlushPlays.
-/
import Derived.Test.YtgdmbnfdcbekaaiDoorFlpS
import Derived.Test.YtgdmbnfdcbekaaiDoorRowsS
import Derived.Test.YtgdmbnfdcbekaaiDoorVwtI
import Derived.Deep.CutBlock
import Derived.Deep.CutRange
namespace Go.Proofs.YtgdmbnfdcbekaaiDoor.Flu
open Go.RowKit
open Go.Proofs.YtgdmbnfdcbekaaiDoor.As (Laid)
open Go.Proofs.YtgdmbnfdcbekaaiDoor.Fif (ret_bool)
open Go.Proofs.YtgdmbnfdcbekaaiDoor.Vec (Vw Rw Rs)
open Go.Proofs.YtgdmbnfdcbekaaiDoor.Sep (KpL NewL)
open Go.Proofs.YtgdmbnfdcbekaaiDoor.Ldr (errF errF_ok errF_no errF_same Sl same_any)
open Go.Proofs.YtgdmbnfdcbekaaiDoor.Viw (nextV next_is next_no sameView drewsV)
set_option linter.unusedVariables false

def FQ (w wr : World) (P R B : Nat) : Prop := ∃ f fp rv g cap, PF w wr P R B f fp rv g cap
def FA (w wr : World) (P R B A : Nat) (k : Nat → Int) : Prop := ∃ f fp rv g cap, PF w wr P R B f fp rv g cap ∧ AR wr R A k fp g (cntF f) rv
theorem FQ.bel {w wr : World} {P R B : Nat} (h : FQ w wr P R B) : Below w.heap.size w wr := by
  obtain ⟨_, _, _, _, _, h⟩ := h
  exact h.bel
theorem FA.later {w wr w' : World} {P R B A : Nat} {k : Nat → Int} (h : FA w wr P R B A k) (hb : Below wr.heap.size wr w') : FA w w' P R B A k := by
  obtain ⟨f, fp, rv, g, cap, h1, h2⟩ := h
  exact ⟨f, fp, rv, g, cap, h1.later hb, h2.later hb⟩
def R3p (wo wz : World) : Prop := ∃ f : Nat → Int, wz.rowIs wo.heap.size 40 3 (fun t => .int .i64 (f t)) ∧ Below wo.heap.size wo wz
set_option maxRecDepth 100000 in
theorem playsF_bad (n : Int) (a : Option Addr) (len cap : Nat) (b : Option Addr) (len' cap' : Nat) (w : World) (hL : Laid w) (h : n < 2 ∨ 5 < n) : Calls Tryd.prog 4 #[.int .i64 n, .slice a len cap, .slice b len' cap'] w fun e w' => e = .returned (.bool true) ∧ Below w.heap.size w w' := by
  have HL : Hid (Laid w) := hL
  have h0 : Hid (n < 2 ∨ 5 < n) := h
  clear hL
  rcases (show n < 2 ∨ (¬ n < 2 ∧ n > 5) by omega) with d1 | ⟨d1, d2⟩
  all_goals
    clear h
    go_enter Tryd.func4, Tryd.ntmps4
    go_wp2_with fail
    refine (newU_no n h0.out w).mono ?_
    rintro e w1 ⟨rfl, hb⟩
    go_wp2_with fail
    refine (errF_same 1 w1 (HL.out.later hb)).mono ?_
    rintro e w2 ⟨rfl, hb2⟩
    go_wp2
    go_ret
    exact ⟨rfl, hb.trans (hb2.mono hb.size)⟩
set_option maxRecDepth 100000 in
set_option maxHeartbeats 8000000 in
theorem playsF_ok (n : Nat) (a : Option Addr) (len cap : Nat) (ls : List (List Int)) (b : Option Addr) (len' cap' : Nat) (ms : List (List Int)) (w : World) (hL : Laid w) (hR : Rw w a len ls) (hR' : Rs w b len' ms) (h2 : 2 ≤ n) (h5 : n ≤ 5) : Calls Tryd.prog 4 #[.int .i64 (n : Int), .slice a len cap, .slice b len' cap'] w fun e w' => e = .returned (.bool true) ∧ Below w.heap.size w w' := by
  have HL : Hid (Rw w a len ls ∧ Rs w b len' ms ∧ Laid w) := ⟨hR, hR', hL⟩
  have hlm : len ≤ maxLen := hR.2.1
  have hlm' : len' ≤ maxLen := hR'.2.1
  have d1 : ¬ (n : Int) < 2 := by omega
  have d2 : ¬ (n : Int) > 5 := by omega
  clear hR hR' hL
  go_enter Tryd.func4, Tryd.ntmps4
  go_wp2_with fail
  refine (newU_ok n h2 h5 w).mono ?_
  rintro e x1 ⟨P, fp1, rfl, hA, hb⟩
  have O1 : Hid (US x1 w.heap.size P (start n) fp1 ∧ Below w.heap.size w x1) := ⟨hA, hb⟩
  clear hA hb
  go_wp2_with fail
  refine (errF_same 0 x1 (HL.out.2.2.later O1.out.2)).mono ?_
  rintro e x2 ⟨rfl, hb⟩
  have O2 : Hid (US x2 w.heap.size P (start n) fp1 ∧ Below w.heap.size w x2) := ⟨O1.out.1.later hb, O1.out.2.trans (hb.mono O1.out.2.size)⟩
  clear hb O1
  go_wp2_with fail
  refine (refNew n h5 x2).mono ?_
  rintro e x3 ⟨R, rv3, g3, cap3, rfl, hF, hb⟩
  have C6 : Hid (FQ w x3 P R 0) := by
    refine ⟨start n, fp1, rv3, g3, cap3, O2.out.1.later hb, ?_, Inv.start h2 h5, Rng.start n, Int.le_refl _, O2.out.2.trans (hb.mono O2.out.2.size), fun b hb' q => ?_⟩
    · exact hF.lowerR O2.out.2.size
    · have h1 := (O2.out.1.fp b hb').2
      have h2 := (hF.fb q).1
      omega
  clear hF hb O2 d1 d2
  go_upto_block 0 with fail
  go_cut [7, 10, 12, 13, 14, 15, 16, 17, 18, 19, 20, 21, 22, 23, 24] from 48 to 223 (fun x7 x10 x12 x13 x14 x15 x16 x17 x18 x19 x20 x21 x22 x23 x24 wc => Hid (Below w.heap.size w wc))
  case first =>
    go_wp2_with fail
    go_loopw [7, 10, 12, 13, 14, 15, 16, 17, 18, 19, 20, 21, 22, 23, 24] (fun x7 x10 y x x14 x15 x16 x17 x18 x19 x20 x21 x22 x23 x24 wr => ∃ t i : Nat, t ≤ i ∧ i ≤ len ∧ i ≤ 120 ∧ y = .int .i64 (t : Int) ∧ x = .int .i64 (i : Int) ∧ Hid (FQ w wr P R i)) (fun _ _ _ x _ _ _ _ _ _ _ _ _ _ _ _ => len - (intOf x).toNat)
    case atStart => exact ⟨0, 0, by omega, by omega, by omega, rfl, rfl, C6⟩
    case round =>
      obtain ⟨t, i, hti, hi, hi120, rfl, rfl, hC⟩ := hrel
      by_cases hgo : (i : Int) < (len : Int) ∧ (i : Int) < 120
      · obtain ⟨hil, hil2⟩ := hgo
        obtain ⟨wo, ewo⟩ : ∃ wo, wo = wr := ⟨_, rfl⟩
        subst ewo
        have hi0 : (0 : Int) ≤ (i : Int) := by omega
        have ht0 : (0 : Int) ≤ (t : Int) := by omega
        have BO : Hid (Below w.heap.size w wo) := hC.out.bel
        obtain ⟨rb, ro, rfl, hrb, hrc⟩ := (HL.out.1.later BO.out).2.2 (by omega)
        obtain ⟨qi, ci, g0, hvi, hmi⟩ := hrc i (by omega)
        obtain ⟨li, eli⟩ : ∃ li, li = (ls.getD i []).length := ⟨_, rfl⟩
        rw [← eli] at g0 hvi hmi
        have XV : Hid (wo.cell? ⟨rb, ro + i, none⟩ = some (.slice qi li ci) ∧ rb < wo.heap.size ∧ Vw wo qi li (ls.getD i [])) := ⟨g0, hrb, hvi⟩
        have hmi2 : (li : Int) ≤ 9223372036854775807 := by unfold maxLen at hmi; omega
        clear hrc g0 hrb hvi hmi eli
        have A1 : Hid (R3p wo (wo.alloc (.cells #[.int .i64 0, .int .i64 0, .int .i64 0] 40))) := by
          refine ⟨fun _ => 0, ?_, (Below.refl _ _).alloc (Nat.le_refl _) _⟩
          exact World.rowIs_alloc wo #[.int .i64 0, .int .i64 0, .int .i64 0] 40 _ (fun t ht => by rcases t with _ | _ | _ | t <;> first | rfl | (exfalso; have : _ < 3 := ht; omega))
        go_upto_block 2 with fail
        go_cut [15] from 58 to 79 (fun x wc => Hid (R3p wo wc))
        case first =>
          go_wp2_with fail
          go_loopw [15] (fun y wz => ∃ j : Nat, j ≤ 3 ∧ y = .int .i64 (j : Int) ∧ Hid (R3p wo wz)) (fun y _ => 3 - (intOf y).toNat)
          case atStart => exact ⟨0, by omega, rfl, A1⟩
          case round =>
            obtain ⟨j, hj, rfl, hA⟩ := hrel
            have x0 : wr.cell? ⟨rb, ro + i, none⟩ = some (.slice qi li ci) := by
              obtain ⟨f, _, hb⟩ := hA.out
              exact (hb.cell (p := ⟨rb, ro + i, none⟩) XV.out.2.1).trans XV.out.1
            have hj0 : (0 : Int) ≤ (j : Int) := by omega
            by_cases hjl : (j : Int) < (li : Int) ∧ (j : Int) < 3
            · obtain ⟨hjl, hj3⟩ := hjl
              obtain ⟨f, hf, hb⟩ := hA.out
              obtain ⟨bi, oi, rfl, hlti, hci⟩ := XV.out.2.2.2 (by omega)
              have y0 := (hb.cell (p := ⟨bi, oi + j, none⟩) hlti).trans (hci j (by omega))
              have c0 := World.rowIs.cell hf (i := j) (by omega)
              have z0 := World.rowIs.frozen hf j
              obtain ⟨yv, ey⟩ : ∃ yv, yv = (ls.getD i []).getD j 0 := ⟨_, rfl⟩
              rw [← ey] at y0
              have FB : Hid (wr.rowIs wo.heap.size 40 3 (fun t => .int .i64 (f t)) ∧ Below wo.heap.size wo wr) := ⟨hf, hb⟩
              clear hf hb hci hlti ey hA
              go_wp2
              go_roundw
              case rel =>
                refine ⟨j + 1, by omega, by go_num, fun t => if t = j then yv else f t, (World.rowIs.set FB.out.1 j _).congr fun t ht => ?_, FB.out.2.setCell (p := ⟨wo.heap.size, j, none⟩) (Nat.le_refl _) _⟩
                by_cases e : t = j
                · rw [if_pos e]; simp [e]
                · rw [if_neg e]; simp [e]
              case measure => simp [intOf]; omega
            · rcases (show ((j : Int) < (li : Int) ∧ ¬ (j : Int) < 3) ∨ ¬ (j : Int) < (li : Int) by omega) with ⟨e1, e2⟩ | e1
              all_goals
                go_wp2
                go_meet
                exact hA.out
        case rest =>
          obtain ⟨A, eA⟩ : ∃ A, A = wo.heap.size := ⟨_, rfl⟩
          obtain ⟨k, hf, hb⟩ := hcut.out
          have CA : Hid (FA w wc P R i A k) := by
            obtain ⟨f, fp, rv, g, cap, h⟩ := hC.out
            obtain ⟨n1, n2⟩ := h.aside (b := A) (by omega)
            exact ⟨f, fp, rv, g, cap, h.later hb, by rw [eA]; exact hf, n1, n2⟩
          rw [← eA]
          obtain ⟨w6, ew6⟩ : ∃ w6, w6 = wc := ⟨_, rfl⟩
          subst ew6
          clear hf hb hcut A1 XV hC BO hmi2 eA
          obtain ⟨f, fp, rv, g, cap, hPF, hAR⟩ := CA.out
          have G6 : Hid (PF w w6 P R i f fp rv g cap ∧ AR w6 R A k fp g (cntF f) rv) := ⟨hPF, hAR⟩
          obtain ⟨k0, ek0⟩ : ∃ k0, k0 = k 0 := ⟨_, rfl⟩
          obtain ⟨k1, ek1⟩ : ∃ k1, k1 = k 1 := ⟨_, rfl⟩
          obtain ⟨k2, ek2⟩ : ∃ k2, k2 = k 2 := ⟨_, rfl⟩
          have EK : Hid (k0 = k 0 ∧ k1 = k 1 ∧ k2 = k 2) := ⟨ek0, ek1, ek2⟩
          have y0 := hAR.c0
          have y1 := hAR.c1
          have y2 := hAR.c2
          rw [← ek0] at y0
          rw [← ek1] at y1
          rw [← ek2] at y2
          have hAl := hAR.lt
          clear hPF hAR ek0 ek1 ek2 CA
          go_upto_block 4 with fail
          go_cut [7, 10, 12, 16, 17, 18, 19] from 80 to 150 (fun x7 x10 x12 x16 x17 x18 x19 wz => x10 = .bool true ∧ ∃ t' : Nat, t' ≤ i + 1 ∧ x12 = .int .i64 (t' : Int) ∧ Hid (FA w wz P R (i + 1) A k))
          case first =>
            by_cases q01 : k0 = 0 ∨ k0 = 1
            · -- @@say
              rcases q01 with rfl | rfl
              all_goals
                go_wp2_with fail
                refine (refSay k1 k2 G6.out.1.rf G6.out.1.inv G6.out.1.rng (by have := G6.out.1.few; omega)).mono ?_
                rintro e w7 ⟨rv7, rfl, hfr⟩
                obtain ⟨c, ec⟩ : ∃ c, c = sayC f k1 k2 := ⟨_, rfl⟩
                rw [← ec]
                have M7 : Hid (PM w w7 P R f (say f k1 k2) fp rv7 g cap ∧ AR w7 R A k fp g (cntF (say f k1 k2)) rv7 ∧ c = sayC f k1 k2) := ⟨G6.out.1.ref hfr, G6.out.2.ref hfr, ec⟩
                clear y0 y1 y2 hAl hfr ec
                have y1 := M7.out.2.1.c1
                have y2 := M7.out.2.1.c2
                rw [← EK.out.2.1] at y1
                rw [← EK.out.2.2] at y2
                have hAl := M7.out.2.1.lt
                go_wp2_with fail
                refine (sayU w.heap.size P f fp k1 k2 w7 M7.out.1.us G6.out.1.inv M7.out.1.bel.size).mono ?_
                rintro e w8 ⟨fp8, rfl, hA, hb, hkl, hnl⟩
                rw [← M7.out.2.2]
                have G8 : Hid (PF w w8 P R (i + 1) (say f k1 k2) fp8 rv7 g cap ∧ AR w8 R A k fp8 g (cntF (say f k1 k2)) rv7) := ⟨M7.out.1.prog hA hb hkl hnl (G6.out.1.inv.say k1 k2) (G6.out.1.rng.say k1 k2) (by rw [say_v]; have := G6.out.1.few; omega), M7.out.2.1.prog hkl hnl⟩
                clear hA hb hkl hnl y1 y2 hAl
                go_wp2_with fail
                refine (errF_same c w8 (HL.out.2.2.later G8.out.1.bel)).mono ?_
                rintro e w9 ⟨rfl, hb⟩
                have G9 : Hid (FA w w9 P R (i + 1) A k) := ⟨_, _, _, _, _, G8.out.1.later hb, G8.out.2.later hb⟩
                clear hb
                go_wp2
                go_meet
                exact ⟨rfl, t, by omega, rfl, G9⟩
              -- @@
            · have q0 : (k0 == 0) = false := by rw [beq_eq_false_iff_ne]; omega
              have q1 : (k0 == 1) = false := by rw [beq_eq_false_iff_ne]; omega
              by_cases q25 : k0 = 2 ∨ k0 = 3 ∨ k0 = 4 ∨ k0 = 5
              · -- @@give
                clear q01 q0 q1
                rcases q25 with rfl | rfl | rfl | rfl
                all_goals
                  go_wp2_with fail
                  refine (refGive k1 k2 G6.out.1.rf G6.out.1.inv G6.out.1.rng (by have := G6.out.1.few; omega)).mono ?_
                  rintro e w7 ⟨rv7, rfl, hfr⟩
                  obtain ⟨c, ec⟩ : ∃ c, c = giveC f k1 k2 := ⟨_, rfl⟩
                  rw [← ec]
                  have M7 : Hid (PM w w7 P R f (give f k1 k2) fp rv7 g cap ∧ AR w7 R A k fp g (cntF (give f k1 k2)) rv7 ∧ c = giveC f k1 k2) := ⟨G6.out.1.ref hfr, G6.out.2.ref hfr, ec⟩
                  clear y0 y1 y2 hAl hfr ec
                  have y1 := M7.out.2.1.c1
                  have y2 := M7.out.2.1.c2
                  rw [← EK.out.2.1] at y1
                  rw [← EK.out.2.2] at y2
                  have hAl := M7.out.2.1.lt
                  go_wp2_with fail
                  refine (giveU w.heap.size P f fp k1 k2 w7 M7.out.1.us G6.out.1.inv M7.out.1.bel.size).mono ?_
                  rintro e w8 ⟨fp8, rfl, hA, hb, hkl, hnl⟩
                  rw [← M7.out.2.2]
                  have G8 : Hid (PF w w8 P R (i + 1) (give f k1 k2) fp8 rv7 g cap ∧ AR w8 R A k fp8 g (cntF (give f k1 k2)) rv7) := ⟨M7.out.1.prog hA hb hkl hnl (G6.out.1.inv.give k1 k2) (G6.out.1.rng.give k1 k2) (by rw [give_v]; have := G6.out.1.few; omega), M7.out.2.1.prog hkl hnl⟩
                  clear hA hb hkl hnl y1 y2 hAl
                  go_wp2_with fail
                  refine (errF_same c w8 (HL.out.2.2.later G8.out.1.bel)).mono ?_
                  rintro e w9 ⟨rfl, hb⟩
                  have G9 : Hid (FA w w9 P R (i + 1) A k) := ⟨_, _, _, _, _, G8.out.1.later hb, G8.out.2.later hb⟩
                  clear hb
                  go_wp2
                  go_meet
                  exact ⟨rfl, t, by omega, rfl, G9⟩
                -- @@
              · have q2 : (k0 == 2) = false := by rw [beq_eq_false_iff_ne]; omega
                have q3 : (k0 == 3) = false := by rw [beq_eq_false_iff_ne]; omega
                have q4 : (k0 == 4) = false := by rw [beq_eq_false_iff_ne]; omega
                have q5 : (k0 == 5) = false := by rw [beq_eq_false_iff_ne]; omega
                clear q01 q25
                go_upto_if 85 with fail
                go_cut [12, 16] from 85 to 91 (fun y x wz => ∃ (t' : Nat) (q : Option Addr) (l c : Nat), t' ≤ i + 1 ∧ y = .int .i64 (t' : Int) ∧ x = .slice q l c ∧ wz = w6 ∧ Hid (∃ has, Sl w (.slice q l c) has))
                case first =>
                  by_cases htl : (t : Int) < (len' : Int)
                  · obtain ⟨sb, so, rfl, hsb, hsc⟩ := HL.out.2.1.2.2 (by omega)
                    obtain ⟨qt, ct, gt, hst⟩ := hsc t (by omega)
                    obtain ⟨lt, elt⟩ : ∃ lt, lt = (ms.getD t []).length := ⟨_, rfl⟩
                    rw [← elt] at gt hst
                    have gt6 : w6.cell? ⟨sb, so + t, none⟩ = some (.slice qt lt ct) := (G6.out.1.bel.cell (p := ⟨sb, so + t, none⟩) hsb).trans gt
                    have HT : Hid (∃ has, Sl w (.slice qt lt ct) has) := ⟨_, hst⟩
                    have ht120 : (t : Int) < 120 := by omega
                    clear hsc hsb gt hst elt
                    go_wp2
                    go_meet
                    exact ⟨t + 1, qt, lt, ct, by omega, by go_num, rfl, rfl, HT⟩
                  · go_wp2
                    go_meet
                    exact ⟨t, none, 0, 0, by omega, rfl, rfl, rfl, [], Sl.nil _⟩
                case rest =>
                  obtain ⟨t', q, l, c, ht', rfl, rfl, rfl, hs⟩ := hcut
                  obtain ⟨w6, ew6⟩ : ∃ w6, w6 = wc := ⟨_, rfl⟩
                  subst ew6
                  obtain ⟨has, hsl⟩ := hs.out
                  obtain ⟨hll, hvw, hlc, hcm⟩ := sl_vw hsl
                  have HS : Hid (Sl w (.slice q l c) has ∧ Sl w6 (.slice q l c) has ∧ Vw w6 q l has ∧ l ≤ maxLen ∧ (∀ ad, q = some ad → 0 < l → ad.block ∉ fp ∧ ¬ Fb R g (cntF f) rv ad.block)) := ⟨hsl, hsl.later G6.out.1.bel, hvw.later G6.out.1.bel, Nat.le_trans hlc hcm, G6.out.1.farP hvw⟩
                  clear hs hsl hll hvw hlc hcm y0 y1 y2 hAl q0 q1 q2 q3 q4 q5
                  by_cases hc : chC f has = 0
                  ·
                    obtain ⟨nv, env⟩ : ∃ nv, nv = f.v.n := ⟨_, rfl⟩
                    have HC : Hid (chC f has = 0 ∧ nextV f.v has = ⟨f.v.n + 1, has⟩ ∧ change f has = turn f has ∧ nv = f.v.n ∧ (turn f has).v.n = nv + 1 ∧ (turn f has).v.has = has ∧ l = has.length) := ⟨hc, next_is hc, change_ok hc, env, by rw [env]; rfl, rfl, (sl_vw HS.out.1).1⟩
                    clear hc env
                    go_wp2_with fail
                    refine (refChange_ok has q l c G6.out.1.rf G6.out.1.inv G6.out.1.rng (by have := G6.out.1.few; omega) HS.out.2.2.1 HS.out.2.2.2.1 (fun ad e z => (HS.out.2.2.2.2 ad e z).2) HC.out.1).mono ?_
                    rintro e w7 ⟨rv7, g7, cap7, rfl, hfr⟩
                    have M7 : Hid (PM w w7 P R f (turn f has) fp rv7 g7 cap7 ∧ AR w7 R A k fp g7 (cntF (turn f has)) rv7) := ⟨G6.out.1.ref hfr, G6.out.2.ref hfr⟩
                    clear hfr
                    obtain ⟨qv, cv, ev0, sv0, r0, r1⟩ := M7.out.1.rf.viewS
                    rw [HC.out.2.2.2.2.1] at r0
                    rw [HC.out.2.2.2.2.2.1, ← HC.out.2.2.2.2.2.2] at r1 ev0 sv0
                    have VS : Hid (rv7 0 = .slice qv l cv) := ev0
                    obtain ⟨W8, eW8⟩ : ∃ W8, W8 = w7.alloc (.cells #[.int .i64 (nv + 1), .slice qv l cv] 30) := ⟨_, rfl⟩
                    obtain ⟨O1, eO1⟩ : ∃ O1, O1 = w7.heap.size := ⟨_, rfl⟩
                    have hRl := World.rowIs.lt M7.out.1.rf.main
                    have G8 : Hid (PM w W8 P R f (turn f has) fp rv7 g7 cap7 ∧ AR W8 R A k fp g7 (cntF (turn f has)) rv7 ∧ W8.cell? ⟨O1, 0, none⟩ = some (.int .i64 (nv + 1)) ∧ W8.cell? ⟨O1, 1, none⟩ = some (.slice qv l cv) ∧ O1 < W8.heap.size ∧ O1 ∉ fp) := by
                      have b8 : Below w7.heap.size w7 W8 := by rw [eW8]; exact below_alu _ _
                      have hv := view_cells w7 (nv + 1) (.slice qv l cv)
                      rw [← eW8, ← eO1] at hv
                      exact ⟨M7.out.1.later b8, M7.out.2.later b8, hv.1, hv.2, by rw [eW8, eO1]; simp, fun z => by have := (M7.out.1.us.fp _ z).2; omega⟩
                    clear ev0 sv0
                    go_upto_region 28 with fail
                    rw [← eW8, ← eO1]
                    clear eW8 eO1 r0 r1 hRl
                    go_wp2_with fail
                    refine (changeU w.heap.size P f fp has q l c W8 G8.out.1.us G6.out.1.inv G8.out.1.bel.size (HS.out.1.later G8.out.1.bel) (fun ad e z => (HS.out.2.2.2.2 ad e z).1) (by have := G6.out.1.few; omega)).mono ?_
                    rintro e w9 ⟨q9, c9, f9, rfl, hs9, -, hA9, hb9, hk9, hw9⟩
                    rw [HC.out.2.1] at hs9 ⊢
                    rw [HC.out.1, errF_ok]
                    rw [HC.out.2.2.1] at hA9
                    have hs9' : Sl w9 (.slice q9 l c9) has := by rw [HC.out.2.2.2.2.2.2]; exact hs9
                    have G9 : Hid (PF w w9 P R (i + 1) (turn f has) f9 rv7 g7 cap7 ∧ AR w9 R A k f9 g7 (cntF (turn f has)) rv7 ∧ w9.cell? ⟨O1, 0, none⟩ = some (.int .i64 (nv + 1)) ∧ w9.cell? ⟨O1, 1, none⟩ = some (.slice qv l cv) ∧ O1 < w9.heap.size ∧ Sl w9 (.slice q9 l c9) has) := by
                      have eb := hk9.2 O1 G8.out.2.2.2.2.1 G8.out.2.2.2.2.2
                      have hI := G6.out.1.inv.change has
                      have hRg := G6.out.1.rng.change G6.out.1.inv has
                      rw [HC.out.2.2.1] at hI hRg
                      exact ⟨G8.out.1.prog hA9 hb9 hk9 hw9 hI hRg (by have := G6.out.1.few; have e := HC.out.2.2.2.2.1; have e2 := HC.out.2.2.2.1; omega), G8.out.2.1.prog hk9 hw9, (World.cell?_of_block (a := ⟨O1, 0, none⟩) eb).trans G8.out.2.2.1, (World.cell?_of_block (a := ⟨O1, 1, none⟩) eb).trans G8.out.2.2.2.1, Nat.lt_of_lt_of_le G8.out.2.2.2.2.1 hk9.1, hs9'⟩
                    clear hs9 hs9' hA9 hb9 hk9 hw9
                    show _
                    rw [← HC.out.2.2.2.1, ← HC.out.2.2.2.2.2.2]
                    obtain ⟨W10, eW10⟩ : ∃ W10, W10 = w9.alloc (.cells #[.int .i64 (nv + 1), .slice q9 l c9] 30) := ⟨_, rfl⟩
                    obtain ⟨O2, eO2⟩ : ∃ O2, O2 = w9.heap.size := ⟨_, rfl⟩
                    have G10 : Hid (PF w W10 P R (i + 1) (turn f has) f9 rv7 g7 cap7 ∧ AR W10 R A k f9 g7 (cntF (turn f has)) rv7 ∧ W10.cell? ⟨O1, 0, none⟩ = some (.int .i64 (nv + 1)) ∧ W10.cell? ⟨O1, 1, none⟩ = some (.slice qv l cv) ∧ W10.cell? ⟨O2, 0, none⟩ = some (.int .i64 (nv + 1)) ∧ W10.cell? ⟨O2, 1, none⟩ = some (.slice q9 l c9) ∧ Sl W10 (.slice q9 l c9) has ∧ O1 < W10.heap.size ∧ O2 < W10.heap.size) := by
                      have b10 : Below w9.heap.size w9 W10 := by rw [eW10]; exact below_alu _ _
                      have hv := view_cells w9 (nv + 1) (.slice q9 l c9)
                      rw [← eW10, ← eO2] at hv
                      exact ⟨G9.out.1.later b10, G9.out.2.1.later b10, (b10.cell (p := ⟨O1, 0, none⟩) G9.out.2.2.2.2.1).trans G9.out.2.2.1, (b10.cell (p := ⟨O1, 1, none⟩) G9.out.2.2.2.2.1).trans G9.out.2.2.2.1, hv.1, hv.2, G9.out.2.2.2.2.2.later b10, Nat.lt_of_lt_of_le G9.out.2.2.2.2.1 b10.size, by rw [eW10, eO2]; simp⟩
                    clear G8 G9
                    go_upto_region 29 with fail
                    rw [← eW10, ← eO2]
                    clear eW10 eO2
                    go_wp2_with fail
                    refine (errF_same 0 W10 (HL.out.2.2.later G10.out.1.bel)).mono ?_
                    rintro e w11 ⟨rfl, hb11⟩
                    have G11 : Hid (PF w w11 P R (i + 1) (turn f has) f9 rv7 g7 cap7 ∧ AR w11 R A k f9 g7 (cntF (turn f has)) rv7 ∧ Sl w11 (.slice q9 l c9) has ∧ Sl w11 (.slice qv l cv) has) := by
                      have z := G10.out.1.later hb11
                      obtain ⟨qz, cz, ez, sz, -, -⟩ := z.rf.viewS
                      rw [HC.out.2.2.2.2.2.1, ← HC.out.2.2.2.2.2.2] at ez sz
                      rw [VS.out] at ez
                      injection ez with z1 z2 z3
                      subst z1 z3
                      exact ⟨z, G10.out.2.1.later hb11, G10.out.2.2.2.2.2.2.1.later hb11, sz⟩
                    have o0 := (hb11.cell (p := ⟨O1, 0, none⟩) G10.out.2.2.2.2.2.2.2.1).trans G10.out.2.2.1
                    have o1 := (hb11.cell (p := ⟨O1, 1, none⟩) G10.out.2.2.2.2.2.2.2.1).trans G10.out.2.2.2.1
                    have p0 := (hb11.cell (p := ⟨O2, 0, none⟩) G10.out.2.2.2.2.2.2.2.2).trans G10.out.2.2.2.2.1
                    have p1 := (hb11.cell (p := ⟨O2, 1, none⟩) G10.out.2.2.2.2.2.2.2.2).trans G10.out.2.2.2.2.2.1
                    clear hb11
                    go_wp2_with fail
                    refine (sameView (nv + 1) has q9 l c9 qv l cv w11 G11.out.2.2.1 G11.out.2.2.2).mono ?_
                    rintro e w12 ⟨rfl, hb12⟩
                    have G12 : Hid (FA w w12 P R (i + 1) A k) := ⟨turn f has, f9, rv7, g7, cap7, G11.out.1.later hb12, G11.out.2.1.later hb12⟩
                    clear hb12 o0 o1 p0 p1
                    go_wp2
                    go_meet
                    exact ⟨rfl, t', by omega, rfl, G12⟩
                  ·
                    obtain ⟨cc, ecc⟩ : ∃ cc, cc = chC f has := ⟨_, rfl⟩
                    have hcc : (cc == 0) = false := by rw [beq_eq_false_iff_ne, ecc]; exact hc
                    have HC : Hid (cc = chC f has ∧ chC f has ≠ 0 ∧ nextV f.v has = ⟨0, []⟩ ∧ change f has = f) := ⟨ecc, hc, next_no hc, change_no hc⟩
                    clear ecc hc
                    go_wp2_with fail
                    refine (refChange_no has q l c G6.out.1.rf G6.out.1.inv HS.out.2.2.1 HS.out.2.2.2.1 HC.out.2.1).mono ?_
                    rintro e w7 ⟨rfl, hb7⟩
                    rw [← HC.out.1]
                    obtain ⟨W8, eW8⟩ : ∃ W8, W8 = w7.alloc (.cells #[.int .i64 0, .slice none 0 0] 30) := ⟨_, rfl⟩
                    obtain ⟨O1, eO1⟩ : ∃ O1, O1 = w7.heap.size := ⟨_, rfl⟩
                    have G8 : Hid (PF w W8 P R i f fp rv g cap ∧ AR W8 R A k fp g (cntF f) rv ∧ W8.cell? ⟨O1, 0, none⟩ = some (.int .i64 0) ∧ W8.cell? ⟨O1, 1, none⟩ = some (.slice none 0 0) ∧ O1 < W8.heap.size ∧ O1 ∉ fp) := by
                      have b8 : Below w7.heap.size w7 W8 := by rw [eW8]; exact below_alu _ _
                      have hv := view_cells w7 0 (.slice none 0 0)
                      rw [← eW8, ← eO1] at hv
                      exact ⟨(G6.out.1.later hb7).later b8, (G6.out.2.later hb7).later b8, hv.1, hv.2, by rw [eW8, eO1]; simp, ((G6.out.1.later hb7).aside (b := O1) (by omega)).1⟩
                    clear hb7
                    go_upto_region 26 with fail
                    rw [← eW8, ← eO1]
                    clear eW8 eO1
                    go_wp2_with fail
                    refine (changeU w.heap.size P f fp has q l c W8 G8.out.1.us G8.out.1.inv G8.out.1.bel.size (HS.out.1.later G8.out.1.bel) (fun ad e z => (HS.out.2.2.2.2 ad e z).1) (by have := G8.out.1.few; omega)).mono ?_
                    rintro e w9 ⟨q9, c9, f9, rfl, hs9, -, hA9, hb9, hk9, hw9⟩
                    rw [HC.out.2.2.1] at hs9 ⊢
                    rw [← HC.out.1]
                    rw [HC.out.2.2.2] at hA9
                    have G9 : Hid (PF w w9 P R (i + 1) f f9 rv g cap ∧ AR w9 R A k f9 g (cntF f) rv ∧ w9.cell? ⟨O1, 0, none⟩ = some (.int .i64 0) ∧ w9.cell? ⟨O1, 1, none⟩ = some (.slice none 0 0) ∧ O1 < w9.heap.size ∧ Sl w9 (.slice q9 0 c9) []) := by
                      have eb := hk9.2 O1 G8.out.2.2.2.2.1 G8.out.2.2.2.2.2
                      exact ⟨G8.out.1.pm.prog hA9 hb9 hk9 hw9 G8.out.1.inv G8.out.1.rng (by have := G8.out.1.few; omega), G8.out.2.1.prog hk9 hw9, (World.cell?_of_block (a := ⟨O1, 0, none⟩) eb).trans G8.out.2.2.1, (World.cell?_of_block (a := ⟨O1, 1, none⟩) eb).trans G8.out.2.2.2.1, Nat.lt_of_lt_of_le G8.out.2.2.2.2.1 hk9.1, hs9⟩
                    clear hs9 hA9 hb9 hk9 hw9
                    show _
                    obtain ⟨W10, eW10⟩ : ∃ W10, W10 = w9.alloc (.cells #[.int .i64 0, .slice q9 0 c9] 30) := ⟨_, rfl⟩
                    obtain ⟨O2, eO2⟩ : ∃ O2, O2 = w9.heap.size := ⟨_, rfl⟩
                    have G10 : Hid (PF w W10 P R (i + 1) f f9 rv g cap ∧ AR W10 R A k f9 g (cntF f) rv ∧ W10.cell? ⟨O1, 0, none⟩ = some (.int .i64 0) ∧ W10.cell? ⟨O1, 1, none⟩ = some (.slice none 0 0) ∧ W10.cell? ⟨O2, 0, none⟩ = some (.int .i64 0) ∧ W10.cell? ⟨O2, 1, none⟩ = some (.slice q9 0 c9) ∧ Sl W10 (.slice q9 0 c9) [] ∧ O1 < W10.heap.size ∧ O2 < W10.heap.size) := by
                      have b10 : Below w9.heap.size w9 W10 := by rw [eW10]; exact below_alu _ _
                      have hv := view_cells w9 0 (.slice q9 0 c9)
                      rw [← eW10, ← eO2] at hv
                      exact ⟨G9.out.1.later b10, G9.out.2.1.later b10, (b10.cell (p := ⟨O1, 0, none⟩) G9.out.2.2.2.2.1).trans G9.out.2.2.1, (b10.cell (p := ⟨O1, 1, none⟩) G9.out.2.2.2.2.1).trans G9.out.2.2.2.1, hv.1, hv.2, G9.out.2.2.2.2.2.later b10, Nat.lt_of_lt_of_le G9.out.2.2.2.2.1 b10.size, by rw [eW10, eO2]; simp⟩
                    clear G8 G9
                    go_upto_region 29 with fail
                    try simp only [List.length_nil]
                    rw [← eW10, ← eO2]
                    clear eW10 eO2
                    go_wp2_with fail
                    refine (errF_same cc W10 (HL.out.2.2.later G10.out.1.bel)).mono ?_
                    rintro e w11 ⟨rfl, hb11⟩
                    have G11 : Hid (PF w w11 P R (i + 1) f f9 rv g cap ∧ AR w11 R A k f9 g (cntF f) rv ∧ Sl w11 (.slice q9 0 c9) []) := ⟨G10.out.1.later hb11, G10.out.2.1.later hb11, G10.out.2.2.2.2.2.2.1.later hb11⟩
                    have o0 := (hb11.cell (p := ⟨O1, 0, none⟩) G10.out.2.2.2.2.2.2.2.1).trans G10.out.2.2.1
                    have o1 := (hb11.cell (p := ⟨O1, 1, none⟩) G10.out.2.2.2.2.2.2.2.1).trans G10.out.2.2.2.1
                    have p0 := (hb11.cell (p := ⟨O2, 0, none⟩) G10.out.2.2.2.2.2.2.2.2).trans G10.out.2.2.2.2.1
                    have p1 := (hb11.cell (p := ⟨O2, 1, none⟩) G10.out.2.2.2.2.2.2.2.2).trans G10.out.2.2.2.2.2.1
                    clear hb11
                    go_wp2_with fail
                    refine (sameView 0 [] q9 0 c9 none 0 0 w11 G11.out.2.2 (Sl.nil _)).mono ?_
                    rintro e w12 ⟨rfl, hb12⟩
                    have G12 : Hid (FA w w12 P R (i + 1) A k) := ⟨f, f9, rv, g, cap, G11.out.1.later hb12, G11.out.2.1.later hb12⟩
                    clear hb12 o0 o1 p0 p1
                    go_wp2
                    go_meet
                    exact ⟨rfl, t', by omega, rfl, G12⟩
          case rest =>
            obtain ⟨rfl, t', ht', rfl, hFA⟩ := hcut
            obtain ⟨w7, ew7⟩ : ∃ w7, w7 = wc := ⟨_, rfl⟩
            subst ew7
            clear y0 y1 y2 hAl G6
            obtain ⟨f2, fp2, rv2, g2, cap2, hPF, hAR⟩ := hFA.out
            have G7 : Hid (PF w w7 P R (i + 1) f2 fp2 rv2 g2 cap2 ∧ AR w7 R A k fp2 g2 (cntF f2) rv2) := ⟨hPF, hAR⟩
            obtain ⟨nv, env⟩ : ∃ nv : Nat, f2.v.n = (nv : Int) := ⟨num f2, hPF.inv.numI.symm⟩
            have hnv : nv ≤ 121 := by have := hPF.few; omega
            obtain ⟨qv, cv, ev0, sv0, r0, r1⟩ := hPF.rf.viewS
            rw [env] at r0
            have EV : Hid (f2.v.n = (nv : Int) ∧ num f2 = nv ∧ rv2 0 = .slice qv f2.v.has.length cv) := ⟨env, by have := hPF.inv.numI; omega, ev0⟩
            have y1 := hAR.c1
            have y2 := hAR.c2
            rw [← EK.out.2.1] at y1
            rw [← EK.out.2.2] at y2
            have hAl := hAR.lt
            have hRl := World.rowIs.lt hPF.rf.main
            clear hPF hAR hFA env ev0 sv0 r1 fp rv g cap
            go_upto_if 158 with fail
            go_cut [21] from 156 to 160 (fun x wz => ∃ nn : Int, x = .int .i64 nn ∧ wz = w7)
            case first =>
              go_wp2
              all_goals
                go_meet
                exact ⟨_, rfl, rfl⟩
            case rest =>
              obtain ⟨nn, rfl, ew7⟩ := hcut
              subst ew7
              obtain ⟨w7, ew7⟩ : ∃ w7, w7 = wc := ⟨_, rfl⟩
              subst ew7
              obtain ⟨bb, ebb⟩ : ∃ bb, bb = decide ((k1 < 0 ∨ 4 < k1) ∨ nn < 0 ∨ (nv : Int) < nn) := ⟨_, rfl⟩
              have HB : Hid (bb = decide ((k1 < 0 ∨ 4 < k1) ∨ nn < 0 ∨ (nv : Int) < nn)) := ebb
              clear ebb
              go_upto_region 45 with fail
              go_cut [181] from 161 to 181 (fun x wz => x = .bool bb ∧ wz = w7)
              case first =>
                rcases (show k1 < 0 ∨ (¬ k1 < 0 ∧ k1 > 4) ∨ (¬ k1 < 0 ∧ ¬ k1 > 4 ∧ nn < 0) ∨ (¬ k1 < 0 ∧ ¬ k1 > 4 ∧ ¬ nn < 0 ∧ nn > (nv : Int)) ∨ (¬ k1 < 0 ∧ ¬ k1 > 4 ∧ ¬ nn < 0 ∧ ¬ nn > (nv : Int)) by omega) with h1 | ⟨h1, h2⟩ | ⟨h1, h2, h3⟩ | ⟨h1, h2, h3, h4⟩ | ⟨h1, h2, h3, h4⟩
                · have e : Hid (bb = true) := by show _ = _; rw [HB.out]; exact decide_eq_true (by omega)
                  go_wp2
                  go_meet
                  exact ⟨by rw [e.out], rfl⟩
                · have e : Hid (bb = true) := by show _ = _; rw [HB.out]; exact decide_eq_true (by omega)
                  go_wp2
                  go_meet
                  exact ⟨by rw [e.out], rfl⟩
                · have e : Hid (bb = true) := by show _ = _; rw [HB.out]; exact decide_eq_true (by omega)
                  go_wp2
                  go_meet
                  exact ⟨by rw [e.out], rfl⟩
                · have e : Hid (bb = true) := by show _ = _; rw [HB.out]; exact decide_eq_true (by omega)
                  go_wp2
                  go_meet
                  exact ⟨by rw [e.out], rfl⟩
                · have e : Hid (bb = false) := by show _ = _; rw [HB.out]; exact decide_eq_false (by omega)
                  go_wp2
                  go_meet
                  exact ⟨by rw [e.out], rfl⟩
              case rest =>
                obtain ⟨rfl, ew7⟩ := hcut
                subst ew7
                obtain ⟨w7, ew7⟩ : ∃ w7, w7 = wc := ⟨_, rfl⟩
                subst ew7
                go_upto_if 181 with fail
                go_cut [7, 20] from 181 to 191 (fun x7 x20 wz => ∃ (c : Int) (q : Option Addr) (l cq : Nat), x7 = .int .i64 c ∧ x20 = .slice q l cq ∧ Hid (c = hdC f2 k1 nn ∧ Sl wz (.slice q l cq) (hdL f2 k1 nn) ∧ PF w wz P R (i + 1) f2 fp2 rv2 g2 cap2 ∧ AR wz R A k fp2 g2 (cntF f2) rv2))
                case first =>
                  cases bb
                  · have hn0 : ¬ ((k1 < 0 ∨ 4 < k1) ∨ nn < 0 ∨ (nv : Int) < nn) := of_decide_eq_false HB.out.symm
                    obtain ⟨m, em⟩ : ∃ m : Nat, k1 = (m : Int) := ⟨k1.toNat, by omega⟩
                    obtain ⟨j, ej⟩ : ∃ j : Nat, nn = (j : Int) := ⟨nn.toNat, by omega⟩
                    have hm5 : m < 5 := by omega
                    have hjv : j ≤ nv := by omega
                    have eC : hdC f2 k1 nn = 0 := by unfold hdC; rw [EV.out.1]; exact if_neg hn0
                    have eL : hdL f2 k1 nn = f2.hd j m := by unfold hdL; rw [eC, if_pos rfl, em, ej, Int.toNat_natCast, Int.toNat_natCast]
                    obtain ⟨qh, ch, sh, s34, sg⟩ := G7.out.1.rf.heardS (j := j) (m := m) (by rw [EV.out.2.1]; exact hjv) hm5
                    rw [EV.out.2.1] at s34
                    obtain ⟨lh, elh⟩ : ∃ lh, lh = (f2.hd j m).length := ⟨_, rfl⟩
                    rw [← elh] at sh sg
                    obtain ⟨K, eK⟩ : ∃ K, K = nv + 1 := ⟨_, rfl⟩
                    rw [← eK] at s34
                    have HH : Hid (hdC f2 k1 nn = 0 ∧ hdL f2 k1 nn = f2.hd j m ∧ Sl w7 (.slice qh lh ch) (f2.hd j m)) := ⟨eC, eL, sh⟩
                    have hm0 : (0 : Int) ≤ (m : Int) := by omega
                    have hm5' : (m : Int) < 5 := by omega
                    have hj0 : (0 : Int) ≤ (j : Int) := by omega
                    have hjK : (j : Int) < (K : Int) := by omega
                    have hgl := G7.out.1.rf.rows.lt
                    rw [em] at y1
                    clear eC eL sh elh eK hn0 em hjv HB
                    subst ej
                    go_wp2_with fail
                    go_region_held3 (fun X => X.cell? ⟨R, 34, none⟩ = some (.slice (some ⟨g2, 0, none⟩) K cap2) ∧ X.cell? ⟨A, 1, none⟩ = some (.int .i64 (m : Int)) ∧ X.cell? ⟨g2, j * 5 + m, none⟩ = some (.slice qh lh ch)) (exact ⟨s34, y1, sg⟩) (fail)
                    go_wp2
                    go_meet
                    refine ⟨0, qh, lh, ch, rfl, rfl, HH.out.1.symm, ?_, G7.out.1.later (drewN_below w7 1), G7.out.2.later (drewN_below w7 1)⟩
                    rw [HH.out.2.1]
                    exact HH.out.2.2.later (drewN_below w7 1)
                  · have hn0 : (k1 < 0 ∨ 4 < k1) ∨ nn < 0 ∨ (nv : Int) < nn := of_decide_eq_true HB.out.symm
                    have eC : hdC f2 k1 nn = 1 := by unfold hdC; rw [EV.out.1]; exact if_pos hn0
                    have eL : hdL f2 k1 nn = [] := by unfold hdL; rw [eC, if_neg (by decide)]
                    have HH : Hid (hdC f2 k1 nn = 1 ∧ hdL f2 k1 nn = []) := ⟨eC, eL⟩
                    clear eC eL hn0
                    go_wp2
                    go_meet
                    refine ⟨1, none, 0, 0, rfl, rfl, HH.out.1.symm, ?_, G7.out.1, G7.out.2⟩
                    rw [HH.out.2]
                    exact Sl.nil _
                case rest =>
                  obtain ⟨c, q, l, cq, rfl, rfl, hQ⟩ := hcut
                  obtain ⟨w8, ew8⟩ : ∃ w8, w8 = wc := ⟨_, rfl⟩
                  subst ew8
                  have G8 : Hid (c = hdC f2 k1 nn ∧ Sl w8 (.slice q l cq) (hdL f2 k1 nn) ∧ PF w w8 P R (i + 1) f2 fp2 rv2 g2 cap2 ∧ AR w8 R A k fp2 g2 (cntF f2) rv2) := hQ.out
                  clear hQ y1 y2 hAl r0 hRl G7 bb HB
                  have y1 := G8.out.2.2.2.c1
                  rw [← EK.out.2.1] at y1
                  have hAl := G8.out.2.2.2.lt
                  go_wp2_with fail
                  refine (heardU w.heap.size P f2 fp2 k1 nn w8 G8.out.2.2.1.us G8.out.2.2.1.inv (by have := EV.out.1; omega)).mono ?_
                  rintro e w9 ⟨q9, c9, rfl, hs9, -, hb9⟩
                  obtain ⟨l9, el9⟩ : ∃ l9, l9 = (hdL f2 k1 nn).length := ⟨_, rfl⟩
                  rw [← el9] at hs9 ⊢
                  rw [← G8.out.1]
                  have G9 : Hid (PF w w9 P R (i + 1) f2 fp2 rv2 g2 cap2 ∧ Sl w9 (.slice q9 l9 c9) (hdL f2 k1 nn) ∧ Sl w9 (.slice q l cq) (hdL f2 k1 nn)) := ⟨G8.out.2.2.1.later hb9, hs9, G8.out.2.1.later hb9⟩
                  clear hs9 hb9 el9 y1 hAl
                  go_wp2_with fail
                  refine (errF_same c w9 (HL.out.2.2.later G9.out.1.bel)).mono ?_
                  rintro e w10 ⟨rfl, hb10⟩
                  have G10 : Hid (PF w w10 P R (i + 1) f2 fp2 rv2 g2 cap2 ∧ Sl w10 (.slice q9 l9 c9) (hdL f2 k1 nn) ∧ Sl w10 (.slice q l cq) (hdL f2 k1 nn)) := ⟨G9.out.1.later hb10, G9.out.2.1.later hb10, G9.out.2.2.later hb10⟩
                  clear hb10
                  go_wp2_with fail
                  refine (same_any G10.out.2.1 G10.out.2.2).mono ?_
                  rintro e w11 ⟨rfl, hb11⟩
                  have ed : decide (hdL f2 k1 nn = hdL f2 k1 nn) = true := decide_eq_true rfl
                  rw [ed]
                  have G11 : Hid (PF w w11 P R (i + 1) f2 fp2 rv2 g2 cap2) := G10.out.1.later hb11
                  clear hb11 ed G9 G10
                  obtain ⟨lv2, elv⟩ : ∃ lv2, lv2 = f2.v.has.length := ⟨_, rfl⟩
                  have VW : Hid (∀ X : World, PF w X P R (i + 1) f2 fp2 rv2 g2 cap2 → X.cell? ⟨R, 0, none⟩ = some (.int .i64 (nv : Int)) ∧ X.cell? ⟨R, 1, none⟩ = some (.slice qv lv2 cv) ∧ Sl X (.slice qv lv2 cv) f2.v.has) := by
                    intro X hX
                    obtain ⟨qz, cz, ez, sz, z0, z1⟩ := hX.rf.viewS
                    rw [EV.out.2.2] at ez
                    injection ez with e1 e2 e3
                    subst e1 e3
                    rw [EV.out.1] at z0
                    rw [← elv] at z1 sz
                    exact ⟨z0, z1, sz⟩
                  have ELV : Hid (lv2 = f2.v.has.length) := elv
                  have HS : Hid (∀ X : World, PF w X P R (i + 1) f2 fp2 rv2 g2 cap2 → X.cell? ⟨R, 0, none⟩ = some (.int .i64 (nv : Int)) ∧ X.cell? ⟨R, 1, none⟩ = some (.slice qv lv2 cv)) := fun X hX => ⟨(VW.out X hX).1, (VW.out X hX).2.1⟩
                  clear elv
                  have s0 := (HS.out _ G11.out).1
                  have s1 := (HS.out _ G11.out).2
                  go_upto_region 50 with fail
                  go_region_held3 (fun X => X.cell? ⟨R, 0, none⟩ = some (.int .i64 (nv : Int)) ∧ X.cell? ⟨R, 1, none⟩ = some (.slice qv lv2 cv)) (first | exact ⟨s0, s1⟩ | exact HS.out _ G12.out.1 | exact HS.out _ G13.out) (first
                    | (go_at_call 17; refine (viewU w.heap.size P f2 fp2 _ (by exact G11.out.us.of_blocks (Nat.le_refl _) fun _ _ => rfl) G11.out.inv).mono ?_; rintro e12 w12 ⟨q12, c12, rfl, hs12, _, hb12⟩; rw [← ELV.out] at hs12; rw [← ELV.out, EV.out.1]; have G12 : Hid (PF w w12 P R (i + 1) f2 fp2 rv2 g2 cap2 ∧ Sl w12 (.slice q12 lv2 c12) f2.v.has) := ⟨G11.out.later (below_same hb12 rfl rfl rfl rfl), hs12⟩; clear hs12 hb12)
                    | (go_at_call 15; refine (sameView (nv : Int) f2.v.has q12 lv2 c12 qv lv2 cv _ (by exact G12.out.2) (by exact (VW.out _ G12.out.1).2.2)).mono ?_; rintro e13 w13 ⟨rfl, hb13⟩; have G13 : Hid (PF w w13 P R (i + 1) f2 fp2 rv2 g2 cap2) := G12.out.1.later (below_same hb13 rfl rfl rfl rfl); clear hb13))
                  go_wp2
                  go_roundw
                  case rel => exact ⟨t', i + 1, by omega, by omega, by omega, rfl, by go_num, f2, fp2, rv2, g2, cap2, G13.out⟩
                  case measure => simp [intOf]; omega
      · have XB : Hid (Below w.heap.size w wr) := hC.out.bel
        rcases (show ((i : Int) < (len : Int) ∧ ¬ (i : Int) < 120) ∨ ¬ (i : Int) < (len : Int) by omega) with ⟨e1, e2⟩ | e1
        all_goals
          clear hgo
          go_wp2
          go_meet
          exact XB.out
  case rest =>
    go_wp2
    go_ret
    exact ⟨rfl, hcut.out⟩
theorem playsF_any (n : Int) (a : Option Addr) (len cap : Nat) (ls : List (List Int)) (b : Option Addr) (len' cap' : Nat) (ms : List (List Int)) (w : World) (hL : Laid w) (hR : Rw w a len ls) (hR' : Rs w b len' ms) : Calls Tryd.prog 4 #[.int .i64 n, .slice a len cap, .slice b len' cap'] w fun e w' => e = .returned (.bool true) ∧ Below w.heap.size w w' := by
  by_cases h : n < 2 ∨ 5 < n
  · exact playsF_bad n a len cap b len' cap' w hL h
  · obtain ⟨m, rfl⟩ : ∃ m : Nat, n = (m : Int) := ⟨n.toNat, by omega⟩
    exact playsF_ok m a len cap ls b len' cap' ms w hL hR hR' (by omega) (by omega)
end Go.Proofs.YtgdmbnfdcbekaaiDoor.Flu
