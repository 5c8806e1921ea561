/-
  A cut that could have been is closed downward: the walk of TopCut.
-/
import Derived.Test.YtcmiihdbkdcfgahTctM
import Derived.Test.YtcmiihdbkdcfgahSto
import Derived.Test.YtcmiihdbkdcfgahHisU
import Derived.Test.YtcmiihdbkdcfgahClkC
import Derived.Test.YtcmiihdbkdcfgahVecK
import Derived.Test.YtcmiihdbkdcfgahTopO
namespace Go.Proofs.Ytcmiihdbkdcfgah.Stb
open Go.RowKit
open Go.Proofs.Ytcmiihdbkdcfgah.Vec (Vw leq_ok join_new joinL)
open Go.Proofs.Ytcmiihdbkdcfgah.Sep (KpL NewL)
open Go.Proofs.Ytcmiihdbkdcfgah.Ldr (errF errF_ok errF_no Sl)
open Go.Proofs.Ytcmiihdbkdcfgah.His
set_option linter.unusedVariables false

set_option maxRecDepth 100000 in
theorem cut_bad (a : Option Addr) (len cap : Nat) (h : List Ev) (p : Option Addr) (n pcap : Nat) (many : List Int) (w : World) (hlc : len ≤ cap) (hm : cap ≤ maxLen) (hv : Ew w a len h) (hx : Vw w p n many) (hc : cutC h many ≠ 0) : Calls Try.prog 4 #[.slice a len cap, .slice p n pcap] w fun x w' => x = .returned (.bool true) ∧ Below w.heap.size w w' := by
  have HV : Hid (Ew w a len h ∧ Vw w p n many ∧ cutC h many ≠ 0) := ⟨hv, hx, hc⟩
  clear hv hx hc
  go_enter Try.func4, Try.ntmps4
  go_wp2_with fail
  refine (His.one_any w).mono ?_
  rintro e w1 ⟨rfl, hb⟩
  have B1 : Hid (Below w.heap.size w w1) := hb
  clear hb
  go_wp2_with fail
  refine (cut_no a len cap h p n pcap many w1 hlc hm (HV.out.1.later B1.out) (HV.out.2.1.later B1.out) HV.out.2.2).mono ?_
  rintro e w2 ⟨rfl, hb⟩
  rw [show errV (cutC h many) = .iface 46 (.int .i64 (cutC h many)) from if_neg HV.out.2.2]
  have B2 : Hid (Below w.heap.size w w2) := B1.out.trans (hb.mono B1.out.size)
  clear hb
  go_wp2
  go_ret
  exact ⟨rfl, B2.out⟩
theorem cut_of {h : List Ev} {many : List Int} (hc : cutC h many = 0) : chkC h = 0 ∧ vecC many = 0 := by
  unfold cutC at hc
  by_cases h0 : chkC h = 0
  · rw [if_pos h0] at hc
    refine ⟨h0, ?_⟩
    unfold manyC at hc
    by_cases hq : Vec.code many = 0
    · exact hq
    · rw [if_neg hq] at hc
      exact hc
  · rw [if_neg h0] at hc
    exact absurd hc h0
theorem OS.lies {w x : World} {P : Nat} {t : T} {fp : List Nat} (h : OS w x P t fp) {n : Nat} : ∀ ad, (some ⟨x.heap.size, 0, none⟩ : Option Addr) = some ad → 0 < n → ad.block ∉ fp := fun ad e _ z => by
  cases e
  have := (h.bs.fp _ z).2
  simp at this
set_option maxRecDepth 100000 in
set_option maxHeartbeats 4000000 in
theorem cut_good (a : Option Addr) (len cap : Nat) (h : List Ev) (p : Option Addr) (pcap : Nat) (many : List Int) (w : World) (hlc : len ≤ cap) (hm : cap ≤ maxLen) (hv : Ew w a len h) (hx : Vw w p 5 many) (hc : cutC h many = 0) : Calls Try.prog 4 #[.slice a len cap, .slice p 5 pcap] w fun x w' => x = .returned (.bool true) ∧ Below w.heap.size w w' := by
  have hk := cut_of hc
  obtain ⟨h60, hg⟩ := chk_zero hk.1
  have hl : h.length = len := hv.1
  have HV : Hid ((Ew w a len h ∧ Vw w p 5 many) ∧ cutC h many = 0 ∧ chkC h = 0 ∧ vecC many = 0 ∧ His.Good h h.length ∧ h.length ≤ 60 ∧ h.length = len) := ⟨⟨hv, hx⟩, hc, hk.1, hk.2, hg, h60, hl⟩
  have hlen : len ≤ 60 := by omega
  obtain ⟨B, eB⟩ : ∃ B, B = cutB h many := ⟨_, rfl⟩
  have HB : Hid (B = cutB h many) := eB
  have hmk : ∀ w, (Instr.makeSlice 22 (.int .i64 5) (.int .i64 5)).run Try.prog w = .ok (.slice (some ⟨w.heap.size, 0, none⟩) 5 5) (w.alloc (.cells #[.int .i64 0, .int .i64 0, .int .i64 0, .int .i64 0, .int .i64 0] 3)) := fun _ => by kernel_rfl
  clear hv hx hc hk hg h60 hl eB
  go_enter Try.func4, Try.ntmps4
  go_wp2_with fail
  refine (His.one_any w).mono ?_
  rintro e w1 ⟨rfl, hb⟩
  have B1 : Hid (Below w.heap.size w w1) := hb
  clear hb
  go_wp2_with fail
  refine (cut_ok a len cap h p 5 pcap many w1 hlc hm (HV.out.1.1.later B1.out) (HV.out.1.2.later B1.out) HV.out.2.1).mono ?_
  rintro e w2 ⟨rfl, hb⟩
  rw [← HB.out]
  have B2 : Hid (Below w.heap.size w w2) := B1.out.trans (hb.mono B1.out.size)
  clear hb B1
  go_wp2_with fail
  refine (vectors_ok a len cap h w2 hlc hm (HV.out.1.1.later B2.out) HV.out.2.2.1).mono ?_
  rintro e w3 ⟨A, rfl, hb, hL⟩
  have B3 : Hid (Below w.heap.size w w3 ∧ Ew w3 a len h ∧ Vw w3 p 5 many ∧ Lw w3 (some ⟨A, 0, none⟩) len (rows h len)) := by
    have b := B2.out.trans (hb.mono B2.out.size)
    exact ⟨b, HV.out.1.1.later b, HV.out.1.2.later b, hL⟩
  clear hb hL B2
  go_wp2_with fail
  refine (newB_ok 5 (by omega) (by omega) w3).mono ?_
  rintro e w4 ⟨P, fp4, rfl, hA, hb⟩
  have O4 : Hid (OS w3 w4 P (start 5) fp4) := ⟨hA, Inv.start (by omega) (by omega), hb⟩
  have dl : ((len : Int) != (len : Int)) = false := by simp
  clear hA hb
  obtain ⟨W4, eW4⟩ : ∃ W4, W4 = w4.alloc (.cells #[.int .i64 0, .int .i64 0, .int .i64 0, .int .i64 0, .int .i64 0] 3) := ⟨_, rfl⟩
  have O5 : Hid (OS w3 W4 P (start 5) fp4 ∧ Sa W4 fp4 (some ⟨w4.heap.size, 0, none⟩) 5 zero5 ∧ CJ h many 0 0 zero5 (start 5)) := by
    refine ⟨?_, ⟨by rw [eW4]; exact Vw.lit w4 0 0 0 0 0 _, O4.out.lies⟩, CJ.begin fun x hx => ((vecC_ok HV.out.2.2.2.1).2 x).1⟩
    rw [eW4]
    exact O4.out.later ((Below.refl _ _).alloc (Nat.le_refl _) _)
  go_wp2_with fail
  rw [← eW4]
  clear eW4 O4 hmk dl
  go_loopw [12, 13] (fun x12 x wr => ∃ (m : Nat) (q : Option Addr) (J : List Int) (t : T) (f : List Nat), m ≤ 5 ∧ x12 = .slice q 5 5 ∧ x = .int .i64 (m : Int) ∧ Hid (OS w3 wr P t f ∧ Sa wr f q 5 J ∧ CJ h many m 0 J t)) (fun _ x _ => 5 - (intOf x).toNat)
  case atStart => exact ⟨0, _, _, _, _, by omega, rfl, rfl, O5⟩
  case round =>
    obtain ⟨m, q0, J0, t0, f0, hm5, rfl, rfl, hQ⟩ := hrel
    by_cases hlt : m < 5
    · have hlt' : (m : Int) < 5 := by omega
      have hm0 : (0 : Int) ≤ (m : Int) := by omega
      obtain ⟨mv, emv⟩ : ∃ mv, mv = many.getD m 0 := ⟨_, rfl⟩
      have HM : Hid (mv = many.getD m 0) := emv
      clear emv
      go_wp2_with fail
      go_loopw [12, 14, 15] (fun x12 x14 x wr => ∃ (i : Nat) (q : Option Addr) (J : List Int) (t : T) (f : List Nat), i ≤ len ∧ x12 = .slice q 5 5 ∧ x14 = .int .i64 (cnt h m i) ∧ x = .int .i64 (i : Int) ∧ Hid (OS w3 wr P t f ∧ Sa wr f q 5 J ∧ CJ h many m i J t)) (fun _ _ x _ => len - (intOf x).toNat)
      case atStart => exact ⟨0, q0, J0, t0, f0, by omega, rfl, rfl, rfl, hQ⟩
      case round =>
        obtain ⟨i, q, J, t, f, hi, rfl, rfl, rfl, hR⟩ := hrel
        obtain ⟨c, ec⟩ : ∃ c, c = cnt h m i := ⟨_, rfl⟩
        have hc0 : 0 ≤ c := by rw [ec]; exact cnt_nonneg h m i
        have hc1 : c ≤ 60 := by rw [ec]; have := cnt_le h m i; omega
        rw [← ec]
        have EC : Hid (c = cnt h m i) := ec
        clear ec
        by_cases hil : i < len
        · have hil' : (i : Int) < (len : Int) := by omega
          have hi0 : (0 : Int) ≤ (i : Int) := by omega
          obtain ⟨be, oe, rfl, hbe, hce⟩ := B3.out.2.1.2 (by omega)
          have e0 := (hce i hil).1
          have hww := isOne_who (good_one HV.out.2.2.2.2.1 (by rw [HV.out.2.2.2.2.2.2]; exact hil) : isOne (ev h i) = true)
          obtain ⟨wi, ewi⟩ : ∃ wi, wi = W h i := ⟨_, rfl⟩
          have ey : (ev h i).1 = (wi : Int) := by rw [ewi]; unfold W; omega
          rw [ey] at e0
          have g0 : wr.cell? ⟨be, oe + i * 3, none⟩ = some (.int .i64 (wi : Int)) := (hR.out.1.bel.cell (p := ⟨be, oe + i * 3, none⟩) hbe).trans e0
          have EW : Hid (wi = W h i) := ewi
          clear hce e0 hww ey ewi hbe
          by_cases hwm : wi = m
          · have hwm' : ((wi : Int) != (m : Int)) = false := by simp; omega
            obtain ⟨bm, om, rfl, hbm, hcm⟩ := B3.out.2.2.1.2 (by omega)
            have g1 : wr.cell? ⟨bm, om + m, none⟩ = some (.int .i64 mv) := by
              rw [HM.out]
              exact (hR.out.1.bel.cell (p := ⟨bm, om + m, none⟩) hbm).trans (hcm m hlt)
            clear hcm hbm
            have hwi : W h i = m := by rw [← EW.out]; exact hwm
            have eo : own h i = c + 1 := by rw [own_count hwi, EC.out]
            have ecs : cnt h m (i + 1) = c + 1 := by rw [cnt_step, if_pos hwi, EC.out]
            have HE : Hid (W h i = m ∧ own h i = c + 1 ∧ cnt h m (i + 1) = c + 1) := ⟨hwi, eo, ecs⟩
            clear hwi eo ecs
            by_cases hle : c + 1 ≤ mv
            · have ht : tk h many i = true := by
                unfold tk
                rw [HE.out.2.1, HE.out.1, ← HM.out]
                exact decide_eq_true hle
              have HT : Hid _ := hR.out.2.2.take HV.out.2.2.2.2.1 (by rw [HV.out.2.2.2.2.2.2]; exact hil) hlt HE.out.1 ht HV.out.2.2.2.2.2.1
              obtain ⟨bl, ol, el, hbl, hcl⟩ := B3.out.2.2.2.2 (by omega)
              injection el with el
              injection el with el1 el2 el3
              subst el1 el2
              obtain ⟨ql, cl, gl, vl⟩ := hcl i hil
              rw [rows_get h hil, row_len] at gl vl
              rw [Nat.zero_add] at gl
              have HL : Hid (A < w3.heap.size ∧ w3.cell? ⟨A, i, none⟩ = some (.slice ql 5 cl) ∧ Vw w3 ql 5 (row h i)) := ⟨hbl, gl, vl⟩
              have g2 : wr.cell? ⟨A, i, none⟩ = some (.slice ql 5 cl) := (hR.out.1.bel.cell (p := ⟨A, i, none⟩) hbl).trans gl
              clear hcl hbl gl vl ht
              go_wp2_with fail
              refine (join_new q ql 5 5 5 cl J (row h i) wr hR.out.2.1.1 (HL.out.2.2.later hR.out.1.bel) HT.out.2.2.1 HT.out.1).mono ?_
              rintro e w5 ⟨g, rfl, hj, hgn, hb⟩
              have S5 : Hid (OS w3 w5 P t f ∧ Sa w5 f (some ⟨g, 0, none⟩) 5 (joinR J (row h i))) := by
                refine ⟨hR.out.1.later hb, hj, fun ad e _ z => ?_⟩
                cases e
                have z2 := (hR.out.1.bs.fp _ z).2
                have z3 : g < wr.heap.size := z2
                omega
              have g3 : w5.cell? ⟨A, i, none⟩ = some (.slice ql 5 cl) := (S5.out.1.bel.cell (p := ⟨A, i, none⟩) HL.out.1).trans HL.out.2.1
              clear hj hgn hb g0 g1 g2
              go_wp2_with fail
              refine (toldB w3.heap.size P t f (m : Int) ql 5 cl (row h i) w5 S5.out.1.bs S5.out.1.inv S5.out.1.bel.size (HL.out.2.2.later S5.out.1.bel) (by decide) (S5.out.1.far HL.out.2.2)).mono ?_
              rintro e w6 ⟨f6, rfl, hA, hb, hk6, hn6⟩
              rw [HT.out.2.1, errF_ok]
              have S6 : Hid (OS w3 w6 P (told t (m : Int) (row h i)) f6 ∧ Sa w6 f6 (some ⟨g, 0, none⟩) 5 (joinR J (row h i)) ∧ CJ h many m (i + 1) (joinR J (row h i)) (told t (m : Int) (row h i))) := ⟨⟨hA, HT.out.2.2.2.inv, S5.out.1.bel.trans hb⟩, S5.out.2.step hk6 hn6, HT.out.2.2.2⟩
              clear hA hb hk6 hn6 g3
              go_wp2
              go_roundw
              case rel => exact ⟨i + 1, _, _, _, f6, by omega, rfl, by rw [HE.out.2.2], by go_num, S6⟩
              case measure => simp [intOf]; omega
            · have ht : tk h many i = false := by
                unfold tk
                rw [HE.out.2.1, HE.out.1, ← HM.out]
                exact decide_eq_false hle
              have S6 : Hid (OS w3 wr P t f ∧ Sa wr f q 5 J ∧ CJ h many m (i + 1) J t) := ⟨hR.out.1, hR.out.2.1, hR.out.2.2.pass (.inr ht)⟩
              clear ht
              go_wp2
              go_roundw
              case rel => exact ⟨i + 1, q, J, t, f, by omega, rfl, by rw [HE.out.2.2], by go_num, S6⟩
              case measure => simp [intOf]; omega
          · have hwm' : ((wi : Int) != (m : Int)) = true := by simp; omega
            have hw' : W h i ≠ m := by rw [← EW.out]; exact hwm
            have S6 : Hid ((OS w3 wr P t f ∧ Sa wr f q 5 J ∧ CJ h many m (i + 1) J t) ∧ cnt h m (i + 1) = c) := ⟨⟨hR.out.1, hR.out.2.1, hR.out.2.2.pass (.inl hw')⟩, by rw [cnt_step, if_neg hw', EC.out]; omega⟩
            clear hw'
            go_wp2
            go_roundw
            case rel => exact ⟨i + 1, q, J, t, f, by omega, rfl, by rw [S6.out.2], by go_num, S6.out.1⟩
            case measure => simp [intOf]; omega
        · have hil' : ¬ (i : Int) < (len : Int) := by omega
          have S6 : Hid (OS w3 wr P t f ∧ Sa wr f q 5 J ∧ CJ h many (m + 1) 0 J t) := ⟨hR.out.1, hR.out.2.1, hR.out.2.2.next (by rw [HV.out.2.2.2.2.2.2]; omega)⟩
          go_wp2
          go_roundw
          case rel => exact ⟨m + 1, q, J, t, f, by omega, rfl, by go_num, S6⟩
          case measure => simp [intOf]; omega
    · have hlt' : ¬ (m : Int) < 5 := by omega
      have e5 : m = 5 := by omega
      subst e5
      have HD : Hid _ := hQ.out.2.2.done HV.out.2.2.2.2.1
      go_wp2_with fail
      refine (leq_ok q0 p 5 5 5 pcap J0 many wr hQ.out.2.1.1 (B3.out.2.2.1.later hQ.out.1.bel) HD.out.1 HV.out.2.2.2.1).mono ?_
      rintro e w7 ⟨rfl, hb⟩
      rw [gt_leR, show leR J0 many = B from HD.out.2.1.trans HB.out.symm]
      have S7 : Hid (OS w3 w7 P t0 f0 ∧ Sa w7 f0 q0 5 J0) := ⟨hQ.out.1.later hb, hQ.out.2.1.later hb⟩
      clear hb
      go_wp2_with fail
      refine (leastB w3.heap.size P t0 f0 w7 S7.out.1.bs S7.out.1.inv).mono ?_
      rintro e w8 ⟨a8, c8, rfl, hs8, _, hb⟩
      have S8 : Hid (OS w3 w8 P t0 f0 ∧ Sa w8 f0 q0 5 J0 ∧ Vw w8 a8 5 (least t0)) := ⟨S7.out.1.later hb, S7.out.2.later hb, (Sl.vw hs8).2⟩
      clear hs8 hb
      go_wp2_with fail
      refine (leq_ok a8 q0 5 c8 5 5 (least t0) J0 w8 S8.out.2.2 S8.out.2.1.1 (least_vec S8.out.1.inv) HD.out.1).mono ?_
      rintro e w9 ⟨rfl, hb⟩
      rw [gt_leR, HD.out.2.2]
      have B9 : Hid (Below w.heap.size w w9) := B3.out.1.trans ((S8.out.1.bel.trans (hb.mono S8.out.1.bel.size)).mono B3.out.1.size)
      clear hb
      clear HB
      cases B
      all_goals
        go_wp2
        go_ret
        exact ⟨rfl, B9.out⟩
theorem cut_any (a : Option Addr) (len cap : Nat) (h : List Ev) (p : Option Addr) (n pcap : Nat) (many : List Int) (w : World) (hlc : len ≤ cap) (hm : cap ≤ maxLen) (hv : Ew w a len h) (hx : Vw w p n many) : Calls Try.prog 4 #[.slice a len cap, .slice p n pcap] w fun x w' => x = .returned (.bool true) ∧ Below w.heap.size w w' := by
  by_cases hc : cutC h many = 0
  · obtain rfl : n = 5 := by
      have := (vecC_ok (cut_of hc).2).1
      have := hx.1
      omega
    exact cut_good a len cap h p pcap many w hlc hm hv hx hc
  · exact cut_bad a len cap h p n pcap many w hlc hm hv hx hc
end Go.Proofs.Ytcmiihdbkdcfgah.Stb
