/-
  How far any member is told to have come: the walk of StablePlays.
-/
import Derived.Test.YtcmiihdbkdcfgahDoorStpF
import Derived.Test.YtcmiihdbkdcfgahDoorRefVe
import Derived.Test.YtcmiihdbkdcfgahDoorRowsF
import Derived.Deep.CutBlock
import Derived.Deep.CutRange
namespace Go.Proofs.YtcmiihdbkdcfgahDoor.Stb
open Go.RowKit
open Go.Proofs.YtcmiihdbkdcfgahDoor.As (Laid)
open Go.Proofs.YtcmiihdbkdcfgahDoor.Fif (ret_bool)
open Go.Proofs.YtcmiihdbkdcfgahDoor.Vec (Vw Rw refVector)
open Go.Proofs.YtcmiihdbkdcfgahDoor.Sep (KpL NewL)
open Go.Proofs.YtcmiihdbkdcfgahDoor.Ldr (errF errF_ok errF_no errF_same Sl same_any)
set_option linter.unusedVariables false

theorem mkl_info : (Tryd.prog.info? 22).map (fun i => (i.zero, i.size, i.bytes)) = some (some (.slice none 0 0), 1, 24) := by kernel_rfl
theorem mk_rows (n : Nat) (hn : n ≤ 60) (w : World) :
    (Instr.makeSlice 23 (.int .i64 (n : Int)) (.int .i64 (n : Int))).run Tryd.prog w = .ok (.slice (some ⟨w.heap.size, 0, none⟩) n n) (w.alloc (.cells (madeCells #[.slice none 0 0] n) 22)) := by
  obtain ⟨i, hi, hzz⟩ := Option.map_eq_some_iff.1 mkl_info
  simp only [Prod.mk.injEq] at hzz
  obtain ⟨hz, hs, hb⟩ := hzz
  have hr := run_make (P := Tryd.prog) w 23 22 i _ (by kernel_rfl) hi hz .i64 .i64 n n (by omega) (Int.le_refl _) (by rw [hb]; omega) (by omega)
  simp only [Int.toNat_natCast, hs, Nat.mul_one] at hr
  exact hr
set_option maxRecDepth 100000 in
theorem plays_bad (n many : Int) (a : Option Addr) (len cap : Nat) (b : Option Addr) (len' cap' : Nat) (w : World) (hL : Laid w) (h : n < 2 ∨ 5 < n) : Calls Tryd.prog 3 #[.int .i64 n, .slice a len cap, .slice b len' cap', .int .i64 many] w fun e w' => e = .returned (.bool true) ∧ Below w.heap.size w w' := by
  have HL : Hid (Laid w) := hL
  have h0 : Hid (n < 2 ∨ 5 < n) := h
  clear hL
  rcases (show n < 2 ∨ (¬ n < 2 ∧ n > 5) by omega) with d1 | ⟨d1, d2⟩
  all_goals
    clear h
    go_enter Tryd.func3, Tryd.ntmps3
    go_wp2_with fail
    refine (newB_no n h0.out w).mono ?_
    rintro e w1 ⟨rfl, hb⟩
    go_wp2_with fail
    refine (errF_same 1 w1 (HL.out.later hb)).mono ?_
    rintro e w2 ⟨rfl, hb2⟩
    go_wp2
    go_ret
    exact ⟨rfl, hb.trans (hb2.mono hb.size)⟩
set_option maxRecDepth 100000 in
set_option maxHeartbeats 8000000 in
theorem plays_ok (n : Nat) (many : Int) (a : Option Addr) (len cap : Nat) (b : Option Addr) (len' cap' : Nat) (vs : List Int) (ls : List (List Int)) (w : World) (hL : Laid w) (h2 : 2 ≤ n) (h5 : n ≤ 5) (hv : Vw w a len vs) (hm : len ≤ maxLen) (hR : Rw w b len' ls) : Calls Tryd.prog 3 #[.int .i64 (n : Int), .slice a len cap, .slice b len' cap', .int .i64 many] w fun x w' => x = .returned (.bool true) ∧ Below w.heap.size w w' := by
  have HV : Hid (Vw w a len vs ∧ Rw w b len' ls ∧ Laid w) := ⟨hv, hR, hL⟩
  have hlm : len' ≤ maxLen := hR.2.1
  have d1 : ¬ (n : Int) < 2 := by omega
  have d2 : ¬ (n : Int) > 5 := by omega
  have hmk := mk_rows n (by omega)
  have hmk5 : ∀ w, (Instr.makeSlice 22 (.int .i64 5) (.int .i64 5)).run Tryd.prog w = .ok (.slice (some ⟨w.heap.size, 0, none⟩) 5 5) (w.alloc (.cells #[.int .i64 0, .int .i64 0, .int .i64 0, .int .i64 0, .int .i64 0] 3)) := fun w => by kernel_rfl
  clear hv hR hL
  go_enter Tryd.func3, Tryd.ntmps3
  go_wp2_with fail
  refine (newB_ok n h2 h5 w).mono ?_
  rintro e x1 ⟨P, fp1, rfl, hA, hb⟩
  have O1 : Hid (OS w x1 P (start n) fp1) := ⟨hA, Inv.start h2 h5, hb⟩
  clear hA hb
  go_wp2_with fail
  refine (errF_same 0 x1 (HV.out.2.2.later O1.out.bel)).mono ?_
  rintro e x2 ⟨rfl, hb⟩
  have O2 : Hid (OS w x2 P (start n) fp1) := O1.out.later hb
  clear hb O1
  have D0 : Hid (DI x2 (x2.alloc (.cells (madeCells #[.slice none 0 0] n) 22)) n 0) := DI.made x2 n
  go_upto_block 0 with fail
  go_cut [14] from 52 to 60 (fun x wc => Hid (PT w wc P x2.heap.size n (start n) fp1 (fun i c => ((start n).r i).getD c 0)))
  case first =>
    go_wp2_with fail
    go_loopw [14] (fun y wr => ∃ j : Nat, j ≤ n ∧ y = .int .i64 (j : Int) ∧ Hid (DI x2 wr n j)) (fun y _ => n - (intOf y).toNat)
    case atStart => exact ⟨0, by omega, rfl, D0⟩
    case round =>
      obtain ⟨j, hj, rfl, hD⟩ := hrel
      by_cases hjn : j < n
      · have hjn' : (j : Int) < (n : Int) := by omega
        have hj0 : (0 : Int) ≤ (j : Int) := by omega
        have c0 := World.rowIs.cell hD.out.top hjn
        have z0 := World.rowIs.frozen hD.out.top j
        have hsz : x2.heap.size < wr.heap.size := by have := hD.out.size; omega
        rw [if_neg (by omega)] at c0
        go_wp2
        go_roundw
        case rel => exact ⟨j + 1, by omega, by go_num, hD.out.step hjn⟩
        case measure => simp [intOf]; omega
      · have hjn' : ¬ (j : Int) < (n : Int) := by omega
        have ej : j = n := by omega
        have P0 : Hid (PT w wr P x2.heap.size n (start n) fp1 (fun i c => ((start n).r i).getD c 0)) := by
          have q := hD.out
          rw [ej] at q
          refine ⟨⟨O2.out.bs.of_blocks q.low.size fun z hz => q.low.block z (O2.out.bs.fp z hz).2, O2.out.inv, O2.out.bel.trans (q.low.mono O2.out.bel.size)⟩, q.done.congr fun i c _ _ => zero5_get c, rfl, fun z hz => .inl (O2.out.bs.fp z hz).2, O2.out.bel.size, by have := q.size; omega⟩
        clear hD ej hmk
        go_wp2
        go_meet
        exact P0.out
  case rest =>
    obtain ⟨R, eR⟩ : ∃ R, R = x2.heap.size := ⟨_, rfl⟩
    have P1 : Hid (PT w wc P R n (start n) fp1 (fun i c => ((start n).r i).getD c 0)) := by rw [eR]; exact hcut
    rw [← eR]
    clear eR hcut hmk D0 O2 d1 d2
    go_wp2_with fail
    go_loopw [15] (fun x wr => ∃ (i : Nat) (t : T) (f : List Nat), i ≤ len ∧ i ≤ 60 ∧ x = .int .i64 (i : Int) ∧ Hid (PT w wr P R n t f (fun i c => (t.r i).getD c 0))) (fun x _ => len - (intOf x).toNat)
    case atStart => exact ⟨0, _, _, by omega, by omega, rfl, P1⟩
    case round =>
      obtain ⟨i, t, f, hi, hi60, rfl, hQ⟩ := hrel
      by_cases hgo : (i : Int) < (len : Int) ∧ (i : Int) < (len' : Int) ∧ (i : Int) < 60
      · obtain ⟨hil, hil', hi60'⟩ := hgo
        have hi0 : (0 : Int) ≤ (i : Int) := by omega
        obtain ⟨wo, ewo⟩ : ∃ wo, wo = wr := ⟨_, rfl⟩
        subst ewo
        obtain ⟨bw, ow, rfl, hbw, hcw⟩ := HV.out.1.2 (by omega)
        obtain ⟨rb, ro, rfl, hrb, hrc⟩ := HV.out.2.1.2.2 (by omega)
        obtain ⟨qi, ci, gw, hvi, hmi⟩ := hrc i (by omega)
        have gx := hcw i (by omega)
        obtain ⟨x, ex⟩ : ∃ x, x = vs.getD i 0 := ⟨_, rfl⟩
        obtain ⟨v, ev⟩ : ∃ v, v = ls.getD i [] := ⟨_, rfl⟩
        rw [← ev] at gw hvi hmi
        rw [← ex] at gx
        obtain ⟨li, eli⟩ : ∃ li, li = v.length := ⟨_, rfl⟩
        rw [← eli] at gw hvi hmi
        have hmi2 : (li : Int) ≤ 9223372036854775807 := by unfold maxLen at hmi; omega
        have HS : Hid (∀ X : World, (∀ k, k < w.heap.size → X.heap[k]? = w.heap[k]?) → X.cell? ⟨bw, ow + i, none⟩ = some (.int .i64 x) ∧ X.cell? ⟨rb, ro + i, none⟩ = some (.slice qi li ci)) := fun X hX => ⟨(World.cell?_of_block (a := ⟨bw, ow + i, none⟩) (hX bw hbw)).trans gx, (World.cell?_of_block (a := ⟨rb, ro + i, none⟩) (hX rb hrb)).trans gw⟩
        have XV : Hid (Vw w qi li v ∧ li ≤ maxLen) := ⟨hvi, hmi⟩
        clear hcw hrc hvi gw gx hrb hbw ex ev eli hmi
        obtain ⟨k0, k0'⟩ := HS.out wo fun k hk => hQ.out.os.bel.block k hk
        obtain ⟨inb, einb⟩ : ∃ b, b = decide (0 ≤ x ∧ x < (n : Int)) := ⟨_, rfl⟩
        have HIN : Hid (inb = decide (0 ≤ x ∧ x < (n : Int))) := einb
        obtain ⟨c, ec⟩ : ∃ c, c = toldC t x v := ⟨_, rfl⟩
        have HC : Hid (c = toldC t x v) := ec
        clear einb ec
        go_upto_region 18 with fail
        go_cut [17] from 81 to 87 (fun y wz => y = .bool inb ∧ wz = wo)
        case first =>
          by_cases h1 : 0 ≤ x
          · by_cases h3 : x < (n : Int)
            · have e : inb = true := by rw [HIN.out]; exact decide_eq_true ⟨h1, h3⟩
              go_wp2
              go_meet
              exact ⟨by rw [e], rfl⟩
            · have e : inb = false := by rw [HIN.out]; exact decide_eq_false (fun q => h3 q.2)
              go_wp2
              go_meet
              exact ⟨by rw [e], rfl⟩
          · have e : inb = false := by rw [HIN.out]; exact decide_eq_false (fun q => h1 q.1)
            go_wp2
            go_meet
            exact ⟨by rw [e], rfl⟩
        case rest =>
          obtain ⟨rfl, hw⟩ := hcut
          rw [hw]
          clear hw
          go_upto_if 89 with fail
          go_cut [9] from 88 to 94 (fun y wz => y = .int .i64 c ∧ wz = wo)
          case first =>
            cases inb with
            | false =>
              have e : c = 1 := by
                have q : ¬ (0 ≤ x ∧ x < (n : Int)) := by exact of_decide_eq_false HIN.out.symm
                have nn := hQ.out.nn
                rw [HC.out]
                unfold toldC inC
                rw [if_pos (by rw [if_pos (by omega)]; decide)]
              go_wp2
              go_meet
              exact ⟨by rw [e], rfl⟩
            | true =>
              have e : c = Vec.code v := by
                have q : 0 ≤ x ∧ x < (n : Int) := by exact of_decide_eq_true HIN.out.symm
                have nn := hQ.out.nn
                rw [HC.out]
                unfold toldC inC
                rw [if_neg (by rw [if_neg (by omega)]; decide)]
              go_wp2_with fail
              refine (refVector qi li ci v wo (XV.out.1.later hQ.out.os.bel)).mono ?_
              rintro e1 w1 ⟨rfl, rfl⟩
              go_wp2
              go_meet
              exact ⟨by rw [e], rfl⟩
          case rest =>
            obtain ⟨rfl, hw⟩ := hcut
            rw [hw]
            clear hw
            have P2 : Hid (PT w wo P R n t f (fun i c => (t.r i).getD c 0)) := hQ
            go_upto_block 4 with fail
            go_cut [18] from 88 to 130 (fun y wz => Hid (PT w wz P R n t f (fun i c => ((told t x v).r i).getD c 0)))
            case first =>
              by_cases hc0 : c = 0
              · subst hc0
                have ht : toldC t x v = 0 := HC.out.symm
                obtain ⟨m, rfl⟩ : ∃ m : Nat, x = (m : Int) := ⟨x.toNat, by have := (told_ok ht).1; omega⟩
                have hmn : m < n := by have := (told_ok ht).1; have := hQ.out.nn; omega
                have HT : Hid (toldC t (m : Int) v = 0) := ht
                have el : li = 5 := by have := (vecC_ok (told_ok ht).2).1; have := XV.out.1.1; omega
                subst el
                obtain ⟨bv, ov, rfl, hbv, hcv⟩ := XV.out.1.2 (by omega)
                have HCV : Hid (bv < w.heap.size ∧ ∀ k, k < 5 → w.cell? ⟨bv, ov + k, none⟩ = some (.int .i64 (v.getD k 0))) := ⟨hbv, hcv⟩
                have M0 : Hid (PT w wo P R n t f (rs t m v 0)) := by rw [rs_zero]; exact hQ.out
                have hm0 : (0 : Int) ≤ (m : Int) := by omega
                have hmn' : (m : Int) < (n : Int) := by omega
                clear ht hbv hcv hQ P2 k0 k0'
                go_wp2_with fail
                go_loopw [18] (fun y wr => ∃ k : Nat, k ≤ 5 ∧ y = .int .i64 (k : Int) ∧ Hid (PT w wr P R n t f (rs t m v k))) (fun y _ => 5 - (intOf y).toNat)
                case atStart => exact ⟨0, by omega, rfl, M0⟩
                case round =>
                  obtain ⟨k, hk, rfl, hK⟩ := hrel
                  by_cases hk5 : k < 5
                  · have hk5' : (k : Int) < 5 := by omega
                    have hk0 : (0 : Int) ≤ (k : Int) := by omega
                    obtain ⟨k0, k0'⟩ := HS.out wr fun k hk => hK.out.os.bel.block k hk
                    have g1 := (hK.out.os.bel.cell (p := ⟨bv, ov + k, none⟩) HCV.out.1).trans (HCV.out.2 k hk5)
                    have g2 := hK.out.doc.t hmn
                    have g3 := hK.out.doc.c hmn hk5
                    have z3 := hK.out.doc.fr hmn k
                    rw [rs_at] at g3
                    obtain ⟨y, ey⟩ : ∃ y, y = v.getD k 0 := ⟨_, rfl⟩
                    obtain ⟨z, ez⟩ : ∃ z, z = (t.r m).getD k 0 := ⟨_, rfl⟩
                    have EY : Hid (y = v.getD k 0 ∧ z = (t.r m).getD k 0) := ⟨ey, ez⟩
                    rw [← ey] at g1
                    rw [← ez] at g3
                    clear ey ez
                    by_cases hyz : y > z
                    · have SS : Hid (PT w (wr.setCell ⟨R + 1 + m, k, none⟩ (.int .i64 y)) P R n t f (rs t m v (k + 1))) := by
                        refine (hK.out.set hmn y).doc' fun i c _ _ => ?_
                        rw [rs_step, ← EY.out.1, ← EY.out.2, Int.max_eq_right (by omega)]
                      go_wp2_with fail
                      go_region
                      go_wp2_with fail
                      go_region
                      go_wp2
                      go_roundw
                      case rel => exact ⟨k + 1, by omega, by go_num, SS.out.heap rfl rfl rfl rfl⟩
                      case measure => simp [intOf]; omega
                    · have SS : Hid (PT w wr P R n t f (rs t m v (k + 1))) := by
                        refine hK.out.doc' fun i c _ _ => ?_
                        rw [rs_step]
                        split
                        · rename_i q
                          rw [q.1, q.2, rs_at, ← EY.out.1, ← EY.out.2, Int.max_eq_left (by omega)]
                        · rfl
                      go_wp2_with fail
                      go_region
                      go_wp2
                      go_roundw
                      case rel => exact ⟨k + 1, by omega, by go_num, SS.out.heap rfl rfl rfl rfl⟩
                      case measure => simp [intOf]; omega
                  · have hk5' : ¬ (k : Int) < 5 := by omega
                    have ek : k = 5 := by omega
                    have SS : Hid (PT w wr P R n t f (fun i c => ((told t (m : Int) v).r i).getD c 0)) := by
                      have q := hK.out
                      rw [ek] at q
                      exact q.doc' fun i c _ hc => rs_done q.os.inv HT.out i c hc
                    clear hK ek
                    go_wp2
                    go_meet
                    exact SS.out
              · have hc0' : ¬ c = 0 := hc0
                have hcb : (c == 0) = false := by rw [beq_eq_false_iff_ne]; exact hc0
                have SS : Hid (PT w wo P R n t f (fun i c => ((told t x v).r i).getD c 0)) := by
                  have e : told t x v = t := if_neg (by rw [← HC.out]; exact hc0)
                  rw [e]
                  exact hQ.out
                clear hQ P2
                go_wp2_with fail
                go_loopw [18] (fun y wr => y = .int .i64 0 ∧ wr = wo) (fun y _ => 0)
                case atStart => exact ⟨rfl, rfl⟩
                case round =>
                  obtain ⟨rfl, hw⟩ := hrel
                  rw [hw]
                  go_wp2
                  go_meet
                  exact SS.out
            case rest =>
              obtain ⟨t1, et1⟩ : ∃ t1, t1 = told t x v := ⟨_, rfl⟩
              have ET : Hid (t1 = told t x v ∧ Inv t1 ∧ t1.n = n) := ⟨et1, by rw [et1]; exact hQ.out.os.inv.told _ _, by rw [et1, told_n]; exact hQ.out.nn⟩
              rw [← et1] at hcut
              obtain ⟨w4, ew4⟩ : ∃ w4, w4 = wc := ⟨_, rfl⟩
              subst ew4
              have P3 : Hid (PT w w4 P R n t f (fun i c => (t1.r i).getD c 0)) := hcut
              have HI : Hid (Inv t) := hQ.out.os.inv
              clear hcut hQ P2 k0 k0' et1
              obtain ⟨k0, k0'⟩ := HS.out w4 fun k hk => P3.out.os.bel.block k hk
              go_wp2_with fail
              refine (toldB w.heap.size P t f x qi li ci v w4 P3.out.os.bs HI.out P3.out.os.bel.size (XV.out.1.later P3.out.os.bel) XV.out.2 (P3.out.os.far XV.out.1)).mono ?_
              rintro e5 w5 ⟨f5, rfl, hA5, hb5, hk5, hn5⟩
              rw [← ET.out.1] at hA5
              rw [← HC.out]
              have P4 : Hid (PT w w5 P R n t1 f5 (fun i c => (t1.r i).getD c 0)) := P3.out.prog hA5 ET.out.2.1 ET.out.2.2 hb5 hk5 hn5
              clear hA5 hb5 hk5 hn5 P3
              go_wp2_with fail
              refine (errF_same c w5 (HV.out.2.2.later P4.out.os.bel)).mono ?_
              rintro e6 w6 ⟨rfl, hb6⟩
              have P5 : Hid (PT w w6 P R n t1 f5 (fun i c => (t1.r i).getD c 0)) := P4.out.later hb6
              clear hb6 P4
              obtain ⟨c1, ec1⟩ : ∃ c1, c1 = inC t1 x := ⟨_, rfl⟩
              have HC1 : Hid (c1 = inC t1 x) := ec1
              clear ec1
              go_upto_if 141 with fail
              go_cut [9, 19] from 140 to 145 (fun y9 y19 wz => y9 = .int .i64 c1 ∧ Hid (Sl wz y19 (rowL t1 x)) ∧ wz = w6)
              case first =>
                cases inb with
                | false =>
                  have q : ¬ (0 ≤ x ∧ x < (n : Int)) := of_decide_eq_false HIN.out.symm
                  have e : c1 = 1 := by
                    have nn := ET.out.2.2
                    rw [HC1.out]
                    unfold inC
                    rw [if_pos (by omega)]
                  have SS : Hid (Sl w6 (.slice none 0 0) (rowL t1 x)) := by
                    have e2 : rowL t1 x = [] := by unfold rowL; rw [if_neg (by rw [← HC1.out, e]; decide)]
                    rw [e2]
                    exact Sl.nil _
                  go_wp2
                  go_meet
                  exact ⟨by rw [e], SS.out, rfl⟩
                | true =>
                  have q : 0 ≤ x ∧ x < (n : Int) := of_decide_eq_true HIN.out.symm
                  obtain ⟨m, rfl⟩ : ∃ m : Nat, x = (m : Int) := ⟨x.toNat, by omega⟩
                  have hmn : m < n := by omega
                  have hm0 : (0 : Int) ≤ (m : Int) := by omega
                  have hmn' : (m : Int) < (n : Int) := by omega
                  have g2 := P5.out.doc.t hmn
                  have e : c1 = 0 := by rw [HC1.out]; exact in_ok (by rw [ET.out.2.2]; exact hmn)
                  have SS : Hid (Sl w6 (.slice (some ⟨R + 1 + m, 0, none⟩) 5 5) (rowL t1 (m : Int))) := by
                    rw [row_in (by rw [ET.out.2.2]; exact hmn)]
                    have e5 := ET.out.2.1.len m
                    exact ⟨_, 5, by rw [e5], by rw [e5]; exact Nat.le_refl _, by decide, by rw [e5]; exact P5.out.row hmn⟩
                  clear q
                  go_wp2
                  go_meet
                  exact ⟨by rw [e], SS.out, rfl⟩
              case rest =>
                obtain ⟨rfl, hsl, hw⟩ := hcut
                rw [hw] at hsl ⊢
                clear hw
                have S6 : Hid (Sl w6 u19 (rowL t1 x)) := hsl
                clear hsl
                go_wp2_with fail
                refine (rowB w.heap.size P t1 f5 x w6 P5.out.os.bs P5.out.os.inv).mono ?_
                rintro e7 w7 ⟨a7, c7, rfl, hs7, _, hb7⟩
                rw [← HC1.out]
                have P6 : Hid (PT w w7 P R n t1 f5 (fun i c => (t1.r i).getD c 0) ∧ Sl w7 (.slice a7 (rowL t1 x).length c7) (rowL t1 x) ∧ Sl w7 u19 (rowL t1 x)) := ⟨P5.out.later hb7, hs7, S6.out.later hb7⟩
                clear hs7 hb7 P5 S6
                go_wp2_with fail
                refine (errF_same c1 w7 (HV.out.2.2.later P6.out.1.os.bel)).mono ?_
                rintro e8 w8 ⟨rfl, hb8⟩
                have P7 : Hid (PT w w8 P R n t1 f5 (fun i c => (t1.r i).getD c 0) ∧ Sl w8 (.slice a7 (rowL t1 x).length c7) (rowL t1 x) ∧ Sl w8 u19 (rowL t1 x)) := ⟨P6.out.1.later hb8, P6.out.2.1.later hb8, P6.out.2.2.later hb8⟩
                clear hb8 P6
                go_wp2_with fail
                refine (same_any P7.out.2.1 P7.out.2.2).mono ?_
                rintro e9 w9 ⟨rfl, hb9⟩
                rw [decide_eq_true (rfl : rowL t1 x = rowL t1 x)]
                have P8 : Hid (PT w w9 P R n t1 f5 (fun i c => (t1.r i).getD c 0)) := P7.out.1.later hb9
                clear hb9 P7
                obtain ⟨L, eL⟩ : ∃ L, L = w9.heap.size := ⟨_, rfl⟩
                obtain ⟨w10, ew10⟩ : ∃ w10, w10 = w9.alloc (.cells #[.int .i64 0, .int .i64 0, .int .i64 0, .int .i64 0, .int .i64 0] 3) := ⟨_, rfl⟩
                have HL : Hid (L ∉ f5 ∧ R + n < L) := by
                  rw [eL]
                  exact ⟨fun q => Nat.lt_irrefl _ (P8.out.os.bs.fp _ q).2, P8.out.sz⟩
                have Q0 : Hid (∃ g, QL w w10 P R n t1 f5 L 0 g) := by
                  rw [ew10, eL]
                  exact ⟨_, P8.out.later ((Below.refl _ _).alloc (Nat.le_refl _) _), LS5.made w9, fun c hc => absurd hc (by omega)⟩
                go_upto_block 6 with fail
                rw [← ew10, ← eL]
                clear ew10 eL P8
                go_cut [24, 25] from 161 to 200 (fun y24 y25 wz => Hid (∃ g, QL w wz P R n t1 f5 L 5 g))
                case first =>
                  go_wp2_with fail
                  go_loopw [24, 25] (fun y y' wr => ∃ k : Nat, k ≤ 5 ∧ y = .int .i64 (k : Int) ∧ Hid (∃ g, QL w wr P R n t1 f5 L k g)) (fun y _ _ => 5 - (intOf y).toNat)
                  case atStart => exact ⟨0, by omega, rfl, Q0⟩
                  case round =>
                    obtain ⟨k, hk, rfl, hK⟩ := hrel
                    obtain ⟨wk, ewk⟩ : ∃ wk, wk = wr := ⟨_, rfl⟩
                    subst ewk
                    by_cases hk5 : k < 5
                    · have hk5' : (k : Int) < 5 := by omega
                      have hk0 : (0 : Int) ≤ (k : Int) := by omega
                      obtain ⟨g, hg⟩ := hK.out
                      have HG : Hid (QL w wk P R n t1 f5 L k g) := hg
                      have hn0 : 0 < n := by omega
                      have hn0' : (0 : Int) < (n : Int) := by omega
                      have g2 := hg.pt.doc.t hn0
                      have g3 := hg.pt.doc.c hn0 hk5
                      rw [Nat.add_zero] at g2 g3
                      have g4 := hg.ls.c hk5
                      have z4 := World.rowIs.frozen hg.ls.row k
                      obtain ⟨y0, ey0⟩ : ∃ y0, y0 = (t1.r 0).getD k 0 := ⟨_, rfl⟩
                      have EY0 : Hid (y0 = (t1.r 0).getD k 0) := ey0
                      have g3' : wk.cell? ⟨R + 1, k, none⟩ = some (.int .i64 y0) := by rw [ey0]; exact g3
                      clear g3 ey0 hg hK
                      have Q1 : Hid (∃ g, QL w (wk.setCell ⟨L, k, none⟩ (.int .i64 y0)) P R n t1 f5 L k g ∧ g k = mn t1 k 0) := ⟨_, HG.out.set HL.out.1 HL.out.2 y0, by rw [if_pos rfl, EY0.out]; rfl⟩
                      go_wp2_with fail
                      clear g2 g3' g4 z4
                      go_loopw [25] (fun y wr => ∃ m : Nat, m < n ∧ y = .int .i64 ((m : Int) + 1) ∧ Hid (∃ g, QL w wr P R n t1 f5 L k g ∧ g k = mn t1 k m)) (fun y _ => n - (intOf y).toNat)
                      case atStart => exact ⟨0, hn0, by go_num, Q1⟩
                      case round =>
                        obtain ⟨m, hm, rfl, hM⟩ := hrel
                        obtain ⟨g1, hg1, eg1⟩ := hM.out
                        have HG1 : Hid (QL w wr P R n t1 f5 L k g1 ∧ g1 k = mn t1 k m) := ⟨hg1, eg1⟩
                        by_cases hmn : m + 1 < n
                        · have hmn' : (m : Int) + 1 < (n : Int) := by omega
                          obtain ⟨m1, em1⟩ : ∃ m1, m1 = m + 1 := ⟨_, rfl⟩
                          have em1' : (m : Int) + 1 = (m1 : Int) := by omega
                          rw [em1'] at hmn' ⊢
                          rw [← em1] at hmn
                          have hm0 : (0 : Int) ≤ (m1 : Int) := by omega
                          have g2 := hg1.pt.doc.t hmn
                          have g3 := hg1.pt.doc.c hmn hk5
                          have g4 := hg1.ls.c hk5
                          have z4 := World.rowIs.frozen hg1.ls.row k
                          rw [eg1] at g4
                          obtain ⟨y1, ey1⟩ : ∃ y1, y1 = (t1.r m1).getD k 0 := ⟨_, rfl⟩
                          obtain ⟨y2, ey2⟩ : ∃ y2, y2 = mn t1 k m := ⟨_, rfl⟩
                          have EY : Hid (y1 = (t1.r m1).getD k 0 ∧ y2 = mn t1 k m ∧ m1 = m + 1) := ⟨ey1, ey2, em1⟩
                          have g3' : wr.cell? ⟨R + 1 + m1, k, none⟩ = some (.int .i64 y1) := by rw [ey1]; exact g3
                          rw [← ey2] at g4
                          clear g3 ey1 ey2 hg1 eg1 hM em1 em1'
                          by_cases hyy : y1 < y2
                          · have QQ : Hid (∃ g, QL w (wr.setCell ⟨L, k, none⟩ (.int .i64 y1)) P R n t1 f5 L k g ∧ g k = mn t1 k (m + 1)) := ⟨_, HG1.out.1.set HL.out.1 HL.out.2 y1, by rw [if_pos rfl, mn_step, ← EY.out.2.1, ← EY.out.2.2, ← EY.out.1, if_pos hyy]⟩
                            go_wp2_with fail
                            go_region
                            go_wp2
                            go_roundw
                            case rel => exact ⟨m + 1, by have := EY.out.2.2; omega, by have := EY.out.2.2; go_num, by obtain ⟨g, h1, h2⟩ := QQ.out; exact ⟨g, h1.heap rfl rfl rfl rfl, h2⟩⟩
                            case measure => have := EY.out.2.2; simp [intOf]; omega
                          · have QQ : Hid (∃ g, QL w wr P R n t1 f5 L k g ∧ g k = mn t1 k (m + 1)) := ⟨g1, HG1.out.1, by rw [HG1.out.2, mn_step, ← EY.out.2.1, ← EY.out.2.2, ← EY.out.1, if_neg hyy]⟩
                            go_wp2_with fail
                            go_region
                            go_wp2
                            go_roundw
                            case rel => exact ⟨m + 1, by have := EY.out.2.2; omega, by have := EY.out.2.2; go_num, by obtain ⟨g, h1, h2⟩ := QQ.out; exact ⟨g, h1.heap rfl rfl rfl rfl, h2⟩⟩
                            case measure => have := EY.out.2.2; simp [intOf]; omega
                        · have hmn' : ¬ (m : Int) + 1 < (n : Int) := by omega
                          have QQ : Hid (∃ g, QL w wr P R n t1 f5 L (k + 1) g) := ⟨g1, hg1.next (by rw [eg1, show m = n - 1 by omega])⟩
                          clear hg1 eg1 hM
                          go_wp2
                          go_roundw
                          case rel => exact ⟨k + 1, by omega, by go_num, QQ.out⟩
                          case measure => simp [intOf]; omega
                    · have hk5' : ¬ (k : Int) < 5 := by omega
                      have QQ : Hid (∃ g, QL w wk P R n t1 f5 L 5 g) := by
                        have e : k = 5 := by omega
                        rw [e] at hK
                        exact hK
                      clear hK
                      go_wp2
                      go_meet
                      exact QQ.out
                case rest =>
                  obtain ⟨g5, hg5⟩ := hcut.out
                  obtain ⟨w11, ew11⟩ : ∃ w11, w11 = wc := ⟨_, rfl⟩
                  subst ew11
                  have P9 : Hid (PT w w11 P R n t1 f5 (fun i c => (t1.r i).getD c 0) ∧ Vw w11 (some ⟨L, 0, none⟩) 5 (least t1)) := ⟨hg5.pt, hg5.vw⟩
                  clear hg5 hcut Q0
                  obtain ⟨cm, ecm⟩ : ∃ cm, cm = mayC t1 x many := ⟨_, rfl⟩
                  obtain ⟨mv, emv⟩ : ∃ mv, mv = may t1 x many := ⟨_, rfl⟩
                  obtain ⟨mb, emb⟩ : ∃ mb, mb = decide (cm ≠ 0) := ⟨_, rfl⟩
                  have HM : Hid (cm = mayC t1 x many ∧ mv = may t1 x many ∧ mb = decide (cm ≠ 0)) := ⟨ecm, emv, emb⟩
                  clear ecm emv emb
                  go_upto_region 47 with fail
                  go_cut [210] from 201 to 209 (fun y wz => y = .bool mb ∧ wz = w11)
                  case first =>
                    cases inb with
                    | false =>
                      have q : ¬ (0 ≤ x ∧ x < (n : Int)) := of_decide_eq_false HIN.out.symm
                      have e : mb = true := by
                        have nn := ET.out.2.2
                        rw [HM.out.2.2, HM.out.1]
                        unfold mayC
                        rw [if_pos (by omega)]
                        rfl
                      clear q
                      go_wp2
                      go_meet
                      exact ⟨by rw [e], rfl⟩
                    | true =>
                      have q : 0 ≤ x ∧ x < (n : Int) := of_decide_eq_true HIN.out.symm
                      by_cases m0 : many < 0
                      · have e : mb = true := by
                          rw [HM.out.2.2, HM.out.1]
                          unfold mayC
                          rw [if_pos (by omega)]
                          rfl
                        clear q
                        go_wp2
                        go_meet
                        exact ⟨by rw [e], rfl⟩
                      · by_cases m1 : many > 1000000
                        · have e : mb = true := by
                            rw [HM.out.2.2, HM.out.1]
                            unfold mayC
                            rw [if_pos (by omega)]
                            rfl
                          clear q
                          go_wp2
                          go_meet
                          exact ⟨by rw [e], rfl⟩
                        · have e : mb = false := by
                            have nn := ET.out.2.2
                            rw [HM.out.2.2, HM.out.1]
                            unfold mayC
                            rw [if_neg (by omega)]
                            rfl
                          clear q
                          go_wp2
                          go_meet
                          exact ⟨by rw [e], rfl⟩
                  case rest =>
                    obtain ⟨rfl, hw⟩ := hcut
                    rw [hw]
                    clear hw
                    go_upto_if 210 with fail
                    go_cut [9, 26] from 201 to 216 (fun y9 y26 wz => y9 = .int .i64 cm ∧ y26 = .bool mv ∧ wz = w11)
                    case first =>
                      cases mb with
                      | true =>
                        have q : cm ≠ 0 := of_decide_eq_true HM.out.2.2.symm
                        have e := may_not (t := t1) (x := x) (many := many) (by rw [← HM.out.1]; exact q)
                        have e1 : cm = 1 := by rw [HM.out.1]; exact e.2
                        have e2 : mv = false := by rw [HM.out.2.1]; exact e.1
                        clear e q
                        go_wp2
                        go_meet
                        exact ⟨by rw [e1], by rw [e2], rfl⟩
                      | false =>
                        have q : cm = 0 := Decidable.byContradiction fun z => by have := HM.out.2.2; rw [decide_eq_true z] at this; cases this
                        have qm : mayC t1 x many = 0 := by rw [← HM.out.1]; exact q
                        have hx : 0 ≤ x ∧ x < (n : Int) := by
                          have nn := ET.out.2.2
                          unfold mayC at qm
                          split at qm
                          · cases qm
                          · omega
                        obtain ⟨m, rfl⟩ : ∃ m : Nat, x = (m : Int) := ⟨x.toNat, by omega⟩
                        have hm5 : m < 5 := by omega
                        have hm5' : (m : Int) < 5 := by omega
                        have hm0 : (0 : Int) ≤ (m : Int) := by omega
                        obtain ⟨bl, ol, ebl, _, hcl⟩ := P9.out.2.2 (by decide)
                        cases ebl
                        have g4 := hcl m hm5
                        rw [Nat.zero_add, least_get t1 hm5] at g4
                        obtain ⟨y, ey⟩ : ∃ y, y = Stb.ls t1 m := ⟨_, rfl⟩
                        rw [← ey] at g4
                        have e2 : mv = decide (many ≤ y) := by rw [HM.out.2.1, ey]; exact may_is qm
                        have E2 : Hid (mv = decide (many ≤ y)) := e2
                        clear e2 ey hcl qm hx
                        go_wp2
                        go_meet
                        exact ⟨by rw [q], by rw [E2.out], rfl⟩
                    case rest =>
                      obtain ⟨rfl, rfl, hw⟩ := hcut
                      rw [hw]
                      clear hw
                      go_wp2_with fail
                      refine (mayB w.heap.size P t1 f5 x many w11 P9.out.1.os.bs P9.out.1.os.inv).mono ?_
                      rintro e12 w12 ⟨rfl, hb12⟩
                      rw [← HM.out.1, ← HM.out.2.1]
                      have P10 : Hid (PT w w12 P R n t1 f5 (fun i c => (t1.r i).getD c 0) ∧ Vw w12 (some ⟨L, 0, none⟩) 5 (least t1)) := ⟨P9.out.1.later hb12, P9.out.2.later hb12⟩
                      clear hb12 P9
                      go_wp2_with fail
                      refine (errF_same cm w12 (HV.out.2.2.later P10.out.1.os.bel)).mono ?_
                      rintro e13 w13 ⟨rfl, hb13⟩
                      have P11 : Hid (PT w w13 P R n t1 f5 (fun i c => (t1.r i).getD c 0) ∧ Vw w13 (some ⟨L, 0, none⟩) 5 (least t1)) := ⟨P10.out.1.later hb13, P10.out.2.later hb13⟩
                      clear hb13 P10
                      have hmm : (mv == mv) = true := by simp
                      go_wp2_with fail
                      refine (leastB w.heap.size P t1 f5 w13 P11.out.1.os.bs P11.out.1.os.inv).mono ?_
                      rintro e14 w14 ⟨a14, c14, rfl, hs14, _, hb14⟩
                      have P12 : Hid (PT w w14 P R n t1 f5 (fun i c => (t1.r i).getD c 0) ∧ Sl w14 (.slice (some ⟨L, 0, none⟩) 5 5) (least t1) ∧ Sl w14 (.slice a14 5 c14) (least t1)) := ⟨P11.out.1.later hb14, ⟨_, 5, rfl, Nat.le_refl _, by decide, P11.out.2.later hb14⟩, hs14⟩
                      clear hs14 hb14 P11
                      go_wp2_with fail
                      refine (same_any P12.out.2.2 P12.out.2.1).mono ?_
                      rintro e15 w15 ⟨rfl, hb15⟩
                      rw [decide_eq_true (rfl : least t1 = least t1)]
                      have P13 : Hid (PT w w15 P R n t1 f5 (fun i c => (t1.r i).getD c 0)) := P12.out.1.later hb15
                      clear hb15 P12
                      go_wp2
                      go_roundw
                      case rel => exact ⟨i + 1, t1, f5, by omega, by omega, by go_num, P13.out⟩
                      case measure => simp [intOf]; omega
      · rcases (show ((i : Int) < (len : Int) ∧ (i : Int) < (len' : Int) ∧ ¬ (i : Int) < 60) ∨ ((i : Int) < (len : Int) ∧ ¬ (i : Int) < (len' : Int)) ∨ ¬ (i : Int) < (len : Int) by omega) with ⟨e1, e2, e3⟩ | ⟨e1, e2⟩ | e1
        all_goals
          clear hgo
          go_wp2
          go_ret
          exact ⟨rfl, hQ.out.os.bel⟩
theorem plays_any (n many : Int) (a : Option Addr) (len cap : Nat) (b : Option Addr) (len' cap' : Nat) (vs : List Int) (ls : List (List Int)) (w : World) (hL : Laid w) (hv : Vw w a len vs) (hm : len ≤ maxLen) (hR : Rw w b len' ls) : Calls Tryd.prog 3 #[.int .i64 n, .slice a len cap, .slice b len' cap', .int .i64 many] w fun x w' => x = .returned (.bool true) ∧ Below w.heap.size w w' := by
  by_cases hn : n < 2 ∨ 5 < n
  · exact plays_bad n many a len cap b len' cap' w hL hn
  · obtain ⟨k, rfl⟩ : ∃ k : Nat, n = (k : Int) := ⟨n.toNat, by omega⟩
    exact plays_ok k many a len cap b len' cap' vs ls w hL (by omega) (by omega) hv hm hR
end Go.Proofs.YtcmiihdbkdcfgahDoor.Stb
