/-
  The walk of FacesNest: what is causal is fifo; with one hearing less at the end it is no worse; where only one speaks fifo is causal.
-/
import Derived.Test.YtmnjihkllojapabFacF
import Derived.Test.YtmnjihkllojapabFnM
namespace Go.Proofs.Ytmnjihkllojapab.His
open Go.RowKit
open Go.Proofs.Ytmnjihkllojapab.Vec

theorem oneH_c : chkC oneH = 0 := by decide
theorem Ew.oneH (w : World) (t : TypeId) : Ew (w.alloc (.cells #[.int .i64 0, .int .i64 2, .int .i64 1, .int .i64 1, .int .i64 3, .int .i64 1, .int .i64 1, .int .i64 2, .int .i64 2, .int .i64 2, .int .i64 3, .int .i64 2] t)) (some ⟨w.heap.size, 0, none⟩) 4 His.oneH := by
  refine ⟨rfl, fun _ => ⟨_, _, rfl, by simp, fun k hk => ?_⟩⟩
  rcases k with _ | _ | _ | _ | k
  · refine ⟨?_, ?_, ?_⟩ <;> simp <;> rfl
  · refine ⟨?_, ?_, ?_⟩ <;> simp <;> rfl
  · refine ⟨?_, ?_, ?_⟩ <;> simp <;> rfl
  · refine ⟨?_, ?_, ?_⟩ <;> simp <;> rfl
  · omega
theorem chk_take {h : List Ev} (hc : chkC h = 0) {n : Nat} (hn : n ≤ h.length) : chkC (h.take n) = 0 := by
  obtain ⟨h60, hg⟩ := chk_zero hc
  exact (chk_ok (by rw [List.length_take]; omega) (good_take hg hn)).1
theorem alK_step (h : List Ev) (i k : Nat) : alK h i (k + 1) = (alK h i k && !(apB h i k)) := by
  unfold alK
  rw [List.range_succ, List.all_append]
  simp
theorem alI_step (h : List Ev) (i : Nat) : alI h (i + 1) = (alI h i && alK h i i) := by
  unfold alI
  rw [List.range_succ, List.all_append]
  simp
theorem alK_same {h : List Ev} {i k : Nat} (ha : apB h i k = false) (a : Bool) : (a && alK h i (k + 1)) = (a && alK h i k) := by rw [alK_step, ha]; simp
theorem alK_hit {h : List Ev} {i k : Nat} (ha : apB h i k = true) (a : Bool) : (a && alK h i (k + 1)) = false := by rw [alK_step, ha]; simp

set_option maxRecDepth 100000 in
set_option maxHeartbeats 4000000 in
theorem fn_no (a : Option Addr) (len cap : Nat) (h : List Ev) (w : World) (hlc : len ≤ cap) (hm : cap ≤ maxLen) (hv : Ew w a len h) (hc : chkC h ≠ 0) :
    Calls Try.prog 5 #[.slice a len cap] w fun e w' => e = .returned (.bool true) ∧ Below w.heap.size w w' := by
  have B0 : Hid (Below w.heap.size w (w.alloc (.cells #[.int .i64 0, .int .i64 2, .int .i64 1, .int .i64 1, .int .i64 3, .int .i64 1, .int .i64 1, .int .i64 2, .int .i64 2, .int .i64 2, .int .i64 3, .int .i64 2] 24))) := (Below.refl _ _).alloc (Nat.le_refl _) _
  have O0 : Hid (Ew (w.alloc (.cells #[.int .i64 0, .int .i64 2, .int .i64 1, .int .i64 1, .int .i64 3, .int .i64 1, .int .i64 1, .int .i64 2, .int .i64 2, .int .i64 2, .int .i64 3, .int .i64 2] 24)) (some ⟨w.heap.size, 0, none⟩) 4 oneH) := Ew.oneH w _
  have V0 : Hid (Ew w a len h) := hv
  clear hv
  go_enter Try.func5, Try.ntmps5
  go_wp2_with fail
  refine (of_ok (some ⟨w.heap.size, 0, none⟩) 4 4 oneH _ (by omega) (by unfold maxLen; omega) O0.out oneH_c).mono ?_
  rintro e w1 ⟨rfl, hb⟩
  rw [oneH_fifo, oneH_caus, oneH_tot]
  have V1 : Hid (Below w.heap.size w (w1.alloc (.cells #[.bool true, .bool false, .bool true] 40))) := (below_up rfl B0.out hb).alloc (below_up rfl B0.out hb).size _
  clear hb
  go_wp2_with fail
  refine (of_no a len cap h _ hlc hm (V0.out.later V1.out) hc).mono ?_
  rintro e w2 ⟨rfl, hb⟩
  have V2 : Hid (Below w.heap.size w w2) := below_up rfl V1.out hb
  clear hb
  go_wp2
  go_ret
  exact ⟨rfl, V2.out.alloc V2.out.size _⟩

set_option maxRecDepth 100000 in
set_option maxHeartbeats 8000000 in
theorem fn_ok (a : Option Addr) (len cap : Nat) (h : List Ev) (w : World) (hlc : len ≤ cap) (hm : cap ≤ maxLen) (hv : Ew w a len h) (hc : chkC h = 0) :
    Calls Try.prog 5 #[.slice a len cap] w fun e w' => e = .returned (.bool true) ∧ Below w.heap.size w w' := by
  have B0 : Hid (Below w.heap.size w (w.alloc (.cells #[.int .i64 0, .int .i64 2, .int .i64 1, .int .i64 1, .int .i64 3, .int .i64 1, .int .i64 1, .int .i64 2, .int .i64 2, .int .i64 2, .int .i64 3, .int .i64 2] 24))) := (Below.refl _ _).alloc (Nat.le_refl _) _
  have O0 : Hid (Ew (w.alloc (.cells #[.int .i64 0, .int .i64 2, .int .i64 1, .int .i64 1, .int .i64 3, .int .i64 1, .int .i64 1, .int .i64 2, .int .i64 2, .int .i64 2, .int .i64 3, .int .i64 2] 24)) (some ⟨w.heap.size, 0, none⟩) 4 oneH) := Ew.oneH w _
  have V0 : Hid (Ew w a len h) := hv
  have HL : Hid (h.length = len) := hv.1
  obtain ⟨h60, hg⟩ := chk_zero hc
  have HG : Hid (Good h h.length) := hg
  have hl60 : len ≤ 60 := by rw [← hv.1]; exact h60
  have HM : Hid (len ≤ cap ∧ cap ≤ maxLen ∧ chkC h = 0) := ⟨hlc, hm, hc⟩
  clear hv h60 hg
  go_enter Try.func5, Try.ntmps5
  go_wp2_with fail
  refine (of_ok (some ⟨w.heap.size, 0, none⟩) 4 4 oneH _ (by omega) (by unfold maxLen; omega) O0.out oneH_c).mono ?_
  rintro e w1 ⟨rfl, hb⟩
  rw [oneH_fifo, oneH_caus, oneH_tot]
  have V1 : Hid (Below w.heap.size w (w1.alloc (.cells #[.bool true, .bool false, .bool true] 40))) := (below_up rfl B0.out hb).alloc (below_up rfl B0.out hb).size _
  clear hb
  go_wp2_with fail
  refine (of_ok a len cap h _ hlc hm (V0.out.later V1.out) hc).mono ?_
  rintro e w2 ⟨rfl, hb⟩
  obtain ⟨F, eF⟩ : ∃ b, b = fifoB h := ⟨_, rfl⟩
  obtain ⟨C, eC⟩ : ∃ b, b = causB h := ⟨_, rfl⟩
  obtain ⟨T, eT⟩ : ∃ b, b = totB h := ⟨_, rfl⟩
  rw [← eF, ← eC, ← eT]
  have E : Hid (F = fifoB h ∧ C = causB h ∧ T = totB h) := ⟨eF, eC, eT⟩
  obtain ⟨W, eW⟩ : ∃ W, W = w2.alloc (.cells #[.bool F, .bool C, .bool T] 40) := ⟨_, rfl⟩
  have VW : Hid (Below w.heap.size w W) := by
    rw [eW]
    exact (below_up rfl V1.out hb).alloc (below_up rfl V1.out hb).size _
  have c0 : W.cell? ⟨w2.heap.size, 0, none⟩ = some (.bool F) := by rw [eW]; go_cell
  have c1 : W.cell? ⟨w2.heap.size, 1, none⟩ = some (.bool C) := by rw [eW]; go_cell
  have c2 : W.cell? ⟨w2.heap.size, 2, none⟩ = some (.bool T) := by rw [eW]; go_cell
  have hWs : w2.heap.size < W.heap.size := by rw [eW]; simp
  have CW : Hid (w2.heap.size < W.heap.size ∧ W.cell? ⟨w2.heap.size, 0, none⟩ = some (.bool F) ∧ W.cell? ⟨w2.heap.size, 1, none⟩ = some (.bool C) ∧ W.cell? ⟨w2.heap.size, 2, none⟩ = some (.bool T)) := ⟨hWs, c0, c1, c2⟩
  clear hb eF eC eT hlc hm hc hWs
  cases C
  · have hT : Hid True := trivial
    clear hT
    go_wp2
    rw [← eW]
    clear eW
    go_loopw [8, 9] (fun v x wr => ∃ i : Nat, i ≤ len ∧ x = .int .i64 (i : Int) ∧ v = .bool (alI h i) ∧ (∃ n, wr = W.drewN n)) (fun _ x _ => len - (intOf x).toNat)
    case atStart => exact ⟨0, by omega, rfl, rfl, ⟨0, rfl⟩⟩
    case round =>
      obtain ⟨i, hi, rfl, rfl, ⟨n1, rfl⟩⟩ := hrel
      by_cases hlt : i < len
      · have hi0 : (0 : Int) ≤ (i : Int) := by omega
        have hil : (i : Int) < (len : Int) := by omega
        go_wp2
        go_loopw [8, 10] (fun v x wr => ∃ k : Nat, k ≤ i ∧ x = .int .i64 (k : Int) ∧ v = .bool (alI h i && alK h i k) ∧ (∃ n, wr = W.drewN n)) (fun _ x _ => i - (intOf x).toNat)
        case atStart => exact ⟨0, by omega, rfl, by simp [alK], ⟨n1, rfl⟩⟩
        case round =>
          obtain ⟨k, hk, rfl, rfl, ⟨n2, rfl⟩⟩ := hrel
          by_cases hltk : k < i
          · have hk0 : (0 : Int) ≤ (k : Int) := by omega
            have hkl : (k : Int) < (i : Int) := by omega
            have hkl2 : (k : Int) < (len : Int) := by omega
            obtain ⟨b, off, rfl, -, hcs⟩ := (V0.out.later VW.out).2 (by omega)
            obtain ⟨x0, x1, x2⟩ := hcs i hlt
            obtain ⟨y0, y1, y2⟩ := hcs k (by omega)
            obtain ⟨q, eq⟩ : ∃ q, q = ev h i := ⟨_, rfl⟩
            obtain ⟨s, es⟩ : ∃ s, s = ev h k := ⟨_, rfl⟩
            rw [← eq] at x0 x1 x2
            rw [← es] at y0 y1 y2
            obtain ⟨q0, q1, q2⟩ := q
            obtain ⟨s0, s1, s2⟩ := s
            have ED : Hid (apB h i k = (decide (q1 = 2) && decide (s1 = 2) && !(decide (q0 = s0)))) := by
              show apB h i k = _
              unfold apB
              rw [← eq, ← es]
            obtain ⟨al, ea⟩ : ∃ b, b = (alI h i && alK h i k) := ⟨_, rfl⟩
            rw [← ea]
            have EA : Hid (al = (alI h i && alK h i k)) := ea
            clear hcs eq es ea
            by_cases g1 : q1 = 2
            · subst g1
              by_cases g2 : s1 = 2
              · subst g2
                by_cases g3 : q0 = s0
                · subst g3
                  have hne : (q0 != q0) = false := by simp
                  have AP : Hid (apB h i k = false) := by show _ = _; rw [ED.out]; simp
                  go_wp2
                  go_quiet (fail)
                  go_wp2
                  go_roundw
                  case rel => exact ⟨k + 1, by omega, by go_num, by rw [alK_same AP.out, EA.out], ⟨_, rfl⟩⟩
                  case measure => simp [intOf]; omega
                · have hne : (q0 != s0) = true := by rw [bne_iff_ne]; exact g3
                  have AP : Hid (apB h i k = true) := by show _ = _; rw [ED.out]; simp [g3]
                  go_wp2
                  go_quiet (fail)
                  go_wp2
                  go_roundw
                  case rel => exact ⟨k + 1, by omega, by go_num, by rw [alK_hit AP.out], ⟨_, rfl⟩⟩
                  case measure => simp [intOf]; omega
              · have g2' : (s1 == 2) = false := by simp [g2]
                have AP : Hid (apB h i k = false) := by show _ = _; rw [ED.out]; simp [g2]
                go_wp2
                go_quiet (fail)
                go_wp2
                go_roundw
                case rel => exact ⟨k + 1, by omega, by go_num, by rw [alK_same AP.out, EA.out], ⟨_, rfl⟩⟩
                case measure => simp [intOf]; omega
            · have g1' : (q1 == 2) = false := by simp [g1]
              have AP : Hid (apB h i k = false) := by show _ = _; rw [ED.out]; simp [g1]
              go_wp2
              go_quiet (fail)
              go_wp2
              go_roundw
              case rel => exact ⟨k + 1, by omega, by go_num, by rw [alK_same AP.out, EA.out], ⟨_, rfl⟩⟩
              case measure => simp [intOf]; omega
          · have hki : k = i := by omega
            subst hki
            go_wp2
            go_roundw
            case rel => exact ⟨k + 1, by omega, by go_num, by rw [alI_step], ⟨_, rfl⟩⟩
            case measure => simp [intOf]; omega
      · have hil : len = i := by omega
        subst hil
        obtain ⟨al, ea⟩ : ∃ b, b = alI h len := ⟨_, rfl⟩
        rw [← ea]
        have EA : Hid (al = alI h len) := ea
        clear ea
        cases al
        · by_cases hl0 : len = 0
          · exfalso
            have hn : h = [] := List.eq_nil_of_length_eq_zero (by rw [HL.out]; exact hl0)
            have := E.out.2.1
            rw [hn] at this
            exact absurd this (by decide)
          · obtain ⟨m, hm1⟩ : ∃ m, m = len - 1 := ⟨_, rfl⟩
            have hcast : ((len : Int) - 1) = (m : Int) := by omega
            have hm0 : (0 : Int) ≤ (m : Int) := by omega
            have hmc : (m : Int) ≤ (cap : Int) := by have := HM.out.1; omega
            have hq : ((len : Int) == 0) = false := by simp; omega
            have HL1 : Hid (m ≤ h.length) := by rw [HL.out]; show _ ≤ _; omega
            have HML : Hid (m ≤ len ∧ m ≤ cap) := by have := HM.out.1; show _ ∧ _; omega
            obtain ⟨b, off, rfl, -, -⟩ := V0.out.2 (by omega)
            go_wp2_with fail
            rw [← hm1]
            refine (of_ok (some ⟨b, off, none⟩) m cap (h.take m) _ HML.out.2 HM.out.2.1 ((V0.out.later (below_drewN VW.out _)).take HML.out.1) (chk_take HM.out.2.2 HL1.out)).mono ?_
            rintro e w3 ⟨rfl, hb⟩
            obtain ⟨F', eF⟩ : ∃ b, b = fifoB (h.take m) := ⟨_, rfl⟩
            obtain ⟨C', eC⟩ : ∃ b, b = causB (h.take m) := ⟨_, rfl⟩
            obtain ⟨T', eT⟩ : ∃ b, b = totB (h.take m) := ⟨_, rfl⟩
            rw [← eF, ← eC, ← eT]
            have E3 : Hid (F' = fifoB (h.take m) ∧ C' = causB (h.take m) ∧ T' = totB (h.take m)) := ⟨eF, eC, eT⟩
            have BW : Hid (Below W.heap.size W (w3.alloc (.cells #[.bool F', .bool C', .bool T'] 40))) := (below_up rfl (below_drewN (Below.refl W.heap.size W) _) hb).alloc (below_up rfl (below_drewN (Below.refl W.heap.size W) _) hb).size _
            have V4 : Hid (Below w.heap.size w (w3.alloc (.cells #[.bool F', .bool C', .bool T'] 40))) := below_up rfl VW.out BW.out
            have z0 := (BW.out.cell (p := ⟨w2.heap.size, 0, none⟩) CW.out.1).trans CW.out.2.1
            have z1 := (BW.out.cell (p := ⟨w2.heap.size, 1, none⟩) CW.out.1).trans CW.out.2.2.1
            have z2 := (BW.out.cell (p := ⟨w2.heap.size, 2, none⟩) CW.out.1).trans CW.out.2.2.2
            clear hb eF eC eT c0 c1 c2
            cases F
            · cases T
              · go_wp2
                go_ret
                exact ⟨rfl, V4.out⟩
              · have hT' : T' = true := by rw [E3.out.2.2]; exact tot_take HG.out HL1.out E.out.2.2.symm
                subst hT'
                go_wp2
                go_ret
                exact ⟨rfl, V4.out⟩
            · have hF' : F' = true := by rw [E3.out.1]; exact fifo_take HG.out HL1.out E.out.1.symm
              subst hF'
              cases T
              · go_wp2
                go_ret
                exact ⟨rfl, V4.out⟩
              · have hT' : T' = true := by rw [E3.out.2.2]; exact tot_take HG.out HL1.out E.out.2.2.symm
                subst hT'
                go_wp2
                go_ret
                exact ⟨rfl, V4.out⟩
        · have hF : F = false := by rw [E.out.1, alI_fifo HG.out (by rw [HL.out]; exact EA.out.symm)]; exact E.out.2.1.symm
          subst hF
          by_cases hl0 : len = 0
          · exfalso
            have hn : h = [] := List.eq_nil_of_length_eq_zero (by rw [HL.out]; exact hl0)
            have := E.out.2.1
            rw [hn] at this
            exact absurd this (by decide)
          · obtain ⟨m, hm1⟩ : ∃ m, m = len - 1 := ⟨_, rfl⟩
            have hcast : ((len : Int) - 1) = (m : Int) := by omega
            have hm0 : (0 : Int) ≤ (m : Int) := by omega
            have hmc : (m : Int) ≤ (cap : Int) := by have := HM.out.1; omega
            have hq : ((len : Int) == 0) = false := by simp; omega
            have HL1 : Hid (m ≤ h.length) := by rw [HL.out]; show _ ≤ _; omega
            have HML : Hid (m ≤ len ∧ m ≤ cap) := by have := HM.out.1; show _ ∧ _; omega
            obtain ⟨b, off, rfl, -, -⟩ := V0.out.2 (by omega)
            go_wp2_with fail
            rw [← hm1]
            refine (of_ok (some ⟨b, off, none⟩) m cap (h.take m) _ HML.out.2 HM.out.2.1 ((V0.out.later (below_drewN VW.out _)).take HML.out.1) (chk_take HM.out.2.2 HL1.out)).mono ?_
            rintro e w3 ⟨rfl, hb⟩
            obtain ⟨F', eF⟩ : ∃ b, b = fifoB (h.take m) := ⟨_, rfl⟩
            obtain ⟨C', eC⟩ : ∃ b, b = causB (h.take m) := ⟨_, rfl⟩
            obtain ⟨T', eT⟩ : ∃ b, b = totB (h.take m) := ⟨_, rfl⟩
            rw [← eF, ← eC, ← eT]
            have E3 : Hid (F' = fifoB (h.take m) ∧ C' = causB (h.take m) ∧ T' = totB (h.take m)) := ⟨eF, eC, eT⟩
            have BW : Hid (Below W.heap.size W (w3.alloc (.cells #[.bool F', .bool C', .bool T'] 40))) := (below_up rfl (below_drewN (Below.refl W.heap.size W) _) hb).alloc (below_up rfl (below_drewN (Below.refl W.heap.size W) _) hb).size _
            have V4 : Hid (Below w.heap.size w (w3.alloc (.cells #[.bool F', .bool C', .bool T'] 40))) := below_up rfl VW.out BW.out
            have z0 := (BW.out.cell (p := ⟨w2.heap.size, 0, none⟩) CW.out.1).trans CW.out.2.1
            have z1 := (BW.out.cell (p := ⟨w2.heap.size, 1, none⟩) CW.out.1).trans CW.out.2.2.1
            have z2 := (BW.out.cell (p := ⟨w2.heap.size, 2, none⟩) CW.out.1).trans CW.out.2.2.2
            clear hb eF eC eT c0 c1 c2
            cases T
            · go_wp2
              go_ret
              exact ⟨rfl, V4.out⟩
            · have hT' : T' = true := by rw [E3.out.2.2]; exact tot_take HG.out HL1.out E.out.2.2.symm
              subst hT'
              go_wp2
              go_ret
              exact ⟨rfl, V4.out⟩
  · have hF : F = true := by rw [E.out.1]; exact caus_fifo HG.out E.out.2.1.symm
    subst hF
    go_wp2
    rw [← eW]
    clear eW
    go_loopw [8, 9] (fun v x wr => ∃ i : Nat, i ≤ len ∧ x = .int .i64 (i : Int) ∧ v = .bool (alI h i) ∧ (∃ n, wr = W.drewN n)) (fun _ x _ => len - (intOf x).toNat)
    case atStart => exact ⟨0, by omega, rfl, rfl, ⟨0, rfl⟩⟩
    case round =>
      obtain ⟨i, hi, rfl, rfl, ⟨n1, rfl⟩⟩ := hrel
      by_cases hlt : i < len
      · have hi0 : (0 : Int) ≤ (i : Int) := by omega
        have hil : (i : Int) < (len : Int) := by omega
        go_wp2
        go_loopw [8, 10] (fun v x wr => ∃ k : Nat, k ≤ i ∧ x = .int .i64 (k : Int) ∧ v = .bool (alI h i && alK h i k) ∧ (∃ n, wr = W.drewN n)) (fun _ x _ => i - (intOf x).toNat)
        case atStart => exact ⟨0, by omega, rfl, by simp [alK], ⟨n1, rfl⟩⟩
        case round =>
          obtain ⟨k, hk, rfl, rfl, ⟨n2, rfl⟩⟩ := hrel
          by_cases hltk : k < i
          · have hk0 : (0 : Int) ≤ (k : Int) := by omega
            have hkl : (k : Int) < (i : Int) := by omega
            have hkl2 : (k : Int) < (len : Int) := by omega
            obtain ⟨b, off, rfl, -, hcs⟩ := (V0.out.later VW.out).2 (by omega)
            obtain ⟨x0, x1, x2⟩ := hcs i hlt
            obtain ⟨y0, y1, y2⟩ := hcs k (by omega)
            obtain ⟨q, eq⟩ : ∃ q, q = ev h i := ⟨_, rfl⟩
            obtain ⟨s, es⟩ : ∃ s, s = ev h k := ⟨_, rfl⟩
            rw [← eq] at x0 x1 x2
            rw [← es] at y0 y1 y2
            obtain ⟨q0, q1, q2⟩ := q
            obtain ⟨s0, s1, s2⟩ := s
            have ED : Hid (apB h i k = (decide (q1 = 2) && decide (s1 = 2) && !(decide (q0 = s0)))) := by
              show apB h i k = _
              unfold apB
              rw [← eq, ← es]
            obtain ⟨al, ea⟩ : ∃ b, b = (alI h i && alK h i k) := ⟨_, rfl⟩
            rw [← ea]
            have EA : Hid (al = (alI h i && alK h i k)) := ea
            clear hcs eq es ea
            by_cases g1 : q1 = 2
            · subst g1
              by_cases g2 : s1 = 2
              · subst g2
                by_cases g3 : q0 = s0
                · subst g3
                  have hne : (q0 != q0) = false := by simp
                  have AP : Hid (apB h i k = false) := by show _ = _; rw [ED.out]; simp
                  go_wp2
                  go_quiet (fail)
                  go_wp2
                  go_roundw
                  case rel => exact ⟨k + 1, by omega, by go_num, by rw [alK_same AP.out, EA.out], ⟨_, rfl⟩⟩
                  case measure => simp [intOf]; omega
                · have hne : (q0 != s0) = true := by rw [bne_iff_ne]; exact g3
                  have AP : Hid (apB h i k = true) := by show _ = _; rw [ED.out]; simp [g3]
                  go_wp2
                  go_quiet (fail)
                  go_wp2
                  go_roundw
                  case rel => exact ⟨k + 1, by omega, by go_num, by rw [alK_hit AP.out], ⟨_, rfl⟩⟩
                  case measure => simp [intOf]; omega
              · have g2' : (s1 == 2) = false := by simp [g2]
                have AP : Hid (apB h i k = false) := by show _ = _; rw [ED.out]; simp [g2]
                go_wp2
                go_quiet (fail)
                go_wp2
                go_roundw
                case rel => exact ⟨k + 1, by omega, by go_num, by rw [alK_same AP.out, EA.out], ⟨_, rfl⟩⟩
                case measure => simp [intOf]; omega
            · have g1' : (q1 == 2) = false := by simp [g1]
              have AP : Hid (apB h i k = false) := by show _ = _; rw [ED.out]; simp [g1]
              go_wp2
              go_quiet (fail)
              go_wp2
              go_roundw
              case rel => exact ⟨k + 1, by omega, by go_num, by rw [alK_same AP.out, EA.out], ⟨_, rfl⟩⟩
              case measure => simp [intOf]; omega
          · have hki : k = i := by omega
            subst hki
            go_wp2
            go_roundw
            case rel => exact ⟨k + 1, by omega, by go_num, by rw [alI_step], ⟨_, rfl⟩⟩
            case measure => simp [intOf]; omega
      · have hil : len = i := by omega
        subst hil
        obtain ⟨al, ea⟩ : ∃ b, b = alI h len := ⟨_, rfl⟩
        rw [← ea]
        have EA : Hid (al = alI h len) := ea
        clear ea
        cases al
        · by_cases hl0 : len = 0
          · have hn : h = [] := List.eq_nil_of_length_eq_zero (by rw [HL.out]; exact hl0)
            have hT : T = true := by rw [E.out.2.2, hn]; exact nil_tot
            subst hT
            have hq : ((len : Int) == 0) = true := by rw [hl0]; rfl
            go_wp2
            go_ret
            exact ⟨rfl, below_drewN VW.out _⟩
          · obtain ⟨m, hm1⟩ : ∃ m, m = len - 1 := ⟨_, rfl⟩
            have hcast : ((len : Int) - 1) = (m : Int) := by omega
            have hm0 : (0 : Int) ≤ (m : Int) := by omega
            have hmc : (m : Int) ≤ (cap : Int) := by have := HM.out.1; omega
            have hq : ((len : Int) == 0) = false := by simp; omega
            have HL1 : Hid (m ≤ h.length) := by rw [HL.out]; show _ ≤ _; omega
            have HML : Hid (m ≤ len ∧ m ≤ cap) := by have := HM.out.1; show _ ∧ _; omega
            obtain ⟨b, off, rfl, -, -⟩ := V0.out.2 (by omega)
            go_wp2_with fail
            rw [← hm1]
            refine (of_ok (some ⟨b, off, none⟩) m cap (h.take m) _ HML.out.2 HM.out.2.1 ((V0.out.later (below_drewN VW.out _)).take HML.out.1) (chk_take HM.out.2.2 HL1.out)).mono ?_
            rintro e w3 ⟨rfl, hb⟩
            obtain ⟨F', eF⟩ : ∃ b, b = fifoB (h.take m) := ⟨_, rfl⟩
            obtain ⟨C', eC⟩ : ∃ b, b = causB (h.take m) := ⟨_, rfl⟩
            obtain ⟨T', eT⟩ : ∃ b, b = totB (h.take m) := ⟨_, rfl⟩
            rw [← eF, ← eC, ← eT]
            have E3 : Hid (F' = fifoB (h.take m) ∧ C' = causB (h.take m) ∧ T' = totB (h.take m)) := ⟨eF, eC, eT⟩
            have BW : Hid (Below W.heap.size W (w3.alloc (.cells #[.bool F', .bool C', .bool T'] 40))) := (below_up rfl (below_drewN (Below.refl W.heap.size W) _) hb).alloc (below_up rfl (below_drewN (Below.refl W.heap.size W) _) hb).size _
            have V4 : Hid (Below w.heap.size w (w3.alloc (.cells #[.bool F', .bool C', .bool T'] 40))) := below_up rfl VW.out BW.out
            have z0 := (BW.out.cell (p := ⟨w2.heap.size, 0, none⟩) CW.out.1).trans CW.out.2.1
            have z1 := (BW.out.cell (p := ⟨w2.heap.size, 1, none⟩) CW.out.1).trans CW.out.2.2.1
            have z2 := (BW.out.cell (p := ⟨w2.heap.size, 2, none⟩) CW.out.1).trans CW.out.2.2.2
            clear hb eF eC eT c0 c1 c2
            have hC' : C' = true := by rw [E3.out.2.1]; exact caus_take HG.out HL1.out E.out.2.1.symm
            subst hC'
            have hF' : F' = true := by rw [E3.out.1]; exact fifo_take HG.out HL1.out E.out.1.symm
            subst hF'
            cases T
            · go_wp2
              go_ret
              exact ⟨rfl, V4.out⟩
            · have hT' : T' = true := by rw [E3.out.2.2]; exact tot_take HG.out HL1.out E.out.2.2.symm
              subst hT'
              go_wp2
              go_ret
              exact ⟨rfl, V4.out⟩
        · by_cases hl0 : len = 0
          · have hn : h = [] := List.eq_nil_of_length_eq_zero (by rw [HL.out]; exact hl0)
            have hT : T = true := by rw [E.out.2.2, hn]; exact nil_tot
            subst hT
            have hq : ((len : Int) == 0) = true := by rw [hl0]; rfl
            go_wp2
            go_ret
            exact ⟨rfl, below_drewN VW.out _⟩
          · obtain ⟨m, hm1⟩ : ∃ m, m = len - 1 := ⟨_, rfl⟩
            have hcast : ((len : Int) - 1) = (m : Int) := by omega
            have hm0 : (0 : Int) ≤ (m : Int) := by omega
            have hmc : (m : Int) ≤ (cap : Int) := by have := HM.out.1; omega
            have hq : ((len : Int) == 0) = false := by simp; omega
            have HL1 : Hid (m ≤ h.length) := by rw [HL.out]; show _ ≤ _; omega
            have HML : Hid (m ≤ len ∧ m ≤ cap) := by have := HM.out.1; show _ ∧ _; omega
            obtain ⟨b, off, rfl, -, -⟩ := V0.out.2 (by omega)
            go_wp2_with fail
            rw [← hm1]
            refine (of_ok (some ⟨b, off, none⟩) m cap (h.take m) _ HML.out.2 HM.out.2.1 ((V0.out.later (below_drewN VW.out _)).take HML.out.1) (chk_take HM.out.2.2 HL1.out)).mono ?_
            rintro e w3 ⟨rfl, hb⟩
            obtain ⟨F', eF⟩ : ∃ b, b = fifoB (h.take m) := ⟨_, rfl⟩
            obtain ⟨C', eC⟩ : ∃ b, b = causB (h.take m) := ⟨_, rfl⟩
            obtain ⟨T', eT⟩ : ∃ b, b = totB (h.take m) := ⟨_, rfl⟩
            rw [← eF, ← eC, ← eT]
            have E3 : Hid (F' = fifoB (h.take m) ∧ C' = causB (h.take m) ∧ T' = totB (h.take m)) := ⟨eF, eC, eT⟩
            have BW : Hid (Below W.heap.size W (w3.alloc (.cells #[.bool F', .bool C', .bool T'] 40))) := (below_up rfl (below_drewN (Below.refl W.heap.size W) _) hb).alloc (below_up rfl (below_drewN (Below.refl W.heap.size W) _) hb).size _
            have V4 : Hid (Below w.heap.size w (w3.alloc (.cells #[.bool F', .bool C', .bool T'] 40))) := below_up rfl VW.out BW.out
            have z0 := (BW.out.cell (p := ⟨w2.heap.size, 0, none⟩) CW.out.1).trans CW.out.2.1
            have z1 := (BW.out.cell (p := ⟨w2.heap.size, 1, none⟩) CW.out.1).trans CW.out.2.2.1
            have z2 := (BW.out.cell (p := ⟨w2.heap.size, 2, none⟩) CW.out.1).trans CW.out.2.2.2
            clear hb eF eC eT c0 c1 c2
            have hC' : C' = true := by rw [E3.out.2.1]; exact caus_take HG.out HL1.out E.out.2.1.symm
            subst hC'
            have hF' : F' = true := by rw [E3.out.1]; exact fifo_take HG.out HL1.out E.out.1.symm
            subst hF'
            cases T
            · go_wp2
              go_ret
              exact ⟨rfl, V4.out⟩
            · have hT' : T' = true := by rw [E3.out.2.2]; exact tot_take HG.out HL1.out E.out.2.2.symm
              subst hT'
              go_wp2
              go_ret
              exact ⟨rfl, V4.out⟩
theorem fn_walk (a : Option Addr) (len cap : Nat) (h : List Ev) (w : World) (hlc : len ≤ cap) (hm : cap ≤ maxLen) (hv : Ew w a len h) :
    Calls Try.prog 5 #[.slice a len cap] w fun e w' => e = .returned (.bool true) ∧ Below w.heap.size w w' := by
  by_cases hc : chkC h = 0
  · exact fn_ok a len cap h w hlc hm hv hc
  · exact fn_no a len cap h w hlc hm hv hc
end Go.Proofs.Ytmnjihkllojapab.His
