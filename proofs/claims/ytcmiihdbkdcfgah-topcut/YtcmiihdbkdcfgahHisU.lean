/-
  Contracts of package history's checkMany and Cut: is a cut one that could have been.
-/
import Derived.Test.YtcmiihdbkdcfgahHisT
namespace Go.Proofs.Ytcmiihdbkdcfgah.His
open Go.RowKit
open Go.Proofs.Ytcmiihdbkdcfgah.Vec

def cnts (h : List Ev) : List Int := [cnt h 0 h.length, cnt h 1 h.length, cnt h 2 h.length, cnt h 3 h.length, cnt h 4 h.length]
def manyC (h : List Ev) (many : List Int) : Int := if code many = 0 then (if gt many (cnts h) = true then 1 else 0) else code many

theorem code_ok {r : List Int} (hl : r.length = 5) (hb : ∀ i, i < 5 → 0 ≤ r.getD i 0 ∧ r.getD i 0 ≤ 1000000) : code r = 0 := by
  unfold code
  rw [if_pos hl, bad, anyP_false]
  · rfl
  · intro j hj
    have := hb j hj
    simp [out]
    simp at this
    omega
theorem cnts_get (h : List Ev) (i : Nat) (hi : i < 5) : (cnts h).getD i 0 = cnt h i h.length := by
  rcases i with _ | _ | _ | _ | _ | i
  · rfl
  · rfl
  · rfl
  · rfl
  · rfl
  · omega
theorem cnts_code {h : List Ev} (h60 : h.length ≤ 60) : code (cnts h) = 0 := by
  refine code_ok rfl fun i hi => ?_
  rw [cnts_get h i hi]
  have := cnt_nonneg h i h.length
  have := cnt_le h i h.length
  omega
theorem Fr.vw {w : World} {F t : Nat} {r : List Int} (h : w.rowIs F t 5 (fun i => .int .i64 (r.getD i 0))) (hl : r.length = 5) : Vw w (some ⟨F, 0, none⟩) 5 r := by
  refine ⟨hl, fun _ => ⟨F, 0, rfl, h.lt, fun k hk => ?_⟩⟩
  rw [Nat.zero_add]
  exact h.cell hk

set_option maxRecDepth 100000 in
set_option maxHeartbeats 1000000 in
theorem many_any (a : Option Addr) (len cap : Nat) (h : List Ev) (p : Option Addr) (n pcap : Nat) (many : List Int) (w : World) (h60 : len ≤ 60) (hv : Ew w a len h) (hg : Good h len) (hx : Vw w p n many) :
    Calls Try.prog 21 #[.slice a len cap, .slice p n pcap] w fun e w' => e = .returned (errV (manyC h many)) ∧ Below w.heap.size w w' := by
  have G : Hid (Ew w a len h) := hv
  have HG : Hid (Good h len ∧ h.length = len) := ⟨hg, hv.1⟩
  have HX : Hid (Vw w p n many) := hx
  clear hv hg hx
  go_enter Try.func21, Try.ntmps21
  go_wp2
  go_loopw [12] (fun i wr => ∃ k : Nat, k ≤ len ∧ i = .int .i64 k ∧ Hid (Below w.heap.size w wr) ∧ Hid (wr.rowIs w.heap.size 47 5 (fun i => .int .i64 (cnt h i k)))) (fun i _ => len - (intOf i).toNat)
  case atStart =>
    refine ⟨0, by omega, rfl, (Below.refl _ _).alloc (Nat.le_refl _) _, ?_⟩
    refine World.rowIs_alloc w _ _ _ fun i hi => ?_
    have : i < 5 := hi
    rcases i with _ | _ | _ | _ | _ | i
    · rfl
    · rfl
    · rfl
    · rfl
    · rfl
    · omega
  case round =>
    obtain ⟨k, hk, rfl, hbel, hR⟩ := hrel
    by_cases hlt : k < len
    · obtain ⟨b, off, rfl, hpb, hcs⟩ := (G.out.later hbel.out).2 (by omega)
      obtain ⟨c0, c1, c2⟩ := hcs k hlt
      have hw5 := W_lt HG.out.1 hlt
      rw [← W_cast HG.out.1 hlt] at c0
      obtain ⟨q1, eq1⟩ : ∃ q, q = (ev h k).2.1 := ⟨_, rfl⟩
      obtain ⟨q2, eq2⟩ : ∃ q, q = (ev h k).2.2 := ⟨_, rfl⟩
      obtain ⟨m, em⟩ : ∃ m, m = W h k := ⟨_, rfl⟩
      rw [← eq1] at c1
      rw [← eq2] at c2
      rw [← em] at c0 hw5
      have EM : Hid (m = W h k) := em
      have hk0 : (0 : Int) ≤ (k : Int) := by omega
      have hkl : (k : Int) < (len : Int) := by omega
      have hm0 : (0 : Int) ≤ (m : Int) := by omega
      have hm5 : (m : Int) < 5 := by omega
      have d0 := hR.out.cell hw5
      have z0 := hR.out.frozen m
      have hS := hR.out.lt
      obtain ⟨x, ex⟩ : ∃ x, x = cnt h m k := ⟨_, rfl⟩
      have bx : 0 ≤ x ∧ x ≤ 60 := by
        have := cnt_nonneg h m k
        have := cnt_le h m k
        omega
      rw [← ex] at d0
      have EX : Hid (x = cnt h m k) := ex
      clear hcs hpb em eq1 eq2 ex
      go_wp2
      go_roundw
      case rel =>
        refine ⟨k + 1, by omega, by go_num, ?_, ?_⟩
        · exact (hbel.out.setCell (p := ⟨w.heap.size, m, none⟩) (Nat.le_refl _) _).alloc (by simpa [World.setCell] using hbel.out.size) _
        · refine ((hR.out.set m _).alloc _).congr fun i hi => ?_
          rw [cnt_step]
          by_cases e : i = m
          · subst e
            rw [if_pos rfl, if_pos EM.out.symm, EX.out]
          · rw [if_neg e, if_neg (fun q => e (q.symm.trans EM.out.symm))]
            simp
      case measure => simp [intOf]; omega
    · have hkl : k = len := by omega
      subst hkl
      have hn : h.length = k := HG.out.2
      have VA : Hid (Vw wr (some ⟨w.heap.size, 0, none⟩) 5 (cnts h)) := by
        refine Fr.vw (t := 47) (hR.out.congr fun i hi => ?_) rfl
        rw [cnts_get h i hi, hn]
      have VM : Hid (Vw wr p n many) := HX.out.later hbel.out
      have CA : Hid (code (cnts h) = 0) := cnts_code (by omega)
      clear hn
      by_cases hc : code many = 0
      · have HC : Hid (code many = 0) := hc
        clear hc
        go_wp2_with fail
        refine (leq_ok p (some ⟨w.heap.size, 0, none⟩) n pcap 5 5 many (cnts h) _ VM.out VA.out HC.out CA.out).mono ?_
        rintro e w1 ⟨rfl, hb⟩
        have V1 : Hid (Below w.heap.size w w1) := below_up rfl hbel.out hb
        clear hb
        cases hq : gt many (cnts h)
        · go_wp2
          go_ret
          refine ⟨?_, V1.out⟩
          rw [manyC, if_pos HC.out, hq]
          rfl
        · go_wp2
          go_ret
          refine ⟨?_, V1.out⟩
          rw [manyC, if_pos HC.out, hq]
          rfl
      · have HC : Hid (code many ≠ 0) := hc
        have C2 : Hid (code2 many (cnts h) = code many) := by
          show code2 many (cnts h) = code many
          unfold code2
          simp [hc]
        clear hc
        go_wp2_with fail
        refine (leq_no p (some ⟨w.heap.size, 0, none⟩) n pcap 5 5 many (cnts h) _ VM.out VA.out (by rw [C2.out]; exact HC.out)).mono ?_
        rintro e w1 ⟨rfl, hb⟩
        rw [C2.out]
        have V1 : Hid (Below w.heap.size w w1) := below_up rfl hbel.out hb
        clear hb
        go_wp2
        go_ret
        refine ⟨?_, V1.out⟩
        rw [manyC, if_neg HC.out, errV_no HC.out]
        rfl

def cutC (h : List Ev) (many : List Int) : Int := if chkC h = 0 then manyC h many else chkC h
def cutB (h : List Ev) (many : List Int) : Bool := (List.range h.length).all (cutAt h many)

set_option maxRecDepth 100000 in
theorem cut_no (a : Option Addr) (len cap : Nat) (h : List Ev) (p : Option Addr) (n pcap : Nat) (many : List Int) (w : World) (hlc : len ≤ cap) (hm : cap ≤ maxLen) (hv : Ew w a len h) (hx : Vw w p n many) (hc : cutC h many ≠ 0) :
    Calls Try.prog 11 #[.slice a len cap, .slice p n pcap] w fun e w' => e = .returned (.tuple #[.bool false, errV (cutC h many)]) ∧ Below w.heap.size w w' := by
  by_cases h0 : chkC h = 0
  · have HM : Hid (manyC h many ≠ 0) := by unfold cutC at hc; rw [if_pos h0] at hc; exact hc
    have E : Hid (cutC h many = manyC h many) := by unfold cutC; rw [if_pos h0]; rfl
    obtain ⟨h60, hg⟩ := chk_zero h0
    have HG : Hid (Good h len ∧ len ≤ 60) := by rw [hv.1] at h60 hg; exact ⟨hg, h60⟩
    clear h60 hg hc
    go_enter Try.func11, Try.ntmps11
    go_wp2_with fail
    refine (check_any a len cap h _ hlc hm hv).mono ?_
    rintro e w1 ⟨rfl, hb⟩
    rw [h0, errV_ok]
    have V1 : Hid (Below w.heap.size w w1) := hb
    have E1 : Hid (Ew w1 a len h) := hv.later hb
    have X1 : Hid (Vw w1 p n many) := hx.later hb
    clear hv hx hb h0
    go_wp2_with fail
    refine (many_any a len cap h p n pcap many _ HG.out.2 E1.out HG.out.1 X1.out).mono ?_
    rintro e w2 ⟨rfl, hb⟩
    rw [errV_no HM.out]
    have V2 : Hid (Below w.heap.size w w2) := below_up rfl V1.out hb
    clear hb
    go_wp2
    go_ret2
    refine ⟨?_, V2.out⟩
    rw [E.out, errV_no HM.out]
    rfl
  · have H0 : Hid (chkC h ≠ 0) := h0
    have E : Hid (cutC h many = chkC h) := by unfold cutC; rw [if_neg h0]; rfl
    clear hc
    go_enter Try.func11, Try.ntmps11
    go_wp2_with fail
    refine (check_any a len cap h _ hlc hm hv).mono ?_
    rintro e w1 ⟨rfl, hb⟩
    rw [errV_no h0]
    have V1 : Hid (Below w.heap.size w w1) := hb
    clear hv hx hb h0
    go_wp2
    go_ret2
    refine ⟨?_, V1.out⟩
    rw [E.out, errV_no H0.out]
    rfl

theorem gt_leR (r s : List Int) : (!gt r s) = leR r s := by
  rw [Bool.eq_iff_iff]
  simp only [gt, anyP, leR]
  simp

set_option maxRecDepth 100000 in
set_option maxHeartbeats 1000000 in
theorem cut_ok (a : Option Addr) (len cap : Nat) (h : List Ev) (p : Option Addr) (n pcap : Nat) (many : List Int) (w : World) (hlc : len ≤ cap) (hm : cap ≤ maxLen) (hv : Ew w a len h) (hx : Vw w p n many) (hc : cutC h many = 0) :
    Calls Try.prog 11 #[.slice a len cap, .slice p n pcap] w fun e w' => e = .returned (.tuple #[.bool (cutB h many), .nilIface]) ∧ Below w.heap.size w w' := by
  have h0 : chkC h = 0 := by
    unfold cutC at hc
    split at hc
    · assumption
    · exact hc
  have hM : manyC h many = 0 := by unfold cutC at hc; rw [if_pos h0] at hc; exact hc
  have hcm : code many = 0 := by
    unfold manyC at hM
    split at hM
    · assumption
    · exact hM
  obtain ⟨h60, hg⟩ := chk_zero h0
  have HG : Hid (Good h len ∧ len ≤ 60 ∧ h.length = len) := by have e := hv.1; rw [e] at h60 hg; exact ⟨hg, h60, e⟩
  have HM : Hid (manyC h many = 0 ∧ code many = 0) := ⟨hM, hcm⟩
  have h60' : len ≤ 60 := HG.out.2.1
  obtain rfl : 5 = n := by have := code_len hcm; have := hx.1; omega
  clear h60 hg hc hM hcm
  go_enter Try.func11, Try.ntmps11
  go_wp2_with fail
  refine (check_any a len cap h _ hlc hm hv).mono ?_
  rintro e w1 ⟨rfl, hb⟩
  rw [h0, errV_ok]
  have V1 : Hid (Below w.heap.size w w1) := hb
  have E1 : Hid (Ew w1 a len h) := hv.later hb
  have X1 : Hid (Vw w1 p 5 many) := hx.later hb
  clear hv hx hb h0
  go_wp2_with fail
  refine (many_any a len cap h p 5 pcap many _ HG.out.2.1 E1.out HG.out.1 X1.out).mono ?_
  rintro e w2 ⟨rfl, hb⟩
  rw [HM.out.1, errV_ok]
  have V2 : Hid (Below w.heap.size w w2) := below_up rfl V1.out hb
  have E2 : Hid (Ew w2 a len h) := E1.out.later hb
  have X2 : Hid (Vw w2 p 5 many) := X1.out.later hb
  clear hb V1 E1 X1
  go_wp2_with fail
  refine (reaches_any a len cap h _ HG.out.2.1 E2.out HG.out.1).mono ?_
  rintro e w3 ⟨A, rfl, hb, L, hR⟩
  have V3 : Hid (Below w.heap.size w w3) := below_up rfl V2.out hb
  have E3 : Hid (Ew w3 a len h) := E2.out.later hb
  have X3 : Hid (Vw w3 p 5 many) := X2.out.later hb
  have R3 : Hid (Rd h w3 A len) := hR.rd
  clear hb hR V2 E2 X2
  go_wp2
  go_loopw [31] (fun i wr => ∃ k : Nat, k ≤ len ∧ i = .int .i64 k ∧ Hid (Below w3.heap.size w3 wr) ∧ Hid (∀ j, j < k → cutAt h many j = true)) (fun i _ => len - (intOf i).toNat)
  case atStart => exact ⟨0, by omega, rfl, Below.refl _ _, fun j hj => absurd hj (by omega)⟩
  case round =>
    obtain ⟨k, hk, rfl, hbel, hp⟩ := hrel
    by_cases hlt : k < len
    · obtain ⟨b, off, rfl, hpb, hcs⟩ := (E3.out.later hbel.out).2 (by omega)
      obtain ⟨b', off', rfl, hpb', hcs'⟩ := (X3.out.later hbel.out).2 (by omega)
      obtain ⟨c0, -, -⟩ := hcs k hlt
      have hw5 := W_lt HG.out.1 hlt
      rw [← W_cast HG.out.1 hlt] at c0
      obtain ⟨m, em⟩ : ∃ m, m = W h k := ⟨_, rfl⟩
      rw [← em] at c0 hw5
      have EM : Hid (m = W h k) := em
      have hk0 : (0 : Int) ≤ (k : Int) := by omega
      have hkl : (k : Int) < (len : Int) := by omega
      have hm0 : (0 : Int) ≤ (m : Int) := by omega
      have hm5 : (m : Int) < 5 := by omega
      have RK := (R3.out.later hbel.out).2 k hlt
      obtain ⟨r0, e0⟩ : ∃ x, x = (row h k).getD 0 0 := ⟨_, rfl⟩
      obtain ⟨r1, e1⟩ : ∃ x, x = (row h k).getD 1 0 := ⟨_, rfl⟩
      obtain ⟨r2, e2⟩ : ∃ x, x = (row h k).getD 2 0 := ⟨_, rfl⟩
      obtain ⟨r3, e3⟩ : ∃ x, x = (row h k).getD 3 0 := ⟨_, rfl⟩
      obtain ⟨r4, e4⟩ : ∃ x, x = (row h k).getD 4 0 := ⟨_, rfl⟩
      have ER : Hid (row h k = [r0, r1, r2, r3, r4]) := by rw [e0, e1, e2, e3, e4]; exact (list5 (row_len h k)).symm
      have d0 := RK 0 (by omega)
      have d1 := RK 1 (by omega)
      have d2 := RK 2 (by omega)
      have d3 := RK 3 (by omega)
      have d4 := RK 4 (by omega)
      rw [← e0, Nat.add_zero] at d0
      rw [← e1] at d1
      rw [← e2] at d2
      rw [← e3] at d3
      rw [← e4] at d4
      have CR : Hid (code (row h k) = 0) := code_ok (row_len h k) fun i hi => by have := row_bd HG.out.1 hlt i; omega
      have CM : Hid (b' < wr.heap.size ∧ wr.cell? ⟨b', off' + m, none⟩ = some (.int .i64 (many.getD m 0))) := ⟨hpb', hcs' m hw5⟩
      clear hcs hcs' hpb' em e0 e1 e2 e3 e4 RK
      go_wp2_with fail
      refine wp_gen (fun w9 => Hid (Below wr.heap.size wr w9) ∧ Hid (Fr w9 wr.heap.size (row h k))) ?_ ?_
      · refine ⟨(Below.refl _ _).alloc (Nat.le_refl _) _, ?_⟩
        rw [ER.out]
        exact Fr.lit wr r0 r1 r2 r3 r4
      · rintro w9 ⟨B9, F9⟩
        clear c0 d0 d1 d2 d3 d4
        have f0 := World.rowIs.cell F9.out hw5
        have g0 : w9.cell? ⟨b', off' + m, none⟩ = some (.int .i64 (many.getD m 0)) := (B9.out.cell (p := ⟨b', off' + m, none⟩) CM.out.1).trans CM.out.2
        obtain ⟨x, ex⟩ : ∃ x, x = (row h k).getD m 0 := ⟨_, rfl⟩
        obtain ⟨y, ey⟩ : ∃ x, x = many.getD m 0 := ⟨_, rfl⟩
        rw [← ex] at f0
        rw [← ey] at g0
        have CT : Hid (cutAt h many k = (decide (y < x) || leR (row h k) many)) := by rw [ex, ey, EM.out]; rfl
        clear ex ey
        have B3 : Hid (Below w3.heap.size w3 w9) := below_up rfl hbel.out B9.out
        by_cases hxy : y < x
        · go_quiet (fail)
          go_wp2
          go_roundw
          case rel => exact ⟨k + 1, by omega, by go_num, below_drewN B3.out _, fun j hj => if e : j < k then hp.out j e else by rw [show j = k by omega, CT.out, decide_eq_true hxy]; rfl⟩
          case measure => simp [intOf]; omega
        · have hyx : x ≤ y := by omega
          go_quiet (fail)
          go_wp2_with fail
          refine (leq_ok (some ⟨wr.heap.size, 0, none⟩) (some ⟨b', off', none⟩) 5 5 5 pcap (row h k) many _ ((Fr.vw F9.out (row_len h k)).later (below_drewN (Below.refl _ _) _)) ((X3.out.later B3.out).later (below_drewN (Below.refl _ _) _)) CR.out HM.out.2).mono ?_
          rintro e w10 ⟨rfl, hb10⟩
          have B10 : Hid (Below w3.heap.size w3 w10) := below_up rfl (below_drewN B3.out _) hb10
          clear hb10
          rw [gt_leR]
          cases hq : leR (row h k) many
          · go_wp2
            go_ret2
            refine ⟨?_, below_up rfl V3.out B10.out⟩
            have : cutB h many = false := by
              rw [cutB, List.all_eq_false]
              refine ⟨k, List.mem_range.2 (by rw [HG.out.2.2]; exact hlt), ?_⟩
              rw [CT.out, hq, decide_eq_false (by omega)]
              decide
            rw [this]
            rfl
          · go_wp2
            go_roundw
            case rel => exact ⟨k + 1, by omega, by go_num, B10.out, fun j hj => if e : j < k then hp.out j e else by rw [show j = k by omega, CT.out, hq]; simp⟩
            case measure => simp [intOf]; omega
    · go_wp2
      go_ret2
      refine ⟨?_, below_up rfl V3.out hbel.out⟩
      have : cutB h many = true := by
        rw [cutB, List.all_eq_true]
        intro j hj
        exact hp.out j (by have := List.mem_range.1 hj; have := HG.out.2.2; omega)
      rw [this]
      rfl
end Go.Proofs.Ytcmiihdbkdcfgah.His
