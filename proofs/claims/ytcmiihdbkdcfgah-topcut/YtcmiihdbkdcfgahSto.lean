/-
  One who heard nothing holds all back: the walk of StableOne.
-/
import Derived.Test.YtcmiihdbkdcfgahStoM
import Derived.Test.YtcmiihdbkdcfgahStbO
import Derived.Test.YtcmiihdbkdcfgahVecB
import Derived.Test.YtcmiihdbkdcfgahVecC
import Derived.Deep.QuietTactic
import Derived.BigQuiet
import Derived.Deep.RegionHeld3
import Derived.WalkLawsBesides
import Derived.Handy
namespace Go.Proofs.Ytcmiihdbkdcfgah.Stb
open Go.RowKit
open Go.Proofs.Ytcmiihdbkdcfgah.Fif (ret_bool)
open Go.Proofs.Ytcmiihdbkdcfgah.Vec (Vw check_ok check_no)
open Go.Proofs.Ytcmiihdbkdcfgah.Sep (KpL NewL)
open Go.Proofs.Ytcmiihdbkdcfgah.Ldr (errF errF_ok errF_no Sl same_any)
open Go.Proofs.Ytcmiihdbkdcfgah.His (zero5)
set_option linter.unusedVariables false

set_option maxRecDepth 100000 in
theorem one_bad (n who : Int) (a : Option Addr) (len cap : Nat) (w : World) (hn : n < 2 ∨ 5 < n) : Calls Try.prog 3 #[.int .i64 n, .slice a len cap, .int .i64 who] w fun x w' => x = .returned (.bool true) ∧ Below w.heap.size w w' := by
  have HN : Hid (n < 2 ∨ 5 < n) := hn
  rcases (show n < 2 ∨ (¬ n < 2 ∧ n > 5) by omega) with d1 | ⟨d1, d2⟩
  all_goals
    clear hn
    go_enter Try.func3, Try.ntmps3
    go_wp2_with fail
    refine (newB_no n HN.out w).mono ?_
    rintro e w1 ⟨rfl, hb⟩
    rw [errF_no (by decide)]
    have B1 : Hid _ := hb
    clear hb
    go_wp2
    go_ret
    exact ⟨rfl, B1.out⟩
set_option maxRecDepth 100000 in
theorem one_vec (n : Nat) (who : Int) (a : Option Addr) (len cap : Nat) (v : List Int) (w : World) (h2 : 2 ≤ n) (h5 : n ≤ 5) (hv : Vw w a len v) (hc : vecC v ≠ 0) : Calls Try.prog 3 #[.int .i64 (n : Int), .slice a len cap, .int .i64 who] w fun x w' => x = .returned (.bool true) ∧ Below w.heap.size w w' := by
  have HV : Hid (Vw w a len v ∧ vecC v ≠ 0) := ⟨hv, hc⟩
  clear hv hc
  go_enter Try.func3, Try.ntmps3
  go_wp2_with fail
  refine (newB_ok n h2 h5 w).mono ?_
  rintro e w1 ⟨P, fp, rfl, hA, hb⟩
  have B1 : Hid (Below w.heap.size w w1) := hb
  clear hb hA
  go_wp2_with fail
  refine (check_no a len cap v w1 (HV.out.1.later B1.out) HV.out.2).mono ?_
  rintro e w2 ⟨rfl, hb⟩
  have B2 : Hid (Below w.heap.size w w2) := B1.out.trans (hb.mono B1.out.size)
  clear hb
  go_wp2
  go_ret
  exact ⟨rfl, B2.out⟩
set_option maxRecDepth 100000 in
theorem one_who (n : Nat) (who : Int) (a : Option Addr) (len cap : Nat) (v : List Int) (w : World) (h2 : 2 ≤ n) (h5 : n ≤ 5) (hv : Vw w a len v) (hc : vecC v = 0) (hw : who < 0 ∨ (n : Int) ≤ who) : Calls Try.prog 3 #[.int .i64 (n : Int), .slice a len cap, .int .i64 who] w fun x w' => x = .returned (.bool true) ∧ Below w.heap.size w w' := by
  have HV : Hid (Vw w a len v ∧ vecC v = 0) := ⟨hv, hc⟩
  rcases (show who < 0 ∨ (¬ who < 0 ∧ who ≥ (n : Int)) by omega) with d1 | ⟨d1, d2⟩
  all_goals
    clear hv hc hw
    go_enter Try.func3, Try.ntmps3
    go_wp2_with fail
    refine (newB_ok n h2 h5 w).mono ?_
    rintro e w1 ⟨P, fp, rfl, hA, hb⟩
    have B1 : Hid (Below w.heap.size w w1) := hb
    clear hb hA
    go_wp2_with fail
    refine (check_ok a len cap v w1 (HV.out.1.later B1.out) HV.out.2).mono ?_
    rintro e w2 ⟨rfl, hb⟩
    have B2 : Hid (Below w.heap.size w w2) := B1.out.trans (hb.mono B1.out.size)
    clear hb
    go_wp2
    go_ret
    exact ⟨rfl, B2.out⟩
set_option maxRecDepth 100000 in
set_option maxHeartbeats 2000000 in
theorem one_ok (n who : Nat) (a : Option Addr) (len cap : Nat) (v : List Int) (w : World) (h2 : 2 ≤ n) (h5 : n ≤ 5) (hv : Vw w a len v) (hm : len ≤ maxLen) (hlc : len ≤ cap) (hcm : cap ≤ maxLen) (hc : vecC v = 0) (hw : who < n) : Calls Try.prog 3 #[.int .i64 (n : Int), .slice a len cap, .int .i64 (who : Int)] w fun x w' => x = .returned (.bool true) ∧ Below w.heap.size w w' := by
  have HV : Hid (Vw w a len v ∧ vecC v = 0 ∧ len ≤ maxLen ∧ who < n ∧ 2 ≤ n ∧ n ≤ 5 ∧ Sl w (.slice a len cap) v) := ⟨hv, hc, hm, hw, h2, h5, by
    have e := hv.1
    exact ⟨a, cap, by rw [e], by omega, hcm, by rw [e]; exact hv⟩⟩
  have d1 : ¬ (who : Int) < 0 := by omega
  have d2 : ¬ (who : Int) ≥ (n : Int) := by omega
  have d3 : ¬ n ≤ who := by omega
  have d4 : decide ((who : Int) < 0) = false := decide_eq_false d1
  clear hv hc hw
  go_enter Try.func3, Try.ntmps3
  go_wp2_with fail
  refine (newB_ok n h2 h5 w).mono ?_
  rintro e w1 ⟨P, fp, rfl, hA, hb⟩
  have O1 : Hid (OS w w1 P (start n) fp) := ⟨hA, Inv.start h2 h5, hb⟩
  clear hb hA
  go_wp2_with fail
  refine (check_ok a len cap v w1 (HV.out.1.later O1.out.bel) HV.out.2.1).mono ?_
  rintro e w2 ⟨rfl, hb⟩
  have O2 : Hid (OS w w2 P (so n who v 0) fp) := by
    rw [← so_start]
    exact O1.out.later hb
  clear hb O1
  go_wp2
  go_loopw [9] (fun x wr => ∃ (m : Nat) (fp : List Nat), m ≤ n ∧ x = .int .i64 (m : Int) ∧ Hid (OS w wr P (so n who v m) fp)) (fun x _ => n - (intOf x).toNat)
  case atStart => exact ⟨0, _, by omega, rfl, O2⟩
  case round =>
    obtain ⟨m, f, hmn, rfl, hQ⟩ := hrel
    by_cases hlt : m < n
    · have hlt' : (m : Int) < (n : Int) := by omega
      by_cases he : m = who
      · have he' : ((m : Int) != (who : Int)) = false := by simp; omega
        have Q2 : Hid (OS w wr P (so n who v (m + 1)) f) := by
          have q := hQ.out
          rw [he, so_skip] at q
          rw [he]
          exact q
        go_wp2
        go_roundw
        case rel => exact ⟨m + 1, f, by omega, by go_num, Q2⟩
        case measure => simp [intOf]; omega
      · have he' : ((m : Int) != (who : Int)) = true := by simp; omega
        have HT : Hid _ := so_told (n := n) (who := who) (v := v) hlt he HV.out.2.1
        go_wp2_with fail
        refine (toldB w.heap.size P (so n who v m) f (m : Int) a len cap v wr hQ.out.bs hQ.out.inv hQ.out.bel.size (HV.out.1.later hQ.out.bel) HV.out.2.2.1 (hQ.out.far HV.out.1)).mono ?_
        rintro e w3 ⟨f3, rfl, hA, hb, _, _⟩
        rw [HT.out.1, errF_ok]
        have Q3 : Hid (OS w w3 P (so n who v (m + 1)) f3) := by
          rw [HT.out.2] at hA
          exact ⟨hA, so_inv (m + 1) HV.out.2.2.2.2.1 HV.out.2.2.2.2.2.1 HV.out.2.1, hQ.out.bel.trans hb⟩
        clear hA hb
        go_wp2
        go_roundw
        case rel => exact ⟨m + 1, f3, by omega, by go_num, Q3⟩
        case measure => simp [intOf]; omega
    · have hlt' : ¬ (m : Int) < (n : Int) := by omega
      have hme : m = n := by omega
      subst hme
      have HL := so_least (who := who) HV.out.2.2.2.1 HV.out.2.2.2.2.1 HV.out.2.2.2.2.2.1 HV.out.2.1
      have HLL : Hid (least (so m who v m) = zero5) := HL
      have HT : Hid _ := so_all (who := who) HV.out.2.2.2.1 HV.out.2.2.2.2.1 HV.out.2.2.2.2.2.1 HV.out.2.1
      clear HL
      go_wp2_with fail
      refine (leastB w.heap.size P _ f wr hQ.out.bs hQ.out.inv).mono ?_
      rintro e w4 ⟨a4, c4, rfl, hs4, hn4, hb4⟩
      rw [HLL.out] at hs4
      have S4 : Hid (OS w w4 P (so m who v m) f ∧ Vw w4 a4 5 zero5) := ⟨hQ.out.later hb4, (Sl.vw hs4).2⟩
      clear hs4 hn4 hb4
      go_wp2
      go_loopw [11] (fun x wr => ∃ i : Nat, i ≤ 5 ∧ x = .int .i64 (i : Int) ∧ wr = w4) (fun x _ => 5 - (intOf x).toNat)
      case atStart => exact ⟨0, by omega, rfl, rfl⟩
      case round =>
        obtain ⟨i, hi5, rfl, rfl⟩ := hrel
        by_cases hi : i < 5
        · have hi' : (i : Int) < 5 := by omega
          have hi0 : (0 : Int) ≤ (i : Int) := by omega
          obtain ⟨b4, o4, rfl, hlt4, hc4⟩ := S4.out.2.2 (by omega)
          have c0 : wr.cell? ⟨b4, o4 + i, none⟩ = some (.int .i64 0) := by
            rw [hc4 i hi, zero5_get]
          clear hc4
          go_wp2
          go_roundw
          case rel => exact ⟨i + 1, by omega, by go_num, trivial⟩
          case measure => simp [intOf]; omega
        · have hi' : ¬ (i : Int) < 5 := by omega
          go_wp2_with fail
          refine (toldB w.heap.size P _ f (who : Int) a len cap v wr S4.out.1.bs S4.out.1.inv S4.out.1.bel.size (HV.out.1.later S4.out.1.bel) HV.out.2.2.1 (S4.out.1.far HV.out.1)).mono ?_
          rintro e w5 ⟨f5, rfl, hA, hb, _, _⟩
          rw [HT.out.1, errF_ok]
          have Q5 : Hid (OS w w5 P (told (so m who v m) (who : Int) v) f5) := ⟨hA, S4.out.1.inv.told _ _, S4.out.1.bel.trans hb⟩
          clear hA hb
          go_wp2_with fail
          refine (leastB w.heap.size P _ f5 w5 Q5.out.bs Q5.out.inv).mono ?_
          rintro e w6 ⟨a6, c6, rfl, hs6, hn6, hb6⟩
          rw [HT.out.2] at hs6
          have S6 : Hid (Below w.heap.size w w6 ∧ Sl w6 (.slice a6 5 c6) v) := ⟨Q5.out.bel.trans (hb6.mono Q5.out.bel.size), hs6⟩
          clear hs6 hn6 hb6
          go_wp2_with fail
          refine (same_any S6.out.2 (HV.out.2.2.2.2.2.2.later S6.out.1)).mono ?_
          rintro e w7 ⟨rfl, hb7⟩
          rw [decide_eq_true (show v = v from rfl)]
          have B7 : Hid (Below w.heap.size w w7) := S6.out.1.trans (hb7.mono S6.out.1.size)
          clear hb7
          go_wp2
          go_ret
          exact ⟨rfl, B7.out⟩
theorem row_cap {w : World} {a : Option Addr} {len cap : Nat} {zs : List Int} (h : Vec.IsRow .i64 w a len cap zs) : len ≤ cap ∧ cap ≤ maxLen := by
  rcases h with ⟨_, h1, h2, _⟩ | ⟨_, _, h1, h2, _⟩
  · subst h1 h2
    exact ⟨Nat.le_refl _, Nat.zero_le _⟩
  · exact ⟨h1, h2⟩
theorem one_any (n who : Int) (a : Option Addr) (len cap : Nat) (v : List Int) (w : World) (hv : Vw w a len v) (hm : len ≤ maxLen) (hlc : len ≤ cap) (hcm : cap ≤ maxLen) : Calls Try.prog 3 #[.int .i64 n, .slice a len cap, .int .i64 who] w fun x w' => x = .returned (.bool true) ∧ Below w.heap.size w w' := by
  by_cases hn : n < 2 ∨ 5 < n
  · exact one_bad n who a len cap w hn
  · obtain ⟨k, rfl⟩ : ∃ k : Nat, n = (k : Int) := ⟨n.toNat, by omega⟩
    by_cases hc : vecC v = 0
    · by_cases hw : who < 0 ∨ (k : Int) ≤ who
      · exact one_who k who a len cap v w (by omega) (by omega) hv hc hw
      · obtain ⟨x, rfl⟩ : ∃ x : Nat, who = (x : Int) := ⟨who.toNat, by omega⟩
        exact one_ok k x a len cap v w (by omega) (by omega) hv hm hlc hcm hc (by omega)
    · exact one_vec k who a len cap v w (by omega) (by omega) hv hc
end Go.Proofs.Ytcmiihdbkdcfgah.Stb
