/-
  The walk of HistoryTells: package history tells of any history what the document tells.
-/
import Derived.Test.YtcmfhlegpgmakaaDoorHtM
namespace Go.Proofs.YtcmfhlegpgmakaaDoor.His
open Go.RowKit
open Go.Proofs.YtcmfhlegpgmakaaDoor.Vec
open Go.Proofs.YtcmfhlegpgmakaaDoor.As (Laid)

set_option maxRecDepth 100000 in
set_option maxHeartbeats 8000000 in
theorem ht_bad (a : Option Addr) (len cap : Nat) (h : List Ev) (i k : Int) (p : Option Addr) (n pcap : Nat) (many : List Int) (w : World) (hlc : len ≤ cap) (hm : cap ≤ maxLen) (hv : Ew w a len h) (hx : Vw w p n many) (hL : Laid w) (hc : chkC h ≠ 0) :
    Calls Tryd.prog 4 #[.slice a len cap, .int .i64 i, .int .i64 k, .slice p n pcap] w fun e w' => e = .returned (.bool true) ∧ Below w.heap.size w w' := by
  have H : Hid (len ≤ cap ∧ cap ≤ maxLen ∧ Ew w a len h ∧ Laid w ∧ h.length = len ∧ Vw w p n many) := ⟨hlc, hm, hv, hL, hv.1, hx⟩
  have hlen : len ≤ maxLen := Nat.le_trans hlc hm
  unfold maxLen at hlen
  have lh : h.length = len := hv.1
  have LH : Hid (h.length = len) := lh
  have WB : Hid _ := way_bad (i := i) (k := k) (many := many) hc
  have hl0 : 0 < len := by have := WB.out.2.2.2.2.2.2; omega
  have hl0' : (0 : Int) < (len : Int) := by omega
  obtain ⟨c, ec⟩ : ∃ c, c = chkC h := ⟨_, rfl⟩
  have EC : Hid (chkC h = c) := ec.symm
  have hc0 : (c == 0) = false := by rw [ec]; simp [hc]
  clear ec hc
  clear hv hlc hm hL hx lh
  go_enter Tryd.func4, Tryd.ntmps4
  go_wp2_with fail
  refine (refHistory a len cap h _ (H.out.2.2.1.later (Below.refl _ _))).mono ?_
  rintro e w1 ⟨rfl, hb⟩
  rw [EC.out]
  have V1 : Hid (Below w.heap.size w w1) := hb
  clear hb
  go_wp2_with fail
  refine (check_any a len cap h _ H.out.1 H.out.2.1 (H.out.2.2.1.later V1.out)).mono ?_
  rintro e w2 ⟨rfl, hb⟩
  rw [EC.out]
  have V2 : Hid (Below w.heap.size w w2) := below_up rfl V1.out hb
  clear hb V1
  go_wp2_with fail
  refine (error_same c _ (H.out.2.2.2.1.later V2.out)).mono ?_
  rintro e w3 ⟨rfl, hb⟩
  have V3 : Hid (Below w.heap.size w w3) := below_up rfl V2.out hb
  clear hb V2
  go_wp2_with fail
  refine (before_any a len cap h i k _ H.out.1 H.out.2.1 (H.out.2.2.1.later V3.out)).mono ?_
  rintro e w4 ⟨rfl, hb⟩
  rw [WB.out.1, WB.out.2.1, EC.out]
  have V4 : Hid (Below w.heap.size w w4) := below_up rfl V3.out hb
  clear hb V3
  go_wp2_with fail
  refine (error_same c _ (H.out.2.2.2.1.later V4.out)).mono ?_
  rintro e w5 ⟨rfl, hb⟩
  have V5 : Hid (Below w.heap.size w w5) := below_up rfl V4.out hb
  clear hb V4
  go_wp2
  refine wp_loop_rounds 1 ?_
  rw [rounds_succ]
  go_wp2_with fail
  refine (past_any a len cap h i _ H.out.1 H.out.2.1 (H.out.2.2.1.later V5.out)).mono ?_
  rintro e w6 ⟨⟨pp, pn, ppc, rfl, hpv, hpn⟩, hb⟩
  rw [WB.out.2.2.1, EC.out]
  have V6 : Hid (Below w.heap.size w w6) := below_up rfl V5.out hb
  have PV : Hid (Vw w6 pp pn (pasL h i) ∧ pn ≤ maxLen) := ⟨hpv, hpn⟩
  clear hpv hpn
  clear hb V5
  go_wp2_with fail
  refine (error_same c _ (H.out.2.2.2.1.later V6.out)).mono ?_
  rintro e w7 ⟨rfl, hb⟩
  have V7 : Hid (Below w.heap.size w w7) := below_up rfl V6.out hb
  have PV2 : Hid (Vw w7 pp pn []) := by have q := PV.out.1.later hb; rw [WB.out.2.2.2.1] at q; exact q
  clear hb V6
  go_wp2_with fail
  refine (ints_any pp none pn ppc 0 0 [] [] _ PV2.out ⟨rfl, fun q => absurd q (by omega)⟩ PV.out.2).mono ?_
  rintro e w8 ⟨rfl, nd, ew⟩
  rw [decide_eq_true rfl]
  have V8 : Hid (Below w.heap.size w w8) := by rw [ew]; exact below_drewN V7.out _
  clear ew V7
  go_wp2_with fail
  refine (cut_any a len cap h p n pcap many _ H.out.1 H.out.2.1 (H.out.2.2.1.later V8.out) (H.out.2.2.2.2.2.later V8.out)).mono ?_
  rintro e w9 ⟨rfl, hb⟩
  rw [WB.out.2.2.2.2.1, WB.out.2.2.2.2.2.1, EC.out]
  have V9 : Hid (Below w.heap.size w w9) := below_up rfl V8.out hb
  clear hb V8
  go_wp2_with fail
  refine (error_same c _ (H.out.2.2.2.1.later V9.out)).mono ?_
  rintro e w10 ⟨rfl, hb⟩
  have V10 : Hid (Below w.heap.size w w10) := below_up rfl V9.out hb
  clear hb V9
  go_wp2
  go_ret
  exact ⟨rfl, V10.out⟩

set_option maxRecDepth 100000 in
set_option maxHeartbeats 8000000 in
theorem ht_ilo (a : Option Addr) (len cap : Nat) (h : List Ev) (i k : Int) (p : Option Addr) (n pcap : Nat) (many : List Int) (w : World) (hlc : len ≤ cap) (hm : cap ≤ maxLen) (hv : Ew w a len h) (hx : Vw w p n many) (hL : Laid w) (hc : chkC h = 0) (hi : i < 0) (hl0 : 0 < len) :
    Calls Tryd.prog 4 #[.slice a len cap, .int .i64 i, .int .i64 k, .slice p n pcap] w fun e w' => e = .returned (.bool true) ∧ Below w.heap.size w w' := by
  have H : Hid (len ≤ cap ∧ cap ≤ maxLen ∧ Ew w a len h ∧ Laid w ∧ h.length = len ∧ Vw w p n many) := ⟨hlc, hm, hv, hL, hv.1, hx⟩
  have hlen : len ≤ maxLen := Nat.le_trans hlc hm
  unfold maxLen at hlen
  have lh : h.length = len := hv.1
  have LH : Hid (h.length = len) := lh
  have WI : Hid _ := way_i (i := i) (k := k) hc (by rw [lh]; omega)
  obtain ⟨Z, hZ⟩ : ∃ Z, Z = Array.replicate 3600 (Value.bool false) := ⟨_, rfl⟩
  have hz := (zero_of_info sqInfo).1
  rw [← hZ] at hz
  have ZS : Hid (Z.size = 3600) := by rw [hZ]; exact Array.size_replicate
  have GD : Hid (Good h len ∧ len ≤ 60) := by
    obtain ⟨h60, hg⟩ := chk_zero hc
    rw [lh] at h60 hg
    exact ⟨hg, h60⟩
  have h60 : len ≤ 60 := GD.out.2
  have WC : Hid _ := way_cut (many := many) hc
  have HC : Hid (chkC h = 0) := hc
  clear hZ hc
  have hl0' : (0 : Int) < (len : Int) := by omega
  clear hv hlc hm hL hx lh
  go_enter Tryd.func4, Tryd.ntmps4
  go_wp2_with fail
  refine (refHistory a len cap h _ (H.out.2.2.1.later (Below.refl _ _))).mono ?_
  rintro e w1 ⟨rfl, hb⟩
  rw [HC.out]
  have V1 : Hid (Below w.heap.size w w1) := hb
  clear hb
  go_wp2_with fail
  refine (check_any a len cap h _ H.out.1 H.out.2.1 (H.out.2.2.1.later V1.out)).mono ?_
  rintro e w2 ⟨rfl, hb⟩
  rw [HC.out]
  have V2 : Hid (Below w.heap.size w w2) := below_up rfl V1.out hb
  clear hb V1
  go_wp2_with fail
  refine (error_same 0 _ (H.out.2.2.2.1.later V2.out)).mono ?_
  rintro e w3 ⟨rfl, hb⟩
  have V3 : Hid (Below w.heap.size w w3) := below_up rfl V2.out hb
  clear hb V2
  go_wp2_with fail
  refine (before_any a len cap h i k _ H.out.1 H.out.2.1 (H.out.2.2.1.later V3.out)).mono ?_
  rintro e w4 ⟨rfl, hb⟩
  rw [WI.out.1, WI.out.2.1]
  have V4 : Hid (Below w.heap.size w w4) := below_up rfl V3.out hb
  clear hb V3
  go_wp2_with fail
  refine (error_same 1 _ (H.out.2.2.2.1.later V4.out)).mono ?_
  rintro e w5 ⟨rfl, hb⟩
  have V5 : Hid (Below w.heap.size w w5) := below_up rfl V4.out hb
  clear hb V4
  go_wp2
  refine wp_loop_rounds 1 ?_
  rw [rounds_succ]
  go_wp2_with fail
  refine (past_any a len cap h i _ H.out.1 H.out.2.1 (H.out.2.2.1.later V5.out)).mono ?_
  rintro e w6 ⟨⟨pp, pn, ppc, rfl, hpv, hpn⟩, hb⟩
  rw [WI.out.2.2.1]
  have V6 : Hid (Below w.heap.size w w6) := below_up rfl V5.out hb
  have PV : Hid (Vw w6 pp pn (pasL h i) ∧ pn ≤ maxLen) := ⟨hpv, hpn⟩
  clear hpv hpn
  clear hb V5
  go_wp2_with fail
  refine (error_same 1 _ (H.out.2.2.2.1.later V6.out)).mono ?_
  rintro e w7 ⟨rfl, hb⟩
  have V7 : Hid (Below w.heap.size w w7) := below_up rfl V6.out hb
  have PV2 : Hid (Vw w7 pp pn []) := by have q := PV.out.1.later hb; rw [WI.out.2.2.2] at q; exact q
  clear hb V6
  go_wp2_with fail
  refine (ints_any pp none pn ppc 0 0 [] [] _ PV2.out ⟨rfl, fun q => absurd q (by omega)⟩ PV.out.2).mono ?_
  rintro e w8 ⟨rfl, nd, ew⟩
  rw [decide_eq_true rfl]
  have V8 : Hid (Below w.heap.size w w8) := by rw [ew]; exact below_drewN V7.out _
  clear ew V7
  go_wp2_with fail
  refine (refCut a len cap h p n pcap many _ GD.out.2 (H.out.2.2.1.later V8.out) GD.out.1 (H.out.2.2.2.2.2.later V8.out)).mono ?_
  rintro e w9 ⟨rfl, hb⟩
  have V9 : Hid (Below w.heap.size w w9) := below_up rfl V8.out hb
  clear hb V8
  go_wp2_with fail
  refine (cut_any a len cap h p n pcap many _ H.out.1 H.out.2.1 (H.out.2.2.1.later V9.out) (H.out.2.2.2.2.2.later V9.out)).mono ?_
  rintro e w10 ⟨rfl, hb⟩
  rw [WC.out.1, WC.out.2]
  have V10 : Hid (Below w.heap.size w w10) := below_up rfl V9.out hb
  clear hb V9
  go_wp2_with fail
  refine (error_same (manyC h many) _ (H.out.2.2.2.1.later V10.out)).mono ?_
  rintro e w11 ⟨rfl, hb⟩
  have V11 : Hid (Below w.heap.size w w11) := below_up rfl V10.out hb
  clear hb V10
  go_wp2
  go_ret
  exact ⟨rfl, V11.out⟩

set_option maxRecDepth 100000 in
set_option maxHeartbeats 8000000 in
theorem ht_ihi (a : Option Addr) (len cap : Nat) (h : List Ev) (i k : Int) (p : Option Addr) (n pcap : Nat) (many : List Int) (w : World) (hlc : len ≤ cap) (hm : cap ≤ maxLen) (hv : Ew w a len h) (hx : Vw w p n many) (hL : Laid w) (hc : chkC h = 0) (hi0 : 0 ≤ i) (hi : (len : Int) ≤ i) (hl0 : 0 < len) :
    Calls Tryd.prog 4 #[.slice a len cap, .int .i64 i, .int .i64 k, .slice p n pcap] w fun e w' => e = .returned (.bool true) ∧ Below w.heap.size w w' := by
  have H : Hid (len ≤ cap ∧ cap ≤ maxLen ∧ Ew w a len h ∧ Laid w ∧ h.length = len ∧ Vw w p n many) := ⟨hlc, hm, hv, hL, hv.1, hx⟩
  have hlen : len ≤ maxLen := Nat.le_trans hlc hm
  unfold maxLen at hlen
  have lh : h.length = len := hv.1
  have LH : Hid (h.length = len) := lh
  have WI : Hid _ := way_i (i := i) (k := k) hc (by rw [lh]; omega)
  obtain ⟨Z, hZ⟩ : ∃ Z, Z = Array.replicate 3600 (Value.bool false) := ⟨_, rfl⟩
  have hz := (zero_of_info sqInfo).1
  rw [← hZ] at hz
  have ZS : Hid (Z.size = 3600) := by rw [hZ]; exact Array.size_replicate
  have GD : Hid (Good h len ∧ len ≤ 60) := by
    obtain ⟨h60, hg⟩ := chk_zero hc
    rw [lh] at h60 hg
    exact ⟨hg, h60⟩
  have h60 : len ≤ 60 := GD.out.2
  have WC : Hid _ := way_cut (many := many) hc
  have HC : Hid (chkC h = 0) := hc
  clear hZ hc
  have hl0' : (0 : Int) < (len : Int) := by omega
  clear hv hlc hm hL hx lh
  go_enter Tryd.func4, Tryd.ntmps4
  go_wp2_with fail
  refine (refHistory a len cap h _ (H.out.2.2.1.later (Below.refl _ _))).mono ?_
  rintro e w1 ⟨rfl, hb⟩
  rw [HC.out]
  have V1 : Hid (Below w.heap.size w w1) := hb
  clear hb
  go_wp2_with fail
  refine (check_any a len cap h _ H.out.1 H.out.2.1 (H.out.2.2.1.later V1.out)).mono ?_
  rintro e w2 ⟨rfl, hb⟩
  rw [HC.out]
  have V2 : Hid (Below w.heap.size w w2) := below_up rfl V1.out hb
  clear hb V1
  go_wp2_with fail
  refine (error_same 0 _ (H.out.2.2.2.1.later V2.out)).mono ?_
  rintro e w3 ⟨rfl, hb⟩
  have V3 : Hid (Below w.heap.size w w3) := below_up rfl V2.out hb
  clear hb V2
  go_wp2_with fail
  refine (before_any a len cap h i k _ H.out.1 H.out.2.1 (H.out.2.2.1.later V3.out)).mono ?_
  rintro e w4 ⟨rfl, hb⟩
  rw [WI.out.1, WI.out.2.1]
  have V4 : Hid (Below w.heap.size w w4) := below_up rfl V3.out hb
  clear hb V3
  go_wp2_with fail
  refine (error_same 1 _ (H.out.2.2.2.1.later V4.out)).mono ?_
  rintro e w5 ⟨rfl, hb⟩
  have V5 : Hid (Below w.heap.size w w5) := below_up rfl V4.out hb
  clear hb V4
  go_wp2
  refine wp_loop_rounds 1 ?_
  rw [rounds_succ]
  go_wp2_with fail
  refine (past_any a len cap h i _ H.out.1 H.out.2.1 (H.out.2.2.1.later V5.out)).mono ?_
  rintro e w6 ⟨⟨pp, pn, ppc, rfl, hpv, hpn⟩, hb⟩
  rw [WI.out.2.2.1]
  have V6 : Hid (Below w.heap.size w w6) := below_up rfl V5.out hb
  have PV : Hid (Vw w6 pp pn (pasL h i) ∧ pn ≤ maxLen) := ⟨hpv, hpn⟩
  clear hpv hpn
  clear hb V5
  go_wp2_with fail
  refine (error_same 1 _ (H.out.2.2.2.1.later V6.out)).mono ?_
  rintro e w7 ⟨rfl, hb⟩
  have V7 : Hid (Below w.heap.size w w7) := below_up rfl V6.out hb
  have PV2 : Hid (Vw w7 pp pn []) := by have q := PV.out.1.later hb; rw [WI.out.2.2.2] at q; exact q
  clear hb V6
  go_wp2_with fail
  refine (ints_any pp none pn ppc 0 0 [] [] _ PV2.out ⟨rfl, fun q => absurd q (by omega)⟩ PV.out.2).mono ?_
  rintro e w8 ⟨rfl, nd, ew⟩
  rw [decide_eq_true rfl]
  have V8 : Hid (Below w.heap.size w w8) := by rw [ew]; exact below_drewN V7.out _
  clear ew V7
  go_wp2_with fail
  refine (refCut a len cap h p n pcap many _ GD.out.2 (H.out.2.2.1.later V8.out) GD.out.1 (H.out.2.2.2.2.2.later V8.out)).mono ?_
  rintro e w9 ⟨rfl, hb⟩
  have V9 : Hid (Below w.heap.size w w9) := below_up rfl V8.out hb
  clear hb V8
  go_wp2_with fail
  refine (cut_any a len cap h p n pcap many _ H.out.1 H.out.2.1 (H.out.2.2.1.later V9.out) (H.out.2.2.2.2.2.later V9.out)).mono ?_
  rintro e w10 ⟨rfl, hb⟩
  rw [WC.out.1, WC.out.2]
  have V10 : Hid (Below w.heap.size w w10) := below_up rfl V9.out hb
  clear hb V9
  go_wp2_with fail
  refine (error_same (manyC h many) _ (H.out.2.2.2.1.later V10.out)).mono ?_
  rintro e w11 ⟨rfl, hb⟩
  have V11 : Hid (Below w.heap.size w w11) := below_up rfl V10.out hb
  clear hb V10
  go_wp2
  go_ret
  exact ⟨rfl, V11.out⟩

set_option maxRecDepth 100000 in
set_option maxHeartbeats 8000000 in
theorem ht_ilo0 (a : Option Addr) (len cap : Nat) (h : List Ev) (i k : Int) (p : Option Addr) (n pcap : Nat) (many : List Int) (w : World) (hlc : len ≤ cap) (hm : cap ≤ maxLen) (hv : Ew w a len h) (hx : Vw w p n many) (hL : Laid w) (hc : chkC h = 0) (hi : i < 0) (hl0 : len = 0) :
    Calls Tryd.prog 4 #[.slice a len cap, .int .i64 i, .int .i64 k, .slice p n pcap] w fun e w' => e = .returned (.bool true) ∧ Below w.heap.size w w' := by
  have H : Hid (len ≤ cap ∧ cap ≤ maxLen ∧ Ew w a len h ∧ Laid w ∧ h.length = len ∧ Vw w p n many) := ⟨hlc, hm, hv, hL, hv.1, hx⟩
  have hlen : len ≤ maxLen := Nat.le_trans hlc hm
  unfold maxLen at hlen
  have lh : h.length = len := hv.1
  have LH : Hid (h.length = len) := lh
  have WI : Hid _ := way_i (i := i) (k := k) hc (by rw [lh]; omega)
  obtain ⟨Z, hZ⟩ : ∃ Z, Z = Array.replicate 3600 (Value.bool false) := ⟨_, rfl⟩
  have hz := (zero_of_info sqInfo).1
  rw [← hZ] at hz
  have ZS : Hid (Z.size = 3600) := by rw [hZ]; exact Array.size_replicate
  have GD : Hid (Good h len ∧ len ≤ 60) := by
    obtain ⟨h60, hg⟩ := chk_zero hc
    rw [lh] at h60 hg
    exact ⟨hg, h60⟩
  have h60 : len ≤ 60 := GD.out.2
  have WC : Hid _ := way_cut (many := many) hc
  have HC : Hid (chkC h = 0) := hc
  clear hZ hc
  subst hl0
  clear hv hlc hm hL hx lh
  go_enter Tryd.func4, Tryd.ntmps4
  go_wp2_with fail
  refine (refHistory a 0 cap h _ (H.out.2.2.1.later (Below.refl _ _))).mono ?_
  rintro e w1 ⟨rfl, hb⟩
  rw [HC.out]
  have V1 : Hid (Below w.heap.size w w1) := hb
  clear hb
  go_wp2_with fail
  refine (check_any a 0 cap h _ H.out.1 H.out.2.1 (H.out.2.2.1.later V1.out)).mono ?_
  rintro e w2 ⟨rfl, hb⟩
  rw [HC.out]
  have V2 : Hid (Below w.heap.size w w2) := below_up rfl V1.out hb
  clear hb V1
  go_wp2_with fail
  refine (error_same 0 _ (H.out.2.2.2.1.later V2.out)).mono ?_
  rintro e w3 ⟨rfl, hb⟩
  have V3 : Hid (Below w.heap.size w w3) := below_up rfl V2.out hb
  clear hb V2
  go_wp2_with fail
  refine (before_any a 0 cap h i k _ H.out.1 H.out.2.1 (H.out.2.2.1.later V3.out)).mono ?_
  rintro e w4 ⟨rfl, hb⟩
  rw [WI.out.1, WI.out.2.1]
  have V4 : Hid (Below w.heap.size w w4) := below_up rfl V3.out hb
  clear hb V3
  go_wp2_with fail
  refine (error_same 1 _ (H.out.2.2.2.1.later V4.out)).mono ?_
  rintro e w5 ⟨rfl, hb⟩
  have V5 : Hid (Below w.heap.size w w5) := below_up rfl V4.out hb
  clear hb V4
  go_wp2
  refine wp_loop_rounds 1 ?_
  rw [rounds_succ]
  go_wp2_with fail
  refine (past_any a 0 cap h i _ H.out.1 H.out.2.1 (H.out.2.2.1.later V5.out)).mono ?_
  rintro e w6 ⟨⟨pp, pn, ppc, rfl, hpv, hpn⟩, hb⟩
  rw [WI.out.2.2.1]
  have V6 : Hid (Below w.heap.size w w6) := below_up rfl V5.out hb
  have PV : Hid (Vw w6 pp pn (pasL h i) ∧ pn ≤ maxLen) := ⟨hpv, hpn⟩
  clear hpv hpn
  clear hb V5
  go_wp2_with fail
  refine (error_same 1 _ (H.out.2.2.2.1.later V6.out)).mono ?_
  rintro e w7 ⟨rfl, hb⟩
  have V7 : Hid (Below w.heap.size w w7) := below_up rfl V6.out hb
  have PV2 : Hid (Vw w7 pp pn []) := by have q := PV.out.1.later hb; rw [WI.out.2.2.2] at q; exact q
  clear hb V6
  go_wp2_with fail
  refine (ints_any pp none pn ppc 0 0 [] [] _ PV2.out ⟨rfl, fun q => absurd q (by omega)⟩ PV.out.2).mono ?_
  rintro e w8 ⟨rfl, nd, ew⟩
  rw [decide_eq_true rfl]
  have V8 : Hid (Below w.heap.size w w8) := by rw [ew]; exact below_drewN V7.out _
  clear ew V7
  go_wp2_with fail
  refine (refCut a 0 cap h p n pcap many _ GD.out.2 (H.out.2.2.1.later V8.out) GD.out.1 (H.out.2.2.2.2.2.later V8.out)).mono ?_
  rintro e w9 ⟨rfl, hb⟩
  have V9 : Hid (Below w.heap.size w w9) := below_up rfl V8.out hb
  clear hb V8
  go_wp2_with fail
  refine (cut_any a 0 cap h p n pcap many _ H.out.1 H.out.2.1 (H.out.2.2.1.later V9.out) (H.out.2.2.2.2.2.later V9.out)).mono ?_
  rintro e w10 ⟨rfl, hb⟩
  rw [WC.out.1, WC.out.2]
  have V10 : Hid (Below w.heap.size w w10) := below_up rfl V9.out hb
  clear hb V9
  go_wp2_with fail
  refine (error_same (manyC h many) _ (H.out.2.2.2.1.later V10.out)).mono ?_
  rintro e w11 ⟨rfl, hb⟩
  have V11 : Hid (Below w.heap.size w w11) := below_up rfl V10.out hb
  clear hb V10
  go_wp2
  go_ret
  exact ⟨rfl, V11.out⟩

set_option maxRecDepth 100000 in
set_option maxHeartbeats 8000000 in
theorem ht_ihi0 (a : Option Addr) (len cap : Nat) (h : List Ev) (i k : Int) (p : Option Addr) (n pcap : Nat) (many : List Int) (w : World) (hlc : len ≤ cap) (hm : cap ≤ maxLen) (hv : Ew w a len h) (hx : Vw w p n many) (hL : Laid w) (hc : chkC h = 0) (hi0 : 0 ≤ i) (hi : (len : Int) ≤ i) (hl0 : len = 0) :
    Calls Tryd.prog 4 #[.slice a len cap, .int .i64 i, .int .i64 k, .slice p n pcap] w fun e w' => e = .returned (.bool true) ∧ Below w.heap.size w w' := by
  have H : Hid (len ≤ cap ∧ cap ≤ maxLen ∧ Ew w a len h ∧ Laid w ∧ h.length = len ∧ Vw w p n many) := ⟨hlc, hm, hv, hL, hv.1, hx⟩
  have hlen : len ≤ maxLen := Nat.le_trans hlc hm
  unfold maxLen at hlen
  have lh : h.length = len := hv.1
  have LH : Hid (h.length = len) := lh
  have WI : Hid _ := way_i (i := i) (k := k) hc (by rw [lh]; omega)
  obtain ⟨Z, hZ⟩ : ∃ Z, Z = Array.replicate 3600 (Value.bool false) := ⟨_, rfl⟩
  have hz := (zero_of_info sqInfo).1
  rw [← hZ] at hz
  have ZS : Hid (Z.size = 3600) := by rw [hZ]; exact Array.size_replicate
  have GD : Hid (Good h len ∧ len ≤ 60) := by
    obtain ⟨h60, hg⟩ := chk_zero hc
    rw [lh] at h60 hg
    exact ⟨hg, h60⟩
  have h60 : len ≤ 60 := GD.out.2
  have WC : Hid _ := way_cut (many := many) hc
  have HC : Hid (chkC h = 0) := hc
  clear hZ hc
  subst hl0
  clear hv hlc hm hL hx lh
  go_enter Tryd.func4, Tryd.ntmps4
  go_wp2_with fail
  refine (refHistory a 0 cap h _ (H.out.2.2.1.later (Below.refl _ _))).mono ?_
  rintro e w1 ⟨rfl, hb⟩
  rw [HC.out]
  have V1 : Hid (Below w.heap.size w w1) := hb
  clear hb
  go_wp2_with fail
  refine (check_any a 0 cap h _ H.out.1 H.out.2.1 (H.out.2.2.1.later V1.out)).mono ?_
  rintro e w2 ⟨rfl, hb⟩
  rw [HC.out]
  have V2 : Hid (Below w.heap.size w w2) := below_up rfl V1.out hb
  clear hb V1
  go_wp2_with fail
  refine (error_same 0 _ (H.out.2.2.2.1.later V2.out)).mono ?_
  rintro e w3 ⟨rfl, hb⟩
  have V3 : Hid (Below w.heap.size w w3) := below_up rfl V2.out hb
  clear hb V2
  go_wp2_with fail
  refine (before_any a 0 cap h i k _ H.out.1 H.out.2.1 (H.out.2.2.1.later V3.out)).mono ?_
  rintro e w4 ⟨rfl, hb⟩
  rw [WI.out.1, WI.out.2.1]
  have V4 : Hid (Below w.heap.size w w4) := below_up rfl V3.out hb
  clear hb V3
  go_wp2_with fail
  refine (error_same 1 _ (H.out.2.2.2.1.later V4.out)).mono ?_
  rintro e w5 ⟨rfl, hb⟩
  have V5 : Hid (Below w.heap.size w w5) := below_up rfl V4.out hb
  clear hb V4
  go_wp2
  refine wp_loop_rounds 1 ?_
  rw [rounds_succ]
  go_wp2_with fail
  refine (past_any a 0 cap h i _ H.out.1 H.out.2.1 (H.out.2.2.1.later V5.out)).mono ?_
  rintro e w6 ⟨⟨pp, pn, ppc, rfl, hpv, hpn⟩, hb⟩
  rw [WI.out.2.2.1]
  have V6 : Hid (Below w.heap.size w w6) := below_up rfl V5.out hb
  have PV : Hid (Vw w6 pp pn (pasL h i) ∧ pn ≤ maxLen) := ⟨hpv, hpn⟩
  clear hpv hpn
  clear hb V5
  go_wp2_with fail
  refine (error_same 1 _ (H.out.2.2.2.1.later V6.out)).mono ?_
  rintro e w7 ⟨rfl, hb⟩
  have V7 : Hid (Below w.heap.size w w7) := below_up rfl V6.out hb
  have PV2 : Hid (Vw w7 pp pn []) := by have q := PV.out.1.later hb; rw [WI.out.2.2.2] at q; exact q
  clear hb V6
  go_wp2_with fail
  refine (ints_any pp none pn ppc 0 0 [] [] _ PV2.out ⟨rfl, fun q => absurd q (by omega)⟩ PV.out.2).mono ?_
  rintro e w8 ⟨rfl, nd, ew⟩
  rw [decide_eq_true rfl]
  have V8 : Hid (Below w.heap.size w w8) := by rw [ew]; exact below_drewN V7.out _
  clear ew V7
  go_wp2_with fail
  refine (refCut a 0 cap h p n pcap many _ GD.out.2 (H.out.2.2.1.later V8.out) GD.out.1 (H.out.2.2.2.2.2.later V8.out)).mono ?_
  rintro e w9 ⟨rfl, hb⟩
  have V9 : Hid (Below w.heap.size w w9) := below_up rfl V8.out hb
  clear hb V8
  go_wp2_with fail
  refine (cut_any a 0 cap h p n pcap many _ H.out.1 H.out.2.1 (H.out.2.2.1.later V9.out) (H.out.2.2.2.2.2.later V9.out)).mono ?_
  rintro e w10 ⟨rfl, hb⟩
  rw [WC.out.1, WC.out.2]
  have V10 : Hid (Below w.heap.size w w10) := below_up rfl V9.out hb
  clear hb V9
  go_wp2_with fail
  refine (error_same (manyC h many) _ (H.out.2.2.2.1.later V10.out)).mono ?_
  rintro e w11 ⟨rfl, hb⟩
  have V11 : Hid (Below w.heap.size w w11) := below_up rfl V10.out hb
  clear hb V10
  go_wp2
  go_ret
  exact ⟨rfl, V11.out⟩

set_option maxRecDepth 100000 in
set_option maxHeartbeats 8000000 in
theorem ht_klo (a : Option Addr) (len cap : Nat) (h : List Ev) (x : Nat) (k : Int) (p : Option Addr) (n pcap : Nat) (many : List Int) (w : World) (hlc : len ≤ cap) (hm : cap ≤ maxLen) (hv : Ew w a len h) (hx : Vw w p n many) (hL : Laid w) (hc : chkC h = 0) (hxl : x < len) (hk : k < 0) :
    Calls Tryd.prog 4 #[.slice a len cap, .int .i64 (x : Int), .int .i64 k, .slice p n pcap] w fun e w' => e = .returned (.bool true) ∧ Below w.heap.size w w' := by
  have H : Hid (len ≤ cap ∧ cap ≤ maxLen ∧ Ew w a len h ∧ Laid w ∧ h.length = len ∧ Vw w p n many) := ⟨hlc, hm, hv, hL, hv.1, hx⟩
  have hlen : len ≤ maxLen := Nat.le_trans hlc hm
  unfold maxLen at hlen
  have lh : h.length = len := hv.1
  have LH : Hid (h.length = len) := lh
  have WK : Hid _ := way_k (i := (x : Int)) (k := k) hc (by rw [lh]; omega)
  have hx0 : (0 : Int) ≤ (x : Int) := by omega
  have hxl' : (x : Int) < (len : Int) := by omega
  have hd1 : decide ((x : Int) < 0) = false := decide_eq_false (by omega)
  have hd2 : decide (len ≤ x) = false := decide_eq_false (by omega)
  obtain ⟨Z, hZ⟩ : ∃ Z, Z = Array.replicate 3600 (Value.bool false) := ⟨_, rfl⟩
  have hz := (zero_of_info sqInfo).1
  rw [← hZ] at hz
  have ZS : Hid (Z.size = 3600) := by rw [hZ]; exact Array.size_replicate
  have GD : Hid (Good h len ∧ len ≤ 60) := by
    obtain ⟨h60, hg⟩ := chk_zero hc
    rw [lh] at h60 hg
    exact ⟨hg, h60⟩
  have h60 : len ≤ 60 := GD.out.2
  have WC : Hid _ := way_cut (many := many) hc
  have HC : Hid (chkC h = 0) := hc
  clear hZ hc
  clear hv hlc hm hL hx lh
  go_enter Tryd.func4, Tryd.ntmps4
  go_wp2_with fail
  refine (refHistory a len cap h _ (H.out.2.2.1.later (Below.refl _ _))).mono ?_
  rintro e w1 ⟨rfl, hb⟩
  rw [HC.out]
  have V1 : Hid (Below w.heap.size w w1) := hb
  clear hb
  go_wp2_with fail
  refine (check_any a len cap h _ H.out.1 H.out.2.1 (H.out.2.2.1.later V1.out)).mono ?_
  rintro e w2 ⟨rfl, hb⟩
  rw [HC.out]
  have V2 : Hid (Below w.heap.size w w2) := below_up rfl V1.out hb
  clear hb V1
  go_wp2_with fail
  refine (error_same 0 _ (H.out.2.2.2.1.later V2.out)).mono ?_
  rintro e w3 ⟨rfl, hb⟩
  have V3 : Hid (Below w.heap.size w w3) := below_up rfl V2.out hb
  clear hb V2
  go_wp2_with fail
  refine (before_any a len cap h (x : Int) k _ H.out.1 H.out.2.1 (H.out.2.2.1.later V3.out)).mono ?_
  rintro e w4 ⟨rfl, hb⟩
  rw [WK.out.1, WK.out.2]
  have V4 : Hid (Below w.heap.size w w4) := below_up rfl V3.out hb
  clear hb V3
  go_wp2_with fail
  refine (error_same 1 _ (H.out.2.2.2.1.later V4.out)).mono ?_
  rintro e w5 ⟨rfl, hb⟩
  have V5 : Hid (Below w.heap.size w w5) := below_up rfl V4.out hb
  clear hb V4
  go_wp2
  try simp only [hd1, hd2, Bool.or_self]
  have WI0 : Hid _ := way_past (x := x) HC.out (by rw [LH.out]; omega)
  have V5s : Hid (w.heap.size ≤ w5.heap.size) := V5.out.size
  obtain ⟨ie, hi1, hz0, hz1, hz2⟩ := info_int
  have HI : Hid (Tryd.prog.info? 3 = some ie ∧ ie.zero = some (.int .i64 0) ∧ ie.size = 1 ∧ ie.bytes = 8) := ⟨hi1, hz0, hz1, hz2⟩
  clear hi1 hz0 hz1 hz2
  go_loopw [19, 20] (fun v y wr => ∃ j : Nat, j ≤ len ∧ y = .int .i64 j ∧ Hid (Below w.heap.size w wr) ∧ Hid (wr.ownsRow w.heap.size 3 1 v (pastK h x j).length ((pastK h x j).map (Value.int .i64)))) (fun _ y _ => len - (intOf y).toNat)
  case atStart => exact ⟨0, by omega, rfl, V5.out, World.ownsRow_nil _ _ _ _⟩
  case round =>
    obtain ⟨j, hj, rfl, hbel, hO⟩ := hrel
    by_cases hlt : j < len
    · have hj0 : (0 : Int) ≤ (j : Int) := by omega
      have hjl : (j : Int) < (len : Int) := by omega
      have hj60 : (j : Int) < 60 := by omega
      have hx60 : (x : Int) < 60 := by omega
      go_wp2_with fail
      refine (refBefores a len cap h _ GD.out.2 (H.out.2.2.1.later hbel.out)).mono ?_
      rintro e wb ⟨⟨c, rfl, hcq⟩, hb⟩
      have Bb : Hid (Below w.heap.size w wb) := below_up rfl hbel.out hb
      have Ob : Hid (wb.ownsRow w.heap.size 3 1 u19 (pastK h x j).length ((pastK h x j).map (Value.int .i64))) := own_later hO.out hb
      have HST : Hid ((Instr.storeAt 41 (.pointer (some ⟨wb.heap.size, 0, none⟩)) (.agg c)).run Tryd.prog (wb.alloc (.cells Z 41)) = .ok () (wb.alloc (.cells c 41))) := run_storeAt_new wb _ Z c (by rw [sqSize, hcq.1]) (by rw [ZS.out, hcq.1]) (sq_one hcq)
      have cg := hcq.get (x := j) (y := x) (by omega) (by omega)
      rw [wa_eq GD.out.1 hlt (show x < len by omega)] at cg
      have Wb : Hid (Below wb.heap.size wb (wb.alloc (.cells c 41))) := (Below.refl _ _).alloc (Nat.le_refl _) _
      have SZ : Hid (w.heap.size ≤ wb.heap.size) := Bb.out.size
      have LK : Hid ((pastK h x j).length ≤ 60) := by have := pastK_len h x j; show (pastK h x j).length ≤ 60; omega
      clear hb hcq
      cases hb : bef h j x
      · rw [hb] at cg
        go_wp2_with (refine wpList_store_row rfl 41 (.tmp 21) (.tmp 114) rfl HST.out ?_)
        go_roundw
        case rel =>
          refine ⟨j + 1, by omega, by go_num, Bb.out.alloc SZ.out _, ?_⟩
          rw [pastK_miss hb]
          exact own_later Ob.out Wb.out
        case measure => simp [intOf]; omega
      · rw [hb] at cg
        go_wp2_with (first
          | refine wpList_store_row rfl 41 (.tmp 21) (.tmp 114) rfl HST.out ?_
          | (at_builtin; refine wpList_append_own _ rfl _ _ 22 rfl w.heap.size 3 ie (.int .i64 0) 1 8 Tryd.underlying22 HI.out.1 HI.out.2.1 HI.out.2.2.1 HI.out.2.2.2 rfl (by decide) _ (pastK h x j).length _ rfl (by exact own_later (own_later Ob.out Wb.out) ((Below.refl _ _).alloc (Nat.le_refl _) _)) ⟨wb.heap.size + 1, 0, none⟩ 1 1 [.int .i64 (j : Int)] rfl rfl (by exact new_int (wb.alloc (.cells c 41)) _ (by simp) (j : Int) 3) (int_one _) (by have := LK.out; unfold maxLen; omega) (by have := LK.out; omega) (by have := SZ.out; simp; omega) ?_; intro v' wn hown hgrow _; have HO : Hid _ := hown; have HGr : Hid _ := hgrow; clear hown hgrow))
        go_roundw
        case rel =>
          refine ⟨j + 1, by omega, by go_num, ?_, ?_⟩
          · exact ((Bb.out.alloc SZ.out _).alloc (by have := SZ.out; simp; omega) _).grown HGr.out (by have := SZ.out; simp; omega) (own_base Ob.out)
          · rw [pastK_hit hb, List.length_append, List.map_append]
            exact HO.out
        case measure => simp [intOf]; omega
    · have : j = len := by omega
      subst this
      have EV := own_vw hO.out
      obtain ⟨qa, qc, eqv, qv⟩ := EV
      rw [eqv]
      have QV : Hid (Vw wr qa (pastK h x j).length (pastK h x j)) := qv
      have V6 : Hid (Below w.heap.size w wr) := hbel.out
      obtain ⟨QN, eqn⟩ : ∃ QN, QN = (pastK h x j).length := ⟨_, rfl⟩
      have QV' : Hid (Vw wr qa QN (pastK h x j)) := by rw [eqn]; exact qv
      rw [← eqn]
      clear eqv qv QV eqn hO hbel hz
      go_wp2_with fail
      refine (past_any a j cap h x _ H.out.1 H.out.2.1 (H.out.2.2.1.later V6.out)).mono ?_
      rintro e w7 ⟨⟨pp, pn, ppc, rfl, hpv, hpn⟩, hb⟩
      rw [WI0.out.1]
      have V7 : Hid (Below w.heap.size w w7) := below_up rfl V6.out hb
      have PV : Hid (Vw w7 pp pn (pasL h x) ∧ pn ≤ maxLen) := ⟨hpv, hpn⟩
      have Q7 : Hid (Vw w7 qa QN (pastK h x j)) := QV'.out.later hb
      clear hpv hpn
      clear hb V6
      go_wp2_with fail
      refine (error_same 0 _ (H.out.2.2.2.1.later V7.out)).mono ?_
      rintro e w8 ⟨rfl, hb⟩
      have V8 : Hid (Below w.heap.size w w8) := below_up rfl V7.out hb
      have PV2 : Hid (Vw w8 pp pn (pastK h x j)) := by have q := PV.out.1.later hb; rw [WI0.out.2, LH.out] at q; exact q
      have Q8 : Hid (Vw w8 qa QN (pastK h x j)) := Q7.out.later hb
      clear hb V7
      go_wp2_with fail
      refine (ints_any pp qa pn ppc QN qc (pastK h x j) (pastK h x j) _ PV2.out Q8.out PV.out.2).mono ?_
      rintro e w9 ⟨rfl, nd, ew⟩
      rw [decide_eq_true rfl]
      have V9 : Hid (Below w.heap.size w w9) := by rw [ew]; exact below_drewN V8.out _
      clear ew V8
      go_wp2_with fail
      refine (refCut a j cap h p n pcap many _ GD.out.2 (H.out.2.2.1.later V9.out) GD.out.1 (H.out.2.2.2.2.2.later V9.out)).mono ?_
      rintro e w10 ⟨rfl, hb⟩
      have V10 : Hid (Below w.heap.size w w10) := below_up rfl V9.out hb
      clear hb V9
      go_wp2_with fail
      refine (cut_any a j cap h p n pcap many _ H.out.1 H.out.2.1 (H.out.2.2.1.later V10.out) (H.out.2.2.2.2.2.later V10.out)).mono ?_
      rintro e w11 ⟨rfl, hb⟩
      rw [WC.out.1, WC.out.2]
      have V11 : Hid (Below w.heap.size w w11) := below_up rfl V10.out hb
      clear hb V10
      go_wp2_with fail
      refine (error_same (manyC h many) _ (H.out.2.2.2.1.later V11.out)).mono ?_
      rintro e w12 ⟨rfl, hb⟩
      have V12 : Hid (Below w.heap.size w w12) := below_up rfl V11.out hb
      clear hb V11
      go_wp2
      go_ret
      exact ⟨rfl, V12.out⟩

set_option maxRecDepth 100000 in
set_option maxHeartbeats 8000000 in
theorem ht_khi (a : Option Addr) (len cap : Nat) (h : List Ev) (x : Nat) (k : Int) (p : Option Addr) (n pcap : Nat) (many : List Int) (w : World) (hlc : len ≤ cap) (hm : cap ≤ maxLen) (hv : Ew w a len h) (hx : Vw w p n many) (hL : Laid w) (hc : chkC h = 0) (hxl : x < len) (hk0 : 0 ≤ k) (hk : (len : Int) ≤ k) :
    Calls Tryd.prog 4 #[.slice a len cap, .int .i64 (x : Int), .int .i64 k, .slice p n pcap] w fun e w' => e = .returned (.bool true) ∧ Below w.heap.size w w' := by
  have H : Hid (len ≤ cap ∧ cap ≤ maxLen ∧ Ew w a len h ∧ Laid w ∧ h.length = len ∧ Vw w p n many) := ⟨hlc, hm, hv, hL, hv.1, hx⟩
  have hlen : len ≤ maxLen := Nat.le_trans hlc hm
  unfold maxLen at hlen
  have lh : h.length = len := hv.1
  have LH : Hid (h.length = len) := lh
  have WK : Hid _ := way_k (i := (x : Int)) (k := k) hc (by rw [lh]; omega)
  have hx0 : (0 : Int) ≤ (x : Int) := by omega
  have hxl' : (x : Int) < (len : Int) := by omega
  have hd1 : decide ((x : Int) < 0) = false := decide_eq_false (by omega)
  have hd2 : decide (len ≤ x) = false := decide_eq_false (by omega)
  obtain ⟨Z, hZ⟩ : ∃ Z, Z = Array.replicate 3600 (Value.bool false) := ⟨_, rfl⟩
  have hz := (zero_of_info sqInfo).1
  rw [← hZ] at hz
  have ZS : Hid (Z.size = 3600) := by rw [hZ]; exact Array.size_replicate
  have GD : Hid (Good h len ∧ len ≤ 60) := by
    obtain ⟨h60, hg⟩ := chk_zero hc
    rw [lh] at h60 hg
    exact ⟨hg, h60⟩
  have h60 : len ≤ 60 := GD.out.2
  have WC : Hid _ := way_cut (many := many) hc
  have HC : Hid (chkC h = 0) := hc
  clear hZ hc
  clear hv hlc hm hL hx lh
  go_enter Tryd.func4, Tryd.ntmps4
  go_wp2_with fail
  refine (refHistory a len cap h _ (H.out.2.2.1.later (Below.refl _ _))).mono ?_
  rintro e w1 ⟨rfl, hb⟩
  rw [HC.out]
  have V1 : Hid (Below w.heap.size w w1) := hb
  clear hb
  go_wp2_with fail
  refine (check_any a len cap h _ H.out.1 H.out.2.1 (H.out.2.2.1.later V1.out)).mono ?_
  rintro e w2 ⟨rfl, hb⟩
  rw [HC.out]
  have V2 : Hid (Below w.heap.size w w2) := below_up rfl V1.out hb
  clear hb V1
  go_wp2_with fail
  refine (error_same 0 _ (H.out.2.2.2.1.later V2.out)).mono ?_
  rintro e w3 ⟨rfl, hb⟩
  have V3 : Hid (Below w.heap.size w w3) := below_up rfl V2.out hb
  clear hb V2
  go_wp2_with fail
  refine (before_any a len cap h (x : Int) k _ H.out.1 H.out.2.1 (H.out.2.2.1.later V3.out)).mono ?_
  rintro e w4 ⟨rfl, hb⟩
  rw [WK.out.1, WK.out.2]
  have V4 : Hid (Below w.heap.size w w4) := below_up rfl V3.out hb
  clear hb V3
  go_wp2_with fail
  refine (error_same 1 _ (H.out.2.2.2.1.later V4.out)).mono ?_
  rintro e w5 ⟨rfl, hb⟩
  have V5 : Hid (Below w.heap.size w w5) := below_up rfl V4.out hb
  clear hb V4
  go_wp2
  try simp only [hd1, hd2, Bool.or_self]
  have WI0 : Hid _ := way_past (x := x) HC.out (by rw [LH.out]; omega)
  have V5s : Hid (w.heap.size ≤ w5.heap.size) := V5.out.size
  obtain ⟨ie, hi1, hz0, hz1, hz2⟩ := info_int
  have HI : Hid (Tryd.prog.info? 3 = some ie ∧ ie.zero = some (.int .i64 0) ∧ ie.size = 1 ∧ ie.bytes = 8) := ⟨hi1, hz0, hz1, hz2⟩
  clear hi1 hz0 hz1 hz2
  go_loopw [19, 20] (fun v y wr => ∃ j : Nat, j ≤ len ∧ y = .int .i64 j ∧ Hid (Below w.heap.size w wr) ∧ Hid (wr.ownsRow w.heap.size 3 1 v (pastK h x j).length ((pastK h x j).map (Value.int .i64)))) (fun _ y _ => len - (intOf y).toNat)
  case atStart => exact ⟨0, by omega, rfl, V5.out, World.ownsRow_nil _ _ _ _⟩
  case round =>
    obtain ⟨j, hj, rfl, hbel, hO⟩ := hrel
    by_cases hlt : j < len
    · have hj0 : (0 : Int) ≤ (j : Int) := by omega
      have hjl : (j : Int) < (len : Int) := by omega
      have hj60 : (j : Int) < 60 := by omega
      have hx60 : (x : Int) < 60 := by omega
      go_wp2_with fail
      refine (refBefores a len cap h _ GD.out.2 (H.out.2.2.1.later hbel.out)).mono ?_
      rintro e wb ⟨⟨c, rfl, hcq⟩, hb⟩
      have Bb : Hid (Below w.heap.size w wb) := below_up rfl hbel.out hb
      have Ob : Hid (wb.ownsRow w.heap.size 3 1 u19 (pastK h x j).length ((pastK h x j).map (Value.int .i64))) := own_later hO.out hb
      have HST : Hid ((Instr.storeAt 41 (.pointer (some ⟨wb.heap.size, 0, none⟩)) (.agg c)).run Tryd.prog (wb.alloc (.cells Z 41)) = .ok () (wb.alloc (.cells c 41))) := run_storeAt_new wb _ Z c (by rw [sqSize, hcq.1]) (by rw [ZS.out, hcq.1]) (sq_one hcq)
      have cg := hcq.get (x := j) (y := x) (by omega) (by omega)
      rw [wa_eq GD.out.1 hlt (show x < len by omega)] at cg
      have Wb : Hid (Below wb.heap.size wb (wb.alloc (.cells c 41))) := (Below.refl _ _).alloc (Nat.le_refl _) _
      have SZ : Hid (w.heap.size ≤ wb.heap.size) := Bb.out.size
      have LK : Hid ((pastK h x j).length ≤ 60) := by have := pastK_len h x j; show (pastK h x j).length ≤ 60; omega
      clear hb hcq
      cases hb : bef h j x
      · rw [hb] at cg
        go_wp2_with (refine wpList_store_row rfl 41 (.tmp 21) (.tmp 114) rfl HST.out ?_)
        go_roundw
        case rel =>
          refine ⟨j + 1, by omega, by go_num, Bb.out.alloc SZ.out _, ?_⟩
          rw [pastK_miss hb]
          exact own_later Ob.out Wb.out
        case measure => simp [intOf]; omega
      · rw [hb] at cg
        go_wp2_with (first
          | refine wpList_store_row rfl 41 (.tmp 21) (.tmp 114) rfl HST.out ?_
          | (at_builtin; refine wpList_append_own _ rfl _ _ 22 rfl w.heap.size 3 ie (.int .i64 0) 1 8 Tryd.underlying22 HI.out.1 HI.out.2.1 HI.out.2.2.1 HI.out.2.2.2 rfl (by decide) _ (pastK h x j).length _ rfl (by exact own_later (own_later Ob.out Wb.out) ((Below.refl _ _).alloc (Nat.le_refl _) _)) ⟨wb.heap.size + 1, 0, none⟩ 1 1 [.int .i64 (j : Int)] rfl rfl (by exact new_int (wb.alloc (.cells c 41)) _ (by simp) (j : Int) 3) (int_one _) (by have := LK.out; unfold maxLen; omega) (by have := LK.out; omega) (by have := SZ.out; simp; omega) ?_; intro v' wn hown hgrow _; have HO : Hid _ := hown; have HGr : Hid _ := hgrow; clear hown hgrow))
        go_roundw
        case rel =>
          refine ⟨j + 1, by omega, by go_num, ?_, ?_⟩
          · exact ((Bb.out.alloc SZ.out _).alloc (by have := SZ.out; simp; omega) _).grown HGr.out (by have := SZ.out; simp; omega) (own_base Ob.out)
          · rw [pastK_hit hb, List.length_append, List.map_append]
            exact HO.out
        case measure => simp [intOf]; omega
    · have : j = len := by omega
      subst this
      have EV := own_vw hO.out
      obtain ⟨qa, qc, eqv, qv⟩ := EV
      rw [eqv]
      have QV : Hid (Vw wr qa (pastK h x j).length (pastK h x j)) := qv
      have V6 : Hid (Below w.heap.size w wr) := hbel.out
      obtain ⟨QN, eqn⟩ : ∃ QN, QN = (pastK h x j).length := ⟨_, rfl⟩
      have QV' : Hid (Vw wr qa QN (pastK h x j)) := by rw [eqn]; exact qv
      rw [← eqn]
      clear eqv qv QV eqn hO hbel hz
      go_wp2_with fail
      refine (past_any a j cap h x _ H.out.1 H.out.2.1 (H.out.2.2.1.later V6.out)).mono ?_
      rintro e w7 ⟨⟨pp, pn, ppc, rfl, hpv, hpn⟩, hb⟩
      rw [WI0.out.1]
      have V7 : Hid (Below w.heap.size w w7) := below_up rfl V6.out hb
      have PV : Hid (Vw w7 pp pn (pasL h x) ∧ pn ≤ maxLen) := ⟨hpv, hpn⟩
      have Q7 : Hid (Vw w7 qa QN (pastK h x j)) := QV'.out.later hb
      clear hpv hpn
      clear hb V6
      go_wp2_with fail
      refine (error_same 0 _ (H.out.2.2.2.1.later V7.out)).mono ?_
      rintro e w8 ⟨rfl, hb⟩
      have V8 : Hid (Below w.heap.size w w8) := below_up rfl V7.out hb
      have PV2 : Hid (Vw w8 pp pn (pastK h x j)) := by have q := PV.out.1.later hb; rw [WI0.out.2, LH.out] at q; exact q
      have Q8 : Hid (Vw w8 qa QN (pastK h x j)) := Q7.out.later hb
      clear hb V7
      go_wp2_with fail
      refine (ints_any pp qa pn ppc QN qc (pastK h x j) (pastK h x j) _ PV2.out Q8.out PV.out.2).mono ?_
      rintro e w9 ⟨rfl, nd, ew⟩
      rw [decide_eq_true rfl]
      have V9 : Hid (Below w.heap.size w w9) := by rw [ew]; exact below_drewN V8.out _
      clear ew V8
      go_wp2_with fail
      refine (refCut a j cap h p n pcap many _ GD.out.2 (H.out.2.2.1.later V9.out) GD.out.1 (H.out.2.2.2.2.2.later V9.out)).mono ?_
      rintro e w10 ⟨rfl, hb⟩
      have V10 : Hid (Below w.heap.size w w10) := below_up rfl V9.out hb
      clear hb V9
      go_wp2_with fail
      refine (cut_any a j cap h p n pcap many _ H.out.1 H.out.2.1 (H.out.2.2.1.later V10.out) (H.out.2.2.2.2.2.later V10.out)).mono ?_
      rintro e w11 ⟨rfl, hb⟩
      rw [WC.out.1, WC.out.2]
      have V11 : Hid (Below w.heap.size w w11) := below_up rfl V10.out hb
      clear hb V10
      go_wp2_with fail
      refine (error_same (manyC h many) _ (H.out.2.2.2.1.later V11.out)).mono ?_
      rintro e w12 ⟨rfl, hb⟩
      have V12 : Hid (Below w.heap.size w w12) := below_up rfl V11.out hb
      clear hb V11
      go_wp2
      go_ret
      exact ⟨rfl, V12.out⟩

set_option maxRecDepth 100000 in
set_option maxHeartbeats 8000000 in
theorem ht_ok (a : Option Addr) (len cap : Nat) (h : List Ev) (x y : Nat) (p : Option Addr) (n pcap : Nat) (many : List Int) (w : World) (hlc : len ≤ cap) (hm : cap ≤ maxLen) (hv : Ew w a len h) (hx : Vw w p n many) (hL : Laid w) (hc : chkC h = 0) (hxl : x < len) (hyl : y < len) :
    Calls Tryd.prog 4 #[.slice a len cap, .int .i64 (x : Int), .int .i64 (y : Int), .slice p n pcap] w fun e w' => e = .returned (.bool true) ∧ Below w.heap.size w w' := by
  have H : Hid (len ≤ cap ∧ cap ≤ maxLen ∧ Ew w a len h ∧ Laid w ∧ h.length = len ∧ Vw w p n many) := ⟨hlc, hm, hv, hL, hv.1, hx⟩
  have hlen : len ≤ maxLen := Nat.le_trans hlc hm
  unfold maxLen at hlen
  have lh : h.length = len := hv.1
  have LH : Hid (h.length = len) := lh
  have WB : Hid _ := way_bef (x := x) (y := y) hc (by rw [lh]; exact hxl) (by rw [lh]; exact hyl)
  have hx0 : (0 : Int) ≤ (x : Int) := by omega
  have hxl' : (x : Int) < (len : Int) := by omega
  have hd1 : decide ((x : Int) < 0) = false := decide_eq_false (by omega)
  have hd2 : decide (len ≤ x) = false := decide_eq_false (by omega)
  have hy0 : (0 : Int) ≤ (y : Int) := by omega
  have hyl' : (y : Int) < (len : Int) := by omega
  obtain ⟨Z, hZ⟩ : ∃ Z, Z = Array.replicate 3600 (Value.bool false) := ⟨_, rfl⟩
  have hz := (zero_of_info sqInfo).1
  rw [← hZ] at hz
  have ZS : Hid (Z.size = 3600) := by rw [hZ]; exact Array.size_replicate
  have GD : Hid (Good h len ∧ len ≤ 60) := by
    obtain ⟨h60, hg⟩ := chk_zero hc
    rw [lh] at h60 hg
    exact ⟨hg, h60⟩
  have h60 : len ≤ 60 := GD.out.2
  have WC : Hid _ := way_cut (many := many) hc
  have HC : Hid (chkC h = 0) := hc
  clear hZ hc
  have hx60 : (x : Int) < 60 := by omega
  have hy60 : (y : Int) < 60 := by omega
  clear hv hlc hm hL hx lh
  go_enter Tryd.func4, Tryd.ntmps4
  go_wp2_with fail
  refine (refHistory a len cap h _ (H.out.2.2.1.later (Below.refl _ _))).mono ?_
  rintro e w1 ⟨rfl, hb⟩
  rw [HC.out]
  have V1 : Hid (Below w.heap.size w w1) := hb
  clear hb
  go_wp2_with fail
  refine (check_any a len cap h _ H.out.1 H.out.2.1 (H.out.2.2.1.later V1.out)).mono ?_
  rintro e w2 ⟨rfl, hb⟩
  rw [HC.out]
  have V2 : Hid (Below w.heap.size w w2) := below_up rfl V1.out hb
  clear hb V1
  go_wp2_with fail
  refine (error_same 0 _ (H.out.2.2.2.1.later V2.out)).mono ?_
  rintro e w3 ⟨rfl, hb⟩
  have V3 : Hid (Below w.heap.size w w3) := below_up rfl V2.out hb
  clear hb V2
  go_wp2_with fail
  refine (refBefores a len cap h _ GD.out.2 (H.out.2.2.1.later V3.out)).mono ?_
  rintro e wq ⟨⟨c, rfl, hcq⟩, hb⟩
  have Vq : Hid (Below w.heap.size w wq) := below_up rfl V3.out hb
  have HST : Hid ((Instr.storeAt 41 (.pointer (some ⟨wq.heap.size, 0, none⟩)) (.agg c)).run Tryd.prog (wq.alloc (.cells Z 41)) = .ok () (wq.alloc (.cells c 41))) := run_storeAt_new wq _ Z c (by rw [sqSize, hcq.1]) (by rw [ZS.out, hcq.1]) (sq_one hcq)
  have cg := hcq.get (x := x) (y := y) (by omega) (by omega)
  rw [wa_eq GD.out.1 hxl hyl] at cg
  have V3' : Hid (Below w.heap.size w (wq.alloc (.cells c 41))) := Vq.out.alloc Vq.out.size _
  obtain ⟨bb, ebb⟩ : ∃ bb, bb = bef h x y := ⟨_, rfl⟩
  have EBB : Hid (bef h x y = bb) := ebb.symm
  rw [← ebb] at cg
  clear hb hcq ebb V3 Vq
  go_wp2_with (refine wpList_store_row rfl 41 (.tmp 16) (.tmp 69) rfl HST.out ?_)
  refine (before_any a len cap h (x : Int) (y : Int) _ H.out.1 H.out.2.1 (H.out.2.2.1.later V3'.out)).mono ?_
  rintro e w4 ⟨rfl, hb⟩
  rw [WB.out.1, WB.out.2, EBB.out]
  have V4 : Hid (Below w.heap.size w w4) := below_up rfl V3'.out hb
  clear hb V3' HST cg
  go_wp2_with fail
  refine (error_same 0 _ (H.out.2.2.2.1.later V4.out)).mono ?_
  rintro e w5 ⟨rfl, hb⟩
  have V5 : Hid (Below w.heap.size w w5) := below_up rfl V4.out hb
  clear hb V4
  go_wp2
  try simp only [hd1, hd2, Bool.or_self]
  have WI0 : Hid _ := way_past (x := x) HC.out (by rw [LH.out]; omega)
  have V5s : Hid (w.heap.size ≤ w5.heap.size) := V5.out.size
  obtain ⟨ie, hi1, hz0, hz1, hz2⟩ := info_int
  have HI : Hid (Tryd.prog.info? 3 = some ie ∧ ie.zero = some (.int .i64 0) ∧ ie.size = 1 ∧ ie.bytes = 8) := ⟨hi1, hz0, hz1, hz2⟩
  clear hi1 hz0 hz1 hz2
  go_loopw [19, 20] (fun v y wr => ∃ j : Nat, j ≤ len ∧ y = .int .i64 j ∧ Hid (Below w.heap.size w wr) ∧ Hid (wr.ownsRow w.heap.size 3 1 v (pastK h x j).length ((pastK h x j).map (Value.int .i64)))) (fun _ y _ => len - (intOf y).toNat)
  case atStart => exact ⟨0, by omega, rfl, V5.out, World.ownsRow_nil _ _ _ _⟩
  case round =>
    obtain ⟨j, hj, rfl, hbel, hO⟩ := hrel
    by_cases hlt : j < len
    · have hj0 : (0 : Int) ≤ (j : Int) := by omega
      have hjl : (j : Int) < (len : Int) := by omega
      have hj60 : (j : Int) < 60 := by omega
      have hx60 : (x : Int) < 60 := by omega
      go_wp2_with fail
      refine (refBefores a len cap h _ GD.out.2 (H.out.2.2.1.later hbel.out)).mono ?_
      rintro e wb ⟨⟨c, rfl, hcq⟩, hb⟩
      have Bb : Hid (Below w.heap.size w wb) := below_up rfl hbel.out hb
      have Ob : Hid (wb.ownsRow w.heap.size 3 1 u19 (pastK h x j).length ((pastK h x j).map (Value.int .i64))) := own_later hO.out hb
      have HST : Hid ((Instr.storeAt 41 (.pointer (some ⟨wb.heap.size, 0, none⟩)) (.agg c)).run Tryd.prog (wb.alloc (.cells Z 41)) = .ok () (wb.alloc (.cells c 41))) := run_storeAt_new wb _ Z c (by rw [sqSize, hcq.1]) (by rw [ZS.out, hcq.1]) (sq_one hcq)
      have cg := hcq.get (x := j) (y := x) (by omega) (by omega)
      rw [wa_eq GD.out.1 hlt (show x < len by omega)] at cg
      have Wb : Hid (Below wb.heap.size wb (wb.alloc (.cells c 41))) := (Below.refl _ _).alloc (Nat.le_refl _) _
      have SZ : Hid (w.heap.size ≤ wb.heap.size) := Bb.out.size
      have LK : Hid ((pastK h x j).length ≤ 60) := by have := pastK_len h x j; show (pastK h x j).length ≤ 60; omega
      clear hb hcq
      cases hb : bef h j x
      · rw [hb] at cg
        go_wp2_with (refine wpList_store_row rfl 41 (.tmp 21) (.tmp 114) rfl HST.out ?_)
        go_roundw
        case rel =>
          refine ⟨j + 1, by omega, by go_num, Bb.out.alloc SZ.out _, ?_⟩
          rw [pastK_miss hb]
          exact own_later Ob.out Wb.out
        case measure => simp [intOf]; omega
      · rw [hb] at cg
        go_wp2_with (first
          | refine wpList_store_row rfl 41 (.tmp 21) (.tmp 114) rfl HST.out ?_
          | (at_builtin; refine wpList_append_own _ rfl _ _ 22 rfl w.heap.size 3 ie (.int .i64 0) 1 8 Tryd.underlying22 HI.out.1 HI.out.2.1 HI.out.2.2.1 HI.out.2.2.2 rfl (by decide) _ (pastK h x j).length _ rfl (by exact own_later (own_later Ob.out Wb.out) ((Below.refl _ _).alloc (Nat.le_refl _) _)) ⟨wb.heap.size + 1, 0, none⟩ 1 1 [.int .i64 (j : Int)] rfl rfl (by exact new_int (wb.alloc (.cells c 41)) _ (by simp) (j : Int) 3) (int_one _) (by have := LK.out; unfold maxLen; omega) (by have := LK.out; omega) (by have := SZ.out; simp; omega) ?_; intro v' wn hown hgrow _; have HO : Hid _ := hown; have HGr : Hid _ := hgrow; clear hown hgrow))
        go_roundw
        case rel =>
          refine ⟨j + 1, by omega, by go_num, ?_, ?_⟩
          · exact ((Bb.out.alloc SZ.out _).alloc (by have := SZ.out; simp; omega) _).grown HGr.out (by have := SZ.out; simp; omega) (own_base Ob.out)
          · rw [pastK_hit hb, List.length_append, List.map_append]
            exact HO.out
        case measure => simp [intOf]; omega
    · have : j = len := by omega
      subst this
      have EV := own_vw hO.out
      obtain ⟨qa, qc, eqv, qv⟩ := EV
      rw [eqv]
      have QV : Hid (Vw wr qa (pastK h x j).length (pastK h x j)) := qv
      have V6 : Hid (Below w.heap.size w wr) := hbel.out
      obtain ⟨QN, eqn⟩ : ∃ QN, QN = (pastK h x j).length := ⟨_, rfl⟩
      have QV' : Hid (Vw wr qa QN (pastK h x j)) := by rw [eqn]; exact qv
      rw [← eqn]
      clear eqv qv QV eqn hO hbel hz
      go_wp2_with fail
      refine (past_any a j cap h x _ H.out.1 H.out.2.1 (H.out.2.2.1.later V6.out)).mono ?_
      rintro e w7 ⟨⟨pp, pn, ppc, rfl, hpv, hpn⟩, hb⟩
      rw [WI0.out.1]
      have V7 : Hid (Below w.heap.size w w7) := below_up rfl V6.out hb
      have PV : Hid (Vw w7 pp pn (pasL h x) ∧ pn ≤ maxLen) := ⟨hpv, hpn⟩
      have Q7 : Hid (Vw w7 qa QN (pastK h x j)) := QV'.out.later hb
      clear hpv hpn
      clear hb V6
      go_wp2_with fail
      refine (error_same 0 _ (H.out.2.2.2.1.later V7.out)).mono ?_
      rintro e w8 ⟨rfl, hb⟩
      have V8 : Hid (Below w.heap.size w w8) := below_up rfl V7.out hb
      have PV2 : Hid (Vw w8 pp pn (pastK h x j)) := by have q := PV.out.1.later hb; rw [WI0.out.2, LH.out] at q; exact q
      have Q8 : Hid (Vw w8 qa QN (pastK h x j)) := Q7.out.later hb
      clear hb V7
      go_wp2_with fail
      refine (ints_any pp qa pn ppc QN qc (pastK h x j) (pastK h x j) _ PV2.out Q8.out PV.out.2).mono ?_
      rintro e w9 ⟨rfl, nd, ew⟩
      rw [decide_eq_true rfl]
      have V9 : Hid (Below w.heap.size w w9) := by rw [ew]; exact below_drewN V8.out _
      clear ew V8
      go_wp2_with fail
      refine (refCut a j cap h p n pcap many _ GD.out.2 (H.out.2.2.1.later V9.out) GD.out.1 (H.out.2.2.2.2.2.later V9.out)).mono ?_
      rintro e w10 ⟨rfl, hb⟩
      have V10 : Hid (Below w.heap.size w w10) := below_up rfl V9.out hb
      clear hb V9
      go_wp2_with fail
      refine (cut_any a j cap h p n pcap many _ H.out.1 H.out.2.1 (H.out.2.2.1.later V10.out) (H.out.2.2.2.2.2.later V10.out)).mono ?_
      rintro e w11 ⟨rfl, hb⟩
      rw [WC.out.1, WC.out.2]
      have V11 : Hid (Below w.heap.size w w11) := below_up rfl V10.out hb
      clear hb V10
      go_wp2_with fail
      refine (error_same (manyC h many) _ (H.out.2.2.2.1.later V11.out)).mono ?_
      rintro e w12 ⟨rfl, hb⟩
      have V12 : Hid (Below w.heap.size w w12) := below_up rfl V11.out hb
      clear hb V11
      go_wp2
      go_ret
      exact ⟨rfl, V12.out⟩

theorem ht_walk (a : Option Addr) (len cap : Nat) (h : List Ev) (i k : Int) (p : Option Addr) (n pcap : Nat) (many : List Int) (w : World) (hlc : len ≤ cap) (hm : cap ≤ maxLen) (hv : Ew w a len h) (hx : Vw w p n many) (hL : Laid w) :
    Calls Tryd.prog 4 #[.slice a len cap, .int .i64 i, .int .i64 k, .slice p n pcap] w fun e w' => e = .returned (.bool true) ∧ Below w.heap.size w w' := by
  by_cases hc : chkC h = 0
  · by_cases i0 : i < 0
    · by_cases l0 : len = 0
      · exact ht_ilo0 a len cap h i k p n pcap many w hlc hm hv hx hL hc i0 l0
      · exact ht_ilo a len cap h i k p n pcap many w hlc hm hv hx hL hc i0 (by omega)
    · by_cases i1 : (len : Int) ≤ i
      · by_cases l0 : len = 0
        · exact ht_ihi0 a len cap h i k p n pcap many w hlc hm hv hx hL hc (by omega) i1 l0
        · exact ht_ihi a len cap h i k p n pcap many w hlc hm hv hx hL hc (by omega) i1 (by omega)
      · obtain ⟨x, rfl⟩ := Int.eq_ofNat_of_zero_le (show 0 ≤ i by omega)
        by_cases k0 : k < 0
        · exact ht_klo a len cap h x k p n pcap many w hlc hm hv hx hL hc (by omega) k0
        · by_cases k1 : (len : Int) ≤ k
          · exact ht_khi a len cap h x k p n pcap many w hlc hm hv hx hL hc (by omega) (by omega) k1
          · obtain ⟨y, rfl⟩ := Int.eq_ofNat_of_zero_le (show 0 ≤ k by omega)
            exact ht_ok a len cap h x y p n pcap many w hlc hm hv hx hL hc (by omega) (by omega)
  · exact ht_bad a len cap h i k p n pcap many w hlc hm hv hx hL hc
end Go.Proofs.YtcmfhlegpgmakaaDoor.His
