/-
  The walk of HistoryAdds: an event behind a right history is right, or told at its place; what is said twice never is.
-/
import Derived.Test.YtcmfhlegpgmakabDoorHisP
import Derived.Test.YtcmfhlegpgmakabDoorTold
import Derived.Deep.CutRange
namespace Go.Proofs.YtcmfhlegpgmakabDoor.His
open Go.RowKit
open Go.Proofs.YtcmfhlegpgmakabDoor.As (Laid error_errno)

def heard1 : List Ev := [(0, 3, 1)]
theorem heard1_c : chkC heard1 = 5 := by decide
theorem Ew.heard1 (w : World) (t : TypeId) : Ew (w.alloc (.cells #[.int .i64 0, .int .i64 3, .int .i64 1] t)) (some ⟨w.heap.size, 0, none⟩) 1 His.heard1 := by
  refine ⟨rfl, fun _ => ⟨_, _, rfl, by simp, fun k hk => ?_⟩⟩
  rcases k with _ | k
  · refine ⟨?_, ?_, ?_⟩ <;> simp <;> rfl
  · omega

theorem take_snoc {h : List Ev} {x : Ev} {i : Nat} (hi : i ≤ h.length) : (h ++ [x]).take i = h.take i := by
  rw [List.take_append_of_le_length hi]
theorem ev_snoc {h : List Ev} {x : Ev} {i : Nat} (hi : i < h.length) : ev (h ++ [x]) i = ev h i := by
  simp [ev, List.getD, List.getElem?_append_left hi]
theorem ev_last (h : List Ev) (x : Ev) : ev (h ++ [x]) h.length = x := by simp [ev, List.getD]
theorem good_snoc {h : List Ev} {x : Ev} (hg : Good h h.length) : Good (h ++ [x]) h.length := by
  intro i hi
  rw [take_snoc (by omega), ev_snoc hi]
  exact hg i hi
theorem next_snoc (h : List Ev) (x : Ev) : next ((h ++ [x]).take h.length) (ev (h ++ [x]) h.length) = next h x := by
  rw [take_snoc (Nat.le_refl _), ev_last, List.take_length]
theorem chk_snoc {h : List Ev} {x : Ev} (hc : chkC h = 0) (hl : h.length < 60) : chkC (h ++ [x]) = next h x ∧ (next h x ≠ 0 → chkAt (h ++ [x]) = (h.length : Int)) := by
  obtain ⟨_, hg⟩ := chk_zero hc
  by_cases hn : next h x = 0
  · refine ⟨?_, fun q => absurd hn q⟩
    rw [hn]
    refine (chk_ok (by simp; omega) ?_).1
    intro i hi
    rcases Nat.lt_or_ge i h.length with a | a
    · exact good_snoc hg i a
    · obtain rfl : i = h.length := by simp at hi; omega
      rw [next_snoc]
      exact hn
  · have := chk_bad (h := h ++ [x]) (i := h.length) (by simp; omega) (by simp) (good_snoc hg) (by rw [next_snoc]; exact hn)
    rw [next_snoc] at this
    exact ⟨this.1, fun _ => this.2⟩
theorem twice {h : List Ev} {who wd other : Int} (hn : next h (who, 2, wd) = 0) : next (h ++ [(who, 2, wd)]) (other, 2, wd) = (if 0 ≤ other ∧ other < 5 then 7 else 1) := by
  have h1 : isOne (who, 2, wd) = true := by
    unfold next at hn
    cases hb : isOne (who, 2, wd) with
    | true => rfl
    | false => rw [hb, if_pos rfl] at hn; omega
  have hw : 1 ≤ wd ∧ wd ≤ 30 := by
    rcases isOne_what h1 with ⟨a, _⟩ | ⟨_, b⟩
    · simp at a
    · exact b
  unfold next
  by_cases ho : 0 ≤ other ∧ other < 5
  · rw [if_pos ho]
    have h2 : isOne (other, 2, wd) = true := by simp [isOne, ho.1, ho.2, hw.1, hw.2]
    rw [if_neg (by rw [h2]; decide), if_pos]
    refine ⟨rfl, ?_⟩
    simp [says]
  · rw [if_neg ho]
    have h2 : isOne (other, 2, wd) = false := by
      simp [isOne]
      intro a b
      exact absurd ⟨a, b⟩ ho
    rw [if_pos h2]

set_option maxRecDepth 100000 in
set_option maxHeartbeats 4000000 in
theorem ha_no (a : Option Addr) (len cap : Nat) (h : List Ev) (wd who other : Int) (w : World) (hlc : len ≤ cap) (hm : cap ≤ maxLen) (hv : Ew w a len h) (hL : Laid w) (h1 : chkC h ≠ 0) :
    Calls Tryd.prog 3 #[.slice a len cap, .int .i64 wd, .int .i64 who, .int .i64 other] w fun e w' => e = .returned (.bool true) ∧ Below w.heap.size w w' := by
  have H : Hid (len ≤ cap ∧ cap ≤ maxLen ∧ Ew w a len h ∧ Laid w ∧ h.length = len) := ⟨hlc, hm, hv, hL, hv.1⟩
  have hlen : len ≤ maxLen := Nat.le_trans hlc hm
  unfold maxLen at hlen
  clear hv hlc hm hL
  have B0 : Hid (Below w.heap.size w (w.alloc (.cells #[.int .i64 0, .int .i64 3, .int .i64 1] 28))) := (Below.refl _ _).alloc (Nat.le_refl _) _
  have O0 : Hid (Ew (w.alloc (.cells #[.int .i64 0, .int .i64 3, .int .i64 1] 28)) (some ⟨w.heap.size, 0, none⟩) 1 heard1) := Ew.heard1 w _
  go_enter Tryd.func3, Tryd.ntmps3
  go_wp2_with fail
  refine (check_any (some ⟨w.heap.size, 0, none⟩) 1 1 heard1 _ (by omega) (by unfold maxLen; omega) O0.out).mono ?_
  rintro e w1 ⟨rfl, hb⟩
  rw [heard1_c, errV_no (by decide)]
  have V1 : Hid (Below w.heap.size w w1) := below_up rfl B0.out hb
  clear hb B0 O0
  go_wp2_with fail
  refine (error_errno 5 5 _ (H.out.2.2.2.1.later V1.out)).mono ?_
  rintro e w2 ⟨rfl, hb⟩
  rw [show ((5 : Int) == 5) = true from rfl]
  have V2 : Hid (Below w.heap.size w w2) := below_up rfl V1.out hb
  clear hb V1
  go_wp2_with fail
  refine (check_any a len cap h _ H.out.1 H.out.2.1 (H.out.2.2.1.later V2.out)).mono ?_
  rintro e w3 ⟨rfl, hb⟩
  have V3 : Hid (Below w.heap.size w w3) := below_up rfl V2.out hb
  clear hb V2
  rw [errV_no h1]
  go_wp2
  go_ret
  exact ⟨rfl, V3.out⟩

set_option maxRecDepth 100000 in
set_option maxHeartbeats 4000000 in
theorem ha_long (a : Option Addr) (len cap : Nat) (h : List Ev) (wd who other : Int) (w : World) (hlc : len ≤ cap) (hm : cap ≤ maxLen) (hv : Ew w a len h) (hL : Laid w) (h1 : chkC h = 0) (h50 : 50 < len) :
    Calls Tryd.prog 3 #[.slice a len cap, .int .i64 wd, .int .i64 who, .int .i64 other] w fun e w' => e = .returned (.bool true) ∧ Below w.heap.size w w' := by
  have H : Hid (len ≤ cap ∧ cap ≤ maxLen ∧ Ew w a len h ∧ Laid w ∧ h.length = len) := ⟨hlc, hm, hv, hL, hv.1⟩
  have hlen : len ≤ maxLen := Nat.le_trans hlc hm
  unfold maxLen at hlen
  clear hv hlc hm hL
  have B0 : Hid (Below w.heap.size w (w.alloc (.cells #[.int .i64 0, .int .i64 3, .int .i64 1] 28))) := (Below.refl _ _).alloc (Nat.le_refl _) _
  have O0 : Hid (Ew (w.alloc (.cells #[.int .i64 0, .int .i64 3, .int .i64 1] 28)) (some ⟨w.heap.size, 0, none⟩) 1 heard1) := Ew.heard1 w _
  go_enter Tryd.func3, Tryd.ntmps3
  go_wp2_with fail
  refine (check_any (some ⟨w.heap.size, 0, none⟩) 1 1 heard1 _ (by omega) (by unfold maxLen; omega) O0.out).mono ?_
  rintro e w1 ⟨rfl, hb⟩
  rw [heard1_c, errV_no (by decide)]
  have V1 : Hid (Below w.heap.size w w1) := below_up rfl B0.out hb
  clear hb B0 O0
  go_wp2_with fail
  refine (error_errno 5 5 _ (H.out.2.2.2.1.later V1.out)).mono ?_
  rintro e w2 ⟨rfl, hb⟩
  rw [show ((5 : Int) == 5) = true from rfl]
  have V2 : Hid (Below w.heap.size w w2) := below_up rfl V1.out hb
  clear hb V1
  go_wp2_with fail
  refine (check_any a len cap h _ H.out.1 H.out.2.1 (H.out.2.2.1.later V2.out)).mono ?_
  rintro e w3 ⟨rfl, hb⟩
  have V3 : Hid (Below w.heap.size w w3) := below_up rfl V2.out hb
  clear hb V2
  rw [h1, errV_ok]
  have h50' : (50 : Int) < (len : Int) := by omega
  go_wp2
  go_ret
  exact ⟨rfl, V3.out⟩

set_option maxRecDepth 100000 in
set_option maxHeartbeats 4000000 in
theorem ha_bad (a : Option Addr) (len cap : Nat) (h : List Ev) (wd who other : Int) (w : World) (hlc : len ≤ cap) (hm : cap ≤ maxLen) (hv : Ew w a len h) (hL : Laid w) (h1 : chkC h = 0) (h50 : len ≤ 50) (h2 : chkC (h ++ [(who, 2, wd)]) ≠ 0) :
    Calls Tryd.prog 3 #[.slice a len cap, .int .i64 wd, .int .i64 who, .int .i64 other] w fun e w' => e = .returned (.bool true) ∧ Below w.heap.size w w' := by
  have H : Hid (len ≤ cap ∧ cap ≤ maxLen ∧ Ew w a len h ∧ Laid w ∧ h.length = len) := ⟨hlc, hm, hv, hL, hv.1⟩
  have hlen : len ≤ maxLen := Nat.le_trans hlc hm
  unfold maxLen at hlen
  clear hv hlc hm hL
  have B0 : Hid (Below w.heap.size w (w.alloc (.cells #[.int .i64 0, .int .i64 3, .int .i64 1] 28))) := (Below.refl _ _).alloc (Nat.le_refl _) _
  have O0 : Hid (Ew (w.alloc (.cells #[.int .i64 0, .int .i64 3, .int .i64 1] 28)) (some ⟨w.heap.size, 0, none⟩) 1 heard1) := Ew.heard1 w _
  go_enter Tryd.func3, Tryd.ntmps3
  go_wp2_with fail
  refine (check_any (some ⟨w.heap.size, 0, none⟩) 1 1 heard1 _ (by omega) (by unfold maxLen; omega) O0.out).mono ?_
  rintro e w1 ⟨rfl, hb⟩
  rw [heard1_c, errV_no (by decide)]
  have V1 : Hid (Below w.heap.size w w1) := below_up rfl B0.out hb
  clear hb B0 O0
  go_wp2_with fail
  refine (error_errno 5 5 _ (H.out.2.2.2.1.later V1.out)).mono ?_
  rintro e w2 ⟨rfl, hb⟩
  rw [show ((5 : Int) == 5) = true from rfl]
  have V2 : Hid (Below w.heap.size w w2) := below_up rfl V1.out hb
  clear hb V1
  go_wp2_with fail
  refine (check_any a len cap h _ H.out.1 H.out.2.1 (H.out.2.2.1.later V2.out)).mono ?_
  rintro e w3 ⟨rfl, hb⟩
  have V3 : Hid (Below w.heap.size w w3) := below_up rfl V2.out hb
  clear hb V2
  rw [h1, errV_ok]
  have H1 : Hid (chkC h = 0) := h1
  have h50' : (len : Int) ≤ 50 := by omega
  obtain ⟨ie, hi, hz0, hz1, hz2⟩ := info_ev
  have HI : Hid (Tryd.prog.info? 28 = some ie ∧ ie.zero = some (.agg #[.int .i64 0, .int .i64 0, .int .i64 0]) ∧ ie.size = 3 ∧ ie.bytes = 24) := ⟨hi, hz0, hz1, hz2⟩
  clear hi hz0 hz1 hz2 h1
  go_upto_region 8 with fail
  go_cut [13] from 37 (fun v wc => Hid (Eo wc w.heap.size v h) ∧ Hid (Below w.heap.size w wc))
  case first =>
    by_cases h0 : len = 0
    · subst h0
      have hh : Hid (h = []) := List.eq_nil_of_length_eq_zero H.out.2.2.2.2
      rcases a with _ | ad
      · go_wp2
        go_meet
        case rel =>
          rw [hh.out]
          exact ⟨World.ownsRow_nil _ _ _ _, V3.out⟩
      · go_wp2
        go_meet
        case rel =>
          rw [hh.out]
          exact ⟨World.ownsRow_nil _ _ _ _, V3.out⟩
    · obtain ⟨b, off, rfl, _, _⟩ := H.out.2.2.1.2 (by omega)
      have LH : Hid (h.length = len) := H.out.2.2.2.2
      go_wp2_with (at_builtin; refine wpList_append_lies _ rfl _ _ 22 rfl w3.heap.size 28 ie (.agg #[.int .i64 0, .int .i64 0, .int .i64 0]) 3 24 Tryd.underlying22 HI.out.1 HI.out.2.1 HI.out.2.2.1 HI.out.2.2.2 rfl (by decide) (.slice none 0 0) 0 [] rfl (World.ownsRow_nil _ _ _ _) ⟨b, off, none⟩ len cap (flat h) rfl (by rw [flat_len, LH.out]) (flat_news (H.out.2.2.1.later V3.out)) (flat_one h) (by omega) (by unfold maxLen; omega) (by omega) (Nat.le_refl _) _ rfl ?_; intro g capg wg hown hgrow hat hltg; have HO : Hid _ := hown; have HGr : Hid _ := hgrow; clear hown hgrow hat hltg)
      go_meet
      case rel =>
        have o := HO.out
        refine ⟨?_, ?_⟩
        · show World.ownsRow _ _ _ _ _ _ _
          rw [LH.out]
          simp only [Nat.zero_add, List.nil_append] at o
          exact ⟨o.1, o.2.elim (fun q => .inl q) (fun ⟨g', c', cur, e1, e2, e3⟩ => .inr ⟨g', c', cur, e1, Nat.le_trans V3.out.size e2, e3⟩)⟩
        · exact V3.out.grown HGr.out V3.out.size (fun k hk => by cases hk)
  case rest =>
    obtain ⟨hE, hB⟩ := hcut
    have LH : Hid (h.length = len) := H.out.2.2.2.2
    have hsz := hB.out.size
    go_wp2_with (at_builtin; refine wpList_append_lies _ rfl _ _ 22 rfl w.heap.size 28 ie (.agg #[.int .i64 0, .int .i64 0, .int .i64 0]) 3 24 Tryd.underlying22 HI.out.1 HI.out.2.1 HI.out.2.2.1 HI.out.2.2.2 rfl (by decide) _ len (flat h) rfl (by have o := hE.out.alloc (.cells #[.int .i64 who, .int .i64 2, .int .i64 wd] 28); unfold Eo at o; rw [LH.out] at o; exact o) ⟨wc.heap.size, 0, none⟩ 1 1 (flat [(who, 2, wd)]) rfl rfl (by exact news1 wc _ rfl who 2 wd 28) (flat_one _) (by omega) (by unfold maxLen; omega) (by omega) (by simp; omega) _ rfl ?_; intro g capg wg hown hgrow hat hltg; have HO : Hid _ := hown; have HGr : Hid _ := hgrow; clear hown hgrow hat hltg)
    have E4 : Hid (Eo wg w.heap.size (.slice (some ⟨g, 0, none⟩) (len + 1) capg) (h ++ [(who, 2, wd)])) := by
      have o := HO.out
      show World.ownsRow _ _ _ _ _ _ _
      rw [flat_append, List.length_append, LH.out]
      exact o
    have B4 : Hid (Below w.heap.size w wg) := (hB.out.alloc hB.out.size _).grown HGr.out (by simp; omega) (hE.out.own)
    clear HO HGr hE hB
    obtain ⟨-, x4, y4, z4, -⟩ := E4.out.ew
    have X4 : Hid (Ew wg (some ⟨g, 0, none⟩) (len + 1) (h ++ [(who, 2, wd)]) ∧ len + 1 ≤ capg ∧ capg ≤ maxLen) := ⟨x4, y4, z4⟩
    clear x4 y4 z4
    refine (check_any (some ⟨g, 0, none⟩) (len + 1) capg (h ++ [(who, 2, wd)]) _ X4.out.2.1 X4.out.2.2 X4.out.1).mono ?_
    rintro e w5 ⟨rfl, hb⟩
    have B5 : Hid (Below w.heap.size w w5) := below_up rfl B4.out hb
    have E5 : Hid (Eo w5 w.heap.size (.slice (some ⟨g, 0, none⟩) (len + 1) capg) (h ++ [(who, 2, wd)])) := E4.out.later hb
    clear hb B4 E4 X4
    rw [errV_no h2]
    have hat : chkAt (h ++ [(who, 2, wd)]) = (len : Int) := by
      have q := chk_snoc (x := (who, 2, wd)) H1.out (by rw [LH.out]; omega)
      rw [q.2 (by rw [← q.1]; exact h2), LH.out]
    rw [hat]
    clear hat h2
    go_wp2
    go_ret
    exact ⟨ret_bool (by simp), B5.out⟩

set_option maxRecDepth 100000 in
set_option maxHeartbeats 4000000 in
theorem ha_seven (a : Option Addr) (len cap : Nat) (h : List Ev) (wd who other : Int) (w : World) (hlc : len ≤ cap) (hm : cap ≤ maxLen) (hv : Ew w a len h) (hL : Laid w) (h1 : chkC h = 0) (h50 : len ≤ 50) (h2 : chkC (h ++ [(who, 2, wd)]) = 0) (ho : 0 ≤ other ∧ other < 5) :
    Calls Tryd.prog 3 #[.slice a len cap, .int .i64 wd, .int .i64 who, .int .i64 other] w fun e w' => e = .returned (.bool true) ∧ Below w.heap.size w w' := by
  have H : Hid (len ≤ cap ∧ cap ≤ maxLen ∧ Ew w a len h ∧ Laid w ∧ h.length = len) := ⟨hlc, hm, hv, hL, hv.1⟩
  have hlen : len ≤ maxLen := Nat.le_trans hlc hm
  unfold maxLen at hlen
  clear hv hlc hm hL
  have B0 : Hid (Below w.heap.size w (w.alloc (.cells #[.int .i64 0, .int .i64 3, .int .i64 1] 28))) := (Below.refl _ _).alloc (Nat.le_refl _) _
  have O0 : Hid (Ew (w.alloc (.cells #[.int .i64 0, .int .i64 3, .int .i64 1] 28)) (some ⟨w.heap.size, 0, none⟩) 1 heard1) := Ew.heard1 w _
  go_enter Tryd.func3, Tryd.ntmps3
  go_wp2_with fail
  refine (check_any (some ⟨w.heap.size, 0, none⟩) 1 1 heard1 _ (by omega) (by unfold maxLen; omega) O0.out).mono ?_
  rintro e w1 ⟨rfl, hb⟩
  rw [heard1_c, errV_no (by decide)]
  have V1 : Hid (Below w.heap.size w w1) := below_up rfl B0.out hb
  clear hb B0 O0
  go_wp2_with fail
  refine (error_errno 5 5 _ (H.out.2.2.2.1.later V1.out)).mono ?_
  rintro e w2 ⟨rfl, hb⟩
  rw [show ((5 : Int) == 5) = true from rfl]
  have V2 : Hid (Below w.heap.size w w2) := below_up rfl V1.out hb
  clear hb V1
  go_wp2_with fail
  refine (check_any a len cap h _ H.out.1 H.out.2.1 (H.out.2.2.1.later V2.out)).mono ?_
  rintro e w3 ⟨rfl, hb⟩
  have V3 : Hid (Below w.heap.size w w3) := below_up rfl V2.out hb
  clear hb V2
  rw [h1, errV_ok]
  have H1 : Hid (chkC h = 0) := h1
  have h50' : (len : Int) ≤ 50 := by omega
  obtain ⟨ie, hi, hz0, hz1, hz2⟩ := info_ev
  have HI : Hid (Tryd.prog.info? 28 = some ie ∧ ie.zero = some (.agg #[.int .i64 0, .int .i64 0, .int .i64 0]) ∧ ie.size = 3 ∧ ie.bytes = 24) := ⟨hi, hz0, hz1, hz2⟩
  clear hi hz0 hz1 hz2 h1
  go_upto_region 8 with fail
  go_cut [13] from 37 (fun v wc => Hid (Eo wc w.heap.size v h) ∧ Hid (Below w.heap.size w wc))
  case first =>
    by_cases h0 : len = 0
    · subst h0
      have hh : Hid (h = []) := List.eq_nil_of_length_eq_zero H.out.2.2.2.2
      rcases a with _ | ad
      · go_wp2
        go_meet
        case rel =>
          rw [hh.out]
          exact ⟨World.ownsRow_nil _ _ _ _, V3.out⟩
      · go_wp2
        go_meet
        case rel =>
          rw [hh.out]
          exact ⟨World.ownsRow_nil _ _ _ _, V3.out⟩
    · obtain ⟨b, off, rfl, _, _⟩ := H.out.2.2.1.2 (by omega)
      have LH : Hid (h.length = len) := H.out.2.2.2.2
      go_wp2_with (at_builtin; refine wpList_append_lies _ rfl _ _ 22 rfl w3.heap.size 28 ie (.agg #[.int .i64 0, .int .i64 0, .int .i64 0]) 3 24 Tryd.underlying22 HI.out.1 HI.out.2.1 HI.out.2.2.1 HI.out.2.2.2 rfl (by decide) (.slice none 0 0) 0 [] rfl (World.ownsRow_nil _ _ _ _) ⟨b, off, none⟩ len cap (flat h) rfl (by rw [flat_len, LH.out]) (flat_news (H.out.2.2.1.later V3.out)) (flat_one h) (by omega) (by unfold maxLen; omega) (by omega) (Nat.le_refl _) _ rfl ?_; intro g capg wg hown hgrow hat hltg; have HO : Hid _ := hown; have HGr : Hid _ := hgrow; clear hown hgrow hat hltg)
      go_meet
      case rel =>
        have o := HO.out
        refine ⟨?_, ?_⟩
        · show World.ownsRow _ _ _ _ _ _ _
          rw [LH.out]
          simp only [Nat.zero_add, List.nil_append] at o
          exact ⟨o.1, o.2.elim (fun q => .inl q) (fun ⟨g', c', cur, e1, e2, e3⟩ => .inr ⟨g', c', cur, e1, Nat.le_trans V3.out.size e2, e3⟩)⟩
        · exact V3.out.grown HGr.out V3.out.size (fun k hk => by cases hk)
  case rest =>
    obtain ⟨hE, hB⟩ := hcut
    have LH : Hid (h.length = len) := H.out.2.2.2.2
    have hsz := hB.out.size
    go_wp2_with (at_builtin; refine wpList_append_lies _ rfl _ _ 22 rfl w.heap.size 28 ie (.agg #[.int .i64 0, .int .i64 0, .int .i64 0]) 3 24 Tryd.underlying22 HI.out.1 HI.out.2.1 HI.out.2.2.1 HI.out.2.2.2 rfl (by decide) _ len (flat h) rfl (by have o := hE.out.alloc (.cells #[.int .i64 who, .int .i64 2, .int .i64 wd] 28); unfold Eo at o; rw [LH.out] at o; exact o) ⟨wc.heap.size, 0, none⟩ 1 1 (flat [(who, 2, wd)]) rfl rfl (by exact news1 wc _ rfl who 2 wd 28) (flat_one _) (by omega) (by unfold maxLen; omega) (by omega) (by simp; omega) _ rfl ?_; intro g capg wg hown hgrow hat hltg; have HO : Hid _ := hown; have HGr : Hid _ := hgrow; clear hown hgrow hat hltg)
    have E4 : Hid (Eo wg w.heap.size (.slice (some ⟨g, 0, none⟩) (len + 1) capg) (h ++ [(who, 2, wd)])) := by
      have o := HO.out
      show World.ownsRow _ _ _ _ _ _ _
      rw [flat_append, List.length_append, LH.out]
      exact o
    have B4 : Hid (Below w.heap.size w wg) := (hB.out.alloc hB.out.size _).grown HGr.out (by simp; omega) (hE.out.own)
    clear HO HGr hE hB
    obtain ⟨-, x4, y4, z4, -⟩ := E4.out.ew
    have X4 : Hid (Ew wg (some ⟨g, 0, none⟩) (len + 1) (h ++ [(who, 2, wd)]) ∧ len + 1 ≤ capg ∧ capg ≤ maxLen) := ⟨x4, y4, z4⟩
    clear x4 y4 z4
    refine (check_any (some ⟨g, 0, none⟩) (len + 1) capg (h ++ [(who, 2, wd)]) _ X4.out.2.1 X4.out.2.2 X4.out.1).mono ?_
    rintro e w5 ⟨rfl, hb⟩
    have B5 : Hid (Below w.heap.size w w5) := below_up rfl B4.out hb
    have E5 : Hid (Eo w5 w.heap.size (.slice (some ⟨g, 0, none⟩) (len + 1) capg) (h ++ [(who, 2, wd)])) := E4.out.later hb
    clear hb B4 E4 X4
    rw [h2, errV_ok]
    have NX : Hid (next h (who, 2, wd) = 0) := by
      have q := chk_snoc (x := (who, 2, wd)) H1.out (by rw [LH.out]; omega)
      show next h (who, 2, wd) = 0
      rw [← q.1]
      exact h2
    have TW : Hid (chkC (h ++ [(who, 2, wd)] ++ [(other, 2, wd)]) = (if 0 ≤ other ∧ other < 5 then 7 else 1) ∧ chkAt (h ++ [(who, 2, wd)] ++ [(other, 2, wd)]) = ((len + 1 : Nat) : Int)) := by
      have hl : (h ++ [(who, 2, wd)]).length = len + 1 := by simp [LH.out]
      have q := chk_snoc (x := (other, 2, wd)) h2 (by rw [hl]; omega)
      have t := twice (other := other) NX.out
      rw [t] at q
      refine ⟨q.1, ?_⟩
      rw [q.2 (by split <;> decide), hl]
    clear h2
    have hsz5 := B5.out.size
    go_wp2_with (at_builtin; refine wpList_append_lies _ rfl _ _ 22 rfl w.heap.size 28 ie (.agg #[.int .i64 0, .int .i64 0, .int .i64 0]) 3 24 Tryd.underlying22 HI.out.1 HI.out.2.1 HI.out.2.2.1 HI.out.2.2.2 rfl (by decide) (.slice (some ⟨g, 0, none⟩) (len + 1) capg) (len + 1) (flat (h ++ [(who, 2, wd)])) rfl (by have o := E5.out.alloc (.cells #[.int .i64 other, .int .i64 2, .int .i64 wd] 28); unfold Eo at o; rw [List.length_append, LH.out] at o; exact o) ⟨w5.heap.size, 0, none⟩ 1 1 (flat [(other, 2, wd)]) rfl rfl (by exact news1 w5 _ rfl other 2 wd 28) (flat_one _) (by omega) (by unfold maxLen; omega) (by omega) (by simp; omega) _ rfl ?_; intro g2 capg2 wg2 hown hgrow hat hltg; have HO : Hid _ := hown; have HGr : Hid _ := hgrow; clear hown hgrow hat hltg)
    have E6 : Hid (Eo wg2 w.heap.size (.slice (some ⟨g2, 0, none⟩) (len + 1 + 1) capg2) (h ++ [(who, 2, wd)] ++ [(other, 2, wd)])) := by
      have o := HO.out
      show World.ownsRow _ _ _ _ _ _ _
      rw [flat_append, List.length_append, List.length_append, LH.out]
      exact o
    have B6 : Hid (Below w.heap.size w wg2) := (B5.out.alloc B5.out.size _).grown HGr.out (by simp; omega) (E5.out.own)
    clear HO HGr E5 B5
    obtain ⟨-, x4, y4, z4, -⟩ := E6.out.ew
    have X6 : Hid (Ew wg2 (some ⟨g2, 0, none⟩) (len + 1 + 1) (h ++ [(who, 2, wd)] ++ [(other, 2, wd)]) ∧ len + 1 + 1 ≤ capg2 ∧ capg2 ≤ maxLen) := ⟨x4, y4, z4⟩
    clear x4 y4 z4
    refine (check_any (some ⟨g2, 0, none⟩) (len + 1 + 1) capg2 (h ++ [(who, 2, wd)] ++ [(other, 2, wd)]) _ X6.out.2.1 X6.out.2.2 X6.out.1).mono ?_
    rintro e w7 ⟨rfl, hb⟩
    have B7 : Hid (Below w.heap.size w w7) := below_up rfl B6.out hb
    clear hb B6 E6 X6
    rw [TW.out.1, TW.out.2]
    have hq : (((len + 1 : Nat) : Int) == (len : Int) + 1) = true := by simp
    rw [if_pos ho, errV_no (by decide)]
    go_wp2_with fail
    refine (error_errno 7 7 _ (H.out.2.2.2.1.later B7.out)).mono ?_
    rintro e w8 ⟨rfl, hb⟩
    rw [show ((7 : Int) == 7) = true from rfl]
    have B8 : Hid (Below w.heap.size w w8) := below_up rfl B7.out hb
    clear hb B7
    go_wp2
    go_ret
    exact ⟨rfl, B8.out⟩

set_option maxRecDepth 100000 in
set_option maxHeartbeats 4000000 in
theorem ha_low (a : Option Addr) (len cap : Nat) (h : List Ev) (wd who other : Int) (w : World) (hlc : len ≤ cap) (hm : cap ≤ maxLen) (hv : Ew w a len h) (hL : Laid w) (h1 : chkC h = 0) (h50 : len ≤ 50) (h2 : chkC (h ++ [(who, 2, wd)]) = 0) (ho : other < 0) :
    Calls Tryd.prog 3 #[.slice a len cap, .int .i64 wd, .int .i64 who, .int .i64 other] w fun e w' => e = .returned (.bool true) ∧ Below w.heap.size w w' := by
  have H : Hid (len ≤ cap ∧ cap ≤ maxLen ∧ Ew w a len h ∧ Laid w ∧ h.length = len) := ⟨hlc, hm, hv, hL, hv.1⟩
  have hlen : len ≤ maxLen := Nat.le_trans hlc hm
  unfold maxLen at hlen
  clear hv hlc hm hL
  have B0 : Hid (Below w.heap.size w (w.alloc (.cells #[.int .i64 0, .int .i64 3, .int .i64 1] 28))) := (Below.refl _ _).alloc (Nat.le_refl _) _
  have O0 : Hid (Ew (w.alloc (.cells #[.int .i64 0, .int .i64 3, .int .i64 1] 28)) (some ⟨w.heap.size, 0, none⟩) 1 heard1) := Ew.heard1 w _
  go_enter Tryd.func3, Tryd.ntmps3
  go_wp2_with fail
  refine (check_any (some ⟨w.heap.size, 0, none⟩) 1 1 heard1 _ (by omega) (by unfold maxLen; omega) O0.out).mono ?_
  rintro e w1 ⟨rfl, hb⟩
  rw [heard1_c, errV_no (by decide)]
  have V1 : Hid (Below w.heap.size w w1) := below_up rfl B0.out hb
  clear hb B0 O0
  go_wp2_with fail
  refine (error_errno 5 5 _ (H.out.2.2.2.1.later V1.out)).mono ?_
  rintro e w2 ⟨rfl, hb⟩
  rw [show ((5 : Int) == 5) = true from rfl]
  have V2 : Hid (Below w.heap.size w w2) := below_up rfl V1.out hb
  clear hb V1
  go_wp2_with fail
  refine (check_any a len cap h _ H.out.1 H.out.2.1 (H.out.2.2.1.later V2.out)).mono ?_
  rintro e w3 ⟨rfl, hb⟩
  have V3 : Hid (Below w.heap.size w w3) := below_up rfl V2.out hb
  clear hb V2
  rw [h1, errV_ok]
  have H1 : Hid (chkC h = 0) := h1
  have h50' : (len : Int) ≤ 50 := by omega
  obtain ⟨ie, hi, hz0, hz1, hz2⟩ := info_ev
  have HI : Hid (Tryd.prog.info? 28 = some ie ∧ ie.zero = some (.agg #[.int .i64 0, .int .i64 0, .int .i64 0]) ∧ ie.size = 3 ∧ ie.bytes = 24) := ⟨hi, hz0, hz1, hz2⟩
  clear hi hz0 hz1 hz2 h1
  go_upto_region 8 with fail
  go_cut [13] from 37 (fun v wc => Hid (Eo wc w.heap.size v h) ∧ Hid (Below w.heap.size w wc))
  case first =>
    by_cases h0 : len = 0
    · subst h0
      have hh : Hid (h = []) := List.eq_nil_of_length_eq_zero H.out.2.2.2.2
      rcases a with _ | ad
      · go_wp2
        go_meet
        case rel =>
          rw [hh.out]
          exact ⟨World.ownsRow_nil _ _ _ _, V3.out⟩
      · go_wp2
        go_meet
        case rel =>
          rw [hh.out]
          exact ⟨World.ownsRow_nil _ _ _ _, V3.out⟩
    · obtain ⟨b, off, rfl, _, _⟩ := H.out.2.2.1.2 (by omega)
      have LH : Hid (h.length = len) := H.out.2.2.2.2
      go_wp2_with (at_builtin; refine wpList_append_lies _ rfl _ _ 22 rfl w3.heap.size 28 ie (.agg #[.int .i64 0, .int .i64 0, .int .i64 0]) 3 24 Tryd.underlying22 HI.out.1 HI.out.2.1 HI.out.2.2.1 HI.out.2.2.2 rfl (by decide) (.slice none 0 0) 0 [] rfl (World.ownsRow_nil _ _ _ _) ⟨b, off, none⟩ len cap (flat h) rfl (by rw [flat_len, LH.out]) (flat_news (H.out.2.2.1.later V3.out)) (flat_one h) (by omega) (by unfold maxLen; omega) (by omega) (Nat.le_refl _) _ rfl ?_; intro g capg wg hown hgrow hat hltg; have HO : Hid _ := hown; have HGr : Hid _ := hgrow; clear hown hgrow hat hltg)
      go_meet
      case rel =>
        have o := HO.out
        refine ⟨?_, ?_⟩
        · show World.ownsRow _ _ _ _ _ _ _
          rw [LH.out]
          simp only [Nat.zero_add, List.nil_append] at o
          exact ⟨o.1, o.2.elim (fun q => .inl q) (fun ⟨g', c', cur, e1, e2, e3⟩ => .inr ⟨g', c', cur, e1, Nat.le_trans V3.out.size e2, e3⟩)⟩
        · exact V3.out.grown HGr.out V3.out.size (fun k hk => by cases hk)
  case rest =>
    obtain ⟨hE, hB⟩ := hcut
    have LH : Hid (h.length = len) := H.out.2.2.2.2
    have hsz := hB.out.size
    go_wp2_with (at_builtin; refine wpList_append_lies _ rfl _ _ 22 rfl w.heap.size 28 ie (.agg #[.int .i64 0, .int .i64 0, .int .i64 0]) 3 24 Tryd.underlying22 HI.out.1 HI.out.2.1 HI.out.2.2.1 HI.out.2.2.2 rfl (by decide) _ len (flat h) rfl (by have o := hE.out.alloc (.cells #[.int .i64 who, .int .i64 2, .int .i64 wd] 28); unfold Eo at o; rw [LH.out] at o; exact o) ⟨wc.heap.size, 0, none⟩ 1 1 (flat [(who, 2, wd)]) rfl rfl (by exact news1 wc _ rfl who 2 wd 28) (flat_one _) (by omega) (by unfold maxLen; omega) (by omega) (by simp; omega) _ rfl ?_; intro g capg wg hown hgrow hat hltg; have HO : Hid _ := hown; have HGr : Hid _ := hgrow; clear hown hgrow hat hltg)
    have E4 : Hid (Eo wg w.heap.size (.slice (some ⟨g, 0, none⟩) (len + 1) capg) (h ++ [(who, 2, wd)])) := by
      have o := HO.out
      show World.ownsRow _ _ _ _ _ _ _
      rw [flat_append, List.length_append, LH.out]
      exact o
    have B4 : Hid (Below w.heap.size w wg) := (hB.out.alloc hB.out.size _).grown HGr.out (by simp; omega) (hE.out.own)
    clear HO HGr hE hB
    obtain ⟨-, x4, y4, z4, -⟩ := E4.out.ew
    have X4 : Hid (Ew wg (some ⟨g, 0, none⟩) (len + 1) (h ++ [(who, 2, wd)]) ∧ len + 1 ≤ capg ∧ capg ≤ maxLen) := ⟨x4, y4, z4⟩
    clear x4 y4 z4
    refine (check_any (some ⟨g, 0, none⟩) (len + 1) capg (h ++ [(who, 2, wd)]) _ X4.out.2.1 X4.out.2.2 X4.out.1).mono ?_
    rintro e w5 ⟨rfl, hb⟩
    have B5 : Hid (Below w.heap.size w w5) := below_up rfl B4.out hb
    have E5 : Hid (Eo w5 w.heap.size (.slice (some ⟨g, 0, none⟩) (len + 1) capg) (h ++ [(who, 2, wd)])) := E4.out.later hb
    clear hb B4 E4 X4
    rw [h2, errV_ok]
    have NX : Hid (next h (who, 2, wd) = 0) := by
      have q := chk_snoc (x := (who, 2, wd)) H1.out (by rw [LH.out]; omega)
      show next h (who, 2, wd) = 0
      rw [← q.1]
      exact h2
    have TW : Hid (chkC (h ++ [(who, 2, wd)] ++ [(other, 2, wd)]) = (if 0 ≤ other ∧ other < 5 then 7 else 1) ∧ chkAt (h ++ [(who, 2, wd)] ++ [(other, 2, wd)]) = ((len + 1 : Nat) : Int)) := by
      have hl : (h ++ [(who, 2, wd)]).length = len + 1 := by simp [LH.out]
      have q := chk_snoc (x := (other, 2, wd)) h2 (by rw [hl]; omega)
      have t := twice (other := other) NX.out
      rw [t] at q
      refine ⟨q.1, ?_⟩
      rw [q.2 (by split <;> decide), hl]
    clear h2
    have hsz5 := B5.out.size
    go_wp2_with (at_builtin; refine wpList_append_lies _ rfl _ _ 22 rfl w.heap.size 28 ie (.agg #[.int .i64 0, .int .i64 0, .int .i64 0]) 3 24 Tryd.underlying22 HI.out.1 HI.out.2.1 HI.out.2.2.1 HI.out.2.2.2 rfl (by decide) (.slice (some ⟨g, 0, none⟩) (len + 1) capg) (len + 1) (flat (h ++ [(who, 2, wd)])) rfl (by have o := E5.out.alloc (.cells #[.int .i64 other, .int .i64 2, .int .i64 wd] 28); unfold Eo at o; rw [List.length_append, LH.out] at o; exact o) ⟨w5.heap.size, 0, none⟩ 1 1 (flat [(other, 2, wd)]) rfl rfl (by exact news1 w5 _ rfl other 2 wd 28) (flat_one _) (by omega) (by unfold maxLen; omega) (by omega) (by simp; omega) _ rfl ?_; intro g2 capg2 wg2 hown hgrow hat hltg; have HO : Hid _ := hown; have HGr : Hid _ := hgrow; clear hown hgrow hat hltg)
    have E6 : Hid (Eo wg2 w.heap.size (.slice (some ⟨g2, 0, none⟩) (len + 1 + 1) capg2) (h ++ [(who, 2, wd)] ++ [(other, 2, wd)])) := by
      have o := HO.out
      show World.ownsRow _ _ _ _ _ _ _
      rw [flat_append, List.length_append, List.length_append, LH.out]
      exact o
    have B6 : Hid (Below w.heap.size w wg2) := (B5.out.alloc B5.out.size _).grown HGr.out (by simp; omega) (E5.out.own)
    clear HO HGr E5 B5
    obtain ⟨-, x4, y4, z4, -⟩ := E6.out.ew
    have X6 : Hid (Ew wg2 (some ⟨g2, 0, none⟩) (len + 1 + 1) (h ++ [(who, 2, wd)] ++ [(other, 2, wd)]) ∧ len + 1 + 1 ≤ capg2 ∧ capg2 ≤ maxLen) := ⟨x4, y4, z4⟩
    clear x4 y4 z4
    refine (check_any (some ⟨g2, 0, none⟩) (len + 1 + 1) capg2 (h ++ [(who, 2, wd)] ++ [(other, 2, wd)]) _ X6.out.2.1 X6.out.2.2 X6.out.1).mono ?_
    rintro e w7 ⟨rfl, hb⟩
    have B7 : Hid (Below w.heap.size w w7) := below_up rfl B6.out hb
    clear hb B6 E6 X6
    rw [TW.out.1, TW.out.2]
    have hq : (((len + 1 : Nat) : Int) == (len : Int) + 1) = true := by simp
    rw [if_neg (by omega), errV_no (by decide)]
    go_wp2_with fail
    refine (error_errno 1 7 _ (H.out.2.2.2.1.later B7.out)).mono ?_
    rintro e w8 ⟨rfl, hb⟩
    rw [show ((1 : Int) == 7) = false from rfl]
    have B8 : Hid (Below w.heap.size w w8) := below_up rfl B7.out hb
    clear hb B7
    go_wp2_with fail
    refine (error_errno 1 1 _ (H.out.2.2.2.1.later B8.out)).mono ?_
    rintro e w9 ⟨rfl, hb⟩
    rw [show ((1 : Int) == 1) = true from rfl]
    have B9 : Hid (Below w.heap.size w w9) := below_up rfl B8.out hb
    clear hb B8
    go_wp2
    go_ret
    exact ⟨rfl, B9.out⟩

set_option maxRecDepth 100000 in
set_option maxHeartbeats 4000000 in
theorem ha_high (a : Option Addr) (len cap : Nat) (h : List Ev) (wd who other : Int) (w : World) (hlc : len ≤ cap) (hm : cap ≤ maxLen) (hv : Ew w a len h) (hL : Laid w) (h1 : chkC h = 0) (h50 : len ≤ 50) (h2 : chkC (h ++ [(who, 2, wd)]) = 0) (ho : 4 < other) :
    Calls Tryd.prog 3 #[.slice a len cap, .int .i64 wd, .int .i64 who, .int .i64 other] w fun e w' => e = .returned (.bool true) ∧ Below w.heap.size w w' := by
  have H : Hid (len ≤ cap ∧ cap ≤ maxLen ∧ Ew w a len h ∧ Laid w ∧ h.length = len) := ⟨hlc, hm, hv, hL, hv.1⟩
  have hlen : len ≤ maxLen := Nat.le_trans hlc hm
  unfold maxLen at hlen
  clear hv hlc hm hL
  have B0 : Hid (Below w.heap.size w (w.alloc (.cells #[.int .i64 0, .int .i64 3, .int .i64 1] 28))) := (Below.refl _ _).alloc (Nat.le_refl _) _
  have O0 : Hid (Ew (w.alloc (.cells #[.int .i64 0, .int .i64 3, .int .i64 1] 28)) (some ⟨w.heap.size, 0, none⟩) 1 heard1) := Ew.heard1 w _
  go_enter Tryd.func3, Tryd.ntmps3
  go_wp2_with fail
  refine (check_any (some ⟨w.heap.size, 0, none⟩) 1 1 heard1 _ (by omega) (by unfold maxLen; omega) O0.out).mono ?_
  rintro e w1 ⟨rfl, hb⟩
  rw [heard1_c, errV_no (by decide)]
  have V1 : Hid (Below w.heap.size w w1) := below_up rfl B0.out hb
  clear hb B0 O0
  go_wp2_with fail
  refine (error_errno 5 5 _ (H.out.2.2.2.1.later V1.out)).mono ?_
  rintro e w2 ⟨rfl, hb⟩
  rw [show ((5 : Int) == 5) = true from rfl]
  have V2 : Hid (Below w.heap.size w w2) := below_up rfl V1.out hb
  clear hb V1
  go_wp2_with fail
  refine (check_any a len cap h _ H.out.1 H.out.2.1 (H.out.2.2.1.later V2.out)).mono ?_
  rintro e w3 ⟨rfl, hb⟩
  have V3 : Hid (Below w.heap.size w w3) := below_up rfl V2.out hb
  clear hb V2
  rw [h1, errV_ok]
  have H1 : Hid (chkC h = 0) := h1
  have h50' : (len : Int) ≤ 50 := by omega
  obtain ⟨ie, hi, hz0, hz1, hz2⟩ := info_ev
  have HI : Hid (Tryd.prog.info? 28 = some ie ∧ ie.zero = some (.agg #[.int .i64 0, .int .i64 0, .int .i64 0]) ∧ ie.size = 3 ∧ ie.bytes = 24) := ⟨hi, hz0, hz1, hz2⟩
  clear hi hz0 hz1 hz2 h1
  go_upto_region 8 with fail
  go_cut [13] from 37 (fun v wc => Hid (Eo wc w.heap.size v h) ∧ Hid (Below w.heap.size w wc))
  case first =>
    by_cases h0 : len = 0
    · subst h0
      have hh : Hid (h = []) := List.eq_nil_of_length_eq_zero H.out.2.2.2.2
      rcases a with _ | ad
      · go_wp2
        go_meet
        case rel =>
          rw [hh.out]
          exact ⟨World.ownsRow_nil _ _ _ _, V3.out⟩
      · go_wp2
        go_meet
        case rel =>
          rw [hh.out]
          exact ⟨World.ownsRow_nil _ _ _ _, V3.out⟩
    · obtain ⟨b, off, rfl, _, _⟩ := H.out.2.2.1.2 (by omega)
      have LH : Hid (h.length = len) := H.out.2.2.2.2
      go_wp2_with (at_builtin; refine wpList_append_lies _ rfl _ _ 22 rfl w3.heap.size 28 ie (.agg #[.int .i64 0, .int .i64 0, .int .i64 0]) 3 24 Tryd.underlying22 HI.out.1 HI.out.2.1 HI.out.2.2.1 HI.out.2.2.2 rfl (by decide) (.slice none 0 0) 0 [] rfl (World.ownsRow_nil _ _ _ _) ⟨b, off, none⟩ len cap (flat h) rfl (by rw [flat_len, LH.out]) (flat_news (H.out.2.2.1.later V3.out)) (flat_one h) (by omega) (by unfold maxLen; omega) (by omega) (Nat.le_refl _) _ rfl ?_; intro g capg wg hown hgrow hat hltg; have HO : Hid _ := hown; have HGr : Hid _ := hgrow; clear hown hgrow hat hltg)
      go_meet
      case rel =>
        have o := HO.out
        refine ⟨?_, ?_⟩
        · show World.ownsRow _ _ _ _ _ _ _
          rw [LH.out]
          simp only [Nat.zero_add, List.nil_append] at o
          exact ⟨o.1, o.2.elim (fun q => .inl q) (fun ⟨g', c', cur, e1, e2, e3⟩ => .inr ⟨g', c', cur, e1, Nat.le_trans V3.out.size e2, e3⟩)⟩
        · exact V3.out.grown HGr.out V3.out.size (fun k hk => by cases hk)
  case rest =>
    obtain ⟨hE, hB⟩ := hcut
    have LH : Hid (h.length = len) := H.out.2.2.2.2
    have hsz := hB.out.size
    go_wp2_with (at_builtin; refine wpList_append_lies _ rfl _ _ 22 rfl w.heap.size 28 ie (.agg #[.int .i64 0, .int .i64 0, .int .i64 0]) 3 24 Tryd.underlying22 HI.out.1 HI.out.2.1 HI.out.2.2.1 HI.out.2.2.2 rfl (by decide) _ len (flat h) rfl (by have o := hE.out.alloc (.cells #[.int .i64 who, .int .i64 2, .int .i64 wd] 28); unfold Eo at o; rw [LH.out] at o; exact o) ⟨wc.heap.size, 0, none⟩ 1 1 (flat [(who, 2, wd)]) rfl rfl (by exact news1 wc _ rfl who 2 wd 28) (flat_one _) (by omega) (by unfold maxLen; omega) (by omega) (by simp; omega) _ rfl ?_; intro g capg wg hown hgrow hat hltg; have HO : Hid _ := hown; have HGr : Hid _ := hgrow; clear hown hgrow hat hltg)
    have E4 : Hid (Eo wg w.heap.size (.slice (some ⟨g, 0, none⟩) (len + 1) capg) (h ++ [(who, 2, wd)])) := by
      have o := HO.out
      show World.ownsRow _ _ _ _ _ _ _
      rw [flat_append, List.length_append, LH.out]
      exact o
    have B4 : Hid (Below w.heap.size w wg) := (hB.out.alloc hB.out.size _).grown HGr.out (by simp; omega) (hE.out.own)
    clear HO HGr hE hB
    obtain ⟨-, x4, y4, z4, -⟩ := E4.out.ew
    have X4 : Hid (Ew wg (some ⟨g, 0, none⟩) (len + 1) (h ++ [(who, 2, wd)]) ∧ len + 1 ≤ capg ∧ capg ≤ maxLen) := ⟨x4, y4, z4⟩
    clear x4 y4 z4
    refine (check_any (some ⟨g, 0, none⟩) (len + 1) capg (h ++ [(who, 2, wd)]) _ X4.out.2.1 X4.out.2.2 X4.out.1).mono ?_
    rintro e w5 ⟨rfl, hb⟩
    have B5 : Hid (Below w.heap.size w w5) := below_up rfl B4.out hb
    have E5 : Hid (Eo w5 w.heap.size (.slice (some ⟨g, 0, none⟩) (len + 1) capg) (h ++ [(who, 2, wd)])) := E4.out.later hb
    clear hb B4 E4 X4
    rw [h2, errV_ok]
    have NX : Hid (next h (who, 2, wd) = 0) := by
      have q := chk_snoc (x := (who, 2, wd)) H1.out (by rw [LH.out]; omega)
      show next h (who, 2, wd) = 0
      rw [← q.1]
      exact h2
    have TW : Hid (chkC (h ++ [(who, 2, wd)] ++ [(other, 2, wd)]) = (if 0 ≤ other ∧ other < 5 then 7 else 1) ∧ chkAt (h ++ [(who, 2, wd)] ++ [(other, 2, wd)]) = ((len + 1 : Nat) : Int)) := by
      have hl : (h ++ [(who, 2, wd)]).length = len + 1 := by simp [LH.out]
      have q := chk_snoc (x := (other, 2, wd)) h2 (by rw [hl]; omega)
      have t := twice (other := other) NX.out
      rw [t] at q
      refine ⟨q.1, ?_⟩
      rw [q.2 (by split <;> decide), hl]
    clear h2
    have hsz5 := B5.out.size
    go_wp2_with (at_builtin; refine wpList_append_lies _ rfl _ _ 22 rfl w.heap.size 28 ie (.agg #[.int .i64 0, .int .i64 0, .int .i64 0]) 3 24 Tryd.underlying22 HI.out.1 HI.out.2.1 HI.out.2.2.1 HI.out.2.2.2 rfl (by decide) (.slice (some ⟨g, 0, none⟩) (len + 1) capg) (len + 1) (flat (h ++ [(who, 2, wd)])) rfl (by have o := E5.out.alloc (.cells #[.int .i64 other, .int .i64 2, .int .i64 wd] 28); unfold Eo at o; rw [List.length_append, LH.out] at o; exact o) ⟨w5.heap.size, 0, none⟩ 1 1 (flat [(other, 2, wd)]) rfl rfl (by exact news1 w5 _ rfl other 2 wd 28) (flat_one _) (by omega) (by unfold maxLen; omega) (by omega) (by simp; omega) _ rfl ?_; intro g2 capg2 wg2 hown hgrow hat hltg; have HO : Hid _ := hown; have HGr : Hid _ := hgrow; clear hown hgrow hat hltg)
    have E6 : Hid (Eo wg2 w.heap.size (.slice (some ⟨g2, 0, none⟩) (len + 1 + 1) capg2) (h ++ [(who, 2, wd)] ++ [(other, 2, wd)])) := by
      have o := HO.out
      show World.ownsRow _ _ _ _ _ _ _
      rw [flat_append, List.length_append, List.length_append, LH.out]
      exact o
    have B6 : Hid (Below w.heap.size w wg2) := (B5.out.alloc B5.out.size _).grown HGr.out (by simp; omega) (E5.out.own)
    clear HO HGr E5 B5
    obtain ⟨-, x4, y4, z4, -⟩ := E6.out.ew
    have X6 : Hid (Ew wg2 (some ⟨g2, 0, none⟩) (len + 1 + 1) (h ++ [(who, 2, wd)] ++ [(other, 2, wd)]) ∧ len + 1 + 1 ≤ capg2 ∧ capg2 ≤ maxLen) := ⟨x4, y4, z4⟩
    clear x4 y4 z4
    refine (check_any (some ⟨g2, 0, none⟩) (len + 1 + 1) capg2 (h ++ [(who, 2, wd)] ++ [(other, 2, wd)]) _ X6.out.2.1 X6.out.2.2 X6.out.1).mono ?_
    rintro e w7 ⟨rfl, hb⟩
    have B7 : Hid (Below w.heap.size w w7) := below_up rfl B6.out hb
    clear hb B6 E6 X6
    rw [TW.out.1, TW.out.2]
    have hq : (((len + 1 : Nat) : Int) == (len : Int) + 1) = true := by simp
    rw [if_neg (by omega), errV_no (by decide)]
    go_wp2_with fail
    refine (error_errno 1 7 _ (H.out.2.2.2.1.later B7.out)).mono ?_
    rintro e w8 ⟨rfl, hb⟩
    rw [show ((1 : Int) == 7) = false from rfl]
    have B8 : Hid (Below w.heap.size w w8) := below_up rfl B7.out hb
    clear hb B7
    go_wp2_with fail
    refine (error_errno 1 1 _ (H.out.2.2.2.1.later B8.out)).mono ?_
    rintro e w9 ⟨rfl, hb⟩
    rw [show ((1 : Int) == 1) = true from rfl]
    have B9 : Hid (Below w.heap.size w w9) := below_up rfl B8.out hb
    clear hb B8
    go_wp2
    go_ret
    exact ⟨rfl, B9.out⟩

theorem ha_walk (a : Option Addr) (len cap : Nat) (h : List Ev) (wd who other : Int) (w : World) (hlc : len ≤ cap) (hm : cap ≤ maxLen) (hv : Ew w a len h) (hL : Laid w) :
    Calls Tryd.prog 3 #[.slice a len cap, .int .i64 wd, .int .i64 who, .int .i64 other] w fun e w' => e = .returned (.bool true) ∧ Below w.heap.size w w' := by
  by_cases h1 : chkC h = 0
  · by_cases h50 : len ≤ 50
    · by_cases h2 : chkC (h ++ [(who, 2, wd)]) = 0
      · by_cases lo : other < 0
        · exact ha_low a len cap h wd who other w hlc hm hv hL h1 h50 h2 lo
        · by_cases hi : 4 < other
          · exact ha_high a len cap h wd who other w hlc hm hv hL h1 h50 h2 hi
          · exact ha_seven a len cap h wd who other w hlc hm hv hL h1 h50 h2 (by omega)
      · exact ha_bad a len cap h wd who other w hlc hm hv hL h1 h50 h2
    · exact ha_long a len cap h wd who other w hlc hm hv hL h1 (by omega)
  · exact ha_no a len cap h wd who other w hlc hm hv hL h1
end Go.Proofs.YtcmfhlegpgmakabDoor.His
