/-
  Contract of package history's Check: which event is the first that is wrong, and how.
-/
import Derived.Test.YtpjoaogiaacikakDoorHisB
import Derived.Deep.RegionWith
namespace Go.Proofs.YtpjoaogiaacikakDoor.His
open Go.RowKit

def firstBad (h : List Ev) : Option Nat := (List.range h.length).find? fun i => decide (next (h.take i) (ev h i) ≠ 0)
def chkC (h : List Ev) : Int := if 60 < h.length then 4 else (match firstBad h with | none => 0 | some i => next (h.take i) (ev h i))
def chkAt (h : List Ev) : Int := if 60 < h.length then 0 else (match firstBad h with | none => 0 | some i => (i : Int))
theorem chk_full {h : List Ev} (hl : 60 < h.length) : chkC h = 4 ∧ chkAt h = 0 := by
  unfold chkC chkAt
  exact ⟨if_pos hl, if_pos hl⟩
theorem find_range_some {p : Nat → Bool} {n i : Nat} (hi : i < n) (hp : p i = true) (hb : ∀ j, j < i → p j = false) : (List.range n).find? p = some i := by
  rw [List.find?_range_eq_some]
  exact ⟨hp, List.mem_range.2 hi, fun j hj => by simp [hb j hj]⟩
theorem chk_bad {h : List Ev} {i : Nat} (hl : h.length ≤ 60) (hi : i < h.length) (hg : Good h i) (hn : next (h.take i) (ev h i) ≠ 0) : chkC h = next (h.take i) (ev h i) ∧ chkAt h = (i : Int) := by
  have hf : firstBad h = some i := find_range_some hi (decide_eq_true hn) fun j hj => decide_eq_false (by simp [hg j hj])
  unfold chkC chkAt
  rw [if_neg (by omega), if_neg (by omega), hf]
  exact ⟨rfl, rfl⟩
theorem chk_ok {h : List Ev} (hl : h.length ≤ 60) (hg : Good h h.length) : chkC h = 0 ∧ chkAt h = 0 := by
  have hf : firstBad h = none := by
    unfold firstBad
    rw [List.find?_eq_none]
    intro i hi
    rw [List.mem_range] at hi
    simp [hg i hi]
  unfold chkC chkAt
  rw [if_neg (by omega), if_neg (by omega), hf]
  exact ⟨rfl, rfl⟩
theorem chk_zero {h : List Ev} (hc : chkC h = 0) : h.length ≤ 60 ∧ Good h h.length := by
  by_cases hl : 60 < h.length
  · rw [(chk_full hl).1] at hc
    omega
  · refine ⟨by omega, ?_⟩
    cases hf : firstBad h with
    | none =>
      unfold firstBad at hf
      rw [List.find?_eq_none] at hf
      intro i hi
      have := hf i (List.mem_range.2 hi)
      simpa using this
    | some i =>
      exfalso
      have hp := List.find?_some hf
      unfold chkC at hc
      rw [if_neg hl, hf] at hc
      simp [hc] at hp
theorem ev_take {h : List Ev} {k j : Nat} (hj : j < k) : ev (h.take k) j = ev h j := by
  simp [ev, List.getD, List.getElem?_take_of_lt hj]
theorem Ew.take {w : World} {a : Option Addr} {len : Nat} {h : List Ev} (g : Ew w a len h) {k : Nat} (hk : k ≤ len) : Ew w a k (h.take k) := by
  refine ⟨by rw [List.length_take, g.1]; omega, fun h0 => ?_⟩
  obtain ⟨b, off, e, hlt, hc⟩ := g.2 (by omega)
  refine ⟨b, off, e, hlt, fun j hj => ?_⟩
  rw [ev_take hj]
  exact hc j (by omega)
theorem errV_ok : errV 0 = .nilIface := rfl
theorem errV_no {c : Int} (h : c ≠ 0) : errV c = .iface 49 (.int .i64 c) := by simp [errV, h]

set_option maxRecDepth 100000 in
theorem check_any (a : Option Addr) (len cap : Nat) (h : List Ev) (w : World) (hlc : len ≤ cap) (hm : cap ≤ maxLen) (hv : Ew w a len h) :
    Calls Tryd.prog 19 #[.slice a len cap] w fun x w' => x = .returned (.tuple #[.int .i64 (chkAt h), errV (chkC h)]) ∧ Below w.heap.size w w' := by
  have HL : Hid (h.length = len) := hv.1
  by_cases h60 : 60 < len
  · have h60' : (60 : Int) < (len : Int) := by omega
    have E := chk_full (h := h) (by rw [HL.out]; exact h60)
    rw [E.1, E.2]
    clear E hv
    go_enter Tryd.func19, Tryd.ntmps19
    go_wp2
    go_ret2
    exact ⟨rfl, Below.refl _ _⟩
  · have h60' : (len : Int) ≤ 60 := by omega
    have G : Hid (Ew w a len h) := hv
    have HM : Hid (len ≤ cap ∧ cap ≤ maxLen) := ⟨hlc, hm⟩
    unfold maxLen at hm
    clear hv
    go_enter Tryd.func19, Tryd.ntmps19
    go_wp2
    go_loopw [13] (fun i wr => ∃ k : Nat, k ≤ len ∧ i = .int .i64 k ∧ Hid (Below w.heap.size w wr) ∧ Hid (Good h k)) (fun i _ => len - (intOf i).toNat)
    case atStart => exact ⟨0, by omega, rfl, Below.refl _ _, fun j hj => absurd hj (by omega)⟩
    case round =>
      obtain ⟨k, hk, rfl, hbel, hp⟩ := hrel
      by_cases hlt : k < len
      · obtain ⟨b, off, rfl, hpb, hcs⟩ := (G.out.later hbel.out).2 (by omega)
        obtain ⟨c0, c1, c2⟩ := hcs k hlt
        obtain ⟨q, eq⟩ : ∃ q, q = ev h k := ⟨_, rfl⟩
        rw [← eq] at c0 c1 c2
        obtain ⟨q0, q1, q2⟩ := q
        have EQ : Hid _ := eq
        clear hcs eq hpb
        have hk0 : (0 : Int) ≤ (k : Int) := by omega
        have hkl : (k : Int) < (len : Int) := by omega
        have hkc : (k : Int) ≤ (cap : Int) := by omega
        have BQ : Hid (Below w.heap.size w (wr.alloc (.cells #[.int .i64 q0, .int .i64 q1, .int .i64 q2] 28)).drew) := (hbel.out.alloc hbel.out.size _).drew
        have g1 : Hid (k ≤ maxLen) := by have := HM.out; show k ≤ maxLen; omega
        have hkl' : Hid (k ≤ len) := by show k ≤ len; omega
        by_cases hn : next (h.take k) (ev h k) = 0
        · go_wp2_with fail
          go_region_with (go_at_call 29; refine (checkNext_any (some ⟨b, off, none⟩) k cap (h.take k) q0 q1 q2 _ g1.out ((G.out.later BQ.out).take hkl'.out)).mono ?_; rintro e w1 ⟨rfl, hb⟩; rw [EQ.out, hn, errV_ok])
          go_wp2
          go_roundw
          case rel => exact ⟨k + 1, by omega, by go_num, below_up rfl BQ.out hb, fun j hj => if e : j < k then hp.out j e else by rw [show j = k by omega]; exact hn⟩
          case measure => simp [intOf]; omega
        · have HN : Hid (next (h.take k) (ev h k) ≠ 0) := hn
          have E : Hid _ := chk_bad (h := h) (by rw [HL.out]; omega) (by rw [HL.out]; exact hlt) hp.out hn
          go_wp2_with fail
          go_region_with (go_at_call 29; refine (checkNext_any (some ⟨b, off, none⟩) k cap (h.take k) q0 q1 q2 _ g1.out ((G.out.later BQ.out).take hkl'.out)).mono ?_; rintro e w1 ⟨rfl, hb⟩; rw [EQ.out, errV_no hn])
          go_wp2
          go_ret2
          refine ⟨?_, below_up rfl BQ.out hb⟩
          rw [E.out.1, E.out.2, errV_no HN.out]
          rfl
      · have hkl : k = len := by omega
        subst hkl
        have E : Hid _ := chk_ok (h := h) (by rw [HL.out]; omega) (by rw [HL.out]; exact hp.out)
        go_wp2
        go_ret2
        refine ⟨?_, hbel.out⟩
        rw [E.out.1, E.out.2]
        rfl
end Go.Proofs.YtpjoaogiaacikakDoor.His
