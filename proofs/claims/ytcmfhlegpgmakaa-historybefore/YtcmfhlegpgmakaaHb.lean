/-
  The walk of HistoryBefore: package history's order is an order, and beginnings are cuts that could have been.
-/
import Derived.Test.YtcmfhlegpgmakaaHisU
namespace Go.Proofs.Ytcmfhlegpgmakaa.His
open Go.RowKit
open Go.Proofs.Ytcmfhlegpgmakaa.Vec

def befB (h : List Ev) (i k : Int) : Bool := decide (befC h i k = 0) && bef h i.toNat k.toNat
theorem before_any (a : Option Addr) (len cap : Nat) (h : List Ev) (i k : Int) (w : World) (hlc : len ≤ cap) (hm : cap ≤ maxLen) (hv : Ew w a len h) :
    Calls Try.prog 13 #[.slice a len cap, .int .i64 i, .int .i64 k] w fun e w' => e = .returned (.tuple #[.bool (befB h i k), errV (befC h i k)]) ∧ Below w.heap.size w w' := by
  by_cases hc : befC h i k = 0
  · obtain ⟨_, i0, _, k0, _⟩ := befC_zero hc
    obtain ⟨x, rfl⟩ := Int.eq_ofNat_of_zero_le i0
    obtain ⟨y, rfl⟩ := Int.eq_ofNat_of_zero_le k0
    refine (before_ok a len cap h x y w hlc hm hv hc).mono ?_
    rintro e w' ⟨rfl, hb⟩
    refine ⟨?_, hb⟩
    rw [befB, decide_eq_true hc, hc]
    rfl
  · refine (before_no a len cap h i k w hlc hm hv hc).mono ?_
    rintro e w' ⟨rfl, hb⟩
    refine ⟨?_, hb⟩
    rw [befB, decide_eq_false hc]
    rfl

def one3 : List Ev := [(0, 2, 1), (1, 3, 1), (2, 1, 0)]
theorem one3_a : befC one3 0 1 = 0 := by decide
theorem one3_b : befB one3 0 1 = true := by decide
theorem one3_c : befC one3 0 2 = 0 := by decide
theorem one3_d : befB one3 0 2 = false := by decide
theorem Ew.one3 (w : World) (t : TypeId) : Ew (w.alloc (.cells #[.int .i64 0, .int .i64 2, .int .i64 1, .int .i64 1, .int .i64 3, .int .i64 1, .int .i64 2, .int .i64 1, .int .i64 0] t)) (some ⟨w.heap.size, 0, none⟩) 3 His.one3 := by
  refine ⟨rfl, fun _ => ⟨_, _, rfl, by simp, fun k hk => ?_⟩⟩
  rcases k with _ | _ | _ | k
  · refine ⟨?_, ?_, ?_⟩ <;> simp <;> rfl
  · refine ⟨?_, ?_, ?_⟩ <;> simp <;> rfl
  · refine ⟨?_, ?_, ?_⟩ <;> simp <;> rfl
  · omega

/-- of three events that are there: what the order asks -/
theorem order_of {h : List Ev} {i k j : Int} (h1 : befC h i k = 0) (h2 : befC h k j = 0) :
    befC h i j = 0 ∧ befC h k i = 0 ∧ befC h i i = 0 ∧ befB h i i = false ∧
    ((befB h i k = false) ∨ (befB h i k = true ∧ i < k ∧ befB h k i = false ∧ befB h k j = false) ∨ (befB h i k = true ∧ i < k ∧ befB h k i = false ∧ befB h k j = true ∧ befB h i j = true)) := by
  obtain ⟨z, i0, i1, k0, k1⟩ := befC_zero h1
  obtain ⟨_, _, _, j0, j1⟩ := befC_zero h2
  obtain ⟨_, hg⟩ := chk_zero z
  have mk : ∀ x y : Int, 0 ≤ x → x < h.length → 0 ≤ y → y < h.length → befC h x y = 0 := by
    intro x y a b c d
    unfold befC plC
    rw [if_pos z, if_neg]
    simp [offP]
    omega
  have bB : ∀ x y : Int, befC h x y = 0 → befB h x y = bef h x.toNat y.toNat := fun x y hc => by rw [befB, decide_eq_true hc]; rfl
  have e3 := mk i j i0 i1 j0 j1
  have e4 := mk k i k0 k1 i0 i1
  have e5 := mk i i i0 i1 i0 i1
  refine ⟨e3, e4, e5, ?_, ?_⟩
  · rw [bB _ _ e5, bef_self]
  · rw [bB _ _ h1, bB _ _ h2, bB _ _ e3, bB _ _ e4]
    cases ha : bef h i.toNat k.toNat with
    | false => exact .inl rfl
    | true =>
      right
      have hik := bef_lt hg (show i.toNat < h.length by omega) (show k.toNat < h.length by omega) ha
      have hd : bef h k.toNat i.toNat = false := by
        cases hd : bef h k.toNat i.toNat with
        | false => rfl
        | true =>
          have := bef_lt hg (show k.toNat < h.length by omega) (show i.toNat < h.length by omega) hd
          omega
      cases hb : bef h k.toNat j.toNat with
      | false => exact .inl ⟨rfl, by omega, hd, rfl⟩
      | true => exact .inr ⟨rfl, by omega, hd, rfl, bef_trans hg (show i.toNat < h.length by omega) (show k.toNat < h.length by omega) (show j.toNat < h.length by omega) ha hb⟩

/-- so many of each member, up to a place -/
def upto (h : List Ev) (n : Nat) : List Int := [cnt h 0 n, cnt h 1 n, cnt h 2 n, cnt h 3 n, cnt h 4 n]
theorem upto_get (h : List Ev) (n i : Nat) (hi : i < 5) : (upto h n).getD i 0 = cnt h i n := by
  rcases i with _ | _ | _ | _ | _ | i
  · rfl
  · rfl
  · rfl
  · rfl
  · rfl
  · omega
theorem upto_cutC {h : List Ev} {n : Nat} (hc : chkC h = 0) (hn : n ≤ h.length) : cutC h (upto h n) = 0 := by
  obtain ⟨h60, _⟩ := chk_zero hc
  have c0 : code (upto h n) = 0 := by
    refine code_ok rfl fun i hi => ?_
    rw [upto_get h n i hi]
    have := cnt_nonneg h i n
    have := cnt_le h i n
    omega
  rw [cutC, if_pos hc, manyC, if_pos c0, if_neg]
  rw [gt_of]
  · decide
  · intro j hj
    rw [upto_get h n j hj, cnts_get h j hj]
    exact cnt_mono h j hn
theorem upto_cutB {h : List Ev} {n : Nat} (hc : chkC h = 0) : cutB h (upto h n) = true := by
  obtain ⟨_, hg⟩ := chk_zero hc
  rw [cutB, List.all_eq_true]
  intro i hi
  exact begin_cut hg (List.mem_range.1 hi) (upto h n) (fun m hm => upto_get h n m hm)

set_option maxRecDepth 100000 in
set_option maxHeartbeats 4000000 in
theorem hb_no1 (a : Option Addr) (len cap : Nat) (h : List Ev) (i k j : Int) (w : World) (hlc : len ≤ cap) (hm : cap ≤ maxLen) (hv : Ew w a len h) (h1 : befC h i k ≠ 0) :
    Calls Try.prog 6 #[.slice a len cap, .int .i64 i, .int .i64 k, .int .i64 j] w fun e w' => e = .returned (.bool true) ∧ Below w.heap.size w w' := by
  have H : Hid (len ≤ cap ∧ cap ≤ maxLen ∧ Ew w a len h) := ⟨hlc, hm, hv⟩
  have hlen : len ≤ maxLen := Nat.le_trans hlc hm
  unfold maxLen at hlen
  clear hv hlc hm
  have hmk : ∀ w, (Instr.makeSlice 26 (.int .i64 5) (.int .i64 5)).run Try.prog w = .ok (.slice (some ⟨w.heap.size, 0, none⟩) 5 5) (w.alloc (.cells #[.int .i64 0, .int .i64 0, .int .i64 0, .int .i64 0, .int .i64 0] 3)) := fun _ => by kernel_rfl
  have B0 : Hid (Below w.heap.size w (w.alloc (.cells #[.int .i64 0, .int .i64 2, .int .i64 1, .int .i64 1, .int .i64 3, .int .i64 1, .int .i64 2, .int .i64 1, .int .i64 0] 38))) := (Below.refl _ _).alloc (Nat.le_refl _) _
  have O0 : Hid (Ew (w.alloc (.cells #[.int .i64 0, .int .i64 2, .int .i64 1, .int .i64 1, .int .i64 3, .int .i64 1, .int .i64 2, .int .i64 1, .int .i64 0] 38)) (some ⟨w.heap.size, 0, none⟩) 3 one3) := Ew.one3 w _
  go_enter Try.func6, Try.ntmps6
  go_wp2_with fail
  refine (before_any (some ⟨w.heap.size, 0, none⟩) 3 3 one3 0 1 _ (by omega) (by unfold maxLen; omega) O0.out).mono ?_
  rintro e w1 ⟨rfl, hb⟩
  rw [one3_a, one3_b, errV_ok]
  have V1 : Hid (Below w.heap.size w w1) := below_up rfl B0.out hb
  have O1 : Hid (Ew w1 (some ⟨w.heap.size, 0, none⟩) 3 one3) := O0.out.later hb
  clear hb B0 O0
  go_wp2_with fail
  refine (before_any (some ⟨w.heap.size, 0, none⟩) 3 3 one3 0 2 _ (by omega) (by unfold maxLen; omega) O1.out).mono ?_
  rintro e w2 ⟨rfl, hb⟩
  rw [one3_c, one3_d, errV_ok]
  have V2 : Hid (Below w.heap.size w w2) := below_up rfl V1.out hb
  clear hb V1 O1
  go_wp2_with fail
  refine (before_any a len cap h i k _ H.out.1 H.out.2.1 (H.out.2.2.later V2.out)).mono ?_
  rintro e w3 ⟨rfl, hb⟩
  rw [errV_no h1]
  have V3 : Hid (Below w.heap.size w w3) := below_up rfl V2.out hb
  clear hb V2
  go_wp2_with fail
  refine (before_any a len cap h k j _ H.out.1 H.out.2.1 (H.out.2.2.later V3.out)).mono ?_
  rintro e w4 ⟨rfl, hb⟩
  generalize befB h k j = bb4
  generalize errV (befC h k j) = ee4
  have V4 : Hid (Below w.heap.size w w4) := below_up rfl V3.out hb
  clear hb V3
  go_wp2_with fail
  refine (before_any a len cap h i j _ H.out.1 H.out.2.1 (H.out.2.2.later V4.out)).mono ?_
  rintro e w5 ⟨rfl, hb⟩
  generalize befB h i j = bb5
  generalize errV (befC h i j) = ee5
  have V5 : Hid (Below w.heap.size w w5) := below_up rfl V4.out hb
  clear hb V4
  go_wp2_with fail
  refine (before_any a len cap h k i _ H.out.1 H.out.2.1 (H.out.2.2.later V5.out)).mono ?_
  rintro e w6 ⟨rfl, hb⟩
  generalize befB h k i = bb6
  generalize errV (befC h k i) = ee6
  have V6 : Hid (Below w.heap.size w w6) := below_up rfl V5.out hb
  clear hb V5
  go_wp2_with fail
  refine (before_any a len cap h i i _ H.out.1 H.out.2.1 (H.out.2.2.later V6.out)).mono ?_
  rintro e w7 ⟨rfl, hb⟩
  generalize befB h i i = bb7
  generalize errV (befC h i i) = ee7
  have V7 : Hid (Below w.heap.size w w7) := below_up rfl V6.out hb
  clear hb V6
  go_wp2
  go_ret
  exact ⟨rfl, V7.out⟩

set_option maxRecDepth 100000 in
set_option maxHeartbeats 4000000 in
theorem hb_no2 (a : Option Addr) (len cap : Nat) (h : List Ev) (i k j : Int) (w : World) (hlc : len ≤ cap) (hm : cap ≤ maxLen) (hv : Ew w a len h) (h1 : befC h i k = 0) (h2 : befC h k j ≠ 0) :
    Calls Try.prog 6 #[.slice a len cap, .int .i64 i, .int .i64 k, .int .i64 j] w fun e w' => e = .returned (.bool true) ∧ Below w.heap.size w w' := by
  have H : Hid (len ≤ cap ∧ cap ≤ maxLen ∧ Ew w a len h) := ⟨hlc, hm, hv⟩
  have hlen : len ≤ maxLen := Nat.le_trans hlc hm
  unfold maxLen at hlen
  clear hv hlc hm
  have hmk : ∀ w, (Instr.makeSlice 26 (.int .i64 5) (.int .i64 5)).run Try.prog w = .ok (.slice (some ⟨w.heap.size, 0, none⟩) 5 5) (w.alloc (.cells #[.int .i64 0, .int .i64 0, .int .i64 0, .int .i64 0, .int .i64 0] 3)) := fun _ => by kernel_rfl
  have B0 : Hid (Below w.heap.size w (w.alloc (.cells #[.int .i64 0, .int .i64 2, .int .i64 1, .int .i64 1, .int .i64 3, .int .i64 1, .int .i64 2, .int .i64 1, .int .i64 0] 38))) := (Below.refl _ _).alloc (Nat.le_refl _) _
  have O0 : Hid (Ew (w.alloc (.cells #[.int .i64 0, .int .i64 2, .int .i64 1, .int .i64 1, .int .i64 3, .int .i64 1, .int .i64 2, .int .i64 1, .int .i64 0] 38)) (some ⟨w.heap.size, 0, none⟩) 3 one3) := Ew.one3 w _
  go_enter Try.func6, Try.ntmps6
  go_wp2_with fail
  refine (before_any (some ⟨w.heap.size, 0, none⟩) 3 3 one3 0 1 _ (by omega) (by unfold maxLen; omega) O0.out).mono ?_
  rintro e w1 ⟨rfl, hb⟩
  rw [one3_a, one3_b, errV_ok]
  have V1 : Hid (Below w.heap.size w w1) := below_up rfl B0.out hb
  have O1 : Hid (Ew w1 (some ⟨w.heap.size, 0, none⟩) 3 one3) := O0.out.later hb
  clear hb B0 O0
  go_wp2_with fail
  refine (before_any (some ⟨w.heap.size, 0, none⟩) 3 3 one3 0 2 _ (by omega) (by unfold maxLen; omega) O1.out).mono ?_
  rintro e w2 ⟨rfl, hb⟩
  rw [one3_c, one3_d, errV_ok]
  have V2 : Hid (Below w.heap.size w w2) := below_up rfl V1.out hb
  clear hb V1 O1
  go_wp2_with fail
  refine (before_any a len cap h i k _ H.out.1 H.out.2.1 (H.out.2.2.later V2.out)).mono ?_
  rintro e w3 ⟨rfl, hb⟩
  rw [h1, errV_ok]
  have V3 : Hid (Below w.heap.size w w3) := below_up rfl V2.out hb
  clear hb V2
  go_wp2_with fail
  refine (before_any a len cap h k j _ H.out.1 H.out.2.1 (H.out.2.2.later V3.out)).mono ?_
  rintro e w4 ⟨rfl, hb⟩
  rw [errV_no h2]
  have V4 : Hid (Below w.heap.size w w4) := below_up rfl V3.out hb
  clear hb V3
  go_wp2_with fail
  refine (before_any a len cap h i j _ H.out.1 H.out.2.1 (H.out.2.2.later V4.out)).mono ?_
  rintro e w5 ⟨rfl, hb⟩
  generalize befB h i j = bb5
  generalize errV (befC h i j) = ee5
  have V5 : Hid (Below w.heap.size w w5) := below_up rfl V4.out hb
  clear hb V4
  go_wp2_with fail
  refine (before_any a len cap h k i _ H.out.1 H.out.2.1 (H.out.2.2.later V5.out)).mono ?_
  rintro e w6 ⟨rfl, hb⟩
  generalize befB h k i = bb6
  generalize errV (befC h k i) = ee6
  have V6 : Hid (Below w.heap.size w w6) := below_up rfl V5.out hb
  clear hb V5
  go_wp2_with fail
  refine (before_any a len cap h i i _ H.out.1 H.out.2.1 (H.out.2.2.later V6.out)).mono ?_
  rintro e w7 ⟨rfl, hb⟩
  generalize befB h i i = bb7
  generalize errV (befC h i i) = ee7
  have V7 : Hid (Below w.heap.size w w7) := below_up rfl V6.out hb
  clear hb V6
  go_wp2
  go_ret
  exact ⟨rfl, V7.out⟩

set_option maxRecDepth 100000 in
set_option maxHeartbeats 4000000 in
theorem hb_ok1 (a : Option Addr) (len cap : Nat) (h : List Ev) (i k j : Int) (w : World) (hlc : len ≤ cap) (hm : cap ≤ maxLen) (hv : Ew w a len h) (h1 : befC h i k = 0) (h2 : befC h k j = 0) (h3 : befC h i j = 0) (h4 : befC h k i = 0) (h5 : befC h i i = 0) (hs : befB h i i = false) (ha : befB h i k = false) :
    Calls Try.prog 6 #[.slice a len cap, .int .i64 i, .int .i64 k, .int .i64 j] w fun e w' => e = .returned (.bool true) ∧ Below w.heap.size w w' := by
  have H : Hid (len ≤ cap ∧ cap ≤ maxLen ∧ Ew w a len h) := ⟨hlc, hm, hv⟩
  have hlen : len ≤ maxLen := Nat.le_trans hlc hm
  unfold maxLen at hlen
  clear hv hlc hm
  have H1 : Hid (befC h i k = 0 ∧ befC h k j = 0) := ⟨h1, h2⟩
  have hmk : ∀ w, (Instr.makeSlice 26 (.int .i64 5) (.int .i64 5)).run Try.prog w = .ok (.slice (some ⟨w.heap.size, 0, none⟩) 5 5) (w.alloc (.cells #[.int .i64 0, .int .i64 0, .int .i64 0, .int .i64 0, .int .i64 0] 3)) := fun _ => by kernel_rfl
  have B0 : Hid (Below w.heap.size w (w.alloc (.cells #[.int .i64 0, .int .i64 2, .int .i64 1, .int .i64 1, .int .i64 3, .int .i64 1, .int .i64 2, .int .i64 1, .int .i64 0] 38))) := (Below.refl _ _).alloc (Nat.le_refl _) _
  have O0 : Hid (Ew (w.alloc (.cells #[.int .i64 0, .int .i64 2, .int .i64 1, .int .i64 1, .int .i64 3, .int .i64 1, .int .i64 2, .int .i64 1, .int .i64 0] 38)) (some ⟨w.heap.size, 0, none⟩) 3 one3) := Ew.one3 w _
  go_enter Try.func6, Try.ntmps6
  go_wp2_with fail
  refine (before_any (some ⟨w.heap.size, 0, none⟩) 3 3 one3 0 1 _ (by omega) (by unfold maxLen; omega) O0.out).mono ?_
  rintro e w1 ⟨rfl, hb⟩
  rw [one3_a, one3_b, errV_ok]
  have V1 : Hid (Below w.heap.size w w1) := below_up rfl B0.out hb
  have O1 : Hid (Ew w1 (some ⟨w.heap.size, 0, none⟩) 3 one3) := O0.out.later hb
  clear hb B0 O0
  go_wp2_with fail
  refine (before_any (some ⟨w.heap.size, 0, none⟩) 3 3 one3 0 2 _ (by omega) (by unfold maxLen; omega) O1.out).mono ?_
  rintro e w2 ⟨rfl, hb⟩
  rw [one3_c, one3_d, errV_ok]
  have V2 : Hid (Below w.heap.size w w2) := below_up rfl V1.out hb
  clear hb V1 O1
  go_wp2_with fail
  refine (before_any a len cap h i k _ H.out.1 H.out.2.1 (H.out.2.2.later V2.out)).mono ?_
  rintro e w3 ⟨rfl, hb⟩
  rw [h1, errV_ok, ha]
  have V3 : Hid (Below w.heap.size w w3) := below_up rfl V2.out hb
  clear hb V2
  go_wp2_with fail
  refine (before_any a len cap h k j _ H.out.1 H.out.2.1 (H.out.2.2.later V3.out)).mono ?_
  rintro e w4 ⟨rfl, hb⟩
  rw [h2, errV_ok]
  have V4 : Hid (Below w.heap.size w w4) := below_up rfl V3.out hb
  clear hb V3
  generalize befB h k j = bb4
  go_wp2_with fail
  refine (before_any a len cap h i j _ H.out.1 H.out.2.1 (H.out.2.2.later V4.out)).mono ?_
  rintro e w5 ⟨rfl, hb⟩
  rw [h3, errV_ok]
  have V5 : Hid (Below w.heap.size w w5) := below_up rfl V4.out hb
  clear hb V4
  generalize befB h i j = bb5
  go_wp2_with fail
  refine (before_any a len cap h k i _ H.out.1 H.out.2.1 (H.out.2.2.later V5.out)).mono ?_
  rintro e w6 ⟨rfl, hb⟩
  rw [h4, errV_ok]
  have V6 : Hid (Below w.heap.size w w6) := below_up rfl V5.out hb
  clear hb V5
  generalize befB h k i = bb6
  go_wp2_with fail
  refine (before_any a len cap h i i _ H.out.1 H.out.2.1 (H.out.2.2.later V6.out)).mono ?_
  rintro e w7 ⟨rfl, hb⟩
  rw [h5, errV_ok, hs]
  have V7 : Hid (Below w.heap.size w w7) := below_up rfl V6.out hb
  clear hb V6
  clear h1 h2 h3 h4 h5
  go_wp2
  have Z0 : Hid (chkC h = 0) := (befC_zero H1.out.1).1
  have Z1 : Hid (Good h len ∧ len ≤ 60 ∧ h.length = len) := by
    obtain ⟨h60, hg⟩ := chk_zero Z0.out
    have e := H.out.2.2.1
    rw [e] at h60 hg
    exact ⟨hg, h60, e⟩
  have h60 : len ≤ 60 := Z1.out.2.1
  have V7s : Hid (w.heap.size ≤ w7.heap.size) := V7.out.size
  obtain ⟨M, eM⟩ : ∃ M, M = w7.heap.size := ⟨_, rfl⟩
  have EM : Hid (M = w7.heap.size) := eM
  rw [← eM]
  clear eM hmk
  go_loopw [25] (fun x wr => ∃ n : Nat, n ≤ len ∧ x = .int .i64 n ∧ Hid (Below w.heap.size w wr) ∧ Hid (wr.rowIs M 3 5 (fun i => .int .i64 ((upto h n).getD i 0)))) (fun x _ => len - (intOf x).toNat)
  case atStart =>
    refine ⟨0, by omega, rfl, V7.out.alloc V7.out.size _, ?_⟩
    rw [EM.out]
    refine World.rowIs_alloc w7 _ _ _ fun i hi => ?_
    have : i < 5 := hi
    rcases i with _ | _ | _ | _ | _ | i
    · rfl
    · rfl
    · rfl
    · rfl
    · rfl
    · omega
  case round =>
    obtain ⟨n, hn, rfl, hbel, hR⟩ := hrel
    by_cases hlt : n < len
    · obtain ⟨b, off, rfl, hpb, hcs⟩ := (H.out.2.2.later hbel.out).2 (by omega)
      obtain ⟨c0, -, -⟩ := hcs n hlt
      have hw5 := W_lt Z1.out.1 hlt
      rw [← W_cast Z1.out.1 hlt] at c0
      obtain ⟨m, em⟩ : ∃ m, m = W h n := ⟨_, rfl⟩
      rw [← em] at c0 hw5
      have EW : Hid (m = W h n) := em
      have hn0 : (0 : Int) ≤ (n : Int) := by omega
      have hnl : (n : Int) < (len : Int) := by omega
      have hm0 : (0 : Int) ≤ (m : Int) := by omega
      have hm5 : (m : Int) < 5 := by omega
      have d0 := hR.out.cell hw5
      have z0 := hR.out.frozen m
      have hS := hR.out.lt
      obtain ⟨x, ex⟩ : ∃ x, x = (upto h n).getD m 0 := ⟨_, rfl⟩
      have bx : 0 ≤ x ∧ x ≤ 60 := by
        rw [ex, upto_get h n m hw5]
        have := cnt_nonneg h m n
        have := cnt_le h m n
        omega
      rw [← ex] at d0
      have EX : Hid (x = (upto h n).getD m 0) := ex
      clear hcs em ex
      have R' : Hid ((wr.setCell ⟨M, m, none⟩ (.int .i64 (x + 1))).rowIs M 3 5 (fun i => .int .i64 ((upto h (n + 1)).getD i 0))) := by
        refine (hR.out.set m _).congr fun i hi => ?_
        rw [upto_get h (n + 1) i hi, cnt_step]
        by_cases e : i = m
        · subst e
          rw [if_pos rfl, if_pos EW.out.symm, EX.out, upto_get h n i hi]
        · rw [if_neg e, if_neg (fun q => e (q.symm.trans EW.out.symm)), upto_get h n i hi]
          simp
      have B' : Hid (Below w.heap.size w (wr.setCell ⟨M, m, none⟩ (.int .i64 (x + 1)))) := hbel.out.setCell (p := ⟨M, m, none⟩) (by rw [EM.out]; exact V7s.out) _
      have C' : Hid (cutC h (upto h (n + 1)) = 0 ∧ cutB h (upto h (n + 1)) = true) := ⟨upto_cutC Z0.out (by have := Z1.out.2.2; omega), upto_cutB Z0.out⟩
      go_wp2_with fail
      refine (cut_ok (some ⟨b, off, none⟩) len cap h (some ⟨M, 0, none⟩) 5 5 (upto h (n + 1)) _ H.out.1 H.out.2.1 (H.out.2.2.later B'.out) (Fr.vw R'.out rfl) C'.out.1).mono ?_
      rintro e w9 ⟨rfl, hb⟩
      rw [C'.out.2]
      have B9 : Hid (Below w.heap.size w w9) := below_up rfl B'.out hb
      have R9 : Hid (w9.rowIs M 3 5 (fun i => .int .i64 ((upto h (n + 1)).getD i 0))) := rowIs_later R'.out hb
      clear hb
      go_wp2
      go_roundw
      case rel => exact ⟨n + 1, by omega, by go_num, B9.out, R9.out⟩
      case measure => simp [intOf]; omega
    · go_wp2
      go_ret
      exact ⟨rfl, hbel.out⟩

set_option maxRecDepth 100000 in
set_option maxHeartbeats 4000000 in
theorem hb_ok2 (a : Option Addr) (len cap : Nat) (h : List Ev) (i k j : Int) (w : World) (hlc : len ≤ cap) (hm : cap ≤ maxLen) (hv : Ew w a len h) (h1 : befC h i k = 0) (h2 : befC h k j = 0) (h3 : befC h i j = 0) (h4 : befC h k i = 0) (h5 : befC h i i = 0) (hs : befB h i i = false) (ha : befB h i k = true) (hik : i < k) (hd : befB h k i = false) (hb4 : befB h k j = false) :
    Calls Try.prog 6 #[.slice a len cap, .int .i64 i, .int .i64 k, .int .i64 j] w fun e w' => e = .returned (.bool true) ∧ Below w.heap.size w w' := by
  have H : Hid (len ≤ cap ∧ cap ≤ maxLen ∧ Ew w a len h) := ⟨hlc, hm, hv⟩
  have hlen : len ≤ maxLen := Nat.le_trans hlc hm
  unfold maxLen at hlen
  clear hv hlc hm
  have H1 : Hid (befC h i k = 0 ∧ befC h k j = 0) := ⟨h1, h2⟩
  have hmk : ∀ w, (Instr.makeSlice 26 (.int .i64 5) (.int .i64 5)).run Try.prog w = .ok (.slice (some ⟨w.heap.size, 0, none⟩) 5 5) (w.alloc (.cells #[.int .i64 0, .int .i64 0, .int .i64 0, .int .i64 0, .int .i64 0] 3)) := fun _ => by kernel_rfl
  have B0 : Hid (Below w.heap.size w (w.alloc (.cells #[.int .i64 0, .int .i64 2, .int .i64 1, .int .i64 1, .int .i64 3, .int .i64 1, .int .i64 2, .int .i64 1, .int .i64 0] 38))) := (Below.refl _ _).alloc (Nat.le_refl _) _
  have O0 : Hid (Ew (w.alloc (.cells #[.int .i64 0, .int .i64 2, .int .i64 1, .int .i64 1, .int .i64 3, .int .i64 1, .int .i64 2, .int .i64 1, .int .i64 0] 38)) (some ⟨w.heap.size, 0, none⟩) 3 one3) := Ew.one3 w _
  go_enter Try.func6, Try.ntmps6
  go_wp2_with fail
  refine (before_any (some ⟨w.heap.size, 0, none⟩) 3 3 one3 0 1 _ (by omega) (by unfold maxLen; omega) O0.out).mono ?_
  rintro e w1 ⟨rfl, hb⟩
  rw [one3_a, one3_b, errV_ok]
  have V1 : Hid (Below w.heap.size w w1) := below_up rfl B0.out hb
  have O1 : Hid (Ew w1 (some ⟨w.heap.size, 0, none⟩) 3 one3) := O0.out.later hb
  clear hb B0 O0
  go_wp2_with fail
  refine (before_any (some ⟨w.heap.size, 0, none⟩) 3 3 one3 0 2 _ (by omega) (by unfold maxLen; omega) O1.out).mono ?_
  rintro e w2 ⟨rfl, hb⟩
  rw [one3_c, one3_d, errV_ok]
  have V2 : Hid (Below w.heap.size w w2) := below_up rfl V1.out hb
  clear hb V1 O1
  go_wp2_with fail
  refine (before_any a len cap h i k _ H.out.1 H.out.2.1 (H.out.2.2.later V2.out)).mono ?_
  rintro e w3 ⟨rfl, hb⟩
  rw [h1, errV_ok, ha]
  have V3 : Hid (Below w.heap.size w w3) := below_up rfl V2.out hb
  clear hb V2
  go_wp2_with fail
  refine (before_any a len cap h k j _ H.out.1 H.out.2.1 (H.out.2.2.later V3.out)).mono ?_
  rintro e w4 ⟨rfl, hb⟩
  rw [h2, errV_ok, hb4]
  have V4 : Hid (Below w.heap.size w w4) := below_up rfl V3.out hb
  clear hb V3
  go_wp2_with fail
  refine (before_any a len cap h i j _ H.out.1 H.out.2.1 (H.out.2.2.later V4.out)).mono ?_
  rintro e w5 ⟨rfl, hb⟩
  rw [h3, errV_ok]
  have V5 : Hid (Below w.heap.size w w5) := below_up rfl V4.out hb
  clear hb V4
  generalize befB h i j = bb5
  go_wp2_with fail
  refine (before_any a len cap h k i _ H.out.1 H.out.2.1 (H.out.2.2.later V5.out)).mono ?_
  rintro e w6 ⟨rfl, hb⟩
  rw [h4, errV_ok, hd]
  have V6 : Hid (Below w.heap.size w w6) := below_up rfl V5.out hb
  clear hb V5
  go_wp2_with fail
  refine (before_any a len cap h i i _ H.out.1 H.out.2.1 (H.out.2.2.later V6.out)).mono ?_
  rintro e w7 ⟨rfl, hb⟩
  rw [h5, errV_ok, hs]
  have V7 : Hid (Below w.heap.size w w7) := below_up rfl V6.out hb
  clear hb V6
  clear h1 h2 h3 h4 h5
  go_wp2
  have Z0 : Hid (chkC h = 0) := (befC_zero H1.out.1).1
  have Z1 : Hid (Good h len ∧ len ≤ 60 ∧ h.length = len) := by
    obtain ⟨h60, hg⟩ := chk_zero Z0.out
    have e := H.out.2.2.1
    rw [e] at h60 hg
    exact ⟨hg, h60, e⟩
  have h60 : len ≤ 60 := Z1.out.2.1
  have V7s : Hid (w.heap.size ≤ w7.heap.size) := V7.out.size
  obtain ⟨M, eM⟩ : ∃ M, M = w7.heap.size := ⟨_, rfl⟩
  have EM : Hid (M = w7.heap.size) := eM
  rw [← eM]
  clear eM hmk
  go_loopw [25] (fun x wr => ∃ n : Nat, n ≤ len ∧ x = .int .i64 n ∧ Hid (Below w.heap.size w wr) ∧ Hid (wr.rowIs M 3 5 (fun i => .int .i64 ((upto h n).getD i 0)))) (fun x _ => len - (intOf x).toNat)
  case atStart =>
    refine ⟨0, by omega, rfl, V7.out.alloc V7.out.size _, ?_⟩
    rw [EM.out]
    refine World.rowIs_alloc w7 _ _ _ fun i hi => ?_
    have : i < 5 := hi
    rcases i with _ | _ | _ | _ | _ | i
    · rfl
    · rfl
    · rfl
    · rfl
    · rfl
    · omega
  case round =>
    obtain ⟨n, hn, rfl, hbel, hR⟩ := hrel
    by_cases hlt : n < len
    · obtain ⟨b, off, rfl, hpb, hcs⟩ := (H.out.2.2.later hbel.out).2 (by omega)
      obtain ⟨c0, -, -⟩ := hcs n hlt
      have hw5 := W_lt Z1.out.1 hlt
      rw [← W_cast Z1.out.1 hlt] at c0
      obtain ⟨m, em⟩ : ∃ m, m = W h n := ⟨_, rfl⟩
      rw [← em] at c0 hw5
      have EW : Hid (m = W h n) := em
      have hn0 : (0 : Int) ≤ (n : Int) := by omega
      have hnl : (n : Int) < (len : Int) := by omega
      have hm0 : (0 : Int) ≤ (m : Int) := by omega
      have hm5 : (m : Int) < 5 := by omega
      have d0 := hR.out.cell hw5
      have z0 := hR.out.frozen m
      have hS := hR.out.lt
      obtain ⟨x, ex⟩ : ∃ x, x = (upto h n).getD m 0 := ⟨_, rfl⟩
      have bx : 0 ≤ x ∧ x ≤ 60 := by
        rw [ex, upto_get h n m hw5]
        have := cnt_nonneg h m n
        have := cnt_le h m n
        omega
      rw [← ex] at d0
      have EX : Hid (x = (upto h n).getD m 0) := ex
      clear hcs em ex
      have R' : Hid ((wr.setCell ⟨M, m, none⟩ (.int .i64 (x + 1))).rowIs M 3 5 (fun i => .int .i64 ((upto h (n + 1)).getD i 0))) := by
        refine (hR.out.set m _).congr fun i hi => ?_
        rw [upto_get h (n + 1) i hi, cnt_step]
        by_cases e : i = m
        · subst e
          rw [if_pos rfl, if_pos EW.out.symm, EX.out, upto_get h n i hi]
        · rw [if_neg e, if_neg (fun q => e (q.symm.trans EW.out.symm)), upto_get h n i hi]
          simp
      have B' : Hid (Below w.heap.size w (wr.setCell ⟨M, m, none⟩ (.int .i64 (x + 1)))) := hbel.out.setCell (p := ⟨M, m, none⟩) (by rw [EM.out]; exact V7s.out) _
      have C' : Hid (cutC h (upto h (n + 1)) = 0 ∧ cutB h (upto h (n + 1)) = true) := ⟨upto_cutC Z0.out (by have := Z1.out.2.2; omega), upto_cutB Z0.out⟩
      go_wp2_with fail
      refine (cut_ok (some ⟨b, off, none⟩) len cap h (some ⟨M, 0, none⟩) 5 5 (upto h (n + 1)) _ H.out.1 H.out.2.1 (H.out.2.2.later B'.out) (Fr.vw R'.out rfl) C'.out.1).mono ?_
      rintro e w9 ⟨rfl, hb⟩
      rw [C'.out.2]
      have B9 : Hid (Below w.heap.size w w9) := below_up rfl B'.out hb
      have R9 : Hid (w9.rowIs M 3 5 (fun i => .int .i64 ((upto h (n + 1)).getD i 0))) := rowIs_later R'.out hb
      clear hb
      go_wp2
      go_roundw
      case rel => exact ⟨n + 1, by omega, by go_num, B9.out, R9.out⟩
      case measure => simp [intOf]; omega
    · go_wp2
      go_ret
      exact ⟨rfl, hbel.out⟩

set_option maxRecDepth 100000 in
set_option maxHeartbeats 4000000 in
theorem hb_ok3 (a : Option Addr) (len cap : Nat) (h : List Ev) (i k j : Int) (w : World) (hlc : len ≤ cap) (hm : cap ≤ maxLen) (hv : Ew w a len h) (h1 : befC h i k = 0) (h2 : befC h k j = 0) (h3 : befC h i j = 0) (h4 : befC h k i = 0) (h5 : befC h i i = 0) (hs : befB h i i = false) (ha : befB h i k = true) (hik : i < k) (hd : befB h k i = false) (hb4 : befB h k j = true) (hc5 : befB h i j = true) :
    Calls Try.prog 6 #[.slice a len cap, .int .i64 i, .int .i64 k, .int .i64 j] w fun e w' => e = .returned (.bool true) ∧ Below w.heap.size w w' := by
  have H : Hid (len ≤ cap ∧ cap ≤ maxLen ∧ Ew w a len h) := ⟨hlc, hm, hv⟩
  have hlen : len ≤ maxLen := Nat.le_trans hlc hm
  unfold maxLen at hlen
  clear hv hlc hm
  have H1 : Hid (befC h i k = 0 ∧ befC h k j = 0) := ⟨h1, h2⟩
  have hmk : ∀ w, (Instr.makeSlice 26 (.int .i64 5) (.int .i64 5)).run Try.prog w = .ok (.slice (some ⟨w.heap.size, 0, none⟩) 5 5) (w.alloc (.cells #[.int .i64 0, .int .i64 0, .int .i64 0, .int .i64 0, .int .i64 0] 3)) := fun _ => by kernel_rfl
  have B0 : Hid (Below w.heap.size w (w.alloc (.cells #[.int .i64 0, .int .i64 2, .int .i64 1, .int .i64 1, .int .i64 3, .int .i64 1, .int .i64 2, .int .i64 1, .int .i64 0] 38))) := (Below.refl _ _).alloc (Nat.le_refl _) _
  have O0 : Hid (Ew (w.alloc (.cells #[.int .i64 0, .int .i64 2, .int .i64 1, .int .i64 1, .int .i64 3, .int .i64 1, .int .i64 2, .int .i64 1, .int .i64 0] 38)) (some ⟨w.heap.size, 0, none⟩) 3 one3) := Ew.one3 w _
  go_enter Try.func6, Try.ntmps6
  go_wp2_with fail
  refine (before_any (some ⟨w.heap.size, 0, none⟩) 3 3 one3 0 1 _ (by omega) (by unfold maxLen; omega) O0.out).mono ?_
  rintro e w1 ⟨rfl, hb⟩
  rw [one3_a, one3_b, errV_ok]
  have V1 : Hid (Below w.heap.size w w1) := below_up rfl B0.out hb
  have O1 : Hid (Ew w1 (some ⟨w.heap.size, 0, none⟩) 3 one3) := O0.out.later hb
  clear hb B0 O0
  go_wp2_with fail
  refine (before_any (some ⟨w.heap.size, 0, none⟩) 3 3 one3 0 2 _ (by omega) (by unfold maxLen; omega) O1.out).mono ?_
  rintro e w2 ⟨rfl, hb⟩
  rw [one3_c, one3_d, errV_ok]
  have V2 : Hid (Below w.heap.size w w2) := below_up rfl V1.out hb
  clear hb V1 O1
  go_wp2_with fail
  refine (before_any a len cap h i k _ H.out.1 H.out.2.1 (H.out.2.2.later V2.out)).mono ?_
  rintro e w3 ⟨rfl, hb⟩
  rw [h1, errV_ok, ha]
  have V3 : Hid (Below w.heap.size w w3) := below_up rfl V2.out hb
  clear hb V2
  go_wp2_with fail
  refine (before_any a len cap h k j _ H.out.1 H.out.2.1 (H.out.2.2.later V3.out)).mono ?_
  rintro e w4 ⟨rfl, hb⟩
  rw [h2, errV_ok, hb4]
  have V4 : Hid (Below w.heap.size w w4) := below_up rfl V3.out hb
  clear hb V3
  go_wp2_with fail
  refine (before_any a len cap h i j _ H.out.1 H.out.2.1 (H.out.2.2.later V4.out)).mono ?_
  rintro e w5 ⟨rfl, hb⟩
  rw [h3, errV_ok, hc5]
  have V5 : Hid (Below w.heap.size w w5) := below_up rfl V4.out hb
  clear hb V4
  go_wp2_with fail
  refine (before_any a len cap h k i _ H.out.1 H.out.2.1 (H.out.2.2.later V5.out)).mono ?_
  rintro e w6 ⟨rfl, hb⟩
  rw [h4, errV_ok, hd]
  have V6 : Hid (Below w.heap.size w w6) := below_up rfl V5.out hb
  clear hb V5
  go_wp2_with fail
  refine (before_any a len cap h i i _ H.out.1 H.out.2.1 (H.out.2.2.later V6.out)).mono ?_
  rintro e w7 ⟨rfl, hb⟩
  rw [h5, errV_ok, hs]
  have V7 : Hid (Below w.heap.size w w7) := below_up rfl V6.out hb
  clear hb V6
  clear h1 h2 h3 h4 h5
  go_wp2
  have Z0 : Hid (chkC h = 0) := (befC_zero H1.out.1).1
  have Z1 : Hid (Good h len ∧ len ≤ 60 ∧ h.length = len) := by
    obtain ⟨h60, hg⟩ := chk_zero Z0.out
    have e := H.out.2.2.1
    rw [e] at h60 hg
    exact ⟨hg, h60, e⟩
  have h60 : len ≤ 60 := Z1.out.2.1
  have V7s : Hid (w.heap.size ≤ w7.heap.size) := V7.out.size
  obtain ⟨M, eM⟩ : ∃ M, M = w7.heap.size := ⟨_, rfl⟩
  have EM : Hid (M = w7.heap.size) := eM
  rw [← eM]
  clear eM hmk
  go_loopw [25] (fun x wr => ∃ n : Nat, n ≤ len ∧ x = .int .i64 n ∧ Hid (Below w.heap.size w wr) ∧ Hid (wr.rowIs M 3 5 (fun i => .int .i64 ((upto h n).getD i 0)))) (fun x _ => len - (intOf x).toNat)
  case atStart =>
    refine ⟨0, by omega, rfl, V7.out.alloc V7.out.size _, ?_⟩
    rw [EM.out]
    refine World.rowIs_alloc w7 _ _ _ fun i hi => ?_
    have : i < 5 := hi
    rcases i with _ | _ | _ | _ | _ | i
    · rfl
    · rfl
    · rfl
    · rfl
    · rfl
    · omega
  case round =>
    obtain ⟨n, hn, rfl, hbel, hR⟩ := hrel
    by_cases hlt : n < len
    · obtain ⟨b, off, rfl, hpb, hcs⟩ := (H.out.2.2.later hbel.out).2 (by omega)
      obtain ⟨c0, -, -⟩ := hcs n hlt
      have hw5 := W_lt Z1.out.1 hlt
      rw [← W_cast Z1.out.1 hlt] at c0
      obtain ⟨m, em⟩ : ∃ m, m = W h n := ⟨_, rfl⟩
      rw [← em] at c0 hw5
      have EW : Hid (m = W h n) := em
      have hn0 : (0 : Int) ≤ (n : Int) := by omega
      have hnl : (n : Int) < (len : Int) := by omega
      have hm0 : (0 : Int) ≤ (m : Int) := by omega
      have hm5 : (m : Int) < 5 := by omega
      have d0 := hR.out.cell hw5
      have z0 := hR.out.frozen m
      have hS := hR.out.lt
      obtain ⟨x, ex⟩ : ∃ x, x = (upto h n).getD m 0 := ⟨_, rfl⟩
      have bx : 0 ≤ x ∧ x ≤ 60 := by
        rw [ex, upto_get h n m hw5]
        have := cnt_nonneg h m n
        have := cnt_le h m n
        omega
      rw [← ex] at d0
      have EX : Hid (x = (upto h n).getD m 0) := ex
      clear hcs em ex
      have R' : Hid ((wr.setCell ⟨M, m, none⟩ (.int .i64 (x + 1))).rowIs M 3 5 (fun i => .int .i64 ((upto h (n + 1)).getD i 0))) := by
        refine (hR.out.set m _).congr fun i hi => ?_
        rw [upto_get h (n + 1) i hi, cnt_step]
        by_cases e : i = m
        · subst e
          rw [if_pos rfl, if_pos EW.out.symm, EX.out, upto_get h n i hi]
        · rw [if_neg e, if_neg (fun q => e (q.symm.trans EW.out.symm)), upto_get h n i hi]
          simp
      have B' : Hid (Below w.heap.size w (wr.setCell ⟨M, m, none⟩ (.int .i64 (x + 1)))) := hbel.out.setCell (p := ⟨M, m, none⟩) (by rw [EM.out]; exact V7s.out) _
      have C' : Hid (cutC h (upto h (n + 1)) = 0 ∧ cutB h (upto h (n + 1)) = true) := ⟨upto_cutC Z0.out (by have := Z1.out.2.2; omega), upto_cutB Z0.out⟩
      go_wp2_with fail
      refine (cut_ok (some ⟨b, off, none⟩) len cap h (some ⟨M, 0, none⟩) 5 5 (upto h (n + 1)) _ H.out.1 H.out.2.1 (H.out.2.2.later B'.out) (Fr.vw R'.out rfl) C'.out.1).mono ?_
      rintro e w9 ⟨rfl, hb⟩
      rw [C'.out.2]
      have B9 : Hid (Below w.heap.size w w9) := below_up rfl B'.out hb
      have R9 : Hid (w9.rowIs M 3 5 (fun i => .int .i64 ((upto h (n + 1)).getD i 0))) := rowIs_later R'.out hb
      clear hb
      go_wp2
      go_roundw
      case rel => exact ⟨n + 1, by omega, by go_num, B9.out, R9.out⟩
      case measure => simp [intOf]; omega
    · go_wp2
      go_ret
      exact ⟨rfl, hbel.out⟩

theorem hb_walk (a : Option Addr) (len cap : Nat) (h : List Ev) (i k j : Int) (w : World) (hlc : len ≤ cap) (hm : cap ≤ maxLen) (hv : Ew w a len h) :
    Calls Try.prog 6 #[.slice a len cap, .int .i64 i, .int .i64 k, .int .i64 j] w fun e w' => e = .returned (.bool true) ∧ Below w.heap.size w w' := by
  by_cases h1 : befC h i k = 0
  · by_cases h2 : befC h k j = 0
    · obtain ⟨h3, h4, h5, hs, ha | ⟨ha, hik, hd, hb⟩ | ⟨ha, hik, hd, hb, hc⟩⟩ := order_of h1 h2
      · exact hb_ok1 a len cap h i k j w hlc hm hv h1 h2 h3 h4 h5 hs ha
      · exact hb_ok2 a len cap h i k j w hlc hm hv h1 h2 h3 h4 h5 hs ha hik hd hb
      · exact hb_ok3 a len cap h i k j w hlc hm hv h1 h2 h3 h4 h5 hs ha hik hd hb hc
    · exact hb_no2 a len cap h i k j w hlc hm hv h1 h2
  · exact hb_no1 a len cap h i k j w hlc hm hv h1
end Go.Proofs.Ytcmfhlegpgmakaa.His
