/-
  The walk of FacesTwo: two who speak at once, heard by two either way.
-/
import Derived.Test.YtmnjihkllojapacFacF
import Derived.Test.YtmnjihkllojapacFacG
import Derived.Test.YtmnjihkllojapacFtM
import Derived.Test.YtmnjihkllojapacHisP
namespace Go.Proofs.Ytmnjihkllojapac.His
open Go.RowKit
open Go.Proofs.Ytmnjihkllojapac.Vec

theorem new_cells (w : World) (B : Nat) (hB : B = w.heap.size) (arr : Array Value) (g : List Ev) (hg : arr.toList = flat g) (t : TypeId) : ∀ j u, (flat g)[j]? = some u → (w.alloc (.cells arr t)).cell? ((⟨B, 0, none⟩ : Addr).add j) = some u := by
  subst hB
  intro j u hj
  rw [Addr.add_lit, Nat.zero_add]
  rw [← hg, Array.getElem?_toList] at hj
  simp [hj]
theorem own_new (w : World) (arr : Array Value) (g : List Ev) (n : Nat) (hn : g.length = n) (hg : arr.toList = flat g) (hm : n ≤ maxLen) : (w.alloc (.cells arr 23)).ownsRow w.heap.size 23 3 (.slice (some ⟨w.heap.size, 0, none⟩) n n) n (flat g) := by
  have hs : arr.size = n * 3 := by rw [← Array.length_toList, hg, flat_len, hn]
  refine ⟨by rw [flat_len, hn], .inr ⟨w.heap.size, n, arr, rfl, Nat.le_refl _, ?_, Nat.le_refl _, hm, hs, ?_⟩⟩
  · show (w.heap.push _)[w.heap.size]? = _
    simp
  · rw [hg, List.take_of_length_le (by rw [flat_len, hn]; exact Nat.le_refl _)]
theorem chk_two {a b x y : Int} (ha : 1 ≤ a ∧ a ≤ 30) (hb : 1 ≤ b ∧ b ≤ 30) (hab : a ≠ b) (hxy : (x = a ∧ y = b) ∨ (x = b ∧ y = a)) : chkC (two a b x y) = 0 := (chk_ok (by show (6 : Nat) ≤ 60; omega) (two_good ha hb hab hxy)).1

set_option maxRecDepth 100000 in
set_option maxHeartbeats 4000000 in
theorem two_yes (a b : Int) (w : World) (ha1 : 1 ≤ a) (ha2 : a ≤ 30) (hb1 : 1 ≤ b) (hb2 : b ≤ 30) (hab : a ≠ b) :
    Calls Try.prog 3 #[.int .i64 a, .int .i64 b, .bool true] w fun e w' => e = .returned (.bool true) ∧ Below w.heap.size w w' := by
  have hne : (a == b) = false := by simp [hab]
  have HAB : Hid (a ≠ b ∧ chkC (two a b a b) = 0) := ⟨hab, chk_two ⟨ha1, ha2⟩ ⟨hb1, hb2⟩ hab (.inl ⟨rfl, rfl⟩)⟩
  obtain ⟨ie, hi, hz0, hz1, hz2⟩ := info_ev
  have HI : Hid (Try.prog.info? 23 = some ie ∧ ie.zero = some (.agg #[.int .i64 0, .int .i64 0, .int .i64 0]) ∧ ie.size = 3 ∧ ie.bytes = 24) := ⟨hi, hz0, hz1, hz2⟩
  have O4 : Hid ((w.alloc (.cells #[.int .i64 0, .int .i64 2, .int .i64 a, .int .i64 1, .int .i64 2, .int .i64 b, .int .i64 2, .int .i64 3, .int .i64 a, .int .i64 2, .int .i64 3, .int .i64 b] 23)).ownsRow w.heap.size 23 3 (.slice (some ⟨w.heap.size, 0, none⟩) 4 4) 4 (flat [(0, 2, a), (1, 2, b), (2, 3, a), (2, 3, b)])) := own_new w _ _ 4 rfl rfl (by unfold maxLen; omega)
  clear hab hi hz0 hz1 hz2
  go_enter Try.func3, Try.ntmps3
  go_wp2_with (at_builtin; refine wpList_append_own _ rfl _ _ 24 rfl w.heap.size 23 ie (.agg #[.int .i64 0, .int .i64 0, .int .i64 0]) 3 24 Try.underlying24 HI.out.1 HI.out.2.1 HI.out.2.2.1 HI.out.2.2.2 rfl (by decide) _ 4 (flat [(0, 2, a), (1, 2, b), (2, 3, a), (2, 3, b)]) rfl (by exact own_later O4.out ((Below.refl _ _).alloc (Nat.le_refl _) _)) ⟨w.heap.size + 1, 0, none⟩ 2 2 (flat [(3, 3, a), (3, 3, b)]) rfl rfl (by exact new_cells _ _ (by simp) _ _ rfl 23) (flat_one _) (by unfold maxLen; omega) (by omega) (by simp; omega) ?_; intro v' wn hown hgrow _; have HO : Hid _ := hown; have HGr : Hid _ := hgrow; clear hown hgrow)
  have EO : Hid (Eo wn w.heap.size v' (two a b a b)) := HO.out
  have B1 : Hid (Below w.heap.size w wn) := (((Below.refl w.heap.size w).alloc (Nat.le_refl _) _).alloc (by simp) _).grown HGr.out (by simp; omega) (own_base O4.out)
  obtain ⟨g, cap, rfl⟩ : ∃ g cap, v' = .slice (some ⟨g, 0, none⟩) 6 cap := by
    rcases EO.out.2 with ⟨_, e⟩ | ⟨g, cap, cur, e, _⟩
    · exact absurd (show (6 : Nat) = 0 from e) (by omega)
    · exact ⟨g, cap, e⟩
  have EW : Hid (Ew wn (some ⟨g, 0, none⟩) 6 (two a b a b) ∧ 6 ≤ cap ∧ cap ≤ maxLen) := by
    obtain ⟨_, e1, e2, e3, _⟩ := EO.out.ew
    exact ⟨e1, e2, e3⟩
  clear HO HGr EO
  refine (of_ok (some ⟨g, 0, none⟩) 6 cap (two a b a b) _ EW.out.2.1 EW.out.2.2 EW.out.1 HAB.out.2).mono ?_
  rintro e w2 ⟨rfl, hb⟩
  rw [two_fifo, two_caus, (two_tot a b HAB.out.1).1]
  obtain ⟨W2, eW2⟩ : ∃ W, W = w2.alloc (.cells #[.bool true, .bool true, .bool true] 26) := ⟨_, rfl⟩
  have B2 : Hid (Below wn.heap.size wn W2) := by
    rw [eW2]
    exact hb.alloc hb.size _
  have C2 : Hid (w2.heap.size < W2.heap.size ∧ W2.cell? ⟨w2.heap.size, 0, none⟩ = some (.bool true) ∧ W2.cell? ⟨w2.heap.size, 1, none⟩ = some (.bool true) ∧ W2.cell? ⟨w2.heap.size, 2, none⟩ = some (.bool true)) := by
    rw [eW2]
    exact ⟨by simp, by go_cell, by go_cell, by go_cell⟩
  have HD : Hid (hdC (two a b a b) 2 = 0 ∧ hdL (two a b a b) 2 = [a, b]) := by
    have e := hdC_ok (h := two a b a b) (who := 2) HAB.out.2 (by omega)
    exact ⟨e, (hdL_ok e).trans (two_hrd a b a b).2.2.1⟩
  clear hb
  go_wp2_with fail
  rw [← eW2]
  refine (heard_any (some ⟨g, 0, none⟩) 6 cap (two a b a b) 2 _ EW.out.2.1 EW.out.2.2 (EW.out.1.later B2.out)).mono ?_
  rintro e w3 ⟨⟨q, d, rfl, hvw⟩, hb⟩
  rw [HD.out.2] at hvw
  rw [HD.out.1, HD.out.2, errV_ok]
  obtain ⟨b3, o3, rfl, -, hcs⟩ := hvw.2 (by show 0 < 2; omega)
  have v0 : w3.cell? ⟨b3, o3, none⟩ = some (.int .i64 a) := hcs 0 (by show 0 < 2; omega)
  have z0 := (hb.cell (p := ⟨w2.heap.size, 0, none⟩) C2.out.1).trans C2.out.2.1
  have z1 := (hb.cell (p := ⟨w2.heap.size, 1, none⟩) C2.out.1).trans C2.out.2.2.1
  have z2 := (hb.cell (p := ⟨w2.heap.size, 2, none⟩) C2.out.1).trans C2.out.2.2.2
  have B3 : Hid (Below w.heap.size w w3) := below_up rfl B1.out (below_up rfl B2.out hb)
  have haa : (a == a) = true := by simp
  clear hb hvw hcs eW2
  go_wp2
  go_ret
  exact ⟨rfl, B3.out⟩

set_option maxRecDepth 100000 in
set_option maxHeartbeats 4000000 in
theorem two_not (a b : Int) (w : World) (ha1 : 1 ≤ a) (ha2 : a ≤ 30) (hb1 : 1 ≤ b) (hb2 : b ≤ 30) (hab : a ≠ b) :
    Calls Try.prog 3 #[.int .i64 a, .int .i64 b, .bool false] w fun e w' => e = .returned (.bool true) ∧ Below w.heap.size w w' := by
  have hne : (a == b) = false := by simp [hab]
  have HAB : Hid (a ≠ b ∧ chkC (two a b b a) = 0) := ⟨hab, chk_two ⟨ha1, ha2⟩ ⟨hb1, hb2⟩ hab (.inr ⟨rfl, rfl⟩)⟩
  obtain ⟨ie, hi, hz0, hz1, hz2⟩ := info_ev
  have HI : Hid (Try.prog.info? 23 = some ie ∧ ie.zero = some (.agg #[.int .i64 0, .int .i64 0, .int .i64 0]) ∧ ie.size = 3 ∧ ie.bytes = 24) := ⟨hi, hz0, hz1, hz2⟩
  have O4 : Hid ((w.alloc (.cells #[.int .i64 0, .int .i64 2, .int .i64 a, .int .i64 1, .int .i64 2, .int .i64 b, .int .i64 2, .int .i64 3, .int .i64 a, .int .i64 2, .int .i64 3, .int .i64 b] 23)).ownsRow w.heap.size 23 3 (.slice (some ⟨w.heap.size, 0, none⟩) 4 4) 4 (flat [(0, 2, a), (1, 2, b), (2, 3, a), (2, 3, b)])) := own_new w _ _ 4 rfl rfl (by unfold maxLen; omega)
  clear hab hi hz0 hz1 hz2
  go_enter Try.func3, Try.ntmps3
  go_wp2_with (at_builtin; refine wpList_append_own _ rfl _ _ 24 rfl w.heap.size 23 ie (.agg #[.int .i64 0, .int .i64 0, .int .i64 0]) 3 24 Try.underlying24 HI.out.1 HI.out.2.1 HI.out.2.2.1 HI.out.2.2.2 rfl (by decide) _ 4 (flat [(0, 2, a), (1, 2, b), (2, 3, a), (2, 3, b)]) rfl (by exact own_later O4.out ((Below.refl _ _).alloc (Nat.le_refl _) _)) ⟨w.heap.size + 1, 0, none⟩ 2 2 (flat [(3, 3, b), (3, 3, a)]) rfl rfl (by exact new_cells _ _ (by simp) _ _ rfl 23) (flat_one _) (by unfold maxLen; omega) (by omega) (by simp; omega) ?_; intro v' wn hown hgrow _; have HO : Hid _ := hown; have HGr : Hid _ := hgrow; clear hown hgrow)
  have EO : Hid (Eo wn w.heap.size v' (two a b b a)) := HO.out
  have B1 : Hid (Below w.heap.size w wn) := (((Below.refl w.heap.size w).alloc (Nat.le_refl _) _).alloc (by simp) _).grown HGr.out (by simp; omega) (own_base O4.out)
  obtain ⟨g, cap, rfl⟩ : ∃ g cap, v' = .slice (some ⟨g, 0, none⟩) 6 cap := by
    rcases EO.out.2 with ⟨_, e⟩ | ⟨g, cap, cur, e, _⟩
    · exact absurd (show (6 : Nat) = 0 from e) (by omega)
    · exact ⟨g, cap, e⟩
  have EW : Hid (Ew wn (some ⟨g, 0, none⟩) 6 (two a b b a) ∧ 6 ≤ cap ∧ cap ≤ maxLen) := by
    obtain ⟨_, e1, e2, e3, _⟩ := EO.out.ew
    exact ⟨e1, e2, e3⟩
  clear HO HGr EO
  refine (of_ok (some ⟨g, 0, none⟩) 6 cap (two a b b a) _ EW.out.2.1 EW.out.2.2 EW.out.1 HAB.out.2).mono ?_
  rintro e w2 ⟨rfl, hb⟩
  rw [two_fifo, two_caus, (two_tot a b HAB.out.1).2]
  obtain ⟨W2, eW2⟩ : ∃ W, W = w2.alloc (.cells #[.bool true, .bool true, .bool false] 26) := ⟨_, rfl⟩
  have B2 : Hid (Below wn.heap.size wn W2) := by
    rw [eW2]
    exact hb.alloc hb.size _
  have C2 : Hid (w2.heap.size < W2.heap.size ∧ W2.cell? ⟨w2.heap.size, 0, none⟩ = some (.bool true) ∧ W2.cell? ⟨w2.heap.size, 1, none⟩ = some (.bool true) ∧ W2.cell? ⟨w2.heap.size, 2, none⟩ = some (.bool false)) := by
    rw [eW2]
    exact ⟨by simp, by go_cell, by go_cell, by go_cell⟩
  have HD : Hid (hdC (two a b b a) 2 = 0 ∧ hdL (two a b b a) 2 = [a, b]) := by
    have e := hdC_ok (h := two a b b a) (who := 2) HAB.out.2 (by omega)
    exact ⟨e, (hdL_ok e).trans (two_hrd a b b a).2.2.1⟩
  clear hb
  go_wp2_with fail
  rw [← eW2]
  refine (heard_any (some ⟨g, 0, none⟩) 6 cap (two a b b a) 2 _ EW.out.2.1 EW.out.2.2 (EW.out.1.later B2.out)).mono ?_
  rintro e w3 ⟨⟨q, d, rfl, hvw⟩, hb⟩
  rw [HD.out.2] at hvw
  rw [HD.out.1, HD.out.2, errV_ok]
  obtain ⟨b3, o3, rfl, -, hcs⟩ := hvw.2 (by show 0 < 2; omega)
  have v0 : w3.cell? ⟨b3, o3, none⟩ = some (.int .i64 a) := hcs 0 (by show 0 < 2; omega)
  have z0 := (hb.cell (p := ⟨w2.heap.size, 0, none⟩) C2.out.1).trans C2.out.2.1
  have z1 := (hb.cell (p := ⟨w2.heap.size, 1, none⟩) C2.out.1).trans C2.out.2.2.1
  have z2 := (hb.cell (p := ⟨w2.heap.size, 2, none⟩) C2.out.1).trans C2.out.2.2.2
  have B3 : Hid (Below w.heap.size w w3) := below_up rfl B1.out (below_up rfl B2.out hb)
  have haa : (a == a) = true := by simp
  clear hb hvw hcs eW2
  go_wp2
  go_ret
  exact ⟨rfl, B3.out⟩

set_option maxRecDepth 100000 in
theorem two_walk (a b : Int) (al : Bool) (w : World) :
    Calls Try.prog 3 #[.int .i64 a, .int .i64 b, .bool al] w fun e w' => e = .returned (.bool true) ∧ Below w.heap.size w w' := by
  by_cases h1 : a < 1
  · go_enter Try.func3, Try.ntmps3
    go_wp2
    go_ret
    exact ⟨rfl, Below.refl _ _⟩
  by_cases h2 : 30 < a
  · go_enter Try.func3, Try.ntmps3
    go_wp2
    go_ret
    exact ⟨rfl, Below.refl _ _⟩
  by_cases h3 : b < 1
  · go_enter Try.func3, Try.ntmps3
    go_wp2
    go_ret
    exact ⟨rfl, Below.refl _ _⟩
  by_cases h4 : 30 < b
  · go_enter Try.func3, Try.ntmps3
    go_wp2
    go_ret
    exact ⟨rfl, Below.refl _ _⟩
  by_cases h5 : a = b
  · subst h5
    have hq : (a == a) = true := by simp
    go_enter Try.func3, Try.ntmps3
    go_wp2
    go_ret
    exact ⟨rfl, Below.refl _ _⟩
  cases al with
  | true => exact two_yes a b w (by omega) (by omega) (by omega) (by omega) h5
  | false => exact two_not a b w (by omega) (by omega) (by omega) (by omega) h5
end Go.Proofs.Ytmnjihkllojapac.His
