/-
  The walk of VectorApart: for whatever two lists it returns true, and nothing that was there is written.
-/
import Derived.Test.YtcmfhlegpgmakaaVecC
namespace Go.Proofs.Ytcmfhlegpgmakaa.ApartWalk
open Go.RowKit Go.Proofs.Ytcmfhlegpgmakaa.Vec

theorem codes {xs ys : List Int} (h : code2 xs ys = 0) : code xs = 0 ∧ code ys = 0 := by
  unfold code2 at h
  split at h
  · exact ⟨by assumption, h⟩
  · contradiction

theorem lit1 : code [1, 0, 0, 0, 0] = 0 := by decide
theorem lit2 : code [0, 1, 0, 0, 0] = 0 := by decide
theorem lit3 : (gt [1, 0, 0, 0, 0] [0, 1, 0, 0, 0] && gt [0, 1, 0, 0, 0] [1, 0, 0, 0, 0]) = true := by decide

theorem walk_no (a b : Option Addr) (len cap len' cap' : Nat) (xs ys : List Int) (w : World) (hv : Hid (Vw w a len xs)) (hv' : Hid (Vw w b len' ys)) (h : Hid (code2 xs ys ≠ 0)) :
    Calls Try.prog 5 #[.slice a len cap, .slice b len' cap'] w fun e w' => e = .returned (.bool true) ∧ Below w.heap.size w w' := by
  go_enter Try.func5, Try.ntmps5
  go_wp2_with fail
  refine (apart_ok _ _ 5 5 5 5 [1, 0, 0, 0, 0] [0, 1, 0, 0, 0] _ ?_ ?_ lit1 lit2).mono ?_
  · exact (Vw.lit w 1 0 0 0 0 3).alloc _
  · exact Vw.litAt _ _ (by simp) 0 1 0 0 0 3
  rintro e w1 ⟨rfl, hb1⟩
  have HB : Hid (Below w.heap.size w w1) := (((Below.refl _ _).alloc (Nat.le_refl _) _).alloc (by simp) _).trans (hb1.mono (by simp; omega))
  have HV : Hid (Vw w1 a len xs) := hv.out.later HB
  have HV' : Hid (Vw w1 b len' ys) := hv'.out.later HB
  clear hb1
  rw [lit3]
  go_wp2_with fail
  refine (apart_no a b len cap len' cap' xs ys w1 HV.out HV'.out h.out).mono ?_
  rintro e w2 ⟨rfl, hb2⟩
  have HB2 : Hid (Below w1.heap.size w1 w2) := hb2
  clear hb2
  go_wp2
  go_ret
  exact ⟨rfl, HB.out.trans (HB2.out.mono HB.out.size)⟩

theorem chain {w w1 w2 : World} (h : Hid (Below w.heap.size w w1)) (h' : Below w1.heap.size w1 w2) : Hid (Below w.heap.size w w2) := h.out.trans (h'.mono h.out.size)

set_option maxHeartbeats 1000000 in
theorem walk_ok (a b : Option Addr) (len cap len' cap' : Nat) (xs ys : List Int) (w : World) (hv : Hid (Vw w a len xs)) (hv' : Hid (Vw w b len' ys)) (hm : len ≤ maxLen) (h : Hid (code xs = 0)) (h' : Hid (code ys = 0)) :
    Calls Try.prog 5 #[.slice a len cap, .slice b len' cap'] w fun e w' => e = .returned (.bool true) ∧ Below w.heap.size w w' := by
  obtain ⟨g, eg⟩ : ∃ g, g = gt xs ys := ⟨_, rfl⟩
  obtain ⟨g', eg'⟩ : ∃ g', g' = gt ys xs := ⟨_, rfl⟩
  have hs : gt xs xs = false := gt_self xs
  have EG : Hid _ := eg
  have EG' : Hid _ := eg'
  have hq : g = false → g' = false → Hid (decide (xs = ys) = true) := fun h1 h2 => decide_eq_true (eq_of_gt (code_len h.out) (code_len h'.out) (by rw [← eg, h1]) (by rw [← eg', h2]))
  clear eg eg'
  go_enter Try.func5, Try.ntmps5
  go_wp2_with fail
  refine (apart_ok _ _ 5 5 5 5 [1, 0, 0, 0, 0] [0, 1, 0, 0, 0] _ ?_ ?_ lit1 lit2).mono ?_
  · exact (Vw.lit w 1 0 0 0 0 3).alloc _
  · exact Vw.litAt _ _ (by simp) 0 1 0 0 0 3
  rintro e w1 ⟨rfl, hb1⟩
  have HB : Hid (Below w.heap.size w w1) := (((Below.refl _ _).alloc (Nat.le_refl _) _).alloc (by simp) _).trans (hb1.mono (by simp; omega))
  have HV : Hid (Vw w1 a len xs) := hv.out.later HB
  have HV' : Hid (Vw w1 b len' ys) := hv'.out.later HB
  clear hb1 hv hv'
  rw [lit3]
  go_wp2_with fail
  refine (apart_ok a b len cap len' cap' xs ys w1 HV.out HV'.out h.out h'.out).mono ?_
  rintro e w2 ⟨rfl, hb2⟩
  replace HB := chain HB hb2
  replace HV : Hid (Vw w2 a len xs) := HV.out.later hb2
  replace HV' : Hid (Vw w2 b len' ys) := HV'.out.later hb2
  clear hb2
  rw [← EG.out, ← EG'.out]
  go_wp2_with fail
  refine (apart_ok b a len' cap' len cap ys xs w2 HV'.out HV.out h'.out h.out).mono ?_
  rintro e w3 ⟨rfl, hb2⟩
  replace HB := chain HB hb2
  replace HV : Hid (Vw w3 a len xs) := HV.out.later hb2
  replace HV' : Hid (Vw w3 b len' ys) := HV'.out.later hb2
  clear hb2
  rw [← EG.out, ← EG'.out]
  go_wp2_with fail
  refine (apart_ok a a len cap len cap xs xs w3 HV.out HV.out h.out h.out).mono ?_
  rintro e w4 ⟨rfl, hb2⟩
  replace HB := chain HB hb2
  replace HV : Hid (Vw w4 a len xs) := HV.out.later hb2
  replace HV' : Hid (Vw w4 b len' ys) := HV'.out.later hb2
  clear hb2
  rw [hs]
  go_wp2_with fail
  refine (leq_ok a b len cap len' cap' xs ys w4 HV.out HV'.out h.out h'.out).mono ?_
  rintro e w5 ⟨rfl, hb2⟩
  replace HB := chain HB hb2
  replace HV : Hid (Vw w5 a len xs) := HV.out.later hb2
  replace HV' : Hid (Vw w5 b len' ys) := HV'.out.later hb2
  clear hb2
  rw [← EG.out]
  go_wp2_with fail
  refine (leq_ok b a len' cap' len cap ys xs w5 HV'.out HV.out h'.out h.out).mono ?_
  rintro e w6 ⟨rfl, hb2⟩
  replace HB := chain HB hb2
  replace HV : Hid (Vw w6 a len xs) := HV.out.later hb2
  replace HV' : Hid (Vw w6 b len' ys) := HV'.out.later hb2
  clear hb2
  rw [← EG'.out]
  clear EG EG'
  cases g <;> cases g'
  · have hq' := hq rfl rfl
    clear hq
    go_wp2_with fail
    refine (ints_any a b len cap len' cap' xs ys w6 HV.out HV'.out hm).mono ?_
    rintro e w7 ⟨rfl, n, rfl⟩
    rw [hq'.out]
    go_wp2
    go_ret
    exact ⟨rfl, below_drewN HB.out _⟩
  · clear hq
    go_wp2
    go_ret
    exact ⟨rfl, HB.out⟩
  · clear hq
    go_wp2
    go_ret
    exact ⟨rfl, HB.out⟩
  · clear hq
    go_wp2
    go_ret
    exact ⟨rfl, HB.out⟩

theorem walk (a0 : Option Addr) (len0 cap0 : Nat) (z0 : List Int) (a1 : Option Addr) (len1 cap1 : Nat) (z1 : List Int) (w : World) (w0 : IsRow .i64 w a0 len0 cap0 z0) (w1 : IsRow .i64 w a1 len1 cap1 z1) :
    Calls Try.prog 5 #[.slice a0 len0 cap0, .slice a1 len1 cap1] w fun e w' => e = .returned (.bool true) ∧ Below w.heap.size w w' := by
  by_cases hc : code2 (z0.take len0) (z1.take len1) = 0
  · obtain ⟨h, h'⟩ := codes hc
    exact walk_ok a0 a1 len0 cap0 len1 cap1 _ _ w w0.vw w1.vw w0.len h h'
  · exact walk_no a0 a1 len0 cap0 len1 cap1 _ _ w w0.vw w1.vw hc

end Go.Proofs.Ytcmfhlegpgmakaa.ApartWalk
