/-
  Contracts of package cmp's Compare and Or at numbers, and of what package clock's Order compares by.
-/
import Derived.Test.YtibgdikahihgeabDoorClkC
import Derived.Test.YtibgdikahihgeabDoorClkL
import Derived.Deep.RegionHeld3
namespace Go.Proofs.YtibgdikahihgeabDoor.His
open Go.RowKit
open Go.Proofs.YtibgdikahihgeabDoor.Vec

def cmpI (x y : Int) : Int := if x < y then -1 else if y < x then 1 else 0
def orI (x y : Int) : Int := if x = 0 then y else x

theorem compare1 (x y : Int) (w : World) : Calls Tryd.prog 27 #[.int .i64 x, .int .i64 y] w fun e w' => e = .returned (.int .i64 (cmpI x y)) ∧ w' = w := by
  have hx : (x != x) = false := by simp
  have hy : (y != y) = false := by simp
  rcases Int.lt_trichotomy x y with h | h | h
  · have E : Hid (cmpI x y = -1) := if_pos h
    go_enter Tryd.func27, Tryd.ntmps27
    go_wp2
    go_ret
    exact ⟨ret_int E.out.symm, rfl⟩
  · subst h
    have E : Hid (cmpI x x = 0) := by simp [cmpI, Hid]
    go_enter Tryd.func27, Tryd.ntmps27
    go_wp2
    go_ret
    exact ⟨ret_int E.out.symm, rfl⟩
  · have h' : ¬ x < y := by omega
    have E : Hid (cmpI x y = 1) := by unfold cmpI; rw [if_neg h', if_pos h]; exact rfl
    go_enter Tryd.func27, Tryd.ntmps27
    go_wp2
    go_ret
    exact ⟨ret_int E.out.symm, rfl⟩

set_option maxRecDepth 100000 in
theorem or2 (B : Nat) (x y : Int) (w : World) (h0 : w.cell? ⟨B, 0, none⟩ = some (.int .i64 x)) (h1 : w.cell? ⟨B, 1, none⟩ = some (.int .i64 y)) :
    Calls Tryd.prog 26 #[.slice (some ⟨B, 0, none⟩) 2 2] w fun e w' => e = .returned (.int .i64 (orI x y)) ∧ w' = w := by
  by_cases hx : x = 0
  · subst hx
    by_cases hy : y = 0
    · subst hy
      go_enter Tryd.func26, Tryd.ntmps26
      go_wp2
      refine wp_loop_rounds 3 ?_
      rw [rounds_succ]; go_wp2
      rw [rounds_succ]; go_wp2
      rw [rounds_succ]; go_wp2
      go_ret
      exact ⟨rfl, rfl⟩
    · have hy' : (y != 0) = true := by simp [hy]
      have E : Hid (orI 0 y = y) := if_pos rfl
      go_enter Tryd.func26, Tryd.ntmps26
      go_wp2
      refine wp_loop_rounds 3 ?_
      rw [rounds_succ]; go_wp2
      rw [rounds_succ]; go_wp2
      go_ret
      exact ⟨ret_int E.out.symm, rfl⟩
  · have hx' : (x != 0) = true := by simp [hx]
    have E : Hid (orI x y = x) := if_neg hx
    go_enter Tryd.func26, Tryd.ntmps26
    go_wp2
    refine wp_loop_rounds 3 ?_
    rw [rounds_succ]; go_wp2
    go_ret
    exact ⟨ret_int E.out.symm, rfl⟩

/-- a world that is as it was, with new blocks behind it -/
theorem gr_of {W w' : World} (h : Below W.heap.size W w') (hd : W.drawn ≤ w'.drawn) : ∃ q os, w' = Sort.grow (W.drewN q) os := by
  refine ⟨w'.drawn - W.drawn, w'.heap.extract W.heap.size w'.heap.size, ?_⟩
  obtain ⟨h1, h2, h3, h4, h5⟩ := h
  have e1 : W.drawn + (w'.drawn - W.drawn) = w'.drawn := by omega
  have e2 : W.heap ++ w'.heap.extract W.heap.size w'.heap.size = w'.heap := by
    apply Array.ext_getElem?
    intro i
    rw [Array.getElem?_append]
    split
    · rename_i hi
      exact (h5 i hi).symm
    · rename_i hi
      rw [Array.getElem?_extract]
      split
      · congr 1
        omega
      · rename_i hj
        symm
        apply Array.getElem?_eq_none
        omega
  show w' = { W with drawn := W.drawn + (w'.drawn - W.drawn), heap := W.heap ++ w'.heap.extract W.heap.size w'.heap.size }
  rw [e1, e2]
  cases w'
  cases W
  simp_all

set_option maxRecDepth 100000 in
set_option maxHeartbeats 2000000 in
theorem order1 (a : Option Addr) (len cap : Nat) (h : List Ev) (A P1 P2 x y : Nat) (W : World) (hx : x < len) (hy : y < len) (hp1 : W.cell? ⟨P1, 0, none⟩ = some (.slice (some ⟨A, 0, none⟩) len len)) (hp2 : W.cell? ⟨P2, 0, none⟩ = some (.slice a len cap)) (hn : Vw W (some ⟨A, 0, none⟩) len (nums h len)) (hv : Ew W a len h) :
    Calls Tryd.prog 25 #[.int .i64 (x : Int), .int .i64 (y : Int), .pointer (some ⟨P1, 0, none⟩), .pointer (some ⟨P2, 0, none⟩)] W fun e w' => e = .returned (.int .i64 (orI (cmpI (num h x) (num h y)) (cmpI (ev h x).1 (ev h y).1))) ∧ ∃ q os, w' = Sort.grow (W.drewN q) os := by
  obtain ⟨b, off, rfl, hb, hcs⟩ := hv.2 (by omega)
  obtain ⟨_, _, e, hA, hns⟩ := hn.2 (by omega)
  cases e
  have n0 := hns x hx
  have n1 := hns y hy
  rw [nums_get h hx, Nat.zero_add] at n0
  rw [nums_get h hy, Nat.zero_add] at n1
  have c0 := (hcs x hx).1
  have c1 := (hcs y hy).1
  obtain ⟨i0, f0⟩ : ∃ i, i = num h x := ⟨_, rfl⟩
  obtain ⟨i1, f1⟩ : ∃ i, i = num h y := ⟨_, rfl⟩
  obtain ⟨j0, g0⟩ : ∃ i, i = (ev h x).1 := ⟨_, rfl⟩
  obtain ⟨j1, g1⟩ : ∃ i, i = (ev h y).1 := ⟨_, rfl⟩
  rw [← f0] at n0 ⊢
  rw [← f1] at n1 ⊢
  rw [← g0] at c0 ⊢
  rw [← g1] at c1 ⊢
  have hx0 : (0 : Int) ≤ (x : Int) := by omega
  have hxl : (x : Int) < (len : Int) := by omega
  have hy0 : (0 : Int) ≤ (y : Int) := by omega
  have hyl : (y : Int) < (len : Int) := by omega
  have m1 := World.new_ne W _ hp1
  have m2 := World.new_ne W _ hp2
  have m3 := World.new_ne W _ n0
  have m4 := World.new_ne W _ n1
  have m5 := World.new_ne W _ c0
  have m6 := World.new_ne W _ c1
  clear hv hn hcs hns f0 f1 g0 g1
  go_enter Tryd.func25, Tryd.ntmps25
  go_wp2_with fail
  go_region_held3 (fun w' => w'.cell? ⟨P1, 0, none⟩ = some (.slice (some ⟨A, 0, none⟩) len len) ∧ w'.cell? ⟨P2, 0, none⟩ = some (.slice (some ⟨b, off, none⟩) len cap) ∧ w'.cell? ⟨A, x, none⟩ = some (.int .i64 i0) ∧ w'.cell? ⟨A, y, none⟩ = some (.int .i64 i1) ∧ w'.cell? ⟨b, off + x * 3, none⟩ = some (.int .i64 j0) ∧ w'.cell? ⟨b, off + y * 3, none⟩ = some (.int .i64 j1)) (go_keep)
    (first
      | (go_at_call 27; refine (compare1 _ _ _).mono ?_; rintro e w' ⟨rfl, rfl⟩)
      | (go_at_call 26; refine (or2 _ (cmpI i0 i1) (cmpI j0 j1) _ ?_ ?_).mono ?_; (simp); (simp); rintro e w' ⟨rfl, rfl⟩))
  all_goals go_wp2
  go_ret
  exact ⟨rfl, gr_of (((Below.refl _ _).alloc (Nat.le_refl _) _).drew) (Nat.le_succ _)⟩
end Go.Proofs.YtibgdikahihgeabDoor.His
