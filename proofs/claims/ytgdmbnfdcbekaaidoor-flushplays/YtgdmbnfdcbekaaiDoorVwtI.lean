/-
  Is a number in a list; are two views the same.
-/
import Derived.Test.YtgdmbnfdcbekaaiDoorViwE
import Derived.Deep.QuietTactic
import Derived.BigQuiet
import Derived.Deep.RegionHeld3
import Derived.WalkLawsBesides
import Derived.Handy
namespace Go.Proofs.YtgdmbnfdcbekaaiDoor.Viw
open Go.RowKit
open Go.Proofs.YtgdmbnfdcbekaaiDoor.Fif (ret_bool own_lt own_block own_form info_int new_int int_one)
open Go.Proofs.YtgdmbnfdcbekaaiDoor.Vec (Vw)
open Go.Proofs.YtgdmbnfdcbekaaiDoor.Ldr (Sl same_any)
set_option linter.unusedVariables false

theorem refIn (a : Option Addr) (len cap : Nat) (l : List Int) (x : Int) (w : World) (hv : Vw w a len l) (hl : len ≤ 1000) : Calls Tryd.prog 29 #[.slice a len cap, .int .i64 x] w fun e w' => e = .returned (.bool (l.contains x)) ∧ w' = w := by
  have h1 := hv.1
  have H1 : Hid (l.length = len) := h1
  obtain ⟨-, gv⟩ := hv
  have G : Hid _ := gv
  clear gv h1
  go_enter Tryd.func29, Tryd.ntmps29
  go_wp2
  go_loopw [5] (fun i wr => ∃ k : Nat, k ≤ len ∧ i = .int .i64 k ∧ wr = w ∧ Hid (∀ j, j < k → l.getD j 0 ≠ x)) (fun i _ => len - (intOf i).toNat)
  case atStart => exact ⟨0, by omega, rfl, rfl, fun j hj => absurd hj (by omega)⟩
  case round =>
    obtain ⟨k, hk, rfl, rfl, hp⟩ := hrel
    by_cases hlt : k < len
    · obtain ⟨p, off, rfl, hpb, hc⟩ := G.out (by omega)
      have hx := hc k hlt
      obtain ⟨y, ey⟩ : ∃ y, y = l.getD k 0 := ⟨_, rfl⟩
      rw [← ey] at hx
      have EY : Hid _ := ey
      have hk0 : (0 : Int) ≤ (k : Int) := by omega
      have hkl : (k : Int) < (len : Int) := by omega
      clear hc ey
      by_cases hxy : y = x
      · have hne : (y == x) = true := by simp [hxy]
        have HXY : Hid (y = x) := hxy
        clear hxy
        go_wp2
        go_ret
        refine ⟨?_, rfl⟩
        have hm : x ∈ l := by
          rw [← HXY.out, EY.out, List.getD, List.getElem?_eq_getElem (by have := H1.out; omega)]
          exact List.getElem_mem _
        rw [List.contains_iff_mem.2 hm]
        rfl
      · have hne : (y == x) = false := by simp [hxy]
        have HXY : Hid (y ≠ x) := hxy
        clear hxy
        go_wp2
        go_roundw
        case rel => exact ⟨k + 1, by omega, by go_num, by first | rfl | trivial, fun j hj => if e : j < k then hp.out j e else by rw [show j = k by omega, ← EY.out]; exact HXY.out⟩
        case measure => simp [intOf]; omega
    · have hi : k = len := by omega
      subst hi
      go_wp2
      go_ret
      refine ⟨?_, rfl⟩
      have hm : x ∉ l := fun q => by
        obtain ⟨j, hj, e⟩ := List.getElem_of_mem q
        refine hp.out j (by have := H1.out; omega) ?_
        rw [List.getD, List.getElem?_eq_getElem hj]
        exact e
      have : l.contains x = false := by
        rw [Bool.eq_false_iff]
        intro q
        exact hm (List.contains_iff_mem.1 q)
      rw [this]
      rfl
theorem drewsV {B : Nat} {a w : World} (h : Below B a w) (n : Nat) : Below B a (w.drewN n) := ⟨h.os, h.tape, h.output, h.size, h.block⟩
theorem ret_iv {a b : Int} (h : a = b) : Ending.returned (.int .i64 a) = .returned (.int .i64 b) := by rw [h]
set_option maxRecDepth 100000 in
theorem sameView (n : Int) (l : List Int) (q : Option Addr) (k c : Nat) (q' : Option Addr) (k' c' : Nat) (w : World) (h : Sl w (.slice q k c) l) (h' : Sl w (.slice q' k' c') l) : Calls Tryd.prog 15 #[.agg #[.int .i64 n, .slice q k c], .agg #[.int .i64 n, .slice q' k' c']] w fun e w' => e = .returned (.bool true) ∧ Below w.heap.size w w' := by
  obtain ⟨W, eW⟩ : ∃ W, W = (w.alloc (.cells #[.int .i64 n, .slice q k c] 30)).alloc (.cells #[.int .i64 n, .slice q' k' c'] 30) := ⟨_, rfl⟩
  have B1 : Hid (Below w.heap.size w W) := by rw [eW]; exact ((Below.refl _ _).alloc (Nat.le_refl _) _).alloc (by simp) _
  have HV : Hid (Sl w (.slice q k c) l ∧ Sl w (.slice q' k' c') l) := ⟨h, h'⟩
  have hnn : (n == n) = true := by simp
  clear h h'
  go_enter Tryd.func15, Tryd.ntmps15
  go_wp2_with fail
  rw [← eW]
  refine (same_any (HV.out.1.later B1.out) (HV.out.2.later B1.out)).mono ?_
  rintro e w2 ⟨rfl, hb⟩
  rw [decide_eq_true (rfl : l = l)]
  have B2 : Hid (Below w.heap.size w w2) := B1.out.trans (hb.mono B1.out.size)
  clear hb eW
  go_wp2
  go_ret
  exact ⟨rfl, B2.out⟩
end Go.Proofs.YtgdmbnfdcbekaaiDoor.Viw
