/-
  Contract of the document's own Numbers: of each event one more than the greatest number of those straight ahead of it.
-/
import Derived.Test.YtibgdikahihgeabDoorClkN
import Derived.Test.YtibgdikahihgeabDoorClkC
import Derived.Deep.QuietTactic
import Derived.BigQuiet
namespace Go.Proofs.YtibgdikahihgeabDoor.His
open Go.RowKit
open Go.Proofs.YtibgdikahihgeabDoor.Vec

theorem nums_step (h : List Ev) (n : Nat) : nums h (n + 1) = nums h n ++ [num h n] := by simp [nums, List.range_succ]
theorem mx_hit {h : List Ev} {k i : Nat} (he : edge h i k = true) (hg : mx h k i < num h i) : mx h k (i + 1) = num h i := by rw [mx_step, if_pos ⟨he, hg⟩]
theorem mx_less {h : List Ev} {k i : Nat} (hg : num h i ≤ mx h k i) : mx h k (i + 1) = mx h k i := by rw [mx_step, if_neg (fun q => by have := q.2; omega)]
theorem mx_miss {h : List Ev} {k i : Nat} (he : edge h i k = false) : mx h k (i + 1) = mx h k i := by rw [mx_step, if_neg (fun q => by rw [he] at q; exact absurd q.1 (by decide))]

set_option maxRecDepth 100000 in
set_option maxHeartbeats 8000000 in
theorem refNumbers (a : Option Addr) (len cap : Nat) (h : List Ev) (w : World) (h60 : len ≤ 60) (hv : Ew w a len h) (hg : Good h len) :
    Calls Tryd.prog 9 #[.slice a len cap] w fun x w' => (∃ v, x = .returned v ∧ w'.ownsRow w.heap.size 3 1 v len ((nums h len).map (Value.int .i64))) ∧ Below w.heap.size w w' := by
  have G : Hid (Ew w a len h) := hv
  have HG : Hid (Good h len) := hg
  obtain ⟨ie, hi, hz0, hz1, hz2⟩ := info_int
  have HI : Hid (Tryd.prog.info? 3 = some ie ∧ ie.zero = some (.int .i64 0) ∧ ie.size = 1 ∧ ie.bytes = 8) := ⟨hi, hz0, hz1, hz2⟩
  clear hv hg hi hz0 hz1 hz2
  go_enter Tryd.func9, Tryd.ntmps9
  go_wp2
  go_loopw [3, 4] (fun v x wr => ∃ k : Nat, k ≤ len ∧ x = .int .i64 k ∧ Hid (Below w.heap.size w wr) ∧ Hid (wr.ownsRow w.heap.size 3 1 v k ((nums h k).map (Value.int .i64)))) (fun _ x _ => len - (intOf x).toNat)
  case atStart => exact ⟨0, by omega, rfl, Below.refl _ _, World.ownsRow_nil _ _ _ _⟩
  case round =>
    obtain ⟨k, hk, rfl, hbel, hO⟩ := hrel
    by_cases hlt : k < len
    · have hk0 : (0 : Int) ≤ (k : Int) := by omega
      have hkl : (k : Int) < (len : Int) := by omega
      obtain ⟨p, pc, rfl, hvw⟩ := own_vw hO.out
      have N : Hid (Vw wr p k (nums h k)) := hvw
      have SZ : Hid (w.heap.size ≤ wr.heap.size) := hbel.out.size
      clear hvw
      go_wp2
      go_loopw [5, 6] (fun m x wi => ∃ i : Nat, i ≤ k ∧ x = .int .i64 i ∧ m = .int .i64 (mx h k i) ∧ Hid (∃ n, wi = wr.drewN n)) (fun _ x _ => k - (intOf x).toNat)
      case atStart => exact ⟨0, by omega, rfl, rfl, ⟨0, rfl⟩⟩
      case round =>
        obtain ⟨i, hi, rfl, rfl, hw⟩ := hrel
        obtain ⟨nd, rfl⟩ := hw.out
        by_cases hlti : i < k
        · have hi0 : (0 : Int) ≤ (i : Int) := by omega
          have hil : (i : Int) < (k : Int) := by omega
          have hil' : (i : Int) < (len : Int) := by omega
          obtain ⟨b, off, rfl, hpb, hcs⟩ := (G.out.later hbel.out).2 (by omega)
          obtain ⟨c0, c1, c2⟩ := hcs i (by omega)
          obtain ⟨x0, x1, x2⟩ := hcs k hlt
          obtain ⟨q, eq⟩ : ∃ q, q = ev h i := ⟨_, rfl⟩
          obtain ⟨s, es⟩ : ∃ s, s = ev h k := ⟨_, rfl⟩
          rw [← eq] at c0 c1 c2
          rw [← es] at x0 x1 x2
          obtain ⟨q0, q1, q2⟩ := q
          obtain ⟨s0, s1, s2⟩ := s
          have ED : Hid (edge h i k = (decide (q0 = s0) || (decide (q1 = 2) && decide (s1 = 3) && decide (q2 = s2)))) := by
            show edge h i k = _
            unfold edge
            rw [← eq, ← es, decide_eq_true (show i < k by omega)]
            rfl
          obtain ⟨b2, off2, rfl, hpb2, hns⟩ := N.out.2 (by omega)
          have n0 := hns i hlti
          rw [nums_get h hlti] at n0
          have hmb := mx_nonneg HG.out hlt i (by omega)
          obtain ⟨y, ey⟩ : ∃ y, y = num h i := ⟨_, rfl⟩
          obtain ⟨z, ez⟩ : ∃ z, z = mx h k i := ⟨_, rfl⟩
          rw [← ey] at n0
          rw [← ez] at hmb ⊢
          have EY : Hid (y = num h i ∧ z = mx h k i) := ⟨ey, ez⟩
          clear hcs hpb eq es hpb2 hns ey ez
          by_cases g0 : q0 = s0
          · have E1 : Hid (edge h i k = true) := by show edge h i k = true; rw [ED.out]; simp [g0]
            subst g0
            by_cases hyz : z < y
            · go_wp2
              go_quiet (fail)
              go_wp2
              go_roundw
              case rel =>
                exact ⟨i + 1, by omega, by go_num, by rw [mx_hit E1.out (by rw [← EY.out.1, ← EY.out.2]; exact hyz), ← EY.out.1], ⟨_, rfl⟩⟩
              case measure => simp [intOf]; omega
            · go_wp2
              go_quiet (fail)
              go_wp2
              go_roundw
              case rel =>
                exact ⟨i + 1, by omega, by go_num, by rw [mx_less (by rw [← EY.out.1, ← EY.out.2]; omega), ← EY.out.2], ⟨_, rfl⟩⟩
              case measure => simp [intOf]; omega
          · have g0' : (q0 == s0) = false := by simp [g0]
            by_cases g1 : q1 = 2
            · subst g1
              by_cases g2 : s1 = 3
              · subst g2
                by_cases g3 : q2 = s2
                · have E1 : Hid (edge h i k = true) := by show edge h i k = true; rw [ED.out]; simp [g3]
                  subst g3
                  by_cases hyz : z < y
                  · go_wp2
                    go_quiet (fail)
                    go_wp2
                    go_roundw
                    case rel =>
                      exact ⟨i + 1, by omega, by go_num, by rw [mx_hit E1.out (by rw [← EY.out.1, ← EY.out.2]; exact hyz), ← EY.out.1], ⟨_, rfl⟩⟩
                    case measure => simp [intOf]; omega
                  · go_wp2
                    go_quiet (fail)
                    go_wp2
                    go_roundw
                    case rel =>
                      exact ⟨i + 1, by omega, by go_num, by rw [mx_less (by rw [← EY.out.1, ← EY.out.2]; omega), ← EY.out.2], ⟨_, rfl⟩⟩
                    case measure => simp [intOf]; omega
                · have g3' : (q2 == s2) = false := by simp [g3]
                  have E1 : Hid (edge h i k = false) := by show edge h i k = false; rw [ED.out]; simp [g0, g3]
                  go_wp2
                  go_quiet (fail)
                  go_wp2
                  go_roundw
                  case rel => exact ⟨i + 1, by omega, by go_num, by rw [mx_miss E1.out, ← EY.out.2], ⟨_, rfl⟩⟩
                  case measure => simp [intOf]; omega
              · have g2' : (s1 == 3) = false := by simp [g2]
                have E1 : Hid (edge h i k = false) := by show edge h i k = false; rw [ED.out]; simp [g0, g2]
                go_wp2
                go_quiet (fail)
                go_wp2
                go_roundw
                case rel => exact ⟨i + 1, by omega, by go_num, by rw [mx_miss E1.out, ← EY.out.2], ⟨_, rfl⟩⟩
                case measure => simp [intOf]; omega
            · have g1' : (q1 == 2) = false := by simp [g1]
              have E1 : Hid (edge h i k = false) := by show edge h i k = false; rw [ED.out]; simp [g0, g1]
              go_wp2
              go_quiet (fail)
              go_wp2
              go_roundw
              case rel => exact ⟨i + 1, by omega, by go_num, by rw [mx_miss E1.out, ← EY.out.2], ⟨_, rfl⟩⟩
              case measure => simp [intOf]; omega
        · have hik : i = k := by omega
          subst hik
          have hmb := mx_nonneg HG.out hlt i (by omega)
          have EN : Hid (mx h i i + 1 = num h i) := mx_num HG.out hlt
          obtain ⟨z, ez⟩ : ∃ z, z = mx h i i := ⟨_, rfl⟩
          rw [← ez] at hmb EN ⊢
          have B1 : Hid (Below w.heap.size w (wr.drewN nd)) := below_drewN hbel.out _
          have O1 : Hid ((wr.drewN nd).ownsRow w.heap.size 3 1 (.slice p i pc) i ((nums h i).map (Value.int .i64))) := own_later hO.out (below_drewN (Below.refl _ _) _)
          clear ez
          go_wp2_with (at_builtin; refine wpList_append_own _ rfl _ _ 33 rfl w.heap.size 3 ie (.int .i64 0) 1 8 Tryd.underlying33 HI.out.1 HI.out.2.1 HI.out.2.2.1 HI.out.2.2.2 rfl (by decide) _ i _ rfl (by exact own_later O1.out ((Below.refl _ _).alloc (Nat.le_refl _) _)) ⟨(wr.drewN nd).heap.size, 0, none⟩ 1 1 [.int .i64 (z + 1)] rfl rfl (by exact new_int (wr.drewN nd) _ rfl (z + 1) 3) (int_one _) (by unfold maxLen; omega) (by omega) (by have := SZ.out; simp; omega) ?_; intro v' wn hown hgrow _; have HO : Hid _ := hown; have HGr : Hid _ := hgrow; clear hown hgrow)
          go_roundw
          case rel =>
            refine ⟨i + 1, by omega, by go_num, ?_, ?_⟩
            · exact (B1.out.alloc SZ.out _).grown HGr.out (by have := SZ.out; simp; omega) (own_base O1.out)
            · rw [nums_step, List.map_append, ← EN.out]
              exact HO.out
          case measure => simp [intOf]; omega
    · have hkl : k = len := by omega
      subst hkl
      go_wp2
      go_ret
      exact ⟨⟨_, rfl, hO.out⟩, hbel.out⟩
end Go.Proofs.YtibgdikahihgeabDoor.His
