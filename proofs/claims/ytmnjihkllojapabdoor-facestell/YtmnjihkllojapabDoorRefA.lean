/-
  Contracts of the document's own At and Heard.
-/
import Derived.Test.YtmnjihkllojapabDoorFacA
namespace Go.Proofs.YtmnjihkllojapabDoor.His
open Go.RowKit
open Go.Proofs.YtmnjihkllojapabDoor.Vec

theorem refAt (a : Option Addr) (len cap : Nat) (xs : List Int) (n : Int) (w : World) (hm : len ≤ maxLen) (hv : Vw w a len xs) :
    Calls Tryd.prog 33 #[.slice a len cap, .int .i64 n] w fun e w' => e = .returned (.int .i64 (ixI xs n)) ∧ w' = w := by
  unfold maxLen at hm
  have G : Hid (Vw w a len xs) := hv
  clear hv
  go_enter Tryd.func33, Tryd.ntmps33
  go_wp2
  go_loopw [5] (fun i wr => ∃ k : Nat, k ≤ len ∧ i = .int .i64 k ∧ wr = w ∧ Hid (∀ j, j < k → xs.getD j 0 ≠ n)) (fun i _ => len - (intOf i).toNat)
  case atStart => exact ⟨0, by omega, rfl, rfl, fun j hj => absurd hj (by omega)⟩
  case round =>
    obtain ⟨k, hk, rfl, rfl, hp⟩ := hrel
    by_cases hlt : k < len
    · obtain ⟨b, off, rfl, _, hcs⟩ := G.out.2 (by omega)
      have c0 := hcs k hlt
      obtain ⟨x, ex⟩ : ∃ x, x = xs.getD k 0 := ⟨_, rfl⟩
      rw [← ex] at c0
      have EX : Hid (x = xs.getD k 0) := ex
      have hk0 : (0 : Int) ≤ (k : Int) := by omega
      have hkl : (k : Int) < (len : Int) := by omega
      clear hcs ex
      by_cases hx : x = n
      · subst hx
        have ht : (x == x) = true := by simp
        go_wp2
        go_ret
        exact ⟨ret_int (ix_hit (by rw [G.out.1]; exact hlt) EX.out.symm hp.out).symm, rfl⟩
      · have ht : (x == n) = false := by simp [hx]
        have HX : Hid (x ≠ n) := hx
        go_wp2
        go_roundw
        case rel => exact ⟨k + 1, by omega, by go_num, by first | rfl | trivial, fun j hj => if e : j < k then hp.out j e else by rw [show j = k by omega, ← EX.out]; exact HX.out⟩
        case measure => simp [intOf]; omega
    · go_wp2
      go_ret
      exact ⟨ret_int (ix_miss fun j hj => hp.out j (by have := G.out.1; omega)).symm, rfl⟩

set_option maxRecDepth 100000 in
set_option maxHeartbeats 4000000 in
theorem refHeard (a : Option Addr) (len cap : Nat) (h : List Ev) (who : Int) (w : World) (h60 : len ≤ 60) (hv : Ew w a len h) :
    Calls Tryd.prog 18 #[.slice a len cap, .int .i64 who] w fun x w' => (∃ v, x = .returned v ∧ w'.ownsRow w.heap.size 3 1 v (hrd h who).length ((hrd h who).map (Value.int .i64))) ∧ Below w.heap.size w w' := by
  have G : Hid (Ew w a len h) := hv
  obtain ⟨ie, hi, hz0, hz1, hz2⟩ := info_int
  have HI : Hid (Tryd.prog.info? 3 = some ie ∧ ie.zero = some (.int .i64 0) ∧ ie.size = 1 ∧ ie.bytes = 8) := ⟨hi, hz0, hz1, hz2⟩
  clear hv hi hz0 hz1 hz2
  go_enter Tryd.func18, Tryd.ntmps18
  go_wp2
  go_loopw [5, 6] (fun v x wr => ∃ k : Nat, k ≤ len ∧ x = .int .i64 k ∧ Hid (Below w.heap.size w wr) ∧ Hid (wr.ownsRow w.heap.size 3 1 v (hrd (h.take k) who).length ((hrd (h.take k) who).map (Value.int .i64)))) (fun _ x _ => len - (intOf x).toNat)
  case atStart => exact ⟨0, by omega, rfl, Below.refl _ _, World.ownsRow_nil _ _ _ _⟩
  case round =>
    obtain ⟨k, hk, rfl, hbel, hO⟩ := hrel
    by_cases hlt : k < len
    · have hk0 : (0 : Int) ≤ (k : Int) := by omega
      have hkl : (k : Int) < (len : Int) := by omega
      obtain ⟨p, pc, rfl, -⟩ := own_vw hO.out
      have hkx : Hid (k < h.length) := by rw [← G.out.1] at hlt; exact hlt
      obtain ⟨b1, off, rfl, _, hcs⟩ := (G.out.later hbel.out).2 (by omega)
      obtain ⟨c0, c1, c2⟩ := hcs k hlt
      obtain ⟨q, eq⟩ : ∃ q, q = ev h k := ⟨_, rfl⟩
      rw [← eq] at c0 c1 c2
      obtain ⟨q0, q1, q2⟩ := q
      have EQ : Hid _ := eq
      have BL : Hid ((hrd (h.take k) who).length ≤ k) := Nat.le_trans (hrd_len _ _) (by rw [List.length_take]; exact Nat.min_le_left _ _)
      have B1 : Hid (Below w.heap.size w wr) := hbel.out
      have O1 : Hid _ := hO.out
      have S0 : Hid (hrd (h.take (k + 1)) who = hrd (h.take k) who ++ (if has who (q0, q1, q2) then [q2] else [])) := by show _ = _; rw [hrd_step h who hkx.out, ← EQ.out]
      clear hcs eq
      have SZ : Hid (w.heap.size ≤ wr.heap.size) := hbel.out.size
      by_cases g0 : q0 = who
      · subst g0
        by_cases g1 : q1 = 1
        · subst g1
          have S1 : Hid (hrd (h.take (k + 1)) q0 = hrd (h.take k) q0) := by show _ = _; rw [S0.out]; simp [has]
          go_wp2
          go_roundw
          case rel =>
            refine ⟨k + 1, by omega, by go_num, B1.out, ?_⟩
            show World.ownsRow _ _ _ _ _ _ _
            rw [S1.out]
            exact O1.out
          case measure => simp [intOf]; omega
        · have g1' : (q1 != 1) = true := by rw [bne_iff_ne]; exact g1
          have S1 : Hid (hrd (h.take (k + 1)) q0 = hrd (h.take k) q0 ++ [q2]) := by show _ = _; rw [S0.out]; simp [has, g1]
          go_wp2_with (at_builtin; refine wpList_append_own _ rfl _ _ 33 rfl w.heap.size 3 ie (.int .i64 0) 1 8 Tryd.underlying33 HI.out.1 HI.out.2.1 HI.out.2.2.1 HI.out.2.2.2 rfl (by decide) _ (hrd (h.take k) q0).length _ rfl (by exact own_later O1.out ((Below.refl _ _).alloc (Nat.le_refl _) _)) ⟨wr.heap.size, 0, none⟩ 1 1 [.int .i64 q2] rfl rfl (by exact new_int _ _ (by simp) q2 3) (int_one _) (by have := BL.out; unfold maxLen; omega) (by have := BL.out; omega) (by have := SZ.out; simp; omega) ?_; intro v' wn hown hgrow _; have HO : Hid _ := hown; have HGr : Hid _ := hgrow; clear hown hgrow)
          go_roundw
          case rel =>
            refine ⟨k + 1, by omega, by go_num, ?_, ?_⟩
            · exact (B1.out.alloc B1.out.size _).grown HGr.out (by have := SZ.out; simp; omega) (own_base O1.out)
            · show World.ownsRow _ _ _ _ _ _ _
              rw [S1.out, List.length_append, List.map_append]
              exact HO.out
          case measure => simp [intOf]; omega
      · have g0' : (q0 == who) = false := by simp [g0]
        have S1 : Hid (hrd (h.take (k + 1)) who = hrd (h.take k) who) := by show _ = _; rw [S0.out]; simp [has, g0]
        go_wp2
        go_roundw
        case rel =>
          refine ⟨k + 1, by omega, by go_num, B1.out, ?_⟩
          show World.ownsRow _ _ _ _ _ _ _
          rw [S1.out]
          exact O1.out
        case measure => simp [intOf]; omega
    · have hkl : k = len := by omega
      subst hkl
      go_wp2
      go_ret
      refine ⟨⟨_, rfl, ?_⟩, hbel.out⟩
      have o := hO.out
      rwa [List.take_of_length_le (by rw [G.out.1]; exact Nat.le_refl _)] at o
end Go.Proofs.YtmnjihkllojapabDoor.His
