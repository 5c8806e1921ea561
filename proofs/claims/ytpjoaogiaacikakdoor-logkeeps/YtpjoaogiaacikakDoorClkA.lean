/-
  Contracts of package clock's saidAt, nextNumber and nextVector.
-/
import Derived.Test.YtpjoaogiaacikakDoorHisC
import Derived.Test.YtpjoaogiaacikakDoorClkM
import Derived.LoopN
namespace Go.Proofs.YtpjoaogiaacikakDoor.His
open Go.RowKit

theorem said1 (who what wd : Int) (word : Int) (B : Nat) (w : World) (hv : w.cell? ⟨B, 0, none⟩ = some (.int .i64 word)) :
    Calls Tryd.prog 58 #[.agg #[.int .i64 who, .int .i64 what, .int .i64 wd], .pointer (some ⟨B, 0, none⟩)] w fun x w' => x = .returned (.bool (says word (who, what, wd))) ∧ Below w.heap.size w w' := by
  have hB := block_lt_of_cell hv
  by_cases h2 : what = 2
  · subst h2
    go_enter Tryd.func58, Tryd.ntmps58
    go_wp2
    go_ret
    exact ⟨ret_bool (by rw [Bool.eq_iff_iff]; simp [says]), (Below.refl _ _).alloc (Nat.le_refl _) _⟩
  · have h2' : (what == 2) = false := by simp [h2]
    go_enter Tryd.func58, Tryd.ntmps58
    go_wp2
    go_ret
    exact ⟨ret_bool (by simp [says, h2]), (Below.refl _ _).alloc (Nat.le_refl _) _⟩

theorem idxFunc2 (a : Option Addr) (len cap : Nat) (h : List Ev) (word : Int) (B : Nat) (w : World) (hm : len ≤ maxLen) (hv : Ew w a len h) (hB : B < w.heap.size) (hc : w.cell? ⟨B, 0, none⟩ = some (.int .i64 word)) :
    Calls Tryd.prog 52 #[.slice a len cap, .func (.func 58) #[] #[.pointer (some ⟨B, 0, none⟩)]] w fun x w' => x = .returned (.int .i64 (idxI (says word) h)) ∧ Below w.heap.size w w' := by
  unfold maxLen at hm
  have H1 : Hid (h.length = len) := hv.1
  have G : Hid (Ew w a len h) := hv
  have HC : Hid (B < w.heap.size ∧ w.cell? ⟨B, 0, none⟩ = some (.int .i64 word)) := ⟨hB, hc⟩
  clear hv hB hc
  go_enter Tryd.func52, Tryd.ntmps52
  go_wp2
  go_loopw [8] (fun i wr => ∃ k : Nat, k ≤ len ∧ i = .int .i64 k ∧ Hid (Below w.heap.size w wr) ∧ Hid (∀ j, j < k → says word (ev h j) = false)) (fun i _ => len - (intOf i).toNat)
  case atStart => exact ⟨0, by omega, rfl, Below.refl _ _, fun j hj => absurd hj (by omega)⟩
  case round =>
    obtain ⟨k, hk, rfl, hbel, hp⟩ := hrel
    by_cases hlt : k < len
    · obtain ⟨b, off, rfl, hpb, hcs⟩ := (G.out.later hbel.out).2 (by omega)
      obtain ⟨c0, c1, c2⟩ := hcs k hlt
      have hBw : wr.cell? ⟨B, 0, none⟩ = some (.int .i64 word) := (hbel.out.cell (p := ⟨B, 0, none⟩) HC.out.1).trans HC.out.2
      obtain ⟨q, eq⟩ : ∃ q, q = ev h k := ⟨_, rfl⟩
      rw [← eq] at c0 c1 c2
      obtain ⟨q0, q1, q2⟩ := q
      have EQ : Hid _ := eq
      have HBW : Hid _ := hBw
      clear hcs eq hBw hpb
      have hk0 : (0 : Int) ≤ (k : Int) := by omega
      have hkl : (k : Int) < (len : Int) := by omega
      cases hb : says word (ev h k)
      · go_wp2_with (go_at_call 58; refine (said1 q0 q1 q2 word B _ HBW.out).mono ?_; rintro e w' ⟨rfl, hb2⟩; rw [EQ.out, hb])
        go_roundw
        case rel => exact ⟨k + 1, by omega, by go_num, below_up rfl hbel.out hb2, fun j hj => if e : j < k then hp.out j e else by rw [show j = k by omega]; exact hb⟩
        case measure => simp [intOf]; omega
      · go_wp2_with (go_at_call 58; refine (said1 q0 q1 q2 word B _ HBW.out).mono ?_; rintro e w' ⟨rfl, hb2⟩; rw [EQ.out, hb])
        go_ret
        exact ⟨ret_int (idx_hit (by rw [H1.out]; exact hlt) hb hp.out).symm, below_up rfl hbel.out hb2⟩
    · go_wp2
      go_ret
      refine ⟨ret_int ?_, hbel.out⟩
      rw [idxI, if_neg]
      rw [idx_miss fun j hj => hp.out j (by have := H1.out; omega)]
      decide


theorem saidAt1 (a : Option Addr) (len cap : Nat) (h : List Ev) (word : Int) (w : World) (hm : len ≤ maxLen) (hv : Ew w a len h) :
    Calls Tryd.prog 48 #[.slice a len cap, .int .i64 word] w fun x w' => x = .returned (.int .i64 (idxI (says word) h)) ∧ Below w.heap.size w w' := by
  have B1 : Hid (Below w.heap.size w (w.alloc (.cells #[.int .i64 word] 3))) := (Below.refl _ _).alloc (Nat.le_refl _) _
  go_enter Tryd.func48, Tryd.ntmps48
  go_wp2_with fail
  refine (idxFunc2 a len cap h word w.heap.size _ hm (hv.later B1.out) (by simp) (by simp)).mono ?_
  rintro e w1 ⟨rfl, hb⟩
  clear hv
  go_wp2
  go_ret
  exact ⟨rfl, below_up rfl B1.out hb⟩
theorem idx_say2 {h : List Ev} {N n : Nat} (hg : Good h N) (hn : n < N) (h3 : (ev h n).2.1 = 3) : idxI (says (ev h n).2.2) h = (sayAt h (ev h n).2.2 : Nat) := by
  have ha : h.any (says (ev h n).2.2) = true := by
    obtain ⟨x, hx, hp⟩ := List.any_eq_true.1 (good_said hg hn h3)
    exact List.any_eq_true.2 ⟨x, List.mem_of_mem_take hx, hp⟩
  rw [idxI, if_pos ha]
  rfl

set_option maxRecDepth 100000 in
set_option maxHeartbeats 4000000 in
theorem nextVector1 (m : Nat) (hm : m < 5) (a0 a1 a2 a3 a4 b0 b1 b2 b3 b4 : Int) (w : World)
    (ha : (0 ≤ a0 ∧ a0 ≤ 60) ∧ (0 ≤ a1 ∧ a1 ≤ 60) ∧ (0 ≤ a2 ∧ a2 ≤ 60) ∧ (0 ≤ a3 ∧ a3 ≤ 60) ∧ (0 ≤ a4 ∧ a4 ≤ 60)) (hb : (0 ≤ b0 ∧ b0 ≤ 60) ∧ (0 ≤ b1 ∧ b1 ≤ 60) ∧ (0 ≤ b2 ∧ b2 ≤ 60) ∧ (0 ≤ b3 ∧ b3 ≤ 60) ∧ (0 ≤ b4 ∧ b4 ≤ 60)) :
    Calls Tryd.prog 32 #[.int .i64 (m : Int), .agg #[.int .i64 a0, .int .i64 a1, .int .i64 a2, .int .i64 a3, .int .i64 a4], .agg #[.int .i64 b0, .int .i64 b1, .int .i64 b2, .int .i64 b3, .int .i64 b4]] w
      fun x w' => (∃ r0 r1 r2 r3 r4 : Int, x = .returned (.agg #[.int .i64 r0, .int .i64 r1, .int .i64 r2, .int .i64 r3, .int .i64 r4]) ∧ [r0, r1, r2, r3, r4] = upd (joinR [a0, a1, a2, a3, a4] [b0, b1, b2, b3, b4]) m) ∧ Below w.heap.size w w' := by
  have i0 : ∀ w : World, (Instr.index 69 (.agg #[.int .i64 b0, .int .i64 b1, .int .i64 b2, .int .i64 b3, .int .i64 b4]) (.int .i64 0)).run Tryd.prog w = .ok (.int .i64 b0) w := fun _ => by kernel_rfl
  have i1 : ∀ w : World, (Instr.index 69 (.agg #[.int .i64 b0, .int .i64 b1, .int .i64 b2, .int .i64 b3, .int .i64 b4]) (.int .i64 1)).run Tryd.prog w = .ok (.int .i64 b1) w := fun _ => by kernel_rfl
  have i2 : ∀ w : World, (Instr.index 69 (.agg #[.int .i64 b0, .int .i64 b1, .int .i64 b2, .int .i64 b3, .int .i64 b4]) (.int .i64 2)).run Tryd.prog w = .ok (.int .i64 b2) w := fun _ => by kernel_rfl
  have i3 : ∀ w : World, (Instr.index 69 (.agg #[.int .i64 b0, .int .i64 b1, .int .i64 b2, .int .i64 b3, .int .i64 b4]) (.int .i64 3)).run Tryd.prog w = .ok (.int .i64 b3) w := fun _ => by kernel_rfl
  have i4 : ∀ w : World, (Instr.index 69 (.agg #[.int .i64 b0, .int .i64 b1, .int .i64 b2, .int .i64 b3, .int .i64 b4]) (.int .i64 4)).run Tryd.prog w = .ok (.int .i64 b4) w := fun _ => by kernel_rfl
  have m0 : (if a0 < b0 then b0 else a0) = max a0 b0 := by omega
  have m1 : (if a1 < b1 then b1 else a1) = max a1 b1 := by omega
  have m2 : (if a2 < b2 then b2 else a2) = max a2 b2 := by omega
  have m3 : (if a3 < b3 then b3 else a3) = max a3 b3 := by omega
  have m4 : (if a4 < b4 then b4 else a4) = max a4 b4 := by omega
  obtain ⟨c0, e0⟩ : ∃ c, c = max a0 b0 := ⟨_, rfl⟩
  obtain ⟨c1, e1⟩ : ∃ c, c = max a1 b1 := ⟨_, rfl⟩
  obtain ⟨c2, e2⟩ : ∃ c, c = max a2 b2 := ⟨_, rfl⟩
  obtain ⟨c3, e3⟩ : ∃ c, c = max a3 b3 := ⟨_, rfl⟩
  obtain ⟨c4, e4⟩ : ∃ c, c = max a4 b4 := ⟨_, rfl⟩
  rw [← e0] at m0
  rw [← e1] at m1
  rw [← e2] at m2
  rw [← e3] at m3
  rw [← e4] at m4
  have hc : (0 ≤ c0 ∧ c0 ≤ 60) ∧ (0 ≤ c1 ∧ c1 ≤ 60) ∧ (0 ≤ c2 ∧ c2 ≤ 60) ∧ (0 ≤ c3 ∧ c3 ≤ 60) ∧ (0 ≤ c4 ∧ c4 ≤ 60) := by omega
  have HJ : Hid (joinR [a0, a1, a2, a3, a4] [b0, b1, b2, b3, b4] = [c0, c1, c2, c3, c4]) := by rw [e0, e1, e2, e3, e4]; rfl
  obtain ⟨hc0, hc1, hc2, hc3, hc4⟩ := hc
  clear e0 e1 e2 e3 e4 ha hb
  have hm' : m = 0 ∨ m = 1 ∨ m = 2 ∨ m = 3 ∨ m = 4 := by omega
  clear hm
  rcases hm' with rfl | rfl | rfl | rfl | rfl
  · go_enter Tryd.func32, Tryd.ntmps32
    go_wp2
    refine wp_loop_rounds 6 ?_
    rw [rounds_succ]; go_wp2
    rw [rounds_succ]; go_wp2
    rw [rounds_succ]; go_wp2
    rw [rounds_succ]; go_wp2
    rw [rounds_succ]; go_wp2
    rw [rounds_succ]; go_wp2
    refine bodyPost_ret (v := .agg #[.int .i64 (c0 + 1), .int .i64 c1, .int .i64 c2, .int .i64 c3, .int .i64 c4]) ?_ rfl ?_
    · have u3 := Tryd.underlying3
      simp [results, Tryd.results32, go_sem]
    · exact ⟨⟨(c0 + 1), c1, c2, c3, c4, rfl, by rw [HJ.out]; rfl⟩, (((Below.refl _ _).alloc (Nat.le_refl _) _).alloc (by simp) _).alloc (by simp; omega) _⟩
  · go_enter Tryd.func32, Tryd.ntmps32
    go_wp2
    refine wp_loop_rounds 6 ?_
    rw [rounds_succ]; go_wp2
    rw [rounds_succ]; go_wp2
    rw [rounds_succ]; go_wp2
    rw [rounds_succ]; go_wp2
    rw [rounds_succ]; go_wp2
    rw [rounds_succ]; go_wp2
    refine bodyPost_ret (v := .agg #[.int .i64 c0, .int .i64 (c1 + 1), .int .i64 c2, .int .i64 c3, .int .i64 c4]) ?_ rfl ?_
    · have u3 := Tryd.underlying3
      simp [results, Tryd.results32, go_sem]
    · exact ⟨⟨c0, (c1 + 1), c2, c3, c4, rfl, by rw [HJ.out]; rfl⟩, (((Below.refl _ _).alloc (Nat.le_refl _) _).alloc (by simp) _).alloc (by simp; omega) _⟩
  · go_enter Tryd.func32, Tryd.ntmps32
    go_wp2
    refine wp_loop_rounds 6 ?_
    rw [rounds_succ]; go_wp2
    rw [rounds_succ]; go_wp2
    rw [rounds_succ]; go_wp2
    rw [rounds_succ]; go_wp2
    rw [rounds_succ]; go_wp2
    rw [rounds_succ]; go_wp2
    refine bodyPost_ret (v := .agg #[.int .i64 c0, .int .i64 c1, .int .i64 (c2 + 1), .int .i64 c3, .int .i64 c4]) ?_ rfl ?_
    · have u3 := Tryd.underlying3
      simp [results, Tryd.results32, go_sem]
    · exact ⟨⟨c0, c1, (c2 + 1), c3, c4, rfl, by rw [HJ.out]; rfl⟩, (((Below.refl _ _).alloc (Nat.le_refl _) _).alloc (by simp) _).alloc (by simp; omega) _⟩
  · go_enter Tryd.func32, Tryd.ntmps32
    go_wp2
    refine wp_loop_rounds 6 ?_
    rw [rounds_succ]; go_wp2
    rw [rounds_succ]; go_wp2
    rw [rounds_succ]; go_wp2
    rw [rounds_succ]; go_wp2
    rw [rounds_succ]; go_wp2
    rw [rounds_succ]; go_wp2
    refine bodyPost_ret (v := .agg #[.int .i64 c0, .int .i64 c1, .int .i64 c2, .int .i64 (c3 + 1), .int .i64 c4]) ?_ rfl ?_
    · have u3 := Tryd.underlying3
      simp [results, Tryd.results32, go_sem]
    · exact ⟨⟨c0, c1, c2, (c3 + 1), c4, rfl, by rw [HJ.out]; rfl⟩, (((Below.refl _ _).alloc (Nat.le_refl _) _).alloc (by simp) _).alloc (by simp; omega) _⟩
  · go_enter Tryd.func32, Tryd.ntmps32
    go_wp2
    refine wp_loop_rounds 6 ?_
    rw [rounds_succ]; go_wp2
    rw [rounds_succ]; go_wp2
    rw [rounds_succ]; go_wp2
    rw [rounds_succ]; go_wp2
    rw [rounds_succ]; go_wp2
    rw [rounds_succ]; go_wp2
    refine bodyPost_ret (v := .agg #[.int .i64 c0, .int .i64 c1, .int .i64 c2, .int .i64 c3, .int .i64 (c4 + 1)]) ?_ rfl ?_
    · have u3 := Tryd.underlying3
      simp [results, Tryd.results32, go_sem]
    · exact ⟨⟨c0, c1, c2, c3, (c4 + 1), rfl, by rw [HJ.out]; rfl⟩, (((Below.refl _ _).alloc (Nat.le_refl _) _).alloc (by simp) _).alloc (by simp; omega) _⟩
end Go.Proofs.YtpjoaogiaacikakDoor.His
