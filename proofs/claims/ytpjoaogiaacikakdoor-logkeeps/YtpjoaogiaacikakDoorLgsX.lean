/-
  Contract of package log: Crash.
-/
import Derived.Test.YtpjoaogiaacikakDoorLgsG
import Derived.Test.YtpjoaogiaacikakDoorLgsH
import Derived.Laws.Entries
namespace Go.Proofs.YtpjoaogiaacikakDoor.Lgs
open Go.RowKit
open Go.Proofs.YtpjoaogiaacikakDoor.His (Ev ev errV errV_ok errV_no Eo)
open Go.Proofs.YtpjoaogiaacikakDoor.Sep (KpL NewL)
open Go.Proofs.YtpjoaogiaacikakDoor.Fif (own_lt own_block own_mono own_form)
set_option linter.unusedVariables false
variable {w w' : World} {base P : Nat} {v : Value} {lf : Int} {hb : List Int} {l : L}

theorem high_le (hi : Inv l) (keep : Int) : high l keep ≤ bytes l := by
  have := hi.small.2.2
  unfold high
  split <;> omega
/-- a third of what stays -/
theorem LF.third (h : LF w base P v lf hb l) (hi : Inv l) (keep : Int) : high l keep / 3 ≤ l.es.length := by
  have := high_le hi keep
  have := h.bytes
  have := h.one
  omega
theorem LF.crash (h : LF w base P v lf hb l) (hi : Inv l) (keep : Int) : crashL l keep = ⟨l.es.take (high l keep / 3), List.replicate (high l keep / 3) 3, 0, high l keep / 3 * 3, -1, false⟩ := by
  have h3 := h.third hi keep
  unfold crashL
  rw [h.rs, rep_whole, Nat.min_eq_right h3, rep_take, Nat.min_eq_left h3, rep_sum]
theorem St.drew {w w1 : World} {base P : Nat} (h : St w w1 base P) : St w w1.drew base P := ⟨h.size, h.bel.drew, h.blk⟩
/-- behind a Crash -/
theorem LF.crashed (h : LF w base P v lf hb l) {H T : Nat} (h3 : H / 3 ≤ l.es.length) (eT : T = H / 3 * 3) {v' : Value} (r : w'.rowIs P 48 4 (cv v' T (-1) false)) (s : St w w' base P) (ro : Ro w base v' ((rcs l.es ++ hb).take T)) (hn : ∀ k, v'.ownBlock = some k → v.ownBlock = some k) :
    Re w w' base P l v v' ⟨l.es.take (H / 3), List.replicate (H / 3) 3, 0, H / 3 * 3, -1, false⟩ := by
  have e : (rcs l.es ++ hb).take T = rcs (l.es.take (H / 3)) := by
    rw [eT, rcs_take, List.take_append_of_le_length (by rw [rcs_len]; omega)]
  rw [e] at ro
  have ro' : Ro w' base v' (rcs (l.es.take (H / 3))) := own_block ro fun k hk => s.blk k fun q => h.ne (q ▸ hn k hk)
  refine ⟨⟨-1, [], ?_, h.low, by rw [List.append_nil]; exact ro', rfl, Nat.zero_le _, ?_, ?_, .inl rfl, by decide⟩, s.bel, ⟨Nat.le_of_eq s.size.symm, fun b _ q => s.blk b fun t => q (mem_fpL.2 (.inl t))⟩, fun b hb => .inl ?_⟩
  · show w'.rowIs P 48 4 (cv v' (H / 3 * 3) (-1) false)
    rw [← eT]
    exact r
  · show List.replicate (H / 3) 3 = List.replicate (l.es.take (H / 3)).length 3
    rw [List.length_take, Nat.min_eq_left h3]
  · show H / 3 * 3 % 3 = 0
    omega
  · rcases mem_fpL.1 hb with t | t
    · exact mem_fpL.2 (.inl t)
    · exact mem_fpL.2 (.inr (hn b t))
set_option maxRecDepth 100000 in
set_option maxHeartbeats 4000000 in
theorem crash_any (keep : Int) (h : LF w base P v lf hb l) (hi : Inv l) : Calls Tryd.prog 12 #[.pointer (some ⟨P, 0, none⟩), .int .i64 keep] w fun x w' => x = .returned (.tuple #[]) ∧ ∃ v', Re w w' base P l v v' (crashL l keep) := by
  have h3 := h.third hi keep
  rw [h.crash hi keep]
  obtain ⟨hN, hsm, hle⟩ := hi.small
  obtain ⟨H, eH⟩ : ∃ H, H = high l keep := ⟨_, rfl⟩
  rw [← eH] at h3 ⊢
  obtain ⟨B, eB⟩ : ∃ B, B = bytes l := ⟨_, rfl⟩
  obtain ⟨s, es⟩ : ∃ s, s = l.safe := ⟨_, rfl⟩
  have hl : (rcs l.es ++ hb).length = B := by rw [h.lenN, eB, h.bytes]
  obtain ⟨d0, g0⟩ := h.c0
  obtain ⟨d1, g1⟩ := h.c1
  obtain ⟨d2, g2⟩ := h.c2
  obtain ⟨d3, g3⟩ := h.c3
  rw [← es] at d1
  have hsB : s ≤ B := by rw [es, eB]; exact hle
  have hB9 : B ≤ 61000 := by rw [eB]; exact hsm
  have hHB : H ≤ B := by rw [eH, eB]; exact high_le hi keep
  have HG : Hid (LF w base P v lf hb l ∧ Inv l ∧ H / 3 ≤ l.es.length) := ⟨h, hi, h3⟩
  have cases : (keep ≤ 0 ∧ H = s) ∨ (0 < keep ∧ keep ≤ (B : Int) - (s : Int) ∧ (H : Int) = (s : Int) + keep) ∨ (0 < keep ∧ ¬ keep ≤ (B : Int) - (s : Int) ∧ H = B) := by
    unfold high at eH
    rw [← es, ← eB] at eH
    by_cases a : keep ≤ 0
    · rw [if_pos a] at eH; exact .inl ⟨a, eH⟩
    · rw [if_neg a] at eH; omega
  obtain ⟨M, hM⟩ : ∃ M, (if keep < 0 then 0 else keep) = M := ⟨_, rfl⟩
  obtain ⟨m, hm⟩ : ∃ m, (if (B : Int) - (s : Int) < M then (B : Int) - (s : Int) else M) = m := ⟨_, rfl⟩
  have hsm' : (s : Int) + m = (H : Int) := by
    rw [← hm, ← hM]
    split <;> split <;> omega
  obtain ⟨T, eT⟩ : ∃ T, T = H / 3 * 3 := ⟨_, rfl⟩
  have hT : (H : Int) - (H : Int) % 3 = (T : Int) := by omega
  have hTB : T ≤ B := by omega
  have ET : Hid (T = H / 3 * 3) := eT
  have hw1 := IntWalk.i64_in ((B : Int) - (s : Int)) (by omega)
  have hw2 := IntWalk.i64_in ((s : Int) + m) (by omega)
  rw [hsm'] at hw2
  have hRo := h.ro.2
  rw [hl] at hRo
  clear h hi hle hsm hN eH eB es h3 cases eT hl
  rcases hRo with ⟨hv, hB0⟩ | ⟨g, c, cur, hv, -, -, hBc, hcm, -, -⟩
  · subst hv hB0
    have hs0 : s = 0 := by omega
    subst hs0
    have hH0 : H = 0 := by omega
    subst hH0
    have hT0' : T = 0 := by omega
    subst hT0'
    have hm0 : m = 0 := by omega
    subst hm0
    have hM0 : (0 : Int) ≤ M := by rw [← hM]; split <;> omega
    have hm2 : (if (0 : Int) < M then 0 else M) = 0 := by split <;> omega
    clear hm hM0 hsm' hw1 hw2 hT
    have hw1 : IntKind.i64.wrap 0 = 0 := IntWalk.i64_in 0 (by decide)
    go_enter Tryd.func12, Tryd.ntmps12
    go_upto_region 0 with fail
    refine wp_region_held_drew (S := fun X => X.cell? ⟨P, 0, none⟩ = some (.slice none 0 0) ∧ X.cell? ⟨P, 1, none⟩ = some (.int .i64 0)) (by kernel_rfl) ⟨d0, d1⟩ ?_
    intro hS
    refine takeL (i := 0) 5 (v := .pointer (some ⟨P, 0, none⟩)) rfl rfl (by kernel_rfl) (by kernel_rfl) (by kernel_rfl) (fun _ _ _ h => h) (Or.inl ⟨by kernel_rfl, fun _ hS => by first | rfl | (obtain ⟨k0, k1⟩ := hS; go_simp)⟩) hS ?_
    try simp only [Act.put, List.setIfInBounds_toArray, List.set_cons_zero, List.set_cons_succ]
    refine takeL (i := 1) 6 (v := .pointer (some ⟨P, 0, none⟩)) rfl rfl (by kernel_rfl) (by kernel_rfl) (by kernel_rfl) (fun _ _ _ h => h) (Or.inl ⟨by kernel_rfl, fun _ hS => by first | rfl | (obtain ⟨k0, k1⟩ := hS; go_simp)⟩) hS ?_
    try simp only [Act.put, List.setIfInBounds_toArray, List.set_cons_zero, List.set_cons_succ]
    refine takeL (i := 2) 7 (v := .pointer (some ⟨P, 1, none⟩)) rfl rfl (by kernel_rfl) (by kernel_rfl) (by kernel_rfl) (fun _ _ _ h => h) (Or.inl ⟨by kernel_rfl, fun _ hS => by first | rfl | (obtain ⟨k0, k1⟩ := hS; go_simp)⟩) hS ?_
    try simp only [Act.put, List.setIfInBounds_toArray, List.set_cons_zero, List.set_cons_succ]
    refine takeL (i := 3) 8 (v := .int .i64 0) rfl rfl (by kernel_rfl) (by kernel_rfl) (by kernel_rfl) (fun _ _ _ h => h) (Or.inl ⟨by kernel_rfl, fun _ hS => by first | rfl | (obtain ⟨k0, k1⟩ := hS; go_simp)⟩) hS ?_
    try simp only [Act.put, List.setIfInBounds_toArray, List.set_cons_zero, List.set_cons_succ]
    refine takeL (i := 4) 9 (v := .int .i64 keep) rfl rfl (by kernel_rfl) (by kernel_rfl) (by kernel_rfl) (fun _ _ _ h => h) (Or.inl ⟨by kernel_rfl, fun _ hS => by first | rfl | (obtain ⟨k0, k1⟩ := hS; go_simp)⟩) hS ?_
    try simp only [Act.put, List.setIfInBounds_toArray, List.set_cons_zero, List.set_cons_succ]
    refine takeL (i := 5) 10 (v := .int .i64 M) rfl rfl (by kernel_rfl) (by kernel_rfl) (by kernel_rfl) (fun _ _ _ h => h) (Or.inl ⟨by kernel_rfl, fun _ hS => by first | rfl | (obtain ⟨k0, k1⟩ := hS; go_simp)⟩) hS ?_
    try simp only [Act.put, List.setIfInBounds_toArray, List.set_cons_zero, List.set_cons_succ]
    refine takeL (i := 6) 11 (v := .pointer (some ⟨P, 0, none⟩)) rfl rfl (by kernel_rfl) (by kernel_rfl) (by kernel_rfl) (fun _ _ _ h => h) (Or.inl ⟨by kernel_rfl, fun _ hS => by first | rfl | (obtain ⟨k0, k1⟩ := hS; go_simp)⟩) hS ?_
    try simp only [Act.put, List.setIfInBounds_toArray, List.set_cons_zero, List.set_cons_succ]
    refine takeL (i := 7) 12 (v := .pointer (some ⟨P, 0, none⟩)) rfl rfl (by kernel_rfl) (by kernel_rfl) (by kernel_rfl) (fun _ _ _ h => h) (Or.inl ⟨by kernel_rfl, fun _ hS => by first | rfl | (obtain ⟨k0, k1⟩ := hS; go_simp)⟩) hS ?_
    try simp only [Act.put, List.setIfInBounds_toArray, List.set_cons_zero, List.set_cons_succ]
    refine takeL (i := 8) 13 (v := .pointer (some ⟨P, 0, none⟩)) rfl rfl (by kernel_rfl) (by kernel_rfl) (by kernel_rfl) (fun _ _ _ h => h) (Or.inl ⟨by kernel_rfl, fun _ hS => by first | rfl | (obtain ⟨k0, k1⟩ := hS; go_simp)⟩) hS ?_
    try simp only [Act.put, List.setIfInBounds_toArray, List.set_cons_zero, List.set_cons_succ]
    refine takeL (i := 9) 14 (v := .slice none 0 0) rfl rfl (by kernel_rfl) (by kernel_rfl) (by kernel_rfl) (fun _ _ _ h => h) (Or.inl ⟨by kernel_rfl, fun _ hS => by first | rfl | (obtain ⟨k0, k1⟩ := hS; go_simp)⟩) hS ?_
    try simp only [Act.put, List.setIfInBounds_toArray, List.set_cons_zero, List.set_cons_succ]
    refine takeL (i := 10) 15 (v := .int .i64 0) rfl rfl (by kernel_rfl) (by kernel_rfl) (by kernel_rfl) (fun _ _ _ h => h) (Or.inl ⟨by kernel_rfl, fun _ hS => by first | rfl | (obtain ⟨k0, k1⟩ := hS; go_simp)⟩) hS ?_
    try simp only [Act.put, List.setIfInBounds_toArray, List.set_cons_zero, List.set_cons_succ]
    refine takeL (i := 11) 16 (v := .pointer (some ⟨P, 0, none⟩)) rfl rfl (by kernel_rfl) (by kernel_rfl) (by kernel_rfl) (fun _ _ _ h => h) (Or.inl ⟨by kernel_rfl, fun _ hS => by first | rfl | (obtain ⟨k0, k1⟩ := hS; go_simp)⟩) hS ?_
    try simp only [Act.put, List.setIfInBounds_toArray, List.set_cons_zero, List.set_cons_succ]
    refine takeL (i := 12) 17 (v := .pointer (some ⟨P, 0, none⟩)) rfl rfl (by kernel_rfl) (by kernel_rfl) (by kernel_rfl) (fun _ _ _ h => h) (Or.inl ⟨by kernel_rfl, fun _ hS => by first | rfl | (obtain ⟨k0, k1⟩ := hS; go_simp)⟩) hS ?_
    try simp only [Act.put, List.setIfInBounds_toArray, List.set_cons_zero, List.set_cons_succ]
    refine takeL (i := 13) 18 (v := .pointer (some ⟨P, 1, none⟩)) rfl rfl (by kernel_rfl) (by kernel_rfl) (by kernel_rfl) (fun _ _ _ h => h) (Or.inl ⟨by kernel_rfl, fun _ hS => by first | rfl | (obtain ⟨k0, k1⟩ := hS; go_simp)⟩) hS ?_
    try simp only [Act.put, List.setIfInBounds_toArray, List.set_cons_zero, List.set_cons_succ]
    refine takeL (i := 14) 19 (v := .int .i64 0) rfl rfl (by kernel_rfl) (by kernel_rfl) (by kernel_rfl) (fun _ _ _ h => h) (Or.inl ⟨by kernel_rfl, fun _ hS => by first | rfl | (obtain ⟨k0, k1⟩ := hS; go_simp)⟩) hS ?_
    try simp only [Act.put, List.setIfInBounds_toArray, List.set_cons_zero, List.set_cons_succ]
    refine takeL (i := 15) 20 (v := .int .i64 0) rfl rfl (by kernel_rfl) (by kernel_rfl) (by kernel_rfl) (fun _ _ _ h => h) (Or.inl ⟨by kernel_rfl, fun _ hS => by first | rfl | (obtain ⟨k0, k1⟩ := hS; go_simp)⟩) hS ?_
    try simp only [Act.put, List.setIfInBounds_toArray, List.set_cons_zero, List.set_cons_succ]
    refine takeL (i := 16) 21 (v := .int .i64 0) rfl rfl (by kernel_rfl) (by kernel_rfl) (by kernel_rfl) (fun _ _ _ h => h) (Or.inl ⟨by kernel_rfl, fun _ hS => by first | rfl | (obtain ⟨k0, k1⟩ := hS; go_simp)⟩) hS ?_
    try simp only [Act.put, List.setIfInBounds_toArray, List.set_cons_zero, List.set_cons_succ]
    refine takeL (i := 17) 22 (v := .int .i64 0) rfl rfl (by kernel_rfl) (by kernel_rfl) (by kernel_rfl) (fun _ _ _ h => h) (Or.inl ⟨by kernel_rfl, fun _ hS => by first | rfl | (obtain ⟨k0, k1⟩ := hS; go_simp)⟩) hS ?_
    try simp only [Act.put, List.setIfInBounds_toArray, List.set_cons_zero, List.set_cons_succ]
    refine takeL (i := 18) 4 (v := .int .i64 0) rfl rfl (by kernel_rfl) (by kernel_rfl) (by kernel_rfl) (fun _ _ _ h => h) (Or.inl ⟨by kernel_rfl, fun _ hS => by first | rfl | (obtain ⟨k0, k1⟩ := hS; go_simp)⟩) hS ?_
    try simp only [Act.put, List.setIfInBounds_toArray, List.set_cons_zero, List.set_cons_succ]
    refine wpAnyH_done (by kernel_rfl) ?_ _
    have R1 : Hid _ := cv_safe HG.out.1.row 0
    have z0 : (w.setCell ⟨P, 1, none⟩ (.int .i64 ((0 : Nat) : Int))).cell? ⟨P, 0, none⟩ = some (.slice none 0 0) := World.rowIs.cell R1.out (i := 0) (by omega)
    have z1 : (w.setCell ⟨P, 1, none⟩ (.int .i64 ((0 : Nat) : Int))).cell? ⟨P, 1, none⟩ = some (.int .i64 ((0 : Nat) : Int)) := World.rowIs.cell R1.out (i := 1) (by omega)
    have y0 : (w.setCell ⟨P, 1, none⟩ (.int .i64 ((0 : Nat) : Int))).frozen? ⟨P, 0, none⟩ = false := World.rowIs.frozen R1.out 0
    simp only [Int.ofNat_zero] at z0 z1 y0
    go_upto_region 2 with fail
    go_region
    go_wp2_with fail
    go_end0
    exact ⟨rfl, _, HG.out.1.crashed HG.out.2.2 (show 0 = 0 / 3 * 3 by decide) (cv_stop (cv_left (cv_kept R1.out _) (-1)) false) ((((St.set _ _ HG.out.1.low).trans (St.set _ _ HG.out.1.low)).drew.drew.trans (St.set _ _ HG.out.1.low)).trans (St.set _ _ HG.out.1.low)) (row_take HG.out.1.ro (Nat.zero_le _)) (fun _ h => h)⟩
  · subst hv
    go_enter Tryd.func12, Tryd.ntmps12
    go_upto_region 0 with fail
    refine wp_region_held_drew (S := fun X => X.cell? ⟨P, 0, none⟩ = some (.slice (some ⟨g, 0, none⟩) B c) ∧ X.cell? ⟨P, 1, none⟩ = some (.int .i64 (s : Int))) (by kernel_rfl) ⟨d0, d1⟩ ?_
    intro hS
    refine takeL (i := 0) 5 (v := .pointer (some ⟨P, 0, none⟩)) rfl rfl (by kernel_rfl) (by kernel_rfl) (by kernel_rfl) (fun _ _ _ h => h) (Or.inl ⟨by kernel_rfl, fun _ hS => by first | rfl | (obtain ⟨k0, k1⟩ := hS; go_simp)⟩) hS ?_
    try simp only [Act.put, List.setIfInBounds_toArray, List.set_cons_zero, List.set_cons_succ]
    refine takeL (i := 1) 6 (v := .pointer (some ⟨P, 0, none⟩)) rfl rfl (by kernel_rfl) (by kernel_rfl) (by kernel_rfl) (fun _ _ _ h => h) (Or.inl ⟨by kernel_rfl, fun _ hS => by first | rfl | (obtain ⟨k0, k1⟩ := hS; go_simp)⟩) hS ?_
    try simp only [Act.put, List.setIfInBounds_toArray, List.set_cons_zero, List.set_cons_succ]
    refine takeL (i := 2) 7 (v := .pointer (some ⟨P, 1, none⟩)) rfl rfl (by kernel_rfl) (by kernel_rfl) (by kernel_rfl) (fun _ _ _ h => h) (Or.inl ⟨by kernel_rfl, fun _ hS => by first | rfl | (obtain ⟨k0, k1⟩ := hS; go_simp)⟩) hS ?_
    try simp only [Act.put, List.setIfInBounds_toArray, List.set_cons_zero, List.set_cons_succ]
    refine takeL (i := 3) 8 (v := .int .i64 (s : Int)) rfl rfl (by kernel_rfl) (by kernel_rfl) (by kernel_rfl) (fun _ _ _ h => h) (Or.inl ⟨by kernel_rfl, fun _ hS => by first | rfl | (obtain ⟨k0, k1⟩ := hS; go_simp)⟩) hS ?_
    try simp only [Act.put, List.setIfInBounds_toArray, List.set_cons_zero, List.set_cons_succ]
    refine takeL (i := 4) 9 (v := .int .i64 keep) rfl rfl (by kernel_rfl) (by kernel_rfl) (by kernel_rfl) (fun _ _ _ h => h) (Or.inl ⟨by kernel_rfl, fun _ hS => by first | rfl | (obtain ⟨k0, k1⟩ := hS; go_simp)⟩) hS ?_
    try simp only [Act.put, List.setIfInBounds_toArray, List.set_cons_zero, List.set_cons_succ]
    refine takeL (i := 5) 10 (v := .int .i64 M) rfl rfl (by kernel_rfl) (by kernel_rfl) (by kernel_rfl) (fun _ _ _ h => h) (Or.inl ⟨by kernel_rfl, fun _ hS => by first | rfl | (obtain ⟨k0, k1⟩ := hS; go_simp)⟩) hS ?_
    try simp only [Act.put, List.setIfInBounds_toArray, List.set_cons_zero, List.set_cons_succ]
    refine takeL (i := 6) 11 (v := .pointer (some ⟨P, 0, none⟩)) rfl rfl (by kernel_rfl) (by kernel_rfl) (by kernel_rfl) (fun _ _ _ h => h) (Or.inl ⟨by kernel_rfl, fun _ hS => by first | rfl | (obtain ⟨k0, k1⟩ := hS; go_simp)⟩) hS ?_
    try simp only [Act.put, List.setIfInBounds_toArray, List.set_cons_zero, List.set_cons_succ]
    refine takeL (i := 7) 12 (v := .pointer (some ⟨P, 0, none⟩)) rfl rfl (by kernel_rfl) (by kernel_rfl) (by kernel_rfl) (fun _ _ _ h => h) (Or.inl ⟨by kernel_rfl, fun _ hS => by first | rfl | (obtain ⟨k0, k1⟩ := hS; go_simp)⟩) hS ?_
    try simp only [Act.put, List.setIfInBounds_toArray, List.set_cons_zero, List.set_cons_succ]
    refine takeL (i := 8) 13 (v := .pointer (some ⟨P, 0, none⟩)) rfl rfl (by kernel_rfl) (by kernel_rfl) (by kernel_rfl) (fun _ _ _ h => h) (Or.inl ⟨by kernel_rfl, fun _ hS => by first | rfl | (obtain ⟨k0, k1⟩ := hS; go_simp)⟩) hS ?_
    try simp only [Act.put, List.setIfInBounds_toArray, List.set_cons_zero, List.set_cons_succ]
    refine takeL (i := 9) 14 (v := .slice (some ⟨g, 0, none⟩) B c) rfl rfl (by kernel_rfl) (by kernel_rfl) (by kernel_rfl) (fun _ _ _ h => h) (Or.inl ⟨by kernel_rfl, fun _ hS => by first | rfl | (obtain ⟨k0, k1⟩ := hS; go_simp)⟩) hS ?_
    try simp only [Act.put, List.setIfInBounds_toArray, List.set_cons_zero, List.set_cons_succ]
    refine takeL (i := 10) 15 (v := .int .i64 (B : Int)) rfl rfl (by kernel_rfl) (by kernel_rfl) (by kernel_rfl) (fun _ _ _ h => h) (Or.inl ⟨by kernel_rfl, fun _ hS => by first | rfl | (obtain ⟨k0, k1⟩ := hS; go_simp)⟩) hS ?_
    try simp only [Act.put, List.setIfInBounds_toArray, List.set_cons_zero, List.set_cons_succ]
    refine takeL (i := 11) 16 (v := .pointer (some ⟨P, 0, none⟩)) rfl rfl (by kernel_rfl) (by kernel_rfl) (by kernel_rfl) (fun _ _ _ h => h) (Or.inl ⟨by kernel_rfl, fun _ hS => by first | rfl | (obtain ⟨k0, k1⟩ := hS; go_simp)⟩) hS ?_
    try simp only [Act.put, List.setIfInBounds_toArray, List.set_cons_zero, List.set_cons_succ]
    refine takeL (i := 12) 17 (v := .pointer (some ⟨P, 0, none⟩)) rfl rfl (by kernel_rfl) (by kernel_rfl) (by kernel_rfl) (fun _ _ _ h => h) (Or.inl ⟨by kernel_rfl, fun _ hS => by first | rfl | (obtain ⟨k0, k1⟩ := hS; go_simp)⟩) hS ?_
    try simp only [Act.put, List.setIfInBounds_toArray, List.set_cons_zero, List.set_cons_succ]
    refine takeL (i := 13) 18 (v := .pointer (some ⟨P, 1, none⟩)) rfl rfl (by kernel_rfl) (by kernel_rfl) (by kernel_rfl) (fun _ _ _ h => h) (Or.inl ⟨by kernel_rfl, fun _ hS => by first | rfl | (obtain ⟨k0, k1⟩ := hS; go_simp)⟩) hS ?_
    try simp only [Act.put, List.setIfInBounds_toArray, List.set_cons_zero, List.set_cons_succ]
    refine takeL (i := 14) 19 (v := .int .i64 (s : Int)) rfl rfl (by kernel_rfl) (by kernel_rfl) (by kernel_rfl) (fun _ _ _ h => h) (Or.inl ⟨by kernel_rfl, fun _ hS => by first | rfl | (obtain ⟨k0, k1⟩ := hS; go_simp)⟩) hS ?_
    try simp only [Act.put, List.setIfInBounds_toArray, List.set_cons_zero, List.set_cons_succ]
    refine takeL (i := 15) 20 (v := .int .i64 ((B : Int) - (s : Int))) rfl rfl (by kernel_rfl) (by kernel_rfl) (by kernel_rfl) (fun _ _ _ h => h) (Or.inl ⟨by kernel_rfl, fun _ hS => by first | rfl | (obtain ⟨k0, k1⟩ := hS; go_simp)⟩) hS ?_
    try simp only [Act.put, List.setIfInBounds_toArray, List.set_cons_zero, List.set_cons_succ]
    refine takeL (i := 16) 21 (v := .int .i64 m) rfl rfl (by kernel_rfl) (by kernel_rfl) (by kernel_rfl) (fun _ _ _ h => h) (Or.inl ⟨by kernel_rfl, fun _ hS => by first | rfl | (obtain ⟨k0, k1⟩ := hS; go_simp)⟩) hS ?_
    try simp only [Act.put, List.setIfInBounds_toArray, List.set_cons_zero, List.set_cons_succ]
    refine takeL (i := 17) 22 (v := .int .i64 (H : Int)) rfl rfl (by kernel_rfl) (by kernel_rfl) (by kernel_rfl) (fun _ _ _ h => h) (Or.inl ⟨by kernel_rfl, fun _ hS => by first | rfl | (obtain ⟨k0, k1⟩ := hS; go_simp)⟩) hS ?_
    try simp only [Act.put, List.setIfInBounds_toArray, List.set_cons_zero, List.set_cons_succ]
    refine takeL (i := 18) 4 (v := .int .i64 (H : Int)) rfl rfl (by kernel_rfl) (by kernel_rfl) (by kernel_rfl) (fun _ _ _ h => h) (Or.inl ⟨by kernel_rfl, fun _ hS => by first | rfl | (obtain ⟨k0, k1⟩ := hS; go_simp)⟩) hS ?_
    try simp only [Act.put, List.setIfInBounds_toArray, List.set_cons_zero, List.set_cons_succ]
    refine wpAnyH_done (by kernel_rfl) ?_ _
    have R1 : Hid _ := cv_safe HG.out.1.row T
    have z0 : (w.setCell ⟨P, 1, none⟩ (.int .i64 (T : Int))).cell? ⟨P, 0, none⟩ = some (.slice (some ⟨g, 0, none⟩) B c) := World.rowIs.cell R1.out (i := 0) (by omega)
    have z1 : (w.setCell ⟨P, 1, none⟩ (.int .i64 (T : Int))).cell? ⟨P, 1, none⟩ = some (.int .i64 (T : Int)) := World.rowIs.cell R1.out (i := 1) (by omega)
    have y0 := World.rowIs.frozen R1.out 0
    have hT0 : (0 : Int) ≤ (T : Int) := by omega
    have hT1 : (T : Int) ≤ (B : Int) := by omega
    have hT2 : (T : Int) ≤ (c : Int) := by omega
    go_upto_region 2 with fail
    go_region
    go_wp2_with fail
    go_end0
    exact ⟨rfl, _, HG.out.1.crashed HG.out.2.2 ET.out (cv_stop (cv_left (cv_kept R1.out _) (-1)) false) ((((St.set _ _ HG.out.1.low).trans (St.set _ _ HG.out.1.low)).drew.drew.trans (St.set _ _ HG.out.1.low)).trans (St.set _ _ HG.out.1.low)) (row_take HG.out.1.ro hTB) (fun _ h => h)⟩
end Go.Proofs.YtpjoaogiaacikakDoor.Lgs
