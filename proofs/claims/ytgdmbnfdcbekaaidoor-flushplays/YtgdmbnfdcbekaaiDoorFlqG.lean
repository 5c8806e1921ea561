/-
  The document's own group that flushes: Give.
-/
import Derived.Test.YtgdmbnfdcbekaaiDoorFlqS
namespace Go.Proofs.YtgdmbnfdcbekaaiDoor.Flu
open Go.RowKit
open Go.Proofs.YtgdmbnfdcbekaaiDoor.Fif (own_lt own_block own_form own_vw ret_bool info_int new_int int_one)
open Go.Proofs.YtgdmbnfdcbekaaiDoor.Vec (Vw)
open Go.Proofs.YtgdmbnfdcbekaaiDoor.Viw (refIn ret_iv)
set_option linter.unusedVariables false
variable {w w' : World} {base R g cap : Nat} {f : F} {rv : Nat → Value}

set_option maxRecDepth 100000 in
set_option maxHeartbeats 2000000 in
theorem refGive (who word : Int) (h : RF w base R f rv g cap) (hi : Inv f) (hr : Rng f) (hv : f.v.n ≤ 1000) : Calls Tryd.prog 13 #[.pointer (some ⟨R, 0, none⟩), .int .i64 who, .int .i64 word] w fun e w' => ∃ rv', e = .returned (.int .i64 (giveC f who word)) ∧ FR w w' base R f (give f who word) rv rv' g g cap := by
  have hbw : base ≤ w.heap.size := Nat.le_trans h.low (Nat.le_of_lt (World.rowIs.lt h.main))
  have HF : Hid (RF w base R f rv g cap ∧ Inv f) := ⟨h, hi⟩
  by_cases hc : chk f who word = 0
  · obtain ⟨hw, hwd, hin⟩ := chk_ok hc
    obtain ⟨m, rfl⟩ : ∃ m : Nat, who = (m : Int) := ⟨who.toNat, by omega⟩
    obtain ⟨k, rfl⟩ : ∃ k : Nat, word = (k : Int) := ⟨word.toNat, by omega⟩
    have hm5 : m < 5 := by omega
    have HRG : Hid (∀ a b, (f.hd a b).length ≤ 30) := fun a b => hd_len hi hr b a
    obtain ⟨qs, cs, es1, hvs⟩ := h.ints.see (i := 1) (by unfold cntF; omega)
    have el : lsF f 1 = f.said := rfl
    rw [el] at es1 hvs
    obtain ⟨ls, els⟩ : ∃ ls, ls = f.said.length := ⟨_, rfl⟩
    have hls : ls ≤ 30 := by rw [els]; exact said30 hi
    rw [← els] at es1 hvs
    have x33 := h.main.cs
    rw [es1] at x33
    have HV : Hid (Vw w qs ls f.said) := hvs
    by_cases hs : (k : Int) ∈ f.said
    · have HS : Hid (f.said.contains (k : Int) = true) := List.contains_iff_mem.2 hs
      obtain ⟨N, eN⟩ : ∃ N, N = num f := ⟨_, rfl⟩
      have eNn : f.v.n = (N : Int) := by rw [eN]; exact hi.numI.symm
      obtain ⟨K, eK⟩ : ∃ K, K = num f + 1 := ⟨_, rfl⟩
      have hN0 : (0 : Int) ≤ (N : Int) := by omega
      have hNK : (N : Int) < (K : Int) := by omega
      have hm0 : (0 : Int) ≤ (m : Int) := by omega
      have hm5' : (m : Int) < 5 := by omega
      have hix : ix N m < cntF f := by rw [eN]; exact ix_lt (Nat.le_refl _) hm5
      obtain ⟨qh, ch, eh, hvh⟩ := h.ints.see hix
      have eLh : lsF f (ix N m) = f.hd N m := lsF_ix f hm5
      obtain ⟨lh, elh⟩ : ∃ lh, lh = (lsF f (ix N m)).length := ⟨_, rfl⟩
      rw [← elh] at eh hvh
      have hlh : lh ≤ 30 := by rw [elh, eLh]; exact HRG.out N m
      have z0 := h.main.c0
      have z34 := h.main.cr
      have zg := h.rows.cell (k := N) (m := m) (by omega) hm5
      rw [eh] at zg
      rw [eNn] at z0
      rw [← eK] at z34
      have HH : Hid (Vw w qh lh (f.hd N m)) := by rw [← eLh]; exact hvh
      have HC : Hid (chk f (m : Int) (k : Int) = 0 ∧ base ≤ w.heap.size ∧ N = num f ∧ K = num f + 1 ∧ m < 5 ∧ k < 31) := ⟨hc, hbw, eN, eK, hm5, by omega⟩
      have hcu : cur f (m : Int).toNat = f.hd N m := by rw [Int.toNat_natCast, eN]; rfl
      by_cases hd : (k : Int) ∈ f.hd N m
      · have es : giveC f (m : Int) (k : Int) = 7 := by unfold giveC; rw [if_pos hc, if_pos hs, hcu, if_pos hd]
        have ef : give f (m : Int) (k : Int) = f := if_neg (by rw [es]; decide)
        rw [es, ef]
        have HD : Hid ((f.hd N m).contains (k : Int) = true) := List.contains_iff_mem.2 hd
        clear h hi hr hc es ef hin hbw hv hs hd eN eNn eK eLh elh eh hvh hcu hvs el els es1 hm5 hix
        go_enter Tryd.func13, Tryd.ntmps13
        go_wp2_with fail
        refine (refCheck HF.out.1 HF.out.2 (m : Int) (k : Int)).mono ?_
        rintro e w ⟨rfl, rfl⟩
        rw [HC.out.1]
        go_wp2_with fail
        refine (refIn qs ls cs f.said (k : Int) w HV.out (by omega)).mono ?_
        rintro e w ⟨rfl, rfl⟩
        rw [HS.out]
        go_wp2_with fail
        go_region_held3 (fun X => X.cell? ⟨R, 0, none⟩ = some (.int .i64 (N : Int)) ∧ X.cell? ⟨R, 34, none⟩ = some (.slice (some ⟨g, 0, none⟩) K cap) ∧ X.cell? ⟨g, N * 5 + m, none⟩ = some (.slice qh lh ch)) (exact ⟨z0, z34, zg⟩) (first
          | (go_at_call 29; refine (refIn qh lh ch (f.hd N m) (k : Int) _ (by exact HH.out) (by omega)).mono ?_; rintro e9 w9 ⟨rfl, rfl⟩; rw [HD.out]))
        go_wp2
        go_ret
        exact ⟨rv, rfl, FR.still HF.out.1 HC.out.2.1 ⟨rfl, rfl, rfl, Nat.le_refl _, fun _ _ => rfl⟩⟩
      · have es : giveC f (m : Int) (k : Int) = 0 := by unfold giveC; rw [if_pos hc, if_pos hs, hcu, if_neg hd]
        have ef : give f (m : Int) (k : Int) = got f m (k : Int) := by unfold give; rw [if_pos es, Int.toNat_natCast]
        rw [es, ef]
        have HD : Hid ((f.hd N m).contains (k : Int) = false) := by rw [Bool.eq_false_iff]; exact fun z => hd (List.contains_iff_mem.1 z)
        obtain ⟨ii, hii, hz0, hz1, hz2⟩ := info_int
        have HJ : Hid (Tryd.prog.info? 3 = some ii ∧ ii.zero = some (.int .i64 0) ∧ ii.size = 1 ∧ ii.bytes = 8) := ⟨hii, hz0, hz1, hz2⟩
        have EE : Hid (rv (ix N m) = .slice qh lh ch ∧ lh = (lsF f (ix N m)).length ∧ ix N m < cntF f ∧ f.v.n = (N : Int)) := ⟨eh, elh, hix, eNn⟩
        clear h hi hr hc es ef hin hbw hv hs hd eN eNn eK eLh elh eh hvh hcu hvs el els es1 hm5 hix hii hz0 hz1 hz2
        go_enter Tryd.func13, Tryd.ntmps13
        go_wp2_with fail
        refine (refCheck HF.out.1 HF.out.2 (m : Int) (k : Int)).mono ?_
        rintro e w ⟨rfl, rfl⟩
        rw [HC.out.1]
        go_wp2_with fail
        refine (refIn qs ls cs f.said (k : Int) w HV.out (by omega)).mono ?_
        rintro e w ⟨rfl, rfl⟩
        rw [HS.out]
        go_wp2_with fail
        go_region_held3 (fun X => X.cell? ⟨R, 0, none⟩ = some (.int .i64 (N : Int)) ∧ X.cell? ⟨R, 34, none⟩ = some (.slice (some ⟨g, 0, none⟩) K cap) ∧ X.cell? ⟨g, N * 5 + m, none⟩ = some (.slice qh lh ch)) (exact ⟨z0, z34, zg⟩) (first
          | (go_at_call 29; refine (refIn qh lh ch (f.hd N m) (k : Int) _ (by exact HH.out) (by omega)).mono ?_; rintro e9 w9 ⟨rfl, rfl⟩; rw [HD.out]))
        go_upto_region 10 with fail
        obtain ⟨W4, eW4⟩ : ∃ W4, W4 = w.drew := ⟨_, rfl⟩
        rw [← eW4]
        have bW : Below w.heap.size w W4 := by rw [eW4]; exact ⟨rfl, rfl, rfl, Nat.le_refl _, fun _ _ => rfl⟩
        have X4 : Hid (RX W4 base R (cntF f) (N : Int) f.was (rv 0) (rv 1) (lsF f) rv g cap K (fun k m => rv (ix k m)) ∧ XR w W4 base R g (cntF f) rv g (cntF f) rv) := by
          have z := HF.out.1.rx.later bW
          rw [EE.out.2.2.2, ← HC.out.2.2.2.1] at z
          exact ⟨z, XR.later HC.out.2.1 bW _ _ _ _⟩
        clear eW4 bW z0 z34 zg
        have y0 := X4.out.1.main.c0
        have y34 := X4.out.1.main.cr
        have yg := X4.out.1.rows.cell (k := N) (m := m) (by have := HC.out; omega) HC.out.2.2.2.2.1
        have yz := X4.out.1.rows.frozen (N * 5 + m)
        have hgl := X4.out.1.rows.lt
        have hR4 := X4.out.1.lt
        have hgR := X4.out.1.neG
        rw [EE.out.1] at yg
        have OH : Hid (W4.ownsRow base 3 1 (.slice qh lh ch) lh ((lsF f (ix N m)).map (Value.int .i64)) ∧ base ≤ W4.heap.size ∧ some g ≠ (Value.slice qh lh ch).ownBlock ∧ rv (ix N m) = .slice qh lh ch ∧ lh = (lsF f (ix N m)).length ∧ some R ≠ (Value.slice qh lh ch).ownBlock) := by
          have o : W4.ownsRow base 3 1 (rv (ix N m)) (lsF f (ix N m)).length ((lsF f (ix N m)).map (Value.int .i64)) := X4.out.1.ints.own _ EE.out.2.2.1
          rw [EE.out.1, ← EE.out.2.1] at o
          refine ⟨o, Nat.le_trans X4.out.1.low (Nat.le_of_lt X4.out.1.lt), fun e => ?_, EE.out.1, EE.out.2.1, fun e => ?_⟩
          · exact (X4.out.1.neI (b := g) EE.out.2.2.1 (by rw [EE.out.1]; exact e.symm)).2 rfl
          · exact (X4.out.1.neI (b := R) EE.out.2.2.1 (by rw [EE.out.1]; exact e.symm)).1 rfl
        refine wp_region_held_drew (S := fun X => X.cell? ⟨R, 0, none⟩ = some (.int .i64 (N : Int)) ∧ X.cell? ⟨R, 34, none⟩ = some (.slice (some ⟨g, 0, none⟩) K cap)) (by kernel_rfl) ⟨y0, y34⟩ ?_
        intro hS
        refine takeH (i := 0) 41 (v := .pointer (some ⟨R, 0, none⟩)) rfl rfl (by kernel_rfl) (by kernel_rfl) (by kernel_rfl) (fun _ _ _ h => h) (Or.inl ⟨by kernel_rfl, fun _ hS => by first | rfl | (obtain ⟨g0, g34⟩ := hS; go_simp)⟩) hS ?_
        try simp only [Act.put, List.setIfInBounds_toArray, List.set_cons_zero, List.set_cons_succ]
        refine takeH (i := 1) 42 (v := .pointer (some ⟨R, 0, none⟩)) rfl rfl (by kernel_rfl) (by kernel_rfl) (by kernel_rfl) (fun _ _ _ h => h) (Or.inl ⟨by kernel_rfl, fun _ hS => by first | rfl | (obtain ⟨g0, g34⟩ := hS; go_simp)⟩) hS ?_
        try simp only [Act.put, List.setIfInBounds_toArray, List.set_cons_zero, List.set_cons_succ]
        refine takeH (i := 2) 43 (v := .pointer (some ⟨R, 34, none⟩)) rfl rfl (by kernel_rfl) (by kernel_rfl) (by kernel_rfl) (fun _ _ _ h => h) (Or.inl ⟨by kernel_rfl, fun _ hS => by first | rfl | (obtain ⟨g0, g34⟩ := hS; go_simp)⟩) hS ?_
        try simp only [Act.put, List.setIfInBounds_toArray, List.set_cons_zero, List.set_cons_succ]
        refine takeH (i := 3) 44 (v := .slice (some ⟨g, 0, none⟩) K cap) rfl rfl (by kernel_rfl) (by kernel_rfl) (by kernel_rfl) (fun _ _ _ h => h) (Or.inl ⟨by kernel_rfl, fun _ hS => by first | rfl | (obtain ⟨g0, g34⟩ := hS; go_simp)⟩) hS ?_
        try simp only [Act.put, List.setIfInBounds_toArray, List.set_cons_zero, List.set_cons_succ]
        refine takeH (i := 4) 45 (v := .pointer (some ⟨R, 0, none⟩)) rfl rfl (by kernel_rfl) (by kernel_rfl) (by kernel_rfl) (fun _ _ _ h => h) (Or.inl ⟨by kernel_rfl, fun _ hS => by first | rfl | (obtain ⟨g0, g34⟩ := hS; go_simp)⟩) hS ?_
        try simp only [Act.put, List.setIfInBounds_toArray, List.set_cons_zero, List.set_cons_succ]
        refine takeH (i := 5) 46 (v := .pointer (some ⟨R, 0, none⟩)) rfl rfl (by kernel_rfl) (by kernel_rfl) (by kernel_rfl) (fun _ _ _ h => h) (Or.inl ⟨by kernel_rfl, fun _ hS => by first | rfl | (obtain ⟨g0, g34⟩ := hS; go_simp)⟩) hS ?_
        try simp only [Act.put, List.setIfInBounds_toArray, List.set_cons_zero, List.set_cons_succ]
        refine takeH (i := 6) 47 (v := .pointer (some ⟨R, 0, none⟩)) rfl rfl (by kernel_rfl) (by kernel_rfl) (by kernel_rfl) (fun _ _ _ h => h) (Or.inl ⟨by kernel_rfl, fun _ hS => by first | rfl | (obtain ⟨g0, g34⟩ := hS; go_simp)⟩) hS ?_
        try simp only [Act.put, List.setIfInBounds_toArray, List.set_cons_zero, List.set_cons_succ]
        refine takeH (i := 7) 48 (v := .pointer (some ⟨R, 0, none⟩)) rfl rfl (by kernel_rfl) (by kernel_rfl) (by kernel_rfl) (fun _ _ _ h => h) (Or.inl ⟨by kernel_rfl, fun _ hS => by first | rfl | (obtain ⟨g0, g34⟩ := hS; go_simp)⟩) hS ?_
        try simp only [Act.put, List.setIfInBounds_toArray, List.set_cons_zero, List.set_cons_succ]
        refine takeH (i := 8) 49 (v := .int .i64 (N : Int)) rfl rfl (by kernel_rfl) (by kernel_rfl) (by kernel_rfl) (fun _ _ _ h => h) (Or.inl ⟨by kernel_rfl, fun _ hS => by first | rfl | (obtain ⟨g0, g34⟩ := hS; go_simp)⟩) hS ?_
        try simp only [Act.put, List.setIfInBounds_toArray, List.set_cons_zero, List.set_cons_succ]
        refine takeH (i := 9) 50 (v := .int .i64 (m : Int)) rfl rfl (by kernel_rfl) (by kernel_rfl) (by kernel_rfl) (fun _ _ _ h => h) (Or.inl ⟨by kernel_rfl, fun _ hS => by first | rfl | (obtain ⟨g0, g34⟩ := hS; go_simp)⟩) hS ?_
        try simp only [Act.put, List.setIfInBounds_toArray, List.set_cons_zero, List.set_cons_succ]
        refine takeH (i := 10) 51 (v := .pointer (some ⟨R, 0, none⟩)) rfl rfl (by kernel_rfl) (by kernel_rfl) (by kernel_rfl) (fun _ _ _ h => h) (Or.inl ⟨by kernel_rfl, fun _ hS => by first | rfl | (obtain ⟨g0, g34⟩ := hS; go_simp)⟩) hS ?_
        try simp only [Act.put, List.setIfInBounds_toArray, List.set_cons_zero, List.set_cons_succ]
        refine takeH (i := 11) 52 (v := .pointer (some ⟨R, 0, none⟩)) rfl rfl (by kernel_rfl) (by kernel_rfl) (by kernel_rfl) (fun _ _ _ h => h) (Or.inl ⟨by kernel_rfl, fun _ hS => by first | rfl | (obtain ⟨g0, g34⟩ := hS; go_simp)⟩) hS ?_
        try simp only [Act.put, List.setIfInBounds_toArray, List.set_cons_zero, List.set_cons_succ]
        refine takeH (i := 12) 53 (v := .pointer (some ⟨R, 34, none⟩)) rfl rfl (by kernel_rfl) (by kernel_rfl) (by kernel_rfl) (fun _ _ _ h => h) (Or.inl ⟨by kernel_rfl, fun _ hS => by first | rfl | (obtain ⟨g0, g34⟩ := hS; go_simp)⟩) hS ?_
        try simp only [Act.put, List.setIfInBounds_toArray, List.set_cons_zero, List.set_cons_succ]
        refine takeH (i := 13) 54 (v := .slice (some ⟨g, 0, none⟩) K cap) rfl rfl (by kernel_rfl) (by kernel_rfl) (by kernel_rfl) (fun _ _ _ h => h) (Or.inl ⟨by kernel_rfl, fun _ hS => by first | rfl | (obtain ⟨g0, g34⟩ := hS; go_simp)⟩) hS ?_
        try simp only [Act.put, List.setIfInBounds_toArray, List.set_cons_zero, List.set_cons_succ]
        refine takeH (i := 14) 55 (v := .pointer (some ⟨R, 0, none⟩)) rfl rfl (by kernel_rfl) (by kernel_rfl) (by kernel_rfl) (fun _ _ _ h => h) (Or.inl ⟨by kernel_rfl, fun _ hS => by first | rfl | (obtain ⟨g0, g34⟩ := hS; go_simp)⟩) hS ?_
        try simp only [Act.put, List.setIfInBounds_toArray, List.set_cons_zero, List.set_cons_succ]
        refine takeH (i := 15) 56 (v := .pointer (some ⟨R, 0, none⟩)) rfl rfl (by kernel_rfl) (by kernel_rfl) (by kernel_rfl) (fun _ _ _ h => h) (Or.inl ⟨by kernel_rfl, fun _ hS => by first | rfl | (obtain ⟨g0, g34⟩ := hS; go_simp)⟩) hS ?_
        try simp only [Act.put, List.setIfInBounds_toArray, List.set_cons_zero, List.set_cons_succ]
        refine takeH (i := 16) 57 (v := .pointer (some ⟨R, 0, none⟩)) rfl rfl (by kernel_rfl) (by kernel_rfl) (by kernel_rfl) (fun _ _ _ h => h) (Or.inl ⟨by kernel_rfl, fun _ hS => by first | rfl | (obtain ⟨g0, g34⟩ := hS; go_simp)⟩) hS ?_
        try simp only [Act.put, List.setIfInBounds_toArray, List.set_cons_zero, List.set_cons_succ]
        refine takeH (i := 17) 58 (v := .pointer (some ⟨R, 0, none⟩)) rfl rfl (by kernel_rfl) (by kernel_rfl) (by kernel_rfl) (fun _ _ _ h => h) (Or.inl ⟨by kernel_rfl, fun _ hS => by first | rfl | (obtain ⟨g0, g34⟩ := hS; go_simp)⟩) hS ?_
        try simp only [Act.put, List.setIfInBounds_toArray, List.set_cons_zero, List.set_cons_succ]
        refine takeH (i := 18) 59 (v := .int .i64 (N : Int)) rfl rfl (by kernel_rfl) (by kernel_rfl) (by kernel_rfl) (fun _ _ _ h => h) (Or.inl ⟨by kernel_rfl, fun _ hS => by first | rfl | (obtain ⟨g0, g34⟩ := hS; go_simp)⟩) hS ?_
        try simp only [Act.put, List.setIfInBounds_toArray, List.set_cons_zero, List.set_cons_succ]
        refine takeH (i := 19) 60 (v := .int .i64 (m : Int)) rfl rfl (by kernel_rfl) (by kernel_rfl) (by kernel_rfl) (fun _ _ _ h => h) (Or.inl ⟨by kernel_rfl, fun _ hS => by first | rfl | (obtain ⟨g0, g34⟩ := hS; go_simp)⟩) hS ?_
        try simp only [Act.put, List.setIfInBounds_toArray, List.set_cons_zero, List.set_cons_succ]
        refine takeH (i := 20) 61 (v := .pointer (some ⟨g, N * 5, none⟩)) rfl rfl (by kernel_rfl) (by kernel_rfl) (by kernel_rfl) (fun _ _ _ h => h) (Or.inl ⟨by kernel_rfl, fun _ hS => by first | rfl | (obtain ⟨g0, g34⟩ := hS; go_simp)⟩) hS ?_
        try simp only [Act.put, List.setIfInBounds_toArray, List.set_cons_zero, List.set_cons_succ]
        refine takeH (i := 21) 62 (v := .pointer (some ⟨g, N * 5 + m, none⟩)) rfl rfl (by kernel_rfl) (by kernel_rfl) (by kernel_rfl) (fun _ _ _ h => h) (Or.inl ⟨by kernel_rfl, fun _ hS => by first | rfl | (obtain ⟨g0, g34⟩ := hS; go_simp)⟩) hS ?_
        try simp only [Act.put, List.setIfInBounds_toArray, List.set_cons_zero, List.set_cons_succ]
        refine takeH (i := 23) 64 (v := .int .i64 (k : Int)) rfl rfl (by kernel_rfl) (by kernel_rfl) (by kernel_rfl) (fun _ _ _ h => h) (Or.inl ⟨by kernel_rfl, fun _ hS => by first | rfl | (obtain ⟨g0, g34⟩ := hS; go_simp)⟩) hS ?_
        try simp only [Act.put, List.setIfInBounds_toArray, List.set_cons_zero, List.set_cons_succ]
        refine takeH (i := 26) 67 (v := .pointer (some ⟨g, N * 5, none⟩)) rfl rfl (by kernel_rfl) (by kernel_rfl) (by kernel_rfl) (fun _ _ _ h => h) (Or.inl ⟨by kernel_rfl, fun _ hS => by first | rfl | (obtain ⟨g0, g34⟩ := hS; go_simp)⟩) hS ?_
        try simp only [Act.put, List.setIfInBounds_toArray, List.set_cons_zero, List.set_cons_succ]
        refine wpAnyH_ready (rs := [22, 24]) (by kernel_rfl) (by simp) ?_
        refine AllReadyH.cons rfl (fun K9 hK9 => ?_) (AllReadyH.cons rfl (fun K9 hK9 => ?_) AllReadyH.nil)
        · go_simp
          refine hK9.out _ _ hS (fun hS => ?_)
          clear hK9 K9
          refine wpAnyH_ready (rs := [24]) (by kernel_rfl) (by simp) ?_
          refine AllReadyH.cons rfl (fun K9 hK9 => ?_) AllReadyH.nil
          go_simp
          refine hK9.out _ _ ⟨(World.cell?_alloc_lt _ _ _ hR4).trans y0, (World.cell?_alloc_lt _ _ _ hR4).trans y34⟩ (fun hS => ?_)
          clear hK9 K9
          refine wpAnyH_ready (rs := [25]) (by kernel_rfl) (by simp) ?_
          refine AllReadyH.cons rfl (fun K9 hK9 => ?_) AllReadyH.nil
          (refine step_append_lies _ (by rfl) _ _ _ (by rfl) base 3 ii (.int .i64 0) 1 8 Tryd.underlying28 HJ.out.1 HJ.out.2.1 HJ.out.2.2.1 HJ.out.2.2.2 rfl (by omega) (.slice qh lh ch) lh ((lsF f (ix N m)).map (Value.int .i64)) (by rfl) (by exact own_pushF OH.out.1 rfl) ⟨W4.heap.size, 0, none⟩ 1 1 [.int .i64 (k : Int)] (by rfl) (by rfl) (by exact new_pushF rfl) (int_one _) (by omega) (by unfold maxLen; omega) (by omega) (by have := OH.out.2.1; simp; omega) (W4.heap.size + 1) (by simp) ?_; intro gh gc5 w5 hown hgrow hat hlt5; have HG5 : Hid (W4.grownBy w5 (Value.slice qh lh ch).ownBlock) := grown_tmpF hgrow rfl rfl rfl rfl; have HO5 : Hid (w5.ownsRow base 3 1 (.slice (some ⟨gh, 0, none⟩) (lh + 1) gc5) (lh + 1) ((lsF f (ix N m)).map (Value.int .i64) ++ [.int .i64 (k : Int)]) ∧ ((Value.slice qh lh ch).ownBlock = some gh ∨ W4.heap.size ≤ gh)) := ⟨hown, (hat.imp id (fun e => by omega))⟩; have l5 : w5.cell? ⟨g, N * 5 + m, none⟩ = some (.slice qh lh ch) := (HG5.out.cell_far ⟨g, N * 5 + m, none⟩ hgl OH.out.2.2.1).trans yg; have m5 : w5.frozen? ⟨g, N * 5 + m, none⟩ = false := (HG5.out.frozen_far ⟨g, N * 5 + m, none⟩ hgl OH.out.2.2.1).trans yz; have r5 : w5.cell? ⟨R, 34, none⟩ = some (.slice (some ⟨g, 0, none⟩) K cap) := (HG5.out.cell_far ⟨R, 34, none⟩ hR4 OH.out.2.2.2.2.2).trans y34; have s5 : w5.cell? ⟨R, 0, none⟩ = some (.int .i64 (N : Int)) := (HG5.out.cell_far ⟨R, 0, none⟩ hR4 OH.out.2.2.2.2.2).trans y0; clear hown hgrow hat hlt5)
          refine hK9.out _ _ ⟨s5, r5⟩ (fun hS => ?_)
          clear hK9 K9
          refine takeH (i := 27) 68 (v := .pointer (some ⟨g, N * 5 + m, none⟩)) rfl rfl (by kernel_rfl) (by kernel_rfl) (by kernel_rfl) (fun _ _ _ h => h) (Or.inl ⟨by kernel_rfl, fun _ hS => by first | rfl | (obtain ⟨g0, g34⟩ := hS; go_simp)⟩) hS ?_
          refine wpAnyH_ready (rs := [28]) (by kernel_rfl) (by simp) ?_
          refine AllReadyH.cons rfl (fun K9 hK9 => ?_) AllReadyH.nil
          go_simp
          refine hK9.out _ _ ⟨(World.cell?_setCell_far _ _ _ _ hgR).trans s5, (World.cell?_setCell_far _ _ _ _ hgR).trans r5⟩ (fun hS => ?_)
          clear hK9 K9
          refine wpAnyH_done (by kernel_rfl) ?_ _
          obtain ⟨W6, eW6⟩ : ∃ W6, W6 = w5.setCell ⟨g, N * 5 + m, none⟩ (.slice (some ⟨gh, 0, none⟩) (lh + 1) gc5) := ⟨_, rfl⟩
          rw [← eW6]
          have X6 : Hid (∃ rv', FR w W6 base R f (got f m (k : Int)) rv rv' g g cap) := by
            have hN := HC.out.2.2.1
            subst hN
            obtain ⟨a1, a2⟩ := got_rf X4.out.1 HC.out.2.2.2.1 HC.out.2.2.2.2.1 (by rw [OH.out.2.2.2.1]; exact HG5.out) OH.out.2.2.2.2.1 HO5.out.1 (by rw [OH.out.2.2.2.1]; exact HO5.out.2)
            rw [← eW6] at a1 a2
            refine ⟨_, FR.of (a1.rf (f' := got f m (k : Int)) rfl ?_ (fun _ _ _ => rfl) ?_ ?_ ?_ HC.out.2.2.2.1 (fun _ _ _ _ => rfl)) (X4.out.2.trans a2)⟩
            · exact HF.out.2.numI
            · rw [upV_other _ _ (by have := ix_two (num f) m; omega)]
            · rw [upV_other _ _ (by have := ix_two (num f) m; omega)]
            · exact got_ls HC.out.2.2.2.2.1
          clear eW6 l5 m5 r5 s5
          go_wp2
          go_ret
          obtain ⟨rv', z⟩ := X6.out
          exact ⟨rv', rfl, z⟩
        · go_simp
          refine hK9.out _ _ ⟨(World.cell?_alloc_lt _ _ _ hR4).trans y0, (World.cell?_alloc_lt _ _ _ hR4).trans y34⟩ (fun hS => ?_)
          clear hK9 K9
          refine wpAnyH_ready (rs := [22]) (by kernel_rfl) (by simp) ?_
          refine AllReadyH.cons rfl (fun K9 hK9 => ?_) AllReadyH.nil
          go_simp
          refine hK9.out _ _ ⟨(World.cell?_alloc_lt _ _ _ hR4).trans y0, (World.cell?_alloc_lt _ _ _ hR4).trans y34⟩ (fun hS => ?_)
          clear hK9 K9
          refine wpAnyH_ready (rs := [25]) (by kernel_rfl) (by simp) ?_
          refine AllReadyH.cons rfl (fun K9 hK9 => ?_) AllReadyH.nil
          (refine step_append_lies _ (by rfl) _ _ _ (by rfl) base 3 ii (.int .i64 0) 1 8 Tryd.underlying28 HJ.out.1 HJ.out.2.1 HJ.out.2.2.1 HJ.out.2.2.2 rfl (by omega) (.slice qh lh ch) lh ((lsF f (ix N m)).map (Value.int .i64)) (by rfl) (by exact own_pushF OH.out.1 rfl) ⟨W4.heap.size, 0, none⟩ 1 1 [.int .i64 (k : Int)] (by rfl) (by rfl) (by exact new_pushF rfl) (int_one _) (by omega) (by unfold maxLen; omega) (by omega) (by have := OH.out.2.1; simp; omega) (W4.heap.size + 1) (by simp) ?_; intro gh gc5 w5 hown hgrow hat hlt5; have HG5 : Hid (W4.grownBy w5 (Value.slice qh lh ch).ownBlock) := grown_tmpF hgrow rfl rfl rfl rfl; have HO5 : Hid (w5.ownsRow base 3 1 (.slice (some ⟨gh, 0, none⟩) (lh + 1) gc5) (lh + 1) ((lsF f (ix N m)).map (Value.int .i64) ++ [.int .i64 (k : Int)]) ∧ ((Value.slice qh lh ch).ownBlock = some gh ∨ W4.heap.size ≤ gh)) := ⟨hown, (hat.imp id (fun e => by omega))⟩; have l5 : w5.cell? ⟨g, N * 5 + m, none⟩ = some (.slice qh lh ch) := (HG5.out.cell_far ⟨g, N * 5 + m, none⟩ hgl OH.out.2.2.1).trans yg; have m5 : w5.frozen? ⟨g, N * 5 + m, none⟩ = false := (HG5.out.frozen_far ⟨g, N * 5 + m, none⟩ hgl OH.out.2.2.1).trans yz; have r5 : w5.cell? ⟨R, 34, none⟩ = some (.slice (some ⟨g, 0, none⟩) K cap) := (HG5.out.cell_far ⟨R, 34, none⟩ hR4 OH.out.2.2.2.2.2).trans y34; have s5 : w5.cell? ⟨R, 0, none⟩ = some (.int .i64 (N : Int)) := (HG5.out.cell_far ⟨R, 0, none⟩ hR4 OH.out.2.2.2.2.2).trans y0; clear hown hgrow hat hlt5)
          refine hK9.out _ _ ⟨s5, r5⟩ (fun hS => ?_)
          clear hK9 K9
          refine takeH (i := 27) 68 (v := .pointer (some ⟨g, N * 5 + m, none⟩)) rfl rfl (by kernel_rfl) (by kernel_rfl) (by kernel_rfl) (fun _ _ _ h => h) (Or.inl ⟨by kernel_rfl, fun _ hS => by first | rfl | (obtain ⟨g0, g34⟩ := hS; go_simp)⟩) hS ?_
          refine wpAnyH_ready (rs := [28]) (by kernel_rfl) (by simp) ?_
          refine AllReadyH.cons rfl (fun K9 hK9 => ?_) AllReadyH.nil
          go_simp
          refine hK9.out _ _ ⟨(World.cell?_setCell_far _ _ _ _ hgR).trans s5, (World.cell?_setCell_far _ _ _ _ hgR).trans r5⟩ (fun hS => ?_)
          clear hK9 K9
          refine wpAnyH_done (by kernel_rfl) ?_ _
          obtain ⟨W6, eW6⟩ : ∃ W6, W6 = w5.setCell ⟨g, N * 5 + m, none⟩ (.slice (some ⟨gh, 0, none⟩) (lh + 1) gc5) := ⟨_, rfl⟩
          rw [← eW6]
          have X6 : Hid (∃ rv', FR w W6 base R f (got f m (k : Int)) rv rv' g g cap) := by
            have hN := HC.out.2.2.1
            subst hN
            obtain ⟨a1, a2⟩ := got_rf X4.out.1 HC.out.2.2.2.1 HC.out.2.2.2.2.1 (by rw [OH.out.2.2.2.1]; exact HG5.out) OH.out.2.2.2.2.1 HO5.out.1 (by rw [OH.out.2.2.2.1]; exact HO5.out.2)
            rw [← eW6] at a1 a2
            refine ⟨_, FR.of (a1.rf (f' := got f m (k : Int)) rfl ?_ (fun _ _ _ => rfl) ?_ ?_ ?_ HC.out.2.2.2.1 (fun _ _ _ _ => rfl)) (X4.out.2.trans a2)⟩
            · exact HF.out.2.numI
            · rw [upV_other _ _ (by have := ix_two (num f) m; omega)]
            · rw [upV_other _ _ (by have := ix_two (num f) m; omega)]
            · exact got_ls HC.out.2.2.2.2.1
          clear eW6 l5 m5 r5 s5
          go_wp2
          go_ret
          obtain ⟨rv', z⟩ := X6.out
          exact ⟨rv', rfl, z⟩
    · have es : giveC f (m : Int) (k : Int) = 5 := by unfold giveC; rw [if_pos hc, if_neg hs]
      have ef : give f (m : Int) (k : Int) = f := if_neg (by rw [es]; decide)
      rw [es, ef]
      have HS : Hid (f.said.contains (k : Int) = false) := by rw [Bool.eq_false_iff]; exact fun z => hs (List.contains_iff_mem.1 z)
      have HC : Hid (chk f (m : Int) (k : Int) = 0 ∧ base ≤ w.heap.size) := ⟨hc, hbw⟩
      clear h hi hr hc es ef hin hbw hv hs hvs el els es1
      go_enter Tryd.func13, Tryd.ntmps13
      go_wp2_with fail
      refine (refCheck HF.out.1 HF.out.2 (m : Int) (k : Int)).mono ?_
      rintro e w ⟨rfl, rfl⟩
      rw [HC.out.1]
      go_wp2_with fail
      refine (refIn qs ls cs f.said (k : Int) w HV.out (by omega)).mono ?_
      rintro e w ⟨rfl, rfl⟩
      rw [HS.out]
      go_wp2
      go_ret
      exact ⟨rv, rfl, FR.still HF.out.1 HC.out.2 (Below.refl _ _)⟩
  · have es : giveC f who word = chk f who word := if_neg hc
    have ef : give f who word = f := if_neg (by rw [es]; exact hc)
    rw [es, ef]
    obtain ⟨cc, ecc⟩ : ∃ cc, cc = chk f who word := ⟨_, rfl⟩
    have HC : Hid (cc = chk f who word ∧ base ≤ w.heap.size) := ⟨ecc, hbw⟩
    have hcc : (cc != 0) = true := by rw [bne_iff_ne, ecc]; exact hc
    rw [← ecc]
    clear h hi hr hc es ef ecc hbw hv
    go_enter Tryd.func13, Tryd.ntmps13
    go_wp2_with fail
    refine (refCheck HF.out.1 HF.out.2 who word).mono ?_
    rintro e w ⟨rfl, rfl⟩
    rw [← HC.out.1]
    go_wp2
    go_ret
    exact ⟨rv, rfl, FR.still HF.out.1 HC.out.2 (Below.refl _ _)⟩
end Go.Proofs.YtgdmbnfdcbekaaiDoor.Flu
