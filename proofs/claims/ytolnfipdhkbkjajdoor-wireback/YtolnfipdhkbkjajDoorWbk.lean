/-
  WireBack: the walk.
-/
import Derived.Test.YtolnfipdhkbkjajDoorWirT
import Derived.Test.YtolnfipdhkbkjajDoorWbkM
import Derived.Deep.RegionLaw
import Derived.Deep.CutBlock
import Derived.Deep.CutRange
namespace Go.Proofs.YtolnfipdhkbkjajDoor.Wir
open Go.RowKit
open Go.Proofs.YtolnfipdhkbkjajDoor.Fif (own_lt own_block own_form own_mono own_vw Kp ret_bool)
open Go.Proofs.YtolnfipdhkbkjajDoor.Vec (Vw code)
open Go.Proofs.YtolnfipdhkbkjajDoor.Cau (Sd sdBad)
open Go.Proofs.YtolnfipdhkbkjajDoor.As (Laid)
set_option linter.unusedVariables false

theorem lit_slB (w : World) (x0 x1 x2 x3 x4 : Int) (t : TypeId) : Sl (w.alloc (.cells #[.int .i64 x0, .int .i64 x1, .int .i64 x2, .int .i64 x3, .int .i64 x4] t)) (.slice (some ⟨w.heap.size, 0, none⟩) 5 5) [x0, x1, x2, x3, x4] :=
  ⟨_, 5, rfl, Nat.le_refl _, by unfold maxLen; omega, Vec.Vw.lit w x0 x1 x2 x3 x4 t⟩
theorem cut_low (B : ByteArray) {k : Nat} (h : (k : Int) ≤ (B.size : Int)) (W : World) : (Instr.slice 9 (.string B) none (some (.int .i64 (k : Int))) none).run Tryd.prog W = .ok (.string (B.extract 0 k)) W := by
  have h0 : (0 : Int) ≤ (k : Int) := by omega
  have hS := Tryd.underlying9
  go_simp
theorem cut_high (B : ByteArray) {k : Nat} (h : (k : Int) + 1 ≤ (B.size : Int)) (W : World) : (Instr.slice 9 (.string B) (some (.int .i64 ((k : Int) + 1))) none none).run Tryd.prog W = .ok (.string (B.extract (k + 1) B.size)) W := by
  have h0 : (0 : Int) ≤ (k : Int) + 1 := by omega
  have hS := Tryd.underlying9
  go_simp
theorem conv_new (w : World) (tv : Int) (h : 0 ≤ tv ∧ tv < 256) : (convert 73 9 (.slice (some ⟨w.heap.size, 0, none⟩) 1 1)).run Tryd.prog ((w.alloc (.cells #[.int .u8 tv] 5)).drew) = .ok (.string (txt [tv])) ((w.alloc (.cells #[.int .u8 tv] 5)).drew) := by
  have hb : Byt [tv] := fun n hn => by
    obtain rfl := List.mem_singleton.1 hn
    exact h
  exact text_of (new_own w [tv] 0 (Nat.zero_le _) (by simp) hb) _ (fun _ _ => rfl)
theorem add_text (a b : ByteArray) (h : a.size + b.size ≤ 1000) (W : World) : (Op.stringOp .add a b).run Tryd.prog W = .ok (.string (a ++ b)) W := run_string_add_sum W a b (by omega)
theorem below_new {W0 w w' : World} {ob : Obj} (h : Below W0.heap.size W0 w) (hb : Below ((w.alloc ob).drew).heap.size ((w.alloc ob).drew) w') : Below W0.heap.size W0 w' :=
  (h.alloc h.size ob).trans (Below.mono ⟨hb.os, hb.tape, hb.output, hb.size, hb.block⟩ (by have := h.size; simp; omega))
theorem unC_ok {t : ByteArray} (h : okU t = true) : unC t = 0 ∧ unS t = rd t := by
  unfold unC unS
  rw [h]
  exact ⟨rfl, rfl⟩
theorem unC_bad {t : ByteArray} (h : okU t = false) : unC t = 2 := by
  unfold unC
  rw [h]
  rfl
set_option maxRecDepth 100000 in
set_option maxHeartbeats 4000000 in
theorem back_any (s0 : Sd) (u0 : Value) (t : ByteArray) (at0 tv : Int) (w : World) (hL : Laid w) (hs : Sl w u0 s0.2.2) (ht : 0 ≤ tv ∧ tv < 256) :
    Calls Tryd.prog 5 #[.agg #[.int .i64 s0.1, .int .i64 s0.2.1, u0], .string t, .int .i64 at0, .int .u8 tv] w fun x w' => x = .returned (.bool true) ∧ Below w.heap.size w w' := by
  obtain ⟨x0, ex0⟩ : ∃ x, x = s0.1 := ⟨_, rfl⟩
  obtain ⟨y0, ey0⟩ : ∃ y, y = s0.2.1 := ⟨_, rfl⟩
  rw [← ex0, ← ey0]
  obtain ⟨W0, eW0⟩ : ∃ W0, W0 = w.alloc (.cells #[.int .i64 x0, .int .i64 y0, u0] 59) := ⟨_, rfl⟩
  have HW : Hid (W0.rowIs w.heap.size 59 3 (wv x0 y0 u0) ∧ Sl W0 u0 s0.2.2 ∧ Below w.heap.size w W0 ∧ Laid W0 ∧ w.heap.size < W0.heap.size ∧ (x0 = s0.1 ∧ y0 = s0.2.1)) := by
    have b := box w x0 y0 u0
    have b2 := (Below.refl w.heap.size w).alloc (Nat.le_refl _) (.cells #[.int .i64 x0, .int .i64 y0, u0] 59)
    rw [← eW0] at b b2
    exact ⟨b, hs.later b2, b2, hL.later b2, World.rowIs.lt b, ex0, ey0⟩
  obtain ⟨ht0, ht1⟩ := ht
  obtain ⟨F, eF⟩ : ∃ F, F = packS fact := ⟨_, rfl⟩
  have hf := fact_at
  rw [← eF] at hf
  obtain ⟨hf6, hf17, hf18⟩ := hf
  have HF : Hid (∀ W : World, Calls Tryd.prog 23 #[.agg #[.int .i64 1, .int .i64 2, .slice (some ⟨W.heap.size, 0, none⟩) 5 5]] (W.alloc (.cells #[.int .i64 0, .int .i64 256, .int .i64 0, .int .i64 0, .int .i64 0] 3)) fun e w' => e = .returned (.tuple #[.string F, errF 0]) ∧ Below (W.alloc (.cells #[.int .i64 0, .int .i64 256, .int .i64 0, .int .i64 0, .int .i64 0] 3)).heap.size (W.alloc (.cells #[.int .i64 0, .int .i64 256, .int .i64 0, .int .i64 0, .int .i64 0] 3)) w') := by
    intro W
    have h := packP fact (.slice (some ⟨W.heap.size, 0, none⟩) 5 5) (W.alloc (.cells #[.int .i64 0, .int .i64 256, .int .i64 0, .int .i64 0, .int .i64 0] 3)) (lit_slB W _ _ _ _ _ _)
    rw [fact_ok, ← eF] at h
    exact h
  have f6 := index_at (t := F) (i := 6) (a := 6) rfl (by omega)
  have f17 := index_at (t := F) (i := 17) (a := 17) rfl (by omega)
  rw [hf6] at f6
  rw [hf17] at f17
  clear ex0 ey0 eF hs hL hf6 hf17
  go_enter Tryd.func5, Tryd.ntmps5
  go_upto_region 1 with fail
  rw [← eW0]
  clear eW0
  go_wp2_with fail
  refine (HF.out W0).mono ?_
  rintro e w1 ⟨rfl, hb⟩
  rw [errF_ok]
  have K1 : Hid (Below W0.heap.size W0 w1) := ((Below.refl _ _).alloc (Nat.le_refl _) _).trans (hb.mono (by simp))
  clear hb HF
  go_wp2_with fail
  clear f6 f17 hf18
  refine (unpackX t w1).mono ?_
  rintro e w2 ⟨x2, y2, q2, n2, c2, rfl, hs2, hb⟩
  have K2 : Hid (Below W0.heap.size W0 (w2.alloc (.cells #[.int .i64 x2, .int .i64 y2, .slice q2 n2 c2] 59)) ∧ Sl (w2.alloc (.cells #[.int .i64 x2, .int .i64 y2, .slice q2 n2 c2] 59)) (.slice q2 n2 c2) (unS t).2.2) := by
    have h1 := K1.out.trans (hb.mono K1.out.size)
    exact ⟨h1.alloc h1.size _, box_sl hs2.out.2 _ _⟩
  have X2 : Hid (x2 = (unS t).1 ∧ y2 = (unS t).2.1) := hs2.out.1
  clear hb hs2
  cases hok : okU t
  · have e2 := unC_bad hok
    rw [e2, errF_no (by decide)]
    have K5 : Hid (Below W0.heap.size W0 (w2.alloc (.cells #[.int .i64 x2, .int .i64 y2, .slice q2 n2 c2] 59))) := K2.out.1
    go_upto_region 9 with fail
    obtain ⟨wx, ewx⟩ : ∃ wx, wx = w2.alloc (.cells #[.int .i64 x2, .int .i64 y2, .slice q2 n2 c2] 59) := ⟨_, rfl⟩
    rw [← ewx] at K5 ⊢
    clear ewx hok e2 X2 K2
    have r0 := World.rowIs.of_block HW.out.1 (K5.out.block _ HW.out.2.2.2.2.1)
    have k0 : wx.cell? ⟨w.heap.size, 0, none⟩ = some (.int .i64 x0) := World.rowIs.cell r0 (i := 0) (by omega)
    have k1 : wx.cell? ⟨w.heap.size, 1, none⟩ = some (.int .i64 y0) := World.rowIs.cell r0 (i := 1) (by omega)
    have k2 : wx.cell? ⟨w.heap.size, 2, none⟩ = some u0 := World.rowIs.cell r0 (i := 2) (by omega)
    have hp := packP s0 u0 wx (HW.out.2.1.later K5.out)
    rw [← HW.out.2.2.2.2.2.1, ← HW.out.2.2.2.2.2.2] at hp
    by_cases hz : packC s0 = 0
    · obtain ⟨B, eB⟩ : ∃ B, B = packS s0 := ⟨_, rfl⟩
      have eB2 : B = txt (pk s0) := eB.trans (if_pos hz)
      have hB : B.size = 18 := by rw [eB2, txt_size, (pk_byt hz).2]
      have HB : Hid (B = txt (pk s0) ∧ packC s0 = 0 ∧ unC B = 0 ∧ unS B = s0) := by
        obtain ⟨e1, e2⟩ := unC_ok (okU_pk hz)
        exact ⟨eB2, hz, by rw [eB2]; exact e1, by rw [eB2, e2, rd_pk hz]⟩
      rw [hz, ← eB] at hp
      have HP : Hid (Calls Tryd.prog 23 #[.agg #[.int .i64 x0, .int .i64 y0, u0]] wx fun e w' => e = .returned (.tuple #[.string B, errF 0]) ∧ Below wx.heap.size wx w') := hp
      clear hp eB eB2 hz r0
      go_wp2_with fail
      refine HP.out.mono ?_
      rintro e w5 ⟨rfl, hb⟩
      rw [errF_ok]
      have K6 : Hid (Below W0.heap.size W0 w5) := K5.out.trans (hb.mono K5.out.size)
      clear hb HP k0 k1 k2
      go_wp2_with fail
      refine (unpackX B w5).mono ?_
      rw [HB.out.2.2.1, HB.out.2.2.2, errF_ok]
      rintro e w6 ⟨x3, y3, q3, n3, c3, rfl, hs3, hb⟩
      obtain ⟨⟨rfl, rfl⟩, hsl⟩ := hs3.out
      rw [← HW.out.2.2.2.2.2.1, ← HW.out.2.2.2.2.2.2]
      obtain ⟨w7, ew7⟩ : ∃ w7, w7 = w6.alloc (.cells #[.int .i64 x0, .int .i64 y0, .slice q3 n3 c3] 59) := ⟨_, rfl⟩
      have K7' : Hid (Below W0.heap.size W0 w7 ∧ Sl w7 (.slice q3 n3 c3) s0.2.2) := by
        have h1 := K6.out.trans (hb.mono K6.out.size)
        rw [ew7]
        exact ⟨h1.alloc h1.size _, box_sl hsl _ _⟩
      have b6 := box w6 x0 y0 (.slice q3 n3 c3)
      rw [← ew7] at b6
      have j0 : w7.cell? ⟨w6.heap.size, 0, none⟩ = some (.int .i64 x0) := World.rowIs.cell b6 (i := 0) (by omega)
      have j1 : w7.cell? ⟨w6.heap.size, 1, none⟩ = some (.int .i64 y0) := World.rowIs.cell b6 (i := 1) (by omega)
      have j2 : w7.cell? ⟨w6.heap.size, 2, none⟩ = some (.slice q3 n3 c3) := World.rowIs.cell b6 (i := 2) (by omega)
      have r0 := World.rowIs.of_block HW.out.1 (K7'.out.1.block _ HW.out.2.2.2.2.1)
      have k0 : w7.cell? ⟨w.heap.size, 0, none⟩ = some (.int .i64 x0) := World.rowIs.cell r0 (i := 0) (by omega)
      have k1 : w7.cell? ⟨w.heap.size, 1, none⟩ = some (.int .i64 y0) := World.rowIs.cell r0 (i := 1) (by omega)
      have k2 : w7.cell? ⟨w.heap.size, 2, none⟩ = some u0 := World.rowIs.cell r0 (i := 2) (by omega)
      clear b6 r0 hb hs3 hsl
      go_upto_region 13 with fail
      rw [← ew7]
      clear ew7
      go_wp2_with fail
      refine (said_same x0 y0 s0.2.2 (.slice q3 n3 c3) u0 w7 K7'.out.2 (HW.out.2.1.later K7'.out.1)).mono ?_
      rintro e w8 ⟨rfl, hb⟩
      have K7 : Hid (Below W0.heap.size W0 w8) := K7'.out.1.trans (hb.mono K7'.out.1.size)
      have KW : Hid (Below w.heap.size w w8) := HW.out.2.2.1.trans (K7.out.mono HW.out.2.2.1.size)
      clear hb k0 k1 k2 j0 j1 j2
      cases d0 : decide (at0 < 0)
      · cases d1 : decide (at0 ≥ 18)
        · obtain ⟨k, rfl⟩ : ∃ k : Nat, at0 = (k : Int) := ⟨at0.toNat, by have := of_decide_eq_false d0; omega⟩
          have hk : k < 18 := by have := of_decide_eq_false d1; omega
          have ik := index_at (t := B) (i := k) (a := (k : Int)) rfl (by omega)
          obtain ⟨bk, ebk⟩ : ∃ b, b = bt B k := ⟨_, rfl⟩
          rw [← ebk] at ik
          by_cases he : bk = tv
          · have dq : (bk == tv) = true := by rw [he]; simp
            go_wp2
            go_ret
            exact ⟨rfl, KW.out⟩
          · have dq : (bk == tv) = false := by simp [he]
            have SW : Hid (unC (B.extract 0 k ++ txt [tv] ++ B.extract (k + 1) 18) = 2) := by
              have h := swap_none HB.out.2.1 hk ⟨ht0, ht1⟩ (by rw [← HB.out.1, ← ebk]; exact he)
              rw [← HB.out.1] at h
              unfold swap at h
              rw [hB] at h
              exact unC_bad h
            have hk0 : (0 : Int) ≤ (k : Int) := by omega
            have hk1 : (k : Int) ≤ (B.size : Int) := by omega
            have hk2 : (k : Int) + 1 ≤ (B.size : Int) := by omega
            have hk3 : (0 : Int) ≤ (k : Int) + 1 := by omega
            have sA := cut_low B hk1
            have sC := cut_high B hk2
            rw [hB] at sC
            have hw := wrap_id (b := (k : Int) + 1) (by omega) (by omega)
            have cv := conv_new w8 tv ⟨ht0, ht1⟩
            have a1 := add_text (B.extract 0 k) (txt [tv]) (by rw [ByteArray.size_extract, txt_size]; simp only [List.length_cons, List.length_nil]; omega)
            have htx : (txt [tv]).size = 1 := txt_size _
            have hsm1 : min k 18 + 1 ≤ 9223372036854775807 := by omega
            have hsm : min k 18 + 1 + (17 - k) ≤ 9223372036854775807 := by omega
            have a2 := add_text (B.extract 0 k ++ txt [tv]) (B.extract (k + 1) 18) (by rw [ByteArray.size_append, ByteArray.size_extract, ByteArray.size_extract, txt_size]; simp only [List.length_cons, List.length_nil]; omega)
            go_upto_region 17 with fail
            refine wp_region_held_drew (S := fun X => True) (by kernel_rfl) True.intro ?_
            intro hS
            refine takeH (i := 0) 96 (v := .string B) rfl rfl (by kernel_rfl) (by kernel_rfl) (by kernel_rfl) (fun _ _ _ h => h) (Or.inl ⟨by kernel_rfl, fun _ hS => by first | rfl | (go_simp)⟩) hS ?_
            try simp only [Act.put, List.setIfInBounds_toArray, List.set_cons_zero, List.set_cons_succ]
            refine takeH (i := 1) 97 (v := .int .i64 (k : Int)) rfl rfl (by kernel_rfl) (by kernel_rfl) (by kernel_rfl) (fun _ _ _ h => h) (Or.inl ⟨by kernel_rfl, fun _ hS => by first | rfl | (go_simp)⟩) hS ?_
            try simp only [Act.put, List.setIfInBounds_toArray, List.set_cons_zero, List.set_cons_succ]
            refine takeH (i := 2) 98 (v := .string (B.extract 0 k)) rfl rfl (by kernel_rfl) (by kernel_rfl) (by kernel_rfl) (fun _ _ _ h => h) (Or.inl ⟨by kernel_rfl, fun _ hS => by first | rfl | (go_simp)⟩) hS ?_
            try simp only [Act.put, List.setIfInBounds_toArray, List.set_cons_zero, List.set_cons_succ]
            refine takeH (i := 3) 99 (v := .int .u8 tv) rfl rfl (by kernel_rfl) (by kernel_rfl) (by kernel_rfl) (fun _ _ _ h => h) (Or.inl ⟨by kernel_rfl, fun _ hS => by first | rfl | (go_simp)⟩) hS ?_
            try simp only [Act.put, List.setIfInBounds_toArray, List.set_cons_zero, List.set_cons_succ]
            refine takeH (i := 7) 103 (v := .string B) rfl rfl (by kernel_rfl) (by kernel_rfl) (by kernel_rfl) (fun _ _ _ h => h) (Or.inl ⟨by kernel_rfl, fun _ hS => by first | rfl | (go_simp)⟩) hS ?_
            try simp only [Act.put, List.setIfInBounds_toArray, List.set_cons_zero, List.set_cons_succ]
            refine takeH (i := 8) 104 (v := .int .i64 (k : Int)) rfl rfl (by kernel_rfl) (by kernel_rfl) (by kernel_rfl) (fun _ _ _ h => h) (Or.inl ⟨by kernel_rfl, fun _ hS => by first | rfl | (go_simp)⟩) hS ?_
            try simp only [Act.put, List.setIfInBounds_toArray, List.set_cons_zero, List.set_cons_succ]
            refine takeH (i := 9) 105 (v := .int .i64 ((k : Int) + 1)) rfl rfl (by kernel_rfl) (by kernel_rfl) (by kernel_rfl) (fun _ _ _ h => h) (Or.inl ⟨by kernel_rfl, fun _ hS => by first | rfl | (go_simp)⟩) hS ?_
            try simp only [Act.put, List.setIfInBounds_toArray, List.set_cons_zero, List.set_cons_succ]
            refine takeH (i := 10) 106 (v := .string (B.extract (k + 1) 18)) rfl rfl (by kernel_rfl) (by kernel_rfl) (by kernel_rfl) (fun _ _ _ h => h) (Or.inl ⟨by kernel_rfl, fun _ hS => by first | rfl | (go_simp)⟩) hS ?_
            try simp only [Act.put, List.setIfInBounds_toArray, List.set_cons_zero, List.set_cons_succ]
            refine wpAnyH_ready (rs := [4]) (by kernel_rfl) (by simp) ?_
            refine (AllReadyH.cons rfl (fun K9 hK9 => ?_) AllReadyH.nil)
            go_simp
            refine hK9.out _ _ True.intro (fun hS => ?_)
            clear hK9 K9
            refine wpAnyH_ready (rs := [5]) (by kernel_rfl) (by simp) ?_
            refine (AllReadyH.cons rfl (fun K9 hK9 => ?_) AllReadyH.nil)
            go_simp
            refine hK9.out _ _ True.intro (fun hS => ?_)
            clear hK9 K9
            refine takeH (i := 6) 102 (v := .string (B.extract 0 k ++ txt [tv])) rfl rfl (by kernel_rfl) (by kernel_rfl) (by kernel_rfl) (fun _ _ _ h => h) (Or.inl ⟨by kernel_rfl, fun _ hS => by first | rfl | (go_simp)⟩) hS ?_
            try simp only [Act.put, List.setIfInBounds_toArray, List.set_cons_zero, List.set_cons_succ]
            refine takeH (i := 11) 107 (v := .string (B.extract 0 k ++ txt [tv] ++ B.extract (k + 1) 18)) rfl rfl (by kernel_rfl) (by kernel_rfl) (by kernel_rfl) (fun _ _ _ h => h) (Or.inl ⟨by kernel_rfl, fun _ hS => by first | rfl | (go_simp)⟩) hS ?_
            try simp only [Act.put, List.setIfInBounds_toArray, List.set_cons_zero, List.set_cons_succ]
            refine wpAnyH_ready (rs := [12]) (by kernel_rfl) (by simp) ?_
            refine (AllReadyH.cons rfl (fun K9 hK9 => ?_) AllReadyH.nil)
            go_simp
            refine (unpackX (B.extract 0 k ++ txt [tv] ++ B.extract (k + 1) 18) _).mono ?_
            rintro e w9 ⟨x8, y8, q8, n8, c8, rfl, hs8, hb8⟩
            have B8 : Hid (Below W0.heap.size W0 w9) := below_new K7.out hb8
            rw [SW.out, errF_no (by decide)]
            go_simp
            refine hK9.out _ _ True.intro (fun hS => ?_)
            clear hK9 K9 hb8 hs8
            refine takeH (i := 13) 95 (v := .tuple #[.agg #[.int .i64 x8, .int .i64 y8, .slice q8 n8 c8], .iface 78 (.int .i64 2)]) rfl rfl (by kernel_rfl) (by kernel_rfl) (by kernel_rfl) (fun _ _ _ h => h) (Or.inl ⟨by kernel_rfl, fun _ hS => by first | rfl | (go_simp)⟩) hS ?_
            try simp only [Act.put, List.setIfInBounds_toArray, List.set_cons_zero, List.set_cons_succ]
            refine takeH (i := 14) 109 (v := .agg #[.int .i64 x8, .int .i64 y8, .slice q8 n8 c8]) rfl rfl (by kernel_rfl) (by kernel_rfl) (by kernel_rfl) (fun _ _ _ h => h) (Or.inl ⟨by kernel_rfl, fun _ hS => by first | rfl | (go_simp)⟩) hS ?_
            try simp only [Act.put, List.setIfInBounds_toArray, List.set_cons_zero, List.set_cons_succ]
            refine takeH (i := 15) 110 (v := .iface 78 (.int .i64 2)) rfl rfl (by kernel_rfl) (by kernel_rfl) (by kernel_rfl) (fun _ _ _ h => h) (Or.inl ⟨by kernel_rfl, fun _ hS => by first | rfl | (go_simp)⟩) hS ?_
            try simp only [Act.put, List.setIfInBounds_toArray, List.set_cons_zero, List.set_cons_succ]
            refine wpAnyH_ready (rs := [16]) (by kernel_rfl) (by simp) ?_
            refine (AllReadyH.cons rfl (fun K9 hK9 => ?_) AllReadyH.nil)
            go_simp
            refine hK9.out _ _ True.intro (fun hS => ?_)
            clear hK9 K9
            refine wpAnyH_done (by kernel_rfl) ?_ _
            go_wp2_with fail
            have q := errF_same 2 _ (HW.out.2.2.2.1.later B8.out)
            rw [errF_no (by decide)] at q
            refine q.mono ?_
            clear q
            rintro e w10 ⟨rfl, hb⟩
            have B9 : Hid (Below W0.heap.size W0 w10) := B8.out.trans (hb.mono B8.out.size)
            clear hb
            go_wp2
            go_ret
            exact ⟨rfl, HW.out.2.2.1.trans (B9.out.mono HW.out.2.2.1.size)⟩
        · go_wp2
          go_ret
          exact ⟨rfl, KW.out⟩
      · go_wp2
        go_ret
        exact ⟨rfl, KW.out⟩
    · rw [errF_no hz] at hp
      obtain ⟨B, eB⟩ : ∃ B, B = packS s0 := ⟨_, rfl⟩
      obtain ⟨C, eC⟩ : ∃ C, C = packC s0 := ⟨_, rfl⟩
      rw [← eB, ← eC] at hp
      have HP : Hid (Calls Tryd.prog 23 #[.agg #[.int .i64 x0, .int .i64 y0, u0]] wx fun e w' => e = .returned (.tuple #[.string B, .iface 78 (.int .i64 C)]) ∧ Below wx.heap.size wx w') := hp
      clear hp eB eC hz r0
      go_wp2_with fail
      refine HP.out.mono ?_
      rintro e w5 ⟨rfl, hb⟩
      have K6 : Hid (Below W0.heap.size W0 w5) := K5.out.trans (hb.mono K5.out.size)
      clear hb
      go_wp2
      go_ret
      exact ⟨rfl, HW.out.2.2.1.trans (K6.out.mono HW.out.2.2.1.size)⟩
  · obtain ⟨e2, e3⟩ := unC_ok hok
    rw [e2, errF_ok]
    obtain ⟨o1, o2, o3⟩ := okU_is hok
    obtain ⟨wy, ewy⟩ : ∃ wy, wy = w2.alloc (.cells #[.int .i64 x2, .int .i64 y2, .slice q2 n2 c2] 59) := ⟨_, rfl⟩
    rw [← ewy] at K2
    have b6 := box w2 x2 y2 (.slice q2 n2 c2)
    rw [← ewy] at b6
    have j0 : wy.cell? ⟨w2.heap.size, 0, none⟩ = some (.int .i64 x2) := World.rowIs.cell b6 (i := 0) (by omega)
    have j1 : wy.cell? ⟨w2.heap.size, 1, none⟩ = some (.int .i64 y2) := World.rowIs.cell b6 (i := 1) (by omega)
    have j2 : wy.cell? ⟨w2.heap.size, 2, none⟩ = some (.slice q2 n2 c2) := World.rowIs.cell b6 (i := 2) (by omega)
    have hp : Calls Tryd.prog 23 #[.agg #[.int .i64 x2, .int .i64 y2, .slice q2 n2 c2]] wy fun e w' => e = .returned (.tuple #[.string t, errF 0]) ∧ Below wy.heap.size wy w' := by
      have h := packP (unS t) (.slice q2 n2 c2) wy K2.out.2
      rw [← X2.out.1, ← X2.out.2, e3, o2, show packS (rd t) = txt (pk (rd t)) from if_pos o2, o3] at h
      exact h
    have HP : Hid (Calls Tryd.prog 23 #[.agg #[.int .i64 x2, .int .i64 y2, .slice q2 n2 c2]] wy fun e w' => e = .returned (.tuple #[.string t, errF 0]) ∧ Below wy.heap.size wy w') := hp
    have htt : (t.toList != t.toList) = false := by simp
    clear hp b6 hok e2 e3 o1 o2 o3
    go_upto_region 6 with fail
    rw [← ewy]
    clear ewy
    go_wp2_with fail
    refine HP.out.mono ?_
    rintro e wx ⟨rfl, hb⟩
    rw [errF_ok]
    have K5 : Hid (Below W0.heap.size W0 wx) := K2.out.1.trans (hb.mono K2.out.1.size)
    clear hb HP j0 j1 j2 X2 K2
    go_upto_region 9 with fail
    clear htt
    have r0 := World.rowIs.of_block HW.out.1 (K5.out.block _ HW.out.2.2.2.2.1)
    have k0 : wx.cell? ⟨w.heap.size, 0, none⟩ = some (.int .i64 x0) := World.rowIs.cell r0 (i := 0) (by omega)
    have k1 : wx.cell? ⟨w.heap.size, 1, none⟩ = some (.int .i64 y0) := World.rowIs.cell r0 (i := 1) (by omega)
    have k2 : wx.cell? ⟨w.heap.size, 2, none⟩ = some u0 := World.rowIs.cell r0 (i := 2) (by omega)
    have hp := packP s0 u0 wx (HW.out.2.1.later K5.out)
    rw [← HW.out.2.2.2.2.2.1, ← HW.out.2.2.2.2.2.2] at hp
    by_cases hz : packC s0 = 0
    · obtain ⟨B, eB⟩ : ∃ B, B = packS s0 := ⟨_, rfl⟩
      have eB2 : B = txt (pk s0) := eB.trans (if_pos hz)
      have hB : B.size = 18 := by rw [eB2, txt_size, (pk_byt hz).2]
      have HB : Hid (B = txt (pk s0) ∧ packC s0 = 0 ∧ unC B = 0 ∧ unS B = s0) := by
        obtain ⟨e1, e2⟩ := unC_ok (okU_pk hz)
        exact ⟨eB2, hz, by rw [eB2]; exact e1, by rw [eB2, e2, rd_pk hz]⟩
      rw [hz, ← eB] at hp
      have HP : Hid (Calls Tryd.prog 23 #[.agg #[.int .i64 x0, .int .i64 y0, u0]] wx fun e w' => e = .returned (.tuple #[.string B, errF 0]) ∧ Below wx.heap.size wx w') := hp
      clear hp eB eB2 hz r0
      go_wp2_with fail
      refine HP.out.mono ?_
      rintro e w5 ⟨rfl, hb⟩
      rw [errF_ok]
      have K6 : Hid (Below W0.heap.size W0 w5) := K5.out.trans (hb.mono K5.out.size)
      clear hb HP k0 k1 k2
      go_wp2_with fail
      refine (unpackX B w5).mono ?_
      rw [HB.out.2.2.1, HB.out.2.2.2, errF_ok]
      rintro e w6 ⟨x3, y3, q3, n3, c3, rfl, hs3, hb⟩
      obtain ⟨⟨rfl, rfl⟩, hsl⟩ := hs3.out
      rw [← HW.out.2.2.2.2.2.1, ← HW.out.2.2.2.2.2.2]
      obtain ⟨w7, ew7⟩ : ∃ w7, w7 = w6.alloc (.cells #[.int .i64 x0, .int .i64 y0, .slice q3 n3 c3] 59) := ⟨_, rfl⟩
      have K7' : Hid (Below W0.heap.size W0 w7 ∧ Sl w7 (.slice q3 n3 c3) s0.2.2) := by
        have h1 := K6.out.trans (hb.mono K6.out.size)
        rw [ew7]
        exact ⟨h1.alloc h1.size _, box_sl hsl _ _⟩
      have b6 := box w6 x0 y0 (.slice q3 n3 c3)
      rw [← ew7] at b6
      have j0 : w7.cell? ⟨w6.heap.size, 0, none⟩ = some (.int .i64 x0) := World.rowIs.cell b6 (i := 0) (by omega)
      have j1 : w7.cell? ⟨w6.heap.size, 1, none⟩ = some (.int .i64 y0) := World.rowIs.cell b6 (i := 1) (by omega)
      have j2 : w7.cell? ⟨w6.heap.size, 2, none⟩ = some (.slice q3 n3 c3) := World.rowIs.cell b6 (i := 2) (by omega)
      have r0 := World.rowIs.of_block HW.out.1 (K7'.out.1.block _ HW.out.2.2.2.2.1)
      have k0 : w7.cell? ⟨w.heap.size, 0, none⟩ = some (.int .i64 x0) := World.rowIs.cell r0 (i := 0) (by omega)
      have k1 : w7.cell? ⟨w.heap.size, 1, none⟩ = some (.int .i64 y0) := World.rowIs.cell r0 (i := 1) (by omega)
      have k2 : w7.cell? ⟨w.heap.size, 2, none⟩ = some u0 := World.rowIs.cell r0 (i := 2) (by omega)
      clear b6 r0 hb hs3 hsl
      go_upto_region 13 with fail
      rw [← ew7]
      clear ew7
      go_wp2_with fail
      refine (said_same x0 y0 s0.2.2 (.slice q3 n3 c3) u0 w7 K7'.out.2 (HW.out.2.1.later K7'.out.1)).mono ?_
      rintro e w8 ⟨rfl, hb⟩
      have K7 : Hid (Below W0.heap.size W0 w8) := K7'.out.1.trans (hb.mono K7'.out.1.size)
      have KW : Hid (Below w.heap.size w w8) := HW.out.2.2.1.trans (K7.out.mono HW.out.2.2.1.size)
      clear hb k0 k1 k2 j0 j1 j2
      cases d0 : decide (at0 < 0)
      · cases d1 : decide (at0 ≥ 18)
        · obtain ⟨k, rfl⟩ : ∃ k : Nat, at0 = (k : Int) := ⟨at0.toNat, by have := of_decide_eq_false d0; omega⟩
          have hk : k < 18 := by have := of_decide_eq_false d1; omega
          have ik := index_at (t := B) (i := k) (a := (k : Int)) rfl (by omega)
          obtain ⟨bk, ebk⟩ : ∃ b, b = bt B k := ⟨_, rfl⟩
          rw [← ebk] at ik
          by_cases he : bk = tv
          · have dq : (bk == tv) = true := by rw [he]; simp
            go_wp2
            go_ret
            exact ⟨rfl, KW.out⟩
          · have dq : (bk == tv) = false := by simp [he]
            have SW : Hid (unC (B.extract 0 k ++ txt [tv] ++ B.extract (k + 1) 18) = 2) := by
              have h := swap_none HB.out.2.1 hk ⟨ht0, ht1⟩ (by rw [← HB.out.1, ← ebk]; exact he)
              rw [← HB.out.1] at h
              unfold swap at h
              rw [hB] at h
              exact unC_bad h
            have hk0 : (0 : Int) ≤ (k : Int) := by omega
            have hk1 : (k : Int) ≤ (B.size : Int) := by omega
            have hk2 : (k : Int) + 1 ≤ (B.size : Int) := by omega
            have hk3 : (0 : Int) ≤ (k : Int) + 1 := by omega
            have sA := cut_low B hk1
            have sC := cut_high B hk2
            rw [hB] at sC
            have hw := wrap_id (b := (k : Int) + 1) (by omega) (by omega)
            have cv := conv_new w8 tv ⟨ht0, ht1⟩
            have a1 := add_text (B.extract 0 k) (txt [tv]) (by rw [ByteArray.size_extract, txt_size]; simp only [List.length_cons, List.length_nil]; omega)
            have htx : (txt [tv]).size = 1 := txt_size _
            have hsm1 : min k 18 + 1 ≤ 9223372036854775807 := by omega
            have hsm : min k 18 + 1 + (17 - k) ≤ 9223372036854775807 := by omega
            have a2 := add_text (B.extract 0 k ++ txt [tv]) (B.extract (k + 1) 18) (by rw [ByteArray.size_append, ByteArray.size_extract, ByteArray.size_extract, txt_size]; simp only [List.length_cons, List.length_nil]; omega)
            go_upto_region 17 with fail
            refine wp_region_held_drew (S := fun X => True) (by kernel_rfl) True.intro ?_
            intro hS
            refine takeH (i := 0) 96 (v := .string B) rfl rfl (by kernel_rfl) (by kernel_rfl) (by kernel_rfl) (fun _ _ _ h => h) (Or.inl ⟨by kernel_rfl, fun _ hS => by first | rfl | (go_simp)⟩) hS ?_
            try simp only [Act.put, List.setIfInBounds_toArray, List.set_cons_zero, List.set_cons_succ]
            refine takeH (i := 1) 97 (v := .int .i64 (k : Int)) rfl rfl (by kernel_rfl) (by kernel_rfl) (by kernel_rfl) (fun _ _ _ h => h) (Or.inl ⟨by kernel_rfl, fun _ hS => by first | rfl | (go_simp)⟩) hS ?_
            try simp only [Act.put, List.setIfInBounds_toArray, List.set_cons_zero, List.set_cons_succ]
            refine takeH (i := 2) 98 (v := .string (B.extract 0 k)) rfl rfl (by kernel_rfl) (by kernel_rfl) (by kernel_rfl) (fun _ _ _ h => h) (Or.inl ⟨by kernel_rfl, fun _ hS => by first | rfl | (go_simp)⟩) hS ?_
            try simp only [Act.put, List.setIfInBounds_toArray, List.set_cons_zero, List.set_cons_succ]
            refine takeH (i := 3) 99 (v := .int .u8 tv) rfl rfl (by kernel_rfl) (by kernel_rfl) (by kernel_rfl) (fun _ _ _ h => h) (Or.inl ⟨by kernel_rfl, fun _ hS => by first | rfl | (go_simp)⟩) hS ?_
            try simp only [Act.put, List.setIfInBounds_toArray, List.set_cons_zero, List.set_cons_succ]
            refine takeH (i := 7) 103 (v := .string B) rfl rfl (by kernel_rfl) (by kernel_rfl) (by kernel_rfl) (fun _ _ _ h => h) (Or.inl ⟨by kernel_rfl, fun _ hS => by first | rfl | (go_simp)⟩) hS ?_
            try simp only [Act.put, List.setIfInBounds_toArray, List.set_cons_zero, List.set_cons_succ]
            refine takeH (i := 8) 104 (v := .int .i64 (k : Int)) rfl rfl (by kernel_rfl) (by kernel_rfl) (by kernel_rfl) (fun _ _ _ h => h) (Or.inl ⟨by kernel_rfl, fun _ hS => by first | rfl | (go_simp)⟩) hS ?_
            try simp only [Act.put, List.setIfInBounds_toArray, List.set_cons_zero, List.set_cons_succ]
            refine takeH (i := 9) 105 (v := .int .i64 ((k : Int) + 1)) rfl rfl (by kernel_rfl) (by kernel_rfl) (by kernel_rfl) (fun _ _ _ h => h) (Or.inl ⟨by kernel_rfl, fun _ hS => by first | rfl | (go_simp)⟩) hS ?_
            try simp only [Act.put, List.setIfInBounds_toArray, List.set_cons_zero, List.set_cons_succ]
            refine takeH (i := 10) 106 (v := .string (B.extract (k + 1) 18)) rfl rfl (by kernel_rfl) (by kernel_rfl) (by kernel_rfl) (fun _ _ _ h => h) (Or.inl ⟨by kernel_rfl, fun _ hS => by first | rfl | (go_simp)⟩) hS ?_
            try simp only [Act.put, List.setIfInBounds_toArray, List.set_cons_zero, List.set_cons_succ]
            refine wpAnyH_ready (rs := [4]) (by kernel_rfl) (by simp) ?_
            refine (AllReadyH.cons rfl (fun K9 hK9 => ?_) AllReadyH.nil)
            go_simp
            refine hK9.out _ _ True.intro (fun hS => ?_)
            clear hK9 K9
            refine wpAnyH_ready (rs := [5]) (by kernel_rfl) (by simp) ?_
            refine (AllReadyH.cons rfl (fun K9 hK9 => ?_) AllReadyH.nil)
            go_simp
            refine hK9.out _ _ True.intro (fun hS => ?_)
            clear hK9 K9
            refine takeH (i := 6) 102 (v := .string (B.extract 0 k ++ txt [tv])) rfl rfl (by kernel_rfl) (by kernel_rfl) (by kernel_rfl) (fun _ _ _ h => h) (Or.inl ⟨by kernel_rfl, fun _ hS => by first | rfl | (go_simp)⟩) hS ?_
            try simp only [Act.put, List.setIfInBounds_toArray, List.set_cons_zero, List.set_cons_succ]
            refine takeH (i := 11) 107 (v := .string (B.extract 0 k ++ txt [tv] ++ B.extract (k + 1) 18)) rfl rfl (by kernel_rfl) (by kernel_rfl) (by kernel_rfl) (fun _ _ _ h => h) (Or.inl ⟨by kernel_rfl, fun _ hS => by first | rfl | (go_simp)⟩) hS ?_
            try simp only [Act.put, List.setIfInBounds_toArray, List.set_cons_zero, List.set_cons_succ]
            refine wpAnyH_ready (rs := [12]) (by kernel_rfl) (by simp) ?_
            refine (AllReadyH.cons rfl (fun K9 hK9 => ?_) AllReadyH.nil)
            go_simp
            refine (unpackX (B.extract 0 k ++ txt [tv] ++ B.extract (k + 1) 18) _).mono ?_
            rintro e w9 ⟨x8, y8, q8, n8, c8, rfl, hs8, hb8⟩
            have B8 : Hid (Below W0.heap.size W0 w9) := below_new K7.out hb8
            rw [SW.out, errF_no (by decide)]
            go_simp
            refine hK9.out _ _ True.intro (fun hS => ?_)
            clear hK9 K9 hb8 hs8
            refine takeH (i := 13) 95 (v := .tuple #[.agg #[.int .i64 x8, .int .i64 y8, .slice q8 n8 c8], .iface 78 (.int .i64 2)]) rfl rfl (by kernel_rfl) (by kernel_rfl) (by kernel_rfl) (fun _ _ _ h => h) (Or.inl ⟨by kernel_rfl, fun _ hS => by first | rfl | (go_simp)⟩) hS ?_
            try simp only [Act.put, List.setIfInBounds_toArray, List.set_cons_zero, List.set_cons_succ]
            refine takeH (i := 14) 109 (v := .agg #[.int .i64 x8, .int .i64 y8, .slice q8 n8 c8]) rfl rfl (by kernel_rfl) (by kernel_rfl) (by kernel_rfl) (fun _ _ _ h => h) (Or.inl ⟨by kernel_rfl, fun _ hS => by first | rfl | (go_simp)⟩) hS ?_
            try simp only [Act.put, List.setIfInBounds_toArray, List.set_cons_zero, List.set_cons_succ]
            refine takeH (i := 15) 110 (v := .iface 78 (.int .i64 2)) rfl rfl (by kernel_rfl) (by kernel_rfl) (by kernel_rfl) (fun _ _ _ h => h) (Or.inl ⟨by kernel_rfl, fun _ hS => by first | rfl | (go_simp)⟩) hS ?_
            try simp only [Act.put, List.setIfInBounds_toArray, List.set_cons_zero, List.set_cons_succ]
            refine wpAnyH_ready (rs := [16]) (by kernel_rfl) (by simp) ?_
            refine (AllReadyH.cons rfl (fun K9 hK9 => ?_) AllReadyH.nil)
            go_simp
            refine hK9.out _ _ True.intro (fun hS => ?_)
            clear hK9 K9
            refine wpAnyH_done (by kernel_rfl) ?_ _
            go_wp2_with fail
            have q := errF_same 2 _ (HW.out.2.2.2.1.later B8.out)
            rw [errF_no (by decide)] at q
            refine q.mono ?_
            clear q
            rintro e w10 ⟨rfl, hb⟩
            have B9 : Hid (Below W0.heap.size W0 w10) := B8.out.trans (hb.mono B8.out.size)
            clear hb
            go_wp2
            go_ret
            exact ⟨rfl, HW.out.2.2.1.trans (B9.out.mono HW.out.2.2.1.size)⟩
        · go_wp2
          go_ret
          exact ⟨rfl, KW.out⟩
      · go_wp2
        go_ret
        exact ⟨rfl, KW.out⟩
    · rw [errF_no hz] at hp
      obtain ⟨B, eB⟩ : ∃ B, B = packS s0 := ⟨_, rfl⟩
      obtain ⟨C, eC⟩ : ∃ C, C = packC s0 := ⟨_, rfl⟩
      rw [← eB, ← eC] at hp
      have HP : Hid (Calls Tryd.prog 23 #[.agg #[.int .i64 x0, .int .i64 y0, u0]] wx fun e w' => e = .returned (.tuple #[.string B, .iface 78 (.int .i64 C)]) ∧ Below wx.heap.size wx w') := hp
      clear hp eB eC hz r0
      go_wp2_with fail
      refine HP.out.mono ?_
      rintro e w5 ⟨rfl, hb⟩
      have K6 : Hid (Below W0.heap.size W0 w5) := K5.out.trans (hb.mono K5.out.size)
      clear hb
      go_wp2
      go_ret
      exact ⟨rfl, HW.out.2.2.1.trans (K6.out.mono HW.out.2.2.1.size)⟩
end Go.Proofs.YtolnfipdhkbkjajDoor.Wir
