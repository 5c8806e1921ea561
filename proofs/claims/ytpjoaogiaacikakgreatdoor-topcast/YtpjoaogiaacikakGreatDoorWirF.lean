/-
  What bytes say; Unpack.
-/
import Derived.Test.YtpjoaogiaacikakGreatDoorMgV
import Derived.Deep.CutBlock
import Derived.Deep.CutRange
namespace Go.Proofs.YtpjoaogiaacikakGreatDoor.Wir
open Go.RowKit
open Go.Proofs.YtpjoaogiaacikakGreatDoor.Fif (own_lt own_block own_form own_mono own_vw Kp ret_bool)
open Go.Proofs.YtpjoaogiaacikakGreatDoor.Vec (Vw code)
open Go.Proofs.YtpjoaogiaacikakGreatDoor.Cau (Sd sdBad)
set_option linter.unusedVariables false

theorem index_at {t : ByteArray} {i : Nat} {a : Int} (e : a = (i : Int)) (h : i < t.size) (W : World) : (Instr.index 9 (.string t) (.int .i64 a)).run Tryz.prog W = .ok (.int .u8 (bt t i)) W := by
  subst e
  rw [run_index_string W 9 t .i64 (i : Int) Tryz.underlying9, dif_pos ⟨by omega, by omega⟩]
  simp only [Int.toNat_natCast]
  rw [bt_get h]
/-- how far a word has been read: the block of the word, and the row of its numbers -/
structure RS (W0 w : World) (t : ByteArray) (P G i : Nat) : Prop where
  s : w.rowIs P 51 3 (wv (bt t 0) (bt t 1) (.slice (some ⟨G, 0, none⟩) 5 5))
  g : w.rowIs G 3 5 (fun k => .int .i64 (if k < i then n3at t k else 0))
  lowP : W0.heap.size ≤ P
  lowG : W0.heap.size ≤ G
  bel : Below W0.heap.size W0 w
theorem RS.ne {W0 w : World} {t : ByteArray} {P G i : Nat} (h : RS W0 w t P G i) : P ≠ G := by
  rintro rfl
  have a := World.rowIs.cell h.s (i := 0) (by omega)
  have b := World.rowIs.cell h.g (i := 2) (by omega)
  obtain ⟨c1, q1, z1, _⟩ := h.s
  obtain ⟨c2, q2, z2, _⟩ := h.g
  rw [q1] at q2
  simp only [Option.some.injEq, Obj.cells.injEq] at q2
  have := q2.1
  subst this
  omega
theorem RS.next {W0 w : World} {t : ByteArray} {P G i : Nat} (h : RS W0 w t P G i) : RS W0 (w.setCell ⟨G, i, none⟩ (.int .i64 (n3at t i))) t P G (i + 1) := by
  have hne := h.ne
  refine ⟨World.rowIs.of_block h.s (Deep.blk_setCell_other _ _ _ _ hne), (World.rowIs.set h.g i _).congr fun k hk => ?_, h.lowP, h.lowG, h.bel.setCell (p := ⟨G, i, none⟩) h.lowG _⟩
  by_cases e : k = i
  · rw [if_pos e, e, if_pos (by omega)]
  · rw [if_neg e]
    by_cases e2 : k < i
    · rw [if_pos e2, if_pos (by omega)]
    · rw [if_neg e2, if_neg (by omega)]
theorem RS.later {W0 w w' : World} {t : ByteArray} {P G i : Nat} (h : RS W0 w t P G i) (hb : Below w.heap.size w w') : RS W0 w' t P G i :=
  ⟨World.rowIs.of_block h.s (hb.block _ (World.rowIs.lt h.s)), World.rowIs.of_block h.g (hb.block _ (World.rowIs.lt h.g)), h.lowP, h.lowG, h.bel.trans (hb.mono h.bel.size)⟩
/-- the block of a word made, and a row of five numbers -/
theorem RS.made (w0 : World) (t : ByteArray) (b0 b1 : Int) (e0 : b0 = bt t 0) (e1 : b1 = bt t 1) : RS w0 ((w0.alloc (.cells #[.int .i64 0, .int .i64 0, .int .i64 0, .int .i64 0, .int .i64 0] 3)).alloc (.cells #[.int .i64 b0, .int .i64 b1, .slice (some ⟨w0.heap.size, 0, none⟩) 5 5] 51)) t (w0.heap.size + 1) w0.heap.size 0 := by
  have g := World.rowIs_alloc w0 #[.int .i64 0, .int .i64 0, .int .i64 0, .int .i64 0, .int .i64 0] 3 (fun k => .int .i64 (if k < 0 then n3at t k else 0)) (fun i hi => by
    have hi : i < 5 := hi
    rcases i with _ | _ | _ | _ | _ | i <;> first | rfl | omega)
  have hs := box (w0.alloc (.cells #[.int .i64 0, .int .i64 0, .int .i64 0, .int .i64 0, .int .i64 0] 3)) b0 b1 (.slice (some ⟨w0.heap.size, 0, none⟩) 5 5)
  rw [e0, e1] at hs ⊢
  refine ⟨?_, World.rowIs.of_block g (Below.heap_alloc _ _ _ (World.rowIs.lt g)), by omega, Nat.le_refl _, ((Below.refl _ _).alloc (Nat.le_refl _) _).alloc (by simp) _⟩
  show World.rowIs _ _ _ _ _
  simpa using hs
theorem RS.made2 (w0 : World) (t : ByteArray) (b0 b1 : Int) (e0 : b0 = bt t 0) (e1 : b1 = bt t 1) : RS w0 ((w0.alloc (.cells #[.int .i64 b0, .int .i64 b1, .slice (some ⟨w0.heap.size + 1, 0, none⟩) 5 5] 51)).alloc (.cells #[.int .i64 0, .int .i64 0, .int .i64 0, .int .i64 0, .int .i64 0] 3)) t w0.heap.size (w0.heap.size + 1) 0 := by
  have hs := box w0 b0 b1 (.slice (some ⟨w0.heap.size + 1, 0, none⟩) 5 5)
  have g := World.rowIs_alloc (w0.alloc (.cells #[.int .i64 b0, .int .i64 b1, .slice (some ⟨w0.heap.size + 1, 0, none⟩) 5 5] 51)) #[.int .i64 0, .int .i64 0, .int .i64 0, .int .i64 0, .int .i64 0] 3 (fun k => .int .i64 (if k < 0 then n3at t k else 0)) (fun i hi => by
    have hi : i < 5 := hi
    rcases i with _ | _ | _ | _ | _ | i <;> first | rfl | omega)
  rw [e0, e1] at hs g ⊢
  refine ⟨World.rowIs.of_block hs (Below.heap_alloc _ _ _ (World.rowIs.lt hs)), ?_, Nat.le_refl _, by omega, ((Below.refl _ _).alloc (Nat.le_refl _) _).alloc (by simp) _⟩
  show World.rowIs _ _ _ _ _
  simpa using g
theorem wrap_id {b : Int} (h0 : 0 ≤ b) (h1 : b < 1000000000) : IntKind.i64.wrap b = b := by
  simp only [IntKind.wrap, IntKind.bits, IntKind.signed]
  simp
  omega
theorem results_one {fn : Func} {p : Tmp} {ty : TypeId} (h : fn.results = #[.cell p ty]) (tmps : Array Value) (P : Program) (w : World) :
    (results fn tmps).run P w = ((asAddr (tmps.getD p undef)).run P w).andThen fun a w₁ => (loadVar ty a).run P w₁ := by
  simp only [results, h]
  simp [Sem.run_bind]
theorem ret3 {fn : Func} {tmps : Array Value} {w : World} {p : Tmp} {B : Nat} {v0 v1 v2 : Value} (h : (results fn tmps).run Tryz.prog w = ((asAddr (tmps.getD p undef)).run Tryz.prog w).andThen fun a w₁ => (loadVar 51 a).run Tryz.prog w₁) (hp : tmps.getD p undef = .pointer (some ⟨B, 0, none⟩))
    (y0 : w.cell? ⟨B, 0, none⟩ = some v0) (y1 : w.cell? ⟨B, 1, none⟩ = some v1) (y2 : w.cell? ⟨B, 2, none⟩ = some v2) : (results fn tmps).run Tryz.prog w = .ok (.agg #[v0, v1, v2]) w := by
  rw [h, hp]
  simp [asAddr, go_sem, y0, y1, y2]
/-- the row read whole -/
theorem row_done {w : World} {t : ByteArray} {G : Nat} (h : w.rowIs G 3 5 (fun k => .int .i64 (if k < 5 then n3at t k else 0))) : Sl w (.slice (some ⟨G, 0, none⟩) 5 5) (rd t).2.2 := by
  refine ⟨_, 5, rfl, Nat.le_refl _, by unfold maxLen; omega, rfl, fun _ => ⟨G, 0, rfl, World.rowIs.lt h, fun k hk => ?_⟩⟩
  have hk : k < 5 := hk
  rw [Nat.zero_add, World.rowIs.cell h (i := k) hk, if_pos hk]
  rcases k with _ | _ | _ | _ | _ | k <;> first | rfl | omega
theorem three {w : World} {G R : Nat} {ty : TypeId} {n : Nat} {f : Nat → Value} {v0 v1 v2 : Value} (h : w.rowIs G ty n f) (hne : G ≠ R) : (((w.setCell ⟨R, 0, none⟩ v0).setCell ⟨R, 1, none⟩ v1).setCell ⟨R, 2, none⟩ v2).rowIs G ty n f :=
  World.rowIs.of_block (World.rowIs.of_block (World.rowIs.of_block h (Deep.blk_setCell_other _ _ _ _ hne)) (Deep.blk_setCell_other _ _ _ _ hne)) (Deep.blk_setCell_other _ _ _ _ hne)
theorem three_b {w : World} {B R : Nat} {v0 v1 v2 : Value} (h : B ≤ R) : Below B w (((w.setCell ⟨R, 0, none⟩ v0).setCell ⟨R, 1, none⟩ v1).setCell ⟨R, 2, none⟩ v2) :=
  (((Below.refl B w).setCell (p := ⟨R, 0, none⟩) h v0).setCell (p := ⟨R, 1, none⟩) h v1).setCell (p := ⟨R, 2, none⟩) h v2
theorem RS.drew {W0 w : World} {t : ByteArray} {P G i : Nat} (h : RS W0 w t P G i) : RS W0 w.drew t P G i := ⟨h.s, h.g, h.lowP, h.lowG, h.bel.trans ⟨rfl, rfl, rfl, Nat.le_refl _, fun _ _ => rfl⟩⟩
set_option maxRecDepth 100000 in
set_option maxHeartbeats 2000000 in
theorem read_any (t : ByteArray) (w : World) (h : t.size = 18) : Calls Tryz.prog 39 #[.string t] w fun e w' => ∃ G : Nat, e = .returned (.agg #[.int .i64 (rd t).1, .int .i64 (rd t).2.1, .slice (some ⟨G, 0, none⟩) 5 5]) ∧ w.heap.size ≤ G ∧ Sl w' (.slice (some ⟨G, 0, none⟩) 5 5) (rd t).2.2 ∧ Below w.heap.size w w' := by
  have H : Hid (t.size = 18) := h
  obtain ⟨b0, e0⟩ : ∃ b, b = bt t 0 := ⟨_, rfl⟩
  obtain ⟨b1, e1⟩ : ∃ b, b = bt t 1 := ⟨_, rfl⟩
  have i0 := index_at (t := t) (i := 0) (a := 0) rfl (by omega)
  have i1 := index_at (t := t) (i := 1) (a := 1) rfl (by omega)
  obtain ⟨p0, p1⟩ := bt_range t 0
  obtain ⟨q0, q1⟩ := bt_range t 1
  rw [← e0] at i0 p0 p1
  rw [← e1] at i1 q0 q1
  have E : Hid (b0 = bt t 0 ∧ b1 = bt t 1) := ⟨e0, e1⟩
  have hw0 := wrap_id p0 (by omega)
  have hw1 := wrap_id q0 (by omega)
  have hmk : ∀ w, (Instr.makeSlice 30 (.int .i64 5) (.int .i64 5)).run Tryz.prog w = .ok (.slice (some ⟨w.heap.size, 0, none⟩) 5 5) (w.alloc (.cells #[.int .i64 0, .int .i64 0, .int .i64 0, .int .i64 0, .int .i64 0] 3)) := fun _ => by kernel_rfl
  have M1 : Hid (∃ P G : Nat, Value.pointer (some ⟨w.heap.size + 1 + 1, 0, none⟩) = .pointer (some ⟨P, 0, none⟩) ∧ Hid (RS (w.alloc (.cells #[.int .i64 0, .int .i64 0, .slice none 0 0] 51)) (((w.alloc (.cells #[.int .i64 0, .int .i64 0, .slice none 0 0] 51)).alloc (.cells #[.int .i64 0, .int .i64 0, .int .i64 0, .int .i64 0, .int .i64 0] 3)).alloc (.cells #[.int .i64 b0, .int .i64 b1, .slice (some ⟨w.heap.size + 1, 0, none⟩) 5 5] 51)).drew t P G 0)) := by
    refine ⟨_, w.heap.size + 1, rfl, ?_⟩
    have h := (RS.made (w.alloc (.cells #[.int .i64 0, .int .i64 0, .slice none 0 0] 51)) t b0 b1 e0 e1).drew
    simp only [World.size_alloc] at h
    exact h
  have M2 : Hid (∃ P G : Nat, Value.pointer (some ⟨w.heap.size + 1, 0, none⟩) = .pointer (some ⟨P, 0, none⟩) ∧ Hid (RS (w.alloc (.cells #[.int .i64 0, .int .i64 0, .slice none 0 0] 51)) (((w.alloc (.cells #[.int .i64 0, .int .i64 0, .slice none 0 0] 51)).alloc (.cells #[.int .i64 b0, .int .i64 b1, .slice (some ⟨w.heap.size + 1 + 1, 0, none⟩) 5 5] 51)).alloc (.cells #[.int .i64 0, .int .i64 0, .int .i64 0, .int .i64 0, .int .i64 0] 3)).drew t P G 0)) := by
    refine ⟨_, w.heap.size + 1 + 1, rfl, ?_⟩
    have h := (RS.made2 (w.alloc (.cells #[.int .i64 0, .int .i64 0, .slice none 0 0] 51)) t b0 b1 e0 e1).drew
    simp only [World.size_alloc] at h
    exact h
  clear h e0 e1
  go_enter Tryz.func39, Tryz.ntmps39
  go_upto_region 1 with fail
  go_cut [3] from 6 to 13 (fun x wx => ∃ P G : Nat, x = .pointer (some ⟨P, 0, none⟩) ∧ Hid (RS (w.alloc (.cells #[.int .i64 0, .int .i64 0, .slice none 0 0] 51)) wx t P G 0))
  case first =>
    refine wp_region_held_drew (S := fun X => True) (by kernel_rfl) True.intro ?_
    intro hS
    refine takeH (i := 0) 6 (v := .string t) rfl rfl (by kernel_rfl) (by kernel_rfl) (by kernel_rfl) (fun _ _ _ h => h) (Or.inl ⟨by kernel_rfl, fun _ hS => by first | rfl | (go_simp)⟩) hS ?_
    try simp only [Act.put, List.setIfInBounds_toArray, List.set_cons_zero, List.set_cons_succ]
    refine takeH (i := 1) 7 (v := .int .u8 b0) rfl rfl (by kernel_rfl) (by kernel_rfl) (by kernel_rfl) (fun _ _ _ h => h) (Or.inl ⟨by kernel_rfl, fun _ hS => by first | rfl | (go_simp)⟩) hS ?_
    try simp only [Act.put, List.setIfInBounds_toArray, List.set_cons_zero, List.set_cons_succ]
    refine takeH (i := 2) 8 (v := .int .i64 b0) rfl rfl (by kernel_rfl) (by kernel_rfl) (by kernel_rfl) (fun _ _ _ h => h) (Or.inl ⟨by kernel_rfl, fun _ hS => by first | rfl | (go_simp)⟩) hS ?_
    try simp only [Act.put, List.setIfInBounds_toArray, List.set_cons_zero, List.set_cons_succ]
    refine takeH (i := 3) 9 (v := .string t) rfl rfl (by kernel_rfl) (by kernel_rfl) (by kernel_rfl) (fun _ _ _ h => h) (Or.inl ⟨by kernel_rfl, fun _ hS => by first | rfl | (go_simp)⟩) hS ?_
    try simp only [Act.put, List.setIfInBounds_toArray, List.set_cons_zero, List.set_cons_succ]
    refine takeH (i := 4) 10 (v := .int .u8 b1) rfl rfl (by kernel_rfl) (by kernel_rfl) (by kernel_rfl) (fun _ _ _ h => h) (Or.inl ⟨by kernel_rfl, fun _ hS => by first | rfl | (go_simp)⟩) hS ?_
    try simp only [Act.put, List.setIfInBounds_toArray, List.set_cons_zero, List.set_cons_succ]
    refine takeH (i := 5) 11 (v := .int .i64 b1) rfl rfl (by kernel_rfl) (by kernel_rfl) (by kernel_rfl) (fun _ _ _ h => h) (Or.inl ⟨by kernel_rfl, fun _ hS => by first | rfl | (go_simp)⟩) hS ?_
    try simp only [Act.put, List.setIfInBounds_toArray, List.set_cons_zero, List.set_cons_succ]
    refine wpAnyH_ready (rs := [6, 8]) (by kernel_rfl) (by simp) ?_
    refine (AllReadyH.cons rfl (fun K9 hK9 => ?_) (AllReadyH.cons rfl (fun K9 hK9 => ?_) AllReadyH.nil))
    · go_simp
      refine hK9.out _ _ True.intro (fun hS => ?_)
      clear hK9 K9
      refine takeH (i := 7) 13 (v := .agg #[.int .i64 b0, .int .i64 b1, .slice (some ⟨w.heap.size + 1, 0, none⟩) 5 5]) rfl rfl (by kernel_rfl) (by kernel_rfl) (by kernel_rfl) (fun _ _ _ h => h) (Or.inl ⟨by kernel_rfl, fun _ hS => by first | rfl | (go_simp)⟩) hS ?_
      try simp only [Act.put, List.setIfInBounds_toArray, List.set_cons_zero, List.set_cons_succ]
      refine wpAnyH_ready (rs := [8]) (by kernel_rfl) (by simp) ?_
      refine (AllReadyH.cons rfl (fun K9 hK9 => ?_) AllReadyH.nil)
      go_simp
      refine hK9.out _ _ True.intro (fun hS => ?_)
      clear hK9 K9
      refine wpAnyH_ready (rs := [9]) (by kernel_rfl) (by simp) ?_
      refine (AllReadyH.cons rfl (fun K9 hK9 => ?_) AllReadyH.nil)
      go_simp
      refine hK9.out _ _ True.intro (fun hS => ?_)
      clear hK9 K9
      refine wpAnyH_done (by kernel_rfl) ?_ _
      go_wp2_with fail
      go_meet
      exact M1.out
    · go_simp
      refine hK9.out _ _ True.intro (fun hS => ?_)
      clear hK9 K9
      refine wpAnyH_ready (rs := [6]) (by kernel_rfl) (by simp) ?_
      refine (AllReadyH.cons rfl (fun K9 hK9 => ?_) AllReadyH.nil)
      go_simp
      refine hK9.out _ _ True.intro (fun hS => ?_)
      clear hK9 K9
      refine takeH (i := 7) 13 (v := .agg #[.int .i64 b0, .int .i64 b1, .slice (some ⟨w.heap.size + 1 + 1, 0, none⟩) 5 5]) rfl rfl (by kernel_rfl) (by kernel_rfl) (by kernel_rfl) (fun _ _ _ h => h) (Or.inl ⟨by kernel_rfl, fun _ hS => by first | rfl | (go_simp)⟩) hS ?_
      try simp only [Act.put, List.setIfInBounds_toArray, List.set_cons_zero, List.set_cons_succ]
      refine wpAnyH_ready (rs := [9]) (by kernel_rfl) (by simp) ?_
      refine (AllReadyH.cons rfl (fun K9 hK9 => ?_) AllReadyH.nil)
      go_simp
      refine hK9.out _ _ True.intro (fun hS => ?_)
      clear hK9 K9
      refine wpAnyH_done (by kernel_rfl) ?_ _
      go_wp2_with fail
      go_meet
      exact M2.out
  case rest =>
    obtain ⟨P, G, rfl, hR0⟩ := hcut
    have WB : Hid (Below w.heap.size w (w.alloc (.cells #[.int .i64 0, .int .i64 0, .slice none 0 0] 51))) := (Below.refl _ _).alloc (Nat.le_refl _) _
    clear M1 M2 i0 i1 hmk hw0 hw1 p0 p1 q0 q1
    obtain ⟨W0, eW0⟩ : ∃ W0, W0 = w.alloc (.cells #[.int .i64 0, .int .i64 0, .slice none 0 0] 51) := ⟨_, rfl⟩
    have KR : Hid (W0.rowIs w.heap.size 51 3 (wv 0 0 (.slice none 0 0)) ∧ w.heap.size < W0.heap.size) := by
      have b := box w 0 0 (.slice none 0 0)
      rw [← eW0] at b
      exact ⟨b, World.rowIs.lt b⟩
    rw [← eW0] at hR0 WB
    clear eW0
    go_wp2_with fail
    go_loopw [14] (fun x wr => ∃ k : Nat, k ≤ 5 ∧ x = .int .i64 (k : Int) ∧ Hid (RS W0 wr t P G k)) (fun x _ => 5 - (intOf x).toNat)
    case atStart => exact ⟨0, by omega, rfl, hR0⟩
    case round =>
      clear hR0
      obtain ⟨k, hk5, rfl, hR⟩ := hrel
      by_cases hlt : k < 5
      · have hk0 : (0 : Int) ≤ (k : Int) := by omega
        have hkn : (k : Int) < 5 := by omega
        have k2 : wr.cell? ⟨P, 2, none⟩ = some (.slice (some ⟨G, 0, none⟩) 5 5) := World.rowIs.cell hR.out.s (i := 2) (by omega)
        have kf := hR.out.g.frozen k
        have kg := hR.out.g.cell (i := k) (by omega)
        obtain ⟨c0, ec0⟩ : ∃ b, b = bt t (2 + 3 * k) := ⟨_, rfl⟩
        obtain ⟨c1, ec1⟩ : ∃ b, b = bt t (2 + 3 * k + 1) := ⟨_, rfl⟩
        obtain ⟨c2, ec2⟩ : ∃ b, b = bt t (2 + 3 * k + 2) := ⟨_, rfl⟩
        have i0 := index_at (t := t) (i := 2 + 3 * k) (a := 2 + 3 * (k : Int)) (by omega) (by rw [H.out]; omega)
        have i1 := index_at (t := t) (i := 2 + 3 * k + 1) (a := 2 + 3 * (k : Int) + 1) (by omega) (by rw [H.out]; omega)
        have i2 := index_at (t := t) (i := 2 + 3 * k + 2) (a := 2 + 3 * (k : Int) + 2) (by omega) (by rw [H.out]; omega)
        have p0 := bt_range t (2 + 3 * k)
        have p1 := bt_range t (2 + 3 * k + 1)
        have p2 := bt_range t (2 + 3 * k + 2)
        rw [← ec0] at i0 p0
        rw [← ec1] at i1 p1
        rw [← ec2] at i2 p2
        have EC : Hid (n3at t k = c0 * 65536 + c1 * 256 + c2) := by
          show n3at t k = _
          unfold n3at
          rw [← ec0, ← ec1, ← ec2]
        have hw0 := wrap_id p0.1 (by omega)
        have hw1 := wrap_id p1.1 (by omega)
        have hw2 := wrap_id p2.1 (by omega)
        have hs0 := wrap_id (b := c0 * 65536) (by omega) (by omega)
        have hs1 := wrap_id (b := c1 * 256) (by omega) (by omega)
        have ha1 := wrap_id (b := 2 + 3 * (k : Int) + 1) (by omega) (by omega)
        have ha2 := wrap_id (b := 2 + 3 * (k : Int) + 2) (by omega) (by omega)
        have ST : Hid (∀ v, (wr.setCell ⟨G, k, none⟩ v).cell? ⟨P, 2, none⟩ = some (.slice (some ⟨G, 0, none⟩) 5 5)) := fun v => (World.cell?_setCell_far _ _ _ _ (Ne.symm hR.out.ne)).trans k2
        have ho1 := or_one p0 p1
        have ho2 := or_two p0 p1 p2
        clear ec0 ec1 ec2
        go_upto_region 6 with fail
        refine wp_region_held_drew (S := fun X => X.cell? ⟨P, 2, none⟩ = some (.slice (some ⟨G, 0, none⟩) 5 5)) (by kernel_rfl) k2 ?_
        intro hS
        refine takeH (i := 0) 20 (v := .pointer (some ⟨P, 2, none⟩)) rfl rfl (by kernel_rfl) (by kernel_rfl) (by kernel_rfl) (fun _ _ _ h => h) (Or.inl ⟨by kernel_rfl, fun _ hS => by first | rfl | (go_simp)⟩) hS ?_
        try simp only [Act.put, List.setIfInBounds_toArray, List.set_cons_zero, List.set_cons_succ]
        refine takeH (i := 1) 21 (v := .slice (some ⟨G, 0, none⟩) 5 5) rfl rfl (by kernel_rfl) (by kernel_rfl) (by kernel_rfl) (fun _ _ _ h => h) (Or.inl ⟨by kernel_rfl, fun _ hS => by first | rfl | (go_simp)⟩) hS ?_
        try simp only [Act.put, List.setIfInBounds_toArray, List.set_cons_zero, List.set_cons_succ]
        refine takeH (i := 2) 22 (v := .int .i64 (k : Int)) rfl rfl (by kernel_rfl) (by kernel_rfl) (by kernel_rfl) (fun _ _ _ h => h) (Or.inl ⟨by kernel_rfl, fun _ hS => by first | rfl | (go_simp)⟩) hS ?_
        try simp only [Act.put, List.setIfInBounds_toArray, List.set_cons_zero, List.set_cons_succ]
        refine takeH (i := 3) 23 (v := .string t) rfl rfl (by kernel_rfl) (by kernel_rfl) (by kernel_rfl) (fun _ _ _ h => h) (Or.inl ⟨by kernel_rfl, fun _ hS => by first | rfl | (go_simp)⟩) hS ?_
        try simp only [Act.put, List.setIfInBounds_toArray, List.set_cons_zero, List.set_cons_succ]
        refine takeH (i := 4) 24 (v := .int .i64 (2 + 3 * (k : Int))) rfl rfl (by kernel_rfl) (by kernel_rfl) (by kernel_rfl) (fun _ _ _ h => h) (Or.inl ⟨by kernel_rfl, fun _ hS => by first | rfl | (go_simp)⟩) hS ?_
        try simp only [Act.put, List.setIfInBounds_toArray, List.set_cons_zero, List.set_cons_succ]
        refine takeH (i := 5) 25 (v := .int .u8 c0) rfl rfl (by kernel_rfl) (by kernel_rfl) (by kernel_rfl) (fun _ _ _ h => h) (Or.inl ⟨by kernel_rfl, fun _ hS => by first | rfl | (go_simp)⟩) hS ?_
        try simp only [Act.put, List.setIfInBounds_toArray, List.set_cons_zero, List.set_cons_succ]
        refine takeH (i := 6) 26 (v := .int .i64 c0) rfl rfl (by kernel_rfl) (by kernel_rfl) (by kernel_rfl) (fun _ _ _ h => h) (Or.inl ⟨by kernel_rfl, fun _ hS => by first | rfl | (go_simp)⟩) hS ?_
        try simp only [Act.put, List.setIfInBounds_toArray, List.set_cons_zero, List.set_cons_succ]
        refine takeH (i := 7) 27 (v := .int .i64 (c0 * 65536)) rfl rfl (by kernel_rfl) (by kernel_rfl) (by kernel_rfl) (fun _ _ _ h => h) (Or.inl ⟨by kernel_rfl, fun _ hS => by first | rfl | (go_simp)⟩) hS ?_
        try simp only [Act.put, List.setIfInBounds_toArray, List.set_cons_zero, List.set_cons_succ]
        refine takeH (i := 8) 28 (v := .string t) rfl rfl (by kernel_rfl) (by kernel_rfl) (by kernel_rfl) (fun _ _ _ h => h) (Or.inl ⟨by kernel_rfl, fun _ hS => by first | rfl | (go_simp)⟩) hS ?_
        try simp only [Act.put, List.setIfInBounds_toArray, List.set_cons_zero, List.set_cons_succ]
        refine takeH (i := 9) 29 (v := .int .i64 (2 + 3 * (k : Int))) rfl rfl (by kernel_rfl) (by kernel_rfl) (by kernel_rfl) (fun _ _ _ h => h) (Or.inl ⟨by kernel_rfl, fun _ hS => by first | rfl | (go_simp)⟩) hS ?_
        try simp only [Act.put, List.setIfInBounds_toArray, List.set_cons_zero, List.set_cons_succ]
        refine takeH (i := 10) 30 (v := .int .i64 (2 + 3 * (k : Int) + 1)) rfl rfl (by kernel_rfl) (by kernel_rfl) (by kernel_rfl) (fun _ _ _ h => h) (Or.inl ⟨by kernel_rfl, fun _ hS => by first | rfl | (go_simp)⟩) hS ?_
        try simp only [Act.put, List.setIfInBounds_toArray, List.set_cons_zero, List.set_cons_succ]
        refine takeH (i := 11) 31 (v := .int .u8 c1) rfl rfl (by kernel_rfl) (by kernel_rfl) (by kernel_rfl) (fun _ _ _ h => h) (Or.inl ⟨by kernel_rfl, fun _ hS => by first | rfl | (go_simp)⟩) hS ?_
        try simp only [Act.put, List.setIfInBounds_toArray, List.set_cons_zero, List.set_cons_succ]
        refine takeH (i := 12) 32 (v := .int .i64 c1) rfl rfl (by kernel_rfl) (by kernel_rfl) (by kernel_rfl) (fun _ _ _ h => h) (Or.inl ⟨by kernel_rfl, fun _ hS => by first | rfl | (go_simp)⟩) hS ?_
        try simp only [Act.put, List.setIfInBounds_toArray, List.set_cons_zero, List.set_cons_succ]
        refine takeH (i := 13) 33 (v := .int .i64 (c1 * 256)) rfl rfl (by kernel_rfl) (by kernel_rfl) (by kernel_rfl) (fun _ _ _ h => h) (Or.inl ⟨by kernel_rfl, fun _ hS => by first | rfl | (go_simp)⟩) hS ?_
        try simp only [Act.put, List.setIfInBounds_toArray, List.set_cons_zero, List.set_cons_succ]
        refine takeH (i := 14) 34 (v := .int .i64 (c0 * 65536 + c1 * 256)) rfl rfl (by kernel_rfl) (by kernel_rfl) (by kernel_rfl) (fun _ _ _ h => h) (Or.inl ⟨by kernel_rfl, fun _ hS => by first | rfl | (go_simp)⟩) hS ?_
        try simp only [Act.put, List.setIfInBounds_toArray, List.set_cons_zero, List.set_cons_succ]
        refine takeH (i := 15) 35 (v := .string t) rfl rfl (by kernel_rfl) (by kernel_rfl) (by kernel_rfl) (fun _ _ _ h => h) (Or.inl ⟨by kernel_rfl, fun _ hS => by first | rfl | (go_simp)⟩) hS ?_
        try simp only [Act.put, List.setIfInBounds_toArray, List.set_cons_zero, List.set_cons_succ]
        refine takeH (i := 16) 36 (v := .int .i64 (2 + 3 * (k : Int))) rfl rfl (by kernel_rfl) (by kernel_rfl) (by kernel_rfl) (fun _ _ _ h => h) (Or.inl ⟨by kernel_rfl, fun _ hS => by first | rfl | (go_simp)⟩) hS ?_
        try simp only [Act.put, List.setIfInBounds_toArray, List.set_cons_zero, List.set_cons_succ]
        refine takeH (i := 17) 37 (v := .int .i64 (2 + 3 * (k : Int) + 2)) rfl rfl (by kernel_rfl) (by kernel_rfl) (by kernel_rfl) (fun _ _ _ h => h) (Or.inl ⟨by kernel_rfl, fun _ hS => by first | rfl | (go_simp)⟩) hS ?_
        try simp only [Act.put, List.setIfInBounds_toArray, List.set_cons_zero, List.set_cons_succ]
        refine takeH (i := 18) 38 (v := .int .u8 c2) rfl rfl (by kernel_rfl) (by kernel_rfl) (by kernel_rfl) (fun _ _ _ h => h) (Or.inl ⟨by kernel_rfl, fun _ hS => by first | rfl | (go_simp)⟩) hS ?_
        try simp only [Act.put, List.setIfInBounds_toArray, List.set_cons_zero, List.set_cons_succ]
        refine takeH (i := 19) 39 (v := .int .i64 c2) rfl rfl (by kernel_rfl) (by kernel_rfl) (by kernel_rfl) (fun _ _ _ h => h) (Or.inl ⟨by kernel_rfl, fun _ hS => by first | rfl | (go_simp)⟩) hS ?_
        try simp only [Act.put, List.setIfInBounds_toArray, List.set_cons_zero, List.set_cons_succ]
        refine takeH (i := 20) 40 (v := .int .i64 (c0 * 65536 + c1 * 256 + c2)) rfl rfl (by kernel_rfl) (by kernel_rfl) (by kernel_rfl) (fun _ _ _ h => h) (Or.inl ⟨by kernel_rfl, fun _ hS => by first | rfl | (go_simp)⟩) hS ?_
        try simp only [Act.put, List.setIfInBounds_toArray, List.set_cons_zero, List.set_cons_succ]
        refine takeH (i := 21) 41 (v := .pointer (some ⟨G, k, none⟩)) rfl rfl (by kernel_rfl) (by kernel_rfl) (by kernel_rfl) (fun _ _ _ h => h) (Or.inl ⟨by kernel_rfl, fun _ hS => by first | rfl | (go_simp)⟩) hS ?_
        try simp only [Act.put, List.setIfInBounds_toArray, List.set_cons_zero, List.set_cons_succ]
        refine wpAnyH_ready (rs := [22]) (by kernel_rfl) (by simp) ?_
        refine (AllReadyH.cons rfl (fun K9 hK9 => ?_) AllReadyH.nil)
        go_simp
        refine hK9.out _ _ (by exact ST.out _) (fun hS => ?_)
        clear hK9 K9
        refine wpAnyH_done (by kernel_rfl) ?_ _
        go_wp2_with fail
        go_roundw
        case rel =>
          refine ⟨k + 1, by omega, by go_num, ?_⟩
          rw [← EC.out]
          exact hR.out.next.drew
        case measure => simp [intOf]; omega
      · have hk : k = 5 := by omega
        subst hk
        have k0 : wr.cell? ⟨P, 0, none⟩ = some (.int .i64 (bt t 0)) := World.rowIs.cell hR.out.s (i := 0) (by omega)
        have k1 : wr.cell? ⟨P, 1, none⟩ = some (.int .i64 (bt t 1)) := World.rowIs.cell hR.out.s (i := 1) (by omega)
        have k2 : wr.cell? ⟨P, 2, none⟩ = some (.slice (some ⟨G, 0, none⟩) 5 5) := World.rowIs.cell hR.out.s (i := 2) (by omega)
        have rR := World.rowIs.of_block KR.out.1 (hR.out.bel.block _ KR.out.2)
        have c0 := rR.cell (i := 0) (by omega)
        have c1 := rR.cell (i := 1) (by omega)
        have c2 := rR.cell (i := 2) (by omega)
        have f0 := rR.frozen 0
        have f1 := rR.frozen 1
        have f2 := rR.frozen 2
        have R : Hid _ := rR
        obtain ⟨b0, e0⟩ : ∃ b, b = bt t 0 := ⟨_, rfl⟩
        obtain ⟨b1, e1⟩ : ∃ b, b = bt t 1 := ⟨_, rfl⟩
        rw [← e0] at k0
        rw [← e1] at k1
        have EB : Hid (b0 = bt t 0 ∧ b1 = bt t 1) := ⟨e0, e1⟩
        clear rR e0 e1
        go_wp2
        have r5 := ((World.rowIs.set R.out 0 (.int .i64 b0)).set 1 (.int .i64 b1)).set 2 (.slice (some ⟨G, 0, none⟩) 5 5)
        have y0 := r5.cell (i := 0) (by omega)
        have y1 := r5.cell (i := 1) (by omega)
        have y2 := r5.cell (i := 2) (by omega)
        simp at y0 y1 y2
        have BW : Below w.heap.size wr (((wr.setCell ⟨w.heap.size, 0, none⟩ (.int .i64 b0)).setCell ⟨w.heap.size, 1, none⟩ (.int .i64 b1)).setCell ⟨w.heap.size, 2, none⟩ (.slice (some ⟨G, 0, none⟩) 5 5)) := three_b (Nat.le_refl _)
        have hGne : G ≠ w.heap.size := by have := hR.out.lowG; have := KR.out.2; omega
        have hS := row_done (three (v0 := .int .i64 b0) (v1 := .int .i64 b1) (v2 := .slice (some ⟨G, 0, none⟩) 5 5) hR.out.g hGne)
        exact bodyPost_ret (v := .agg #[.int .i64 b0, .int .i64 b1, .slice (some ⟨G, 0, none⟩) 5 5]) (ret3 (results_one rfl _ _ _) rfl y0 y1 y2) rfl ⟨_, by rw [EB.out.1, EB.out.2]; rfl, by have := hR.out.lowG; have := KR.out.2; omega, hS, (WB.out.trans (hR.out.bel.mono WB.out.size)).trans BW⟩
end Go.Proofs.YtpjoaogiaacikakGreatDoor.Wir
