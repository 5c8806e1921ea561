/-
  Take: a piece that is refused, one that came ahead, a new one.
-/
import Derived.Test.YtolnfipdhkbkjajDoorPieT
namespace Go.Proofs.YtolnfipdhkbkjajDoor.Pie
open Go.RowKit Go.Maps
open Go.Proofs.YtolnfipdhkbkjajDoor.Fif (own_lt own_block own_form own_mono Kp ret_bool)
set_option linter.unusedVariables false
variable {w w' : World} {base P mb : Nat} {j : J}

theorem check_any (p : Pc) (h : JF w base P mb j) (hi : JInv j) : Calls Tryd.prog 55 #[.pointer (some ⟨P, 0, none⟩), .agg #[.int .i64 p.1, .int .i64 p.2.1, .string p.2.2]] w fun x w' => x = .returned (errF (takeC j p)) ∧ Below w.heap.size w w' := by
  obtain ⟨a, b, c⟩ := p
  cases hb : pcBad (a, b, c)
  · obtain ⟨h1, h2, h3⟩ := pcBad_no hb
    simp only at h1 h2 h3
    obtain ⟨m, rfl⟩ : ∃ m : Nat, a = (m : Int) := ⟨a.toNat, by omega⟩
    exact check_right m b c h hi (by omega) hb _ rfl
  · have e : takeC j (a, b, c) = 1 := if_pos hb
    rw [e]
    exact check_bad a b c w hb
theorem stay (h : JF w base P mb j) (hbw : base ≤ w.heap.size) (hb : Below w.heap.size w w') : JS w' base P j [P, mb] ∧ Below base w w' ∧ KpL w w' [P, mb] ∧ NewL w [P, mb] [P, mb] :=
  ⟨⟨mb, rfl, h.later hb⟩, hb.mono hbw, ⟨hb.size, fun b hb' _ => hb.block b hb'⟩, fun b hb => .inl hb⟩
theorem take_same {p : Pc} (g : JInv j) (hz : takeC j p = 0) (hs : (j.T p.1.toNat).isSome = true) : takeJ j p = j ∧ takeN j p = false := by
  obtain ⟨h1, h2, h3⟩ := take_zero hz
  obtain ⟨h4, h5, h6⟩ := pcBad_no h1
  cases q : j.T p.1.toNat with
  | none => rw [q] at hs; cases hs
  | some t =>
    have et : t = p.2.2 := by
      unfold other at h3
      rw [q] at h3
      simpa using h3
    have ho : (j.of : Int) = p.2.1 := by
      rcases h2 with a | a
      · have := (g.has _ t q).1; omega
      · exact a
    refine ⟨?_, ?_⟩
    · unfold takeJ
      rw [if_pos hz]
      obtain ⟨o, T⟩ := j
      simp only at ho q
      congr 1
      · omega
      · funext i
        by_cases e : i = p.1.toNat
        · rw [if_pos e, e, q, et]
        · rw [if_neg e]
    · unfold takeN
      rw [q]
      simp
theorem take_fresh {p : Pc} (hz : takeC j p = 0) (hs : j.T p.1.toNat = none) : takeJ j p = ⟨p.2.1.toNat, putT j.T p.1.toNat p.2.2⟩ ∧ takeN j p = true := by
  refine ⟨if_pos hz, ?_⟩
  unfold takeN
  rw [hz, hs]
  rfl
theorem g_of_turned {P' : Nat} (h : w.mapTurned w' mb) (hP : P' < w.heap.size) (hne : P' ≠ mb) : w'.heap[P']? = w.heap[P']? := h.grown.block P' hP (fun q => hne (Option.some.inj q))
theorem take_no (p : Pc) (h : JF w base P mb j) (hi : JInv j) (hbw : base ≤ w.heap.size) (hz : takeC j p ≠ 0) : Calls Tryd.prog 48 #[.pointer (some ⟨P, 0, none⟩), .agg #[.int .i64 p.1, .int .i64 p.2.1, .string p.2.2]] w fun x w' => x = .returned (.tuple #[.bool false, errF (takeC j p)]) ∧ Below w.heap.size w w' := by
  have HZ : Hid (takeC j p ≠ 0) := hz
  have HJ : Hid (JF w base P mb j ∧ JInv j) := ⟨h, hi⟩
  clear hz h hi
  go_enter Tryd.func48, Tryd.ntmps48
  go_wp2_with (refine (check_any p (HJ.out.1.later ((Below.refl w.heap.size w).alloc (Nat.le_refl _) _)) HJ.out.2).mono ?_)
  rintro e w1 ⟨rfl, hb1⟩
  rw [errF_no HZ.out]
  go_wp2
  go_ret2
  exact ⟨by rw [errF_no HZ.out]; rfl, ((Below.refl w.heap.size w).alloc (Nat.le_refl _) _).trans (hb1.mono (by simp))⟩
set_option maxRecDepth 100000 in
theorem take_old (m : Nat) (b : Int) (c : ByteArray) (h : JF w base P mb j) (hi : JInv j) (hm : m < 60) (hz : takeC j ((m : Int), b, c) = 0) (hs : (j.T m).isSome = true) : Calls Tryd.prog 48 #[.pointer (some ⟨P, 0, none⟩), .agg #[.int .i64 (m : Int), .int .i64 b, .string c]] w fun x w' => x = .returned (.tuple #[.bool false, .nilIface]) ∧ Below w.heap.size w w' := by
  have HZ : Hid (takeC j ((m : Int), b, c) = 0 ∧ (j.T m).isSome = true) := ⟨hz, hs⟩
  have HJ : Hid (JF w base P mb j ∧ JInv j) := ⟨h, hi⟩
  clear hz h hi hs
  go_enter Tryd.func48, Tryd.ntmps48
  go_wp2_with (refine (check_any ((m : Int), b, c) (HJ.out.1.later ((Below.refl w.heap.size w).alloc (Nat.le_refl _) _)) HJ.out.2).mono ?_)
  rintro e w1 ⟨rfl, hb1⟩
  rw [HZ.out.1, errF_ok]
  have B1 : Hid (Below w.heap.size w w1) := ((Below.refl w.heap.size w).alloc (Nat.le_refl _) _).trans (hb1.mono (by simp))
  have r1 := World.rowIs.of_block (box3 w (m : Int) b c) (hb1.block w.heap.size (by simp))
  have k0 : w1.cell? ⟨w.heap.size, 0, none⟩ = some (.int .i64 (m : Int)) := World.rowIs.cell r1 (i := 0) (by omega)
  clear hb1 r1
  go_wp2_with (refine (has_any (HJ.out.1.later B1.out) hm).mono ?_)
  rintro e w2 ⟨rfl, hb2⟩
  rw [HZ.out.2]
  go_wp2
  go_ret2
  exact ⟨rfl, B1.out.trans (hb2.mono B1.out.size)⟩
set_option maxRecDepth 100000 in
set_option maxHeartbeats 1000000 in
theorem take_new (m : Nat) (b : Int) (c : ByteArray) (h : JF w base P mb j) (hi : JInv j) (hbw : base ≤ w.heap.size) (hm : m < 60) (hz : takeC j ((m : Int), b, c) = 0) (hs : j.T m = none) : Calls Tryd.prog 48 #[.pointer (some ⟨P, 0, none⟩), .agg #[.int .i64 (m : Int), .int .i64 b, .string c]] w fun x w' => x = .returned (.tuple #[.bool true, .nilIface]) ∧ JS w' base P ⟨b.toNat, putT j.T m c⟩ [P, mb] ∧ Below base w w' ∧ KpL w w' [P, mb] ∧ NewL w [P, mb] [P, mb] := by
  have hp := pcBad_no (take_zero hz).1
  simp only at hp
  have HZ : Hid (takeC j ((m : Int), b, c) = 0 ∧ j.T m = none ∧ 1 ≤ b ∧ c.size ≤ 12) := ⟨hz, hs, hp.1.1, hp.2.2⟩
  have HJ : Hid (JF w base P mb j ∧ JInv j ∧ base ≤ w.heap.size) := ⟨h, hi, hbw⟩
  clear hz h hi hs hp hbw
  go_enter Tryd.func48, Tryd.ntmps48
  go_wp2_with (refine (check_any ((m : Int), b, c) (HJ.out.1.later ((Below.refl w.heap.size w).alloc (Nat.le_refl _) _)) HJ.out.2.1).mono ?_)
  rintro e w1 ⟨rfl, hb1⟩
  rw [HZ.out.1, errF_ok]
  have B1 : Hid (Below w.heap.size w w1) := ((Below.refl w.heap.size w).alloc (Nat.le_refl _) _).trans (hb1.mono (by simp))
  have r1 := World.rowIs.of_block (box3 w (m : Int) b c) (hb1.block w.heap.size (by simp))
  have k0 : w1.cell? ⟨w.heap.size, 0, none⟩ = some (.int .i64 (m : Int)) := World.rowIs.cell r1 (i := 0) (by omega)
  have R1 : Hid (w1.rowIs w.heap.size 72 3 (fun k => if k = 0 then .int .i64 (m : Int) else if k = 1 then .int .i64 b else .string c)) := r1
  clear hb1 r1
  go_wp2_with (refine (has_any (HJ.out.1.later B1.out) hm).mono ?_)
  rintro e w2 ⟨rfl, hb2⟩
  rw [HZ.out.2.1]
  have B2 : Hid (Below w.heap.size w w2) := B1.out.trans (hb2.mono B1.out.size)
  have r2 := World.rowIs.of_block R1.out (hb2.block _ (World.rowIs.lt R1.out))
  have h2 := HJ.out.1.later B2.out
  have j1 : w2.cell? ⟨w.heap.size, 1, none⟩ = some (.int .i64 b) := World.rowIs.cell r2 (i := 1) (by omega)
  have p0 := h2.c0.1
  have z0 := h2.c0.2
  have hPw : P ≠ w.heap.size := Nat.ne_of_lt HJ.out.1.lt.1
  obtain ⟨w3, e3⟩ : ∃ w3, w3 = w2.setCell ⟨P, 0, none⟩ (.int .i64 b) := ⟨_, rfl⟩
  have hmP : mb ≠ P := fun e => h2.map.row h2.row e.symm
  have J3 : Hid (w3.rowIs P 123 2 (jv b.toNat mb) ∧ MM w3 mb j.T ∧ w.heap.size ≤ w3.heap.size ∧ Below base w w3 ∧ ∀ k, k < w.heap.size → k ≠ P → w3.heap[k]? = w.heap[k]?) := by
    rw [e3]
    refine ⟨(World.rowIs.set h2.row 0 _).congr fun k hk => ?_, h2.map.of_block (Deep.blk_setCell_other _ _ _ _ hmP), by simpa [World.setCell] using B2.out.size, (B2.out.mono HJ.out.2.2).setCell (p := ⟨P, 0, none⟩) HJ.out.1.low.1 _, fun k hk hne => (Deep.blk_setCell_other _ _ _ _ hne).trans (B2.out.block k hk)⟩
    unfold jv
    by_cases e : k = 0
    · rw [if_pos e, if_pos e, show ((b.toNat : Nat) : Int) = b by have := HZ.out.2.2.1; omega]
    · rw [if_neg e, if_neg e, if_neg e]
  have r3 : w3.rowIs w.heap.size 72 3 (fun k => if k = 0 then .int .i64 (m : Int) else if k = 1 then .int .i64 b else .string c) := by
    rw [e3]
    exact World.rowIs.of_block r2 (Deep.blk_setCell_other _ _ _ _ (fun q => hPw q.symm))
  have q0 : w3.cell? ⟨w.heap.size, 0, none⟩ = some (.int .i64 (m : Int)) := World.rowIs.cell r3 (i := 0) (by omega)
  have q1 : w3.cell? ⟨w.heap.size, 1, none⟩ = some (.int .i64 b) := World.rowIs.cell r3 (i := 1) (by omega)
  have q2 : w3.cell? ⟨w.heap.size, 2, none⟩ = some (.string c) := World.rowIs.cell r3 (i := 2) (by omega)
  have qP : w3.cell? ⟨P, 1, none⟩ = some (.map (some mb)) := World.rowIs.cell J3.out.1 (i := 1) (by omega)
  have hwm : w.heap.size ≠ mb := fun e => J3.out.2.1.row r3 e
  have hl3 := World.rowIs.lt r3
  have HS : Hid (∀ X : World, (∀ k, k < w3.heap.size → k ≠ mb → X.heap[k]? = w3.heap[k]?) → X.cell? ⟨P, 1, none⟩ = some (.map (some mb)) ∧ X.cell? ⟨w.heap.size, 0, none⟩ = some (.int .i64 (m : Int)) ∧ X.cell? ⟨w.heap.size, 1, none⟩ = some (.int .i64 b) ∧ X.cell? ⟨w.heap.size, 2, none⟩ = some (.string c)) := by
    intro X hX
    have hp := hX P (World.rowIs.lt J3.out.1) (fun e => hmP e.symm)
    have hw := hX w.heap.size hl3 hwm
    exact ⟨(World.cell?_of_block (a := ⟨P, 1, none⟩) hp).trans qP, (World.cell?_of_block (a := ⟨w.heap.size, 0, none⟩) hw).trans q0, (World.cell?_of_block (a := ⟨w.heap.size, 1, none⟩) hw).trans q1, (World.cell?_of_block (a := ⟨w.heap.size, 2, none⟩) hw).trans q2⟩
  have HM : Hid (mb ≠ P) := hmP
  clear hb2 r2 h2 r3 hPw hmP hwm hl3 R1 k0 q0 q1 q2 qP
  go_wp2_with fail
  rw [← e3]
  clear e3 p0 z0 j1
  go_region_held3 (fun X => X.cell? ⟨P, 1, none⟩ = some (.map (some mb)) ∧ X.cell? ⟨w.heap.size, 0, none⟩ = some (.int .i64 (m : Int)) ∧ X.cell? ⟨w.heap.size, 1, none⟩ = some (.int .i64 b) ∧ X.cell? ⟨w.heap.size, 2, none⟩ = some (.string c)) (first | exact HS.out _ (fun _ _ _ => rfl) | exact HS.out _ K6.out | exact HS.out _ K4.out) (first
    | (go_at_call 57; refine (own_any (m : Int) b c _ (by have := HZ.out; omega)).mono ?_; rintro e4 w4 ⟨rfl, hb⟩; have B4 : Hid (Below w3.heap.size w3 w4) := below_same hb rfl rfl rfl rfl; obtain ⟨w6, hup, hM6, hT6⟩ := MM.put (J3.out.2.1.of_block (w' := w4) (B4.out.block _ J3.out.2.1.lt)) hm HZ.out.2.1 (m : Int) b c; have K4 : Hid (∀ k, k < w3.heap.size → k ≠ mb → w4.heap[k]? = w3.heap[k]?) := fun k hk _ => B4.out.block k hk; have F6 : Hid (MM w6 mb (putT j.T m c) ∧ w4.mapTurned w6 mb) := ⟨hM6, hT6⟩; have K6 : Hid (∀ k, k < w3.heap.size → k ≠ mb → w6.heap[k]? = w3.heap[k]?) := fun k hk hne => (g_of_turned F6.out.2 (Nat.lt_of_lt_of_le hk B4.out.size) hne).trans (K4.out k hk hne); clear hb hM6 hT6))
  go_wp2
  go_ret2
  refine ⟨rfl, ⟨mb, rfl, World.rowIs.of_block J3.out.1 (K6.out P (World.rowIs.lt J3.out.1) (fun e => HM.out e.symm)), F6.out.1, HJ.out.1.low, fun _ => ?_⟩, ?_, ⟨?_, fun k hk hn => ?_⟩, fun k hk => .inl hk⟩
  · show cN (putT j.T m c) 60 ≠ 0
    rw [cN_put HZ.out.2.1, decide_eq_true hm]
    simp
  · exact (J3.out.2.2.2.1.trans (B4.out.mono (Nat.le_trans HJ.out.2.2 J3.out.2.2.1))).trans (turned_below F6.out.2 HJ.out.1.low.2)
  · exact Nat.le_trans J3.out.2.2.1 (Nat.le_trans B4.out.size F6.out.2.grown.size)
  · simp only [List.mem_cons, List.not_mem_nil, or_false, not_or] at hn
    exact (K6.out k (Nat.lt_of_lt_of_le hk J3.out.2.2.1) hn.2).trans (J3.out.2.2.2.2 k hk hn.1)
theorem takeP_any (base P : Nat) (j : J) (fp : List Nat) (p : Pc) (w : World) (h : JS w base P j fp) (hi : JInv j) (hbw : base ≤ w.heap.size) : Calls Tryd.prog 48 #[.pointer (some ⟨P, 0, none⟩), .agg #[.int .i64 p.1, .int .i64 p.2.1, .string p.2.2]] w fun x w' => ∃ fp', x = .returned (.tuple #[.bool (takeN j p), errF (takeC j p)]) ∧ JS w' base P (takeJ j p) fp' ∧ Below base w w' ∧ KpL w w' fp ∧ NewL w fp fp' := by
  obtain ⟨mb, rfl, h⟩ := h
  by_cases hz : takeC j p = 0
  · obtain ⟨a, b, c⟩ := p
    have hp := pcBad_no (take_zero hz).1
    simp only at hp
    obtain ⟨m, rfl⟩ : ∃ m : Nat, a = (m : Int) := ⟨a.toNat, by omega⟩
    cases hs : j.T m with
    | none =>
      obtain ⟨e1, e2⟩ := take_fresh hz hs
      refine (take_new m b c h hi hbw (by omega) hz hs).mono ?_
      rintro x w' ⟨rfl, h1, h2, h3, h4⟩
      rw [e1, e2, hz]
      exact ⟨_, rfl, h1, h2, h3, h4⟩
    | some t =>
      obtain ⟨e1, e2⟩ := take_same hi hz (by show (j.T m).isSome = true; rw [hs]; rfl)
      refine (take_old m b c h hi (by omega) hz (by rw [hs]; rfl)).mono ?_
      rintro x w' ⟨rfl, hb⟩
      rw [e1, e2, hz]
      exact ⟨_, rfl, stay h hbw hb⟩
  · have e1 : takeJ j p = j := if_neg hz
    have e2 : takeN j p = false := by unfold takeN; rw [decide_eq_false hz]; rfl
    refine (take_no p h hi hbw hz).mono ?_
    rintro x w' ⟨rfl, hb⟩
    rw [e1, e2]
    exact ⟨_, rfl, stay h hbw hb⟩
end Go.Proofs.YtolnfipdhkbkjajDoor.Pie
