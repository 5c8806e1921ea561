/-
  Contracts of package net: Twice, Give, Cut.
-/
import Derived.Test.YtmlafflmgagkjadDoorNetI
namespace Go.Proofs.YtmlafflmgagkjadDoor.Nw
open Go.RowKit Go.Maps
open Go.Proofs.YtmlafflmgagkjadDoor.Net
open Go.Proofs.YtmlafflmgagkjadDoor.Fif (own_lt own_block own_form own_mono Kp ret_bool row_grown)
set_option linter.unusedVariables false
variable {base P mb : Nat} {no : Int → Int → Bool} {l : List Pk} {v : Value}

set_option maxRecDepth 100000 in
theorem twice_any (i : Int) (w : World) (g : NF w base P mb no l v) (hi : NInv l) (hbw : base ≤ w.heap.size) :
    Calls Tryd.prog 23 #[.pointer (some ⟨P, 0, none⟩), .int .i64 i] w fun x w' => ∃ v', x = .returned (errF (twC l i)) ∧ Res w w' base P mb no l v no (twL l i) v' := by
  have HG : Hid (NF w base P mb no l v ∧ base ≤ w.heap.size ∧ NInv l) := ⟨g, hbw, hi⟩
  clear g hbw hi
  cases hi : isIn l i
  · have e1 : twC l i = 1 := if_neg (by rw [hi]; decide)
    have e2 : twL l i = l := if_neg (by rw [hi]; decide)
    rw [e1, e2, errF_no (by decide)]
    clear e1 e2
    go_enter Tryd.func23, Tryd.ntmps23
    go_wp2_with fail
    refine (has_any i w HG.out.1).mono ?_
    rintro e w1 ⟨rfl, rfl⟩
    rw [hi]
    go_wp2
    go_ret
    exact ⟨v, rfl, Res.still HG.out.1 HG.out.2.1 (Below.refl _ _)⟩
  · obtain ⟨k, rfl, hk⟩ := isIn_yes hi
    have e0 := send_old HG.out.2.2 hk
    have e1 : twC l (k : Int) = sendC l (pk l k) := by unfold twC; rw [if_pos hi, Int.toNat_natCast]
    have e2 : twL l (k : Int) = sendL l (pk l k) := by unfold twL; rw [if_pos hi, Int.toNat_natCast]
    rw [e1, e2]
    obtain ⟨c0, z0⟩ := HG.out.1.list
    obtain ⟨q, cap, rfl, hlc, hcm, hform⟩ := HG.out.1.own.form
    obtain ⟨g0, rfl, _, hg0, hcs⟩ := hform (by omega)
    obtain ⟨x0, x1, x2⟩ := c3_of hcs hk
    obtain ⟨p, ep⟩ : ∃ p, p = pk l k := ⟨_, rfl⟩
    rw [← ep] at x0 x1 x2 e0 ⊢
    obtain ⟨a, b, c⟩ := p
    simp only at x0 x1 x2
    have hk0 : (0 : Int) ≤ (k : Int) := by omega
    have hkn : (k : Int) < (l.length : Int) := by omega
    clear e1 e2 hcs hform hcm hg0 ep
    by_cases hf : 40 ≤ l.length
    · rw [if_pos hf] at e0
      rw [sendL_no (by rw [e0]; decide), e0]
      clear e0
      go_enter Tryd.func23, Tryd.ntmps23
      go_wp2_with fail
      refine (has_any (k : Int) w HG.out.1).mono ?_
      rintro e w1 ⟨rfl, rfl⟩
      rw [hi]
      go_wp2_with fail
      refine (add_full a b c _ HG.out.1 hf).mono ?_
      rintro e w1 ⟨rfl, hb⟩
      rw [errF_no (by decide)]
      have B1 : Hid (Below _ _ w1) := hb
      clear hb
      go_wp2
      go_ret
      exact ⟨_, rfl, Res.still HG.out.1 HG.out.2.1 B1.out⟩
    · rw [if_neg hf] at e0
      rw [sendL_ok e0, e0]
      clear e0
      go_enter Tryd.func23, Tryd.ntmps23
      go_wp2_with fail
      refine (has_any (k : Int) w HG.out.1).mono ?_
      rintro e w1 ⟨rfl, rfl⟩
      rw [hi]
      go_wp2_with fail
      refine (add_ok a b c _ HG.out.1 HG.out.2.1 (by omega)).mono ?_
      rintro e w1 ⟨rfl, v', hr⟩
      have R : Hid _ := hr
      clear hr
      rw [errF_ok]
      go_wp2
      go_ret
      exact ⟨v', rfl, R.out⟩
theorem ret3 {fn : Func} {tmps : Array Value} {w : World} {p u : Tmp} {B : Nat} {v0 v1 v2 x : Value} (h : fn.results = #[.cell p 54, .tmp u]) (hp : tmps.getD p undef = .pointer (some ⟨B, 0, none⟩)) (hu : tmps.getD u undef = x)
    (y0 : w.cell? ⟨B, 0, none⟩ = some v0) (y1 : w.cell? ⟨B, 1, none⟩ = some v1) (y2 : w.cell? ⟨B, 2, none⟩ = some v2) : (results fn tmps).run Tryd.prog w = .ok (.tuple #[.agg #[v0, v1, v2], x]) w := by
  rw [results_cell_tmp h, hp, hu]
  simp [asAddr, go_sem, y0, y1, y2]
theorem set3 {B : Nat} {a w : World} (h : Below B a w) {b : Nat} (hb : B ≤ b) (v0 v1 v2 : Value) : Below B a (((w.setCell ⟨b, 0, none⟩ v0).setCell ⟨b, 1, none⟩ v1).setCell ⟨b, 2, none⟩ v2) := ((h.setCell (p := ⟨b, 0, none⟩) hb _).setCell (p := ⟨b, 1, none⟩) hb _).setCell (p := ⟨b, 2, none⟩) hb _
theorem give_out (i : Int) (w : World) (g : NF w base P mb no l v) (h : isIn l i = false) :
    Calls Tryd.prog 21 #[.pointer (some ⟨P, 0, none⟩), .int .i64 i] w fun x w' => x = .returned (.tuple #[.agg #[.int .i64 0, .int .i64 0, .int .i64 0], errF 1]) ∧ Below w.heap.size w w' := by
  rw [errF_no (by decide)]
  have HG : Hid (NF (w.alloc (.cells #[.int .i64 0, .int .i64 0, .int .i64 0] 54)) base P mb no l v) := g.later ((Below.refl _ _).alloc (Nat.le_refl _) _)
  clear g
  go_enter Tryd.func21, Tryd.ntmps21
  go_wp2_with fail
  refine (has_any i _ HG.out).mono ?_
  rintro e w1 ⟨rfl, rfl⟩
  rw [h]
  go_wp2
  refine bodyPost_ret (v := .tuple #[.agg #[.int .i64 0, .int .i64 0, .int .i64 0], .iface 76 (.int .i64 1)]) (ret3 (B := w.heap.size) rfl rfl rfl (by go_cell) (by go_cell) (by go_cell)) rfl ?_
  exact ⟨rfl, (Below.refl _ _).alloc (Nat.le_refl _) _⟩
set_option maxRecDepth 100000 in
set_option maxHeartbeats 1000000 in
theorem give_in (k : Nat) (w : World) (hk : k < l.length) (g : NF w base P mb no l v) (hbw : base ≤ w.heap.size) (hi : NInv l) (is : Bool) (his : no (pk l k).1 (pk l k).2.1 = is) :
    Calls Tryd.prog 21 #[.pointer (some ⟨P, 0, none⟩), .int .i64 (k : Int)] w fun x w' => (is = true ∧ x = .returned (.tuple #[.agg #[.int .i64 0, .int .i64 0, .int .i64 0], errF 6]) ∧ Below w.heap.size w w') ∨ (is = false ∧ ∃ v', x = .returned (.tuple #[.agg #[.int .i64 (pk l k).1, .int .i64 (pk l k).2.1, .int .i64 (pk l k).2.2], errF 0]) ∧ Res w w' base P mb no l v no (l.eraseIdx k) v') := by
  rw [errF_no (c := 6) (by decide), errF_ok]
  have hkI := isIn_of hk
  have hok := hi.ok _ (List.getElem_mem hk)
  rw [← pk_get hk] at hok
  obtain ⟨c0, z0⟩ := g.list
  obtain ⟨q, cap, rfl, hlc, hcm, hform⟩ := g.own.form
  obtain ⟨g0, rfl, _, hg0, hcs⟩ := hform (by omega)
  obtain ⟨x0, x1, x2⟩ := c3_of hcs hk
  have HG : Hid (NF w base P mb no l (.slice (some ⟨g0, 0, none⟩) l.length cap) ∧ base ≤ w.heap.size ∧ k < l.length ∧ l.length ≤ 40) := ⟨g, hbw, hk, hi.len⟩
  obtain ⟨p, ep⟩ : ∃ p, p = pk l k := ⟨_, rfl⟩
  rw [← ep] at x0 x1 x2 hok his ⊢
  obtain ⟨a, b, c⟩ := p
  obtain ⟨⟨ha, ha'⟩, ⟨hb, hb'⟩, _, _⟩ := pkBad_no hok.1
  have hne := hok.2
  simp only at x0 x1 x2 his ha ha' hb hb' hne ⊢
  have HA : Hid (mem5 a = true ∧ mem5 b = true ∧ a ≠ b ∧ no a b = is) := ⟨mem5_of ha ha', mem5_of hb hb', hne, his⟩
  have hk0 : (0 : Int) ≤ (k : Int) := by omega
  have hkn : (k : Int) < (l.length : Int) := by omega
  have hP := g.lt.1
  obtain ⟨W0, eW0⟩ : ∃ W0, W0 = w.alloc (.cells #[.int .i64 0, .int .i64 0, .int .i64 0] 54) := ⟨_, rfl⟩
  obtain ⟨W, eW⟩ : ∃ W, W = W0.alloc (.cells #[.int .i64 a, .int .i64 b, .int .i64 c] 54) := ⟨_, rfl⟩
  have BW0 : Hid (Below w.heap.size w W0 ∧ W0.heap.size = w.heap.size + 1) := ⟨by rw [eW0]; exact (Below.refl _ _).alloc (Nat.le_refl _) _, by rw [eW0]; simp⟩
  have BW : Hid (Below w.heap.size w W ∧ W.heap.size = w.heap.size + 2) := ⟨by rw [eW]; exact BW0.out.1.alloc BW0.out.1.size _, by rw [eW]; simp [BW0.out.2]⟩
  have RW : Hid (W.rowIs w.heap.size 54 3 (fun _ => .int .i64 0) ∧ W.rowIs (w.heap.size + 1) 54 3 (fun j => if j = 0 then .int .i64 a else if j = 1 then .int .i64 b else .int .i64 c)) := by
    have q1 := World.rowIs_alloc w #[.int .i64 0, .int .i64 0, .int .i64 0] 54 (fun _ => .int .i64 0) (fun i hi => by rcases i with _ | _ | _ | i <;> first | rfl | (exfalso; have : _ < 3 := hi; omega))
    have q2 := World.rowIs_alloc W0 #[.int .i64 a, .int .i64 b, .int .i64 c] 54 (fun j => if j = 0 then .int .i64 a else if j = 1 then .int .i64 b else .int .i64 c) (fun i hi => by rcases i with _ | _ | _ | i <;> first | rfl | (exfalso; have : _ < 3 := hi; omega))
    rw [← eW0] at q1
    rw [← eW, BW0.out.2] at q2
    refine ⟨World.rowIs.of_block q1 ?_, q2⟩
    rw [eW]
    exact Below.heap_alloc _ _ _ (by rw [BW0.out.2]; omega)
  have hkd : (l.length : Int) = (l.length : Int) := rfl
  have y0 : W0.cell? ⟨g0, k * 3, none⟩ = some (.int .i64 a) := (BW0.out.1.cell (p := ⟨g0, k * 3, none⟩) hg0).trans x0
  have y1 : W0.cell? ⟨g0, k * 3 + 1, none⟩ = some (.int .i64 b) := (BW0.out.1.cell (p := ⟨g0, k * 3 + 1, none⟩) hg0).trans x1
  have y2 : W0.cell? ⟨g0, k * 3 + 2, none⟩ = some (.int .i64 c) := (BW0.out.1.cell (p := ⟨g0, k * 3 + 2, none⟩) hg0).trans x2
  have d0 : W0.cell? ⟨P, 0, none⟩ = some (.slice (some ⟨g0, 0, none⟩) l.length cap) := (BW0.out.1.cell (p := ⟨P, 0, none⟩) hP).trans c0
  have s0 : W.cell? ⟨w.heap.size + 1, 0, none⟩ = some (.int .i64 a) := World.rowIs.cell RW.out.2 (i := 0) (by omega)
  have s1 : W.cell? ⟨w.heap.size + 1, 1, none⟩ = some (.int .i64 b) := World.rowIs.cell RW.out.2 (i := 1) (by omega)
  have hS0 : W0.heap.size = w.heap.size + 1 := BW0.out.2
  clear g hbw hi hcs hform hcm hok ep hne his x0 x1 x2 c0 z0 hkd
  go_enter Tryd.func21, Tryd.ntmps21
  go_wp2_with fail
  rw [← eW0]
  clear eW0
  refine (has_any (k : Int) _ (HG.out.1.later BW0.out.1)).mono ?_
  rintro e w1 ⟨rfl, rfl⟩
  rw [hkI]
  go_wp2_with fail
  rw [← eW]
  clear eW y0 y1 y2 d0 hS0
  refine (cut_any a b _ (HG.out.1.later BW.out.1) HA.out.1 HA.out.2.1 HA.out.2.2.1).mono ?_
  rintro e w2 ⟨rfl, hb2⟩
  rw [HA.out.2.2.2]
  have B2 : Hid (Below W.heap.size W w2 ∧ Below w.heap.size w w2 ∧ NF w2 base P mb no l (.slice (some ⟨g0, 0, none⟩) l.length cap)) := ⟨hb2, BW.out.1.trans (hb2.mono BW.out.1.size), HG.out.1.later (BW.out.1.trans (hb2.mono BW.out.1.size))⟩
  have R2 : Hid (w2.rowIs w.heap.size 54 3 (fun _ => .int .i64 0) ∧ w2.rowIs (w.heap.size + 1) 54 3 (fun j => if j = 0 then .int .i64 a else if j = 1 then .int .i64 b else .int .i64 c)) := ⟨World.rowIs.of_block RW.out.1 (hb2.block _ (by have := BW.out.2; omega)), World.rowIs.of_block RW.out.2 (hb2.block _ (by have := BW.out.2; omega))⟩
  clear hb2 s0 s1
  cases is
  · go_wp2_with fail
    refine (remove_any k w2 B2.out.2.2 HG.out.2.2.1 HG.out.2.2.2 (Nat.le_trans HG.out.2.1 B2.out.2.1.size)).mono ?_
    rintro e w3 ⟨rfl, v', hr⟩
    have hf0 : ∀ d, w.heap.size ≤ d → d ∉ fpOf P mb (.slice (some ⟨g0, 0, none⟩) l.length cap) := fun d hd hm => by have := (HG.out.1.fp d hm).2; omega
    have R3 : Hid (w3.rowIs w.heap.size 54 3 (fun _ => .int .i64 0) ∧ w3.rowIs (w.heap.size + 1) 54 3 (fun j => if j = 0 then .int .i64 a else if j = 1 then .int .i64 b else .int .i64 c)) := ⟨World.rowIs.of_block R2.out.1 (hr.kp.2 _ (World.rowIs.lt R2.out.1) (hf0 _ (Nat.le_refl _))), World.rowIs.of_block R2.out.2 (hr.kp.2 _ (World.rowIs.lt R2.out.2) (hf0 _ (Nat.le_succ _)))⟩
    have RR : Hid (Res w w3 base P mb no l (.slice (some ⟨g0, 0, none⟩) l.length cap) no (l.eraseIdx k) v') := Res.behind B2.out.2.1 HG.out.2.1 hr
    have NV : Hid (∀ d ∈ fpOf P mb v', d ≠ w.heap.size) := fun d hd e => by
      rcases hr.new d hd with q | q
      · have := (HG.out.1.fp d q).2; omega
      · have := World.rowIs.lt R2.out.1; omega
    have s0 := World.rowIs.cell R3.out.2 (i := 0) (by omega)
    have s1 := World.rowIs.cell R3.out.2 (i := 1) (by omega)
    have s2 := World.rowIs.cell R3.out.2 (i := 2) (by omega)
    simp at s0 s1 s2
    have t0 := World.rowIs.cell R3.out.1 (i := 0) (by omega)
    have t1 := World.rowIs.cell R3.out.1 (i := 1) (by omega)
    have t2 := World.rowIs.cell R3.out.1 (i := 2) (by omega)
    have f0 := World.rowIs.frozen R3.out.1 0
    have f1 := World.rowIs.frozen R3.out.1 1
    have f2 := World.rowIs.frozen R3.out.1 2
    clear hr hf0
    go_wp2
    have r3 := ((World.rowIs.set R3.out.1 0 (.int .i64 a)).set 1 (.int .i64 b)).set 2 (.int .i64 c)
    have u0 := r3.cell (i := 0) (by omega)
    have u1 := r3.cell (i := 1) (by omega)
    have u2 := r3.cell (i := 2) (by omega)
    simp at u0 u1 u2
    refine bodyPost_ret (v := .tuple #[.agg #[.int .i64 a, .int .i64 b, .int .i64 c], .nilIface]) (ret3 (B := w.heap.size) rfl rfl rfl u0 u1 u2) rfl ?_
    refine ⟨rfl, v', ?_⟩
    have hr := RR.out
    have o3 : ∀ d, d ≠ w.heap.size → (((w3.setCell ⟨w.heap.size, 0, none⟩ (.int .i64 a)).setCell ⟨w.heap.size, 1, none⟩ (.int .i64 b)).setCell ⟨w.heap.size, 2, none⟩ (.int .i64 c)).heap[d]? = w3.heap[d]? := fun d hd => ((Deep.blk_setCell_other _ _ _ _ hd).trans (Deep.blk_setCell_other _ _ _ _ hd)).trans (Deep.blk_setCell_other _ _ _ _ hd)
    exact ⟨hr.nf.of_blocks fun d hd => o3 d (NV.out d hd), set3 hr.bel HG.out.2.1 _ _ _, ⟨by simpa [World.setCell] using hr.kp.1, fun d hd hn => (o3 d (by omega)).trans (hr.kp.2 d hd hn)⟩, hr.new⟩
  · have t0 := World.rowIs.cell R2.out.1 (i := 0) (by omega)
    have t1 := World.rowIs.cell R2.out.1 (i := 1) (by omega)
    have t2 := World.rowIs.cell R2.out.1 (i := 2) (by omega)
    have f0 := World.rowIs.frozen R2.out.1 0
    have f1 := World.rowIs.frozen R2.out.1 1
    have f2 := World.rowIs.frozen R2.out.1 2
    go_wp2
    have r3 := ((World.rowIs.set R2.out.1 0 (.int .i64 0)).set 1 (.int .i64 0)).set 2 (.int .i64 0)
    have u0 := r3.cell (i := 0) (by omega)
    have u1 := r3.cell (i := 1) (by omega)
    have u2 := r3.cell (i := 2) (by omega)
    simp at u0 u1 u2
    refine bodyPost_ret (v := .tuple #[.agg #[.int .i64 0, .int .i64 0, .int .i64 0], .iface 76 (.int .i64 6)]) (ret3 (B := w.heap.size) rfl rfl rfl u0 u1 u2) rfl ?_
    exact ⟨rfl, set3 B2.out.2.1 (Nat.le_refl _) _ _ _⟩
theorem Res.cutR {w w4 w6 : World} {no' : Int → Int → Bool} (g : NF w base P mb no l v) (hbw : base ≤ w.heap.size) (B4 : Below w.heap.size w w4) (F6 : NF w6 base P mb no' l v) (T6 : w4.mapTurned w6 mb) : Res w w6 base P mb no l v no' l v :=
  ⟨F6, (B4.mono hbw).trans (turned_below T6 g.low.2), ⟨Nat.le_trans B4.size T6.grown.size, fun b hb hn => (g_of_turned T6 (Nat.lt_of_lt_of_le hb B4.size) (fun e => hn (by simp [fpOf, e]))).trans (B4.block b hb)⟩, fun b hb => .inl hb⟩
set_option maxRecDepth 100000 in
theorem cutF (a b : Int) (is : Bool) (w : World) (g : NF w base P mb no l v) (hbw : base ≤ w.heap.size) :
    Calls Tryd.prog 20 #[.pointer (some ⟨P, 0, none⟩), .int .i64 a, .int .i64 b, .bool is] w fun x w' => x = .returned (errF (cutC a b)) ∧ Res w w' base P mb no l v (cutN no a b is) l v := by
  have HG : Hid (NF w base P mb no l v ∧ base ≤ w.heap.size) := ⟨g, hbw⟩
  by_cases hc : cutC a b = 0
  · obtain ⟨ha, hb, hne⟩ := cut_zero hc
    have HA : Hid (mem5 a = true ∧ mem5 b = true ∧ a ≠ b) := ⟨ha, hb, hne⟩
    have HS : Hid (∀ w' : World, (∀ k, k < w.heap.size → k ≠ mb → w'.heap[k]? = w.heap[k]?) → w'.cell? ⟨P, 1, none⟩ = some (.map (some mb))) := fun w' h => (World.cell?_of_block (a := ⟨P, 1, none⟩) (h P HG.out.1.lt.1 HG.out.1.apart)).trans HG.out.1.cut.1
    rw [hc, errF_ok]
    have HC : Hid (cutC a b = 0) := hc
    clear g hbw ha hb hne hc
    cases is
    · go_enter Tryd.func20, Tryd.ntmps20
      go_wp2_with fail
      refine (two_any a b _).mono ?_
      rintro e w1 ⟨rfl, rfl⟩
      rw [HC.out, errF_ok]
      go_wp2_with fail
      go_region_held3 (fun w' => w'.cell? ⟨P, 1, none⟩ = some (.map (some mb))) (first | exact HS.out _ (fun _ _ _ => rfl) | exact HS.out _ K6.out | exact HS.out _ K4.out) (first
        | (go_at_call 42; refine (way_any a b _).mono ?_; rintro e4 w4 ⟨rfl, hb⟩; have B4 : Hid (Below w1.heap.size w1 w4) := below_same hb rfl rfl rfl rfl; obtain ⟨w6, hup, hF6, hT6⟩ := NF.del (HG.out.1.later B4.out) HA.out.1 HA.out.2.1 HA.out.2.2 0; have K4 : Hid (∀ k, k < w1.heap.size → k ≠ mb → w4.heap[k]? = w1.heap[k]?) := fun k hk _ => B4.out.block k hk; have F6 : Hid (NF w6 base P mb (cutN no a b false) l v ∧ w4.mapTurned w6 mb) := ⟨hF6, hT6⟩; have K6 : Hid (∀ k, k < w1.heap.size → k ≠ mb → w6.heap[k]? = w1.heap[k]?) := fun k hk hne => (g_of_turned F6.out.2 (Nat.lt_of_lt_of_le hk B4.out.size) hne).trans (K4.out k hk hne); clear hb hF6 hT6))
      all_goals go_wp2
      all_goals go_ret
      all_goals first | exact ⟨rfl, Res.cutR HG.out.1 HG.out.2 B4.out F6.out.1 F6.out.2⟩ | exact ⟨rfl, (Res.cutR HG.out.1 HG.out.2 B4.out F6.out.1 F6.out.2).ahead HG.out.2 (below_drews (Below.refl _ _) _)⟩
    · go_enter Tryd.func20, Tryd.ntmps20
      go_wp2_with fail
      refine (two_any a b _).mono ?_
      rintro e w1 ⟨rfl, rfl⟩
      rw [HC.out, errF_ok]
      go_wp2_with fail
      go_region_held3 (fun w' => w'.cell? ⟨P, 1, none⟩ = some (.map (some mb))) (first | exact HS.out _ (fun _ _ _ => rfl) | exact HS.out _ K6.out | exact HS.out _ K4.out) (first
        | (go_at_call 42; refine (way_any a b _).mono ?_; rintro e4 w4 ⟨rfl, hb⟩; have B4 : Hid (Below w1.heap.size w1 w4) := below_same hb rfl rfl rfl rfl; obtain ⟨w6, hup, hF6, hT6⟩ := NF.put (HG.out.1.later B4.out) HA.out.1 HA.out.2.1 HA.out.2.2; have K4 : Hid (∀ k, k < w1.heap.size → k ≠ mb → w4.heap[k]? = w1.heap[k]?) := fun k hk _ => B4.out.block k hk; have F6 : Hid (NF w6 base P mb (cutN no a b true) l v ∧ w4.mapTurned w6 mb) := ⟨hF6, hT6⟩; have K6 : Hid (∀ k, k < w1.heap.size → k ≠ mb → w6.heap[k]? = w1.heap[k]?) := fun k hk hne => (g_of_turned F6.out.2 (Nat.lt_of_lt_of_le hk B4.out.size) hne).trans (K4.out k hk hne); clear hb hF6 hT6))
      all_goals go_wp2
      all_goals go_ret
      all_goals first | exact ⟨rfl, Res.cutR HG.out.1 HG.out.2 B4.out F6.out.1 F6.out.2⟩ | exact ⟨rfl, (Res.cutR HG.out.1 HG.out.2 B4.out F6.out.1 F6.out.2).ahead HG.out.2 (below_drews (Below.refl _ _) _)⟩
  · have en : cutN no a b is = no := by
      funext x y
      exact if_neg fun q => hc q.1
    rw [en, errF_no hc]
    have HC : Hid (cutC a b ≠ 0) := hc
    clear g hbw hc en
    go_enter Tryd.func20, Tryd.ntmps20
    go_wp2_with fail
    refine (two_any a b _).mono ?_
    rintro e w1 ⟨rfl, rfl⟩
    rw [errF_no HC.out]
    go_wp2
    go_ret
    exact ⟨rfl, Res.still HG.out.1 HG.out.2 (Below.refl _ _)⟩
end Go.Proofs.YtmlafflmgagkjadDoor.Nw
