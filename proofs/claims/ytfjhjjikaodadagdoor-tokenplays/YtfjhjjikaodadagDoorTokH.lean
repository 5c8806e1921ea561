/-
  Contracts of package token's placeFirst and Pass.
-/
import Derived.Test.YtfjhjjikaodadagDoorTokG
namespace Go.Proofs.YtfjhjjikaodadagDoor.Tok
open Go.RowKit Go.Maps
open Go.Proofs.YtfjhjjikaodadagDoor.Fif (own_lt own_block own_form own_mono own_vw ret_bool info_int lenOf new_int int_one)
open Go.Proofs.YtfjhjjikaodadagDoor.MapV (MM putT delT wfI turned_below g_of_turned)
open Go.Proofs.YtfjhjjikaodadagDoor.Sep (KpL NewL)
set_option linter.unusedVariables false
variable {w w' : World} {base P mS : Nat} {mb nx : Nat → Nat} {S : Int → Option Value} {c : Nat} {k : K}

def svP (a b : Int) (j : Nat) : Value := if j = 0 then .int .i64 a else .int .i64 b
theorem svP_new (w : World) (a b : Int) : (w.alloc (.cells #[.int .i64 a, .int .i64 b] 37)).rowIs w.heap.size 37 2 (svP a b) :=
  World.rowIs_alloc w #[.int .i64 a, .int .i64 b] 37 (svP a b) (fun i hi => by rcases i with _ | _ | i <;> first | rfl | (exfalso; have : _ < 2 := hi; omega))
theorem blk_same {w w' : World} {b : Nat} {p : Addr} {v : Value} (h : w'.heap = w.heap) : (w'.setCell p v).heap[b]? = (w.setCell p v).heap[b]? := by
  simp only [World.setCell, h]
theorem results_cellP {fn : Func} {p : Tmp} {ty : TypeId} (h : fn.results = #[.cell p ty]) (tmps : Array Value) (P : Program) (w : World) :
    (results fn tmps).run P w = ((asAddr (tmps.getD p undef)).run P w).andThen fun a w₁ => (loadVar ty a).run P w₁ := by
  simp only [results, h]
  simp [Sem.run_bind]
theorem retP {fn : Func} {tmps : Array Value} {w : World} {p : Tmp} {B : Nat} {v0 v1 : Value} (h : fn.results = #[.cell p 37]) (hp : tmps.getD p undef = .pointer (some ⟨B, 0, none⟩))
    (y0 : w.cell? ⟨B, 0, none⟩ = some v0) (y1 : w.cell? ⟨B, 1, none⟩ = some v1) : (results fn tmps).run Tryd.prog w = .ok (.agg #[v0, v1]) w := by
  rw [results_cellP h, hp]
  simp [asAddr, go_sem, y0, y1]
set_option maxRecDepth 100000 in
set_option maxHeartbeats 1000000 in
theorem firstT (h : MF w base P mS mb nx S c k) (hbw : base ≤ w.heap.size) (hn : k.hold < k.n) (hx : nx k.hold ≤ 1000) (hp : k.pl ≤ 1000) {x : Int} {l : List Int} (hl : k.wt k.hold = x :: l) : Calls Tryd.prog 30 #[.pointer (some ⟨P, 0, none⟩)] w fun e w' => e = .returned (.agg #[.int .i64 (k.pl : Int), .int .i64 x]) ∧ MF w' base P mS mb (up nx k.hold (nx k.hold + 1)) S c (one k) ∧ Below base w w' ∧ KpL w w' (fpT P mS k.n mb) := by
  obtain ⟨W, eW⟩ : ∃ W, W = w.alloc (.cells #[.int .i64 0, .int .i64 0] 37) := ⟨_, rfl⟩
  have BW : Hid (Below w.heap.size w W ∧ W.rowIs w.heap.size 37 2 (svP 0 0) ∧ W.heap.size = w.heap.size + 1) := by rw [eW]; exact ⟨(Below.refl _ _).alloc (Nat.le_refl _) _, svP_new w 0 0, by simp⟩
  have HG : Hid (MF w base P mS mb nx S c k ∧ base ≤ w.heap.size ∧ k.hold < k.n ∧ k.wt k.hold = x :: l) := ⟨h, hbw, hn, hl⟩
  have GW : Hid (MF W base P mS mb nx S c k) := h.later BW.out.1
  have HM : Hid (k.hold < k.n ∧ k.hold < 5) := ⟨hn, Nat.lt_of_lt_of_le hn h.five⟩
  obtain ⟨m, em⟩ : ∃ m, m = k.hold := ⟨_, rfl⟩
  obtain ⟨a, ea⟩ : ∃ a, a = nx m := ⟨_, rfl⟩
  obtain ⟨p, ep⟩ : ∃ p, p = k.pl := ⟨_, rfl⟩
  have EM : Hid (m = k.hold ∧ a = nx m ∧ p = k.pl) := ⟨em, ea, ep⟩
  have c2 := GW.out.c2
  have c3 := GW.out.c3
  have cn := GW.out.cn HM.out.2
  have cw := GW.out.cw HM.out.1
  rw [← em] at c2 cn cw hn hx
  rw [← ea] at cn hx
  rw [← ep] at c3 hp
  have hm0 : (0 : Int) ≤ (m : Int) := by omega
  have hm5' : (m : Int) < 5 := by have := HM.out.2; omega
  have HLK : Hid (∀ X : World, X.heap[mb m]? = W.heap[mb m]? → (Instr.lookup 61 (.map (some (mb m))) (.int .i64 (a : Int)) false).run Tryd.prog X = .ok (.int .i64 x) X) := by
    intro X hX
    have q := (GW.out.wait m (by rw [em]; exact HM.out.1)).look Tryd.underlying61 zeroI (wfI (i := (a : Int)) (by omega) (by omega)) X hX
    rw [← ea, em, HG.out.2.2.2] at q
    have q2 := TW_at (l := x :: l) a (j := 0) (by simp)
    rw [Nat.add_zero] at q2
    rw [q2] at q
    rw [em]
    exact q
  clear h hbw hn hl em ea ep
  go_enter Tryd.func30, Tryd.ntmps30
  go_wp2_with fail
  rw [← eW]
  clear eW
  go_quiet (fail)
  obtain ⟨W1, eW1⟩ : ∃ W1, W1 = W.drewN nq := ⟨_, rfl⟩
  have H1 : Hid (W1.heap = W.heap ∧ Below w.heap.size w W1) := by rw [eW1]; exact ⟨rfl, drewsK BW.out.1 _⟩
  rw [← eW1]
  have G1 : Hid (MF W1 base P mS mb nx S c k) := GW.out.heap H1.out.1
  have b2 : W1.cell? ⟨P, 2, none⟩ = some (.int .i64 (m : Int)) := (World.cell?_of_block (a := ⟨P, 2, none⟩) (by rw [H1.out.1])).trans c2
  have b3 : W1.cell? ⟨P, 3, none⟩ = some (.int .i64 (p : Int)) := (World.cell?_of_block (a := ⟨P, 3, none⟩) (by rw [H1.out.1])).trans c3
  have bw : W1.cell? ⟨P, 5 + m, none⟩ = some (.map (some (mb m))) := (World.cell?_of_block (a := ⟨P, 5 + m, none⟩) (by rw [H1.out.1])).trans cw
  have hMl : mb m < W1.heap.size := (G1.out.wait m (by rw [EM.out.1]; exact HM.out.1)).lt
  have hlk : (Instr.lookup 61 (.map (some (mb m))) (.int .i64 (a : Int)) false).run Tryd.prog W1.drew = .ok (.int .i64 x) W1.drew := HLK.out _ (by show W1.heap[mb m]? = _; rw [H1.out.1])
  have hlk2 : ∀ ob, (Instr.lookup 61 (.map (some (mb m))) (.int .i64 (a : Int)) false).run Tryd.prog (W1.alloc ob).drew = .ok (.int .i64 x) (W1.alloc ob).drew := fun ob => HLK.out _ (by show (W1.alloc ob).heap[mb m]? = _; rw [Below.heap_alloc _ _ _ hMl, H1.out.1])
  have hPl : P < W1.heap.size := G1.out.lt
  clear eW1 c2 c3 cn cw
  go_wp2_with fail
  go_region
  obtain ⟨W2, eW2⟩ : ∃ W2, W2 = (W1.alloc (.cells #[.int .i64 (p : Int), .int .i64 x] 37)).drew := ⟨_, rfl⟩
  rw [← eW2]
  have R0 : Hid (W1.rowIs w.heap.size 37 2 (svP 0 0)) := World.rowIs.of_block BW.out.2.1 (by rw [H1.out.1])
  have H2 : Hid (Below w.heap.size w W2 ∧ MF W2 base P mS mb nx S c k ∧ W2.rowIs w.heap.size 37 2 (svP 0 0) ∧ W2.rowIs W1.heap.size 37 2 (svP (p : Int) x) ∧ w.heap.size < W1.heap.size) := by
    have b1 : Below w.heap.size w W2 := by rw [eW2]; exact (H1.out.2.alloc H1.out.2.size _).drew
    refine ⟨b1, HG.out.1.later b1, ?_, ?_, World.rowIs.lt R0.out⟩
    · rw [eW2]
      exact World.rowIs.of_block R0.out (Below.heap_alloc _ _ _ (World.rowIs.lt R0.out))
    · rw [eW2]
      exact World.rowIs.of_block (svP_new W1 (p : Int) x) rfl
  obtain ⟨B, eB⟩ : ∃ B, B = W1.heap.size := ⟨_, rfl⟩
  rw [← eB] at H2 ⊢
  clear eW2 b2 b3 bw hlk hlk2 hMl hPl R0 eB
  have G2 : Hid (MF W2.drew base P mS mb nx S c k) := H2.out.2.1.heap rfl
  have f2 : W2.cell? ⟨P, 2, none⟩ = some (.int .i64 (m : Int)) := by rw [EM.out.1]; exact H2.out.2.1.c2
  have fw : W2.cell? ⟨P, 5 + m, none⟩ = some (.map (some (mb m))) := by rw [EM.out.1]; exact H2.out.2.1.cw HM.out.1
  obtain ⟨W3, e3, m3, t3⟩ := (G2.out.wait m (by rw [EM.out.1]; exact HM.out.1)).del Tryd.underlying61 (i := (a : Int)) (wfI (by omega) (by omega)) 0
  have H3 : Hid (MM W3 (mb m) (delT (TW (k.wt m) (nx m)) (a : Int)) (if (TW (k.wt m) (nx m) (a : Int)).isSome = true then (k.wt m).length - 1 else (k.wt m).length) ∧ W2.drew.mapTurned W3 (mb m)) := ⟨m3, t3⟩
  clear m3 t3
  go_wp2_with fail
  go_region
  have hmn : m < k.n := by rw [EM.out.1]; exact HM.out.1
  have hb3 : ∀ b, b < W2.heap.size → b ≠ mb m → W3.heap[b]? = W2.heap[b]? := fun b h1 h2 => (g_of_turned (w := W2.drew) H3.out.2 h1 h2)
  have HB3 : Hid (∀ b, b < W2.heap.size → b ≠ mb m → W3.heap[b]? = W2.heap[b]?) := hb3
  have HPm : Hid (P ≠ mb m ∧ w.heap.size ≠ mb m ∧ B ≠ mb m ∧ P < w.heap.size ∧ mb m < w.heap.size) := ⟨(H2.out.2.1.wait m hmn).row H2.out.2.1.row, (H2.out.2.1.wait m hmn).row H2.out.2.2.1, (H2.out.2.1.wait m hmn).row H2.out.2.2.2.1, HG.out.1.lt, (HG.out.1.wait m hmn).lt⟩
  have R3 : Hid (W3.rowIs P 72 15 (av k nx mS mb) ∧ W3.rowIs w.heap.size 37 2 (svP 0 0) ∧ W3.rowIs B 37 2 (svP (p : Int) x)) := ⟨World.rowIs.of_block H2.out.2.1.row (hb3 P H2.out.2.1.lt HPm.out.1), World.rowIs.of_block H2.out.2.2.1 (hb3 _ (World.rowIs.lt H2.out.2.2.1) HPm.out.2.1), World.rowIs.of_block H2.out.2.2.2.1 (hb3 _ (World.rowIs.lt H2.out.2.2.2.1) HPm.out.2.2.1)⟩
  have g2 : W3.cell? ⟨P, 2, none⟩ = some (.int .i64 (m : Int)) := by rw [EM.out.1]; exact World.rowIs.cell R3.out.1 (i := 2) (by omega)
  have gn : W3.cell? ⟨P, 10 + m, none⟩ = some (.int .i64 (a : Int)) := by
    have h5 := HM.out.2
    rw [← EM.out.1] at h5
    rw [World.rowIs.cell R3.out.1 (i := 10 + m) (by omega)]
    unfold av
    rw [if_neg (by omega), if_neg (by omega), if_neg (by omega), show 10 + m - 10 = m by omega, ← EM.out.2.1]
  have zn := World.rowIs.frozen R3.out.1 (10 + m)
  have hPl : P < W3.heap.size := World.rowIs.lt R3.out.1
  clear hb3 hmn f2 fw e3
  go_wp2_with fail
  go_region
  obtain ⟨W4, eW4⟩ : ∃ W4, W4 = (W3.setCell ⟨P, 10 + m, none⟩ (.int .i64 ((a : Int) + 1))).drew := ⟨_, rfl⟩
  rw [← eW4]
  have H4 : Hid (W4.heap = (W3.setCell ⟨P, 10 + m, none⟩ (.int .i64 ((a : Int) + 1))).heap ∧ Below base W3 W4) := by rw [eW4]; exact ⟨rfl, ((Below.refl _ _).setCell (p := ⟨P, 10 + m, none⟩) HG.out.1.low.1 _).drew⟩
  have h30 : W4.cell? ⟨P, 3, none⟩ = some (.int .i64 (p : Int)) := by
    have q := World.rowIs.cell ((World.rowIs.set R3.out.1 (10 + m) (.int .i64 ((a : Int) + 1)))) (i := 3) (by omega)
    rw [if_neg (by omega)] at q
    have q2 : W4.cell? ⟨P, 3, none⟩ = (W3.setCell ⟨P, 10 + m, none⟩ (.int .i64 ((a : Int) + 1))).cell? ⟨P, 3, none⟩ := World.cell?_of_block (a := ⟨P, 3, none⟩) (by rw [H4.out.1])
    rw [q2, q, EM.out.2.2]
    rfl
  have R4 : Hid (W4.rowIs w.heap.size 37 2 (svP 0 0) ∧ W4.rowIs B 37 2 (svP (p : Int) x)) := by
    have hne : ∀ b, b ≠ P → W4.heap[b]? = W3.heap[b]? := fun b hb => by rw [H4.out.1]; exact Deep.blk_setCell_other _ _ _ _ hb
    exact ⟨World.rowIs.of_block R3.out.2.1 (hne _ (by have := HPm.out.2.2.2.1; omega)), World.rowIs.of_block R3.out.2.2 (hne _ (by have := HPm.out.2.2.2.1; have := H2.out.2.2.2.2; omega))⟩
  have z3 : W4.frozen? ⟨P, 3, none⟩ = false := by
    have q := World.rowIs.frozen (World.rowIs.of_block (World.rowIs.set R3.out.1 (10 + m) (.int .i64 ((a : Int) + 1))) (w' := W4) (by rw [H4.out.1])) 3
    exact q
  have u0 : W4.cell? ⟨B, 0, none⟩ = some (.int .i64 (p : Int)) := World.rowIs.cell R4.out.2 (i := 0) (by omega)
  have u1 : W4.cell? ⟨B, 1, none⟩ = some (.int .i64 x) := World.rowIs.cell R4.out.2 (i := 1) (by omega)
  have v0 : W4.cell? ⟨w.heap.size, 0, none⟩ = some (.int .i64 0) := World.rowIs.cell R4.out.1 (i := 0) (by omega)
  have v1 : W4.cell? ⟨w.heap.size, 1, none⟩ = some (.int .i64 0) := World.rowIs.cell R4.out.1 (i := 1) (by omega)
  have y0 := World.rowIs.frozen R4.out.1 0
  have y1 := World.rowIs.frozen R4.out.1 1
  have n1 : P ≠ w.heap.size := by have := HPm.out.2.2.2.1; omega
  have n2 : P ≠ B := by have := HPm.out.2.2.2.1; have := H2.out.2.2.2.2; omega
  have n3 : B ≠ w.heap.size := by have := H2.out.2.2.2.2; omega
  clear eW4 g2 gn zn hPl
  go_wp2
  have r5 := ((World.rowIs.setOther R4.out.1 (a := ⟨P, 3, none⟩) n1.symm (.int .i64 ((p : Int) + 1))).set 0 (.int .i64 (p : Int))).set 1 (.int .i64 x)
  have t0 := r5.cell (i := 0) (by omega)
  have t1 := r5.cell (i := 1) (by omega)
  simp at t0 t1
  refine bodyPost_ret (v := .agg #[.int .i64 (p : Int), .int .i64 x]) (retP (B := w.heap.size) rfl rfl t0 t1) rfl ?_
  have F : MF (W4.setCell ⟨P, 3, none⟩ (.int .i64 ((p : Int) + 1))) base P mS mb (up nx k.hold (nx k.hold + 1)) S c (one k) := by
    have e1 := EM.out
    have hmm : MM W3 (mb k.hold) (delT (TW (x :: l) (nx k.hold)) (nx k.hold : Int)) l.length := by
      have q := H3.out.1
      rw [e1.2.1, e1.1, HG.out.2.2.2] at q
      have q2 := TW_at (l := x :: l) (nx k.hold) (j := 0) (by simp)
      rw [Nat.add_zero] at q2
      rw [q2] at q
      exact q
    have tt := H3.out.2
    rw [e1.1] at tt
    have z := MF.one G2.out HM.out.1 HG.out.2.2.2 hmm tt
    rw [e1.2.2]
    refine z.of_blocks fun b hb => ?_
    by_cases e : b = P
    · subst e
      exact blk_same (by rw [H4.out.1, e1.2.1, e1.1])
    · rw [Deep.blk_setCell_other _ _ _ _ e, Deep.blk_setCell_other _ _ _ _ e, H4.out.1, Deep.blk_setCell_other _ _ _ _ e, Deep.blk_setCell_other _ _ _ _ e]
  have b4 : Below base w W4 := (((H2.out.1.drew).mono HG.out.2.1).trans (turned_below H3.out.2 (by have q := HG.out.1.low.2.2 k.hold HM.out.1; rw [EM.out.1]; exact q))).trans H4.out.2
  have k4 : KpL w W4 (fpT P mS k.n mb) := by
    have k2 : KpL w W2.drew (fpT P mS k.n mb) := KpL.below H2.out.1.drew _
    have k3 : KpL W2.drew W3 (fpT P mS k.n mb) := kp_turned H3.out.2 (by rw [EM.out.1]; exact W_fp HM.out.1)
    exact kp_trans (kp_trans k2 k3) (kp_heap (kp_set W3 (10 + m) _ P_fp) H4.out.1)
  refine ⟨by rw [EM.out.2.2], F.of_blocks fun b hb => ?_, ((b4.setCell (p := ⟨P, 3, none⟩) HG.out.1.low.1 _).setCell (p := ⟨w.heap.size, 0, none⟩) HG.out.2.1 _).setCell (p := ⟨w.heap.size, 1, none⟩) HG.out.2.1 _, ?_⟩
  · have hne : b ≠ w.heap.size := by
      have := (HG.out.1.fp b hb).2
      omega
    rw [Deep.blk_setCell_other _ _ _ _ hne, Deep.blk_setCell_other _ _ _ _ hne]
  · have k5 := kp_trans k4 (kp_set W4 3 (.int .i64 ((p : Int) + 1)) P_fp)
    refine ⟨by simpa [World.setCell] using k5.1, fun b hb hn => ?_⟩
    rw [Deep.blk_setCell_other _ _ _ _ (show b ≠ w.heap.size by omega), Deep.blk_setCell_other _ _ _ _ (show b ≠ w.heap.size by omega)]
    exact k5.2 b hb hn
end Go.Proofs.YtfjhjjikaodadagDoor.Tok
