/-
  Contract of package flush's Change.
-/
import Derived.Test.YtgdmbnfdcbekaaiDoorFluT
namespace Go.Proofs.YtgdmbnfdcbekaaiDoor.Flu
open Go.RowKit Go.Maps
open Go.Proofs.YtgdmbnfdcbekaaiDoor.Fif (own_lt own_block own_form own_mono own_vw ret_bool info_int new_int int_one)
open Go.Proofs.YtgdmbnfdcbekaaiDoor.Vec (Vw)
open Go.Proofs.YtgdmbnfdcbekaaiDoor.Sep (KpL NewL)
open Go.Proofs.YtgdmbnfdcbekaaiDoor.Ldr (errF errF_ok errF_no Sl)
open Go.Proofs.YtgdmbnfdcbekaaiDoor.Viw (Vi viewC nextC nextV shared next_is next_view view_ok has_ok has_le nextVw next_no ret2V two_other sl_two)
set_option linter.unusedVariables false
variable {w wr w' : World} {base P mS mH bH oH cH : Nat} {rv rvc : Nat → Value} {f : F}

/-- a view in a variable of the call, as it is made -/
theorem view_row (w : World) (n : Int) (u : Value) : (w.alloc (.cells #[.int .i64 n, u] 30)).rowIs w.heap.size 30 2 (fun j => if j = 0 then .int .i64 n else u) := World.rowIs_alloc w #[.int .i64 n, u] 30 _ (fun i hi => by rcases i with _ | _ | i <;> first | rfl | (exfalso; have : _ < 2 := hi; omega))
theorem row_set2 {B : Nat} {x0 x1 : Value} (h : w.rowIs B 30 2 (fun j => if j = 0 then x0 else x1)) (y0 y1 : Value) : ((w.setCell ⟨B, 0, none⟩ y0).setCell ⟨B, 1, none⟩ y1).cell? ⟨B, 0, none⟩ = some y0 ∧ ((w.setCell ⟨B, 0, none⟩ y0).setCell ⟨B, 1, none⟩ y1).cell? ⟨B, 1, none⟩ = some y1 := by
  have r := (World.rowIs.set h 0 y0).set 1 y1
  have u0 := r.cell (i := 0) (by omega)
  have u1 := r.cell (i := 1) (by omega)
  simp at u0 u1
  exact ⟨u0, u1⟩
set_option maxRecDepth 100000 in
set_option maxHeartbeats 1000000 in
theorem change_fault (h : GF w base P mS mH bH oH cH rv f) (hi : Inv f) (has : List Int) (q : Option Addr) (k c : Nat) (hh : Sl w (.slice q k c) has) (hc : chC f has ≠ 0) : Calls Tryd.prog 8 #[.pointer (some ⟨P, 0, none⟩), .slice q k c] w fun x w' => x = .returned (.tuple #[.agg #[.int .i64 0, .slice none 0 0], errF (chC f has)]) ∧ Below w.heap.size w w' := by
  obtain ⟨B, eB⟩ : ∃ B, B = w.heap.size := ⟨_, rfl⟩
  obtain ⟨W1, eW1⟩ : ∃ W1, W1 = w.alloc (.cells #[.int .i64 0, .slice none 0 0] 30) := ⟨_, rfl⟩
  have b1 : Below w.heap.size w W1 := by rw [eW1]; exact (Below.refl _ _).alloc (Nat.le_refl _) _
  have h1 := h.later b1
  have R1 : Hid (W1.rowIs B 30 2 (fun j => if j = 0 then .int .i64 0 else .slice none 0 0)) := by
    show World.rowIs _ _ _ _ _
    rw [eW1, eB]
    exact view_row w 0 (.slice none 0 0)
  have c0 := h1.c0
  have c1 := h1.c1
  obtain ⟨l0, el0⟩ : ∃ l0, l0 = f.v.has.length := ⟨_, rfl⟩
  obtain ⟨n0, en0⟩ : ∃ n0, n0 = f.v.n := ⟨_, rfl⟩
  have HG : Hid (GF W1 base P mS mH bH oH cH rv f ∧ Sl W1 (.slice (some ⟨bH, oH, none⟩) l0 cH) f.v.has ∧ Sl W1 (.slice q k c) has ∧ Below w.heap.size w W1 ∧ errF (chC f has) = .iface 52 (.int .i64 (chC f has)) ∧ nextV f.v has = ⟨0, []⟩ ∧ l0 = f.v.has.length ∧ n0 = f.v.n ∧ B = w.heap.size) := ⟨h1, by rw [el0]; exact h1.has, hh.later b1, b1, errF_no hc, next_no hc, el0, en0, eB⟩
  rw [← el0] at c1
  rw [← en0] at c0
  rw [HG.out.2.2.2.2.1]
  have hPl := h1.lt
  clear h hi hh hc b1 h1 el0 en0
  go_enter Tryd.func8, Tryd.ntmps8
  go_upto_region 1 with fail
  rw [← eW1, ← eB]
  clear eW1 eB
  go_wp2_with fail
  have en := HG.out.2.2.2.2.2.2.2.1
  subst en
  refine (nextVw f.v has (.slice (some ⟨bH, oH, none⟩) l0 cH) (.slice q k c) _ HG.out.2.1 HG.out.2.2.1).mono ?_
  rintro e W2 ⟨q2, c2, rfl, -, -, hb2⟩
  have ec : nextC f.v has = chC f has := rfl
  rw [HG.out.2.2.2.2.2.1, ec, HG.out.2.2.2.2.1]
  have R2 : Hid (W2.rowIs B 30 2 (fun j => if j = 0 then .int .i64 0 else .slice none 0 0) ∧ Below w.heap.size w W2 ∧ B < W2.heap.size) := ⟨World.rowIs.of_block R1.out (hb2.block B (World.rowIs.lt R1.out)), HG.out.2.2.2.1.trans (hb2.mono HG.out.2.2.2.1.size), Nat.lt_of_lt_of_le (World.rowIs.lt R1.out) hb2.size⟩
  clear hb2 ec c0 c1
  obtain ⟨W3, eW3⟩ : ∃ W3, W3 = W2.alloc (.cells #[.int .i64 0, .slice q2 0 c2] 30) := ⟨_, rfl⟩
  have b3 : Below W2.heap.size W2 W3 := by rw [eW3]; exact (Below.refl _ _).alloc (Nat.le_refl _) _
  have R3 : Hid (W3.rowIs B 30 2 (fun j => if j = 0 then .int .i64 0 else .slice none 0 0) ∧ Below w.heap.size w W3) := ⟨World.rowIs.of_block R2.out.1 (b3.block B R2.out.2.2), R2.out.2.1.trans (b3.mono R2.out.2.1.size)⟩
  clear b3
  go_upto_region 2 with fail
  try simp only [List.length_nil]
  rw [← eW3]
  clear eW3
  have t0 := World.rowIs.cell R3.out.1 (i := 0) (by omega)
  have t1 := World.rowIs.cell R3.out.1 (i := 1) (by omega)
  have f0 := World.rowIs.frozen R3.out.1 0
  have f1 := World.rowIs.frozen R3.out.1 1
  simp only [Nat.one_ne_zero, if_true, if_false] at t0 t1
  go_wp2
  obtain ⟨u0, u1⟩ := row_set2 R3.out.1 (.int .i64 0) (.slice none 0 0)
  refine bodyPost_ret (v := .tuple #[.agg #[.int .i64 0, .slice none 0 0], .iface 52 (.int .i64 (chC f has))]) (ret2V (B := B) rfl rfl rfl u0 u1) rfl ?_
  have e9 := HG.out.2.2.2.2.2.2.2.2
  exact ⟨rfl, (R3.out.2.setCell (p := ⟨B, 0, none⟩) (by show _ ≤ B; omega) _).setCell (p := ⟨B, 1, none⟩) (by show _ ≤ B; omega) _⟩
/-! it changes -/
theorem St.aside {fa fb : List Nat} (h : St w wr base fa fb) (hbw : base ≤ w.heap.size) {B : Nat} (hB : w.heap.size ≤ B) (j : Nat) (v : Value) : St w (wr.setCell ⟨B, j, none⟩ v) base fa fb := ⟨h.bel.setCell (p := ⟨B, j, none⟩) (Nat.le_trans hbw hB) _, ⟨by simp [World.setCell]; exact h.kp.1, fun b hb hn => (Deep.blk_setCell_other _ _ _ _ (by show b ≠ B; omega)).trans (h.kp.2 b hb hn)⟩, h.new⟩
theorem St.onP {fa fb : List Nat} (h : St w wr base fa fb) (hP : base ≤ P) (hm : P ∈ fa) (j : Nat) (v : Value) : St w (wr.setCell ⟨P, j, none⟩ v) base fa fb := ⟨h.bel.setCell (p := ⟨P, j, none⟩) hP _, ⟨by simp [World.setCell]; exact h.kp.1, fun b hb hn => (Deep.blk_setCell_other _ _ _ _ (fun e => hn (by rw [e]; exact hm))).trans (h.kp.2 b hb hn)⟩, h.new⟩
theorem new_turn {fa : List Nat} {bN N : Nat} (h : NewL w fa (fpG P mS mH bH (cntF f) rvc)) (hN : w.heap.size ≤ bN) : NewL w fa (fpG P mS mH bN N (rvT f rvc)) := by
  intro b hb
  rcases fpG_iff.1 hb with e | e | e | e | ⟨i, hi, e⟩
  · exact h b (fpG_iff.2 (.inl e))
  · exact h b (fpG_iff.2 (.inr (.inl e)))
  · exact h b (fpG_iff.2 (.inr (.inr (.inl e))))
  · exact .inr (by rw [e]; exact hN)
  · unfold rvT at e
    by_cases q1 : i = 1
    · rw [if_pos q1] at e; cases e
    · rw [if_neg q1] at e
      by_cases q : i < cntF f
      · rw [if_pos q] at e
        exact h b (fpG_iff.2 (.inr (.inr (.inr (.inr ⟨i, q, e⟩)))))
      · rw [if_neg q] at e; cases e
theorem P_fp {N : Nat} : P ∈ fpG P mS mH bH N rv := fpG_iff.2 (.inl rfl)
set_option maxRecDepth 100000 in
set_option maxHeartbeats 2000000 in
theorem change_ok_ (h : GF w base P mS mH bH oH cH rv f) (hi : Inv f) (has : List Int) (q : Option Addr) (k c : Nat) (hh : Sl w (.slice q k c) has) (hc : chC f has = 0) (hn : f.v.n ≤ 1000) : Calls Tryd.prog 8 #[.pointer (some ⟨P, 0, none⟩), .slice q k c] w fun x w' => ∃ q' c' fp', x = .returned (.tuple #[.agg #[.int .i64 (f.v.n + 1), .slice q' has.length c'], .nilIface]) ∧ Sl w' (.slice q' has.length c') has ∧ (∀ ad, q' = some ad → w.heap.size ≤ ad.block ∧ ad.block ∉ fp') ∧ US w' base P (turn f has) fp' ∧ St w w' base (fpG P mS mH bH (cntF f) rv) fp' := by
  have hbw : base ≤ w.heap.size := Nat.le_trans h.low.1 (Nat.le_of_lt h.lt)
  have hnx := next_is hc
  have hnv := next_view hc
  rw [hnx] at hnv
  have hlh : has.length ≤ 5 ∧ 0 < has.length := ⟨has_le (view_ok hnv).2, (has_ok (view_ok hnv).2).1⟩
  obtain ⟨B, eB⟩ : ∃ B, B = w.heap.size := ⟨_, rfl⟩
  obtain ⟨W1, eW1⟩ : ∃ W1, W1 = w.alloc (.cells #[.int .i64 0, .slice none 0 0] 30) := ⟨_, rfl⟩
  have b1 : Below w.heap.size w W1 := by rw [eW1]; exact (Below.refl _ _).alloc (Nat.le_refl _) _
  have h1 := h.later b1
  have R1 : Hid (W1.rowIs B 30 2 (fun j => if j = 0 then .int .i64 0 else .slice none 0 0)) := by
    show World.rowIs _ _ _ _ _
    rw [eW1, eB]
    exact view_row w 0 (.slice none 0 0)
  have c0 := h1.c0
  have c1 := h1.c1
  obtain ⟨l0, el0⟩ : ∃ l0, l0 = f.v.has.length := ⟨_, rfl⟩
  obtain ⟨lh, elh⟩ : ∃ lh, lh = has.length := ⟨_, rfl⟩
  obtain ⟨n0, en0⟩ : ∃ n0, n0 = f.v.n := ⟨_, rfl⟩
  have HG : Hid (GF W1 base P mS mH bH oH cH rv f ∧ Sl W1 (.slice (some ⟨bH, oH, none⟩) l0 cH) f.v.has ∧ Sl W1 (.slice q k c) has ∧ Below w.heap.size w W1 ∧ nextV f.v has = ⟨f.v.n + 1, has⟩ ∧ l0 = f.v.has.length ∧ lh = has.length ∧ B = w.heap.size) := ⟨h1, by rw [el0]; exact h1.has, hh.later b1, b1, hnx, el0, elh, eB⟩
  have AB : Hid (B ∉ fpG P mS mH bH (cntF f) rv) := fun z => by have := (h.fp B z).2; omega
  have HI : Hid (Inv f ∧ chC f has = 0 ∧ viewC ⟨f.v.n + 1, has⟩ = 0 ∧ base ≤ w.heap.size ∧ nextC f.v has = 0 ∧ n0 = f.v.n ∧ f.v = ⟨n0, f.v.has⟩) := ⟨hi, hc, hnv, hbw, hc, en0, by rw [en0]⟩
  rw [← el0] at c1
  rw [← en0] at c0
  rw [← elh] at hlh ⊢
  have hPl := h1.lt
  rw [← en0]
  clear h hi hh hc b1 h1 el0 hnx hnv hbw elh en0
  go_enter Tryd.func8, Tryd.ntmps8
  go_upto_region 1 with fail
  rw [← eW1, ← eB]
  clear eW1 eB
  go_wp2_with fail
  rw [HI.out.2.2.2.2.2.1]
  refine (nextVw f.v has (.slice (some ⟨bH, oH, none⟩) l0 cH) (.slice q k c) _ HG.out.2.1 HG.out.2.2.1).mono ?_
  rintro e W2 ⟨q2, c2, rfl, hs2, hw2, hb2⟩
  rw [HG.out.2.2.2.2.1] at hs2 hw2 ⊢
  rw [HI.out.2.2.2.2.1, errF_ok]
  have hs2' : Sl W2 (.slice q2 lh c2) has := by rw [HG.out.2.2.2.2.2.2.1]; exact hs2
  have en := HI.out.2.2.2.2.2.1
  show _
  rw [← HG.out.2.2.2.2.2.2.1, ← en]
  obtain ⟨bN, oN, eq2, hlN, -⟩ : ∃ bN oN, q2 = some ⟨bN, oN, none⟩ ∧ bN < W2.heap.size ∧ True := by
    obtain ⟨a, cap, e, -, -, hv⟩ := hs2
    injection e with z1
    subst z1
    obtain ⟨b, o, e, hl, -⟩ := hv.2 (by rw [← HG.out.2.2.2.2.2.2.1]; exact hlh.2)
    exact ⟨b, o, e, hl, trivial⟩
  subst eq2
  have hwN : W1.heap.size ≤ bN := hw2 _ rfl (by rw [← HG.out.2.2.2.2.2.2.1]; exact hlh.2)
  obtain ⟨BN, eBN⟩ : ∃ BN, BN = W2.heap.size := ⟨_, rfl⟩
  obtain ⟨W3, eW3⟩ : ∃ W3, W3 = W2.alloc (.cells #[.int .i64 (n0 + 1), .slice (some ⟨bN, oN, none⟩) lh c2] 30) := ⟨_, rfl⟩
  have b3 : Below W2.heap.size W2 W3 := by rw [eW3]; exact (Below.refl _ _).alloc (Nat.le_refl _) _
  have R3 : W3.rowIs BN 30 2 (fun j => if j = 0 then .int .i64 (n0 + 1) else .slice (some ⟨bN, oN, none⟩) lh c2) := by rw [eW3, eBN]; exact view_row W2 _ _
  have b13 : Below W1.heap.size W1 W3 := hb2.trans (b3.mono hb2.size)
  have X3 : Hid (GF W3 base P mS mH bH oH cH rv f ∧ Below W1.heap.size W1 W3 ∧ W3.rowIs BN 30 2 (fun j => if j = 0 then .int .i64 (n0 + 1) else .slice (some ⟨bN, oN, none⟩) lh c2) ∧ Sl W3 (.slice (some ⟨bN, oN, none⟩) lh c2) has ∧ W1.heap.size ≤ bN ∧ bN < W3.heap.size ∧ W1.heap.size ≤ BN ∧ BN < W3.heap.size) := ⟨HG.out.1.later b13, b13, R3, hs2'.later b3, hwN, Nat.lt_of_lt_of_le hlN b3.size, by rw [eBN]; exact hb2.size, World.rowIs.lt R3⟩
  have HS : Hid (∀ X : World, X.heap[P]? = W3.heap[P]? → X.heap[BN]? = W3.heap[BN]? → X.cell? ⟨P, 0, none⟩ = some (.int .i64 n0) ∧ X.cell? ⟨P, 1, none⟩ = some (.slice (some ⟨bH, oH, none⟩) l0 cH) ∧ X.cell? ⟨BN, 0, none⟩ = some (.int .i64 (n0 + 1)) ∧ X.cell? ⟨BN, 1, none⟩ = some (.slice (some ⟨bN, oN, none⟩) lh c2)) := by
    intro X hP hB
    have r := World.rowIs.of_block X3.out.2.2.1 hB
    refine ⟨?_, ?_, World.rowIs.cell r (i := 0) (by omega), World.rowIs.cell r (i := 1) (by omega)⟩
    · rw [HI.out.2.2.2.2.2.1]; exact (World.cell?_of_block (a := ⟨P, 0, none⟩) hP).trans X3.out.1.c0
    · rw [HG.out.2.2.2.2.2.1]; exact (World.cell?_of_block (a := ⟨P, 1, none⟩) hP).trans X3.out.1.c1
  have HSL : Hid (Sl W3 (.slice (some ⟨bH, oH, none⟩) l0 cH) f.v.has) := by show Sl _ _ _; rw [HG.out.2.2.2.2.2.1]; exact X3.out.1.has
  clear hs2 hs2' hw2 hb2 b3 b13 R3 hlN hwN c0 c1 en
  go_upto_region 4 with fail
  rw [← eW3, ← eBN]
  clear eW3 eBN
  go_region_held3 (fun X => X.cell? ⟨P, 0, none⟩ = some (.int .i64 n0) ∧ X.cell? ⟨P, 1, none⟩ = some (.slice (some ⟨bH, oH, none⟩) l0 cH) ∧ X.cell? ⟨BN, 0, none⟩ = some (.int .i64 (n0 + 1)) ∧ X.cell? ⟨BN, 1, none⟩ = some (.slice (some ⟨bN, oN, none⟩) lh c2)) (first | exact HS.out _ rfl rfl | exact HS.out _ (B4.out.block P (by exact X3.out.1.lt)) (B4.out.block BN (by exact X3.out.2.2.2.2.2.2.2))) (first
    | (go_at_call 23; refine (bothN ⟨n0, f.v.has⟩ ⟨n0 + 1, has⟩ (.slice (some ⟨bH, oH, none⟩) l0 cH) (.slice (some ⟨bN, oN, none⟩) lh c2) _ (by exact HSL.out) (by exact X3.out.2.2.2.1) (by rw [← HI.out.2.2.2.2.2.2]; exact HI.out.1.view) (by rw [HI.out.2.2.2.2.2.1]; exact HI.out.2.2.1)).mono ?_; rintro e4 W4 ⟨q4, c4, rfl, hs4, hn4, hb4⟩; have B4 : Hid (Below W3.heap.size W3 W4) := ⟨hb4.os, hb4.tape, hb4.output, hb4.size, fun k hk => hb4.block k hk⟩; have S4 : Hid (Sl W4 (.slice q4 (shared f.v.has has).length c4) (shared f.v.has has) ∧ (∀ ad, q4 = some ad → W3.heap.size ≤ ad.block)) := ⟨hs4, fun ad e => by have := hn4 ad e; simpa using this⟩; clear hs4 hn4 hb4))
  obtain ⟨lst, elst⟩ : ∃ lst, lst = (shared f.v.has has).length := ⟨_, rfl⟩
  have hst := both_stay HI.out.1 HI.out.2.1
  have hlst : lst ≤ 5 ∧ 0 < lst := by rw [elst]; exact ⟨hst.2.2.2, hst.2.2.1⟩
  obtain ⟨bs, os, eq4, hls4, hvs⟩ : ∃ bs os, q4 = some ⟨bs, os, none⟩ ∧ bs < W4.heap.size ∧ Vw W4 (some ⟨bs, os, none⟩) lst (stay f has) := by
    obtain ⟨a, cap, e, -, -, hv⟩ := S4.out.1
    injection e with z1
    subst z1
    rw [← elst] at hv
    obtain ⟨b, o, e, hl, -⟩ := hv.2 hlst.2
    subst e
    exact ⟨b, o, rfl, hl, hv⟩
  subst eq4
  have hsN : W3.heap.size ≤ bs := S4.out.2 _ rfl
  have g4 := X3.out.1.later B4.out
  have fpl : ∀ b, W1.heap.size ≤ b → b ∉ fpG P mS mH bH (cntF f) rv := fun b hb z => by have := (HG.out.1.fp b z).2; omega
  have h13 := X3.out.2.1.size
  have X4 : Hid (GF W4 base P mS mH bH oH cH rv f ∧ Vw W4 (some ⟨bs, os, none⟩) lst (stay f has) ∧ bs ∉ fpG P mS mH bH (cntF f) rv ∧ bs < W4.heap.size ∧ Below W1.heap.size W1 W4) := ⟨g4, hvs, fpl bs (by omega), hls4, X3.out.2.1.trans (B4.out.mono h13)⟩
  have A4 : Hid (Asd W4 (fpG P mS mH bH (cntF f) rv) bN ∧ Asd W4 (fpG P mS mH bH (cntF f) rv) BN ∧ Asd W4 (fpG P mS mH bH (cntF f) rv) B) := by
    have hs := B4.out.size
    have l1 := X3.out.2.2.2.2
    have lB := World.rowIs.lt R1.out
    exact ⟨⟨by omega, fpl bN (by omega)⟩, ⟨by omega, fpl BN (by omega)⟩, ⟨by omega, AB.out⟩⟩
  rw [← elst]
  clear elst hst hvs hsN g4 fpl h13 hls4
  go_wp2_with fail
  refine (level_any X4.out.1 HI.out.1 (has := has) rfl X4.out.2.1 X4.out.2.2.1 X4.out.2.2.2.1 hlst.1).mono ?_
  rintro e W5 ⟨rfl, rvc, g5, s5⟩
  have X5 : Hid (GF W5 base P mS mH bH oH cH rvc (lv f (fl (stay f has) (cur f) f.said)) ∧ St W4 W5 base (fpG P mS mH bH (cntF f) rv) (fpG P mS mH bH (cntF f) rvc)) := ⟨g5, s5⟩
  obtain ⟨aN, kN⟩ := A4.out.1.step s5
  obtain ⟨aV, kV⟩ := A4.out.2.1.step s5
  obtain ⟨aB, kB⟩ := A4.out.2.2.step s5
  have slN : Sl W5 (.slice (some ⟨bN, oN, none⟩) lh c2) has := sl_blockK (sl_blockK X3.out.2.2.2.1 A4.out.1.1 (B4.out.block bN X3.out.2.2.2.2.2.1)) aN.1 kN
  have rV := World.rowIs.of_block (World.rowIs.of_block X3.out.2.2.1 (B4.out.block BN X3.out.2.2.2.2.2.2.2)) kV
  have y0 := World.rowIs.cell rV (i := 0) (by omega)
  have y1 := World.rowIs.cell rV (i := 1) (by omega)
  simp only [Nat.one_ne_zero, if_true, if_false] at y0 y1
  have r1B : W5.rowIs B 30 2 (fun j => if j = 0 then .int .i64 0 else .slice none 0 0) := World.rowIs.of_block (World.rowIs.of_block R1.out (X4.out.2.2.2.2.block B (World.rowIs.lt R1.out))) kB
  have S5 : Hid (Sl W5 (.slice (some ⟨bN, oN, none⟩) lh c2) has ∧ Asd W5 (fpG P mS mH bH (cntF f) rvc) bN ∧ Asd W5 (fpG P mS mH bH (cntF f) rvc) B ∧ W5.rowIs B 30 2 (fun j => if j = 0 then .int .i64 0 else .slice none 0 0)) := ⟨slN, aN, aB, r1B⟩
  have d0 := g5.c0
  have d1 := g5.c1
  have d3 := g5.c3
  have z0 := g5.fr 0
  have z1 := g5.fr 1
  have z3 := g5.fr 3
  have hP5 := g5.lt
  clear g5 s5 aN kN aV kV aB kB slN rV r1B
  go_upto_region 7 with fail
  obtain ⟨W6, eW6⟩ : ∃ W6, W6 = ((W5.setCell ⟨P, 0, none⟩ (.int .i64 (n0 + 1))).setCell ⟨P, 1, none⟩ (.slice (some ⟨bN, oN, none⟩) lh c2)).setCell ⟨P, 3, none⟩ (.slice none 0 0) := ⟨_, rfl⟩
  rw [← eW6]
  have X6 : Hid (GF W6 base P mS mH bN oN c2 (rvT f rvc) (turn f has) ∧ St w W6 base (fpG P mS mH bH (cntF f) rv) (fpG P mS mH bN (cntF (turn f has)) (rvT f rvc)) ∧ W6.rowIs B 30 2 (fun j => if j = 0 then .int .i64 0 else .slice none 0 0) ∧ B ∉ fpG P mS mH bN (cntF (turn f has)) (rvT f rvc)) := by
    have bw := HG.out.2.2.2.1.size
    have hbw := HI.out.2.2.2.1
    have lN := X3.out.2.2.2.2.1
    have g6 := gf_turn X5.out.1 HI.out.1 (by rw [← HG.out.2.2.2.2.2.2.1]; exact S5.out.1) S5.out.2.1.2 (by omega) S5.out.2.1.1
    rw [← HG.out.2.2.2.2.2.2.1, ← HI.out.2.2.2.2.2.1] at g6
    have s15 : St w W5 base (fpG P mS mH bH (cntF f) rv) (fpG P mS mH bH (cntF f) rvc) := ((St.later hbw HG.out.2.2.2.1 _).trans (St.later (Nat.le_trans hbw bw) X4.out.2.2.2.2 _)).trans X5.out.2
    have hP := X5.out.1.low.1
    have s16 := ((s15.onP (P := P) hP P_fp 0 (.int .i64 (n0 + 1))).onP hP P_fp 1 (.slice (some ⟨bN, oN, none⟩) lh c2)).onP hP P_fp 3 (.slice none 0 0)
    have hBP : B ≠ P := fun e => S5.out.2.2.1.2 (by rw [e]; exact P_fp)
    rw [← eW6] at s16
    refine ⟨by rw [eW6]; exact g6, ⟨s16.bel, s16.kp, new_turn s16.new (by omega)⟩, ?_, fun z => ?_⟩
    · refine World.rowIs.of_block S5.out.2.2.2 ?_
      rw [eW6]
      exact ((Deep.blk_setCell_other _ _ _ _ hBP).trans (Deep.blk_setCell_other _ _ _ _ hBP)).trans (Deep.blk_setCell_other _ _ _ _ hBP)
    · rcases fpG_iff.1 z with e | e | e | e | ⟨i, hi, e⟩
      · exact hBP e
      · exact S5.out.2.2.1.2 (fpG_iff.2 (.inr (.inl e)))
      · exact S5.out.2.2.1.2 (fpG_iff.2 (.inr (.inr (.inl e))))
      · have := World.rowIs.lt R1.out; omega
      · unfold rvT at e
        by_cases q1 : i = 1
        · rw [if_pos q1] at e; cases e
        · rw [if_neg q1] at e
          by_cases q : i < cntF f
          · rw [if_pos q] at e
            exact S5.out.2.2.1.2 (fpG_iff.2 (.inr (.inr (.inr (.inr ⟨i, q, e⟩)))))
          · rw [if_neg q] at e; cases e
  clear eW6 y0 y1 d0 d1 d3 z0 z1 z3 hP5
  go_wp2_with fail
  have elT : (turn f has).v.has.length = lh := HG.out.2.2.2.2.2.2.1.symm
  have enT : (turn f has).v.n = n0 + 1 := by show f.v.n + 1 = _; rw [HI.out.2.2.2.2.2.1]
  refine (viewG X6.out.1 (by rw [elT]; exact hlh.2) (by rw [elT]; exact hlh.1)).mono ?_
  rintro e W7 ⟨q7, c7, rfl, hs7, hn7, hb7⟩
  rw [elT] at hs7
  rw [elT, enT]
  have X7 : Hid (GF W7 base P mS mH bN oN c2 (rvT f rvc) (turn f has) ∧ St w W7 base (fpG P mS mH bH (cntF f) rv) (fpG P mS mH bN (cntF (turn f has)) (rvT f rvc)) ∧ W7.rowIs B 30 2 (fun j => if j = 0 then .int .i64 0 else .slice none 0 0) ∧ Sl W7 (.slice q7 lh c7) has ∧ (∀ ad, q7 = some ad → W6.heap.size ≤ ad.block)) := by
    have lo : base ≤ W6.heap.size := Nat.le_trans X6.out.1.low.1 (Nat.le_of_lt X6.out.1.lt)
    exact ⟨X6.out.1.later hb7, X6.out.2.1.trans (St.later lo hb7 _), World.rowIs.of_block X6.out.2.2.1 (hb7.block B (World.rowIs.lt X6.out.2.2.1)), hs7, hn7⟩
  clear hs7 hn7 hb7 elT enT
  have t0 := World.rowIs.cell X7.out.2.2.1 (i := 0) (by omega)
  have t1 := World.rowIs.cell X7.out.2.2.1 (i := 1) (by omega)
  have f0 := World.rowIs.frozen X7.out.2.2.1 0
  have f1 := World.rowIs.frozen X7.out.2.2.1 1
  simp only [Nat.one_ne_zero, if_true, if_false] at t0 t1
  go_wp2
  obtain ⟨u0, u1⟩ := row_set2 X7.out.2.2.1 (.int .i64 (n0 + 1)) (.slice q7 lh c7)
  refine bodyPost_ret (v := .tuple #[.agg #[.int .i64 (n0 + 1), .slice q7 lh c7], .nilIface]) (ret2V (B := B) rfl rfl rfl u0 u1) rfl ?_
  have hbw := HI.out.2.2.2.1
  have eB := HG.out.2.2.2.2.2.2.2
  have hB6 := World.rowIs.lt X6.out.2.2.1
  have s6 := X6.out.2.1.kp.1
  refine ⟨q7, c7, fpG P mS mH bN (cntF (turn f has)) (rvT f rvc), rfl, ?_, fun ad e => ?_, ⟨mS, mH, bN, oN, c2, rvT f rvc, rfl, ?_⟩, ?_⟩
  · obtain ⟨a, cap, e, h1, h2, h3⟩ := X7.out.2.2.2.1
    injection e with z1 z2 z3
    subst z1 z3
    refine ⟨q7, c7, by rw [← z2], h1, h2, h3.1, fun z => ?_⟩
    obtain ⟨b, off, ea, hlt, hcl⟩ := h3.2 z
    have hne : b ≠ B := by have := X7.out.2.2.2.2 _ ea; have : W6.heap.size ≤ b := this; omega
    exact ⟨b, off, ea, by simp [World.setCell]; exact hlt, fun k hk => (World.cell?_of_block (a := ⟨b, off + k, none⟩) (two_other _ _ _ _ hne)).trans (hcl k hk)⟩
  · have z := X7.out.2.2.2.2 ad e
    exact ⟨by omega, fun y => by have := (X6.out.1.fp _ y).2; omega⟩
  · refine X7.out.1.of_blocks fun b hb => two_other _ _ _ _ (fun e => X6.out.2.2.2 (by rw [← e]; exact hb))
  · exact (X7.out.2.1.aside hbw (by omega) 0 _).aside hbw (by omega) 1 _
theorem changeU (base P : Nat) (f : F) (fp : List Nat) (has : List Int) (q : Option Addr) (k c : Nat) (w : World) (h : US w base P f fp) (hi : Inv f) (hbw : base ≤ w.heap.size) (hh : Sl w (.slice q k c) has) (hk : ∀ ad, q = some ad → 0 < k → ad.block ∉ fp) (hv : f.v.n ≤ 1000) : Calls Tryd.prog 8 #[.pointer (some ⟨P, 0, none⟩), .slice q k c] w fun x w' => ∃ q' c' fp', x = .returned (.tuple #[.agg #[.int .i64 (nextV f.v has).n, .slice q' (nextV f.v has).has.length c'], errF (chC f has)]) ∧ Sl w' (.slice q' (nextV f.v has).has.length c') (nextV f.v has).has ∧ (∀ ad, q' = some ad → 0 < (nextV f.v has).has.length → w.heap.size ≤ ad.block ∧ ad.block ∉ fp') ∧ US w' base P (change f has) fp' ∧ Below base w w' ∧ KpL w w' fp ∧ NewL w fp fp' := by
  obtain ⟨mS, mH, bH, oH, cH, rv, rfl, h⟩ := h
  by_cases hc : chC f has = 0
  · rw [change_ok hc, next_is hc, hc, errF_ok]
    refine (change_ok_ h hi has q k c hh hc hv).mono ?_
    rintro x w' ⟨q', c', fp', rfl, h1, h2, h3, h4⟩
    exact ⟨q', c', fp', rfl, h1, fun ad e _ => h2 ad e, h3, h4.bel, h4.kp, h4.new⟩
  · rw [change_no hc, next_no hc]
    refine (change_fault h hi has q k c hh hc).mono ?_
    rintro x w' ⟨rfl, hb⟩
    exact ⟨none, 0, _, rfl, Sl.nil _, fun ad e => (by cases e), ⟨mS, mH, bH, oH, cH, rv, rfl, h.later hb⟩, hb.mono hbw, KpL.below hb _, NewL.refl _ _⟩
end Go.Proofs.YtgdmbnfdcbekaaiDoor.Flu
