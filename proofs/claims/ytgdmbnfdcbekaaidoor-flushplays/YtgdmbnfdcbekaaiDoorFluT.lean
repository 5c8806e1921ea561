/-
  Contract of package flush's Change.
-/
import Derived.Test.YtgdmbnfdcbekaaiDoorFluL
import Derived.Test.YtgdmbnfdcbekaaiDoorFluG
namespace Go.Proofs.YtgdmbnfdcbekaaiDoor.Flu
open Go.RowKit Go.Maps
open Go.Proofs.YtgdmbnfdcbekaaiDoor.Fif (own_lt own_block own_form own_mono own_vw ret_bool info_int new_int int_one)
open Go.Proofs.YtgdmbnfdcbekaaiDoor.Vec (Vw)
open Go.Proofs.YtgdmbnfdcbekaaiDoor.Sep (KpL NewL)
open Go.Proofs.YtgdmbnfdcbekaaiDoor.Ldr (errF errF_ok errF_no Sl)
open Go.Proofs.YtgdmbnfdcbekaaiDoor.Viw (Vi viewC nextC nextV shared next_is next_view view_ok has_ok has_le checkV nextVw inBoth_at OwP B2 next_no)
set_option linter.unusedVariables false
variable {w wr w' : World} {base P mS mH bH oH cH : Nat} {rv rvc : Nat → Value} {f : F}

/-! who is in both, in new memory -/
theorem inBoth_new (a b : List Int) (u u' : Value) (w : World) (ha : Sl w u a) (hb : Sl w u' b) (h1 : a.length ≤ 1000) (h2 : b.length ≤ 1000) : Calls Tryd.prog 36 #[u, u'] w fun e w' => ∃ q c, e = .returned (.slice q (shared a b).length c) ∧ Sl w' (.slice q (shared a b).length c) (shared a b) ∧ (∀ ad, q = some ad → w.heap.size ≤ ad.block) ∧ Below w.heap.size w w' := by
  obtain ⟨qa, ca, rfl, -, -, ha⟩ := ha
  obtain ⟨qb, cb, rfl, -, -, hb⟩ := hb
  refine (inBoth_at a b qa a.length ca qb b.length cb w ha hb h1 h2).mono ?_
  rintro e w' ⟨v, rfl, ho, hbl⟩
  obtain ⟨q, c, rfl, hs, hn⟩ := OwP.sl ho
  exact ⟨q, c, rfl, hs, hn, hbl⟩
set_option maxRecDepth 100000 in
set_option maxHeartbeats 1000000 in
theorem bothN (v v' : Vi) (u u' : Value) (w : World) (hv : Sl w u v.has) (hv' : Sl w u' v'.has) (h1 : viewC v = 0) (h2 : viewC v' = 0) : Calls Tryd.prog 23 #[.agg #[.int .i64 v.n, u], .agg #[.int .i64 v'.n, u']] w fun x w' => ∃ q c, x = .returned (.tuple #[.slice q (shared v.has v'.has).length c, .nilIface]) ∧ Sl w' (.slice q (shared v.has v'.has).length c) (shared v.has v'.has) ∧ (∀ ad, q = some ad → w.heap.size ≤ ad.block) ∧ Below w.heap.size w w' := by
  have P : Hid (B2 w w.heap.size v v' u u' ((w.alloc (.cells #[.int .i64 v.n, u] 30)).alloc (.cells #[.int .i64 v'.n, u'] 30))) := B2.made w hv hv'
  have H1 : Hid (errF (viewC v) = .nilIface) := by show errF _ = _; rw [h1]; rfl
  have H2 : Hid (errF (viewC v') = .nilIface) := by show errF _ = _; rw [h2]; rfl
  have HL : Hid (v.has.length ≤ 5 ∧ v'.has.length ≤ 5) := ⟨has_le (view_ok h1).2, has_le (view_ok h2).2⟩
  clear hv hv' h1 h2
  go_enter Tryd.func23, Tryd.ntmps23
  go_wp2_with fail
  refine (checkV v u _ (by exact P.out.a.sl)).mono ?_
  rintro e w1 ⟨rfl, hb⟩
  rw [H1.out]
  have P1 : Hid (B2 w w.heap.size v v' u u' w1) := P.out.later hb
  have c0 := P1.out.a.c0
  have c1 := P1.out.a.c1
  have d0 := P1.out.b.c0
  have d1 := P1.out.b.c1
  clear hb
  go_wp2_with fail
  refine (checkV v' u' _ (by exact P1.out.b.sl)).mono ?_
  rintro e w2 ⟨rfl, hb⟩
  rw [H2.out]
  have P2 : Hid (B2 w w.heap.size v v' u u' w2) := P1.out.later hb
  clear hb c0 c1 d0 d1
  have c1 := P2.out.a.c1
  have d1 := P2.out.b.c1
  go_wp2_with fail
  refine (inBoth_new v.has v'.has u u' _ (by exact P2.out.a.sl) (by exact P2.out.b.sl) (by have := HL.out.1; omega) (by have := HL.out.2; omega)).mono ?_
  rintro e w3 ⟨q, c, rfl, hs, hn, hb⟩
  have P3 : Hid (Sl w3 (.slice q (shared v.has v'.has).length c) (shared v.has v'.has) ∧ (∀ ad, q = some ad → w.heap.size ≤ ad.block) ∧ Below w.heap.size w w3) := ⟨hs, fun ad e => Nat.le_trans P2.out.bel.size (hn ad e), (P2.out.later hb).bel⟩
  obtain ⟨ll, ell⟩ : ∃ ll, ll = (shared v.has v'.has).length := ⟨_, rfl⟩
  have EL : Hid (ll = (shared v.has v'.has).length) := ell
  rw [← ell]
  clear hs hn hb c1 d1 ell
  go_wp2
  go_ret2
  refine ⟨q, c, ?_, P3.out⟩
  rw [← EL.out]
  rfl
/-! the view is another one -/
def rvT (f : F) (rvc : Nat → Value) : Nat → Value := fun i => if i = 1 then nilV else if i < cntF f then rvc i else nilV
theorem lsP_turn (hi : Inv f) (has : List Int) (i : Nat) : lsP (turn f has) i = if i = 1 then [] else if i < cntF f then lsP (lv f (fl (stay f has) (cur f) f.said)) i else [] := by
  by_cases h0 : i = 0
  · subst h0
    rw [if_neg (by decide), if_pos (by unfold cntF; omega)]
    rfl
  · by_cases h1 : i = 1
    · rw [if_pos h1, h1]; rfl
    · rw [if_neg h1]
      have e : ∀ g : F, lsP g i = g.hd ((i - 2) / 5) ((i - 2) % 5) := fun g => by
        unfold lsP lsF
        rw [if_neg h0, if_neg h0, if_neg h1]
      rw [e, e]
      split
      · rfl
      · rename_i q
        show up1 f.hd (num f) _ ((i - 2) / 5) ((i - 2) % 5) = []
        unfold cntF at q
        rw [up1_other _ _ _ (by omega)]
        exact hi.new _ (by omega) _
theorem cnt_turn (hi : Inv f) (has : List Int) : cntF (turn f has) = cntF f + 5 := by
  unfold cntF
  rw [num_turn hi]
  omega
theorem TH_turn (hi : Inv f) (has : List Int) : ∀ a b, TH (turn f has) (rvT f rvc) a b = TH (lv f (fl (stay f has) (cur f) f.said)) rvc a b := by
  intro a b
  unfold TH
  rw [num_turn hi]
  show THg (num f + 1) (up1 f.hd (num f) (fl (stay f has) (cur f) f.said)) (rvT f rvc) a b = THg (num f) (up1 f.hd (num f) (fl (stay f has) (cur f) f.said)) rvc a b
  unfold THg
  by_cases q : (0 ≤ a ∧ a ≤ 4) ∧ 0 ≤ b ∧ b ≤ (num f : Int)
  · have e : rvT f rvc (ix b.toNat a.toNat) = rvc (ix b.toNat a.toNat) := by
      unfold rvT
      rw [if_neg (by have := ix_two b.toNat a.toNat; omega), if_pos (ix_lt (by omega) (by omega))]
    rw [e]
    by_cases z : up1 f.hd (num f) (fl (stay f has) (cur f) f.said) b.toNat a.toNat = []
    · rw [if_neg (fun y => y.2 z), if_neg (fun y => y.2 z)]
    · rw [if_pos ⟨by omega, z⟩, if_pos ⟨q, z⟩]
  · refine Eq.trans ?_ (if_neg (fun y => q y.1)).symm
    by_cases z : (0 ≤ a ∧ a ≤ 4) ∧ 0 ≤ b ∧ b ≤ ((num f + 1 : Nat) : Int)
    · refine if_neg (fun y => y.2 ?_)
      rw [up1_other _ _ _ (by omega)]
      exact hi.new _ (by omega) _
    · exact if_neg (fun y => z y.1)
theorem cHf_turn (hi : Inv f) (has : List Int) : cHf (turn f has) = cHf (lv f (fl (stay f has) (cur f) f.said)) := by
  unfold cHf
  rw [cnt_turn hi]
  have e1 : ∀ i, i < cntF f → hasB (turn f has) i = hasB (lv f (fl (stay f has) (cur f) f.said)) i := by
    intro i hN
    unfold hasB
    by_cases q : 2 ≤ i
    · rw [lsP_turn hi, if_neg (by omega), if_pos hN]
    · rw [decide_eq_false q]; rfl
  have e2 : cnK (hasB (turn f has)) (cntF f + 5) = cnK (hasB (turn f has)) (cntF f) := cnK_more fun i h1 h2 => by
    unfold hasB
    rw [lsP_turn hi]
    split
    · simp
    · rw [if_neg (by omega)]; simp
  rw [e2]
  exact cnK_congr e1
theorem gf_turn {has : List Int} (h : GF wr base P mS mH bH oH cH rvc (lv f (fl (stay f has) (cur f) f.said))) (hi : Inv f) {bN oN cN : Nat} (hs : Sl wr (.slice (some ⟨bN, oN, none⟩) has.length cN) has) (hn : bN ∉ fpG P mS mH bH (cntF f) rvc) (hb : base ≤ bN) (hl : bN < wr.heap.size) :
    GF (((wr.setCell ⟨P, 0, none⟩ (.int .i64 (f.v.n + 1))).setCell ⟨P, 1, none⟩ (.slice (some ⟨bN, oN, none⟩) has.length cN)).setCell ⟨P, 3, none⟩ nilV) base P mS mH bN oN cN (rvT f rvc) (turn f has) := by
  have hk : ∀ b, b ≠ P → (((wr.setCell ⟨P, 0, none⟩ (.int .i64 (f.v.n + 1))).setCell ⟨P, 1, none⟩ (.slice (some ⟨bN, oN, none⟩) has.length cN)).setCell ⟨P, 3, none⟩ nilV).heap[b]? = wr.heap[b]? := fun b q => ((Deep.blk_setCell_other _ _ _ _ q).trans (Deep.blk_setCell_other _ _ _ _ q)).trans (Deep.blk_setCell_other _ _ _ _ q)
  have nb : bN ≠ P ∧ bN ≠ mS ∧ bN ≠ mH ∧ ∀ i, i < cntF f → (rvc i).ownBlock ≠ some bN := ⟨fun e => hn (fpG_iff.2 (.inl e)), fun e => hn (fpG_iff.2 (.inr (.inl e))), fun e => hn (fpG_iff.2 (.inr (.inr (.inl e)))), fun i q e => hn (fpG_iff.2 (.inr (.inr (.inr (.inr ⟨i, q, e⟩)))))⟩
  have hsz : (((wr.setCell ⟨P, 0, none⟩ (.int .i64 (f.v.n + 1))).setCell ⟨P, 1, none⟩ (.slice (some ⟨bN, oN, none⟩) has.length cN)).setCell ⟨P, 3, none⟩ nilV).heap.size = wr.heap.size := by simp [World.setCell]
  exact
  { row := (((World.rowIs.set h.row 0 _).set 1 _).set 3 _).congr fun j hj => by
      show _ = gv (f.v.n + 1) (.slice (some ⟨bN, oN, none⟩) has.length cN) mS (rvT f rvc 1) mH j
      have e1 : rvT f rvc 1 = nilV := if_pos rfl
      rw [e1]
      rcases (show j = 0 ∨ j = 1 ∨ j = 2 ∨ j = 3 ∨ j = 4 by omega) with rfl | rfl | rfl | rfl | rfl <;> rfl
    said := h.said.of_block (hk mS (h.said.row h.row).symm)
    heard := (h.heard.of_block (hk mH (h.heard.row h.row).symm)).congr (TH_turn hi has) (cHf_turn hi has)
    ints := by
      rw [cnt_turn hi]
      refine ⟨fun i hN => ?_, fun i j hi' hj hne b hb' => ?_⟩
      · rw [lsP_turn hi]
        unfold rvT
        by_cases q1 : i = 1
        · rw [if_pos q1, if_pos q1]; exact World.ownsRow_nil _ _ _ _
        · rw [if_neg q1, if_neg q1]
          by_cases q : i < cntF f
          · rw [if_pos q, if_pos q]
            exact own_block (h.ints.own i q) fun b hb' => hk b (h.neI q hb').1
          · rw [if_neg q, if_neg q]; exact World.ownsRow_nil _ _ _ _
      · unfold rvT at hb' ⊢
        by_cases q1 : i = 1
        · rw [if_pos q1] at hb'; cases hb'
        · rw [if_neg q1] at hb'
          by_cases q : i < cntF f
          · rw [if_pos q] at hb'
            by_cases p1 : j = 1
            · rw [if_pos p1]; intro z; cases z
            · rw [if_neg p1]
              by_cases p : j < cntF f
              · rw [if_pos p]; exact h.ints.sep i j q p hne b hb'
              · rw [if_neg p]; intro z; cases z
          · rw [if_neg q] at hb'; cases hb'
    has := sl_blockK hs (by rw [hsz]; exact hl) (hk bN nb.1)
    nil := fun i h2 e => by
      unfold rvT
      rw [if_neg (by omega)]
      by_cases q : i < cntF f
      · rw [if_pos q]
        rw [lsP_turn hi, if_neg (by omega), if_pos q] at e
        exact h.nil i h2 e
      · rw [if_neg q]
    low := ⟨h.low.1, h.low.2.1, h.low.2.2.1, hb⟩
    ltH := by rw [hsz]; exact hl
    ne := ⟨h.ne.1, nb.1, nb.2.1, nb.2.2.1⟩
    nr := fun i hN => by
      unfold rvT
      by_cases q1 : i = 1
      · rw [if_pos q1]; intro z; cases z
      · rw [if_neg q1]
        by_cases q : i < cntF f
        · rw [if_pos q]; exact nb.2.2.2 i q
        · rw [if_neg q]; intro z; cases z
    sm := h.sm }
end Go.Proofs.YtgdmbnfdcbekaaiDoor.Flu
