/-
  Contract of package agree's hear: as long as of those that wait the least is settled, it is heard.
-/
import Derived.Test.YtcccheeeagphpagAgrH
namespace Go.Proofs.Ytcccheeeagphpag.Agr
open Go.RowKit Go.Maps
open Go.Proofs.Ytcccheeeagphpag.Fif (own_lt own_block own_form own_mono own_vw ret_bool info_int lenOf new_int int_one)
open Go.Proofs.Ytcccheeeagphpag.Vec (Vw)
open Go.Proofs.Ytcccheeeagphpag.MapV (MM putT delT wfI turned_below g_of_turned)
open Go.Proofs.Ytcccheeeagphpag.Sep (KpL NewL)
set_option linter.unusedVariables false
variable {w w' : World} {base P mS : Nat} {mb : Nat → Nat} {hv : Nat → Value} {r : Rc} {g : G} {cW : Nat → Nat} {H : Nat → List Nat}

/-- as far as it goes -/
structure HM (w wr : World) (base P mS : Nat) (mb : Nat → Nat) (hv : Nat → Value) (H : Nat → List Nat) (g : G) (m : Nat) (y : Value) (g' : G) (l : List Nat) (cW : Nat → Nat) : Prop where
  inv : Inv0 g'
  n : g'.n = g.n
  most : g'.most = g.most
  run : run m g = (l ++ (run m g').1, (run m g').2)
  len : l.length ≤ (g'.hd m).length
  out : Lw wr w.heap.size y l
  mem : AF wr base P mS mb hv (rcH g' cW H)
  cw : ∀ i, i < g.n → cW i ≤ g.most i
  low : Below base w wr
  kp : KpL w wr (fpA P mS g.n mb hv)
theorem HM.stop {wr : World} {m : Nat} {y : Value} {g' : G} {l : List Nat} (h : HM w wr base P mS mb hv H g m y g' l cW) (hs : ¬ (best g' m 30 ≠ 0 ∧ g'.kn (best g' m 30) m = true)) : (Agr.run m g).1 = l ∧ (Agr.run m g).2 = g' := by
  have := h.run
  rw [run_stop hs, List.append_nil] at this
  rw [this]
  exact ⟨rfl, rfl⟩
theorem HM.go {wr w4 : World} {m : Nat} {y y4 : Value} {g' : G} {l : List Nat} {c4 : Nat → Nat} (h : HM w wr base P mS mb hv H g m y g' l cW) (hb : best g' m 30 ≠ 0) (hk : g'.kn (best g' m 30) m = true)
    (ho : Lw w4 w.heap.size y4 (l ++ [best g' m 30])) (hm : AF w4 base P mS mb hv (rcH (hear g' m (best g' m 30)) c4 H)) (hc : ∀ i, i < g.n → c4 i ≤ g.most i) (hl : Below base w w4) (hp : KpL w w4 (fpA P mS g.n mb hv)) : HM w w4 base P mS mb hv H g m y4 (hear g' m (best g' m 30)) (l ++ [best g' m 30]) c4 :=
  { inv := h.inv.hear hb hk, n := h.n, most := h.most
    run := (by rw [h.run, run_go h.inv hb hk]; simp)
    len := (by
      rw [hear_hd, if_pos rfl, List.length_append, List.length_append]
      have := h.len
      simp
      omega)
    out := ho, mem := hm, cw := hc, low := hl, kp := hp }
set_option maxRecDepth 100000 in
set_option maxHeartbeats 1000000 in
theorem hear_any (h : AF w base P mS mb hv (rcH g cW H)) (hi : Inv0 g) (hcw : ∀ i, i < g.n → cW i ≤ g.most i) (hbw : base ≤ w.heap.size) (m : Nat) (hm : m < g.n) : Calls Try.prog 28 #[.pointer (some ⟨P, 0, none⟩), .int .i64 (m : Int)] w fun x w' => ∃ v c', x = .returned v ∧ Lw w' w.heap.size v (run m g).1 ∧ AF w' base P mS mb hv (rcH (run m g).2 c' H) ∧ (∀ i, i < g.n → c' i ≤ g.most i) ∧ Below base w w' ∧ KpL w w' (fpA P mS g.n mb hv) := by
  have M0 : Hid (HM w w base P mS mb hv H g m (.slice none 0 0) g [] cW) := ⟨hi, rfl, rfl, by simp, by simp, World.ownsRow_nil _ _ _ _, h, hcw, Below.refl _ _, kp_refl _ _⟩
  have HG : Hid (AF w base P mS mb hv (rcH g cW H) ∧ m < g.n ∧ base ≤ w.heap.size) := ⟨h, hm, hbw⟩
  obtain ⟨ii, hii, hz0, hz1, hz2⟩ := info_int
  have HJ : Hid (Try.prog.info? 3 = some ii ∧ ii.zero = some (.int .i64 0) ∧ ii.size = 1 ∧ ii.bytes = 8) := ⟨hii, hz0, hz1, hz2⟩
  have hm0 : (0 : Int) ≤ (m : Int) := by omega
  have hm5' : (m : Int) < 5 := by have := hi.five; omega
  clear h hi hcw hbw hm hii hz0 hz1 hz2
  go_enter Try.func28, Try.ntmps28
  go_wp2
  go_loopw [5] (fun y wr => ∃ g' l c', Hid (HM w wr base P mS mb hv H g m y g' l c')) (fun y _ => 31 - lenOf y)
  case atStart => exact ⟨g, [], cW, M0⟩
  case round =>
    obtain ⟨g', l, c', hM⟩ := hrel
    obtain ⟨q, cap, rfl⟩ := own_form hM.out.out
    obtain ⟨ll, el⟩ : ∃ ll, ll = l.length := ⟨_, rfl⟩
    have HL : Hid (ll = l.length) := el
    have hl30 : ll ≤ 30 := by have := hM.out.len; have := hM.out.inv.hd30 m; omega
    have O1 : Hid (wr.ownsRow w.heap.size 3 1 (.slice q ll cap) ll ((ints l).map (Value.int .i64))) := by rw [el]; exact hM.out.out
    rw [← el]
    clear el
    have hmg : m < g'.n := by have := hM.out.n; have := HG.out.2.1; omega
    have HMG : Hid (m < g'.n) := hmg
    clear hmg
    go_wp2_with fail
    refine (least_any hM.out.mem hM.out.inv m HMG.out).mono ?_
    rintro e w1 ⟨rfl, hb⟩
    obtain ⟨b, eb⟩ : ∃ b, b = best g' m 30 := ⟨_, rfl⟩
    have EB : Hid (b = best g' m 30) := eb
    rw [← eb]
    have B1 : Hid (Below wr.heap.size wr w1) := hb
    have G1 : Hid (AF w1 base P mS mb hv (rcH g' c' H)) := hM.out.mem.later hb
    have c0 : w1.cell? ⟨P, 7 + m, none⟩ = some (.map (some (mb m))) := G1.out.cw HMG.out
    have hb30 : b ≤ 30 := by rw [eb]; exact best_le _ _ _
    have HW : Hid ((Lit.int .i64 (b : Int)).wf = true) := wfI (by omega) (by omega)
    have hlk := G1.out.lkW1 HMG.out HW.out (TW_map g' m (x := (b : Int)) (by omega)) w1 rfl
    rw [Int.toNat_natCast] at hlk
    by_cases hs : best g' m 30 ≠ 0 ∧ g'.kn (best g' m 30) m = true
    · have hw := best_wts 30 hs.1
      rw [← eb] at hw hs
      rw [if_pos hw, Option.getD_some, hs.2] at hlk
      obtain ⟨x0, e0⟩ : ∃ x : Int, x = ((ts g' m b).1 : Int) := ⟨_, rfl⟩
      obtain ⟨x1, e1⟩ : ∃ x : Int, x = ((ts g' m b).2 : Int) := ⟨_, rfl⟩
      have hlk' : (Instr.lookup 57 (.map (some (mb m))) (.int .i64 (b : Int)) false).run Try.prog w1 = .ok (.agg #[.int .i64 x0, .int .i64 x1, .bool true]) w1 := by rw [e0, e1]; exact hlk
      have hfd := fldB x0 x1 true
      obtain ⟨W2, e2, m2, t2⟩ := (G1.out.wait m HMG.out).del Try.underlying57 HW.out 0
      have HS : Hid (b ≠ 0 ∧ g'.kn b m = true ∧ wts g' m b = true) := ⟨hs.1, hs.2, hw⟩
      have G2 : Hid (AF W2 base P mS mb hv (rcH (hear g' m b) (up c' m (c' m - 1)) H) ∧ w1.mapTurned W2 (mb m)) := by
        have hq : (rcH g' c' H).W m (b : Int) = some (waV (ts g' m b) (g'.kn b m)) := TW_at hw
        refine ⟨(G1.out.turnW HMG.out m2 t2).congr rfl (fun i => TS_hear g' m b i) rfl (fun j hj i => ?_) (fun j hj => ?_) (fun j hj => rfl) (fun j hj => rfl), t2⟩
        · show TW (hear g' m b) j i = up (TW g') m (delT (TW g' m) (b : Int)) j i
          by_cases e : j = m
          · subst e
            rw [up_same, TW_hear]
          · rw [up_other _ _ e, TW_hear_other e]
        · show up c' m (c' m - 1) j = up c' m _ j
          rw [hq]
          rfl
      have K2 : Hid (Below base wr W2 ∧ KpL wr W2 (fpA P mS g.n mb hv) ∧ W2.heap.size = W2.heap.size ∧ w.heap.size ≤ W2.heap.size) := by
        have s1 := hM.out.low.size
        have hbw : base ≤ wr.heap.size := Nat.le_trans HG.out.2.2 s1
        exact ⟨(B1.out.mono hbw).trans (turned_below t2 (G1.out.low.2.2 m HMG.out)), kp_trans (KpL.below B1.out _) (kp_turned t2 (W_fp HG.out.2.1)), rfl, Nat.le_trans s1 (Nat.le_trans B1.out.size t2.grown.size)⟩
      have O2 : Hid (W2.ownsRow w.heap.size 3 1 (.slice q ll cap) ll ((ints l).map (Value.int .i64))) := by
        refine own_block O1.out fun z hz => K2.out.2.1.2 z (own_lt O1.out z hz).2 fun q => ?_
        have h1 := (own_lt O1.out z hz).1
        have h2 := HG.out.1.fp z q
        omega
      clear hlk e0 e1 hs hw m2 t2 hb eb
      go_wp2_with (at_builtin; refine wpList_append_own _ rfl _ _ 22 rfl w.heap.size 3 ii (.int .i64 0) 1 8 Try.underlying22 HJ.out.1 HJ.out.2.1 HJ.out.2.2.1 HJ.out.2.2.2 rfl (by decide) (.slice q ll cap) ll ((ints l).map (Value.int .i64)) rfl (by exact own_block O2.out fun k hk => Below.heap_alloc _ _ _ (own_lt O2.out k hk).2) ⟨W2.heap.size, 0, none⟩ 1 1 [.int .i64 (b : Int)] rfl rfl (by exact new_int W2 _ rfl _ 3) (int_one _) (by unfold maxLen; omega) (by omega) (by have := K2.out.2.2.2; simp; omega) ?_; intro v1 w4 hown hgrow _; obtain ⟨q1, k1, rfl⟩ := own_form hown; have HO1 : Hid (w4.ownsRow w.heap.size 3 1 (.slice q1 (ll + 1) k1) (ll + 1) ((ints l).map (Value.int .i64) ++ [.int .i64 (b : Int)])) := hown; have HG1 : Hid ((W2.alloc (.cells #[.int .i64 (b : Int)] 3)).grownBy w4 (Value.slice q ll cap).ownBlock) := hgrow; clear hown hgrow)
      go_roundw
      case rel =>
        have hO : Lw w4 w.heap.size (.slice q1 (ll + 1) k1) (l ++ [b]) := by
          have e : ints (l ++ [b]) = ints l ++ [(b : Int)] := by simp [ints]
          show World.ownsRow _ _ _ _ _ _ _
          rw [e, List.length_append, List.map_append, ← HL.out]
          exact HO1.out
        have hbl : ∀ z, z < W2.heap.size → (Value.slice q ll cap).ownBlock ≠ some z → w4.heap[z]? = W2.heap[z]? := fun z hz hn => by
          rw [HG1.out.block z (by simp; omega) (fun e => hn e.symm)]
          exact Below.heap_alloc _ _ _ hz
        have hfp : ∀ z ∈ fpA P mS g.n mb hv, (Value.slice q ll cap).ownBlock ≠ some z := fun z hz e => by
          have h1 := (own_lt O2.out z e).1
          have h2 := HG.out.1.fp z hz
          omega
        have hA : AF w4 base P mS mb hv (rcH (hear g' m b) (up c' m (c' m - 1)) H) := G2.out.1.of_blocks fun z hz => by
          have hz' : z ∈ fpA P mS g.n mb hv := by rw [← hM.out.n]; exact hz
          exact hbl z (G2.out.1.fp z hz).2 (hfp z hz')
        have hBl : Below base W2 w4 := ((Below.refl base W2).alloc (by have := K2.out.2.2.2; have := HG.out.2.2; omega) _).grown HG1.out (by have := K2.out.2.2.2; have := HG.out.2.2; simp; omega) (fun z hz => by have := (own_lt O2.out z hz).1; have := HG.out.2.2; omega)
        have hK : KpL w w4 (fpA P mS g.n mb hv) := by
          refine ⟨Nat.le_trans K2.out.2.2.2 hBl.size, fun z hz hn => ?_⟩
          rw [hbl z (by have := K2.out.2.2.2; omega) (fun e => by have := (own_lt O2.out z e).1; omega)]
          exact (kp_trans hM.out.kp K2.out.2.1).2 z hz hn
        rw [EB.out] at hO hA
        refine ⟨_, _, _, hM.out.go (by rw [← EB.out]; exact HS.out.1) (by rw [← EB.out]; exact HS.out.2.1) hO hA (fun i hi => ?_) ((hM.out.low.trans K2.out.1).trans hBl) hK⟩
        have := hM.out.cw i hi
        by_cases e : i = m
        · rw [e, up_same]
          rw [e] at this
          omega
        · rw [up_other _ _ e]
          exact this
      case measure => simp [lenOf]; omega
    · have hd : ((if wts g' m b = true then some (ts g' m b, g'.kn b m) else none : Option (St × Bool)).getD ((0, 0), false)).2 = false := by
        by_cases hw : wts g' m b = true
        · rw [if_pos hw]
          show g'.kn b m = false
          rw [Bool.eq_false_iff]
          intro z
          refine hs ⟨?_, by rw [← eb]; exact z⟩
          rw [← eb]
          have := hM.out.inv.wtsR hw
          omega
        · rw [if_neg hw]
          rfl
      rw [hd] at hlk
      obtain ⟨x0, e0⟩ : ∃ x : Int, x = (((if wts g' m b = true then some (ts g' m b, g'.kn b m) else none : Option (St × Bool)).getD ((0, 0), false)).1.1 : Int) := ⟨_, rfl⟩
      obtain ⟨x1, e1⟩ : ∃ x : Int, x = (((if wts g' m b = true then some (ts g' m b, g'.kn b m) else none : Option (St × Bool)).getD ((0, 0), false)).1.2 : Int) := ⟨_, rfl⟩
      rw [← e0, ← e1] at hlk
      have hfd := fldB x0 x1 false
      have HS : Hid (¬ (best g' m 30 ≠ 0 ∧ g'.kn (best g' m 30) m = true)) := hs
      clear e0 e1 hs hd hb eb
      go_wp2
      go_ret
      obtain ⟨r1, r2⟩ := hM.out.stop HS.out
      rw [r1, r2]
      have hbw : base ≤ wr.heap.size := Nat.le_trans HG.out.2.2 hM.out.low.size
      refine ⟨_, _, rfl, ?_, G1.out, hM.out.cw, hM.out.low.trans (B1.out.mono hbw), kp_trans hM.out.kp (KpL.below B1.out _)⟩
      show World.ownsRow _ _ _ _ _ _ _
      rw [← HL.out]
      exact own_block O1.out fun z hz => B1.out.block z (own_lt O1.out z hz).2
end Go.Proofs.Ytcccheeeagphpag.Agr
