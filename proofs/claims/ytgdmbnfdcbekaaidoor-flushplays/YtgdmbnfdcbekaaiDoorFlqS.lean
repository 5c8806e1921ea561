/-
  The document's own group that flushes: Check, Say, Give.
-/
import Derived.Test.YtgdmbnfdcbekaaiDoorFlqX
import Derived.Test.YtgdmbnfdcbekaaiDoorVwtI
import Derived.Deep.RegionLaw
import Derived.Deep.RegionHeld
import Derived.Deep.CutBlock
import Derived.Deep.CutRange
namespace Go.Proofs.YtgdmbnfdcbekaaiDoor.Flu
open Go.RowKit
open Go.Proofs.YtgdmbnfdcbekaaiDoor.Fif (own_lt own_block own_form own_vw ret_bool info_int new_int int_one)
open Go.Proofs.YtgdmbnfdcbekaaiDoor.Vec (Vw)
open Go.Proofs.YtgdmbnfdcbekaaiDoor.Viw (refIn ret_iv)
set_option linter.unusedVariables false
variable {w w' : World} {base R g cap : Nat} {f : F} {rv : Nat → Value}

theorem takeH {P : Program} {ops : Array Oper} {Q : Exit → Act → World → Prop} {md : Region.Mode} {S : World → Prop} {i : Nat} (d : Nat) {oi : Oper} {v : Value} {fuel : Nat} {listed : Array Bool} {a : Act} {w : World} (hi : ops[i]? = some oi) (hd : oi.dst = some d)
    (hs : Region.noSelect ops = true) (hf : Region.free md ops listed i = true) (hr : (Region.ready md ops listed).contains i = true)
    (hQ : ∀ c a w, Q (.panic c) (a.put (some d) v) w → Q (.panic c) a w) (hy : YieldsIf P ops S oi v a) (hS : S w)
    (h : wpAnyH P md ops Q S fuel (listed.setIfInBounds i true) (a.put (some d) v) w) : wpAnyH P md ops Q S (fuel + 1) listed a w :=
  wpAnyH_take hi hs hf hr (by rw [hd]; exact hQ) hy hS (by rw [hd]; exact h)
set_option maxRecDepth 100000 in
theorem refCheck (h : RF w base R f rv g cap) (hi : Inv f) (who word : Int) : Calls Tryd.prog 28 #[.pointer (some ⟨R, 0, none⟩), .int .i64 who, .int .i64 word] w fun e w' => e = .returned (.int .i64 (chk f who word)) ∧ w' = w := by
  obtain ⟨q, c, eq, hvw⟩ := h.ints.see (i := 0) (by unfold cntF; omega)
  have c1 := h.main.c1
  rw [eq] at c1
  have el : lsF f 0 = f.v.has := rfl
  rw [el] at c1 hvw
  obtain ⟨l, ell⟩ : ∃ l, l = f.v.has.length := ⟨_, rfl⟩
  rw [← ell] at c1 hvw
  have HV : Hid (Vw w q l f.v.has ∧ l ≤ 5) := ⟨hvw, by rw [ell]; exact has5 hi⟩
  clear hvw eq el ell
  by_cases h1 : who < 0
  · have e : chk f who word = 1 := if_pos (.inl (.inl h1))
    rw [e]
    clear h hi e c1
    go_enter Tryd.func28, Tryd.ntmps28
    go_wp2
    go_ret
    exact ⟨rfl, rfl⟩
  · by_cases h2 : who > 4
    · have e : chk f who word = 1 := if_pos (.inl (.inr h2))
      rw [e]
      clear h hi e c1
      go_enter Tryd.func28, Tryd.ntmps28
      go_wp2
      go_ret
      exact ⟨rfl, rfl⟩
    · by_cases h3 : word < 1
      · have e : chk f who word = 1 := if_pos (.inr (.inl h3))
        rw [e]
        clear h hi e c1
        go_enter Tryd.func28, Tryd.ntmps28
        go_wp2
        go_ret
        exact ⟨rfl, rfl⟩
      · by_cases h4 : word > 30
        · have e : chk f who word = 1 := if_pos (.inr (.inr h4))
          rw [e]
          clear h hi e c1
          go_enter Tryd.func28, Tryd.ntmps28
          go_wp2
          go_ret
          exact ⟨rfl, rfl⟩
        · have e : chk f who word = if who ∈ f.v.has then 0 else 8 := if_neg (by omega)
          rw [e]
          by_cases h5 : who ∈ f.v.has
          · rw [if_pos h5]
            have HC : Hid (f.v.has.contains who = true) := List.contains_iff_mem.2 h5
            clear h hi e h5
            go_enter Tryd.func28, Tryd.ntmps28
            go_wp2_with fail
            refine (refIn q l c f.v.has who w HV.out.1 (by have := HV.out.2; omega)).mono ?_
            rintro e w ⟨rfl, rfl⟩
            rw [HC.out]
            go_wp2
            go_ret
            exact ⟨rfl, rfl⟩
          · rw [if_neg h5]
            have HC : Hid (f.v.has.contains who = false) := by rw [Bool.eq_false_iff]; exact fun z => h5 (List.contains_iff_mem.1 z)
            clear h hi e h5
            go_enter Tryd.func28, Tryd.ntmps28
            go_wp2_with fail
            refine (refIn q l c f.v.has who w HV.out.1 (by have := HV.out.2; omega)).mono ?_
            rintro e w ⟨rfl, rfl⟩
            rw [HC.out]
            go_wp2
            go_ret
            exact ⟨rfl, rfl⟩
/-- one member hears one word more -/
theorem got_rf {w5 : World} {m : Nat} {x : Int} {gg gc k : Nat} {n : Int} {was : Int → Bool} {vh vs : Value} {L : Nat → List Int} {K : Nat} (h : RX w base R (cntF f) n was vh vs L rv g cap K (fun k m => rv (ix k m))) (hK : K = num f + 1) (hm : m < 5) (hg : w.grownBy w5 (rv (ix (num f) m)).ownBlock) (hk : k = (L (ix (num f) m)).length) (ho : w5.ownsRow base 3 1 (.slice (some ⟨gg, 0, none⟩) (k + 1) gc) (k + 1) ((L (ix (num f) m)).map (Value.int .i64) ++ [.int .i64 x])) (hat : (rv (ix (num f) m)).ownBlock = some gg ∨ w.heap.size ≤ gg) :
    RX (w5.setCell ⟨g, num f * 5 + m, none⟩ (.slice (some ⟨gg, 0, none⟩) (k + 1) gc)) base R (cntF f) n was vh vs (upV L (ix (num f) m) (L (ix (num f) m) ++ [x])) (upV rv (ix (num f) m) (.slice (some ⟨gg, 0, none⟩) (k + 1) gc)) g cap K (fun k' m' => upV rv (ix (num f) m) (.slice (some ⟨gg, 0, none⟩) (k + 1) gc) (ix k' m')) ∧ XR w (w5.setCell ⟨g, num f * 5 + m, none⟩ (.slice (some ⟨gg, 0, none⟩) (k + 1) gc)) base R g (cntF f) rv g (cntF f) (upV rv (ix (num f) m) (.slice (some ⟨gg, 0, none⟩) (k + 1) gc)) := by
  obtain ⟨a1, a2⟩ := h.app (ix_lt (Nat.le_refl _) hm) hk hg ho hat
  obtain ⟨b1, b2⟩ := a1.onG (k := num f) (m := m) (by omega) hm (.slice (some ⟨gg, 0, none⟩) (k + 1) gc)
  refine ⟨⟨b1.main, b1.ints, b1.rows.congr fun k' m' hk' hm' => ?_, b1.low⟩, a2.trans b2⟩
  by_cases e : k' = num f ∧ m' = m
  · rw [if_pos e, e.1, e.2, upV_same]
  · rw [if_neg e, upV_other _ _ (fun z => e ((ix_inj hm' hm).1 z))]
/-- what stands in the rows when a word has been said -/
theorem put_ls {m : Nat} {x : Int} {L1 : Nat → List Int} (e : L1 = upV (lsF f) 1 (f.said ++ [x])) (hm : m < 5) : ∀ i, i < cntF f → lsF (put f m x) i = upV L1 (ix (num f) m) (L1 (ix (num f) m) ++ [x]) i := by
  intro i hi
  have eL : L1 (ix (num f) m) = f.hd (num f) m := by rw [e, upV_other _ _ (by have := ix_two (num f) m; omega)]; exact lsF_ix f hm
  rw [eL]
  by_cases e1 : i = ix (num f) m
  · rw [e1, upV_same, lsF_ix _ hm]
    exact up2_same _ _ _ _
  · rw [upV_other _ _ e1, e]
    by_cases e2 : i = 1
    · rw [e2, upV_same]; rfl
    · rw [upV_other _ _ e2]
      unfold lsF
      by_cases e3 : i = 0
      · rw [if_pos e3, if_pos e3]; rfl
      · rw [if_neg e3, if_neg e2, if_neg e3, if_neg e2]
        exact up2_other _ _ fun z => e1 (by unfold ix; omega)
/-- and when one was heard -/
theorem got_ls {m : Nat} {x : Int} (hm : m < 5) : ∀ i, i < cntF f → lsF (got f m x) i = upV (lsF f) (ix (num f) m) (lsF f (ix (num f) m) ++ [x]) i := by
  intro i hi
  rw [lsF_ix f hm]
  by_cases e1 : i = ix (num f) m
  · rw [e1, upV_same, lsF_ix _ hm]
    exact up2_same _ _ _ _
  · rw [upV_other _ _ e1]
    unfold lsF
    by_cases e3 : i = 0
    · rw [if_pos e3, if_pos e3]; rfl
    · by_cases e2 : i = 1
      · rw [if_neg e3, if_pos e2, if_neg e3, if_pos e2]; rfl
      · rw [if_neg e3, if_neg e2, if_neg e3, if_neg e2]
        exact up2_other _ _ fun z => e1 (by unfold ix; omega)
set_option maxRecDepth 100000 in
set_option maxHeartbeats 2000000 in
theorem refSay (who word : Int) (h : RF w base R f rv g cap) (hi : Inv f) (hr : Rng f) (hv : f.v.n ≤ 1000) : Calls Tryd.prog 12 #[.pointer (some ⟨R, 0, none⟩), .int .i64 who, .int .i64 word] w fun e w' => ∃ rv', e = .returned (.int .i64 (sayC f who word)) ∧ FR w w' base R f (say f who word) rv rv' g g cap := by
  have hbw : base ≤ w.heap.size := Nat.le_trans h.low (Nat.le_of_lt (World.rowIs.lt h.main))
  have HF : Hid (RF w base R f rv g cap ∧ Inv f) := ⟨h, hi⟩
  by_cases hc : chk f who word = 0
  · obtain ⟨hw, hwd, hin⟩ := chk_ok hc
    obtain ⟨m, rfl⟩ : ∃ m : Nat, who = (m : Int) := ⟨who.toNat, by omega⟩
    obtain ⟨k, rfl⟩ : ∃ k : Nat, word = (k : Int) := ⟨word.toNat, by omega⟩
    have cw := h.main.cw (k := k) (by omega)
    have zw := h.main.fr (2 + k)
    have hk0 : (0 : Int) ≤ (k : Int) := by omega
    have hk31 : (k : Int) < 31 := by omega
    cases hws : f.was (k : Int)
    · have es : sayC f (m : Int) (k : Int) = 0 := by unfold sayC; rw [if_pos hc, if_neg (by rw [hws]; decide)]
      have ef : say f (m : Int) (k : Int) = put f m (k : Int) := by unfold say; rw [if_pos es, Int.toNat_natCast]
      rw [es, ef]
      rw [hws] at cw
      have hm5 : m < 5 := by omega
      have HRG : Hid (∀ a b, (f.hd a b).length ≤ 30) := fun a b => hd_len hi hr b a
      obtain ⟨N, eN⟩ : ∃ N, N = num f := ⟨_, rfl⟩
      have eNn : f.v.n = (N : Int) := by rw [eN]; exact hi.numI.symm
      obtain ⟨K, eK⟩ : ∃ K, K = num f + 1 := ⟨_, rfl⟩
      have hN0 : (0 : Int) ≤ (N : Int) := by omega
      have hNK : (N : Int) < (K : Int) := by omega
      have hm0 : (0 : Int) ≤ (m : Int) := by omega
      have hm5' : (m : Int) < 5 := by omega
      obtain ⟨ii, hii, hz0, hz1, hz2⟩ := info_int
      have HJ : Hid (Tryd.prog.info? 3 = some ii ∧ ii.zero = some (.int .i64 0) ∧ ii.size = 1 ∧ ii.bytes = 8) := ⟨hii, hz0, hz1, hz2⟩
      have HC : Hid (chk f (m : Int) (k : Int) = 0 ∧ base ≤ w.heap.size ∧ N = num f ∧ K = num f + 1 ∧ m < 5 ∧ k < 31) := ⟨hc, hbw, eN, eK, hm5, by omega⟩
      obtain ⟨W1, eW1⟩ : ∃ W1, W1 = w.setCell ⟨R, 2 + k, none⟩ (.bool true) := ⟨_, rfl⟩
      obtain ⟨qs, cs, es1, -⟩ := h.ints.see (i := 1) (by unfold cntF; omega)
      have el : lsF f 1 = f.said := rfl
      rw [el] at es1
      obtain ⟨ls, els⟩ : ∃ ls, ls = f.said.length := ⟨_, rfl⟩
      have hls : ls ≤ 30 := by rw [els]; exact said30 hi
      rw [← els] at es1
      have X1 : Hid (RX W1 base R (cntF f) (N : Int) (fun x => if x = (k : Int) then true else f.was x) (rv 0) (.slice qs ls cs) (lsF f) rv g cap K (fun k m => rv (ix k m)) ∧ XR w W1 base R g (cntF f) rv g (cntF f) rv ∧ rv 1 = .slice qs ls cs ∧ ls = f.said.length) := by
        have z := h.rx.onR (h.main.setW (k := k) (by omega))
        rw [← eW1] at z
        rw [eK, ← es1, ← eNn]
        exact ⟨z.1, z.2, rfl, els⟩
      have x33 := X1.out.1.main.cs
      have z33 := X1.out.1.main.fr 33
      have hRl := X1.out.1.lt
      have OS : Hid (W1.ownsRow base 3 1 (.slice qs ls cs) ls (f.said.map (Value.int .i64)) ∧ base ≤ W1.heap.size ∧ some R ≠ (Value.slice qs ls cs).ownBlock) := by
        have o : W1.ownsRow base 3 1 (rv 1) f.said.length (f.said.map (Value.int .i64)) := X1.out.1.ints.own 1 (by unfold cntF; omega)
        rw [X1.out.2.2.1, ← els] at o
        refine ⟨o, Nat.le_trans X1.out.1.low (Nat.le_of_lt X1.out.1.lt), fun e => ?_⟩
        exact (X1.out.1.neI (i := 1) (b := R) (by unfold cntF; omega) (by rw [X1.out.2.2.1]; exact e.symm)).1 rfl
      clear h hi hr hc es ef hws hin hbw hv hii hz0 hz1 hz2 eN eNn eK es1 el els hm5
      go_enter Tryd.func12, Tryd.ntmps12
      go_wp2_with fail
      refine (refCheck HF.out.1 HF.out.2 (m : Int) (k : Int)).mono ?_
      rintro e w ⟨rfl, rfl⟩
      rw [HC.out.1]
      go_upto_region 7 with fail
      rw [← eW1]
      clear eW1 cw zw
      go_upto_region 8 with (at_builtin; refine wpList_append_lies _ rfl _ _ 28 rfl base 3 ii (.int .i64 0) 1 8 Tryd.underlying28 HJ.out.1 HJ.out.2.1 HJ.out.2.2.1 HJ.out.2.2.2 rfl (by decide) (.slice qs ls cs) ls (f.said.map (Value.int .i64)) rfl (by exact own_pushF OS.out.1 rfl) ⟨W1.heap.size, 0, none⟩ 1 1 [.int .i64 (k : Int)] rfl rfl (by exact new_pushF rfl) (int_one _) (by omega) (by unfold maxLen; omega) (by omega) (by have := OS.out.2.1; simp; omega) (W1.heap.size + 1) (by simp) ?_; intro gs gc w3 hown hgrow hat hlt3; have HG3 : Hid (W1.grownBy w3 (Value.slice qs ls cs).ownBlock) := grown_tmpF hgrow rfl rfl rfl rfl; have HO3 : Hid (w3.ownsRow base 3 1 (.slice (some ⟨gs, 0, none⟩) (ls + 1) gc) (ls + 1) (f.said.map (Value.int .i64) ++ [.int .i64 (k : Int)]) ∧ ((Value.slice qs ls cs).ownBlock = some gs ∨ W1.heap.size ≤ gs)) := ⟨hown, hat.imp id (fun e => by omega)⟩; have l3 : w3.cell? ⟨R, 33, none⟩ = some (.slice qs ls cs) := (HG3.out.cell_far ⟨R, 33, none⟩ hRl OS.out.2.2).trans x33; have m3 : w3.frozen? ⟨R, 33, none⟩ = false := (HG3.out.frozen_far ⟨R, 33, none⟩ hRl OS.out.2.2).trans z33; clear hown hgrow hat hlt3)
      obtain ⟨W4, eW4⟩ : ∃ W4, W4 = w3.setCell ⟨R, 33, none⟩ (.slice (some ⟨gs, 0, none⟩) (ls + 1) gc) := ⟨_, rfl⟩
      rw [← eW4]
      obtain ⟨rv1, erv1⟩ : ∃ rv1, rv1 = upV rv 1 (.slice (some ⟨gs, 0, none⟩) (ls + 1) gc) := ⟨_, rfl⟩
      obtain ⟨L1, eL1⟩ : ∃ L1, L1 = upV (lsF f) 1 (f.said ++ [(k : Int)]) := ⟨_, rfl⟩
      have X4 : Hid (RX W4 base R (cntF f) (N : Int) (fun x => if x = (k : Int) then true else f.was x) (rv 0) (.slice (some ⟨gs, 0, none⟩) (ls + 1) gc) L1 rv1 g cap K (fun k m => rv1 (ix k m)) ∧ XR w W4 base R g (cntF f) rv g (cntF f) rv1) := by
        obtain ⟨a1, a2⟩ := X1.out.1.app (i := 1) (k := ls) (gg := gs) (gc := gc) (x := (k : Int)) (by unfold cntF; omega) X1.out.2.2.2 (by rw [X1.out.2.2.1]; exact HG3.out) HO3.out.1 (by rw [X1.out.2.2.1]; exact HO3.out.2)
        have z := a1.onR (a1.main.setS (.slice (some ⟨gs, 0, none⟩) (ls + 1) gc))
        rw [← eW4] at z
        rw [erv1, eL1]
        refine ⟨⟨z.1.main, z.1.ints, z.1.rows.congr fun k m _ hm => ?_, z.1.low⟩, (X1.out.2.1.trans a2).trans z.2⟩
        exact upV_other _ _ (by have := ix_two k m; omega)
      clear eW4 l3 m3 x33 z33 hRl OS HG3 HO3 X1
      have hix : ix N m < cntF f := by rw [HC.out.2.2.1]; exact ix_lt (Nat.le_refl _) HC.out.2.2.2.2.1
      obtain ⟨qh, ch, eh, -⟩ := X4.out.1.ints.see hix
      obtain ⟨lh, elh⟩ : ∃ lh, lh = (L1 (ix N m)).length := ⟨_, rfl⟩
      rw [← elh] at eh
      have eLh : L1 (ix N m) = f.hd N m := by rw [eL1, upV_other _ _ (by have := ix_two N m; omega)]; exact lsF_ix f HC.out.2.2.2.2.1
      have hlh : lh ≤ 30 := by rw [elh, eLh]; exact HRG.out N m
      have y0 := X4.out.1.main.c0
      have y34 := X4.out.1.main.cr
      have yg := X4.out.1.rows.cell (k := N) (m := m) (by have := HC.out; omega) HC.out.2.2.2.2.1
      have yz := X4.out.1.rows.frozen (N * 5 + m)
      have hgl := X4.out.1.rows.lt
      have hR4 := X4.out.1.lt
      have hgR := X4.out.1.neG
      rw [eh] at yg
      have OH : Hid (W4.ownsRow base 3 1 (.slice qh lh ch) lh ((L1 (ix N m)).map (Value.int .i64)) ∧ base ≤ W4.heap.size ∧ some g ≠ (Value.slice qh lh ch).ownBlock ∧ rv1 (ix N m) = .slice qh lh ch ∧ lh = (L1 (ix N m)).length ∧ some R ≠ (Value.slice qh lh ch).ownBlock) := by
        have o : W4.ownsRow base 3 1 (rv1 (ix N m)) (L1 (ix N m)).length ((L1 (ix N m)).map (Value.int .i64)) := X4.out.1.ints.own _ hix
        rw [eh, ← elh] at o
        refine ⟨o, Nat.le_trans X4.out.1.low (Nat.le_of_lt X4.out.1.lt), fun e => ?_, eh, elh, fun e => ?_⟩
        · exact (X4.out.1.neI (b := g) hix (by rw [eh]; exact e.symm)).2 rfl
        · exact (X4.out.1.neI (b := R) hix (by rw [eh]; exact e.symm)).1 rfl
      have ER : Hid (rv1 = upV rv 1 (.slice (some ⟨gs, 0, none⟩) (ls + 1) gc) ∧ L1 = upV (lsF f) 1 (f.said ++ [(k : Int)])) := ⟨erv1, eL1⟩
      clear erv1 eL1 elh eLh eh hix
      refine wp_region_held_drew (S := fun X => X.cell? ⟨R, 0, none⟩ = some (.int .i64 (N : Int)) ∧ X.cell? ⟨R, 34, none⟩ = some (.slice (some ⟨g, 0, none⟩) K cap)) (by kernel_rfl) ⟨y0, y34⟩ ?_
      intro hS
      refine takeH (i := 0) 36 (v := .pointer (some ⟨R, 0, none⟩)) rfl rfl (by kernel_rfl) (by kernel_rfl) (by kernel_rfl) (fun _ _ _ h => h) (Or.inl ⟨by kernel_rfl, fun _ hS => by first | rfl | (obtain ⟨g0, g34⟩ := hS; go_simp)⟩) hS ?_
      try simp only [Act.put, List.setIfInBounds_toArray, List.set_cons_zero, List.set_cons_succ]
      refine takeH (i := 1) 37 (v := .pointer (some ⟨R, 0, none⟩)) rfl rfl (by kernel_rfl) (by kernel_rfl) (by kernel_rfl) (fun _ _ _ h => h) (Or.inl ⟨by kernel_rfl, fun _ hS => by first | rfl | (obtain ⟨g0, g34⟩ := hS; go_simp)⟩) hS ?_
      try simp only [Act.put, List.setIfInBounds_toArray, List.set_cons_zero, List.set_cons_succ]
      refine takeH (i := 2) 38 (v := .pointer (some ⟨R, 34, none⟩)) rfl rfl (by kernel_rfl) (by kernel_rfl) (by kernel_rfl) (fun _ _ _ h => h) (Or.inl ⟨by kernel_rfl, fun _ hS => by first | rfl | (obtain ⟨g0, g34⟩ := hS; go_simp)⟩) hS ?_
      try simp only [Act.put, List.setIfInBounds_toArray, List.set_cons_zero, List.set_cons_succ]
      refine takeH (i := 3) 39 (v := .slice (some ⟨g, 0, none⟩) K cap) rfl rfl (by kernel_rfl) (by kernel_rfl) (by kernel_rfl) (fun _ _ _ h => h) (Or.inl ⟨by kernel_rfl, fun _ hS => by first | rfl | (obtain ⟨g0, g34⟩ := hS; go_simp)⟩) hS ?_
      try simp only [Act.put, List.setIfInBounds_toArray, List.set_cons_zero, List.set_cons_succ]
      refine takeH (i := 4) 40 (v := .pointer (some ⟨R, 0, none⟩)) rfl rfl (by kernel_rfl) (by kernel_rfl) (by kernel_rfl) (fun _ _ _ h => h) (Or.inl ⟨by kernel_rfl, fun _ hS => by first | rfl | (obtain ⟨g0, g34⟩ := hS; go_simp)⟩) hS ?_
      try simp only [Act.put, List.setIfInBounds_toArray, List.set_cons_zero, List.set_cons_succ]
      refine takeH (i := 5) 41 (v := .pointer (some ⟨R, 0, none⟩)) rfl rfl (by kernel_rfl) (by kernel_rfl) (by kernel_rfl) (fun _ _ _ h => h) (Or.inl ⟨by kernel_rfl, fun _ hS => by first | rfl | (obtain ⟨g0, g34⟩ := hS; go_simp)⟩) hS ?_
      try simp only [Act.put, List.setIfInBounds_toArray, List.set_cons_zero, List.set_cons_succ]
      refine takeH (i := 6) 42 (v := .pointer (some ⟨R, 0, none⟩)) rfl rfl (by kernel_rfl) (by kernel_rfl) (by kernel_rfl) (fun _ _ _ h => h) (Or.inl ⟨by kernel_rfl, fun _ hS => by first | rfl | (obtain ⟨g0, g34⟩ := hS; go_simp)⟩) hS ?_
      try simp only [Act.put, List.setIfInBounds_toArray, List.set_cons_zero, List.set_cons_succ]
      refine takeH (i := 7) 43 (v := .pointer (some ⟨R, 0, none⟩)) rfl rfl (by kernel_rfl) (by kernel_rfl) (by kernel_rfl) (fun _ _ _ h => h) (Or.inl ⟨by kernel_rfl, fun _ hS => by first | rfl | (obtain ⟨g0, g34⟩ := hS; go_simp)⟩) hS ?_
      try simp only [Act.put, List.setIfInBounds_toArray, List.set_cons_zero, List.set_cons_succ]
      refine takeH (i := 8) 44 (v := .int .i64 (N : Int)) rfl rfl (by kernel_rfl) (by kernel_rfl) (by kernel_rfl) (fun _ _ _ h => h) (Or.inl ⟨by kernel_rfl, fun _ hS => by first | rfl | (obtain ⟨g0, g34⟩ := hS; go_simp)⟩) hS ?_
      try simp only [Act.put, List.setIfInBounds_toArray, List.set_cons_zero, List.set_cons_succ]
      refine takeH (i := 9) 45 (v := .int .i64 (m : Int)) rfl rfl (by kernel_rfl) (by kernel_rfl) (by kernel_rfl) (fun _ _ _ h => h) (Or.inl ⟨by kernel_rfl, fun _ hS => by first | rfl | (obtain ⟨g0, g34⟩ := hS; go_simp)⟩) hS ?_
      try simp only [Act.put, List.setIfInBounds_toArray, List.set_cons_zero, List.set_cons_succ]
      refine takeH (i := 10) 46 (v := .pointer (some ⟨R, 0, none⟩)) rfl rfl (by kernel_rfl) (by kernel_rfl) (by kernel_rfl) (fun _ _ _ h => h) (Or.inl ⟨by kernel_rfl, fun _ hS => by first | rfl | (obtain ⟨g0, g34⟩ := hS; go_simp)⟩) hS ?_
      try simp only [Act.put, List.setIfInBounds_toArray, List.set_cons_zero, List.set_cons_succ]
      refine takeH (i := 11) 47 (v := .pointer (some ⟨R, 0, none⟩)) rfl rfl (by kernel_rfl) (by kernel_rfl) (by kernel_rfl) (fun _ _ _ h => h) (Or.inl ⟨by kernel_rfl, fun _ hS => by first | rfl | (obtain ⟨g0, g34⟩ := hS; go_simp)⟩) hS ?_
      try simp only [Act.put, List.setIfInBounds_toArray, List.set_cons_zero, List.set_cons_succ]
      refine takeH (i := 12) 48 (v := .pointer (some ⟨R, 34, none⟩)) rfl rfl (by kernel_rfl) (by kernel_rfl) (by kernel_rfl) (fun _ _ _ h => h) (Or.inl ⟨by kernel_rfl, fun _ hS => by first | rfl | (obtain ⟨g0, g34⟩ := hS; go_simp)⟩) hS ?_
      try simp only [Act.put, List.setIfInBounds_toArray, List.set_cons_zero, List.set_cons_succ]
      refine takeH (i := 13) 49 (v := .slice (some ⟨g, 0, none⟩) K cap) rfl rfl (by kernel_rfl) (by kernel_rfl) (by kernel_rfl) (fun _ _ _ h => h) (Or.inl ⟨by kernel_rfl, fun _ hS => by first | rfl | (obtain ⟨g0, g34⟩ := hS; go_simp)⟩) hS ?_
      try simp only [Act.put, List.setIfInBounds_toArray, List.set_cons_zero, List.set_cons_succ]
      refine takeH (i := 14) 50 (v := .pointer (some ⟨R, 0, none⟩)) rfl rfl (by kernel_rfl) (by kernel_rfl) (by kernel_rfl) (fun _ _ _ h => h) (Or.inl ⟨by kernel_rfl, fun _ hS => by first | rfl | (obtain ⟨g0, g34⟩ := hS; go_simp)⟩) hS ?_
      try simp only [Act.put, List.setIfInBounds_toArray, List.set_cons_zero, List.set_cons_succ]
      refine takeH (i := 15) 51 (v := .pointer (some ⟨R, 0, none⟩)) rfl rfl (by kernel_rfl) (by kernel_rfl) (by kernel_rfl) (fun _ _ _ h => h) (Or.inl ⟨by kernel_rfl, fun _ hS => by first | rfl | (obtain ⟨g0, g34⟩ := hS; go_simp)⟩) hS ?_
      try simp only [Act.put, List.setIfInBounds_toArray, List.set_cons_zero, List.set_cons_succ]
      refine takeH (i := 16) 52 (v := .pointer (some ⟨R, 0, none⟩)) rfl rfl (by kernel_rfl) (by kernel_rfl) (by kernel_rfl) (fun _ _ _ h => h) (Or.inl ⟨by kernel_rfl, fun _ hS => by first | rfl | (obtain ⟨g0, g34⟩ := hS; go_simp)⟩) hS ?_
      try simp only [Act.put, List.setIfInBounds_toArray, List.set_cons_zero, List.set_cons_succ]
      refine takeH (i := 17) 53 (v := .pointer (some ⟨R, 0, none⟩)) rfl rfl (by kernel_rfl) (by kernel_rfl) (by kernel_rfl) (fun _ _ _ h => h) (Or.inl ⟨by kernel_rfl, fun _ hS => by first | rfl | (obtain ⟨g0, g34⟩ := hS; go_simp)⟩) hS ?_
      try simp only [Act.put, List.setIfInBounds_toArray, List.set_cons_zero, List.set_cons_succ]
      refine takeH (i := 18) 54 (v := .int .i64 (N : Int)) rfl rfl (by kernel_rfl) (by kernel_rfl) (by kernel_rfl) (fun _ _ _ h => h) (Or.inl ⟨by kernel_rfl, fun _ hS => by first | rfl | (obtain ⟨g0, g34⟩ := hS; go_simp)⟩) hS ?_
      try simp only [Act.put, List.setIfInBounds_toArray, List.set_cons_zero, List.set_cons_succ]
      refine takeH (i := 19) 55 (v := .int .i64 (m : Int)) rfl rfl (by kernel_rfl) (by kernel_rfl) (by kernel_rfl) (fun _ _ _ h => h) (Or.inl ⟨by kernel_rfl, fun _ hS => by first | rfl | (obtain ⟨g0, g34⟩ := hS; go_simp)⟩) hS ?_
      try simp only [Act.put, List.setIfInBounds_toArray, List.set_cons_zero, List.set_cons_succ]
      refine takeH (i := 20) 56 (v := .pointer (some ⟨g, N * 5, none⟩)) rfl rfl (by kernel_rfl) (by kernel_rfl) (by kernel_rfl) (fun _ _ _ h => h) (Or.inl ⟨by kernel_rfl, fun _ hS => by first | rfl | (obtain ⟨g0, g34⟩ := hS; go_simp)⟩) hS ?_
      try simp only [Act.put, List.setIfInBounds_toArray, List.set_cons_zero, List.set_cons_succ]
      refine takeH (i := 21) 57 (v := .pointer (some ⟨g, N * 5 + m, none⟩)) rfl rfl (by kernel_rfl) (by kernel_rfl) (by kernel_rfl) (fun _ _ _ h => h) (Or.inl ⟨by kernel_rfl, fun _ hS => by first | rfl | (obtain ⟨g0, g34⟩ := hS; go_simp)⟩) hS ?_
      try simp only [Act.put, List.setIfInBounds_toArray, List.set_cons_zero, List.set_cons_succ]
      refine takeH (i := 23) 59 (v := .int .i64 (k : Int)) rfl rfl (by kernel_rfl) (by kernel_rfl) (by kernel_rfl) (fun _ _ _ h => h) (Or.inl ⟨by kernel_rfl, fun _ hS => by first | rfl | (obtain ⟨g0, g34⟩ := hS; go_simp)⟩) hS ?_
      try simp only [Act.put, List.setIfInBounds_toArray, List.set_cons_zero, List.set_cons_succ]
      refine takeH (i := 26) 62 (v := .pointer (some ⟨g, N * 5, none⟩)) rfl rfl (by kernel_rfl) (by kernel_rfl) (by kernel_rfl) (fun _ _ _ h => h) (Or.inl ⟨by kernel_rfl, fun _ hS => by first | rfl | (obtain ⟨g0, g34⟩ := hS; go_simp)⟩) hS ?_
      try simp only [Act.put, List.setIfInBounds_toArray, List.set_cons_zero, List.set_cons_succ]
      refine wpAnyH_ready (rs := [22, 24]) (by kernel_rfl) (by simp) ?_
      refine AllReadyH.cons rfl (fun K9 hK9 => ?_) (AllReadyH.cons rfl (fun K9 hK9 => ?_) AllReadyH.nil)
      · go_simp
        refine hK9.out _ _ hS (fun hS => ?_)
        clear hK9 K9
        refine wpAnyH_ready (rs := [24]) (by kernel_rfl) (by simp) ?_
        refine AllReadyH.cons rfl (fun K9 hK9 => ?_) AllReadyH.nil
        go_simp
        refine hK9.out _ _ ⟨(World.cell?_alloc_lt _ _ _ hR4).trans y0, (World.cell?_alloc_lt _ _ _ hR4).trans y34⟩ (fun hS => ?_)
        clear hK9 K9
        refine wpAnyH_ready (rs := [25]) (by kernel_rfl) (by simp) ?_
        refine AllReadyH.cons rfl (fun K9 hK9 => ?_) AllReadyH.nil
        (refine step_append_lies _ (by rfl) _ _ _ (by rfl) base 3 ii (.int .i64 0) 1 8 Tryd.underlying28 HJ.out.1 HJ.out.2.1 HJ.out.2.2.1 HJ.out.2.2.2 rfl (by omega) (.slice qh lh ch) lh ((L1 (ix N m)).map (Value.int .i64)) (by rfl) (by exact own_pushF OH.out.1 rfl) ⟨W4.heap.size, 0, none⟩ 1 1 [.int .i64 (k : Int)] (by rfl) (by rfl) (by exact new_pushF rfl) (int_one _) (by omega) (by unfold maxLen; omega) (by omega) (by have := OH.out.2.1; simp; omega) (W4.heap.size + 1) (by simp) ?_; intro gh gc5 w5 hown hgrow hat hlt5; have HG5 : Hid (W4.grownBy w5 (Value.slice qh lh ch).ownBlock) := grown_tmpF hgrow rfl rfl rfl rfl; have HO5 : Hid (w5.ownsRow base 3 1 (.slice (some ⟨gh, 0, none⟩) (lh + 1) gc5) (lh + 1) ((L1 (ix N m)).map (Value.int .i64) ++ [.int .i64 (k : Int)]) ∧ ((Value.slice qh lh ch).ownBlock = some gh ∨ W4.heap.size ≤ gh)) := ⟨hown, (hat.imp id (fun e => by omega))⟩; have l5 : w5.cell? ⟨g, N * 5 + m, none⟩ = some (.slice qh lh ch) := (HG5.out.cell_far ⟨g, N * 5 + m, none⟩ hgl OH.out.2.2.1).trans yg; have m5 : w5.frozen? ⟨g, N * 5 + m, none⟩ = false := (HG5.out.frozen_far ⟨g, N * 5 + m, none⟩ hgl OH.out.2.2.1).trans yz; have r5 : w5.cell? ⟨R, 34, none⟩ = some (.slice (some ⟨g, 0, none⟩) K cap) := (HG5.out.cell_far ⟨R, 34, none⟩ hR4 OH.out.2.2.2.2.2).trans y34; have s5 : w5.cell? ⟨R, 0, none⟩ = some (.int .i64 (N : Int)) := (HG5.out.cell_far ⟨R, 0, none⟩ hR4 OH.out.2.2.2.2.2).trans y0; clear hown hgrow hat hlt5)
        refine hK9.out _ _ ⟨s5, r5⟩ (fun hS => ?_)
        clear hK9 K9
        refine takeH (i := 27) 63 (v := .pointer (some ⟨g, N * 5 + m, none⟩)) rfl rfl (by kernel_rfl) (by kernel_rfl) (by kernel_rfl) (fun _ _ _ h => h) (Or.inl ⟨by kernel_rfl, fun _ hS => by first | rfl | (obtain ⟨g0, g34⟩ := hS; go_simp)⟩) hS ?_
        refine wpAnyH_ready (rs := [28]) (by kernel_rfl) (by simp) ?_
        refine AllReadyH.cons rfl (fun K9 hK9 => ?_) AllReadyH.nil
        go_simp
        refine hK9.out _ _ ⟨(World.cell?_setCell_far _ _ _ _ hgR).trans s5, (World.cell?_setCell_far _ _ _ _ hgR).trans r5⟩ (fun hS => ?_)
        clear hK9 K9
        refine wpAnyH_done (by kernel_rfl) ?_ _
        obtain ⟨W6, eW6⟩ : ∃ W6, W6 = w5.setCell ⟨g, N * 5 + m, none⟩ (.slice (some ⟨gh, 0, none⟩) (lh + 1) gc5) := ⟨_, rfl⟩
        rw [← eW6]
        have X6 : Hid (∃ rv', FR w W6 base R f (put f m (k : Int)) rv rv' g g cap) := by
          have hN := HC.out.2.2.1
          subst hN
          obtain ⟨a1, a2⟩ := got_rf X4.out.1 HC.out.2.2.2.1 HC.out.2.2.2.2.1 (by rw [OH.out.2.2.2.1]; exact HG5.out) OH.out.2.2.2.2.1 HO5.out.1 (by rw [OH.out.2.2.2.1]; exact HO5.out.2)
          rw [← eW6] at a1 a2
          refine ⟨_, FR.of (a1.rf (f' := put f m (k : Int)) rfl ?_ (fun _ _ _ => rfl) ?_ ?_ ?_ HC.out.2.2.2.1 (fun _ _ _ _ => rfl)) (X4.out.2.trans a2)⟩
          · exact HF.out.2.numI
          · rw [upV_other _ _ (by have := ix_two (num f) m; omega), ER.out.1, upV_other _ _ (by omega)]
          · rw [upV_other _ _ (by have := ix_two (num f) m; omega), ER.out.1, upV_same]
          · exact put_ls ER.out.2 HC.out.2.2.2.2.1
        clear eW6 l5 m5 r5 s5
        go_wp2
        go_ret
        obtain ⟨rv', z⟩ := X6.out
        exact ⟨rv', rfl, z⟩
      · go_simp
        refine hK9.out _ _ ⟨(World.cell?_alloc_lt _ _ _ hR4).trans y0, (World.cell?_alloc_lt _ _ _ hR4).trans y34⟩ (fun hS => ?_)
        clear hK9 K9
        refine wpAnyH_ready (rs := [22]) (by kernel_rfl) (by simp) ?_
        refine AllReadyH.cons rfl (fun K9 hK9 => ?_) AllReadyH.nil
        go_simp
        refine hK9.out _ _ ⟨(World.cell?_alloc_lt _ _ _ hR4).trans y0, (World.cell?_alloc_lt _ _ _ hR4).trans y34⟩ (fun hS => ?_)
        clear hK9 K9
        refine wpAnyH_ready (rs := [25]) (by kernel_rfl) (by simp) ?_
        refine AllReadyH.cons rfl (fun K9 hK9 => ?_) AllReadyH.nil
        (refine step_append_lies _ (by rfl) _ _ _ (by rfl) base 3 ii (.int .i64 0) 1 8 Tryd.underlying28 HJ.out.1 HJ.out.2.1 HJ.out.2.2.1 HJ.out.2.2.2 rfl (by omega) (.slice qh lh ch) lh ((L1 (ix N m)).map (Value.int .i64)) (by rfl) (by exact own_pushF OH.out.1 rfl) ⟨W4.heap.size, 0, none⟩ 1 1 [.int .i64 (k : Int)] (by rfl) (by rfl) (by exact new_pushF rfl) (int_one _) (by omega) (by unfold maxLen; omega) (by omega) (by have := OH.out.2.1; simp; omega) (W4.heap.size + 1) (by simp) ?_; intro gh gc5 w5 hown hgrow hat hlt5; have HG5 : Hid (W4.grownBy w5 (Value.slice qh lh ch).ownBlock) := grown_tmpF hgrow rfl rfl rfl rfl; have HO5 : Hid (w5.ownsRow base 3 1 (.slice (some ⟨gh, 0, none⟩) (lh + 1) gc5) (lh + 1) ((L1 (ix N m)).map (Value.int .i64) ++ [.int .i64 (k : Int)]) ∧ ((Value.slice qh lh ch).ownBlock = some gh ∨ W4.heap.size ≤ gh)) := ⟨hown, (hat.imp id (fun e => by omega))⟩; have l5 : w5.cell? ⟨g, N * 5 + m, none⟩ = some (.slice qh lh ch) := (HG5.out.cell_far ⟨g, N * 5 + m, none⟩ hgl OH.out.2.2.1).trans yg; have m5 : w5.frozen? ⟨g, N * 5 + m, none⟩ = false := (HG5.out.frozen_far ⟨g, N * 5 + m, none⟩ hgl OH.out.2.2.1).trans yz; have r5 : w5.cell? ⟨R, 34, none⟩ = some (.slice (some ⟨g, 0, none⟩) K cap) := (HG5.out.cell_far ⟨R, 34, none⟩ hR4 OH.out.2.2.2.2.2).trans y34; have s5 : w5.cell? ⟨R, 0, none⟩ = some (.int .i64 (N : Int)) := (HG5.out.cell_far ⟨R, 0, none⟩ hR4 OH.out.2.2.2.2.2).trans y0; clear hown hgrow hat hlt5)
        refine hK9.out _ _ ⟨s5, r5⟩ (fun hS => ?_)
        clear hK9 K9
        refine takeH (i := 27) 63 (v := .pointer (some ⟨g, N * 5 + m, none⟩)) rfl rfl (by kernel_rfl) (by kernel_rfl) (by kernel_rfl) (fun _ _ _ h => h) (Or.inl ⟨by kernel_rfl, fun _ hS => by first | rfl | (obtain ⟨g0, g34⟩ := hS; go_simp)⟩) hS ?_
        refine wpAnyH_ready (rs := [28]) (by kernel_rfl) (by simp) ?_
        refine AllReadyH.cons rfl (fun K9 hK9 => ?_) AllReadyH.nil
        go_simp
        refine hK9.out _ _ ⟨(World.cell?_setCell_far _ _ _ _ hgR).trans s5, (World.cell?_setCell_far _ _ _ _ hgR).trans r5⟩ (fun hS => ?_)
        clear hK9 K9
        refine wpAnyH_done (by kernel_rfl) ?_ _
        obtain ⟨W6, eW6⟩ : ∃ W6, W6 = w5.setCell ⟨g, N * 5 + m, none⟩ (.slice (some ⟨gh, 0, none⟩) (lh + 1) gc5) := ⟨_, rfl⟩
        rw [← eW6]
        have X6 : Hid (∃ rv', FR w W6 base R f (put f m (k : Int)) rv rv' g g cap) := by
          have hN := HC.out.2.2.1
          subst hN
          obtain ⟨a1, a2⟩ := got_rf X4.out.1 HC.out.2.2.2.1 HC.out.2.2.2.2.1 (by rw [OH.out.2.2.2.1]; exact HG5.out) OH.out.2.2.2.2.1 HO5.out.1 (by rw [OH.out.2.2.2.1]; exact HO5.out.2)
          rw [← eW6] at a1 a2
          refine ⟨_, FR.of (a1.rf (f' := put f m (k : Int)) rfl ?_ (fun _ _ _ => rfl) ?_ ?_ ?_ HC.out.2.2.2.1 (fun _ _ _ _ => rfl)) (X4.out.2.trans a2)⟩
          · exact HF.out.2.numI
          · rw [upV_other _ _ (by have := ix_two (num f) m; omega), ER.out.1, upV_other _ _ (by omega)]
          · rw [upV_other _ _ (by have := ix_two (num f) m; omega), ER.out.1, upV_same]
          · exact put_ls ER.out.2 HC.out.2.2.2.2.1
        clear eW6 l5 m5 r5 s5
        go_wp2
        go_ret
        obtain ⟨rv', z⟩ := X6.out
        exact ⟨rv', rfl, z⟩
    · have es : sayC f (m : Int) (k : Int) = 7 := by unfold sayC; rw [if_pos hc, if_pos hws]
      have ef : say f (m : Int) (k : Int) = f := if_neg (by rw [es]; decide)
      rw [es, ef]
      rw [hws] at cw
      have HC : Hid (chk f (m : Int) (k : Int) = 0 ∧ base ≤ w.heap.size) := ⟨hc, hbw⟩
      clear h hi hr hc es ef hws hin hbw hv
      go_enter Tryd.func12, Tryd.ntmps12
      go_wp2_with fail
      refine (refCheck HF.out.1 HF.out.2 (m : Int) (k : Int)).mono ?_
      rintro e w ⟨rfl, rfl⟩
      rw [HC.out.1]
      go_wp2
      go_ret
      exact ⟨rv, rfl, FR.still HF.out.1 HC.out.2 (Below.refl _ _)⟩
  · have es : sayC f who word = chk f who word := if_neg hc
    have ef : say f who word = f := if_neg (by rw [es]; exact hc)
    rw [es, ef]
    obtain ⟨cc, ecc⟩ : ∃ cc, cc = chk f who word := ⟨_, rfl⟩
    have HC : Hid (cc = chk f who word ∧ base ≤ w.heap.size) := ⟨ecc, hbw⟩
    have hcc : (cc != 0) = true := by rw [bne_iff_ne, ecc]; exact hc
    rw [← ecc]
    clear h hi hr hc es ef ecc hbw hv
    go_enter Tryd.func12, Tryd.ntmps12
    go_wp2_with fail
    refine (refCheck HF.out.1 HF.out.2 who word).mono ?_
    rintro e w ⟨rfl, rfl⟩
    rw [← HC.out.1]
    go_wp2
    go_ret
    exact ⟨rv, rfl, FR.still HF.out.1 HC.out.2 (Below.refl _ _)⟩
end Go.Proofs.YtgdmbnfdcbekaaiDoor.Flu
