/-
  Contracts of package flush's hear and Heard.
-/
import Derived.Test.YtgdmbnfdcbekaaiDoorFluC
import Derived.Deep.RegionLaw
import Derived.Deep.RegionHeld
import Derived.Deep.CutBlock
import Derived.Deep.CutRange
namespace Go.Proofs.YtgdmbnfdcbekaaiDoor.Flu
open Go.RowKit Go.Maps
open Go.Proofs.YtgdmbnfdcbekaaiDoor.Fif (own_lt own_block own_form own_mono own_vw ret_bool info_int new_int int_one)
open Go.Proofs.YtgdmbnfdcbekaaiDoor.Vec (Vw)
open Go.Proofs.YtgdmbnfdcbekaaiDoor.Sep (KpL NewL)
open Go.Proofs.YtgdmbnfdcbekaaiDoor.Ldr (errF errF_ok errF_no Sl)
open Go.Proofs.YtgdmbnfdcbekaaiDoor.MapV (turned_below g_of_turned)
set_option linter.unusedVariables false
variable {w w' : World} {base P mS mH bH oH cH : Nat} {rv : Nat → Value} {f : F}

theorem takeG {P : Program} {ops : Array Oper} {Q : Exit → Act → World → Prop} {md : Region.Mode} {S : World → Prop} {i : Nat} (d : Nat) {oi : Oper} {v : Value} {fuel : Nat} {listed : Array Bool} {a : Act} {w : World} (hi : ops[i]? = some oi) (hd : oi.dst = some d)
    (hs : Region.noSelect ops = true) (hf : Region.free md ops listed i = true) (hr : (Region.ready md ops listed).contains i = true)
    (hQ : ∀ c a w, Q (.panic c) (a.put (some d) v) w → Q (.panic c) a w) (hy : YieldsIf P ops S oi v a) (hS : S w)
    (h : wpAnyH P md ops Q S fuel (listed.setIfInBounds i true) (a.put (some d) v) w) : wpAnyH P md ops Q S (fuel + 1) listed a w :=
  wpAnyH_take hi hs hf hr (by rw [hd]; exact hQ) hy hS (by rw [hd]; exact h)
theorem GF.mapLt (h : GF w base P mS mH bH oH cH rv f) {m : Nat} (hm : m < 5) : some mH ≠ (rv (ix (num f) m)).ownBlock := fun e => (h.neI (ix_lt (Nat.le_refl _) hm) e.symm).2.2.1 rfl
set_option maxRecDepth 100000 in
set_option maxHeartbeats 1000000 in
theorem hear_any (h : GF w base P mS mH bH oH cH rv f) (hn : (num f : Int) = f.v.n) (hN : f.v.n ≤ 1000000) {m : Nat} (hm : m < 5) (hl : (cur f m).length + 1 ≤ 30) (x : Int) : Calls Tryd.prog 19 #[.pointer (some ⟨P, 0, none⟩), .int .i64 (m : Int), .int .i64 x] w fun e w' => e = .returned (.tuple #[]) ∧ ∃ rv', GF w' base P mS mH bH oH cH rv' (got f m x) ∧ St w w' base (fpG P mS mH bH (cntF f) rv) (fpG P mS mH bH (cntF f) rv') ∧ rv' 1 = rv 1 := by
  have hbw : base ≤ w.heap.size := Nat.le_trans h.low.1 (Nat.le_of_lt h.lt)
  have HSM : Hid ((cur f m).length + 1 ≤ 30) := hl
  obtain ⟨N, eN⟩ : ∃ N, N = num f := ⟨_, rfl⟩
  have c0 := h.c0
  rw [← hn, ← eN] at c0
  obtain ⟨B, eB⟩ : ∃ B, B = w.heap.size := ⟨_, rfl⟩
  obtain ⟨W4, eW4⟩ : ∃ W4, W4 = (w.alloc (.cells #[.int .i64 (m : Int), .int .i64 (N : Int)] 68)).drew := ⟨_, rfl⟩
  have b4 : Below w.heap.size w W4 := by
    rw [eW4]
    have z : Below w.heap.size w (w.alloc (.cells #[.int .i64 (m : Int), .int .i64 (N : Int)] 68)) := (Below.refl _ _).alloc (Nat.le_refl _) _
    exact ⟨z.os, z.tape, z.output, z.size, z.block⟩
  have r4 : W4.rowIs B 68 2 (fun j => if j = 0 then .int .i64 (m : Int) else .int .i64 (N : Int)) := by
    have z := World.rowIs_alloc w #[.int .i64 (m : Int), .int .i64 (N : Int)] 68 (fun j => if j = 0 then .int .i64 (m : Int) else .int .i64 (N : Int)) (fun i hi => by rcases i with _ | _ | i <;> first | rfl | (exfalso; have : _ < 2 := hi; omega))
    rw [eB]
    exact World.rowIs.of_block z (by rw [eW4]; rfl)
  have h4 := h.later b4
  obtain ⟨T, eT⟩ : ∃ T, T = W4.heap.size := ⟨_, rfl⟩
  obtain ⟨W5, eW5⟩ : ∃ W5, W5 = W4.alloc (.cells #[.int .i64 x] 3) := ⟨_, rfl⟩
  have b5 : Below W4.heap.size W4 W5 := by rw [eW5]; exact (Below.refl _ _).alloc (Nat.le_refl _) _
  have h5 := h4.later b5
  have s5 : W5.heap.size = T + 1 := by rw [eW5, eT]; simp
  obtain ⟨qh, ch, erv, hvw, -⟩ := h5.look (by omega) (Nat.le_refl _) hm
  have own5 : W5.ownsRow base 3 1 (rv (ix (num f) m)) (lsP f (ix (num f) m)).length ((lsP f (ix (num f) m)).map (Value.int .i64)) := h5.ints.own _ (ix_lt (Nat.le_refl _) hm)
  rw [lsP_ix f hm, erv] at own5
  obtain ⟨xs, exs⟩ : ∃ xs, xs = cur f m := ⟨_, rfl⟩
  have exs' : f.hd (num f) m = xs := by rw [exs]; rfl
  rw [exs'] at own5 erv
  rw [← exs] at hl
  obtain ⟨lh, elh⟩ : ∃ lh, lh = xs.length := ⟨_, rfl⟩
  rw [← elh] at own5 erv hl
  have hcl : cHf f < 10000000 := by
    have := cnK_le (hasB f) (cntF f)
    have e : cHf f ≤ cntF f := this
    unfold cntF at e
    omega
  obtain ⟨st, W6, hE6, hT6, hent⟩ := h5.heard.entry Tryd.underlying54 zeroR (MapS.okK_of (a := (m : Int)) (b := (num f : Int)) (by omega) (by omega)) hcl
  rw [TH_at h5.nil (Nat.le_refl _) hm, erv, ← eN] at hE6
  have n6 : some mH ≠ (Value.slice qh lh ch).ownBlock := by rw [← erv]; exact h.mapLt hm
  have l5 : mH < W5.heap.size := h5.heard.lt
  have s6 : W6.heap.size = W5.heap.size := by
    obtain ⟨es, c, es', c', -, e⟩ := hT6
    rw [e]
    simp [ChangeMaps.setBlock]
  have k6 : ∀ b, b < W5.heap.size → b ≠ mH → W6.heap[b]? = W5.heap[b]? := fun b hb hne => g_of_turned hT6 hb hne
  have T5 : mH < T := by rw [eT]; exact h4.heard.lt
  have HO6 : Hid (W6.ownsRow base 3 1 (.slice qh lh ch) lh (xs.map (Value.int .i64)) ∧ (∀ j u, [Value.int .i64 x][j]? = some u → W6.cell? ((⟨T, 0, none⟩ : Addr).add j) = some u) ∧ base ≤ W6.heap.size ∧ W6.heap.size = T + 1) := by
    refine ⟨own_block own5 fun b hb => k6 b (own_lt own5 b hb).2 fun e => n6 (by rw [hb, e]), fun j u hj => ?_, ?_, by rw [s6, s5]⟩
    · refine Eq.trans (World.cell?_of_block (w := W5) (w' := W6) ?_) ?_
      · show W6.heap[((⟨T, 0, none⟩ : Addr).add j).block]? = W5.heap[((⟨T, 0, none⟩ : Addr).add j).block]?
        rw [Addr.add_lit]
        exact k6 T (by omega) (by omega)
      · rw [eW5]
        exact new_int W4 T eT x 3 j u hj
    · rw [s6, s5, eT]
      have := b4.size
      omega
  have HL : Hid (mH < W6.heap.size ∧ some mH ≠ (Value.slice qh lh ch).ownBlock) := ⟨by rw [s6]; exact l5, n6⟩
  have HL2 : Hid (T = W4.heap.size) := eT
  have HK5 : Hid (∀ b, (b < W4.heap.size ∧ some b ≠ (Value.slice qh lh ch).ownBlock) → b ≠ mH → W5.heap[b]? = W4.heap[b]?) := fun b hb _ => b5.block b hb.1
  have HK6' : Hid (∀ b, b < W4.heap.size → b ≠ mH → W6.heap[b]? = W4.heap[b]?) := fun b hb hne => (k6 b (by have := b5.size; omega) hne).trans (b5.block b hb)
  have HK6 : Hid (∀ b, b < W4.heap.size → b ≠ mH → W6.heap[b]? = W4.heap[b]?) := HK6'.out
  have HB6 : Hid (Below base W4 W6) := (b5.mono (Nat.le_trans hbw b4.size)).trans (turned_below hT6 h.low.2.2.1)
  have nP : some P ≠ (Value.slice qh lh ch).ownBlock := by rw [← erv]; exact fun e => (h.neI (ix_lt (Nat.le_refl _) hm) e.symm).1 rfl
  have nB : some B ≠ (Value.slice qh lh ch).ownBlock := by
    rw [← erv]
    intro e
    have := (own_lt (h.ints.own _ (ix_lt (Nat.le_refl _) hm)) B e.symm).2
    omega
  have HS : Hid (∀ X : World, (∀ b, (b < W4.heap.size ∧ some b ≠ (Value.slice qh lh ch).ownBlock) → b ≠ mH → X.heap[b]? = W4.heap[b]?) → X.cell? ⟨P, 4, none⟩ = some (.map (some mH)) ∧ X.cell? ⟨B, 0, none⟩ = some (.int .i64 (m : Int)) ∧ X.cell? ⟨B, 1, none⟩ = some (.int .i64 (N : Int))) := by
    intro X hX
    have kB := hX B ⟨World.rowIs.lt r4, nB⟩ (by have := h.heard.lt; omega)
    have rX := World.rowIs.of_block r4 kB
    exact ⟨(World.cell?_of_block (a := ⟨P, 4, none⟩) (hX P ⟨h4.lt, nP⟩ (h.heard.row h.row))).trans h4.c4, World.rowIs.cell rX (i := 0) (by omega), World.rowIs.cell rX (i := 1) (by omega)⟩
  have HE : Hid (∀ (w2 : World) (v : Value), w2.heap[mH]? = W6.heap[mH]? → ∃ w3, (Instr.entryStore 54 (.map (some mH)) (goInt st) v).run Tryd.prog w2 = .ok () w3 ∧ MapS.MM w3 mH (MapS.putT (TH f rv) (m : Int) (num f : Int) v) (if (TH f rv (m : Int) (num f : Int)).isSome = true then cHf f else cHf f + 1) ∧ w2.mapTurned w3 mH) := hent
  have HG : Hid (GF w base P mS mH bH oH cH rv f ∧ base ≤ w.heap.size) := ⟨h, hbw⟩
  have HW : Hid (Below w.heap.size w W4 ∧ m < 5 ∧ lh = (cur f m).length ∧ xs = cur f m ∧ rv (ix (num f) m) = .slice qh lh ch) := ⟨b4, hm, by rw [elh, exs], exs, erv⟩
  obtain ⟨ii, hii, hz0, hz1, hz2⟩ := info_int
  have HJ : Hid (Tryd.prog.info? 3 = some ii ∧ ii.zero = some (.int .i64 0) ∧ ii.size = 1 ∧ ii.bytes = 8) := ⟨hii, hz0, hz1, hz2⟩
  have eVn : f.v.n = (N : Int) := by rw [eN]; exact hn.symm
  have hPl := h.lt
  clear h hn hN hm hbw b4 r4 h4 b5 h5 s5 erv hvw own5 exs exs' elh hcl hT6 hent n6 l5 s6 k6 T5 nP nB hii hz0 hz1 hz2 eT HK6' eN
  go_enter Tryd.func19, Tryd.ntmps19
  go_upto_region 1 with fail
  rw [← eB]
  have EB : Hid (B = w.heap.size) := eB
  have E5 : Hid (W5 = W4.alloc (.cells #[.int .i64 x] 3)) := eW5
  clear eB eW5
  refine wp_region_held_drew (S := fun X => X.cell? ⟨P, 4, none⟩ = some (.map (some mH)) ∧ X.cell? ⟨B, 0, none⟩ = some (.int .i64 (m : Int)) ∧ X.cell? ⟨B, 1, none⟩ = some (.int .i64 (N : Int))) (by kernel_rfl) (HS.out _ (fun _ _ _ => by rw [eW4])) ?_
  intro hS
  rw [← eW4] at hS ⊢
  clear eW4
  refine takeG (i := 0) 14 (v := .pointer (some ⟨P, 0, none⟩)) rfl rfl (by kernel_rfl) (by kernel_rfl) (by kernel_rfl) (fun _ _ _ h => h) (Or.inl ⟨by kernel_rfl, fun _ hS => by first | rfl | (obtain ⟨g4, k0, k1⟩ := hS; go_simp)⟩) hS ?_
  try simp only [Act.put, List.setIfInBounds_toArray, List.set_cons_zero, List.set_cons_succ]
  refine takeG (i := 1) 15 (v := .pointer (some ⟨P, 0, none⟩)) rfl rfl (by kernel_rfl) (by kernel_rfl) (by kernel_rfl) (fun _ _ _ h => h) (Or.inl ⟨by kernel_rfl, fun _ hS => by first | rfl | (obtain ⟨g4, k0, k1⟩ := hS; go_simp)⟩) hS ?_
  try simp only [Act.put, List.setIfInBounds_toArray, List.set_cons_zero, List.set_cons_succ]
  refine takeG (i := 2) 16 (v := .pointer (some ⟨P, 4, none⟩)) rfl rfl (by kernel_rfl) (by kernel_rfl) (by kernel_rfl) (fun _ _ _ h => h) (Or.inl ⟨by kernel_rfl, fun _ hS => by first | rfl | (obtain ⟨g4, k0, k1⟩ := hS; go_simp)⟩) hS ?_
  try simp only [Act.put, List.setIfInBounds_toArray, List.set_cons_zero, List.set_cons_succ]
  refine takeG (i := 3) 17 (v := .map (some mH)) rfl rfl (by kernel_rfl) (by kernel_rfl) (by kernel_rfl) (fun _ _ _ h => h) (Or.inl ⟨by kernel_rfl, fun _ hS => by first | rfl | (obtain ⟨g4, k0, k1⟩ := hS; go_simp)⟩) hS ?_
  try simp only [Act.put, List.setIfInBounds_toArray, List.set_cons_zero, List.set_cons_succ]
  refine takeG (i := 4) 18 (v := .agg #[.int .i64 (m : Int), .int .i64 (N : Int)]) rfl rfl (by kernel_rfl) (by kernel_rfl) (by kernel_rfl) (fun _ _ _ h => h) (Or.inl ⟨by kernel_rfl, fun _ hS => by first | rfl | (obtain ⟨g4, k0, k1⟩ := hS; go_simp)⟩) hS ?_
  try simp only [Act.put, List.setIfInBounds_toArray, List.set_cons_zero, List.set_cons_succ]
  refine takeG (i := 5) 20 (v := .int .i64 x) rfl rfl (by kernel_rfl) (by kernel_rfl) (by kernel_rfl) (fun _ _ _ h => h) (Or.inl ⟨by kernel_rfl, fun _ hS => by first | rfl | (obtain ⟨g4, k0, k1⟩ := hS; go_simp)⟩) hS ?_
  try simp only [Act.put, List.setIfInBounds_toArray, List.set_cons_zero, List.set_cons_succ]
  refine wpAnyH_ready (rs := [6]) (by kernel_rfl) (by simp) ?_
  refine AllReadyH.cons rfl (fun K9 hK9 => ?_) AllReadyH.nil
  go_simp
  rw [← HL2.out, ← E5.out]
  refine hK9.out _ _ (HS.out _ HK5.out) (fun hS => ?_)
  clear hK9 K9
  refine wpAnyH_ready (rs := [7]) (by kernel_rfl) (by simp) ?_
  refine AllReadyH.cons rfl (fun K9 hK9 => ?_) AllReadyH.nil
  go_simp
  refine hK9.out _ _ (HS.out _ fun b hb hne => HK6.out b hb.1 hne) (fun hS => ?_)
  clear hK9 K9
  refine takeG (i := 8) 19 (v := .slice qh lh ch) rfl rfl (by kernel_rfl) (by kernel_rfl) (by kernel_rfl) (fun _ _ _ h => h) (Or.inl ⟨by kernel_rfl, fun _ hS => by first | rfl | (obtain ⟨g4, k0, k1⟩ := hS; go_simp)⟩) hS ?_
  try simp only [Act.put, List.setIfInBounds_toArray, List.set_cons_zero, List.set_cons_succ]
  refine takeG (i := 10) 24 (v := goInt st) rfl rfl (by kernel_rfl) (by kernel_rfl) (by kernel_rfl) (fun _ _ _ h => h) (Or.inl ⟨by kernel_rfl, fun _ hS => by first | rfl | (obtain ⟨g4, k0, k1⟩ := hS; go_simp)⟩) hS ?_
  try simp only [Act.put, List.setIfInBounds_toArray, List.set_cons_zero, List.set_cons_succ]
  refine wpAnyH_ready (rs := [9]) (by kernel_rfl) (by simp) ?_
  refine AllReadyH.cons rfl (fun K9 hK9 => ?_) AllReadyH.nil
  (refine step_append_lies _ (by rfl) _ _ _ (by rfl) base 3 ii (.int .i64 0) 1 8 Tryd.underlying28 HJ.out.1 HJ.out.2.1 HJ.out.2.2.1 HJ.out.2.2.2 rfl (by omega) (.slice qh lh ch) lh (xs.map (Value.int .i64)) (by rfl) (by exact HO6.out.1) ⟨T, 0, none⟩ 1 1 [.int .i64 x] (by rfl) (by rfl) (by exact HO6.out.2.1) (int_one _) (by omega) (by unfold maxLen; omega) (by omega) (by exact HO6.out.2.2.1) (T + 1) (by exact HO6.out.2.2.2) ?_; intro g gc w7 hown hgrow hat hlt7)
  obtain ⟨w8, hE8, hM8, hT8⟩ := HE.out w7 (.slice (some ⟨g, 0, none⟩) (lh + 1) gc) (hgrow.block mH HL.out.1 HL.out.2)
  have H7 : Hid (w7.ownsRow base 3 1 (.slice (some ⟨g, 0, none⟩) (lh + 1) gc) (lh + 1) (xs.map (Value.int .i64) ++ [.int .i64 x]) ∧ W6.grownBy w7 (Value.slice qh lh ch).ownBlock ∧ ((Value.slice qh lh ch).ownBlock = some g ∨ g = T + 1)) := ⟨hown, hgrow, hat⟩
  have H8 : Hid (MapS.MM w8 mH (MapS.putT (TH f rv) (m : Int) (num f : Int) (.slice (some ⟨g, 0, none⟩) (lh + 1) gc)) (if (TH f rv (m : Int) (num f : Int)).isSome = true then cHf f else cHf f + 1) ∧ w7.mapTurned w8 mH) := ⟨hM8, hT8⟩
  have HK7 : Hid (∀ b, b < W4.heap.size → b ≠ mH → some b ≠ (Value.slice qh lh ch).ownBlock → w7.heap[b]? = W4.heap[b]?) := fun b hb hne hn7 => (H7.out.2.1.block b (by have := HO6.out.2.2.2; have := HL2.out; omega) hn7).trans (HK6.out b hb hne)
  have HK8 : Hid (∀ b, b < W4.heap.size → b ≠ mH → some b ≠ (Value.slice qh lh ch).ownBlock → w8.heap[b]? = W4.heap[b]?) := fun b hb hne hn7 => (g_of_turned H8.out.2 (by have := H7.out.2.1.size; have := HO6.out.2.2.2; have := HL2.out; omega) hne).trans (HK7.out b hb hne hn7)
  have HS7 : Hid (w7.cell? ⟨P, 4, none⟩ = some (.map (some mH)) ∧ w7.cell? ⟨B, 0, none⟩ = some (.int .i64 (m : Int)) ∧ w7.cell? ⟨B, 1, none⟩ = some (.int .i64 (N : Int))) := HS.out _ fun b hb hne => HK7.out b hb.1 hne hb.2
  have hE9 : (Instr.entryStore 54 (.map (some mH)) (.int .i64 (st : Int)) (.slice (some ⟨g, 0, none⟩) (lh + 1) gc)).run Tryd.prog w7 = .ok () w8 := hE8
  clear hown hgrow hat hlt7 hM8 hT8 hE8
  refine hK9.out _ _ HS7.out (fun hS => ?_)
  clear hK9 K9
  refine wpAnyH_ready (rs := [11]) (by kernel_rfl) (by simp) ?_
  refine AllReadyH.cons rfl (fun K9 hK9 => ?_) AllReadyH.nil
  go_simp
  refine hK9.out _ _ (HS.out _ fun b hb hne => HK8.out b hb.1 hne hb.2) (fun hS => ?_)
  clear hK9 K9
  refine wpAnyH_done (by kernel_rfl) ?_ _
  clear hE9
  go_wp2
  go_end0
  have hW4 : Below w.heap.size w W4 := HW.out.1
  have hS4 := hW4.size
  have b6 : Below base w W6 := (hW4.mono HG.out.2).trans HB6.out
  have b7 : Below base w w7 := b6.grown H7.out.2.1 HO6.out.2.2.1 fun b hb => (own_lt HO6.out.1 b hb).1
  have b8 : Below base w w8 := b7.trans (turned_below H8.out.2 HG.out.1.low.2.2.1)
  have s6 := HO6.out.2.2.2
  have e4 := HL2.out
  have eo := HW.out.2.2.2.2
  have hat : (rv (ix (num f) m)).ownBlock = some g ∨ w.heap.size ≤ g := by
    rw [eo]
    rcases H7.out.2.2 with q | q
    · exact .inl q
    · exact .inr (by omega)
  have ng : g ≠ mH := by
    intro e
    rcases H7.out.2.2 with q | q
    · exact HL.out.2 (by rw [q, e])
    · have := HG.out.1.heard.lt
      omega
  have o8 : w8.ownsRow base 3 1 (.slice (some ⟨g, 0, none⟩) (lh + 1) gc) (lh + 1) ((cur f m).map (Value.int .i64) ++ [.int .i64 x]) := by
    rw [← HW.out.2.2.2.1]
    refine own_block H7.out.1 fun b hb => ?_
    have e : g = b := by simpa [Value.ownBlock] using hb
    exact g_of_turned H8.out.2 (own_lt H7.out.1 b hb).2 (by rw [← e]; exact ng)
  obtain ⟨r1, r2⟩ := HG.out.1.hear HSM.out HW.out.2.1 HW.out.2.2.1 H8.out.1 b8 (fun b hb hne hn => (HK8.out b (by omega) hne (by rw [← eo]; exact hn)).trans (hW4.block b hb)) o8 hat
  exact ⟨rfl, _, r1, r2, upV_other _ _ (by have := ix_two (num f) m; omega)⟩
/-! what one heard -/
theorem clone_nil (w : World) : Calls Tryd.prog 27 #[.slice none 0 0] w fun x w' => x = .returned (.slice none 0 0) ∧ w' = w := by
  have hnil := fun W : World => Lib.run_eql_slice_nil (P := Tryd.prog) W 28 3 none 0 0 0 0 Tryd.underlying28
  go_enter Tryd.func27, Tryd.ntmps27
  go_wp2
  go_ret
  exact ⟨rfl, rfl⟩
set_option maxRecDepth 100000 in
theorem heard_no (h : GF w base P mS mH bH oH cH rv f) (who n : Int) (hc : (who < 0 ∨ 4 < who) ∨ n < 0 ∨ f.v.n < n) : Calls Tryd.prog 10 #[.pointer (some ⟨P, 0, none⟩), .int .i64 who, .int .i64 n] w fun x w' => x = .returned (.tuple #[.slice none 0 0, errF 1]) ∧ w' = w := by
  rw [errF_no (by decide)]
  by_cases h1 : 0 ≤ who ∧ who ≤ 4
  · have d1 : Hid (decide (0 ≤ who ∧ who ≤ 4) = true) := decide_eq_true h1
    by_cases h2 : n < 0
    · clear h h1 hc
      go_enter Tryd.func10, Tryd.ntmps10
      go_wp2_with fail
      refine (isM_any who _).mono ?_
      rintro e w ⟨rfl, rfl⟩
      rw [d1.out]
      go_wp2
      go_ret2
      exact ⟨rfl, rfl⟩
    · have c0 := h.c0
      obtain ⟨z, ez⟩ : ∃ z, z = f.v.n := ⟨_, rfl⟩
      rw [← ez] at c0 hc
      have h3 : n > z := by omega
      clear h h1 hc ez
      go_enter Tryd.func10, Tryd.ntmps10
      go_wp2_with fail
      refine (isM_any who _).mono ?_
      rintro e w ⟨rfl, rfl⟩
      rw [d1.out]
      go_wp2
      go_ret2
      exact ⟨rfl, rfl⟩
  · have d1 : Hid (decide (0 ≤ who ∧ who ≤ 4) = false) := decide_eq_false h1
    clear h h1 hc
    go_enter Tryd.func10, Tryd.ntmps10
    go_wp2_with fail
    refine (isM_any who _).mono ?_
    rintro e w ⟨rfl, rfl⟩
    rw [d1.out]
    go_wp2
    go_ret2
    exact ⟨rfl, rfl⟩
set_option maxRecDepth 100000 in
theorem heard_ok (h : GF w base P mS mH bH oH cH rv f) (hn : (num f : Int) = f.v.n) (hN : f.v.n ≤ 1000000) {k m : Nat} (hk : k ≤ num f) (hm : m < 5) : Calls Tryd.prog 10 #[.pointer (some ⟨P, 0, none⟩), .int .i64 (m : Int), .int .i64 (k : Int)] w fun x w' => ∃ q c, x = .returned (.tuple #[.slice q (f.hd k m).length c, .nilIface]) ∧ Sl w' (.slice q (f.hd k m).length c) (f.hd k m) ∧ (∀ ad, q = some ad → w.heap.size ≤ ad.block) ∧ Below w.heap.size w w' := by
  obtain ⟨q, c, eq, hv, hlk⟩ := h.look (by omega) hk hm
  replace hlk := hlk w rfl
  have c0 := h.c0
  have c4 := h.c4
  have hs := h.sm k m
  obtain ⟨z, ez⟩ : ∃ z, z = f.v.n := ⟨_, rfl⟩
  rw [← ez] at c0
  have d1 : Hid (decide (0 ≤ (m : Int) ∧ (m : Int) ≤ 4) = true) := decide_eq_true (by omega)
  have h2 : ¬ (k : Int) < 0 := by omega
  have h3 : ¬ (k : Int) > z := by omega
  obtain ⟨xs, exs⟩ : ∃ xs, xs = f.hd k m := ⟨_, rfl⟩
  rw [← exs] at hlk hv hs eq ⊢
  have hsl : Sl w (.slice q xs.length c) xs := by
    have o : w.ownsRow base 3 1 (rv (ix k m)) (lsP f (ix k m)).length ((lsP f (ix k m)).map (Value.int .i64)) := h.ints.own _ (ix_lt hk hm)
    rw [lsP_ix f hm, ← exs, eq] at o
    exact Sl.of_own o
  obtain ⟨l, el⟩ : ∃ l, l = xs.length := ⟨_, rfl⟩
  have EL : Hid (l = xs.length) := el
  by_cases h0 : xs = []
  · have hz : rv (ix k m) = nilV := h.nil _ (ix_two k m) (by rw [lsP_ix f hm, ← exs]; exact h0)
    rw [hz] at eq
    injection eq with e1 e2 e3
    subst h0
    rw [← e1, ← e3] at hlk
    clear h hn hN hk hm hv el EL exs hs hsl ez hz e1 e2 e3
    show Calls _ _ _ _ fun x w' => ∃ q c, x = .returned (.tuple #[.slice q 0 c, .nilIface]) ∧ Sl w' (.slice q 0 c) [] ∧ (∀ ad, q = some ad → w.heap.size ≤ ad.block) ∧ Below w.heap.size w w'
    have hlk' : (Instr.lookup 54 (.map (some mH)) (.agg #[.int .i64 (m : Int), .int .i64 (k : Int)]) false).run Tryd.prog w = .ok (.slice none 0 0) w := hlk
    clear hlk
    go_enter Tryd.func10, Tryd.ntmps10
    go_wp2_with fail
    refine (isM_any (m : Int) _).mono ?_
    rintro e w ⟨rfl, rfl⟩
    rw [d1.out]
    go_wp2_with fail
    refine (clone_nil _).mono ?_
    rintro e w ⟨rfl, rfl⟩
    go_wp2
    go_ret2
    exact ⟨none, 0, rfl, Sl.nil _, fun ad e => (by cases e), Below.refl _ _⟩
  · have hp : 0 < l := by rw [el]; exact List.length_pos_iff.2 h0
    have HSL : Hid (Sl w (.slice q l c) xs) := by rw [el]; exact hsl
    rw [← el] at hlk hs ⊢
    clear h hn hN hk hm hv eq el exs hsl ez h0
    go_enter Tryd.func10, Tryd.ntmps10
    go_wp2_with fail
    refine (isM_any (m : Int) _).mono ?_
    rintro e w ⟨rfl, rfl⟩
    rw [d1.out]
    go_wp2_with fail
    refine (Viw.cloneP (.slice q l c) xs _ (by exact HSL.out) (by rw [← EL.out]; exact hp) (by rw [← EL.out]; omega)).mono ?_
    rintro e4 w4 ⟨v4, rfl, ho, hb⟩
    obtain ⟨q4, c4, rfl, hsl4, hnw⟩ := Viw.OwP.sl ho
    rw [← EL.out] at hsl4 ⊢
    have HN : Hid (Sl w4 (.slice q4 l c4) xs ∧ (∀ ad, q4 = some ad → w.heap.size ≤ ad.block) ∧ Below w.heap.size w w4) := ⟨hsl4, hnw, hb⟩
    clear ho hb hsl4 hnw
    go_wp2
    go_ret2
    exact ⟨q4, c4, rfl, HN.out⟩
theorem heardU (base P : Nat) (f : F) (fp : List Nat) (who n : Int) (w : World) (h : US w base P f fp) (hi : Inv f) (hv : f.v.n ≤ 1000) : Calls Tryd.prog 10 #[.pointer (some ⟨P, 0, none⟩), .int .i64 who, .int .i64 n] w fun x w' => ∃ q c, x = .returned (.tuple #[.slice q (hdL f who n).length c, errF (hdC f who n)]) ∧ Sl w' (.slice q (hdL f who n).length c) (hdL f who n) ∧ (∀ ad, q = some ad → 0 < (hdL f who n).length → w.heap.size ≤ ad.block) ∧ Below w.heap.size w w' := by
  obtain ⟨mS, mH, bH, oH, cH, rv, rfl, h⟩ := h
  by_cases hc : (who < 0 ∨ 4 < who) ∨ n < 0 ∨ f.v.n < n
  · have e1 : hdC f who n = 1 := if_pos hc
    have e2 : hdL f who n = [] := by unfold hdL; rw [e1, if_neg (by decide)]
    rw [e1, e2]
    refine (heard_no h who n hc).mono ?_
    rintro x w' ⟨rfl, rfl⟩
    exact ⟨none, 0, rfl, Sl.nil _, fun ad e => (by cases e), Below.refl _ _⟩
  · have hn := hi.numI
    obtain ⟨m, rfl⟩ : ∃ m : Nat, who = (m : Int) := ⟨who.toNat, by omega⟩
    obtain ⟨k, rfl⟩ : ∃ k : Nat, n = (k : Int) := ⟨n.toNat, by omega⟩
    have e1 : hdC f (m : Int) (k : Int) = 0 := if_neg hc
    have e2 : hdL f (m : Int) (k : Int) = f.hd k m := by unfold hdL; rw [e1, if_pos rfl, Int.toNat_natCast, Int.toNat_natCast]
    rw [e1, e2, errF_ok]
    refine (heard_ok h hn (by omega) (k := k) (m := m) (by omega) (by omega)).mono ?_
    rintro x w' ⟨q, c, rfl, h1, h2, h3⟩
    exact ⟨q, c, rfl, h1, fun ad e _ => h2 ad e, h3⟩
end Go.Proofs.YtgdmbnfdcbekaaiDoor.Flu
