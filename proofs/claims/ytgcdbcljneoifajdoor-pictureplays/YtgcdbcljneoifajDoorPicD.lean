/-
  Contract of package picture's send.
-/
import Derived.Test.YtgcdbcljneoifajDoorPicC
import Derived.Deep.RegionLaw
import Derived.Deep.RegionHeld
import Derived.Deep.CutBlock
import Derived.Deep.CutRange
namespace Go.Proofs.YtgcdbcljneoifajDoor.Pic
open Go.RowKit Go.Maps
open Go.Proofs.YtgcdbcljneoifajDoor.Fif (own_lt own_block own_form own_mono own_vw ret_bool info_int new_int int_one)
open Go.Proofs.YtgcdbcljneoifajDoor.Vec (Vw)
open Go.Proofs.YtgcdbcljneoifajDoor.Sep (KpL NewL)
open Go.Proofs.YtgcdbcljneoifajDoor.Ldr (errF errF_ok errF_no Sl)
open Go.Proofs.YtgcdbcljneoifajDoor.Off (OR step_append_off)
open Go.Proofs.YtgcdbcljneoifajDoor.MapV (turned_below g_of_turned)
set_option linter.unusedVariables false
variable {w w' : World} {base P bG cG mO mW mS : Nat} {rv : Nat → Value} {g : G}

theorem takeG {P : Program} {ops : Array Oper} {Q : Exit → Act → World → Prop} {md : Region.Mode} {S : World → Prop} {i : Nat} (d : Nat) {oi : Oper} {v : Value} {fuel : Nat} {listed : Array Bool} {a : Act} {w : World} (hi : ops[i]? = some oi) (hd : oi.dst = some d)
    (hs : Region.noSelect ops = true) (hf : Region.free md ops listed i = true) (hr : (Region.ready md ops listed).contains i = true)
    (hQ : ∀ c a w, Q (.panic c) (a.put (some d) v) w → Q (.panic c) a w) (hy : YieldsIf P ops S oi v a) (hS : S w)
    (h : wpAnyH P md ops Q S fuel (listed.setIfInBounds i true) (a.put (some d) v) w) : wpAnyH P md ops Q S (fuel + 1) listed a w :=
  wpAnyH_take hi hs hf hr (by rw [hd]; exact hQ) hy hS (by rw [hd]; exact h)
set_option maxRecDepth 100000 in
set_option maxHeartbeats 1000000 in
theorem sendP (h : GP w base P bG cG mO mW mS rv g) {a b : Nat} (ha : a < 5) (hb : b < 5) (hl : (g.way a b).length ≤ 1000) (x : Int) : Calls Tryd.prog 23 #[.pointer (some ⟨P, 0, none⟩), .agg #[.int .i64 (a : Int), .int .i64 (b : Int)], .int .i64 x] w fun e w' => e = .returned (.tuple #[]) ∧ ∃ rv', GP w' base P bG cG mO mW mS rv' { g with way := up2 g.way a b (g.way a b ++ [x]) } ∧ St w w' base (fpP P bG mO mW mS rv) (fpP P bG mO mW mS rv') := by
  have hbw := h.bw
  obtain ⟨B, eB⟩ : ∃ B, B = w.heap.size := ⟨_, rfl⟩
  obtain ⟨W4, eW4⟩ : ∃ W4, W4 = (w.alloc (.cells #[.int .i64 (a : Int), .int .i64 (b : Int)] 70)).drew := ⟨_, rfl⟩
  have b4 : Below w.heap.size w W4 := by
    rw [eW4]
    have z : Below w.heap.size w (w.alloc (.cells #[.int .i64 (a : Int), .int .i64 (b : Int)] 70)) := (Below.refl _ _).alloc (Nat.le_refl _) _
    exact ⟨z.os, z.tape, z.output, z.size, z.block⟩
  have r4 : W4.rowIs B 70 2 (fun j => if j = 0 then .int .i64 (a : Int) else .int .i64 (b : Int)) := by
    have z := World.rowIs_alloc w #[.int .i64 (a : Int), .int .i64 (b : Int)] 70 (fun j => if j = 0 then .int .i64 (a : Int) else .int .i64 (b : Int)) (fun i hi => by rcases i with _ | _ | i <;> first | rfl | (exfalso; have : _ < 2 := hi; omega))
    rw [eB]
    exact World.rowIs.of_block z (by rw [eW4]; rfl)
  have h4 := h.later b4
  obtain ⟨T, eT⟩ : ∃ T, T = W4.heap.size := ⟨_, rfl⟩
  obtain ⟨W5, eW5⟩ : ∃ W5, W5 = W4.alloc (.cells #[.int .i64 x] 3) := ⟨_, rfl⟩
  have b5 : Below W4.heap.size W4 W5 := by rw [eW5]; exact (Below.refl _ _).alloc (Nat.le_refl _) _
  have h5 := h4.later b5
  have s5 : W5.heap.size = T + 1 := by rw [eW5, eT]; simp
  have hab : a * 5 + b < 25 := by omega
  have own5 := h5.ways (a * 5 + b) hab
  rw [show (a * 5 + b) / 5 = a by omega, show (a * 5 + b) % 5 = b by omega] at own5
  obtain ⟨qh, ch, erv⟩ := own5.form
  rw [erv] at own5
  obtain ⟨xs, exs⟩ : ∃ xs, xs = g.way a b := ⟨_, rfl⟩
  rw [← exs] at own5 erv hl
  obtain ⟨lh, elh⟩ : ∃ lh, lh = xs.length := ⟨_, rfl⟩
  rw [← elh] at own5 erv hl
  have EL : Hid (lh = xs.length) := elh
  have hcl : cn2 (wyB g.way) < 10000000 := by
    have := cn2_le (wyB g.way)
    omega
  obtain ⟨st, W6, hE6, hT6, hent⟩ := MapW.MM.entry h5.onw Tryd.underlying62 zeroL (okW ha hb) hcl
  rw [wy_getD h5 ha hb, erv] at hE6
  have n6 : some mO ≠ (Value.slice qh lh ch).ownBlock := by rw [← erv]; exact fun e => (h.neR hab e.symm).2.2.1 rfl
  have l5 : mO < W5.heap.size := h5.onw.lt
  have s6 : W6.heap.size = W5.heap.size := by
    obtain ⟨es, c, es', c', -, e⟩ := hT6
    rw [e]
    simp [ChangeMaps.setBlock]
  have k6 : ∀ b, b < W5.heap.size → b ≠ mO → W6.heap[b]? = W5.heap[b]? := fun b hb hne => g_of_turned hT6 hb hne
  have T5 : mO < T := by rw [eT]; exact h4.onw.lt
  have HO6 : Hid (OR W6 base (.slice qh lh ch) xs ∧ (∀ j u, [Value.int .i64 x][j]? = some u → W6.cell? ((⟨T, 0, none⟩ : Addr).add j) = some u) ∧ base ≤ W6.heap.size ∧ W6.heap.size = T + 1) := by
    refine ⟨own5.of_block fun b hb => k6 b (own5.lt b hb).2 fun e => n6 (by rw [hb, e]), fun j u hj => ?_, ?_, by rw [s6, s5]⟩
    · refine Eq.trans (World.cell?_of_block (w := W5) (w' := W6) ?_) ?_
      · show W6.heap[((⟨T, 0, none⟩ : Addr).add j).block]? = W5.heap[((⟨T, 0, none⟩ : Addr).add j).block]?
        rw [Addr.add_lit]
        exact k6 T (by omega) (by omega)
      · rw [eW5]
        exact new_int W4 T eT x 3 j u hj
    · rw [s6, s5, eT]
      have := b4.size
      omega
  have HL : Hid (mO < W6.heap.size ∧ some mO ≠ (Value.slice qh lh ch).ownBlock) := ⟨by rw [s6]; exact l5, n6⟩
  have HL2 : Hid (T = W4.heap.size) := eT
  have HK5 : Hid (∀ b, (b < W4.heap.size ∧ some b ≠ (Value.slice qh lh ch).ownBlock) → b ≠ mO → W5.heap[b]? = W4.heap[b]?) := fun b hb _ => b5.block b hb.1
  have HK6 : Hid (∀ b, b < W4.heap.size → b ≠ mO → W6.heap[b]? = W4.heap[b]?) := fun b hb hne => (k6 b (by have := b5.size; omega) hne).trans (b5.block b hb)
  have HB6 : Hid (Below base W4 W6) := (b5.mono (Nat.le_trans hbw b4.size)).trans (turned_below hT6 h.low.2.2.1)
  have nP : some P ≠ (Value.slice qh lh ch).ownBlock := by rw [← erv]; exact fun e => (h.neR hab e.symm).1 rfl
  have nB : some B ≠ (Value.slice qh lh ch).ownBlock := by
    rw [← erv]
    intro e
    have := ((h.ways _ hab).lt B e.symm).2
    omega
  have HS : Hid (∀ X : World, (∀ b, (b < W4.heap.size ∧ some b ≠ (Value.slice qh lh ch).ownBlock) → b ≠ mO → X.heap[b]? = W4.heap[b]?) → X.cell? ⟨P, 1, none⟩ = some (.map (some mO)) ∧ X.cell? ⟨B, 0, none⟩ = some (.int .i64 (a : Int)) ∧ X.cell? ⟨B, 1, none⟩ = some (.int .i64 (b : Int))) := by
    intro X hX
    have kB := hX B ⟨World.rowIs.lt r4, nB⟩ (by have := h.onw.lt; omega)
    have rX := World.rowIs.of_block r4 kB
    exact ⟨(World.cell?_of_block (a := ⟨P, 1, none⟩) (hX P ⟨h4.lt, nP⟩ h.neP.1)).trans h4.c1, World.rowIs.cell rX (i := 0) (by omega), World.rowIs.cell rX (i := 1) (by omega)⟩
  have HE : Hid (∀ (w2 : World) (v : Value), w2.heap[mO]? = W6.heap[mO]? → ∃ w3, (Instr.entryStore 62 (.map (some mO)) (goInt st) v).run Tryd.prog w2 = .ok () w3 ∧ MapW.MM w3 mO (MapW.putT (T2 (wyB g.way) (wyV rv)) (a : Int) (b : Int) v) (if (T2 (wyB g.way) (wyV rv) (a : Int) (b : Int)).isSome = true then cn2 (wyB g.way) else cn2 (wyB g.way) + 1) ∧ w2.mapTurned w3 mO) := hent
  have HG : Hid (GP w base P bG cG mO mW mS rv g ∧ base ≤ w.heap.size) := ⟨h, hbw⟩
  have HW : Hid (Below w.heap.size w W4 ∧ a < 5 ∧ b < 5 ∧ xs = g.way a b ∧ rv (a * 5 + b) = .slice qh lh ch) := ⟨b4, ha, hb, exs, erv⟩
  obtain ⟨ii, hii, hz0, hz1, hz2⟩ := info_int
  have HJ : Hid (Tryd.prog.info? 3 = some ii ∧ ii.zero = some (.int .i64 0) ∧ ii.size = 1 ∧ ii.bytes = 8) := ⟨hii, hz0, hz1, hz2⟩
  have hPl := h.lt
  clear h ha hb hbw b4 r4 h4 b5 h5 s5 erv own5 exs elh hcl hT6 hent n6 l5 s6 k6 T5 nP nB hii hz0 hz1 hz2 eT hab
  go_enter Tryd.func23, Tryd.ntmps23
  go_upto_region 1 with fail
  rw [← eB]
  have EB : Hid (B = w.heap.size) := eB
  have E5 : Hid (W5 = W4.alloc (.cells #[.int .i64 x] 3)) := eW5
  clear eB eW5
  refine wp_region_held_drew (S := fun X => X.cell? ⟨P, 1, none⟩ = some (.map (some mO)) ∧ X.cell? ⟨B, 0, none⟩ = some (.int .i64 (a : Int)) ∧ X.cell? ⟨B, 1, none⟩ = some (.int .i64 (b : Int))) (by kernel_rfl) (HS.out _ (fun _ _ _ => by rw [eW4])) ?_
  intro hS
  rw [← eW4] at hS ⊢
  clear eW4
  refine takeG (i := 0) 6 (v := .pointer (some ⟨P, 0, none⟩)) rfl rfl (by kernel_rfl) (by kernel_rfl) (by kernel_rfl) (fun _ _ _ h => h) (Or.inl ⟨by kernel_rfl, fun _ hS => by first | rfl | (obtain ⟨g4, k0, k1⟩ := hS; go_simp)⟩) hS ?_
  try simp only [Act.put, List.setIfInBounds_toArray, List.set_cons_zero, List.set_cons_succ]
  refine takeG (i := 1) 7 (v := .pointer (some ⟨P, 0, none⟩)) rfl rfl (by kernel_rfl) (by kernel_rfl) (by kernel_rfl) (fun _ _ _ h => h) (Or.inl ⟨by kernel_rfl, fun _ hS => by first | rfl | (obtain ⟨g4, k0, k1⟩ := hS; go_simp)⟩) hS ?_
  try simp only [Act.put, List.setIfInBounds_toArray, List.set_cons_zero, List.set_cons_succ]
  refine takeG (i := 2) 8 (v := .pointer (some ⟨P, 1, none⟩)) rfl rfl (by kernel_rfl) (by kernel_rfl) (by kernel_rfl) (fun _ _ _ h => h) (Or.inl ⟨by kernel_rfl, fun _ hS => by first | rfl | (obtain ⟨g4, k0, k1⟩ := hS; go_simp)⟩) hS ?_
  try simp only [Act.put, List.setIfInBounds_toArray, List.set_cons_zero, List.set_cons_succ]
  refine takeG (i := 3) 9 (v := .map (some mO)) rfl rfl (by kernel_rfl) (by kernel_rfl) (by kernel_rfl) (fun _ _ _ h => h) (Or.inl ⟨by kernel_rfl, fun _ hS => by first | rfl | (obtain ⟨g4, k0, k1⟩ := hS; go_simp)⟩) hS ?_
  try simp only [Act.put, List.setIfInBounds_toArray, List.set_cons_zero, List.set_cons_succ]
  refine takeG (i := 4) 10 (v := .agg #[.int .i64 (a : Int), .int .i64 (b : Int)]) rfl rfl (by kernel_rfl) (by kernel_rfl) (by kernel_rfl) (fun _ _ _ h => h) (Or.inl ⟨by kernel_rfl, fun _ hS => by first | rfl | (obtain ⟨g4, k0, k1⟩ := hS; go_simp)⟩) hS ?_
  try simp only [Act.put, List.setIfInBounds_toArray, List.set_cons_zero, List.set_cons_succ]
  refine takeG (i := 5) 12 (v := .int .i64 x) rfl rfl (by kernel_rfl) (by kernel_rfl) (by kernel_rfl) (fun _ _ _ h => h) (Or.inl ⟨by kernel_rfl, fun _ hS => by first | rfl | (obtain ⟨g4, k0, k1⟩ := hS; go_simp)⟩) hS ?_
  try simp only [Act.put, List.setIfInBounds_toArray, List.set_cons_zero, List.set_cons_succ]
  refine wpAnyH_ready (rs := [6]) (by kernel_rfl) (by simp) ?_
  refine AllReadyH.cons rfl (fun K9 hK9 => ?_) AllReadyH.nil
  go_simp
  rw [← HL2.out, ← E5.out]
  refine hK9.out _ _ (HS.out _ HK5.out) (fun hS => ?_)
  clear hK9 K9
  refine wpAnyH_ready (rs := [7]) (by kernel_rfl) (by simp) ?_
  refine AllReadyH.cons rfl (fun K9 hK9 => ?_) AllReadyH.nil
  go_simp
  refine hK9.out _ _ (HS.out _ fun b hb hne => HK6.out b hb.1 hne) (fun hS => ?_)
  clear hK9 K9
  refine takeG (i := 8) 11 (v := .slice qh lh ch) rfl rfl (by kernel_rfl) (by kernel_rfl) (by kernel_rfl) (fun _ _ _ h => h) (Or.inl ⟨by kernel_rfl, fun _ hS => by first | rfl | (obtain ⟨g4, k0, k1⟩ := hS; go_simp)⟩) hS ?_
  try simp only [Act.put, List.setIfInBounds_toArray, List.set_cons_zero, List.set_cons_succ]
  refine takeG (i := 10) 16 (v := goInt st) rfl rfl (by kernel_rfl) (by kernel_rfl) (by kernel_rfl) (fun _ _ _ h => h) (Or.inl ⟨by kernel_rfl, fun _ hS => by first | rfl | (obtain ⟨g4, k0, k1⟩ := hS; go_simp)⟩) hS ?_
  try simp only [Act.put, List.setIfInBounds_toArray, List.set_cons_zero, List.set_cons_succ]
  refine wpAnyH_ready (rs := [9]) (by kernel_rfl) (by simp) ?_
  refine AllReadyH.cons rfl (fun K9 hK9 => ?_) AllReadyH.nil
  (refine step_append_off (by rfl) _ _ _ (by rfl) base ii Tryd.underlying22 HJ.out.1 HJ.out.2.1 HJ.out.2.2.1 HJ.out.2.2.2 (.slice qh lh ch) xs (by rfl) (by exact HO6.out.1) ⟨T, 0, none⟩ 1 x (by rfl) (by exact HO6.out.2.1) (by have := EL.out; omega) (by exact HO6.out.2.2.1) ?_; intro g7 off gc w7 hown hgrow hat)
  rw [← EL.out] at hown ⊢
  obtain ⟨w8, hE8, hM8, hT8⟩ := HE.out w7 (.slice (some ⟨g7, off, none⟩) (lh + 1) gc) (hgrow.block mO HL.out.1 HL.out.2)
  have H7 : Hid (OR w7 base (.slice (some ⟨g7, off, none⟩) (lh + 1) gc) (xs ++ [x]) ∧ W6.grownBy w7 (Value.slice qh lh ch).ownBlock ∧ ((Value.slice qh lh ch).ownBlock = some g7 ∨ g7 = W6.heap.size)) := ⟨hown, hgrow, hat⟩
  have H8 : Hid (MapW.MM w8 mO (MapW.putT (T2 (wyB g.way) (wyV rv)) (a : Int) (b : Int) (.slice (some ⟨g7, off, none⟩) (lh + 1) gc)) (if (T2 (wyB g.way) (wyV rv) (a : Int) (b : Int)).isSome = true then cn2 (wyB g.way) else cn2 (wyB g.way) + 1) ∧ w7.mapTurned w8 mO) := ⟨hM8, hT8⟩
  have HK7 : Hid (∀ b, b < W4.heap.size → b ≠ mO → some b ≠ (Value.slice qh lh ch).ownBlock → w7.heap[b]? = W4.heap[b]?) := fun b hb hne hn7 => (H7.out.2.1.block b (by have := HO6.out.2.2.2; have := HL2.out; omega) hn7).trans (HK6.out b hb hne)
  have HK8 : Hid (∀ b, b < W4.heap.size → b ≠ mO → some b ≠ (Value.slice qh lh ch).ownBlock → w8.heap[b]? = W4.heap[b]?) := fun b hb hne hn7 => (g_of_turned H8.out.2 (by have := H7.out.2.1.size; have := HO6.out.2.2.2; have := HL2.out; omega) hne).trans (HK7.out b hb hne hn7)
  have HS7 : Hid (w7.cell? ⟨P, 1, none⟩ = some (.map (some mO)) ∧ w7.cell? ⟨B, 0, none⟩ = some (.int .i64 (a : Int)) ∧ w7.cell? ⟨B, 1, none⟩ = some (.int .i64 (b : Int))) := HS.out _ fun b hb hne => HK7.out b hb.1 hne hb.2
  have hE9 : (Instr.entryStore 62 (.map (some mO)) (.int .i64 (st : Int)) (.slice (some ⟨g7, off, none⟩) (lh + 1) gc)).run Tryd.prog w7 = .ok () w8 := hE8
  clear hown hgrow hat hM8 hT8 hE8
  refine hK9.out _ _ HS7.out (fun hS => ?_)
  clear hK9 K9
  refine wpAnyH_ready (rs := [11]) (by kernel_rfl) (by simp) ?_
  refine AllReadyH.cons rfl (fun K9 hK9 => ?_) AllReadyH.nil
  go_simp
  refine hK9.out _ _ (HS.out _ fun b hb hne => HK8.out b hb.1 hne hb.2) (fun hS => ?_)
  clear hK9 K9
  refine wpAnyH_done (by kernel_rfl) ?_ _
  clear hE9
  go_wp2
  go_end0
  have hW4 : Below w.heap.size w W4 := HW.out.1
  have hS4 := hW4.size
  have b6 : Below base w W6 := (hW4.mono HG.out.2).trans HB6.out
  have b7 : Below base w w7 := b6.grown H7.out.2.1 HO6.out.2.2.1 fun b hb => (HO6.out.1.lt b hb).1
  have b8 : Below base w w8 := b7.trans (turned_below H8.out.2 HG.out.1.low.2.2.1)
  have s6 := HO6.out.2.2.2
  have e4 := HL2.out
  have eo := HW.out.2.2.2.2
  have hat : (rv (a * 5 + b)).ownBlock = some g7 ∨ w.heap.size ≤ g7 := by
    rw [eo]
    rcases H7.out.2.2 with q | q
    · exact .inl q
    · exact .inr (by omega)
  have ng : g7 ≠ mO := by
    intro e
    rcases H7.out.2.2 with q | q
    · exact HL.out.2 (by rw [q, e])
    · have := HG.out.1.onw.lt
      omega
  have o8 : OR w8 base (.slice (some ⟨g7, off, none⟩) (lh + 1) gc) (xs ++ [x]) := by
    refine H7.out.1.of_block fun b hb => ?_
    have e : g7 = b := by simpa [Value.ownBlock] using hb
    exact g_of_turned H8.out.2 (H7.out.1.lt b hb).2 (by rw [← e]; exact ng)
  have m8 := M2.putIs HW.out.2.1 HW.out.2.2.1 H8.out.1
  obtain ⟨r1, r2⟩ := HG.out.1.setWay HW.out.2.1 HW.out.2.2.1 m8 (l := xs ++ [x]) (by rw [show (!(xs ++ [x]).isEmpty) = true by simp]) b8 (fun b hb hne hn => (HK8.out b (by omega) hne (by rw [← eo]; exact fun z => hn z.symm)).trans (hW4.block b hb)) o8 (fun c hc => by
    have e : g7 = c := by simpa [Value.ownBlock] using hc
    rw [← e]
    exact hat) (fun z => by simp at z)
  rw [HW.out.2.2.2.1] at r1
  exact ⟨rfl, _, r1, r2⟩
end Go.Proofs.YtgcdbcljneoifajDoor.Pic
