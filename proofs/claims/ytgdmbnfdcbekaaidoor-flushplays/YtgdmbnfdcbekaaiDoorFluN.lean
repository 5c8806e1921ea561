/-
  Contract of package flush's New.
-/
import Derived.Test.YtgdmbnfdcbekaaiDoorFluC
namespace Go.Proofs.YtgdmbnfdcbekaaiDoor.Flu
open Go.RowKit Go.Maps
open Go.Proofs.YtgdmbnfdcbekaaiDoor.Fif (own_lt own_block own_form own_mono own_vw ret_bool info_int new_int int_one)
open Go.Proofs.YtgdmbnfdcbekaaiDoor.Vec (Vw)
open Go.Proofs.YtgdmbnfdcbekaaiDoor.Sep (KpL NewL)
open Go.Proofs.YtgdmbnfdcbekaaiDoor.Ldr (errF errF_ok errF_no Sl)
open Go.Proofs.YtgdmbnfdcbekaaiDoor.MapV (turned_below g_of_turned wfI)
set_option linter.unusedVariables false
variable {w wr w' : World} {P mS mH : Nat}

/-- while members come in -/
structure NW (w wr : World) (P mS mH : Nat) (v : Value) (i : Nat) : Prop where
  row : wr.rowIs P 56 5 (gv 0 v mS nilV mH)
  said : MapV.MM wr mS (fun _ => none) 0
  heard : MapS.MM wr mH (fun _ _ => none) 0
  own : wr.ownsRow w.heap.size 3 1 v i ((allOf i).map (Value.int .i64))
  low : w.heap.size ≤ P ∧ w.heap.size ≤ mS ∧ w.heap.size ≤ mH
  ne : mS ≠ mH
  bel : Below w.heap.size w wr
theorem grown_tmpN {w w5 : World} {ob : Obj} {r : Option Nat} (hg : (w.alloc ob).grownBy w5 r) : w.grownBy w5 r := by
  obtain ⟨a1, a2, a3, a4, a5⟩ := hg
  have b : Below w.heap.size w (w.alloc ob) := (Below.refl _ _).alloc (Nat.le_refl _) _
  exact ⟨a1, a2, a3, Nat.le_trans b.size a4, fun k hk hne => (a5 k (Nat.lt_of_lt_of_le hk b.size) hne).trans (b.block k hk)⟩
theorem allOf_snoc (i : Nat) : allOf (i + 1) = allOf i ++ [(i : Int)] := by simp [allOf, List.range_succ]
theorem NW.begin (w : World) : NW w (((w.alloc (.map #[] 0)).alloc (.map #[] 0)).alloc (.cells #[.int .i64 0, nilV, .map (some w.heap.size), nilV, .map (some (w.heap.size + 1))] 56)) (w.heap.size + 2) w.heap.size (w.heap.size + 1) nilV 0 := by
  obtain ⟨w1, e1⟩ : ∃ w1, w1 = w.alloc (.map #[] 0) := ⟨_, rfl⟩
  obtain ⟨w2, e2⟩ : ∃ w2, w2 = w1.alloc (.map #[] 0) := ⟨_, rfl⟩
  rw [← e1, ← e2]
  have b1 : Below w.heap.size w w1 := by rw [e1]; exact (Below.refl _ _).alloc (Nat.le_refl _) _
  have b2 : Below w1.heap.size w1 w2 := by rw [e2]; exact (Below.refl _ _).alloc (Nat.le_refl _) _
  have s1 : w1.heap.size = w.heap.size + 1 := by rw [e1]; simp
  have s2 : w2.heap.size = w.heap.size + 2 := by rw [e2]; simp [s1]
  have m1 : MapV.MM w1 w.heap.size (fun _ => none) 0 := by rw [e1]; exact MapV.MM.made w
  have m2 : MapS.MM w2 (w.heap.size + 1) (fun _ _ => none) 0 := by rw [e2, ← s1]; exact MapS.MM.made w1
  obtain ⟨w3, e3⟩ : ∃ w3, w3 = w2.alloc (.cells #[.int .i64 0, nilV, .map (some w.heap.size), nilV, .map (some (w.heap.size + 1))] 56) := ⟨_, rfl⟩
  have b3 : Below w2.heap.size w2 w3 := by rw [e3]; exact (Below.refl _ _).alloc (Nat.le_refl _) _
  have r3 := World.rowIs_alloc w2 #[.int .i64 0, nilV, .map (some w.heap.size), nilV, .map (some (w.heap.size + 1))] 56 (gv 0 nilV w.heap.size nilV (w.heap.size + 1)) (fun i hi => by rcases i with _ | _ | _ | _ | _ | i <;> first | rfl | (exfalso; have : _ < 5 := hi; omega))
  rw [← e3, s2] at r3
  rw [← e3]
  refine ⟨r3, ?_, ?_, World.ownsRow_nil _ _ _ _, by omega, by omega, ?_⟩
  · exact (m1.of_block (b2.block _ (by omega))).of_block (b3.block _ (by omega))
  · exact m2.of_block (b3.block _ (by omega))
  · exact (b1.trans (b2.mono (by omega))).trans (b3.mono (by omega))
/-- one member more -/
theorem NW.step {w5 : World} {v : Value} {i g gc : Nat} (h : NW w wr P mS mH v i) (hg : wr.grownBy w5 v.ownBlock) (ho : w5.ownsRow w.heap.size 3 1 (.slice (some ⟨g, 0, none⟩) (i + 1) gc) (i + 1) ((allOf i).map (Value.int .i64) ++ [.int .i64 (i : Int)])) : NW w (w5.setCell ⟨P, 1, none⟩ (.slice (some ⟨g, 0, none⟩) (i + 1) gc)) P mS mH (.slice (some ⟨g, 0, none⟩) (i + 1) gc) (i + 1) := by
  have nP : some P ≠ v.ownBlock := fun e => tyB_ne (tyB_own h.own e.symm) (tyB_row h.row) (by decide) rfl
  have hP := World.rowIs.lt h.row
  have r5 := World.rowIs.of_block h.row (hg.block P hP nP)
  have k5 : ∀ b, b ≠ P → (w5.setCell ⟨P, 1, none⟩ (.slice (some ⟨g, 0, none⟩) (i + 1) gc)).heap[b]? = w5.heap[b]? := fun b q => Deep.blk_setCell_other _ _ _ _ q
  have gP : g ≠ P := tyB_ne (tyB_own ho (k := g) rfl) (tyB_row r5) (by decide)
  refine ⟨(World.rowIs.set r5 1 _).congr fun j hj => ?_, h.said.of_block ((k5 _ (h.said.row h.row).symm).trans (hg.block _ h.said.lt fun e => h.said.own h.own e.symm)), h.heard.of_block ((k5 _ (h.heard.row h.row).symm).trans (hg.block _ h.heard.lt fun e => h.heard.own h.own e.symm)), ?_, h.low, h.ne, (h.bel.grown hg h.bel.size fun b hb => (own_lt h.own b hb).1).setCell (p := ⟨P, 1, none⟩) h.low.1 _⟩
  · unfold gv
    by_cases e : j = 1
    · rw [if_pos e, if_neg (by omega), if_pos e]
    · rw [if_neg e, if_neg e, if_neg e]
  · rw [allOf_snoc, List.map_append]
    refine own_block ho fun b hb => k5 b ?_
    have e : g = b := by simpa [Value.ownBlock] using hb
    rw [← e]
    exact gP
theorem hasB_start (n i : Nat) : hasB (start n) i = false := by
  unfold hasB
  by_cases q : 2 ≤ i
  · unfold lsP lsF
    rw [if_neg (by omega), if_neg (by omega), if_neg (by omega)]
    simp [start]
  · rw [decide_eq_false q]; rfl
theorem lsP_start (n i : Nat) : lsP (start n) i = [] := by
  unfold lsP lsF
  by_cases h0 : i = 0
  · rw [if_pos h0]
  · rw [if_neg h0, if_neg h0]
    by_cases h1 : i = 1
    · rw [if_pos h1]; rfl
    · rw [if_neg h1]; rfl
/-- all are in it -/
theorem NW.made {v : Value} {n : Nat} (h : NW w wr P mS mH v n) (h2 : 2 ≤ n) : ∃ bH cH, GF wr w.heap.size P mS mH bH 0 cH (fun _ => nilV) (start n) := by
  have el : (start n).v.has.length = n := allOf_len n
  have esl : Sl wr v (allOf n) := Sl.of_own (by rw [allOf_len]; exact h.own)
  rcases h.own.2 with ⟨-, e⟩ | ⟨g, cap, cur, e, hb, hh, -⟩
  · omega
  · subst e
    have nP : g ≠ P := tyB_ne (tyB_own h.own (k := g) rfl) (tyB_row h.row) (by decide)
    refine ⟨g, cap, ?_⟩
    exact
    { row := h.row.congr fun j hj => by rw [el]; rfl
      said := h.said.congr (fun i => if_neg (by rintro ⟨_, q⟩; cases q)) rfl
      heard := h.heard.congr (fun a b => if_neg (fun q => q.2 rfl)) (by
        have z := cnK_congr (p := fun _ => false) (q := hasB (start n)) (n := cntF (start n)) fun i _ => hasB_start n i
        have z2 : cnK (fun _ => false) (0 + cntF (start n)) = cnK (fun _ => false) 0 := cnK_more fun _ _ _ => rfl
        rw [Nat.zero_add] at z2
        exact z.trans z2)
      ints := ⟨fun i hi => by rw [lsP_start]; exact World.ownsRow_nil _ _ _ _, fun i j _ _ _ b q => by cases q⟩
      has := by rw [el]; exact esl
      nil := fun _ _ _ => rfl
      low := ⟨h.low.1, h.low.2.1, h.low.2.2, hb⟩
      ltH := (own_lt h.own g rfl).2
      ne := ⟨h.ne, nP, fun e => h.said.own h.own (by rw [← e]; rfl), fun e => h.heard.own h.own (by rw [← e]; rfl)⟩
      nr := fun i _ q => by cases q
      sm := fun k m => Nat.zero_le _ }
set_option maxRecDepth 100000 in
set_option maxHeartbeats 1000000 in
theorem newU_ok (n : Nat) (h2 : 2 ≤ n) (h5 : n ≤ 5) (w : World) : Calls Tryd.prog 5 #[.int .i64 (n : Int)] w fun x w' => ∃ P fp, x = .returned (.tuple #[.pointer (some ⟨P, 0, none⟩), .nilIface]) ∧ US w' w.heap.size P (start n) fp ∧ Below w.heap.size w w' := by
  have d1 : ¬ (n : Int) < 2 := by omega
  have d2 : ¬ (n : Int) > 5 := by omega
  have d1' : ¬ n < 2 := by omega
  have d2' : ¬ 5 < n := by omega
  have H0 : Hid _ := NW.begin w
  have hmk : ∀ W : World, (Instr.makeMap 53 none).run Tryd.prog W = .ok (.map (some W.heap.size)) (W.alloc (.map #[] 0)) := fun _ => rfl
  have hmk2 : ∀ W : World, (Instr.makeMap 54 none).run Tryd.prog W = .ok (.map (some W.heap.size)) (W.alloc (.map #[] 0)) := fun _ => rfl
  obtain ⟨ii, hii, hz0, hz1, hz2⟩ := info_int
  have HJ : Hid (Tryd.prog.info? 3 = some ii ∧ ii.zero = some (.int .i64 0) ∧ ii.size = 1 ∧ ii.bytes = 8) := ⟨hii, hz0, hz1, hz2⟩
  have HN : Hid (2 ≤ n ∧ n ≤ 5) := ⟨h2, h5⟩
  clear hii hz0 hz1 hz2 h2
  go_enter Tryd.func5, Tryd.ntmps5
  go_wp2
  go_loopw [5, 18] (fun x5 x wr => ∃ i : Nat, i ≤ n ∧ x = .int .i64 (i : Int) ∧ Hid (∃ v, NW w wr (w.heap.size + 2) w.heap.size (w.heap.size + 1) v i)) (fun _ x _ => n - (intOf x).toNat)
  case atStart => exact ⟨0, by omega, rfl, nilV, H0.out⟩
  case round =>
    obtain ⟨i, hi, rfl, hQ⟩ := hrel
    obtain ⟨v, hv⟩ := hQ.out
    have HV : Hid (NW w wr (w.heap.size + 2) w.heap.size (w.heap.size + 1) v i) := hv
    by_cases hlt : i < n
    · have hlt' : (i : Int) < (n : Int) := by omega
      obtain ⟨q, cap, rfl⟩ := own_form hv.own
      have c1 := World.rowIs.cell hv.row (i := 1) (by omega)
      have z1 := World.rowIs.frozen hv.row 1
      have hPl := World.rowIs.lt hv.row
      have nP : some (w.heap.size + 2) ≠ (Value.slice q i cap).ownBlock := fun e => tyB_ne (tyB_own hv.own e.symm) (tyB_row hv.row) (by decide) rfl
      have NP : Hid (some (w.heap.size + 2) ≠ (Value.slice q i cap).ownBlock) := nP
      have c1' : wr.cell? ⟨w.heap.size + 2, 1, none⟩ = some (.slice q i cap) := c1
      clear hQ hv c1 nP
      go_wp2_with (at_builtin; refine wpList_append_lies _ rfl _ _ 28 rfl w.heap.size 3 ii (.int .i64 0) 1 8 Tryd.underlying28 HJ.out.1 HJ.out.2.1 HJ.out.2.2.1 HJ.out.2.2.2 rfl (by decide) (.slice q i cap) i ((allOf i).map (Value.int .i64)) rfl (by exact own_block HV.out.own fun b hb => Below.heap_alloc _ _ _ (own_lt HV.out.own b hb).2) ⟨wr.heap.size, 0, none⟩ 1 1 [.int .i64 (i : Int)] rfl rfl (by exact new_int wr _ rfl _ 3) (int_one _) (by omega) (by unfold maxLen; omega) (by omega) (by have := HV.out.bel.size; simp; omega) (wr.heap.size + 1) (by simp) ?_; intro g4 k4 w4 hown hgrow hlie hg4; have HG4 : Hid (wr.grownBy w4 (Value.slice q i cap).ownBlock) := grown_tmpN hgrow; have H4 : Hid (w4.ownsRow w.heap.size 3 1 (.slice (some ⟨g4, 0, none⟩) (i + 1) k4) (i + 1) ((allOf i).map (Value.int .i64) ++ [.int .i64 (i : Int)])) := hown; have y1 : w4.cell? ⟨w.heap.size + 2, 1, none⟩ = some (.slice q i cap) := (HG4.out.cell_far ⟨w.heap.size + 2, 1, none⟩ hPl NP.out).trans c1'; have x1 : w4.frozen? ⟨w.heap.size + 2, 1, none⟩ = false := (HG4.out.frozen_far ⟨w.heap.size + 2, 1, none⟩ hPl NP.out).trans z1; clear hown hgrow hlie hg4)
      go_roundw
      case rel => exact ⟨i + 1, by omega, by go_num, _, HV.out.step HG4.out H4.out⟩
      case measure => simp [intOf]; omega
    · have hlt' : ¬ (i : Int) < (n : Int) := by omega
      have e : i = n := by omega
      subst e
      clear hQ hv
      go_wp2
      go_ret2
      obtain ⟨bH, cH, hg⟩ := HV.out.made HN.out.1
      exact ⟨_, rfl, ⟨_, _, _, bH, 0, cH, _, rfl, hg⟩, HV.out.bel⟩
theorem newU_no (n : Int) (hn : n < 2 ∨ 5 < n) (w : World) : Calls Tryd.prog 5 #[.int .i64 n] w fun x w' => x = .returned (.tuple #[.pointer none, errF 1]) ∧ Below w.heap.size w w' := by
  rw [errF_no (by decide)]
  by_cases h : n < 2
  · go_enter Tryd.func5, Tryd.ntmps5
    go_wp2
    go_ret2
    exact ⟨rfl, Below.refl _ _⟩
  · have h5 : n > 5 := by omega
    clear hn
    go_enter Tryd.func5, Tryd.ntmps5
    go_wp2
    go_ret2
    exact ⟨rfl, Below.refl _ _⟩
end Go.Proofs.YtgdmbnfdcbekaaiDoor.Flu
