/-
  The document's own group that flushes: what the end of a Change leaves, a step at a time.
-/
import Derived.Test.YtgdmbnfdcbekaaiDoorFlqY
namespace Go.Proofs.YtgdmbnfdcbekaaiDoor.Flu
open Go.RowKit
open Go.Proofs.YtgdmbnfdcbekaaiDoor.Fif (own_lt own_block own_form own_vw ret_bool info_int new_int int_one)
open Go.Proofs.YtgdmbnfdcbekaaiDoor.Vec (Vw)
set_option linter.unusedVariables false
variable {w w' w5 : World} {base R N g cap K : Nat} {n : Int} {was : Int → Bool} {vh vs : Value} {L : Nat → List Int} {rv : Nat → Value} {hv : Nat → Nat → Value}

/-- an array of the row is another one -/
theorem RX.five (h : RX w base R N n was vh vs L rv g cap K hv) {k : Nat} (hk : k < K) (v : Nat → Value) : RX (((((w.setCell ⟨g, k * 5 + 0, none⟩ (v 0)).setCell ⟨g, k * 5 + 1, none⟩ (v 1)).setCell ⟨g, k * 5 + 2, none⟩ (v 2)).setCell ⟨g, k * 5 + 3, none⟩ (v 3)).setCell ⟨g, k * 5 + 4, none⟩ (v 4)) base R N n was vh vs L rv g cap K (fun a b => if a = k then v b else hv a b) ∧ XR w (((((w.setCell ⟨g, k * 5 + 0, none⟩ (v 0)).setCell ⟨g, k * 5 + 1, none⟩ (v 1)).setCell ⟨g, k * 5 + 2, none⟩ (v 2)).setCell ⟨g, k * 5 + 3, none⟩ (v 3)).setCell ⟨g, k * 5 + 4, none⟩ (v 4)) base R g N rv g N rv := by
  obtain ⟨a0, b0⟩ := h.onG hk (m := 0) (by omega) (v 0)
  obtain ⟨a1, b1⟩ := a0.onG hk (m := 1) (by omega) (v 1)
  obtain ⟨a2, b2⟩ := a1.onG hk (m := 2) (by omega) (v 2)
  obtain ⟨a3, b3⟩ := a2.onG hk (m := 3) (by omega) (v 3)
  obtain ⟨a4, b4⟩ := a3.onG hk (m := 4) (by omega) (v 4)
  refine ⟨⟨a4.main, a4.ints, a4.rows.congr fun a b ha hb => ?_, a4.low⟩, (((b0.trans b1).trans b2).trans b3).trans b4⟩
  by_cases e : a = k
  · subst e
    rcases (show b = 0 ∨ b = 1 ∨ b = 2 ∨ b = 3 ∨ b = 4 by omega) with rfl | rfl | rfl | rfl | rfl <;> simp
  · rw [if_neg e, if_neg (fun z => e z.1), if_neg (fun z => e z.1), if_neg (fun z => e z.1), if_neg (fun z => e z.1), if_neg (fun z => e z.1)]
/-- a new view: one array more -/
theorem RX.more (h : RX w base R N n was vh vs L rv g cap K hv) {g' cap' : Nat} (hg : w.grownBy w5 (some g)) (ho : w5.ownsRow base 48 5 (.slice (some ⟨g', 0, none⟩) (K + 1) cap') (K + 1) (flatH hv K ++ [nilV, nilV, nilV, nilV, nilV])) (hat : some g = some g' ∨ w.heap.size ≤ g') :
    RX (w5.setCell ⟨R, 34, none⟩ (.slice (some ⟨g', 0, none⟩) (K + 1) cap')) base R N n was vh vs L rv g' cap' (K + 1) (fun k m => if k = K then nilV else hv k m) ∧ XR w (w5.setCell ⟨R, 34, none⟩ (.slice (some ⟨g', 0, none⟩) (K + 1) cap')) base R g N rv g' N rv := by
  have hbw : base ≤ w.heap.size := Nat.le_trans h.low (Nat.le_of_lt h.lt)
  have hRg : some R ≠ some g := fun e => h.neG (Option.some.inj e).symm
  have e1 : flatH (fun k m => if k = K then nilV else hv k m) (K + 1) = flatH hv K ++ [nilV, nilV, nilV, nilV, nilV] := by
    rw [flatH_succ]
    congr 1
    · exact flatH_congr fun k m hk _ => if_neg (by omega)
    · simp [Flu.five]
  have rh : RH w5 base g' cap' (K + 1) (fun k m => if k = K then nilV else hv k m) := RH.of_own (by rw [e1]; exact ho) (by omega)
  have m5 : RM w5 R n was vh vs (.slice (some ⟨g, 0, none⟩) K cap) := World.rowIs.of_block h.main (hg.block R h.lt hRg)
  have hgR : g' ≠ R := tyB_ne rh.ty (tyB_row m5) (by decide)
  have hk : ∀ b, b ≠ R → (w5.setCell ⟨R, 34, none⟩ (.slice (some ⟨g', 0, none⟩) (K + 1) cap')).heap[b]? = w5.heap[b]? := fun b q => Deep.blk_setCell_other _ _ _ _ q
  have i5 : RI w5 base N L rv := h.ints.of_blocks fun i b hi hb => hg.block b (own_lt (h.ints.own i hi) b hb).2 fun e => (h.neI hi hb).2 (Option.some.inj e)
  refine ⟨⟨m5.setR _, i5.of_blocks fun i b hi hb => hk b (h.neI hi hb).1, rh.of_block (hk g' hgR), h.low⟩, ⟨((Below.refl base w).grown hg hbw fun b hb => by rw [← Option.some.inj hb]; exact h.rows.low).setCell (p := ⟨R, 34, none⟩) h.low _, fun b hb hn => (hk b fun e => hn (.inl e)).trans (hg.block b hb fun e => hn (.inr (.inl (Option.some.inj e)))), fun b hb => ?_⟩⟩
  rcases hb with e | e | e
  · exact .inl (.inl e)
  · rcases hat with q | q
    · exact .inl (.inr (.inl (by rw [e, Option.some.inj q])))
    · exact .inr (by rw [e]; exact q)
  · exact .inl (.inr (.inr e))
/-- rows of the new view, all empty -/
theorem RX.wider (h : RX w base R N n was vh vs L rv g cap K hv) (j : Nat) : RX w base R (N + j) n was vh vs (fun i => if i < N then L i else []) (fun i => if i < N then rv i else nilV) g cap K hv ∧ XR w w base R g N rv g (N + j) (fun i => if i < N then rv i else nilV) := by
  refine ⟨⟨h.main, ⟨fun i hi => ?_, fun i k hi hk hn b hb => ?_⟩, h.rows, h.low⟩, ⟨Below.refl _ _, fun _ _ _ => rfl, fun b hb => ?_⟩⟩
  · by_cases q : i < N
    · simp only [if_pos q]; exact h.ints.own i q
    · simp only [if_neg q]; exact World.ownsRow_nil _ _ _ _
  · by_cases q : i < N
    · rw [if_pos q] at hb
      by_cases q2 : k < N
      · rw [if_pos q2]; exact h.ints.sep i k q q2 hn b hb
      · rw [if_neg q2]; intro z; cases z
    · rw [if_neg q] at hb; cases hb
  · rcases hb with e | e | ⟨i, hi, e⟩
    · exact .inl (.inl e)
    · exact .inl (.inr (.inl e))
    · by_cases q : i < N
      · simp only [if_pos q] at e; exact .inl (.inr (.inr ⟨i, q, e⟩))
      · simp only [if_neg q] at e; cases e
/-- a row begins anew -/
theorem RX.bare (h : RX w base R N n was vh vs L rv g cap K hv) {i : Nat} (hi : i < N) : RX w base R N n was vh vs (upV L i []) (upV rv i nilV) g cap K hv ∧ XR w w base R g N rv g N (upV rv i nilV) := by
  refine ⟨⟨h.main, h.ints.set hi (fun _ _ _ _ _ => rfl) (World.ownsRow_nil _ _ _ _) (fun b hb => by cases hb), h.rows, h.low⟩, ⟨Below.refl _ _, fun _ _ _ => rfl, fun b hb => ?_⟩⟩
  rcases hb with e | e | ⟨j, hj, e⟩
  · exact .inl (.inl e)
  · exact .inl (.inr (.inl e))
  · by_cases q : j = i
    · rw [q, upV_same] at e; cases e
    · rw [upV_other _ _ q] at e; exact .inl (.inr (.inr ⟨j, hj, e⟩))
/-- and is filled -/
theorem RX.fill (h : RX w base R N n was vh vs L rv g cap K hv) {i : Nat} (hi : i < N) {v : Value} {l : List Int} (hg : w.grownBy w5 none) (ho : Orw w5 base v l) (hat : ∀ b, v.ownBlock = some b → w.heap.size ≤ b) : RX w5 base R N n was vh vs (upV L i l) (upV rv i v) g cap K hv ∧ XR w w5 base R g N rv g N (upV rv i v) := by
  have hbw : base ≤ w.heap.size := Nat.le_trans h.low (Nat.le_of_lt h.lt)
  have hk : ∀ b, b < w.heap.size → w5.heap[b]? = w.heap[b]? := fun b hb => hg.block b hb (by simp)
  refine ⟨⟨World.rowIs.of_block h.main (hk R h.lt), h.ints.set hi (fun j b hj _ hb => hk b (own_lt (h.ints.own j hj) b hb).2) ho (fun b hb => .inr (hat b hb)), h.rows.of_block (hk g h.rows.lt), h.low⟩, ⟨(Below.refl base w).grown hg hbw fun b hb => (by cases hb), fun b hb _ => hk b hb, fun b hb => ?_⟩⟩
  rcases hb with e | e | ⟨j, hj, e⟩
  · exact .inl (.inl e)
  · exact .inl (.inr (.inl e))
  · by_cases q : j = i
    · rw [q, upV_same] at e; exact .inr (hat b e)
    · rw [upV_other _ _ q] at e; exact .inl (.inr (.inr ⟨j, hj, e⟩))
end Go.Proofs.YtgdmbnfdcbekaaiDoor.Flu
