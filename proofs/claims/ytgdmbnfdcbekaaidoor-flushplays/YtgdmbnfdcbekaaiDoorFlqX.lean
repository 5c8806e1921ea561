/-
  The document's own group that flushes: a step at a time.
-/
import Derived.Test.YtgdmbnfdcbekaaiDoorFlqF
namespace Go.Proofs.YtgdmbnfdcbekaaiDoor.Flu
open Go.RowKit
open Go.Proofs.YtgdmbnfdcbekaaiDoor.Fif (own_lt own_block own_form own_vw ret_bool info_int new_int int_one)
open Go.Proofs.YtgdmbnfdcbekaaiDoor.Vec (Vw)
open Go.Proofs.YtgdmbnfdcbekaaiDoor.Sep (KpL NewL)
open Go.Proofs.YtgdmbnfdcbekaaiDoor.Ldr (Sl)
set_option linter.unusedVariables false

/-- its parts, each by itself -/
structure RX (w : World) (base R N : Nat) (n : Int) (was : Int → Bool) (vh vs : Value) (L : Nat → List Int) (rv : Nat → Value) (g cap K : Nat) (hv : Nat → Nat → Value) : Prop where
  main : RM w R n was vh vs (.slice (some ⟨g, 0, none⟩) K cap)
  ints : RI w base N L rv
  rows : RH w base g cap K hv
  low : base ≤ R
/-- what a step leaves alone -/
structure XR (w w' : World) (base R g N : Nat) (rv : Nat → Value) (g' N' : Nat) (rv' : Nat → Value) : Prop where
  bel : Below base w w'
  kp : ∀ b, b < w.heap.size → ¬ Fb R g N rv b → w'.heap[b]? = w.heap[b]?
  new : ∀ b, Fb R g' N' rv' b → Fb R g N rv b ∨ w.heap.size ≤ b
variable {w w' w1 w2 w5 : World} {base R N g cap K : Nat} {n : Int} {was : Int → Bool} {vh vs : Value} {L : Nat → List Int} {rv : Nat → Value} {hv : Nat → Nat → Value}
theorem XR.refl (w : World) (base R g N : Nat) (rv : Nat → Value) : XR w w base R g N rv g N rv := ⟨Below.refl _ _, fun _ _ _ => rfl, fun _ h => .inl h⟩
theorem XR.trans {g1 N1 g2 N2 : Nat} {rv1 rv2 : Nat → Value} (h : XR w w1 base R g N rv g1 N1 rv1) (h' : XR w1 w2 base R g1 N1 rv1 g2 N2 rv2) : XR w w2 base R g N rv g2 N2 rv2 := by
  refine ⟨h.bel.trans h'.bel, fun b hb hn => ?_, fun b hb => ?_⟩
  · rw [h'.kp b (Nat.lt_of_lt_of_le hb h.bel.size) (fun q => ?_), h.kp b hb hn]
    rcases h.new b q with a | a
    · exact hn a
    · omega
  · rcases h'.new b hb with a | a
    · exact h.new b a
    · exact .inr (Nat.le_trans h.bel.size a)
theorem XR.later (hbw : base ≤ w.heap.size) (hb : Below w.heap.size w w') (R g N : Nat) (rv : Nat → Value) : XR w w' base R g N rv g N rv := ⟨hb.mono hbw, fun b q _ => hb.block b q, fun _ h => .inl h⟩
theorem RX.lt (h : RX w base R N n was vh vs L rv g cap K hv) : R < w.heap.size := World.rowIs.lt h.main
theorem RX.neI (h : RX w base R N n was vh vs L rv g cap K hv) {i b : Nat} (hi : i < N) (hb : (rv i).ownBlock = some b) : b ≠ R ∧ b ≠ g := ⟨tyB_ne (tyB_own (h.ints.own i hi) hb) (tyB_row h.main) (by decide), tyB_ne (tyB_own (h.ints.own i hi) hb) h.rows.ty (by decide)⟩
theorem RX.neG (h : RX w base R N n was vh vs L rv g cap K hv) : g ≠ R := tyB_ne h.rows.ty (tyB_row h.main) (by decide)
theorem RX.fb (h : RX w base R N n was vh vs L rv g cap K hv) {b : Nat} (hb : Fb R g N rv b) : base ≤ b ∧ b < w.heap.size := by
  rcases hb with rfl | rfl | ⟨i, hi, hb⟩
  · exact ⟨h.low, h.lt⟩
  · exact ⟨h.rows.low, h.rows.lt⟩
  · exact own_lt (h.ints.own i hi) b hb
theorem RX.of_blocks (h : RX w base R N n was vh vs L rv g cap K hv) (hk : ∀ b, Fb R g N rv b → w'.heap[b]? = w.heap[b]?) : RX w' base R N n was vh vs L rv g cap K hv := ⟨World.rowIs.of_block h.main (hk R (.inl rfl)), h.ints.of_blocks fun i b hi hb => hk b (.inr (.inr ⟨i, hi, hb⟩)), h.rows.of_block (hk g (.inr (.inl rfl))), h.low⟩
theorem RX.later (h : RX w base R N n was vh vs L rv g cap K hv) (hb : Below w.heap.size w w') : RX w' base R N n was vh vs L rv g cap K hv := h.of_blocks fun b q => hb.block b (h.fb q).2
/-- a cell of the block is another one -/
theorem RX.onR (h : RX w base R N n was vh vs L rv g cap K hv) {j : Nat} {x : Value} {n' : Int} {was' : Int → Bool} {vh' vs' : Value} (hm : RM (w.setCell ⟨R, j, none⟩ x) R n' was' vh' vs' (.slice (some ⟨g, 0, none⟩) K cap)) : RX (w.setCell ⟨R, j, none⟩ x) base R N n' was' vh' vs' L rv g cap K hv ∧ XR w (w.setCell ⟨R, j, none⟩ x) base R g N rv g N rv := by
  have hk : ∀ b, b ≠ R → (w.setCell ⟨R, j, none⟩ x).heap[b]? = w.heap[b]? := fun b q => Deep.blk_setCell_other _ _ _ _ q
  exact ⟨⟨hm, h.ints.of_blocks fun i b hi hb => hk b (h.neI hi hb).1, h.rows.of_block (hk g h.neG), h.low⟩, ⟨(Below.refl base w).setCell (p := ⟨R, j, none⟩) h.low _, fun b _ hn => hk b fun e => hn (.inl e), fun b hb => .inl hb⟩⟩
/-- a cell of the row of arrays is another one -/
theorem RX.onG (h : RX w base R N n was vh vs L rv g cap K hv) {k m : Nat} (hk : k < K) (hm : m < 5) (v : Value) : RX (w.setCell ⟨g, k * 5 + m, none⟩ v) base R N n was vh vs L rv g cap K (fun a b => if a = k ∧ b = m then v else hv a b) ∧ XR w (w.setCell ⟨g, k * 5 + m, none⟩ v) base R g N rv g N rv := by
  have hk' : ∀ b, b ≠ g → (w.setCell ⟨g, k * 5 + m, none⟩ v).heap[b]? = w.heap[b]? := fun b q => Deep.blk_setCell_other _ _ _ _ q
  exact ⟨⟨World.rowIs.of_block h.main (hk' R (Ne.symm h.neG)), h.ints.of_blocks fun i b hi hb => hk' b (h.neI hi hb).2, h.rows.set hk hm v, h.low⟩, ⟨(Below.refl base w).setCell (p := ⟨g, k * 5 + m, none⟩) h.rows.low _, fun b _ hn => hk' b fun e => hn (.inr (.inl e)), fun b hb => .inl hb⟩⟩
/-- a row of numbers grows -/
theorem RX.app (h : RX w base R N n was vh vs L rv g cap K hv) {i : Nat} (hi : i < N) {k gg gc : Nat} {x : Int} (hn : k = (L i).length) (hg : w.grownBy w5 (rv i).ownBlock) (ho : w5.ownsRow base 3 1 (.slice (some ⟨gg, 0, none⟩) (k + 1) gc) (k + 1) ((L i).map (Value.int .i64) ++ [.int .i64 x])) (hat : (rv i).ownBlock = some gg ∨ w.heap.size ≤ gg) : RX w5 base R N n was vh vs (upV L i (L i ++ [x])) (upV rv i (.slice (some ⟨gg, 0, none⟩) (k + 1) gc)) g cap K hv ∧ XR w w5 base R g N rv g N (upV rv i (.slice (some ⟨gg, 0, none⟩) (k + 1) gc)) := by
  have hbw : base ≤ w.heap.size := Nat.le_trans h.low (Nat.le_of_lt h.lt)
  refine ⟨⟨World.rowIs.of_block h.main (hg.block R h.lt fun e => (h.neI hi e.symm).1 rfl), h.ints.app hi hn hg ho hat, h.rows.of_block (hg.block g h.rows.lt fun e => (h.neI hi e.symm).2 rfl), h.low⟩, ⟨(Below.refl base w).grown hg hbw fun b hb => (own_lt (h.ints.own i hi) b hb).1, fun b hb hn' => hg.block b hb fun e => hn' (.inr (.inr ⟨i, hi, e.symm⟩)), fun b hb => ?_⟩⟩
  rcases hb with e | e | ⟨j, hj, hb⟩
  · exact .inl (.inl e)
  · exact .inl (.inr (.inl e))
  · by_cases e : j = i
    · rw [e, upV_same] at hb
      have e2 : gg = b := by simpa [Value.ownBlock] using hb
      rcases hat with a | a
      · exact .inl (.inr (.inr ⟨i, hi, by rw [a, e2]⟩))
      · exact .inr (by omega)
    · rw [upV_other _ _ e] at hb
      exact .inl (.inr (.inr ⟨j, hj, hb⟩))
variable {f : F}
theorem RF.rx (h : RF w base R f rv g cap) : RX w base R (cntF f) f.v.n f.was (rv 0) (rv 1) (lsF f) rv g cap (num f + 1) (fun k m => rv (ix k m)) := ⟨h.main, h.ints, h.rows, h.low⟩
theorem RX.rf {f' : F} (h : RX w base R N n was vh vs L rv g cap K hv) (e1 : N = cntF f') (e2 : n = f'.v.n) (e3 : ∀ x, 0 ≤ x → x < 31 → was x = f'.was x) (e4 : vh = rv 0) (e5 : vs = rv 1) (e6 : ∀ i, i < N → lsF f' i = L i) (e7 : K = num f' + 1) (e8 : ∀ k m, k < K → m < 5 → rv (ix k m) = hv k m) : RF w base R f' rv g cap := by
  subst e1 e2 e4 e5 e7
  refine ⟨World.rowIs.congr h.main fun j hj => ?_, h.ints.congr e6 (fun _ _ => rfl), h.rows.congr e8, h.low⟩
  unfold fvc
  by_cases q0 : j = 0
  · rw [if_pos q0, if_pos q0]
  · by_cases q1 : j = 1
    · rw [if_neg q0, if_pos q1, if_neg q0, if_pos q1]
    · rw [if_neg q0, if_neg q1, if_neg q0, if_neg q1]
      by_cases q2 : j < 33
      · rw [if_pos q2, if_pos q2, e3 _ (by omega) (by omega)]
      · rw [if_neg q2, if_neg q2]
theorem FR.of {f' : F} {rv' : Nat → Value} {g' cap' : Nat} (h : RF w' base R f' rv' g' cap') (hx : XR w w' base R g (cntF f) rv g' (cntF f') rv') : FR w w' base R f f' rv rv' g g' cap' := ⟨h, hx.bel, hx.kp, hx.new⟩
theorem own_pushF {w w' : World} {base : Nat} {ob : Obj} {t : TypeId} {s n : Nat} {v : Value} {xs : List Value} (o : w.ownsRow base t s v n xs) (e : w'.heap = w.heap.push ob) : w'.ownsRow base t s v n xs := own_block o fun k hk => by
  rw [e, Array.getElem?_push_lt (own_lt o k hk).2, Array.getElem?_eq_getElem (own_lt o k hk).2]
theorem new_pushF {w w' : World} {x : Int} {t : TypeId} (e : w'.heap = w.heap.push (.cells #[.int .i64 x] t)) : ∀ j u, [Value.int .i64 x][j]? = some u → w'.cell? ((⟨w.heap.size, 0, none⟩ : Addr).add j) = some u := by
  intro j u hj
  refine Eq.trans (World.cell?_of_block ?_) (new_int w _ rfl x t j u hj)
  rw [e]
  rfl
theorem grown_tmpF {w X w5 : World} {ob : Obj} {r : Option Nat} (hg : X.grownBy w5 r) (e : X.heap = w.heap.push ob) (e1 : X.os = w.os) (e2 : X.tape = w.tape) (e3 : X.output = w.output) : w.grownBy w5 r := by
  obtain ⟨a1, a2, a3, a4, a5⟩ := hg
  refine ⟨a1.trans e1, a2.trans e2, a3.trans e3, ?_, fun k hk hne => ?_⟩
  · rw [e, Array.size_push] at a4
    omega
  · rw [a5 k (by rw [e, Array.size_push]; omega) hne, e, Array.getElem?_push_lt hk, Array.getElem?_eq_getElem hk]
end Go.Proofs.YtgdmbnfdcbekaaiDoor.Flu
