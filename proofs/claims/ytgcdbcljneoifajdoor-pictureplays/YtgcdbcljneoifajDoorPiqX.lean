/-
  The document's own picture: what a step leaves alone.
-/
import Derived.Test.YtgcdbcljneoifajDoorPiqW
import Derived.Test.YtgcdbcljneoifajDoorPicL
import Derived.Deep.QuietTactic
import Derived.BigQuiet
import Derived.Deep.RegionHeld3
import Derived.Deep.RegionLaw
import Derived.Deep.CutBlock
import Derived.Deep.CutRange
import Derived.Maps.RangeWalk
import Derived.WalkLawsBesides
import Derived.Handy
namespace Go.Proofs.YtgcdbcljneoifajDoor.Pic
open Go.RowKit
open Go.Proofs.YtgcdbcljneoifajDoor.Fif (own_lt own_block own_form own_vw ret_bool info_int new_int int_one)
open Go.Proofs.YtgcdbcljneoifajDoor.Vec (Vw)
open Go.Proofs.YtgcdbcljneoifajDoor.Off (OR)
set_option linter.unusedVariables false

structure RX (w w' : World) (base R : Nat) (g' : G) (gb gc : Nat) (ov ov' : Nat → Value) : Prop where
  rp : RP w' base R g' gb gc ov'
  bel : Below base w w'
  kp : ∀ b, b < w.heap.size → ¬ Pb R gb ov b → w'.heap[b]? = w.heap[b]?
  new : ∀ b, Pb R gb ov' b → Pb R gb ov b ∨ w.heap.size ≤ b
variable {w w' wr w5 : World} {base R gb gc : Nat} {g g' g2 : G} {ov ov' ov2 : Nat → Value}
theorem RP.bw (h : RP w base R g gb gc ov) : base ≤ w.heap.size := Nat.le_trans h.low.1 (Nat.le_of_lt h.lt)
theorem RX.refl (h : RP w base R g gb gc ov) : RX w w base R g gb gc ov ov := ⟨h, Below.refl _ _, fun _ _ _ => rfl, fun _ q => .inl q⟩
theorem RX.trans (h : RX w wr base R g' gb gc ov ov') (h2 : RX wr w' base R g2 gb gc ov' ov2) : RX w w' base R g2 gb gc ov ov2 := by
  refine ⟨h2.rp, h.bel.trans h2.bel, fun b hb hn => ?_, fun b hb => ?_⟩
  · rw [h2.kp b (Nat.lt_of_lt_of_le hb h.bel.size) (fun q => ?_), h.kp b hb hn]
    rcases h.new b q with a | a
    · exact hn a
    · omega
  · rcases h2.new b hb with a | a
    · exact h.new b a
    · exact .inr (Nat.le_trans h.bel.size a)
theorem RX.later (h : RX w wr base R g' gb gc ov ov') (hb : Below wr.heap.size wr w') : RX w w' base R g' gb gc ov ov' := h.trans ⟨h.rp.later hb, hb.mono h.rp.bw, fun b q _ => hb.block b q, fun _ q => .inl q⟩
theorem RX.drew (h : RX w wr base R g' gb gc ov ov') : RX w wr.drew base R g' gb gc ov ov' := h.later ⟨rfl, rfl, rfl, Nat.le_refl _, fun _ _ => rfl⟩
theorem RX.drewN (h : RX w wr base R g' gb gc ov ov') (n : Nat) : RX w (wr.drewN n) base R g' gb gc ov ov' := h.later ⟨rfl, rfl, rfl, Nat.le_refl _, fun _ _ => rfl⟩
theorem RX.heap (h : RX w wr base R g' gb gc ov ov') {X : World} (e : X.heap = wr.heap) (e1 : X.os = wr.os) (e2 : X.tape = wr.tape) (e3 : X.output = wr.output) : RX w X base R g' gb gc ov ov' := h.later ⟨e1, e2, e3, by rw [e]; exact Nat.le_refl _, fun _ _ => by rw [e]⟩
theorem RX.eq (h : RX w wr base R g' gb gc ov ov') (e : g2 = g') : RX w wr base R g2 gb gc ov ov' := by subst e; exact h
/-- a cell is another one -/
theorem RX.cell (h : RX w wr base R g' gb gc ov ov') {b j : Nat} {x : Value} (hb : b = R ∨ b = gb) (hr : RP (wr.setCell ⟨b, j, none⟩ x) base R g2 gb gc ov') : RX w (wr.setCell ⟨b, j, none⟩ x) base R g2 gb gc ov ov' := by
  refine h.trans ⟨hr, (Below.refl base wr).setCell (p := ⟨b, j, none⟩) ?_ _, fun c hc hn => Deep.blk_setCell_other _ _ _ _ fun e => ?_, fun _ q => .inl q⟩
  · rcases hb with rfl | rfl
    · exact h.rp.low.1
    · exact h.rp.low.2
  · have e' : c = b := e
    rcases hb with rfl | rfl
    · exact hn (.inl e')
    · exact hn (.inr (.inl e'))
theorem RX.setBg (h : RX w wr base R g' gb gc ov ov') (b : Bool) : RX w (wr.setCell ⟨R, 26, none⟩ (.bool b)) base R { g' with begun := b } gb gc ov ov' := h.cell (.inl rfl) (h.rp.setBg b)
theorem RX.setHas (h : RX w wr base R g' gb gc ov ov') {m : Nat} (hm : m < 5) (b : Bool) : RX w (wr.setCell ⟨R, 27 + m, none⟩ (.bool b)) base R { g' with has := up g'.has m b } gb gc ov ov' := h.cell (.inl rfl) (h.rp.setHas hm b)
theorem RX.setWr (h : RX w wr base R g' gb gc ov ov') {m : Nat} (hm : m < 5) (x : Int) : RX w (wr.setCell ⟨R, 32 + m, none⟩ (.int .i64 x)) base R { g' with wrote := up g'.wrote m x } gb gc ov ov' := h.cell (.inl rfl) (h.rp.setWr hm x)
theorem RX.setOp (h : RX w wr base R g' gb gc ov ov') {a c : Nat} (ha : a < 5) (hc : c < 5) (b : Bool) : RX w (wr.setCell ⟨R, 37 + a * 5 + c, none⟩ (.bool b)) base R { g' with opn := up2 g'.opn a c b } gb gc ov ov' := h.cell (.inl rfl) (h.rp.setOp ha hc b)
theorem RX.setOw (h : RX w wr base R g' gb gc ov ov') (x : Int) : RX w (wr.setCell ⟨R, 62, none⟩ (.int .i64 x)) base R { g' with ow := x } gb gc ov ov' := h.cell (.inl rfl) (h.rp.setOw x)
theorem RX.setPt (h : RX w wr base R g' gb gc ov ov') {a c : Nat} (ha : a < 5) (hc : c < 5) (x : Int) : RX w (wr.setCell ⟨R, 63 + a * 5 + c, none⟩ (.int .i64 x)) base R { g' with part := up2 g'.part a c x } gb gc ov ov' := h.cell (.inl rfl) (h.rp.setPt ha hc x)
theorem RX.setGold (h : RX w wr base R g' gb gc ov ov') {m : Nat} (hm : m < g'.n) (x : Int) : RX w (wr.setCell ⟨gb, m, none⟩ (.int .i64 x)) base R { g' with gold := up g'.gold m x } gb gc ov ov' := h.cell (.inr rfl) (h.rp.setGold hm x)
/-- a way is another one -/
theorem RX.way (h : RX w wr base R g' gb gc ov ov') {a c : Nat} (ha : a < 5) (hc : c < 5) {u : Value} {l : List Int} (hb : Below base wr w5) (hk : ∀ b, b < wr.heap.size → (ov' (a * 5 + c)).ownBlock ≠ some b → w5.heap[b]? = wr.heap[b]?) (ho : OR w5 base u l) (hn : ∀ b, u.ownBlock = some b → (ov' (a * 5 + c)).ownBlock = some b ∨ wr.heap.size ≤ b) :
    RX w (w5.setCell ⟨R, 1 + (a * 5 + c), none⟩ u) base R { g' with way := up2 g'.way a c l } gb gc ov (upI ov' (a * 5 + c) u) := by
  have hq : a * 5 + c < 25 := by omega
  refine h.trans ⟨h.rp.setWay ha hc hk ho hn, hb.setCell (p := ⟨R, 1 + (a * 5 + c), none⟩) h.rp.low.1 _, fun b hb' hn' => ?_, fun b hb' => ?_⟩
  · rw [Deep.blk_setCell_other _ _ _ _ (fun e => hn' (.inl e))]
    exact hk b hb' fun e => hn' (.inr (.inr ⟨_, hq, e⟩))
  · rcases hb' with e | e | ⟨k, q, e⟩
    · exact .inl (.inl e)
    · exact .inl (.inr (.inl e))
    · by_cases e1 : k = a * 5 + c
      · rw [e1, upI_same] at e
        rcases hn b e with z | z
        · exact .inl (.inr (.inr ⟨_, hq, z⟩))
        · exact .inr z
      · rw [upI_other _ _ e1] at e
        exact .inl (.inr (.inr ⟨k, q, e⟩))
/-- one more on a way -/
theorem RX.app (h : RX w wr base R g' gb gc ov ov') {a c : Nat} (ha : a < 5) (hc : c < 5) {u : Value} {l : List Int} (hg : wr.grownBy w5 (ov' (a * 5 + c)).ownBlock) (ho : OR w5 base u l) (hn : ∀ b, u.ownBlock = some b → (ov' (a * 5 + c)).ownBlock = some b ∨ wr.heap.size ≤ b) :
    RX w (w5.setCell ⟨R, 1 + (a * 5 + c), none⟩ u) base R { g' with way := up2 g'.way a c l } gb gc ov (upI ov' (a * 5 + c) u) :=
  h.way ha hc ((Below.refl base wr).grown hg h.rp.bw fun b e => ((h.rp.ways _ (by omega)).lt b e).1) (fun b hb hne => hg.block b hb fun e => hne e.symm) ho hn
/-- the first one on a way goes -/
theorem RX.cut (h : RX w wr base R g' gb gc ov ov') {a c : Nat} (ha : a < 5) (hc : c < 5) {u : Value} {l : List Int} (ho : OR wr base u l) (hn : ∀ b, u.ownBlock = some b → (ov' (a * 5 + c)).ownBlock = some b) :
    RX w (wr.setCell ⟨R, 1 + (a * 5 + c), none⟩ u) base R { g' with way := up2 g'.way a c l } gb gc ov (upI ov' (a * 5 + c) u) :=
  h.way ha hc (Below.refl base wr) (fun _ _ _ => rfl) ho fun b e => .inl (hn b e)
end Go.Proofs.YtgcdbcljneoifajDoor.Pic
