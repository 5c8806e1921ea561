/-
  The program's group and the document's own, side by side.
-/
import Derived.Test.YtcolcjnmdejfeafDoorAgtM
import Derived.Test.YtcolcjnmdejfeafDoorAgrP
import Derived.Test.YtcolcjnmdejfeafDoorAgrV
import Derived.Test.YtcolcjnmdejfeafDoorRowsF
namespace Go.Proofs.YtcolcjnmdejfeafDoor.Agr
open Go.RowKit
open Go.Proofs.YtcolcjnmdejfeafDoor.Fif (own_lt own_block own_form own_mono own_vw ret_bool)
open Go.Proofs.YtcolcjnmdejfeafDoor.Vec (Vw)
open Go.Proofs.YtcolcjnmdejfeafDoor.Sep (KpL NewL)
set_option linter.unusedVariables false

/-- three numbers in a block -/
def V3 (w : World) (V : Nat) (k0 k1 k2 : Int) : Prop := w.cell? ⟨V, 0, none⟩ = some (.int .i64 k0) ∧ w.cell? ⟨V, 1, none⟩ = some (.int .i64 k1) ∧ w.cell? ⟨V, 2, none⟩ = some (.int .i64 k2)
theorem V3.of_block {w w' : World} {V : Nat} {k0 k1 k2 : Int} (h : V3 w V k0 k1 k2) (e : w'.heap[V]? = w.heap[V]?) : V3 w' V k0 k1 k2 := ⟨(World.cell?_of_block (a := ⟨V, 0, none⟩) e).trans h.1, (World.cell?_of_block (a := ⟨V, 1, none⟩) e).trans h.2.1, (World.cell?_of_block (a := ⟨V, 2, none⟩) e).trans h.2.2⟩
structure PS (w : World) (P Q V : Nat) (wr : World) (gp : G) (fp : List Nat) (gr : G) (hs : Nat → Value) (k0 k1 k2 : Int) : Prop where
  ag : AS wr w.heap.size P gp fp
  ra : RA wr w.heap.size Q gr hs
  dj : ∀ b, b ∈ fp → b ∉ rfp Q hs
  v : V3 wr V k0 k1 k2
  vl : V < wr.heap.size
  vf : V ∉ fp
  vr : V ∉ rfp Q hs
  bel : Below w.heap.size w wr
variable {w wr w' : World} {P Q V : Nat} {gp gr : G} {fp : List Nat} {hs : Nat → Value} {k0 k1 k2 : Int}
theorem PS.later (h : PS w P Q V wr gp fp gr hs k0 k1 k2) (hb : Below wr.heap.size wr w') : PS w P Q V w' gp fp gr hs k0 k1 k2 :=
  ⟨h.ag.of_blocks hb.size fun b hb' => hb.block b (h.ag.fp b hb').2, h.ra.later hb, h.dj, h.v.of_block (hb.block V h.vl), Nat.lt_of_lt_of_le h.vl hb.size, h.vf, h.vr, h.bel.trans (hb.mono h.bel.size)⟩
/-- the document's own turns -/
theorem PS.ref {gr' : G} {hs' : Nat → Value} (h : PS w P Q V wr gp fp gr hs k0 k1 k2) (hr : RA w' w.heap.size Q gr' hs') (hb : Below w.heap.size wr w') (hk : KpL wr w' (rfp Q hs)) (hn : NewL wr (rfp Q hs) (rfp Q hs')) : PS w P Q V w' gp fp gr' hs' k0 k1 k2 := by
  refine ⟨h.ag.of_blocks hk.1 fun b hb' => hk.2 b (h.ag.fp b hb').2 (h.dj b hb'), hr, fun b hb' q => ?_, h.v.of_block (hk.2 V h.vl h.vr), Nat.lt_of_lt_of_le h.vl hk.1, h.vf, fun q => ?_, h.bel.trans hb⟩
  · rcases hn b q with z | z
    · exact h.dj b hb' z
    · have := (h.ag.fp b hb').2; omega
  · rcases hn V q with z | z
    · exact h.vr z
    · have := h.vl; omega
/-- the program's turns -/
theorem PS.prog {gp' : G} {fp' : List Nat} (h : PS w P Q V wr gp fp gr hs k0 k1 k2) (ha : AS w' w.heap.size P gp' fp') (hb : Below w.heap.size wr w') (hk : KpL wr w' fp) (hn : NewL wr fp fp') : PS w P Q V w' gp' fp' gr hs k0 k1 k2 := by
  refine ⟨ha, h.ra.of_blocks fun b hb' => hk.2 b (h.ra.fp b hb').2 (fun q => h.dj b q hb'), fun b hb' q => ?_, h.v.of_block (hk.2 V h.vl h.vf), Nat.lt_of_lt_of_le h.vl hk.1, fun q => ?_, h.vr, h.bel.trans hb⟩
  · rcases hn b hb' with z | z
    · exact h.dj b z q
    · have := (h.ra.fp b q).2; omega
  · rcases hn V q with z | z
    · exact h.vf z
    · have := h.vl; omega
/-- a word is said in the document's own -/
theorem RA.also {base k : Nat} {g : G} (h : RA wr base Q g hs) (hk : k < 31) : RA (wr.setCell ⟨Q, 1 + k, none⟩ (.bool true)) base Q (also g k) hs ∧ KpL wr (wr.setCell ⟨Q, 1 + k, none⟩ (.bool true)) (rfp Q hs) ∧ Below base wr (wr.setCell ⟨Q, 1 + k, none⟩ (.bool true)) := by
  refine ⟨⟨(h.row.setW hk true).congr (fv_ext rfl (fun i _ => ?_) (fun _ _ _ _ => rfl) (fun _ _ _ _ => rfl) (fun _ _ _ _ => rfl) (fun _ _ _ _ => rfl) (fun _ _ => rfl) (fun _ _ => rfl)), h.low, fun i hi => own_block (h.own i hi) fun b e => Deep.blk_setCell_other _ _ _ _ (fun q => h.ne i hi (by have q' : b = Q := q; rw [← q']; exact e)), h.ne, h.one⟩, ⟨by simp [World.setCell], fun b hb hn => Deep.blk_setCell_other _ _ _ _ (fun q => hn (mem_rfp.2 (.inl q)))⟩, (Below.refl _ _).setCell (p := ⟨Q, _, none⟩) h.low _⟩
  show up1 g.was k true i = if i = k then true else g.was i
  rfl
theorem RA.heap {base : Nat} {g : G} (h : RA wr base Q g hs) (e : w'.heap = wr.heap) : RA w' base Q g hs := h.of_blocks fun b _ => by rw [e]
theorem kp_heap {w1 w2 w3 : World} {l : List Nat} (h : KpL w1 w2 l) (e : w3.heap = w2.heap) : KpL w1 w3 l := ⟨by rw [e]; exact h.1, fun b hb hn => by rw [e]; exact h.2 b hb hn⟩
theorem RA.sl {base m : Nat} {g : G} (h : RA wr base Q g hs) (hm : m < 5) : Sl wr (hs m) (g.hd m) := by
  have o := h.own m hm
  rw [vals_int] at o
  exact Sl.of_own o
theorem own_sl {base : Nat} {v : Value} {l : List Nat} (o : wr.ownsRow base 3 1 v l.length (vals l)) : Sl wr v l := by
  rw [vals_int] at o
  exact Sl.of_own o
/-- how both stand -/
def PA (w : World) (P Q n B : Nat) (wr : World) : Prop := ∃ g fp hs, AS wr w.heap.size P g fp ∧ RA wr w.heap.size Q g hs ∧ (∀ b, b ∈ fp → b ∉ rfp Q hs) ∧ Inv g ∧ g.n = n ∧ Le g B ∧ Below w.heap.size w wr
theorem PS.pa {n B : Nat} (h : PS w P Q V wr gp fp gp hs k0 k1 k2) (hi : Inv gp) (hn : gp.n = n) (hl : Le gp B) : PA w P Q n B wr := ⟨gp, fp, hs, h.ag, h.ra, h.dj, hi, hn, hl, h.bel⟩
def R3q (wo wz : World) : Prop := ∃ f : Nat → Int, wz.rowIs wo.heap.size 36 3 (fun t => .int .i64 (f t)) ∧ Below wo.heap.size wo wz
theorem eqGs : Tryd.prog.eqGuardType Tryd.prog.depth 56 = false := by kernel_rfl
theorem eqSt (a b : Int) (w : World) : (Op.equalIn 10000 56 (.agg #[.int .i64 a, .int .i64 b]) (.agg #[.int .i64 a, .int .i64 b])).run Tryd.prog w = .ok true w := by
  have u3 := Tryd.underlying3
  have a3 := Tryd.isAgg3
  have z3 := Tryd.sizeOf3
  have hS : Tryd.prog.underlying 56 = some (.struct (Tryd.prog.fieldsOf 56)) := by kernel_rfl
  have hp : Tryd.prog.stoodInHeld 56 = false := by kernel_rfl
  rw [show (10000 : Nat) = 9999 + 1 from rfl, run_equalIn_agg w 9999 56 _ _ hS hp]
  simp only [Program.fieldsOf, Tryd.underlying56]
  go_simp
end Go.Proofs.YtcolcjnmdejfeafDoor.Agr
