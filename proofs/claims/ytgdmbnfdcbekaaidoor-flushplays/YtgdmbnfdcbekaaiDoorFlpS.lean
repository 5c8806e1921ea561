/-
  The program's group that flushes and the document's own, side by side in memory.
-/
import Derived.Test.YtgdmbnfdcbekaaiDoorFlqC
import Derived.Test.YtgdmbnfdcbekaaiDoorFlqG
import Derived.Test.YtgdmbnfdcbekaaiDoorFluO
namespace Go.Proofs.YtgdmbnfdcbekaaiDoor.Flu
open Go.RowKit
open Go.Proofs.YtgdmbnfdcbekaaiDoor.Fif (own_lt own_block own_form own_vw ret_bool info_int new_int int_one)
open Go.Proofs.YtgdmbnfdcbekaaiDoor.Vec (Vw)
open Go.Proofs.YtgdmbnfdcbekaaiDoor.Sep (KpL NewL)
open Go.Proofs.YtgdmbnfdcbekaaiDoor.Ldr (errF errF_ok errF_no Sl)
set_option linter.unusedVariables false

/-- both stand alike -/
structure PF (w wr : World) (P R B : Nat) (f : F) (fp : List Nat) (rv : Nat → Value) (g cap : Nat) : Prop where
  us : US wr w.heap.size P f fp
  rf : RF wr w.heap.size R f rv g cap
  inv : Inv f
  rng : Rng f
  few : f.v.n ≤ (B : Int)
  bel : Below w.heap.size w wr
  dj : ∀ b ∈ fp, ¬ Fb R g (cntF f) rv b
/-- the document's own has turned, the program's not yet -/
structure PM (w wr : World) (P R : Nat) (f f' : F) (fp : List Nat) (rv : Nat → Value) (g cap : Nat) : Prop where
  us : US wr w.heap.size P f fp
  rf : RF wr w.heap.size R f' rv g cap
  bel : Below w.heap.size w wr
  dj : ∀ b ∈ fp, ¬ Fb R g (cntF f') rv b
/-- three numbers aside -/
structure AR (wr : World) (R A : Nat) (k : Nat → Int) (fp : List Nat) (g N : Nat) (rv : Nat → Value) : Prop where
  row : wr.rowIs A 40 3 (fun t => .int .i64 (k t))
  n1 : A ∉ fp
  n2 : ¬ Fb R g N rv A
variable {w wr w' : World} {P R A B : Nat} {f f' : F} {fp fp' : List Nat} {rv rv' : Nat → Value} {g cap g' cap' N : Nat} {k : Nat → Int}
theorem PF.later (h : PF w wr P R B f fp rv g cap) (hb : Below wr.heap.size wr w') : PF w w' P R B f fp rv g cap := ⟨h.us.later hb, h.rf.later hb, h.inv, h.rng, h.few, h.bel.trans (hb.mono h.bel.size), h.dj⟩
theorem PF.mono (h : PF w wr P R B f fp rv g cap) {B' : Nat} (hb : B ≤ B') : PF w wr P R B' f fp rv g cap := ⟨h.us, h.rf, h.inv, h.rng, by have := h.few; omega, h.bel, h.dj⟩
theorem PM.later (h : PM w wr P R f f' fp rv g cap) (hb : Below wr.heap.size wr w') : PM w w' P R f f' fp rv g cap := ⟨h.us.later hb, h.rf.later hb, h.bel.trans (hb.mono h.bel.size), h.dj⟩
theorem PF.ref (h : PF w wr P R B f fp rv g cap) (hf : FR wr w' w.heap.size R f f' rv rv' g g' cap') : PM w w' P R f f' fp rv' g' cap' := by
  refine ⟨h.us.of_blocks hf.bel.size fun b hb => hf.kp b (h.us.fp b hb).2 (h.dj b hb), hf.rf, h.bel.trans hf.bel, fun b hb q => ?_⟩
  rcases hf.new b q with a | a
  · exact h.dj b hb a
  · have := (h.us.fp b hb).2; omega
theorem PM.prog (h : PM w wr P R f f' fp rv g cap) (hu : US w' w.heap.size P f' fp') (hb : Below w.heap.size wr w') (hk : KpL wr w' fp) (hn : NewL wr fp fp') (hi : Inv f') (hr : Rng f') (hB : f'.v.n ≤ (B : Int)) : PF w w' P R B f' fp' rv g cap := by
  refine ⟨hu, h.rf.of_blocks fun b q => hk.2 b (h.rf.fb q).2 fun z => h.dj b z q, hi, hr, hB, h.bel.trans hb, fun b hb' q => ?_⟩
  rcases hn b hb' with a | a
  · exact h.dj b a q
  · have := (h.rf.fb q).2; omega
theorem PF.pm (h : PF w wr P R B f fp rv g cap) : PM w wr P R f f fp rv g cap := ⟨h.us, h.rf, h.bel, h.dj⟩
theorem AR.lt (h : AR wr R A k fp g N rv) : A < wr.heap.size := World.rowIs.lt h.row
theorem AR.later (h : AR wr R A k fp g N rv) (hb : Below wr.heap.size wr w') : AR w' R A k fp g N rv := ⟨World.rowIs.of_block h.row (hb.block A h.lt), h.n1, h.n2⟩
theorem AR.ref {base : Nat} (h : AR wr R A k fp g (cntF f) rv) (hf : FR wr w' base R f f' rv rv' g g' cap') : AR w' R A k fp g' (cntF f') rv' := by
  refine ⟨World.rowIs.of_block h.row (hf.kp A h.lt h.n2), h.n1, fun q => ?_⟩
  rcases hf.new A q with a | a
  · exact h.n2 a
  · have := h.lt; omega
theorem AR.prog (h : AR wr R A k fp g N rv) (hk : KpL wr w' fp) (hn : NewL wr fp fp') : AR w' R A k fp' g N rv := by
  refine ⟨World.rowIs.of_block h.row (hk.2 A h.lt h.n1), fun q => ?_, h.n2⟩
  rcases hn A q with a | a
  · exact h.n1 a
  · have := h.lt; omega
theorem AR.c0 (h : AR wr R A k fp g N rv) : wr.cell? ⟨A, 0, none⟩ = some (.int .i64 (k 0)) := World.rowIs.cell h.row (i := 0) (by omega)
theorem AR.c1 (h : AR wr R A k fp g N rv) : wr.cell? ⟨A, 1, none⟩ = some (.int .i64 (k 1)) := World.rowIs.cell h.row (i := 1) (by omega)
theorem AR.c2 (h : AR wr R A k fp g N rv) : wr.cell? ⟨A, 2, none⟩ = some (.int .i64 (k 2)) := World.rowIs.cell h.row (i := 2) (by omega)
/-- a new block is aside of both -/
theorem PF.aside (h : PF w wr P R B f fp rv g cap) {b : Nat} (hb : wr.heap.size ≤ b) : b ∉ fp ∧ ¬ Fb R g (cntF f) rv b := ⟨fun q => by have := (h.us.fp b q).2; omega, fun q => by have := (h.rf.fb q).2; omega⟩
/-- what came in is aside of both -/
theorem PF.farP (h : PF w wr P R B f fp rv g cap) {a : Option Addr} {len : Nat} {v : List Int} (hv : Vw w a len v) : ∀ ad, a = some ad → 0 < len → ad.block ∉ fp ∧ ¬ Fb R g (cntF f) rv ad.block := fun ad e q => by
  obtain ⟨b, off, e', hlt, _⟩ := hv.2 q
  rw [e'] at e
  cases e
  have hlt' : b < w.heap.size := hlt
  exact ⟨fun z => by have : w.heap.size ≤ b := (h.us.fp _ z).1; omega, fun z => by have : w.heap.size ≤ b := (h.rf.fb z).1; omega⟩
theorem RF.lowerR {base base' : Nat} (h : RF wr base R f rv g cap) (hb : base' ≤ base) : RF wr base' R f rv g cap := ⟨h.main, ⟨fun i hi => Fif.own_mono (h.ints.own i hi) hb, h.ints.sep⟩, ⟨Nat.le_trans hb h.rows.low, h.rows.row, h.rows.room, h.rows.lim⟩, Nat.le_trans hb h.low⟩
/-- the document's own view, and what it wrote down of one -/
theorem RF.viewS {base : Nat} (h : RF wr base R f rv g cap) : ∃ q c, rv 0 = .slice q f.v.has.length c ∧ Sl wr (.slice q f.v.has.length c) f.v.has ∧ wr.cell? ⟨R, 0, none⟩ = some (.int .i64 f.v.n) ∧ wr.cell? ⟨R, 1, none⟩ = some (.slice q f.v.has.length c) := by
  have h0 : 0 < cntF f := by unfold cntF; omega
  obtain ⟨q, c, e, -⟩ := h.ints.see h0
  have el : lsF f 0 = f.v.has := rfl
  rw [el] at e
  have o : wr.ownsRow base 3 1 (rv 0) (lsF f 0).length ((lsF f 0).map (Value.int .i64)) := h.ints.own 0 h0
  rw [el, e] at o
  have c1 := h.main.c1
  rw [e] at c1
  exact ⟨q, c, e, Sl.of_own o, h.main.c0, c1⟩
theorem RF.heardS {base : Nat} (h : RF wr base R f rv g cap) {j m : Nat} (hj : j ≤ num f) (hm : m < 5) : ∃ q c, Sl wr (.slice q (f.hd j m).length c) (f.hd j m) ∧ wr.cell? ⟨R, 34, none⟩ = some (.slice (some ⟨g, 0, none⟩) (num f + 1) cap) ∧ wr.cell? ⟨g, j * 5 + m, none⟩ = some (.slice q (f.hd j m).length c) := by
  have hx : ix j m < cntF f := ix_lt hj hm
  obtain ⟨q, c, e, -⟩ := h.ints.see hx
  rw [lsF_ix f hm] at e
  have o : wr.ownsRow base 3 1 (rv (ix j m)) (lsF f (ix j m)).length ((lsF f (ix j m)).map (Value.int .i64)) := h.ints.own _ hx
  rw [lsF_ix f hm, e] at o
  have c1 := h.rows.cell (k := j) (m := m) (by omega) hm
  rw [e] at c1
  exact ⟨q, c, Sl.of_own o, h.main.cr, c1⟩
end Go.Proofs.YtgdmbnfdcbekaaiDoor.Flu
