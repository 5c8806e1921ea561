/-
  The program's picture and the document's own, side by side in memory.
-/
import Derived.Test.YtgcdbcljneoifajDoorPiqC
import Derived.Test.YtgcdbcljneoifajDoorPicS
import Derived.Test.YtgcdbcljneoifajDoorRowsF
namespace Go.Proofs.YtgcdbcljneoifajDoor.Pic
open Go.RowKit
open Go.Proofs.YtgcdbcljneoifajDoor.Fif (own_lt own_block own_form own_vw ret_bool info_int new_int int_one)
open Go.Proofs.YtgcdbcljneoifajDoor.Vec (Vw)
open Go.Proofs.YtgcdbcljneoifajDoor.Sep (KpL NewL)
open Go.Proofs.YtgcdbcljneoifajDoor.Ldr (errF errF_ok errF_no Sl)
open Go.Proofs.YtgcdbcljneoifajDoor.Off (OR)
set_option linter.unusedVariables false

/-- both stand alike -/
structure PF (w wr : World) (P R : Nat) (all : Int) (g : G) (fp : List Nat) (gb gc : Nat) (ov : Nat → Value) : Prop where
  us : TS wr w.heap.size P g fp
  rf : RP wr w.heap.size R g gb gc ov
  inv : Inv all g
  bel : Below w.heap.size w wr
  dj : ∀ b ∈ fp, ¬ Pb R gb ov b
/-- the document's own has turned, the program's not yet -/
structure PM (w wr : World) (P R : Nat) (g g' : G) (fp : List Nat) (gb gc : Nat) (ov : Nat → Value) : Prop where
  us : TS wr w.heap.size P g fp
  rf : RP wr w.heap.size R g' gb gc ov
  bel : Below w.heap.size w wr
  dj : ∀ b ∈ fp, ¬ Pb R gb ov b
/-- four numbers aside -/
structure AR (wr : World) (A : Nat) (k : Nat → Int) (fp : List Nat) (R gb : Nat) (ov : Nat → Value) : Prop where
  row : wr.rowIs A 39 4 (fun t => .int .i64 (k t))
  n1 : A ∉ fp
  n2 : ¬ Pb R gb ov A
variable {w wr w' : World} {P R A : Nat} {all : Int} {g g' : G} {fp fp' : List Nat} {gb gc : Nat} {ov ov' : Nat → Value} {k : Nat → Int}
theorem PF.later (h : PF w wr P R all g fp gb gc ov) (hb : Below wr.heap.size wr w') : PF w w' P R all g fp gb gc ov := ⟨h.us.later hb, h.rf.later hb, h.inv, h.bel.trans (hb.mono h.bel.size), h.dj⟩
theorem PM.later (h : PM w wr P R g g' fp gb gc ov) (hb : Below wr.heap.size wr w') : PM w w' P R g g' fp gb gc ov := ⟨h.us.later hb, h.rf.later hb, h.bel.trans (hb.mono h.bel.size), h.dj⟩
theorem PF.pm (h : PF w wr P R all g fp gb gc ov) : PM w wr P R g g fp gb gc ov := ⟨h.us, h.rf, h.bel, h.dj⟩
theorem PF.ref (h : PF w wr P R all g fp gb gc ov) (hf : RX wr w' w.heap.size R g' gb gc ov ov') : PM w w' P R g g' fp gb gc ov' := by
  refine ⟨h.us.of_blocks hf.bel.size fun b hb => hf.kp b (h.us.fp b hb).2 (h.dj b hb), hf.rp, h.bel.trans hf.bel, fun b hb q => ?_⟩
  rcases hf.new b q with a | a
  · exact h.dj b hb a
  · have := (h.us.fp b hb).2; omega
theorem PM.prog (h : PM w wr P R g g' fp gb gc ov) (hu : TS w' w.heap.size P g' fp') (hb : Below w.heap.size wr w') (hk : KpL wr w' fp) (hn : NewL wr fp fp') (hi : Inv all g') : PF w w' P R all g' fp' gb gc ov := by
  refine ⟨hu, h.rf.of_blocks fun b q => hk.2 b (h.rf.pb q).2 fun z => h.dj b z q, hi, h.bel.trans hb, fun b hb' q => ?_⟩
  rcases hn b hb' with a | a
  · exact h.dj b a q
  · have := (h.rf.pb q).2; omega
theorem AR.lt (h : AR wr A k fp R gb ov) : A < wr.heap.size := World.rowIs.lt h.row
theorem AR.later (h : AR wr A k fp R gb ov) (hb : Below wr.heap.size wr w') : AR w' A k fp R gb ov := ⟨World.rowIs.of_block h.row (hb.block A h.lt), h.n1, h.n2⟩
theorem AR.ref {base : Nat} (h : AR wr A k fp R gb ov) (hf : RX wr w' base R g' gb gc ov ov') : AR w' A k fp R gb ov' := by
  refine ⟨World.rowIs.of_block h.row (hf.kp A h.lt h.n2), h.n1, fun q => ?_⟩
  rcases hf.new A q with a | a
  · exact h.n2 a
  · have := h.lt; omega
theorem AR.prog (h : AR wr A k fp R gb ov) (hk : KpL wr w' fp) (hn : NewL wr fp fp') : AR w' A k fp' R gb ov := by
  refine ⟨World.rowIs.of_block h.row (hk.2 A h.lt h.n1), fun q => ?_, h.n2⟩
  rcases hn A q with a | a
  · exact h.n1 a
  · have := h.lt; omega
theorem AR.c0 (h : AR wr A k fp R gb ov) : wr.cell? ⟨A, 0, none⟩ = some (.int .i64 (k 0)) := World.rowIs.cell h.row (i := 0) (by omega)
theorem AR.c1 (h : AR wr A k fp R gb ov) : wr.cell? ⟨A, 1, none⟩ = some (.int .i64 (k 1)) := World.rowIs.cell h.row (i := 1) (by omega)
theorem AR.c2 (h : AR wr A k fp R gb ov) : wr.cell? ⟨A, 2, none⟩ = some (.int .i64 (k 2)) := World.rowIs.cell h.row (i := 2) (by omega)
theorem AR.c3 (h : AR wr A k fp R gb ov) : wr.cell? ⟨A, 3, none⟩ = some (.int .i64 (k 3)) := World.rowIs.cell h.row (i := 3) (by omega)
/-- a new block is aside of both -/
theorem PF.aside (h : PF w wr P R all g fp gb gc ov) {b : Nat} (hb : wr.heap.size ≤ b) : b ∉ fp ∧ ¬ Pb R gb ov b := ⟨fun q => by have := (h.us.fp b q).2; omega, fun q => by have := (h.rf.pb q).2; omega⟩
theorem RP.lowerR {base base' : Nat} (h : RP wr base R g gb gc ov) (hb : base' ≤ base) : RP wr base' R g gb gc ov := ⟨h.row, h.gold, h.room, fun k hk => (h.ways k hk).lower hb, h.sep, h.gsep, ⟨Nat.le_trans hb h.low.1, Nat.le_trans hb h.low.2⟩⟩
/-- the document's own row of a way -/
theorem RP.wayS {base : Nat} (h : RP wr base R g gb gc ov) {a c : Nat} (ha : a < 5) (hc : c < 5) : ∃ q cp, ov (a * 5 + c) = .slice q (g.way a c).length cp ∧ Sl wr (.slice q (g.way a c).length cp) (g.way a c) ∧ wr.cell? ⟨R, 1 + (a * 5 + c), none⟩ = some (.slice q (g.way a c).length cp) := by
  have hw := h.ways (a * 5 + c) (by omega)
  rw [show (a * 5 + c) / 5 = a by omega, show (a * 5 + c) % 5 = c by omega] at hw
  obtain ⟨q, cp, e, h1, h2, hv⟩ := hw.vw
  have c1 := h.cw (k := a * 5 + c) (by omega)
  rw [e] at c1
  exact ⟨q, cp, e, ⟨q, cp, rfl, h1, h2, hv⟩, c1⟩
end Go.Proofs.YtgcdbcljneoifajDoor.Pic
