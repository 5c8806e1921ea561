/-
  Small facts for the end of a round of PicturePlays.
-/
import Derived.Test.YtgcdbcljneoifajDoorPipA
namespace Go.Proofs.YtgcdbcljneoifajDoor.Pic
open Go.RowKit
set_option linter.unusedVariables false

theorem PF.asideSet {w wr : World} {P R : Nat} {all : Int} {g : G} {fp : List Nat} {gb gc : Nat} {ov : Nat → Value} (h : PF w wr P R all g fp gb gc ov) {b : Nat} (n1 : b ∉ fp) (n2 : ¬ Pb R gb ov b) (hb : w.heap.size ≤ b) (j : Nat) (v : Value) : PF w (wr.setCell ⟨b, j, none⟩ v) P R all g fp gb gc ov :=
  ⟨h.us.of_blocks (by simp [World.setCell]) fun c hc => Deep.blk_setCell_other _ _ _ _ (fun e => n1 (by have e' : c = b := e; rw [← e']; exact hc)), h.rf.of_blocks fun c hc => Deep.blk_setCell_other _ _ _ _ (fun e => n2 (by have e' : c = b := e; rw [← e']; exact hc)), h.inv, h.bel.setCell (p := ⟨b, j, none⟩) hb _, h.dj⟩
theorem eqGs : Tryd.prog.eqGuardType Tryd.prog.depth 54 = false := by kernel_rfl
theorem eqSum (a b : Int) (w : World) : (Op.equalIn 10000 54 (.agg #[.int .i64 a, .int .i64 b]) (.agg #[.int .i64 a, .int .i64 b])).run Tryd.prog w = .ok true w := by
  have u3 := Tryd.underlying3
  have a3 := Tryd.isAgg3
  have z3 := Tryd.sizeOf3
  have hS : Tryd.prog.underlying 54 = some (.struct (Tryd.prog.fieldsOf 54)) := by kernel_rfl
  have hp : Tryd.prog.stoodInHeld 54 = false := by kernel_rfl
  rw [show (10000 : Nat) = 9999 + 1 from rfl, run_equalIn_agg w 9999 54 _ _ hS hp]
  simp only [Program.fieldsOf, Tryd.underlying54]
  go_simp
end Go.Proofs.YtgcdbcljneoifajDoor.Pic
