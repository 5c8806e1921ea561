/-
  Errors as the program tells them; what a call leaves alone.
-/
import Derived.Test.YtolnfipdhkbkjajDoorPieA
import Derived.Test.YtolnfipdhkbkjajDoorTold
namespace Go.Proofs.YtolnfipdhkbkjajDoor.Pie
open Go.RowKit
open Go.Proofs.YtolnfipdhkbkjajDoor.Fif (own_lt own_block own_form own_mono Kp ret_bool)
set_option linter.unusedVariables false

def errF (c : Int) : Value := if c = 0 then .nilIface else .iface 78 (.int .i64 c)
theorem errF_ok : errF 0 = .nilIface := rfl
theorem errF_no {c : Int} (h : c ≠ 0) : errF c = .iface 78 (.int .i64 c) := if_neg h
theorem errF_same (c : Int) (w : World) (hL : As.Laid w) : Calls Tryd.prog 8 #[errF c, .int .i64 c] w fun e w' => e = .returned (.bool true) ∧ Below w.heap.size w w' := by
  by_cases h : c = 0
  · subst h
    rw [errF_ok]
    refine (As.error_nil 0 w).mono ?_
    rintro e w' ⟨rfl, hb⟩
    exact ⟨ret_bool (by simp), hb⟩
  · rw [errF_no h]
    refine (As.error_errno c c w hL).mono ?_
    rintro e w' ⟨rfl, hb⟩
    exact ⟨ret_bool (by simp), hb⟩
/-- all is left alone but some blocks -/
def KpL (w w' : World) (fp : List Nat) : Prop := w.heap.size ≤ w'.heap.size ∧ ∀ b, b < w.heap.size → b ∉ fp → w'.heap[b]? = w.heap[b]?
/-- blocks that were there, or are new -/
def NewL (w : World) (fp fp' : List Nat) : Prop := ∀ b ∈ fp', b ∈ fp ∨ w.heap.size ≤ b
theorem split_zero {t : ByteArray} {size : Int} (h : splitC t size = 0) : splitL t size = pcs t size.toNat (many t.size size.toNat) := if_pos h
end Go.Proofs.YtolnfipdhkbkjajDoor.Pie
