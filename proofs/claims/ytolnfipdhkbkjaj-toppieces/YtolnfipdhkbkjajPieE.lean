/-
  Errors as the program tells them; what a call leaves alone.
-/
import Derived.Test.YtolnfipdhkbkjajPieA
namespace Go.Proofs.Ytolnfipdhkbkjaj.Pie
open Go.RowKit
open Go.Proofs.Ytolnfipdhkbkjaj.Fif (own_lt own_block own_form own_mono Kp ret_bool)
set_option linter.unusedVariables false

def errF (c : Int) : Value := if c = 0 then .nilIface else .iface 42 (.int .i64 c)
theorem errF_ok : errF 0 = .nilIface := rfl
theorem errF_no {c : Int} (h : c ≠ 0) : errF c = .iface 42 (.int .i64 c) := if_neg h
/-- all is left alone but some blocks -/
def KpL (w w' : World) (fp : List Nat) : Prop := w.heap.size ≤ w'.heap.size ∧ ∀ b, b < w.heap.size → b ∉ fp → w'.heap[b]? = w.heap[b]?
/-- blocks that were there, or are new -/
def NewL (w : World) (fp fp' : List Nat) : Prop := ∀ b ∈ fp', b ∈ fp ∨ w.heap.size ≤ b
theorem split_zero {t : ByteArray} {size : Int} (h : splitC t size = 0) : splitL t size = pcs t size.toNat (many t.size size.toNat) := if_pos h
end Go.Proofs.Ytolnfipdhkbkjaj.Pie
