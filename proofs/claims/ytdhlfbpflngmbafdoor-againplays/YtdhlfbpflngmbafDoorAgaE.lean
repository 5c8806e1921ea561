/-
  Errors as the program tells them.
-/
import Derived.Test.YtdhlfbpflngmbafDoorAgaM
import Derived.Test.YtdhlfbpflngmbafDoorSepA
import Derived.Test.YtdhlfbpflngmbafDoorTold
namespace Go.Proofs.YtdhlfbpflngmbafDoor.Aga
open Go.RowKit
open Go.Proofs.YtdhlfbpflngmbafDoor.Fif (Cm own_lt own_block own_form own_mono Kp ret_bool)
set_option linter.unusedVariables false

def errF (c : Int) : Value := if c = 0 then .nilIface else .iface 58 (.int .i64 c)
theorem errF_ok : errF 0 = .nilIface := rfl
theorem errF_no {c : Int} (h : c ≠ 0) : errF c = .iface 58 (.int .i64 c) := if_neg h
theorem errF_same (c : Int) (w : World) (hL : As.Laid w) : Calls Tryd.prog 7 #[errF c, .int .i64 c] w fun e w' => e = .returned (.bool true) ∧ Below w.heap.size w w' := by
  by_cases h : c = 0
  · subst h
    rw [errF_ok]
    refine (As.error_nil 0 w).mono ?_
    rintro e w' ⟨rfl, hb⟩
    exact ⟨ret_bool (by simp), hb⟩
  · rw [errF_no h]
    refine (As.error_errno c c w hL).mono ?_
    rintro e w' ⟨rfl, hb⟩
    exact ⟨ret_bool (by simp), hb⟩
/-- a row of numbers that the call owns -/
abbrev Ow (w : World) (base : Nat) (v : Value) (l : List Int) : Prop := w.ownsRow base 3 1 v l.length (l.map (Value.int .i64))
theorem Ow.later {w w' : World} {base : Nat} {v : Value} {l : List Int} (h : Ow w base v l) (hb : Below w.heap.size w w') : Ow w' base v l := own_block h fun k hk => hb.block k (own_lt h k hk).2
theorem Ow.nil (w : World) (base : Nat) : Ow w base (.slice none 0 0) [] := World.ownsRow_nil _ _ _ _
end Go.Proofs.YtdhlfbpflngmbafDoor.Aga
