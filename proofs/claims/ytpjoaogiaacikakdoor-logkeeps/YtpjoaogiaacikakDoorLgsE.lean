/-
  Errors as a log tells them; a log and what else stands.
-/
import Derived.Test.YtpjoaogiaacikakDoorLgsM
import Derived.Test.YtpjoaogiaacikakDoorHisP
import Derived.Test.YtpjoaogiaacikakDoorSepA
import Derived.Test.YtpjoaogiaacikakDoorTold
namespace Go.Proofs.YtpjoaogiaacikakDoor.Lgs
open Go.RowKit
open Go.Proofs.YtpjoaogiaacikakDoor.His (Ev ev errV errV_ok errV_no Eo flat flat_len)
open Go.Proofs.YtpjoaogiaacikakDoor.Sep (KpL NewL)
set_option linter.unusedVariables false

theorem errV_same (c d : Int) (w : World) (hL : As.Laid w) : Calls Tryd.prog 7 #[errV c, .int .i64 d] w fun e w' => e = .returned (.bool (decide (c = d))) ∧ Below w.heap.size w w' := by
  by_cases h : c = 0
  · subst h
    rw [errV_ok]
    refine (As.error_nil d w).mono ?_
    rintro e w' ⟨rfl, hb⟩
    exact ⟨His.ret_bool (by first | rfl | simp [eq_comm]), hb⟩
  · rw [errV_no h]
    refine (As.error_errno c d w hL).mono ?_
    rintro e w' ⟨rfl, hb⟩
    exact ⟨His.ret_bool (by first | rfl | simp [eq_comm]), hb⟩
end Go.Proofs.YtpjoaogiaacikakDoor.Lgs
