/-
  The document's own Right: what is wrong with a history.
-/
import Derived.Test.YtpjoaogiaacikakDoorRefI
namespace Go.Proofs.YtpjoaogiaacikakDoor.His
open Go.RowKit

theorem right_any (a : Option Addr) (len cap : Nat) (h : List Ev) (w : World) (hv : Ew w a len h) :
    Calls Tryd.prog 15 #[.slice a len cap] w fun x w' => x = .returned (.int .i64 (chkC h)) ∧ Below w.heap.size w w' := by
  go_enter Tryd.func15, Tryd.ntmps15
  go_wp2_with fail
  refine (refHistory a len cap h _ hv).mono ?_
  rintro e w1 ⟨rfl, hb⟩
  clear hv
  go_wp2
  go_ret
  exact ⟨rfl, hb⟩
end Go.Proofs.YtpjoaogiaacikakDoor.His
