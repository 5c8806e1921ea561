/-
  Contracts of package vector's Check, checkBoth, anyGreater, Leq and Apart, for whatever two lists of numbers: what each returns, and that nothing that was there is written.
-/
import Derived.Test.YtpjoaogiaacikakDoorRows
import Derived.WalkKit
import Derived.WalkSmall
import Derived.Deep.QuietTactic
import Derived.BigQuiet
namespace Go.Proofs.YtpjoaogiaacikakDoor.Vec
open Go.RowKit

def out (x : Int) : Bool := decide (x < 0) || decide (1000000 < x)
def anyP (p : Nat → Bool) : Bool := p 0 || p 1 || p 2 || p 3 || p 4

theorem anyP_true {p : Nat → Bool} {k : Nat} (hk : k < 5) (h : p k = true) : anyP p = true := by
  unfold anyP
  match k, hk with
  | 0, _ => simp [h]
  | 1, _ => simp [h]
  | 2, _ => simp [h]
  | 3, _ => simp [h]
  | 4, _ => simp [h]
theorem anyP_false {p : Nat → Bool} (h : ∀ j, j < 5 → p j = false) : anyP p = false := by
  unfold anyP; simp [h 0 (by omega), h 1 (by omega), h 2 (by omega), h 3 (by omega), h 4 (by omega)]

theorem ret_bool {a b : Bool} (h : a = b) : Ending.returned (.bool a) = .returned (.bool b) := by rw [h]

end Go.Proofs.YtpjoaogiaacikakDoor.Vec
