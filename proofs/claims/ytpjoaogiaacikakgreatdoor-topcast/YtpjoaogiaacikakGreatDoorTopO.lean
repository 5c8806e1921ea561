/-
  Contract of package moottop's closed fact: what is said is ahead of where it is heard.
-/
import Derived.Test.YtpjoaogiaacikakGreatDoorHisT
import Derived.Handy
namespace Go.Proofs.YtpjoaogiaacikakGreatDoor.His
open Go.RowKit
set_option linter.unusedVariables false

def h2 : List Ev := [(0, 2, 1), (1, 3, 1)]
theorem h2_bef : befC h2 0 1 = 0 ∧ bef h2 0 1 = true := by decide
set_option maxRecDepth 100000 in
theorem one_any (w : World) : Calls Tryz.prog 4 #[] w fun e w' => e = .returned (.bool true) ∧ Below w.heap.size w w' := by
  have HE : Hid (Ew (w.alloc (.cells #[.int .i64 0, .int .i64 2, .int .i64 1, .int .i64 1, .int .i64 3, .int .i64 1] 40)) (some ⟨w.heap.size, 0, none⟩) 2 h2) := by
    refine ⟨rfl, fun _ => ⟨w.heap.size, 0, rfl, by simp, fun k hk => ?_⟩⟩
    rcases k with _ | _ | k
    · refine ⟨?_, ?_, ?_⟩ <;> simp [ev, h2]
    · refine ⟨?_, ?_, ?_⟩ <;> simp [ev, h2]
    · omega
  go_enter Tryz.func4, Tryz.ntmps4
  go_wp2_with fail
  refine (before_ok (some ⟨w.heap.size, 0, none⟩) 2 2 h2 0 1 _ (by omega) (by unfold maxLen; omega) HE.out h2_bef.1).mono ?_
  rintro e w1 ⟨rfl, hb⟩
  rw [h2_bef.2]
  have B1 : Hid (Below w.heap.size w w1) := ((Below.refl w.heap.size w).alloc (Nat.le_refl _) _).trans (hb.mono (by simp))
  clear hb
  go_wp2
  go_ret
  exact ⟨rfl, B1.out⟩
end Go.Proofs.YtpjoaogiaacikakGreatDoor.His
