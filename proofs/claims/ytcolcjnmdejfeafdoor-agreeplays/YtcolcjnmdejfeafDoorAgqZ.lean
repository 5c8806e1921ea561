/-
  The document's own group, as it is made.
-/
import Derived.Test.YtcolcjnmdejfeafDoorAgqS
namespace Go.Proofs.YtcolcjnmdejfeafDoor.Agr
open Go.RowKit
set_option linter.unusedVariables false

def nil5 : Nat → Value := fun _ => .slice none 0 0
def zAg : Array Value := Array.ofFn fun i : Fin 662 => fv (ofG (start 0) nil5) i.val
set_option maxRecDepth 100000 in
theorem zero_any (W : World) : (zeroValue 69).run Tryd.prog W = .ok (.agg zAg) W := by kernel_rfl
theorem zAg_size : zAg.size = 662 := by unfold zAg; simp
theorem zAg_ne : (zAg = #[]) = False := by
  apply propext
  constructor
  · intro h
    have := zAg_size
    rw [h] at this
    cases this
  · exact False.elim
theorem fv_n0 {i : Nat} (e : ¬ i = 0) (F : Fd) (x : Int) : fv F i = fv { F with n := x } i := by
  unfold fv
  rw [if_neg e, if_neg e]
/-- made -/
theorem RA.made (w : World) (base n : Nat) (hb : base ≤ w.heap.size) : RA (w.alloc (.cells (zAg.setIfInBounds 0 (.int .i64 (n : Int))) 69)) base w.heap.size (start n) nil5 := by
  refine ⟨?_, hb, fun i hi => World.ownsRow_nil _ _ _ _, fun i hi e => (by cases e), fun i j b hi hj e => (by cases e)⟩
  have h := World.rowIs_alloc w (zAg.setIfInBounds 0 (.int .i64 (n : Int))) 69 (fv (ofG (start n) nil5)) (fun i hi => by
    have hi' : i < 662 := by rw [Array.size_setIfInBounds, zAg_size] at hi; exact hi
    by_cases e : i = 0
    · subst e
      rw [Array.getElem?_setIfInBounds_self_of_lt (by rw [zAg_size]; omega)]
      rfl
    · rw [Array.getElem?_setIfInBounds_ne (fun q => e q.symm)]
      have : zAg[i]? = some (fv (ofG (start 0) nil5) i) := by
        unfold zAg
        rw [Array.getElem?_ofFn, dif_pos hi']
      rw [this, fv_n0 e (ofG (start 0) nil5) (n : Int)]
      rfl)
  rw [Array.size_setIfInBounds, zAg_size] at h
  exact h
end Go.Proofs.YtcolcjnmdejfeafDoor.Agr
