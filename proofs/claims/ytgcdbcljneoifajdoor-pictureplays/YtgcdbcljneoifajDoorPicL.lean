/-
  Plain facts on marks that are sent one by one.
-/
import Derived.Test.YtgcdbcljneoifajDoorPicE
namespace Go.Proofs.YtgcdbcljneoifajDoor.Pic
set_option linter.unusedVariables false

/-! as far as marks are sent -/
def wrK (g : G) (m k : Nat) : G := { g with has := up g.has m true, wrote := up g.wrote m (g.gold m), way := fun i j => if i = m ∧ j ≠ m ∧ j < k then g.way i j ++ [0] else g.way i j, opn := fun i j => if j = m ∧ i ≠ m ∧ i < k then true else g.opn i j }
theorem wrK_all (g : G) (m : Nat) : wrK g m g.n = write g m := rfl
theorem wrK_zero (g : G) (m : Nat) : wrK g m 0 = { g with has := up g.has m true, wrote := up g.wrote m (g.gold m) } := by
  unfold wrK
  simp
theorem wrK_skip (g : G) {m k : Nat} (e : k = m) : wrK g m (k + 1) = wrK g m k := by
  subst e
  have e1 : (fun i j => if i = k ∧ j ≠ k ∧ j < k + 1 then g.way i j ++ [0] else g.way i j) = fun i j => if i = k ∧ j ≠ k ∧ j < k then g.way i j ++ [0] else g.way i j := by
    funext i j
    by_cases q : i = k ∧ j ≠ k ∧ j < k
    · rw [if_pos q, if_pos (by omega)]
    · rw [if_neg q, if_neg (by omega)]
  have e2 : (fun i j => if j = k ∧ i ≠ k ∧ i < k + 1 then true else g.opn i j) = fun i j => if j = k ∧ i ≠ k ∧ i < k then true else g.opn i j := by
    funext i j
    by_cases q : j = k ∧ i ≠ k ∧ i < k
    · rw [if_pos q, if_pos (by omega)]
    · rw [if_neg q, if_neg (by omega)]
  unfold wrK
  rw [e1, e2]
theorem wrK_way (g : G) {m k : Nat} (e : k ≠ m) : (wrK g m k).way m k = g.way m k := if_neg (by omega)
theorem wrK_step (g : G) {m k : Nat} (e : k ≠ m) : wrK g m (k + 1) = { wrK g m k with way := up2 (wrK g m k).way m k (g.way m k ++ [0]), opn := up2 (wrK g m k).opn k m true } := by
  have e1 : (fun i j => if i = m ∧ j ≠ m ∧ j < k + 1 then g.way i j ++ [0] else g.way i j) = up2 (fun i j => if i = m ∧ j ≠ m ∧ j < k then g.way i j ++ [0] else g.way i j) m k (g.way m k ++ [0]) := by
    funext i j
    unfold up2
    by_cases q : i = m ∧ j = k
    · rw [if_pos q, q.1, q.2, if_pos (by omega)]
    · rw [if_neg q]
      dsimp only
      by_cases q2 : i = m ∧ j ≠ m ∧ j < k
      · rw [if_pos q2, if_pos (by omega)]
      · rw [if_neg q2, if_neg (by omega)]
  have e2 : (fun i j => if j = m ∧ i ≠ m ∧ i < k + 1 then true else g.opn i j) = up2 (fun i j => if j = m ∧ i ≠ m ∧ i < k then true else g.opn i j) k m true := by
    funext i j
    unfold up2
    by_cases q : i = k ∧ j = m
    · rw [if_pos q, if_pos (by omega)]
    · rw [if_neg q]
      dsimp only
      by_cases q2 : j = m ∧ i ≠ m ∧ i < k
      · rw [if_pos q2, if_pos (by omega)]
      · rw [if_neg q2, if_neg (by omega)]
  unfold wrK
  rw [e1, e2]
theorem part_same (g : G) {m k : Nat} (e : g.part k m = 0) : up2 g.part k m 0 = g.part := by
  funext i j
  unfold up2
  by_cases q : i = k ∧ j = m
  · rw [if_pos q, q.1, q.2, e]
  · rw [if_neg q]
end Go.Proofs.YtgcdbcljneoifajDoor.Pic
