/-
  New, Text, Lacks.
-/
import Derived.Test.YtolnfipdhkbkjajDoorPieU
import Derived.Deep.AppendLies
namespace Go.Proofs.YtolnfipdhkbkjajDoor.Pie
open Go.RowKit Go.Maps
open Go.Proofs.YtolnfipdhkbkjajDoor.Fif (own_lt own_block own_form own_mono Kp ret_bool)
set_option linter.unusedVariables false
variable {w w' : World} {base P mb : Nat} {j : J}

theorem MP.start : MP (.map []) (fun _ => none) := ⟨tidy_empty, fun _ => rfl, fun i t h => absurd h (by simp), rfl⟩
set_option maxRecDepth 100000 in
theorem newJ (w : World) : Calls Tryd.prog 47 #[] w fun x w' => ∃ P fp, x = .returned (.pointer (some ⟨P, 0, none⟩)) ∧ JS w' w.heap.size P start fp ∧ Below w.heap.size w w' := by
  have hmk : ∀ W : World, (Instr.makeMap 121 none).run Tryd.prog W = .ok (.map (some W.heap.size)) (W.alloc (.map #[] 0)) := fun _ => rfl
  have A0 : Hid (((w.alloc (.map #[] 0)).alloc (.cells #[.int .i64 0, .map (some w.heap.size)] 123)).rowIs (w.heap.size + 1) 123 2 (jv 0 w.heap.size)) := by
    have q := World.rowIs_alloc (w.alloc (.map #[] 0)) #[.int .i64 0, .map (some w.heap.size)] 123 (jv 0 w.heap.size) (fun i hi => by
      rcases i with _ | _ | i <;> first | rfl | (exfalso; have : _ < 2 := hi; omega))
    show World.rowIs _ _ _ _ _
    simpa using q
  go_enter Tryd.func47, Tryd.ntmps47
  go_wp2
  go_ret
  refine ⟨w.heap.size + 1, _, rfl, ⟨w.heap.size, rfl, A0.out, ⟨.map [], own_heap (World.ownsMap_made w _ _ _) ?_, MP.start⟩, ⟨Nat.le_succ _, Nat.le_refl _⟩, fun q => absurd rfl q⟩, ((Below.refl _ _).alloc (Nat.le_refl _) _).alloc (by simp) _⟩
  rw [Below.heap_alloc _ _ _ (by simp)]
def numX (l : List Nat) : List Value := l.map fun n : Nat => Value.int .i64 (n : Int)
theorem numX_lacks (j : J) : (lacks j).map (Value.int .i64) = numX (lackN j j.of) := by simp [lacks, numX]
theorem lacks_lenX (j : J) : (lacks j).length = (lackN j j.of).length := by simp [lacks]
theorem oneX (n : Nat) : ∀ u ∈ numX [n], u.oneCell' = true := by
  intro u hu
  obtain rfl := List.mem_singleton.1 hu
  rfl
theorem newX (w : World) (B : Nat) (hB : B = w.heap.size) (x : Value) (t : TypeId) : ∀ j u, [x][j]? = some u → (w.alloc (.cells #[x] t)).cell? ((⟨B, 0, none⟩ : Addr).add j) = some u := by
  subst hB
  intro j u hj
  rw [Addr.add_lit, Nat.zero_add]
  rcases j with _ | j
  · simpa using hj
  · simp at hj
theorem pushX {ob : Obj} {t : TypeId} {s n : Nat} {v : Value} {xs : List Value} (o : w.ownsRow base t s v n xs) (e : w'.heap = w.heap.push ob) : w'.ownsRow base t s v n xs := own_block o fun k hk => by
  rw [e, Array.getElem?_push_lt (own_lt o k hk).2, Array.getElem?_eq_getElem (own_lt o k hk).2]
theorem lack_nil {j : J} {k i : Nat} (h : lackN j k = []) (hi : i < k) : ∃ t, j.T i = some t := by
  cases q : j.T i with
  | some t => exact ⟨t, rfl⟩
  | none =>
    have : i ∈ lackN j k := by
      unfold lackN
      rw [List.mem_filter]
      exact ⟨List.mem_range.2 hi, by rw [q]; rfl⟩
    rw [h] at this
    exact absurd this List.not_mem_nil
end Go.Proofs.YtolnfipdhkbkjajDoor.Pie
