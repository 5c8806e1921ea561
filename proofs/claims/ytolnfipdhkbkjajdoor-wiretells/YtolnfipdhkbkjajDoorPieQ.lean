/-
  The document's own word on a piece alone.
-/
import Derived.Test.YtolnfipdhkbkjajDoorPieA
import Derived.Handy
namespace Go.Proofs.YtolnfipdhkbkjajDoor.Pie
open Go.RowKit
set_option linter.unusedVariables false

theorem refPiece (a b : Int) (c : ByteArray) (w : World) (r : Bool) (hr : pcBad (a, b, c) = !r) : Calls Tryd.prog 27 #[.agg #[.int .i64 a, .int .i64 b, .string c]] w fun x w' => x = .returned (.bool r) ∧ Below w.heap.size w w' := by
  have hb : Below w.heap.size w (w.alloc (.cells #[.int .i64 a, .int .i64 b, .string c] 72)) := (Below.refl _ _).alloc (Nat.le_refl _) _
  have HB : Hid _ := hb
  clear hb
  cases r
  · have h : pcBad (a, b, c) = true := hr
    simp [pcBad] at h
    clear hr
    by_cases h1 : b < 1
    · have d1 : decide (b ≥ 1) = false := decide_eq_false (by omega)
      clear h h1
      go_enter Tryd.func27, Tryd.ntmps27
      go_wp2
      go_ret
      exact ⟨rfl, HB.out⟩
    · have d1 : decide (b ≥ 1) = true := decide_eq_true (by omega)
      by_cases h2 : 60 < b
      · have d2 : decide (b ≤ 60) = false := decide_eq_false (by omega)
        clear h h1 h2
        go_enter Tryd.func27, Tryd.ntmps27
        go_wp2
        go_ret
        exact ⟨rfl, HB.out⟩
      · have d2 : decide (b ≤ 60) = true := decide_eq_true (by omega)
        by_cases h3 : a < 0
        · have d3 : decide (a ≥ 0) = false := decide_eq_false (by omega)
          clear h h1 h2 h3
          go_enter Tryd.func27, Tryd.ntmps27
          go_wp2
          go_ret
          exact ⟨rfl, HB.out⟩
        · have d3 : decide (a ≥ 0) = true := decide_eq_true (by omega)
          by_cases h4 : b ≤ a
          · have d4 : decide (a < b) = false := decide_eq_false (by omega)
            clear h h1 h2 h3 h4
            go_enter Tryd.func27, Tryd.ntmps27
            go_wp2
            go_ret
            exact ⟨rfl, HB.out⟩
          · have d4 : decide (a < b) = true := decide_eq_true (by omega)
            have d5 : decide ((c.size : Int) ≤ 12) = false := decide_eq_false (by omega)
            clear h h1 h2 h3 h4
            go_enter Tryd.func27, Tryd.ntmps27
            go_wp2
            go_ret
            exact ⟨rfl, HB.out⟩
  · obtain ⟨h1, h2, h3⟩ := pcBad_no (p := (a, b, c)) hr
    simp only at h1 h2 h3
    have d1 : decide (b ≥ 1) = true := decide_eq_true (by omega)
    have d2 : decide (b ≤ 60) = true := decide_eq_true (by omega)
    have d3 : decide (a ≥ 0) = true := decide_eq_true (by omega)
    have d4 : decide (a < b) = true := decide_eq_true (by omega)
    have d5 : decide ((c.size : Int) ≤ 12) = true := decide_eq_true (by omega)
    clear h1 h2 h3 hr
    go_enter Tryd.func27, Tryd.ntmps27
    go_wp2
    go_ret
    exact ⟨rfl, HB.out⟩
end Go.Proofs.YtolnfipdhkbkjajDoor.Pie
