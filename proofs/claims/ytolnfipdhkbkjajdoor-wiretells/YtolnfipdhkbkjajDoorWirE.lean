/-
  Errors as the program tells them; a list of numbers that is seen; a word that is handed over.
-/
import Derived.Test.YtolnfipdhkbkjajDoorWirM
import Derived.Test.YtolnfipdhkbkjajDoorVecC
import Derived.Test.YtolnfipdhkbkjajDoorTold
namespace Go.Proofs.YtolnfipdhkbkjajDoor.Wir
open Go.RowKit
open Go.Proofs.YtolnfipdhkbkjajDoor.Fif (own_lt own_block own_form own_mono own_vw Kp ret_bool)
open Go.Proofs.YtolnfipdhkbkjajDoor.Vec (Vw)
open Go.Proofs.YtolnfipdhkbkjajDoor.Cau (Sd sdBad)
set_option linter.unusedVariables false

def errF (c : Int) : Value := if c = 0 then .nilIface else .iface 78 (.int .i64 c)
theorem errF_ok : errF 0 = .nilIface := rfl
theorem errF_no {c : Int} (h : c ≠ 0) : errF c = .iface 78 (.int .i64 c) := if_neg h
theorem errF_same (c : Int) (w : World) (hL : As.Laid w) : Calls Tryd.prog 8 #[errF c, .int .i64 c] w fun e w' => e = .returned (.bool true) ∧ Below w.heap.size w w' := by
  by_cases h : c = 0
  · subst h
    rw [errF_ok]
    refine (As.error_nil 0 w).mono ?_
    rintro e w' ⟨rfl, hb⟩
    exact ⟨ret_bool (by simp), hb⟩
  · rw [errF_no h]
    refine (As.error_errno c c w hL).mono ?_
    rintro e w' ⟨rfl, hb⟩
    exact ⟨ret_bool (by simp), hb⟩
/-- a list of numbers that is seen -/
def Sl (w : World) (v : Value) (l : List Int) : Prop := ∃ a cap, v = .slice a l.length cap ∧ l.length ≤ cap ∧ cap ≤ maxLen ∧ Vw w a l.length l
theorem Sl.later {w w' : World} {v : Value} {l : List Int} (h : Sl w v l) (hb : Below w.heap.size w w') : Sl w' v l := by
  obtain ⟨a, cap, e, h1, h2, h3⟩ := h
  exact ⟨a, cap, e, h1, h2, h3.later hb⟩
theorem Sl.nil (w : World) : Sl w (.slice none 0 0) [] := ⟨none, 0, rfl, Nat.le_refl _, Nat.zero_le _, rfl, fun q => absurd q (by simp)⟩
theorem drews {B : Nat} {a w : World} (h : Below B a w) (n : Nat) : Below B a (w.drewN n) := ⟨h.os, h.tape, h.output, h.size, h.block⟩
/-- a word in a block of its own -/
def wv (x y : Int) (u : Value) (k : Nat) : Value := if k = 0 then .int .i64 x else if k = 1 then .int .i64 y else u
theorem box (w : World) (x y : Int) (u : Value) : (w.alloc (.cells #[.int .i64 x, .int .i64 y, u] 59)).rowIs w.heap.size 59 3 (wv x y u) := World.rowIs_alloc w #[.int .i64 x, .int .i64 y, u] 59 _ fun i hi => by
  have hi : i < 3 := hi
  rcases i with _ | _ | _ | i <;> first | rfl | omega
end Go.Proofs.YtolnfipdhkbkjajDoor.Wir
