/-
  Errors as the program tells them; a list of numbers that is seen.
-/
import Derived.Test.YtgcdbcljneoifajDoorLdrM
import Derived.Test.YtgcdbcljneoifajDoorSepA
import Derived.Test.YtgcdbcljneoifajDoorVecC
import Derived.Test.YtgcdbcljneoifajDoorTold
namespace Go.Proofs.YtgcdbcljneoifajDoor.Ldr
open Go.RowKit
open Go.Proofs.YtgcdbcljneoifajDoor.Fif (own_lt own_block own_form own_mono own_vw ret_bool)
open Go.Proofs.YtgcdbcljneoifajDoor.Vec (Vw)
open Go.Proofs.YtgcdbcljneoifajDoor.Vec (ints_any)
open Go.Proofs.YtgcdbcljneoifajDoor.Sep (KpL NewL)
set_option linter.unusedVariables false

def errF (c : Int) : Value := if c = 0 then .nilIface else .iface 58 (.int .i64 c)
theorem errF_ok : errF 0 = .nilIface := rfl
theorem errF_no {c : Int} (h : c ≠ 0) : errF c = .iface 58 (.int .i64 c) := if_neg h
theorem errF_same (c : Int) (w : World) (hL : As.Laid w) : Calls Tryd.prog 5 #[errF c, .int .i64 c] w fun e w' => e = .returned (.bool true) ∧ Below w.heap.size w w' := by
  by_cases h : c = 0
  · subst h
    rw [errF_ok]
    refine (As.error_nil 0 w).mono ?_
    rintro e w' ⟨rfl, hb⟩
    exact ⟨ret_bool (by simp), hb⟩
  · rw [errF_no h]
    refine (As.error_errno c c w hL).mono ?_
    rintro e w' ⟨rfl, hb⟩
    exact ⟨ret_bool (by simp), hb⟩
/-- a list of numbers that is seen -/
def Sl (w : World) (v : Value) (l : List Int) : Prop := ∃ a cap, v = .slice a l.length cap ∧ l.length ≤ cap ∧ cap ≤ maxLen ∧ Vw w a l.length l
theorem Sl.later {w w' : World} {v : Value} {l : List Int} (h : Sl w v l) (hb : Below w.heap.size w w') : Sl w' v l := by
  obtain ⟨a, cap, e, h1, h2, h3⟩ := h
  exact ⟨a, cap, e, h1, h2, h3.later hb⟩
theorem Sl.nil (w : World) : Sl w (.slice none 0 0) [] := ⟨none, 0, rfl, Nat.le_refl _, Nat.zero_le _, rfl, fun q => absurd q (by decide)⟩
theorem Sl.of_own {w : World} {base : Nat} {v : Value} {l : List Int} {t : TypeId} (o : w.ownsRow base t 1 v l.length (l.map (Value.int .i64))) : Sl w v l := by
  obtain ⟨a, cap, e, hv⟩ := own_vw o
  refine ⟨a, cap, e, ?_, ?_, hv⟩
  · rcases o.2 with ⟨h2, h3⟩ | ⟨g, cap', cur, hv', _, _, hc, hm, _, _⟩
    · rw [e] at h2
      injection h2 with _ _ h4
      omega
    · rw [e] at hv'
      injection hv' with _ _ h4
      omega
  · rcases o.2 with ⟨h2, h3⟩ | ⟨g, cap', cur, hv', _, _, hc, hm, _, _⟩
    · rw [e] at h2
      injection h2 with _ _ h4
      unfold maxLen
      omega
    · rw [e] at hv'
      injection hv' with _ _ h4
      rw [h4]
      exact hm
theorem same_any {w : World} {v v' : Value} {l l' : List Int} (h : Sl w v l) (h' : Sl w v' l') : Calls Tryd.prog 14 #[v, v'] w fun e w' => e = .returned (.bool (decide (l = l'))) ∧ Below w.heap.size w w' := by
  obtain ⟨a, cap, rfl, h1, h2, h3⟩ := h
  obtain ⟨a', cap', rfl, h1', h2', h3'⟩ := h'
  refine (ints_any a a' l.length cap l'.length cap' l l' w h3 h3' (Nat.le_trans h1 h2)).mono ?_
  rintro e w' ⟨rfl, n, rfl⟩
  exact ⟨rfl, ⟨rfl, rfl, rfl, Nat.le_refl _, fun _ _ => rfl⟩⟩
end Go.Proofs.YtgcdbcljneoifajDoor.Ldr
