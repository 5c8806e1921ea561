/-
  Errors as the program tells them; a list that is seen; is one list the beginning of another one.
-/
import Derived.Test.YtcolcjnmdejfeafAgrN
import Derived.Test.YtcolcjnmdejfeafSepA
import Derived.Test.YtcolcjnmdejfeafVecC
namespace Go.Proofs.Ytcolcjnmdejfeaf.Agr
open Go.RowKit
open Go.Proofs.Ytcolcjnmdejfeaf.Fif (own_lt own_block own_form own_mono own_vw ret_bool)
open Go.Proofs.Ytcolcjnmdejfeaf.Vec (Vw ints_any)
open Go.Proofs.Ytcolcjnmdejfeaf.Sep (KpL NewL)
set_option linter.unusedVariables false

def errF (c : Int) : Value := if c = 0 then .nilIface else .iface 38 (.int .i64 c)
theorem errF_ok : errF 0 = .nilIface := rfl
theorem errF_no {c : Int} (h : c ≠ 0) : errF c = .iface 38 (.int .i64 c) := if_neg h
def ints (l : List Nat) : List Int := l.map fun x : Nat => (x : Int)
theorem ints_len (l : List Nat) : (ints l).length = l.length := by simp [ints]
theorem ints_inj {a b : List Nat} : ints a = ints b ↔ a = b := by
  constructor
  · intro h
    unfold ints at h
    induction a generalizing b with
    | nil =>
      cases b with
      | nil => rfl
      | cons y b => simp at h
    | cons x a ih =>
      cases b with
      | nil => simp at h
      | cons y b =>
        rw [List.map_cons, List.map_cons] at h
        injection h with h1 h2
        rw [ih h2, show x = y by omega]
  · intro h
    rw [h]
/-- a list of numbers that is seen -/
def Sl (w : World) (v : Value) (l : List Nat) : Prop := ∃ a cap, v = .slice a l.length cap ∧ l.length ≤ cap ∧ cap ≤ maxLen ∧ Vw w a l.length (ints l)
theorem Sl.later {w w' : World} {v : Value} {l : List Nat} (h : Sl w v l) (hb : Below w.heap.size w w') : Sl w' v l := by
  obtain ⟨a, cap, e, h1, h2, h3⟩ := h
  exact ⟨a, cap, e, h1, h2, h3.later hb⟩
theorem Sl.of_own {w : World} {base : Nat} {v : Value} {l : List Nat} {t : TypeId} (o : w.ownsRow base t 1 v l.length ((ints l).map (Value.int .i64))) : Sl w v l := by
  obtain ⟨a, cap, e, hv⟩ := own_vw o
  refine ⟨a, cap, e, ?_, ?_, hv⟩
  · rcases o.2 with ⟨h2, h3⟩ | ⟨g, cap', cur, hv', _, _, hc, hm, _, _⟩
    · rw [e] at h2
      injection h2 with _ _ h4
      omega
    · rw [e] at hv'
      injection hv' with _ _ h4
      omega
  · rcases o.2 with ⟨h2, h3⟩ | ⟨g, cap', cur, hv', _, _, hc, hm, _, _⟩
    · rw [e] at h2
      injection h2 with _ _ h4
      unfold maxLen
      omega
    · rw [e] at hv'
      injection hv' with _ _ h4
      rw [h4]
      exact hm
theorem same_any {w : World} {v v' : Value} {l l' : List Nat} (h : Sl w v l) (h' : Sl w v' l') : Calls Try.prog 9 #[v, v'] w fun e w' => e = .returned (.bool (decide (l = l'))) ∧ Below w.heap.size w w' := by
  obtain ⟨a, cap, rfl, h1, h2, h3⟩ := h
  obtain ⟨a', cap', rfl, h1', h2', h3'⟩ := h'
  refine (ints_any a a' l.length cap l'.length cap' (ints l) (ints l') w h3 h3' (Nat.le_trans h1 h2)).mono ?_
  rintro e w' ⟨rfl, n, rfl⟩
  refine ⟨ret_bool ?_, ⟨rfl, rfl, rfl, Nat.le_refl _, fun _ _ => rfl⟩⟩
  exact decide_eq_decide.2 ints_inj
end Go.Proofs.Ytcolcjnmdejfeaf.Agr
