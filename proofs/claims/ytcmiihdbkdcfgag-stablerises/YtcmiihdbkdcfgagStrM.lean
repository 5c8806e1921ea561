/-
  Plain facts: what is told raises, and never lowers; told twice is told once; what may be forgotten all have.
-/
import Derived.Test.YtcmiihdbkdcfgagStbE
namespace Go.Proofs.Ytcmiihdbkdcfgag.Stb
open Go.Proofs.Ytcmiihdbkdcfgag.His (joinR joinR_len getD_joinR leR leR_of leR_get zero5)
set_option linter.unusedVariables false
variable {t : T}

def q1 : T := told (start 2) 0 [3, 1, 0, 0, 0]
def q2 : T := told q1 1 [2, 5, 0, 0, 0]
theorem q1_c : toldC (start 2) 0 [3, 1, 0, 0, 0] = 0 := by decide
theorem q1_n : q1.n = 2 := told_n _ _ _
theorem q2_c : toldC q1 1 [2, 5, 0, 0, 0] = 0 := by
  unfold toldC inC
  rw [q1_n]
  decide
theorem q1_inv : Inv q1 := (Inv.start (by decide) (by decide)).told _ _
theorem q2_inv : Inv q2 := q1_inv.told _ _
theorem q2_least : least q2 = [2, 1, 0, 0, 0] := by
  have key : ∀ m i, (q2.r m).getD i 0 = if m = 1 then max (if m = 0 then max (zero5.getD i 0) (([3, 1, 0, 0, 0] : List Int).getD i 0) else zero5.getD i 0) (([2, 5, 0, 0, 0] : List Int).getD i 0) else (if m = 0 then max (zero5.getD i 0) (([3, 1, 0, 0, 0] : List Int).getD i 0) else zero5.getD i 0) := fun m i => by
    have e1 : (q1.r m).getD i 0 = if m = 0 then max (zero5.getD i 0) (([3, 1, 0, 0, 0] : List Int).getD i 0) else zero5.getD i 0 := told_get (Inv.start (by decide) (by decide)) q1_c m i
    have e2 := told_get q1_inv q2_c m i
    rw [e1] at e2
    exact e2
  have n2 : q2.n = 2 := (told_n _ _ _).trans q1_n
  unfold least ls
  rw [n2]
  show [mn q2 0 1, mn q2 1 1, mn q2 2 1, mn q2 3 1, mn q2 4 1] = _
  simp only [mn, key]
  decide
/-- what comes of it where it is taken -/
theorem rise (hi : Inv t) {x : Int} {v : List Int} (h : toldC t x v = 0) :
    inC t x = 0 ∧ inC (told t x v) x = 0 ∧ rowL t x = t.r x.toNat ∧ rowL (told t x v) x = (told t x v).r x.toNat ∧ vecC v = 0 ∧ leR (least t) (least (told t x v)) = true ∧ leR (t.r x.toNat) ((told t x v).r x.toNat) = true ∧ leR v ((told t x v).r x.toNat) = true := by
  obtain ⟨⟨h0, hn⟩, hv⟩ := told_ok h
  have i1 : inC t x = 0 := if_neg (by omega)
  have i2 : inC (told t x v) x = 0 := by
    unfold inC
    rw [told_n]
    exact if_neg (by omega)
  refine ⟨i1, i2, if_pos i1, if_pos i2, hv, leR_of fun i h5 => ?_, leR_of fun i h5 => told_rises hi x v _ i, leR_of fun i h5 => ?_⟩
  · rw [least_get _ h5, least_get _ h5]
    exact least_rises hi x v i
  · rw [told_get hi h, if_pos rfl]
    exact Int.le_max_right _ _
theorem below (hi : Inv t) {m : Nat} (hm : m < t.n) : leR (least t) (t.r m) = true := leR_of fun i h5 => by
  rw [least_get _ h5]
  exact ls_le hi hm i
theorem told_not {x : Int} {v : List Int} (h : toldC t x v ≠ 0) : told t x v = t := if_neg h
end Go.Proofs.Ytcmiihdbkdcfgag.Stb
