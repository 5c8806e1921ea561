/-
  RunCausal, RunBegins: plain facts, by the kernel.
-/
import Derived.Test.YtdmniblonikjlakGreatDoorMgR
namespace Go.Proofs.YtdmniblonikjlakGreatDoor.Run
set_option linter.unusedVariables false

/-- the session of a question and an answer, as a text -/
def sess (q a : Nat) (first : Bool) : T :=
  [115, 97, 121, 32, 48, 32] ++ dig q ++ [10, 103, 105, 118, 101, 32, 48, 10, 115, 97, 121, 32, 49, 32] ++ dig a ++ [10] ++
  (if first = true then [103, 105, 118, 101, 32, 50, 10, 103, 105, 118, 101, 32, 48, 10] else [103, 105, 118, 101, 32, 48, 10, 103, 105, 118, 101, 32, 49, 10]) ++
  [104, 101, 97, 114, 100, 32, 50, 10, 102, 97, 99, 101, 115, 10]
def allT : T := [102, 105, 102, 111, 32, 99, 97, 117, 115, 97, 108, 32, 116, 111, 116, 97, 108]
def chkR (q a : Nat) (r : T) : Bool := decide (r.length ≤ 1000) && match cut 10 r with
  | [_, _, _, _, _, h, f, _] => decide (h = dig q ++ 32 :: dig a) && decide (f = allT)
  | _ => false
def chk (q a : Nat) (first : Bool) : Bool := chkR q a (run (sess q a first))
def chkAll (f : Bool) : Bool := (List.range 30).all fun q => (List.range 30).all fun a => decide (q = a) || chk (q + 1) (a + 1) f
set_option maxRecDepth 100000 in
theorem all_true : chkAll true = true := by kernel_rfl
set_option maxRecDepth 100000 in
theorem all_false : chkAll false = true := by kernel_rfl
theorem causal {q a : Nat} (hq : 1 ≤ q ∧ q ≤ 30) (ha : 1 ≤ a ∧ a ≤ 30) (hne : q ≠ a) (first : Bool) : (run (sess q a first)).length ≤ 1000 ∧ ∃ x0 x1 x2 x3 x4 x7, cut 10 (run (sess q a first)) = [x0, x1, x2, x3, x4, dig q ++ 32 :: dig a, allT, x7] := by
  have h : chkAll first = true := by cases first; exact all_false; exact all_true
  simp only [chkAll, List.all_eq_true, List.mem_range, Bool.or_eq_true, decide_eq_true_eq] at h
  have h1 := (h (q - 1) (by omega) (a - 1) (by omega)).resolve_left (by omega)
  rw [show q - 1 + 1 = q by omega, show a - 1 + 1 = a by omega] at h1
  unfold chk chkR at h1
  rw [Bool.and_eq_true, decide_eq_true_eq] at h1
  refine ⟨h1.1, ?_⟩
  replace h1 := h1.2
  split at h1
  · rename_i x0 x1 x2 x3 x4 hh ff x7 e
    simp only [Bool.and_eq_true, decide_eq_true_eq] at h1
    exact ⟨x0, x1, x2, x3, x4, x7, by rw [e, h1.1, h1.2]⟩
  · cases h1
/-- 'say 0 0' -/
theorem say00 : run [115, 97, 121, 32, 48, 32, 48, 10] = [69, 114, 114, 82, 97, 110, 103, 101, 10] := by kernel_rfl
/-- a session of four lines -/
theorem four : run [115, 97, 121, 32, 48, 32, 53, 10, 119, 97, 121, 10, 102, 108, 121, 10, 103, 105, 118, 101, 32, 49, 10] = [111, 107, 10, 48, 62, 49, 58, 53, 32, 48, 62, 50, 58, 53, 10, 98, 97, 100, 10, 53, 10] := by kernel_rfl
end Go.Proofs.YtdmniblonikjlakGreatDoor.Run
