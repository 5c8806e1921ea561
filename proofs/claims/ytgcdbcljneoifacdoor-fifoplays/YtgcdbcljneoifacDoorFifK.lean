/-
  A place (whose, which) as a key of a map: a struct of two numbers.
-/
import Derived.Test.YtgcdbcljneoifacDoorFifV
import Derived.Test.YtgcdbcljneoifacDoorRows
import Derived.DeepKeys4
import Derived.MapViews
namespace Go.Proofs.YtgcdbcljneoifacDoor.Fif
set_option maxRecDepth 100000
open Go.Maps

theorem laidOut : laidOutB Tryd.prog = true := by kernel_rfl
theorem wideK : (match Tryd.prog.underlying 61 with | some (.array _ _) | some (.struct _) => true | _ => false) = true := by kernel_rfl
theorem rowK : (61 : TypeId) < Tryd.prog.types.size := of_decide_eq_true (by kernel_rfl)
theorem law : Keyed Tryd.prog 61 := Keyed.of_law (deep_law_laid laidOut (m := 2) (by omega) rowK (by kernel_rfl) wideK)
def kl (a b : Int) : Lit := .string (keyBytes [.int .i64 a, .int .i64 b])
def okK (a b : Int) : Prop := (Lit.int .i64 a).wf = true ∧ (Lit.int .i64 b).wf = true
theorem deepK : Tryd.prog.keyType 61 = true := by kernel_rfl
theorem cellsK : Tryd.prog.cellsOf 61 = 2 := by kernel_rfl
theorem cellsI : Tryd.prog.cellsOf 3 = 1 := by kernel_rfl
theorem keyK {a b : Int} (h : okK a b) : keyOf Tryd.prog 61 (.agg #[.int .i64 a, .int .i64 b]) = some (kl a b) := by
  unfold keyOf
  simp only [Tryd.underlying61, deepK, Bool.true_and]
  have hf : (Value.agg #[.int .i64 a, .int .i64 b]).formed Tryd.prog 61 = true := by simp [Value.formed, Tryd.underlying61, cellsK]
  rw [hf]
  obtain ⟨k, hk⟩ : ∃ k, Tryd.prog.types.size = k + 1 := ⟨Tryd.prog.types.size - 1, by have h0 : 0 < Tryd.prog.types.size := Nat.lt_of_le_of_lt (Nat.zero_le _) rowK; omega⟩
  rw [hk]
  simp only [Value.cells, Program.keyLits, Tryd.underlying61]
  simp [List.mapM_cons, Tryd.underlying3, cellsK, cellsI, h.1, h.2, kl]
theorem kl_inj : ∀ a b c d, okK a b → okK c d → kl a b = kl c d → a = c ∧ b = d := by
  intro a b c d h1 h2 e
  have := law.inj (keyK h1) (by rw [keyK h2, e])
  simpa using this
theorem kl_key (a b : Int) (h : okK a b) : WideAt.IsKeyLit (kl a b) := law.key (keyK h)
end Go.Proofs.YtgcdbcljneoifacDoor.Fif
