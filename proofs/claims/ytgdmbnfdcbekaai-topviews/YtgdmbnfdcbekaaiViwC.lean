/-
  Next and Both, with the numbers under names of their own.
-/
import Derived.Test.YtgdmbnfdcbekaaiViwP
namespace Go.Proofs.Ytgdmbnfdcbekaai.Viw
open Go.RowKit
open Go.Proofs.Ytgdmbnfdcbekaai.Ldr (errF Sl)
set_option linter.unusedVariables false

theorem nextAt {v : Vi} {has : List Int} {u u' : Value} {w : World} {n : Int} (hn : n = v.n) (hv : Sl w u v.has) (hh : Sl w u' has) : Calls Try.prog 19 #[.agg #[.int .i64 n, u], u'] w fun x w' => ∃ n' l' q c, x = .returned (.tuple #[.agg #[.int .i64 n', .slice q l' c], errF (nextC v has)]) ∧ Hid (n' = (nextV v has).n ∧ l' = (nextV v has).has.length) ∧ Sl w' (.slice q l' c) (nextV v has).has ∧ Below w.heap.size w w' := by
  subst hn
  refine (nextVw v has u u' w hv hh).mono ?_
  rintro x w' ⟨q, c, rfl, h, -, hb⟩
  exact ⟨_, _, q, c, rfl, ⟨rfl, rfl⟩, h, hb⟩
theorem bothAt {v v' : Vi} {u u' : Value} {w : World} {n n' : Int} (hn : n = v.n) (hn' : n' = v'.n) (hv : Sl w u v.has) (hv' : Sl w u' v'.has) : Calls Try.prog 12 #[.agg #[.int .i64 n, u], .agg #[.int .i64 n', u']] w fun x w' => ∃ l q c, x = .returned (.tuple #[.slice q l c, errF (bothC v v')]) ∧ Hid (l = (bothL v v').length) ∧ Sl w' (.slice q l c) (bothL v v') ∧ Below w.heap.size w w' := by
  subst hn hn'
  refine (bothV v v' u u' w hv hv').mono ?_
  rintro x w' ⟨q, c, rfl, h, hb⟩
  exact ⟨_, q, c, rfl, rfl, h, hb⟩
end Go.Proofs.Ytgdmbnfdcbekaai.Viw
