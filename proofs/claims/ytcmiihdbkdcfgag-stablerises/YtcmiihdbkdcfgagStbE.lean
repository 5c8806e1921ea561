/-
  Errors and lists of numbers as with a leader; what is below what, in the vectors' own words.
-/
import Derived.Test.YtcmiihdbkdcfgagStbM
import Derived.Test.YtcmiihdbkdcfgagLdrE
namespace Go.Proofs.Ytcmiihdbkdcfgag.Stb
open Go.RowKit
open Go.Proofs.Ytcmiihdbkdcfgag.Vec (Vw)
open Go.Proofs.Ytcmiihdbkdcfgag.Sep (KpL NewL)
open Go.Proofs.Ytcmiihdbkdcfgag.Ldr (Sl)
set_option linter.unusedVariables false

theorem gt_leR {a b : List Int} : (!Vec.gt a b) = His.leR a b := by
  have h : Vec.gt a b = true ↔ ∃ j, j < 5 ∧ b.getD j 0 < a.getD j 0 := by
    constructor
    · intro q
      refine Decidable.byContradiction fun z => ?_
      have : Vec.gt a b = false := Vec.anyP_false fun j hj => decide_eq_false fun y => z ⟨j, hj, y⟩
      rw [this] at q
      cases q
    · rintro ⟨j, hj, q⟩
      exact Vec.anyP_true (p := fun k => decide (b.getD k 0 < a.getD k 0)) hj (decide_eq_true q)
  rw [Bool.eq_iff_iff, Bool.not_eq_true', Bool.eq_false_iff, ne_eq, h]
  constructor
  · intro q
    exact His.leR_of fun m hm => by
      refine Decidable.byContradiction fun z => q ⟨m, hm, by omega⟩
  · rintro q ⟨j, hj, z⟩
    have := His.leR_get q j hj
    omega
theorem Sl.vw {w : World} {a : Option Addr} {n c : Nat} {l : List Int} (h : Sl w (.slice a n c) l) : n = l.length ∧ Vw w a n l := by
  obtain ⟨a', c', e, _, _, hv⟩ := h
  injection e with e1 e2 e3
  subst e1 e2
  exact ⟨rfl, hv⟩
theorem vw_block {w w' : World} {a : Option Addr} {len : Nat} {l : List Int} (h : Vw w a len l) (hs : w.heap.size ≤ w'.heap.size) (hk : ∀ ad, a = some ad → 0 < len → w'.heap[ad.block]? = w.heap[ad.block]?) : Vw w' a len l := by
  refine ⟨h.1, fun q => ?_⟩
  obtain ⟨b, off, e, hlt, hc⟩ := h.2 q
  have eb := hk _ e q
  exact ⟨b, off, e, Nat.lt_of_lt_of_le hlt hs, fun k hk => (World.cell?_of_block (a := ⟨b, off + k, none⟩) eb).trans (hc k hk)⟩
/-- a list that is seen, apart from some blocks -/
def Sa (w : World) (fp : List Nat) (a : Option Addr) (n : Nat) (l : List Int) : Prop := Vw w a n l ∧ ∀ ad, a = some ad → 0 < n → ad.block ∉ fp
theorem Sa.later {w w' : World} {fp : List Nat} {a : Option Addr} {n : Nat} {l : List Int} (h : Sa w fp a n l) (hb : Below w.heap.size w w') : Sa w' fp a n l := ⟨h.1.later hb, h.2⟩
theorem Sa.step {w w' : World} {fp fp' : List Nat} {a : Option Addr} {n : Nat} {l : List Int} (h : Sa w fp a n l) (hk : KpL w w' fp) (hn : NewL w fp fp') : Sa w' fp' a n l := by
  refine ⟨vw_block h.1 hk.1 fun ad e q => ?_, fun ad e q z => ?_⟩
  · obtain ⟨b, off, e', hlt, _⟩ := h.1.2 q
    rw [e'] at e
    cases e
    exact hk.2 b hlt (h.2 _ e' q)
  · obtain ⟨b, off, e', hlt, _⟩ := h.1.2 q
    rw [e'] at e
    cases e
    rcases hn _ z with y | y
    · exact h.2 _ e' q y
    · have y' : w.heap.size ≤ b := y
      omega
theorem Sa.new {w w' : World} {fp : List Nat} {a : Option Addr} {n c : Nat} {l : List Int} (h : Sl w' (.slice a n c) l) (hn : ∀ ad, a = some ad → 0 < n → w.heap.size ≤ ad.block) (hf : ∀ b ∈ fp, b < w.heap.size) : n = l.length ∧ Sa w' fp a n l := by
  obtain ⟨e, hv⟩ := Sl.vw h
  exact ⟨e, hv, fun ad e q z => by have := hn ad e q; have := hf _ z; omega⟩
theorem Sa.sl {w : World} {fp : List Nat} {a : Option Addr} {n c : Nat} {l : List Int} (h : Sa w fp a n l) (h1 : n ≤ c) (h2 : c ≤ maxLen) : Sl w (.slice a n c) l := by
  have e := h.1.1
  subst e
  exact ⟨a, c, rfl, h1, h2, h.1⟩
end Go.Proofs.Ytcmiihdbkdcfgag.Stb
