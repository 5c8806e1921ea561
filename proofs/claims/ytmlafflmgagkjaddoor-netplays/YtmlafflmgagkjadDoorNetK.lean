/-
  Ways that are cut, seen in a map: a way by its two ends, the lower one first.
-/
import Derived.Test.YtmlafflmgagkjadDoorNetA
import Derived.Maps.OwnSet
import Derived.DeepKeys4
import Derived.MapViews
namespace Go.Proofs.YtmlafflmgagkjadDoor.Nw
open Go.RowKit Go.Maps
open Go.Proofs.YtmlafflmgagkjadDoor.Net
set_option linter.unusedVariables false

theorem laidOut : laidOutB Tryd.prog = true := by kernel_rfl
theorem wideK : (match Tryd.prog.underlying 97 with | some (.array _ _) | some (.struct _) => true | _ => false) = true := by kernel_rfl
theorem rowK : (97 : TypeId) < Tryd.prog.types.size := of_decide_eq_true (by kernel_rfl)
set_option maxRecDepth 100000 in
theorem law : Keyed Tryd.prog 97 := Keyed.of_law (deep_law_laid laidOut (m := 2) (by omega) rowK (by kernel_rfl) wideK)
def kl (a b : Int) : Lit := .string (keyBytes [.int .i64 a, .int .i64 b])
def okK (a b : Int) : Prop := (Lit.int .i64 a).wf = true ∧ (Lit.int .i64 b).wf = true
theorem deepK : Tryd.prog.keyType 97 = true := by kernel_rfl
theorem cellsK : Tryd.prog.cellsOf 97 = 2 := by kernel_rfl
theorem cellsI : Tryd.prog.cellsOf 3 = 1 := by kernel_rfl
set_option maxRecDepth 100000 in
theorem keyK {a b : Int} (h : okK a b) : keyOf Tryd.prog 97 (.agg #[.int .i64 a, .int .i64 b]) = some (kl a b) := by
  unfold keyOf
  simp only [Tryd.underlying97, deepK, Bool.true_and]
  have hf : (Value.agg #[.int .i64 a, .int .i64 b]).formed Tryd.prog 97 = true := by simp [Value.formed, Tryd.underlying97, cellsK]
  rw [hf]
  obtain ⟨k, hk⟩ : ∃ k, Tryd.prog.types.size = k + 1 := ⟨Tryd.prog.types.size - 1, by have h0 : 0 < Tryd.prog.types.size := Nat.lt_of_le_of_lt (Nat.zero_le _) rowK; omega⟩
  rw [hk]
  simp only [Value.cells, Program.keyLits, Tryd.underlying97]
  simp [List.mapM_cons, Tryd.underlying3, cellsK, cellsI, h.1, h.2, kl]
theorem kl_inj {a b c d : Int} (h1 : okK a b) (h2 : okK c d) (e : kl a b = kl c d) : a = c ∧ b = d := by
  have := law.inj (keyK h1) (by rw [keyK h2, e])
  simpa using this
theorem kl_key {a b : Int} (h : okK a b) : WideAt.IsKeyLit (kl a b) := law.key (keyK h)
theorem mem5_num {a : Int} (h : mem5 a = true) : 0 ≤ a ∧ a ≤ 4 := by
  simp [mem5] at h
  exact h
theorem mem5_of {a : Int} (h1 : 0 ≤ a) (h2 : a ≤ 4) : mem5 a = true := by simp [mem5]; omega
theorem mem5_no {a : Int} (h : mem5 a = false) : a < 0 ∨ 4 < a := by
  simp [mem5] at h
  omega
theorem okK_of {a b : Int} (ha : mem5 a = true) (hb : mem5 b = true) : okK (min a b) (max a b) := by
  have h1 := mem5_num ha
  have h2 := mem5_num hb
  refine ⟨?_, ?_⟩ <;> simp [Lit.wf, IntKind.min, IntKind.max, IntKind.bits, IntKind.signed] <;> omega
/-- the way between two -/
def wk (a b : Int) : Lit := kl (min a b) (max a b)
theorem wk_inj {a b c d : Int} (ha : mem5 a = true) (hb : mem5 b = true) (hc : mem5 c = true) (hd : mem5 d = true) (e : wk c d = wk a b) : (c = a ∧ d = b) ∨ (c = b ∧ d = a) := by
  have := kl_inj (okK_of hc hd) (okK_of ha hb) e
  omega
theorem wk_same {a b c d : Int} (h : (c = a ∧ d = b) ∨ (c = b ∧ d = a)) : wk c d = wk a b := by
  rcases h with ⟨rfl, rfl⟩ | ⟨rfl, rfl⟩
  · rfl
  · unfold wk
    rw [Int.min_comm, Int.max_comm]
def RV (v : Value) : Option (DataW Value × List MemPlace) := some (.held v, [])
theorem RV_inv {u v : Value} {ps : List MemPlace} (h : RV u = some (.held v, ps)) : u = v := by
  have h1 : (DataW.held u, ([] : List MemPlace)) = (DataW.held v, ps) := Option.some.inj h
  have h2 : DataW.held u = DataW.held v := (Prod.mk.inj h1).1
  exact DataW.held.inj h2
/-- how many ways are cut -/
def cnt (no : Int → Int → Bool) : Nat := (no 0 1).toNat + (no 0 2).toNat + (no 0 3).toNat + (no 0 4).toNat + (no 1 2).toNat + (no 1 3).toNat + (no 1 4).toNat + (no 2 3).toNat + (no 2 4).toNat + (no 3 4).toNat
theorem cnt_le (no : Int → Int → Bool) : cnt no ≤ 10 := by
  have h : ∀ b : Bool, b.toNat ≤ 1 := fun b => by cases b <;> decide
  have h0 := h (no 0 1)
  have h1 := h (no 0 2)
  have h2 := h (no 0 3)
  have h3 := h (no 0 4)
  have h4 := h (no 1 2)
  have h5 := h (no 1 3)
  have h6 := h (no 1 4)
  have h7 := h (no 2 3)
  have h8 := h (no 2 4)
  have h9 := h (no 3 4)
  unfold cnt
  omega
theorem cut_same (no : Int → Int → Bool) {a b : Int} (is : Bool) (ha : mem5 a = true) (hb : mem5 b = true) (hne : a ≠ b) {x y : Int} (h : (x = a ∧ y = b) ∨ (x = b ∧ y = a)) : cutN no a b is x y = is := by
  unfold cutN
  rw [if_pos ⟨by unfold cutC; rw [if_pos ⟨ha, hb⟩, if_neg hne], h⟩]
theorem cut_other (no : Int → Int → Bool) (a b : Int) (is : Bool) {x y : Int} (h : ¬ ((x = a ∧ y = b) ∨ (x = b ∧ y = a))) : cutN no a b is x y = no x y := if_neg fun q => h q.2
theorem cnt_cut (no : Int → Int → Bool) {a b : Int} (is : Bool) (ha : mem5 a = true) (hb : mem5 b = true) (hne : a ≠ b) (hs : no b a = no a b) : cnt (cutN no a b is) + (no a b).toNat = cnt no + is.toNat := by
  have h1 := mem5_num ha
  have h2 := mem5_num hb
  have e1 : a = 0 ∨ a = 1 ∨ a = 2 ∨ a = 3 ∨ a = 4 := by omega
  have e2 : b = 0 ∨ b = 1 ∨ b = 2 ∨ b = 3 ∨ b = 4 := by omega
  have e3 : cutC a b = 0 := by unfold cutC; rw [if_pos ⟨ha, hb⟩, if_neg hne]
  clear ha hb h1 h2
  rcases e1 with rfl | rfl | rfl | rfl | rfl <;> rcases e2 with rfl | rfl | rfl | rfl | rfl <;> first | exact absurd rfl hne | (simp [cnt, cutN, e3]; omega) | (simp [cnt, cutN, e3, hs]; omega)
/-- a map holds just the ways that are cut -/
structure MC (D : DataW Value) (no : Int → Int → Bool) : Prop where
  tidy : Tidy D
  has : ∀ a b, mem5 a = true → mem5 b = true → a ≠ b → Maps.has D (wk a b) = no a b
  at_ : ∀ k, Maps.has D k = true → ∀ z, D.atKey k z = .held (.agg #[])
  size : Maps.size D = cnt no
theorem MC.start : MC (.map []) (fun _ _ => false) := ⟨tidy_empty, fun _ _ _ _ _ => rfl, fun k h => by simp [Maps.has] at h, rfl⟩
theorem MC.sym {D : DataW Value} {no : Int → Int → Bool} (g : MC D no) {a b : Int} (ha : mem5 a = true) (hb : mem5 b = true) (hne : a ≠ b) : no b a = no a b := by
  rw [← g.has a b ha hb hne, ← g.has b a hb ha (Ne.symm hne), wk_same (.inr ⟨rfl, rfl⟩)]
theorem MC.put {D : DataW Value} {no : Int → Int → Bool} (g : MC D no) {a b : Int} (ha : mem5 a = true) (hb : mem5 b = true) (hne : a ≠ b) : MC (D.put (wk a b) (.held (.agg #[]))) (cutN no a b true) := by
  have hk : WideAt.IsKeyLit (wk a b) := kl_key (okK_of ha hb)
  refine ⟨g.tidy.put hk _, fun c d hc hd hcd => ?_, fun k h z => ?_, ?_⟩
  · by_cases q : (c = a ∧ d = b) ∨ (c = b ∧ d = a)
    · rw [wk_same q, has_put_same g.tidy.isMap hk, cut_same no true ha hb hne q]
    · rw [has_put_other (fun e => q (wk_inj ha hb hc hd e)), g.has c d hc hd hcd, cut_other no a b true q]
  · by_cases q : k = wk a b
    · subst q
      exact atKey_put_same g.tidy.isMap hk _ _
    · rw [has_put_other q] at h
      rw [atKey_put_other q, g.at_ k h]
  · have h1 := cnt_cut no true ha hb hne (g.sym ha hb hne)
    rw [size_put g.tidy, g.has a b ha hb hne, g.size]
    cases h : no a b
    · rw [h] at h1
      simp at h1 ⊢
      omega
    · rw [h] at h1
      simp at h1 ⊢
      omega
theorem MC.del {D : DataW Value} {no : Int → Int → Bool} (g : MC D no) {a b : Int} (ha : mem5 a = true) (hb : mem5 b = true) (hne : a ≠ b) : MC (D.del (wk a b)) (cutN no a b false) := by
  refine ⟨g.tidy.del _, fun c d hc hd hcd => ?_, fun k h z => ?_, ?_⟩
  · by_cases q : (c = a ∧ d = b) ∨ (c = b ∧ d = a)
    · rw [wk_same q, has_del_same, cut_same no false ha hb hne q]
    · rw [has_del_other (fun e => q (wk_inj ha hb hc hd e)), g.has c d hc hd hcd, cut_other no a b false q]
  · by_cases q : k = wk a b
    · subst q
      rw [has_del_same] at h
      cases h
    · rw [has_del_other q] at h
      rw [atKey_del_other q, g.at_ k h]
  · have h1 := cnt_cut no false ha hb hne (g.sym ha hb hne)
    have h2 := size_del (k := wk a b) g.tidy
    rw [g.has a b ha hb hne, g.size] at h2
    cases h : no a b
    · rw [h] at h1 h2
      simp at h1 h2
      omega
    · rw [h] at h1 h2
      simp at h1 h2
      omega
theorem own_norm {k : TypeId} {w : World} {b n : Nat} {D : DataW Value} (h : w.ownsMap Tryd.prog k RV b n D) : w.ownsMap Tryd.prog k RV b (Maps.size D) D := by
  obtain ⟨es, clock, hb, F, _, rfl⟩ := h
  exact ⟨es, clock, hb, F, by simp [Maps.size, length_sorted], rfl⟩
theorem own_heap {k : TypeId} {w w' : World} {b n : Nat} {D : DataW Value} (h : w.ownsMap Tryd.prog k RV b n D) (he : w'.heap[b]? = w.heap[b]?) : w'.ownsMap Tryd.prog k RV b n D := by
  obtain ⟨es, clock, hb, r⟩ := h
  exact ⟨es, clock, by rw [he]; exact hb, r⟩
end Go.Proofs.YtmlafflmgagkjadDoor.Nw
