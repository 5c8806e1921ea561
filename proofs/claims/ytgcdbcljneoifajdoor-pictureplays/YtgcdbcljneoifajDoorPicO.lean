/-
  Plain facts on pictures: who writes down its gold, a mark that comes; what always holds at every step.
-/
import Derived.Test.YtgcdbcljneoifajDoorPicN
namespace Go.Proofs.YtgcdbcljneoifajDoor.Pic
set_option linter.unusedVariables false
variable {g : G} {all : Int}

theorem iF {α : Type} (a b : α) : (if false = true then a else b) = b := rfl
theorem iT {α : Type} (a b : α) : (if true = true then a else b) = a := rfl
/-- one writes down its gold -/
theorem Inv.write (h : Inv all g) {m : Nat} (hm : m < g.n) (hh : g.has m = false) : Inv all (write { g with begun := true } m) := by
  obtain ⟨g1, eg⟩ : ∃ g1, g1 = Pic.write { g with begun := true } m := ⟨_, rfl⟩
  have hm1 : g1.has m = true := by rw [eg]; exact up_same _ _ _
  have hm2 : ∀ i, i ≠ m → g1.has i = g.has i := fun i q => by rw [eg]; exact up_other _ _ q
  have ew : ∀ i j, g1.way i j = if i = m ∧ j ≠ m ∧ j < g.n then g.way i j ++ [0] else g.way i j := fun _ _ => by rw [eg]; rfl
  have eo : ∀ i j, g1.opn i j = if j = m ∧ i ≠ m ∧ i < g.n then true else g.opn i j := fun _ _ => by rw [eg]; rfl
  have en : g1.n = g.n := by rw [eg]; rfl
  have egd : g1.gold = g.gold := by rw [eg]; rfl
  have ept : g1.part = g.part := by rw [eg]; rfl
  have eow : g1.ow = g.ow := by rw [eg]; rfl
  have ewr : g1.wrote = up g.wrote m (g.gold m) := by rw [eg]; rfl
  have ebg : g1.begun = true := by rw [eg]; rfl
  rw [← eg]
  clear eg
  have nz : ∀ j, j < g.n → j ≠ m → (0 : Int) ∉ g.way m j ∧ g.opn m j = g.has j := fun j hj hne => by
    rcases h.wy m j hm hj (Ne.symm hne) with ⟨_, z, y⟩ | ⟨z, _⟩ | ⟨z, _⟩
    · exact ⟨z, y⟩
    · rw [hh] at z; cases z
    · rw [hh] at z; cases z
  have c0m : ∀ j, cl g m j = false := fun j => by unfold cl; rw [hh]; rfl
  have c0j : ∀ i, cl g i m = false := fun i => by unfold cl; rw [hh]; cases g.has i <;> rfl
  have c1m : ∀ j, j < g.n → j ≠ m → cl g1 m j = false := fun j hj hne => by
    unfold cl
    rw [hm1, hm2 j hne, eo, if_neg (fun z => hne z.1), (nz j hj hne).2]
    cases g.has j <;> rfl
  have c1j : ∀ i, i < g.n → i ≠ m → cl g1 i m = false := fun i hi hne => by
    unfold cl
    rw [eo, if_pos ⟨rfl, hne, hi⟩]
    cases g1.has i <;> cases g1.has m <;> rfl
  have c1o : ∀ i j, i ≠ m → j ≠ m → cl g1 i j = cl g i j := fun i j hi hj => by
    unfold cl
    rw [hm2 i hi, hm2 j hj, eo, if_neg (fun z => hj z.1)]
  have eC : ∀ i j, i < g.n → j < g.n → C g1 i j = C g i j := by
    intro i j hi hj
    unfold C
    rw [ept]
    by_cases e : i = m
    · subst e
      rw [c0m, iF]
      by_cases q : j = i
      · subst q
        have ewd : g1.way j j = g.way j j := by rw [ew, if_neg (fun z => z.2.1 rfl)]
        rw [ewd, (h.diag j).1]
        split <;> rfl
      · rw [c1m j hj q, iF, ew, if_pos ⟨rfl, q, hj⟩, ps_mark]
    · have ewi : g1.way i j = g.way i j := by rw [ew, if_neg (fun z => e z.1)]
      rw [ewi]
      by_cases q : j = m
      · subst q
        rw [c0j, c1j i hi e]
      · rw [c1o i j e q]
  refine { two := by rw [en]; exact h.two, gold := fun i hi => by rw [egd]; exact h.gold i (by rw [← en]; exact hi), pos := fun i j x hx => ?_, len := fun i j => ?_, wy := fun i j hi hj hij => ?_, diag := fun i => ?_, none := fun i j hj => ?_, ppos := fun i j => by rw [ept]; exact h.ppos i j, wpos := fun i hi => ?_, gone := ?_, shown := ?_, cons := ?_, beg := fun _ => ⟨m, by rw [en]; exact hm, hm1⟩, not := fun q => (by rw [ebg] at q; cases q) }
  · rw [ew] at hx
    split at hx
    · rcases List.mem_append.1 hx with q | q
      · exact h.pos i j x q
      · rw [List.mem_singleton.1 q]; omega
    · exact h.pos i j x hx
  · have z := h.len i j
    by_cases e : i = m
    · subst e
      rw [hh, iF] at z
      rw [hm1, iT, ew]
      split
      · rw [List.length_append]; exact Nat.succ_le_succ z
      · omega
    · rw [hm2 i e, ew, if_neg (fun q => e q.1)]
      exact z
  · rw [en] at hi hj
    by_cases e : i = m
    · subst e
      refine .inr (.inl ⟨hm1, ⟨g.way i j, [], ?_, (nz j hj (Ne.symm hij)).1, List.not_mem_nil⟩, ?_⟩)
      · rw [ew, if_pos ⟨rfl, Ne.symm hij, hj⟩]
      · rw [eo, if_neg (fun z => hij z.1.symm), hm2 j (Ne.symm hij)]
        exact (nz j hj (Ne.symm hij)).2
    · have ewi : g1.way i j = g.way i j := by rw [ew, if_neg (fun z => e z.1)]
      by_cases q : j = m
      · subst q
        unfold Wy
        rw [ewi, hm2 i e, hm1, eo, if_pos ⟨rfl, e, hi⟩]
        rcases h.wy i j hi hj hij with ⟨z1, z2, _⟩ | ⟨z1, z2, _⟩ | ⟨z1, z2, _⟩
        · exact .inl ⟨z1, z2, rfl⟩
        · exact .inr (.inl ⟨z1, z2, rfl⟩)
        · rw [hh] at z2; cases z2
      · unfold Wy
        rw [ewi, hm2 i e, hm2 j q, eo, if_neg (fun z => q z.1)]
        exact h.wy i j hi hj hij
  · obtain ⟨z1, z2, z3⟩ := h.diag i
    refine ⟨?_, ?_, by rw [ept]; exact z3⟩
    · rw [ew, if_neg (fun q => q.2.1 q.1)]; exact z1
    · rw [eo, if_neg (fun q => q.2.1 q.1)]; exact z2
  · rw [ept]
    by_cases e : j = m
    · rw [e, hm1] at hj; cases hj
    · rw [hm2 j e] at hj; exact h.none i j hj
  · rw [ewr]
    by_cases e : i = m
    · rw [e, up_same]; exact h.gold m hm
    · rw [up_other _ _ e]; exact h.wpos i (by rw [← en]; exact hi)
  · rw [eow, en, h.gone]
    refine (S2_congr fun i j hi hj => ?_)
    rw [ept]
    by_cases e : i = m
    · subst e
      rw [c0m, iF]
      by_cases q : j = i
      · subst q
        rw [(h.diag j).2.2]; split <;> rfl
      · rw [c1m j hj q, iF]
    · by_cases q : j = m
      · subst q
        rw [c0j, c1j i hi e]
      · rw [c1o i j e q]
  · rw [en, S2_congr eC, S_congr (f := A g) fun i hi => ?_]
    · exact h.shown
    · unfold A
      rw [ewr, egd]
      by_cases e : i = m
      · rw [e, hm1, iT, up_same, hh, iF]
      · rw [hm2 i e, up_other _ _ e]
  · rw [en, egd, S2_congr (f := fun i j => tot (g.way i j)) fun i j hi hj => ?_]
    · exact h.cons
    · show tot (g1.way i j) = tot (g.way i j)
      rw [ew]
      split
      · rw [tot_snoc]; omega
      · rfl
/-- a mark comes to who has written down its gold -/
theorem Inv.mark (h : Inv all g) {a b : Nat} {l : List Int} (ha : a < g.n) (hb : b < g.n) (hab : a ≠ b) (hw : g.way a b = 0 :: l) (hB : g.has b = true) : Inv all (closed (taken g a b) a b) := by
  have m0 : (0 : Int) ∈ g.way a b := by rw [hw]; exact List.mem_cons_self
  have st : g.has a = true ∧ (0 : Int) ∉ l ∧ g.opn a b = true := by
    rcases h.wy a b ha hb hab with ⟨_, z, _⟩ | ⟨z1, ⟨p, q, z2, z4, z5⟩, z3⟩ | ⟨_, _, z, _⟩
    · exact absurd m0 z
    · refine ⟨z1, ?_, z3.trans hB⟩
      rw [hw] at z2
      cases p with
      | nil =>
        simp at z2
        rw [z2]; exact z5
      | cons y p =>
        simp at z2
        exact absurd (by rw [z2.1]; exact List.mem_cons_self) z4
    · exact absurd m0 z
  have ew : ∀ i j, ¬ (i = a ∧ j = b) → (closed (taken g a b) a b).way i j = g.way i j := fun i j q => up2_other _ _ q
  have ewab : (closed (taken g a b) a b).way a b = l := by
    show up2 g.way a b (g.way a b).tail a b = l
    rw [up2_same, hw]
    rfl
  have eo : ∀ i j, ¬ (i = a ∧ j = b) → (closed (taken g a b) a b).opn i j = g.opn i j := fun i j q => up2_other _ _ q
  have eoab : (closed (taken g a b) a b).opn a b = false := up2_same _ _ _ _
  have ecl : ∀ i j, ¬ (i = a ∧ j = b) → cl (closed (taken g a b) a b) i j = cl g i j := fun i j q => by
    unfold cl
    rw [eo i j q]
    rfl
  have eclab : cl (closed (taken g a b) a b) a b = true := by
    show (g.has a && g.has b && !(closed (taken g a b) a b).opn a b) = true
    rw [eoab, st.1, hB]
    rfl
  have c0 : cl g a b = false := by unfold cl; rw [st.2.2]; cases g.has a <;> cases g.has b <;> rfl
  have sub : ∀ y, y ∈ l → y ∈ g.way a b := fun y hy => by rw [hw]; exact List.mem_cons_of_mem _ hy
  refine { two := h.two, gold := h.gold, pos := fun i j y hy => ?_, len := fun i j => ?_, wy := fun i j hi hj hij => ?_, diag := fun i => ?_, none := h.none, ppos := h.ppos, wpos := h.wpos, gone := ?_, shown := ?_, cons := ?_, beg := h.beg, not := h.not }
  · by_cases e : i = a ∧ j = b
    · rw [e.1, e.2, ewab] at hy; exact h.pos a b y (sub y hy)
    · rw [ew i j e] at hy; exact h.pos i j y hy
  · by_cases e : i = a ∧ j = b
    · rw [e.1, e.2, ewab]
      have z := h.len a b
      rw [hw, List.length_cons] at z
      exact Nat.le_trans (Nat.le_succ _) z
    · rw [ew i j e]; exact h.len i j
  · by_cases e : i = a ∧ j = b
    · obtain ⟨rfl, rfl⟩ := e
      exact .inr (.inr ⟨st.1, hB, by rw [ewab]; exact st.2.1, eoab⟩)
    · have z := h.wy i j hi hj hij
      unfold Wy at z ⊢
      rw [ew i j e, eo i j e]
      exact z
  · have z := h.diag i
    have q : ¬ (i = a ∧ i = b) := fun q => hab (q.1.symm.trans q.2)
    rw [ew i i q, eo i i q]
    exact z
  · show g.ow + g.part a b = S2 (fun i j => if cl (closed (taken g a b) a b) i j = true then g.part i j else 0) g.n
    rw [S2_one (f := fun i j => if cl g i j = true then g.part i j else 0) ha hb fun i j _ _ q => by rw [ecl i j q], ← h.gone, eclab, c0]
    simp
  · show S (A g) g.n + S2 (C (closed (taken g a b) a b)) g.n = all
    rw [S2_congr (f := C g) fun i j _ _ => ?_]
    · exact h.shown
    · by_cases e : i = a ∧ j = b
      · obtain ⟨rfl, rfl⟩ := e
        show g.part i j + (if cl (closed (taken g i j) i j) i j = true then 0 else _) = _
        unfold C
        rw [eclab, c0, hw, if_pos rfl, if_neg (by decide)]
        rfl
      · unfold C
        rw [ecl i j e, ew i j e]
        rfl
  · show S g.gold g.n + S2 (fun i j => tot ((closed (taken g a b) a b).way i j)) g.n = all
    rw [S2_congr (f := fun i j => tot (g.way i j)) fun i j _ _ => ?_]
    · exact h.cons
    · show tot ((closed (taken g a b) a b).way i j) = tot (g.way i j)
      by_cases e : i = a ∧ j = b
      · rw [e.1, e.2, ewab, hw]
        show tot l = 0 + tot l
        omega
      · rw [ew i j e]
end Go.Proofs.YtgcdbcljneoifajDoor.Pic
