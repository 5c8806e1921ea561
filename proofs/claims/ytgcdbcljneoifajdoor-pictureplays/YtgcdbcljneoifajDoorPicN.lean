/-
  Plain facts on pictures: what always holds, step by step.
-/
import Derived.Test.YtgcdbcljneoifajDoorPicM
namespace Go.Proofs.YtgcdbcljneoifajDoor.Pic
set_option linter.unusedVariables false
variable {g : G} {all : Int}

theorem len_start (l : List Int) (h : newC l = 0) : (2 ≤ l.length ∧ l.length ≤ 5) ∧ ∀ x ∈ l, 0 ≤ x ∧ x ≤ 1000 := by
  unfold newC at h
  split at h
  · cases h
  · rename_i q
    split at h
    · rename_i q2
      exact ⟨by omega, q2⟩
    · cases h
theorem Inv.start {l : List Int} (h : newC l = 0) : Inv (S (fun i => l.getD i 0) l.length) (start l) := by
  obtain ⟨h1, h2⟩ := len_start l h
  have hp : ∀ i, i < l.length → 0 ≤ l.getD i 0 := fun i hi => by
    have e : l.getD i 0 = l[i] := by simp [List.getD, hi]
    rw [e]
    exact (h2 _ (List.getElem_mem hi)).1
  have ec : ∀ i j, cl (Pic.start l) i j = false := fun _ _ => rfl
  refine { two := h1, gold := hp, pos := fun _ _ x hx => absurd hx List.not_mem_nil, len := fun _ _ => (by show 0 ≤ _; exact Nat.zero_le _), wy := fun _ _ _ _ _ => .inl ⟨rfl, List.not_mem_nil, rfl⟩, diag := fun _ => ⟨rfl, rfl, rfl⟩, none := fun _ _ _ => rfl, ppos := fun _ _ => Int.le_refl _, wpos := fun _ _ => Int.le_refl _, gone := ?_, shown := ?_, cons := ?_, beg := fun q => (by cases q), not := fun _ _ => rfl }
  · exact (S2_none fun i j _ _ => by rw [ec]; rfl).symm
  · have e2 : S2 (C (Pic.start l)) (Pic.start l).n = 0 := S2_none fun i j _ _ => by unfold C; rw [ec]; rfl
    rw [e2]
    have e1 : S (A (Pic.start l)) (Pic.start l).n = S (fun i => l.getD i 0) l.length := S_congr fun i _ => rfl
    rw [e1]
    omega
  · have e2 : S2 (fun i j => tot ((Pic.start l).way i j)) (Pic.start l).n = 0 := S2_none fun i j _ _ => rfl
    rw [e2]
    show S (fun i => l.getD i 0) l.length + 0 = _
    omega
theorem mark_len {l p q : List Int} (h : l = p ++ 0 :: q) : (0 : Int) ∈ l := by rw [h]; exact List.mem_append.2 (.inr List.mem_cons_self)
/-- one pays -/
theorem Inv.paid (h : Inv all g) {a b : Nat} {x : Int} (ha : a < g.n) (hb : b < g.n) (hab : a ≠ b) (hx : 1 ≤ x ∧ x ≤ 1000) (hg : x ≤ g.gold a) (hl : (g.way a b).length < 40) : Inv all (paid g a b x) := by
  have ew : ∀ i j, ¬ (i = a ∧ j = b) → (Pic.paid g a b x).way i j = g.way i j := fun i j q => up2_other _ _ q
  have ewab : (Pic.paid g a b x).way a b = g.way a b ++ [x] := up2_same _ _ _ _
  have ecl : ∀ i j, cl (Pic.paid g a b x) i j = cl g i j := fun _ _ => rfl
  have x0 : x ≠ 0 := by omega
  refine { two := h.two, gold := fun i hi => ?_, pos := fun i j y hy => ?_, len := fun i j => ?_, wy := fun i j hi hj hij => ?_, diag := fun i => ?_, none := h.none, ppos := h.ppos, wpos := h.wpos, gone := h.gone, shown := ?_, cons := ?_, beg := h.beg, not := h.not }
  · show 0 ≤ up g.gold a (g.gold a - x) i
    by_cases e : i = a
    · rw [e, up_same]; omega
    · rw [up_other _ _ e]; exact h.gold i hi
  · by_cases e : i = a ∧ j = b
    · rw [e.1, e.2, ewab] at hy
      rcases List.mem_append.1 hy with q | q
      · exact h.pos a b y q
      · rw [List.mem_singleton.1 q]; omega
    · rw [ew i j e] at hy; exact h.pos i j y hy
  · by_cases e : i = a ∧ j = b
    · rw [e.1, e.2, ewab, List.length_append]
      show (g.way a b).length + 1 ≤ if g.has a = true then 41 else 40
      split <;> omega
    · rw [ew i j e]; exact h.len i j
  · by_cases e : i = a ∧ j = b
    · obtain ⟨rfl, rfl⟩ := e
      rcases h.wy i j hi hj hij with ⟨z1, z2, z3⟩ | ⟨z1, ⟨p, q, z2, z4, z5⟩, z3⟩ | ⟨z1, z2, z3, z4⟩
      · refine .inl ⟨z1, ?_, z3⟩
        rw [ewab]
        intro y
        rcases List.mem_append.1 y with k | k
        · exact z2 k
        · exact x0 (List.mem_singleton.1 k).symm
      · refine .inr (.inl ⟨z1, ⟨p, q ++ [x], ?_, z4, ?_⟩, z3⟩)
        · rw [ewab, z2]; simp
        · intro y
          rcases List.mem_append.1 y with k | k
          · exact z5 k
          · exact x0 (List.mem_singleton.1 k).symm
      · refine .inr (.inr ⟨z1, z2, ?_, z4⟩)
        rw [ewab]
        intro y
        rcases List.mem_append.1 y with k | k
        · exact z3 k
        · exact x0 (List.mem_singleton.1 k).symm
    · have z := h.wy i j hi hj hij
      unfold Wy at z ⊢
      rw [ew i j e]
      exact z
  · have z := h.diag i
    rw [ew i i (fun q => hab (q.1.symm.trans q.2))]
    exact z
  · have eA : S (A (Pic.paid g a b x)) g.n = S (A g) g.n + (A (Pic.paid g a b x) a - A g a) := S_one ha fun k hk hne => by
      unfold A
      show (if g.has k = true then g.wrote k else up g.gold a (g.gold a - x) k) = _
      rw [up_other _ _ hne]
    have eC : S2 (C (Pic.paid g a b x)) g.n = S2 (C g) g.n + (C (Pic.paid g a b x) a b - C g a b) := S2_one ha hb fun i j hi hj hne => by
      unfold C
      rw [ew i j hne, ecl]
      rfl
    show S (A (Pic.paid g a b x)) g.n + S2 (C (Pic.paid g a b x)) g.n = all
    rw [eA, eC]
    have key : A (Pic.paid g a b x) a - A g a + (C (Pic.paid g a b x) a b - C g a b) = 0 := by
      have eAa : A (Pic.paid g a b x) a = if g.has a = true then g.wrote a else g.gold a - x := by
        unfold A
        show (if g.has a = true then g.wrote a else up g.gold a (g.gold a - x) a) = _
        rw [up_same]
      have eCa : C (Pic.paid g a b x) a b = g.part a b + if cl g a b = true then 0 else ps (g.way a b ++ [x]) := by
        unfold C
        rw [ecl, ewab]
        rfl
      rw [eAa, eCa]
      unfold A C
      rcases h.wy a b ha hb hab with ⟨z1, z2, z3⟩ | ⟨z1, ⟨p, q, z2, z4, z5⟩, z3⟩ | ⟨z1, z2, z3, z4⟩
      · have hc : cl g a b = false := by unfold cl; rw [z1]; rfl
        rw [z1, hc, ps_snoc z2]
        simp
        omega
      · rw [z1, ps_has (mark_len z2)]
        simp
      · have hc : cl g a b = true := by unfold cl; rw [z1, z2, z4]; rfl
        rw [z1, hc]
        simp
    have := h.shown
    omega
  · have eG : S (Pic.paid g a b x).gold g.n = S g.gold g.n + ((Pic.paid g a b x).gold a - g.gold a) := S_one ha fun k hk hne => up_other _ _ hne
    have eW : S2 (fun i j => tot ((Pic.paid g a b x).way i j)) g.n = S2 (fun i j => tot (g.way i j)) g.n + (tot ((Pic.paid g a b x).way a b) - tot (g.way a b)) := S2_one ha hb fun i j hi hj hne => by rw [ew i j hne]
    show S (Pic.paid g a b x).gold g.n + S2 (fun i j => tot ((Pic.paid g a b x).way i j)) g.n = all
    rw [eG, eW, ewab, tot_snoc]
    have e : (Pic.paid g a b x).gold a = g.gold a - x := up_same _ _ _
    have := h.cons
    omega
/-- gold comes -/
theorem Inv.gain (h : Inv all g) {a b : Nat} {x : Int} {l : List Int} (ha : a < g.n) (hb : b < g.n) (hab : a ≠ b) (hw : g.way a b = x :: l) (hx : 0 < x) : Inv all (gain (taken g a b) a b x) := by
  have x0 : x ≠ 0 := by omega
  have ew : ∀ i j, ¬ (i = a ∧ j = b) → (Pic.gain (taken g a b) a b x).way i j = g.way i j := fun i j q => up2_other _ _ q
  have ewab : (Pic.gain (taken g a b) a b x).way a b = l := by
    show up2 g.way a b (g.way a b).tail a b = l
    rw [up2_same, hw]
    rfl
  have epab : (Pic.gain (taken g a b) a b x).part a b = if g.opn a b = true then g.part a b + x else g.part a b := up2_same _ _ _ _
  have ep : ∀ i j, ¬ (i = a ∧ j = b) → (Pic.gain (taken g a b) a b x).part i j = g.part i j := fun i j q => up2_other _ _ q
  have ecl : ∀ i j, cl (Pic.gain (taken g a b) a b x) i j = cl g i j := fun _ _ => rfl
  have sub : ∀ y, y ∈ l → y ∈ g.way a b := fun y hy => by rw [hw]; exact List.mem_cons_of_mem _ hy
  refine { two := h.two, gold := fun i hi => ?_, pos := fun i j y hy => ?_, len := fun i j => ?_, wy := fun i j hi hj hij => ?_, diag := fun i => ?_, none := fun i j hj => ?_, ppos := fun i j => ?_, wpos := h.wpos, gone := ?_, shown := ?_, cons := ?_, beg := h.beg, not := h.not }
  · show 0 ≤ up g.gold b (g.gold b + x) i
    by_cases e : i = b
    · rw [e, up_same]; have := h.gold b hb; omega
    · rw [up_other _ _ e]; exact h.gold i hi
  · by_cases e : i = a ∧ j = b
    · rw [e.1, e.2, ewab] at hy; exact h.pos a b y (sub y hy)
    · rw [ew i j e] at hy; exact h.pos i j y hy
  · by_cases e : i = a ∧ j = b
    · rw [e.1, e.2, ewab]
      have z := h.len a b
      rw [hw, List.length_cons] at z
      exact Nat.le_trans (Nat.le_succ _) z
    · rw [ew i j e]; exact h.len i j
  · by_cases e : i = a ∧ j = b
    · obtain ⟨rfl, rfl⟩ := e
      rcases h.wy i j hi hj hij with ⟨z1, z2, z3⟩ | ⟨z1, ⟨p, q, z2, z4, z5⟩, z3⟩ | ⟨z1, z2, z3, z4⟩
      · exact .inl ⟨z1, by rw [ewab]; exact fun y => z2 (sub 0 y), z3⟩
      · rw [hw] at z2
        cases p with
        | nil =>
          simp at z2
          exact absurd z2.1 x0
        | cons y p =>
          simp at z2
          refine .inr (.inl ⟨z1, ⟨p, q, by rw [ewab]; exact z2.2, fun k => z4 (List.mem_cons_of_mem _ k), z5⟩, z3⟩)
      · exact .inr (.inr ⟨z1, z2, by rw [ewab]; exact fun y => z3 (sub 0 y), z4⟩)
    · have z := h.wy i j hi hj hij
      unfold Wy at z ⊢
      rw [ew i j e]
      exact z
  · have z := h.diag i
    have q : ¬ (i = a ∧ i = b) := fun q => hab (q.1.symm.trans q.2)
    rw [ew i i q, ep i i q]
    exact z
  · by_cases e : i = a ∧ j = b
    · obtain ⟨rfl, rfl⟩ := e
      have hj' : g.has j = false := hj
      have ho : g.opn i j = false := by
        rcases h.wy i j ha hb hab with ⟨z1, z2, z3⟩ | ⟨z1, _, z3⟩ | ⟨z1, z2, z3, z4⟩
        · rw [z3]; exact hj'
        · rw [z3]; exact hj'
        · exact z4
      rw [epab, ho, if_neg (by decide)]
      exact h.none i j hj'
    · rw [ep i j e]; exact h.none i j hj
  · by_cases e : i = a ∧ j = b
    · rw [e.1, e.2, epab]
      have := h.ppos a b
      split <;> omega
    · rw [ep i j e]; exact h.ppos i j
  · show g.ow = _
    rw [h.gone]
    refine (S2_congr fun i j hi hj => ?_)
    rw [ecl]
    by_cases e : i = a ∧ j = b
    · obtain ⟨rfl, rfl⟩ := e
      rw [epab]
      by_cases q : cl g i j = true
      · have ho : g.opn i j = false := by
          unfold cl at q
          cases k : g.opn i j
          · rfl
          · rw [k] at q; simp at q
        rw [if_pos q, if_pos q, ho, if_neg (by decide)]
      · rw [if_neg q, if_neg q]
    · rw [ep i j e]
  · have eA : S (A (Pic.gain (taken g a b) a b x)) g.n = S (A g) g.n + (A (Pic.gain (taken g a b) a b x) b - A g b) := S_one hb fun k hk hne => by
      unfold A
      show (if g.has k = true then g.wrote k else up g.gold b (g.gold b + x) k) = _
      rw [up_other _ _ hne]
    have eC : S2 (C (Pic.gain (taken g a b) a b x)) g.n = S2 (C g) g.n + (C (Pic.gain (taken g a b) a b x) a b - C g a b) := S2_one ha hb fun i j hi hj hne => by
      unfold C
      rw [ew i j hne, ecl, ep i j hne]
    show S (A (Pic.gain (taken g a b) a b x)) g.n + S2 (C (Pic.gain (taken g a b) a b x)) g.n = all
    rw [eA, eC]
    have key : A (Pic.gain (taken g a b) a b x) b - A g b + (C (Pic.gain (taken g a b) a b x) a b - C g a b) = 0 := by
      have eAa : A (Pic.gain (taken g a b) a b x) b = if g.has b = true then g.wrote b else g.gold b + x := by
        unfold A
        show (if g.has b = true then g.wrote b else up g.gold b (g.gold b + x) b) = _
        rw [up_same]
      have eCa : C (Pic.gain (taken g a b) a b x) a b = (if g.opn a b = true then g.part a b + x else g.part a b) + if cl g a b = true then 0 else ps l := by
        unfold C
        rw [ecl, ewab, epab]
      have eps : ps (g.way a b) = x + ps l := by rw [hw]; show (if x = 0 then 0 else x + ps l) = _; rw [if_neg x0]
      rw [eAa, eCa]
      unfold A C
      rw [eps]
      have hopn : ∀ z : g.opn a b = g.has b, (cl g a b = true → False) := fun z q => by
        unfold cl at q
        rw [z] at q
        cases k : g.has b <;> rw [k] at q <;> simp at q
      rcases h.wy a b ha hb hab with ⟨z1, z2, z3⟩ | ⟨z1, _, z3⟩ | ⟨z1, z2, z3, z4⟩
      · rw [if_neg (fun q => hopn z3 q), if_neg (fun q => hopn z3 q), z3]
        cases k : g.has b <;> simp <;> omega
      · rw [if_neg (fun q => hopn z3 q), if_neg (fun q => hopn z3 q), z3]
        cases k : g.has b <;> simp <;> omega
      · have hc : cl g a b = true := by unfold cl; rw [z1, z2, z4]; rfl
        rw [hc, z2, z4]
        simp
    have := h.shown
    omega
  · have eG : S (Pic.gain (taken g a b) a b x).gold g.n = S g.gold g.n + ((Pic.gain (taken g a b) a b x).gold b - g.gold b) := S_one hb fun k hk hne => up_other _ _ hne
    have eW : S2 (fun i j => tot ((Pic.gain (taken g a b) a b x).way i j)) g.n = S2 (fun i j => tot (g.way i j)) g.n + (tot ((Pic.gain (taken g a b) a b x).way a b) - tot (g.way a b)) := S2_one ha hb fun i j hi hj hne => by rw [ew i j hne]
    show S (Pic.gain (taken g a b) a b x).gold g.n + S2 (fun i j => tot ((Pic.gain (taken g a b) a b x).way i j)) g.n = all
    rw [eG, eW, ewab, hw]
    have e : (Pic.gain (taken g a b) a b x).gold b = g.gold b + x := up_same _ _ _
    have e2 : tot (x :: l) = x + tot l := rfl
    have := h.cons
    omega
end Go.Proofs.YtgcdbcljneoifajDoor.Pic
