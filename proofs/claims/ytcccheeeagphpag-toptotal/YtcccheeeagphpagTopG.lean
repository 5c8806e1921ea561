/-
  Plain facts: words that are said one by one, and to which three members give numbers in turn; when all is settled each member heard all, in the order in which they were said.
-/
import Derived.Test.YtcccheeeagphpagMgR
namespace Go.Proofs.Ytcccheeeagphpag.Agr
set_option linter.unusedVariables false
variable {g : G}

/-- words said, and given numbers by all three; the last one by the first so many -/
structure TB (ws : List Nat) (j : Nat) (g : G) : Prop where
  inv : Inv g
  n : g.n = 3
  nd : ws.Nodup
  rng : ∀ x ∈ ws, 1 ≤ x ∧ x ≤ 30
  was : ∀ x, g.was x = true ↔ x ∈ ws
  gv : ∀ i (hi : i < ws.length) m, m < 3 → g.gv ws[i] m = if i + 1 < ws.length ∨ m < j then i + 1 else 0
  most : ∀ m, m < 3 → g.most m = if m < j then ws.length else ws.length - 1
  kn : ∀ v m, g.kn v m = false
theorem TB.begin : TB [] 3 (start 3) :=
  { inv := Inv.start (by decide) (by decide), n := rfl, nd := List.nodup_nil, rng := fun x h => absurd h List.not_mem_nil, was := fun x => ⟨fun h => (by cases h), fun h => absurd h List.not_mem_nil⟩, gv := fun i hi => absurd hi (by simp), most := fun m hm => (by simp [start]), kn := fun v m => rfl }
theorem TB.said {ws : List Nat} (h : TB ws 3 g) {x : Int} (hc : sayC g x = 0) : TB (ws ++ [x.toNat]) 0 (say g x) ∧ (x.toNat : Int) = x := by
  have hr : (1 ≤ x ∧ x ≤ 30) ∧ g.was x.toNat = false := by
    unfold sayC at hc
    split at hc
    · omega
    · split at hc
      · omega
      · rename_i q
        exact ⟨by omega, by simpa using q⟩
  have hx : x.toNat ∉ ws := fun q => by
    have := (h.was _).2 q
    rw [hr.2] at this
    cases this
  have e : say g x = also g x.toNat := if_pos hc
  refine ⟨?_, by omega⟩
  rw [e]
  refine { inv := (by rw [← e]; exact h.inv.say x), n := h.n, nd := ?_, rng := ?_, was := ?_, gv := ?_, most := ?_, kn := h.kn }
  · rw [List.nodup_append]
    refine ⟨h.nd, by simp, fun a ha b hb q => ?_⟩
    rw [List.mem_singleton.1 hb] at q
    exact hx (q ▸ ha)
  · intro y hy
    rcases List.mem_append.1 hy with z | z
    · exact h.rng y z
    · rw [List.mem_singleton.1 z]; omega
  · intro y
    show (if y = x.toNat then true else g.was y) = true ↔ _
    by_cases q : y = x.toNat
    · rw [if_pos q, q]; simp
    · rw [if_neg q, h.was]; simp [q]
  · intro i hi m hm
    rw [List.length_append] at hi
    simp only [List.length_cons, List.length_nil] at hi
    show g.gv (ws ++ [x.toNat])[i] m = _
    rw [List.length_append]
    simp only [List.length_cons, List.length_nil]
    by_cases q : i < ws.length
    · rw [List.getElem_append_left q, h.gv i q m hm, if_pos (.inr hm), if_pos (.inl (by omega))]
    · have ei : i = ws.length := by omega
      subst ei
      rw [List.getElem_append_right (Nat.le_refl _), if_neg (by omega)]
      simp only [Nat.sub_self, List.getElem_cons_zero]
      refine Decidable.byContradiction fun z => ?_
      have := (h.inv.gv _ _ z).1
      rw [hr.2] at this
      cases this
  · intro m hm
    show g.most m = _
    rw [h.most m hm, if_pos hm, if_neg (by omega), List.length_append]
    simp
/-- the next member gives the last word a number -/
theorem TB.given {ws : List Nat} {x j : Nat} (h : TB (ws ++ [x]) j g) (hj : j < 3) : proC g (j : Int) (x : Int) = 0 ∧ TB (ws ++ [x]) (j + 1) (pro g (j : Int) (x : Int)) := by
  have hl : (ws ++ [x]).length = ws.length + 1 := by simp
  have hx : (ws ++ [x])[ws.length]'(by omega) = x := by simp
  have hr := h.rng x (by simp)
  have hw : g.was x = true := (h.was x).2 (by simp)
  have h0 : g.gv x j = 0 := by
    have := h.gv ws.length (by omega) j hj
    rw [hx, if_neg (by omega)] at this
    exact this
  have hck : chkC g (j : Int) (x : Int) = 0 := by
    unfold chkC
    rw [if_neg (by rw [h.n]; omega), Int.toNat_natCast, if_pos hw]
  have hc : proC g (j : Int) (x : Int) = 0 := by
    unfold proC
    rw [hck, if_neg (by decide), Int.toNat_natCast, Int.toNat_natCast, if_neg (fun q => q h0)]
  refine ⟨hc, ?_⟩
  have e : pro g (j : Int) (x : Int) = give g j x := by
    unfold pro
    rw [if_pos hc, Int.toNat_natCast, Int.toNat_natCast]
  have hm : g.most j = ws.length := by rw [h.most j hj, if_neg (by omega), hl]; omega
  rw [e]
  refine { inv := (by rw [← e]; exact h.inv.pro _ _), n := h.n, nd := h.nd, rng := h.rng, was := h.was, gv := ?_, most := ?_, kn := h.kn }
  · intro i hi m hm3
    rw [give_gv]
    by_cases q : (ws ++ [x])[i] = x ∧ m = j
    · rw [if_pos q, hm]
      have ei : i = ws.length := (List.getElem_inj h.nd (h₀ := hi) (h₁ := by omega)).1 (q.1.trans hx.symm)
      rw [if_pos (.inr (by omega)), ei]
    · rw [if_neg q, h.gv i hi m hm3]
      by_cases z : i + 1 < (ws ++ [x]).length ∨ m < j
      · rw [if_pos z, if_pos (by omega)]
      · rw [if_neg z, if_neg]
        rintro (y | y)
        · exact z (.inl y)
        · refine q ⟨?_, by omega⟩
          have ei : i = ws.length := by omega
          subst ei
          exact hx
  · intro m hm3
    show (if m = j then g.most j + 1 else g.most m) = _
    by_cases q : m = j
    · rw [if_pos q, hm, if_pos (by omega), hl]
    · rw [if_neg q, h.most m hm3]
      by_cases z : m < j
      · rw [if_pos z, if_pos (by omega)]
      · rw [if_neg z, if_neg (by omega)]
/-- all words said; settled at the first so many members, and at the next one from a place on -/
structure TC (ws : List Nat) (m i : Nat) (g : G) : Prop where
  inv : Inv g
  n : g.n = 3
  nd : ws.Nodup
  rng : ∀ x ∈ ws, 1 ≤ x ∧ x ≤ 30
  was : ∀ x, g.was x = true ↔ x ∈ ws
  gv : ∀ i (hi : i < ws.length) m, m < 3 → g.gv ws[i] m = i + 1
  kn : ∀ k (hk : k < ws.length) b, g.kn ws[k] b = true ↔ b < m ∨ (b = m ∧ i ≤ k ∧ b < 3)
theorem TB.all {ws : List Nat} (h : TB ws 3 g) : TC ws 0 ws.length g :=
  { inv := h.inv, n := h.n, nd := h.nd, rng := h.rng, was := h.was, gv := fun i hi m hm => (by rw [h.gv i hi m hm, if_pos (.inr hm)]), kn := fun k hk b => ⟨fun q => (by rw [h.kn] at q; cases q), fun q => (by omega)⟩ }
theorem TC.next {ws : List Nat} {m : Nat} (h : TC ws m 0 g) (hm : m < 3) : TC ws (m + 1) ws.length g :=
  { inv := h.inv, n := h.n, nd := h.nd, rng := h.rng, was := h.was, gv := h.gv, kn := fun k hk b => (by rw [h.kn k hk b]; omega) }
theorem TC.gaveAll {ws : List Nat} {m i : Nat} (h : TC ws m i g) {k : Nat} (hk : k < ws.length) : allG g ws[k] = true := allG_iff.2 fun b hb => by rw [h.gv k hk b (by rw [h.n] at hb; exact hb)]; omega
theorem TC.settled {ws : List Nat} {m i : Nat} (h : TC ws m (i + 1) g) (hm : m < 3) (hi : i < ws.length) : setC g (m : Int) (ws[i] : Int) = 0 ∧ TC ws m i (set g (m : Int) (ws[i] : Int)) := by
  have hr := h.rng _ (List.getElem_mem hi)
  have hw : g.was ws[i] = true := (h.was _).2 (List.getElem_mem hi)
  have hck : chkC g (m : Int) (ws[i] : Int) = 0 := by
    unfold chkC
    rw [if_neg (by rw [h.n]; omega), Int.toNat_natCast, if_pos hw]
  have hk0 : g.kn ws[i] m = false := by
    rw [Bool.eq_false_iff]
    intro q
    have := (h.kn i hi m).1 q
    omega
  have hc : setC g (m : Int) (ws[i] : Int) = 0 := by
    unfold setC
    rw [hck, if_neg (by decide), Int.toNat_natCast, Int.toNat_natCast, h.gaveAll hi, if_neg (by decide), hk0, if_neg (by decide)]
  refine ⟨hc, ?_⟩
  have e := set_spec h.inv.toInv0 hc
  have e1 : (set g (m : Int) (ws[i] : Int)).gv = g.gv := by rw [e]; rfl
  have e2 : (set g (m : Int) (ws[i] : Int)).was = g.was := by rw [e]; rfl
  have e3 : ∀ v b, (set g (m : Int) (ws[i] : Int)).kn v b = if v = ws[i] ∧ b = m then true else g.kn v b := fun v b => by rw [e]; show (know g _ _).kn v b = _; rw [know_kn, Int.toNat_natCast, Int.toNat_natCast]
  refine { inv := h.inv.set _ _, n := (by rw [set_n h.inv.toInv0]; exact h.n), nd := h.nd, rng := h.rng, was := (by rw [e2]; exact h.was), gv := (by rw [e1]; exact h.gv), kn := fun k hk b => ?_ }
  rw [e3]
  by_cases q : ws[k] = ws[i] ∧ b = m
  · rw [if_pos q]
    have : k = i := (List.getElem_inj h.nd (h₀ := hk) (h₁ := hi)).1 q.1
    simp
    omega
  · rw [if_neg q, h.kn k hk b]
    have : ¬ (k = i ∧ b = m) := fun z => q ⟨by simp [z.1], z.2⟩
    omega
theorem TC.finOf {ws : List Nat} {m i : Nat} (h : TC ws m i g) {k : Nat} (hk : k < ws.length) : fin g ws[k] = (k + 1, 2) := by
  have e0 := h.gv k hk 0 (by omega)
  have e1 := h.gv k hk 1 (by omega)
  have e2 := h.gv k hk 2 (by omega)
  unfold fin
  rw [h.n]
  simp [finN, e0, e1, e2, les]
/-- all is settled: each heard all, in the order in which they were said -/
theorem TC.heard {ws : List Nat} {i : Nat} (h : TC ws 3 i g) {m : Nat} (hm : m < 3) : g.hd m = ws := by
  have hgv : ∀ w, g.gv w m ≠ 0 ↔ w ∈ ws := fun w => by
    constructor
    · intro q
      exact (h.was w).1 (h.inv.gv w m q).1
    · intro q
      obtain ⟨k, hk, rfl⟩ := List.getElem_of_mem q
      rw [h.gv k hk m hm]
      omega
  have hmem : ∀ w, w ∈ g.hd m ↔ w ∈ ws := fun w => by
    rw [h.inv.heard (by rw [h.n]; exact hm) (fun v q => ?_), hgv]
    obtain ⟨k, hk, rfl⟩ := List.getElem_of_mem ((hgv v).1 q)
    exact (h.kn k hk m).2 (.inl hm)
  have hs : ws.Pairwise fun u v => les (fin g u) (fin g v) = true := by
    rw [List.pairwise_iff_getElem]
    intro a b ha hb hab
    rw [h.finOf ha, h.finOf hb]
    exact les_iff.2 (.inl (by show a + 1 < b + 1; omega))
  have key := prefix_of (R := fun u v => les (fin g u) (fin g v) = true) (fun a q => by rw [les_irr] at q; cases q) (fun a b c => les_trans) (g.hd m) ws (h.inv.sorted m) hs
    (fun a ha b hb => by
      obtain ⟨x, hx, rfl⟩ := List.getElem_of_mem ((hmem a).1 ha)
      obtain ⟨y, hy, rfl⟩ := List.getElem_of_mem hb
      rcases les_or (fin g ws[x]) (fin g ws[y]) with q | q | q
      · exact .inl q
      · rw [h.finOf hx, h.finOf hy] at q
        have : x = y := by simpa using q
        subst this
        exact .inr (.inl rfl)
      · exact .inr (.inr q))
    (fun a ha b hb _ => (hmem b).2 hb) (fun a ha b hb _ => (hmem a).1 ha)
  have l1 : (g.hd m).length ≤ ws.length := sub_len (h.inv.hdN m) fun x hx => (hmem x).1 hx
  have l2 : ws.length ≤ (g.hd m).length := sub_len h.nd fun x hx => (hmem x).2 hx
  rcases key with q | q
  · exact q.eq_of_length (by omega)
  · exact (q.eq_of_length (by omega)).symm
end Go.Proofs.Ytcccheeeagphpag.Agr
