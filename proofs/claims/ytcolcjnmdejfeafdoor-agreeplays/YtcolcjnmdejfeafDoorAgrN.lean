/-
  Plain facts on a group in which all give a word a number: a stamp that is learnt, what is heard by that; one order for all; all heard all.
-/
import Derived.Test.YtcolcjnmdejfeafDoorAgrM
namespace Go.Proofs.YtcolcjnmdejfeafDoor.Agr
set_option linter.unusedVariables false
variable {g : G}

/-! a stamp is learnt -/
theorem know_fin (g : G) (m w v : Nat) : fin (know g m w) v = fin g v := finN_congr (g := g) (g' := know g m w) _ fun _ _ => rfl
theorem know_kn {m w v i : Nat} : (know g m w).kn v i = if v = w ∧ i = m then true else g.kn v i := rfl
theorem know_most {m w i : Nat} : (know g m w).most i = if i = m then max (g.most m) (fin g w).1 else g.most i := rfl
theorem know_ts {m w i v : Nat} (h : ¬ (v = w ∧ i = m)) : ts (know g m w) i v = ts g i v := by
  unfold ts
  rw [know_kn, if_neg h, know_fin]
  rfl
theorem know_ts_self (g : G) (m w : Nat) : ts (know g m w) m w = fin g w := by
  have e : (know g m w).kn w m = true := by rw [know_kn, if_pos ⟨rfl, rfl⟩]
  unfold ts
  rw [if_pos e, know_fin]
theorem know_wts (g : G) (m w i v : Nat) : wts (know g m w) i v = wts g i v := rfl
theorem Inv0.know (h : Inv0 g) {m w : Nat} (hm : m < g.n) (ha : allG g w = true) (h0 : g.kn w m = false) : Inv0 (know g m w) :=
  { two := h.two, five := h.five, was := h.was, gv := h.gv
    kn := fun v i q => (by
      rw [know_kn] at q
      split at q
      · rename_i e
        rw [e.1, e.2]
        exact ⟨ha, hm⟩
      · exact h.kn v i q)
    gvM := fun v i => (by
      rw [know_most]
      have := h.gvM v i
      split
      · rename_i e
        rw [e] at this ⊢
        exact Nat.le_trans this (Nat.le_max_left _ _)
      · exact this)
    knM := fun v i q => (by
      rw [know_most, know_fin]
      rw [know_kn] at q
      split at q
      · rename_i e
        rw [e.1, if_pos e.2]
        exact Nat.le_max_right _ _
      · have := h.knM v i q
        split
        · rename_i e
          rw [e] at this
          exact Nat.le_trans this (Nat.le_max_left _ _)
        · exact this)
    one := h.one
    hd := fun i v q => (by
      rw [know_kn]
      split
      · rfl
      · exact h.hd i v q)
    sorted := fun i => (h.sorted i).imp fun {u v} q => (by rw [know_fin, know_fin]; exact q)
    first := fun i u v hu hv => (by
      rw [know_fin]
      have q := h.first i u v hu hv
      by_cases e : v = w ∧ i = m
      · obtain ⟨rfl, rfl⟩ := e
        rw [know_ts_self]
        rcases h.ts_le (w := v) hm with a | a
        · rw [← a]; exact q
        · exact les_trans q a
      · rw [know_ts e]
        exact q) }
theorem Still.know {m w i : Nat} (h : Still g i) (hi : i ≠ m) : Still (know g m w) i := fun v hv kv => by
  have ne : ∀ x, ¬ (x = w ∧ i = m) := fun x q => hi q.2
  rw [know_kn, if_neg (ne v)] at kv
  obtain ⟨u, a, b, c⟩ := h v hv kv
  exact ⟨u, a, by rw [know_kn, if_neg (ne u)]; exact b, by rw [know_ts (ne u), know_ts (ne v)]; exact c⟩

/-! one is heard -/
theorem hear_hd {m b i : Nat} : (hear g m b).hd i = if i = m then g.hd m ++ [b] else g.hd i := rfl
theorem hear_fin (g : G) (m b v : Nat) : fin (hear g m b) v = fin g v := finN_congr (g := g) (g' := hear g m b) _ fun _ _ => rfl
theorem hear_ts (g : G) (m b i v : Nat) : ts (hear g m b) i v = ts g i v := by
  unfold ts
  rw [hear_fin]
  rfl
theorem hear_wts {m b i v : Nat} : wts (hear g m b) i v = true ↔ wts g i v = true ∧ ¬ (i = m ∧ v = b) := by
  rw [wts_iff, wts_iff, hear_hd]
  show g.gv v i ≠ 0 ∧ _ ↔ _
  by_cases e : i = m
  · subst e
    rw [if_pos rfl]
    simp
    constructor
    · rintro ⟨a, b, c⟩
      exact ⟨⟨a, b⟩, c⟩
    · rintro ⟨⟨a, b⟩, c⟩
      exact ⟨a, b, c⟩
  · rw [if_neg e]
    simp [e]
theorem Inv0.hear (h : Inv0 g) {m : Nat} (hb : best g m 30 ≠ 0) (hk : g.kn (best g m 30) m = true) : Inv0 (hear g m (best g m 30)) := by
  have hw := best_wts (g := g) 30 hb
  have hts : ts g m (best g m 30) = fin g (best g m 30) := if_pos hk
  have hl : ∀ v, wts g m v = true → v ≠ best g m 30 → les (fin g (best g m 30)) (ts g m v) = true := fun v hv hne => by
    obtain ⟨a, b, _⟩ := h.wtsR hv
    rcases best_least h 30 v a b hv with q | q
    · exact absurd q hne
    · rw [hts] at q
      exact q
  generalize best g m 30 = b at *
  exact
  { two := h.two, five := h.five, was := h.was, gv := h.gv, kn := h.kn, gvM := h.gvM
    knM := fun v i q => (by rw [hear_fin]; exact h.knM v i q)
    one := h.one
    hd := fun i v q => (by
      rw [hear_hd] at q
      split at q
      · rename_i e
        rw [e]
        rcases List.mem_append.1 q with a | a
        · exact h.hd m v a
        · rw [List.mem_singleton.1 a]; exact hk
      · exact h.hd i v q)
    sorted := fun i => (by
      rw [hear_hd]
      have q : ∀ j, (g.hd j).Pairwise fun u v => les (fin (Agr.hear g m b) u) (fin (Agr.hear g m b) v) = true := fun j => (h.sorted j).imp fun {u v} q => (by rw [hear_fin, hear_fin]; exact q)
      split
      · rw [List.pairwise_append]
        refine ⟨q m, by simp, fun u hu v hv => ?_⟩
        rw [List.mem_singleton.1 hv, hear_fin, hear_fin, ← hts]
        exact h.first m u b hu hw
      · exact q i)
    first := fun i u v hu hv => (by
      obtain ⟨a, c⟩ := hear_wts.1 hv
      rw [hear_fin, hear_ts]
      rw [hear_hd] at hu
      split at hu
      · rename_i e
        subst e
        rcases List.mem_append.1 hu with q | q
        · exact h.first i u v q a
        · rw [List.mem_singleton.1 q]
          exact hl v a (fun e => c ⟨rfl, e⟩)
      · exact h.first i u v hu a) }
theorem Still.hear {m b i : Nat} (h : Still g i) (hi : i ≠ m) : Still (hear g m b) i := fun v hv kv => by
  obtain ⟨u, a, c, d⟩ := h v (hear_wts.1 hv).1 kv
  exact ⟨u, hear_wts.2 ⟨a, fun q => hi q.1⟩, c, by rw [hear_ts, hear_ts]; exact d⟩
/-- where the least is not settled nobody waits for one that is -/
theorem Inv0.stop (h : Inv0 g) {m : Nat} (hs : ¬ (best g m 30 ≠ 0 ∧ g.kn (best g m 30) m = true)) : Still g m := fun v hv kv => by
  obtain ⟨a, b, _⟩ := h.wtsR hv
  have hb : best g m 30 ≠ 0 := fun z => by
    have := best_none 30 z v a b
    rw [hv] at this
    cases this
  have hk : g.kn (best g m 30) m = false := by
    rw [Bool.eq_false_iff]
    exact fun q => hs ⟨hb, q⟩
  refine ⟨best g m 30, best_wts 30 hb, hk, ?_⟩
  rcases best_least h 30 v a b hv with q | q
  · rw [← q, kv] at hk; cases hk
  · exact q

/-! as long as the least is settled -/
theorem run_stop {m : Nat} (hs : ¬ (best g m 30 ≠ 0 ∧ g.kn (best g m 30) m = true)) : run m g = ([], g) := by
  unfold run
  cases 31 - (g.hd m).length with
  | zero => rfl
  | succ f => unfold drain; rw [if_neg hs]
theorem run_go (h : Inv0 g) {m : Nat} (hb : best g m 30 ≠ 0) (hk : g.kn (best g m 30) m = true) : run m g = (best g m 30 :: (run m (hear g m (best g m 30))).1, (run m (hear g m (best g m 30))).2) := by
  have hl := h.hd30 m
  have e1 : 31 - (g.hd m).length = (30 - (g.hd m).length) + 1 := by omega
  have e2 : 31 - ((hear g m (best g m 30)).hd m).length = 30 - (g.hd m).length := by
    rw [hear_hd, if_pos rfl, List.length_append]
    simp
  unfold run
  rw [e1, e2]
  show drain m ((30 - (g.hd m).length) + 1) g = _
  rw [drain, if_pos ⟨hb, hk⟩]
/-- what comes of it -/
theorem drain_spec (m : Nat) : ∀ (f : Nat) (g : G), Inv0 g → 31 - (g.hd m).length ≤ f →
    Inv0 (drain m f g).2 ∧ Still (drain m f g).2 m ∧ (∀ i, i ≠ m → Still g i → Still (drain m f g).2 i) ∧
    (drain m f g).2 = { g with hd := fun i => if i = m then g.hd m ++ (drain m f g).1 else g.hd i } := by
  intro f
  induction f with
  | zero =>
    intro g h hf
    have := h.hd30 m
    omega
  | succ f ih =>
    intro g h hf
    by_cases hs : best g m 30 ≠ 0 ∧ g.kn (best g m 30) m = true
    · have e : drain m (f + 1) g = (best g m 30 :: (drain m f (hear g m (best g m 30))).1, (drain m f (hear g m (best g m 30))).2) := by
        rw [drain, if_pos hs]
      obtain ⟨i1, i2, i3, i4⟩ := ih (hear g m (best g m 30)) (h.hear hs.1 hs.2) (by rw [hear_hd, if_pos rfl, List.length_append]; simp; omega)
      rw [e]
      refine ⟨i1, i2, fun i hi q => i3 i hi (q.hear hi), ?_⟩
      show (drain m f (hear g m (best g m 30))).2 = _
      rw [i4]
      show G.mk _ _ _ _ _ _ = G.mk _ _ _ _ _ _
      congr 1
      funext i
      by_cases q : i = m
      · rw [if_pos q, if_pos q, hear_hd, if_pos rfl]
        simp
      · rw [if_neg q, if_neg q, hear_hd, if_neg q]
    · have e : drain m (f + 1) g = ([], g) := by
        rw [drain, if_neg hs]
      rw [e]
      refine ⟨h, h.stop hs, fun i _ q => q, ?_⟩
      show g = G.mk _ _ _ _ _ _
      have : (fun i => if i = m then g.hd m ++ [] else g.hd i) = g.hd := by
        funext i
        by_cases q : i = m
        · rw [if_pos q, q]; simp
        · rw [if_neg q]
      rw [this]
theorem setC_ok {who word : Int} (h : setC g who word = 0) : (0 ≤ who ∧ who < (g.n : Int)) ∧ (1 ≤ word ∧ word ≤ 30) ∧ g.was word.toNat = true ∧ allG g word.toNat = true ∧ g.kn word.toNat who.toNat = false := by
  unfold setC at h
  split at h
  · omega
  · rename_i hc
    have hc' : chkC g who word = 0 := Decidable.byContradiction hc
    unfold chkC at hc'
    split at hc'
    · omega
    · split at hc'
      · rename_i q2
        split at h
        · omega
        · rename_i q3
          split at h
          · omega
          · rename_i q4
            exact ⟨by omega, by omega, q2, by simpa using q3, by simpa using q4⟩
      · omega
theorem proC_ok {who word : Int} (h : proC g who word = 0) : (0 ≤ who ∧ who < (g.n : Int)) ∧ (1 ≤ word ∧ word ≤ 30) ∧ g.was word.toNat = true ∧ g.gv word.toNat who.toNat = 0 := by
  unfold proC at h
  split at h
  · omega
  · rename_i hc
    have hc' : chkC g who word = 0 := Decidable.byContradiction hc
    unfold chkC at hc'
    split at hc'
    · omega
    · split at hc'
      · rename_i q2
        split at h
        · omega
        · rename_i q3
          exact ⟨by omega, by omega, q2, Decidable.byContradiction q3⟩
      · omega
theorem Inv.pro (h : Inv g) (who word : Int) : Inv (pro g who word) := by
  unfold Agr.pro
  split
  · rename_i hc
    obtain ⟨a, b, c, d⟩ := proC_ok hc
    exact h.give (by omega) c d
  · exact h
theorem set_eq {who word : Int} (hc : setC g who word = 0) : set g who word = (run who.toNat (know g who.toNat word.toNat)).2 ∧ setO g who word = (run who.toNat (know g who.toNat word.toNat)).1 := ⟨if_pos hc, if_pos hc⟩
theorem Inv.set (h : Inv g) (who word : Int) : Inv (set g who word) := by
  unfold Agr.set
  split
  · rename_i hc
    obtain ⟨a, b, c, d, e⟩ := setC_ok hc
    have hm : who.toNat < g.n := by omega
    have hk := h.toInv0.know hm d e
    obtain ⟨i1, i2, i3, i4⟩ := drain_spec who.toNat _ _ hk (Nat.le_refl _)
    refine { toInv0 := i1, still := fun i hi => ?_ }
    by_cases q : i = who.toNat
    · rw [q]; exact i2
    · refine i3 i q ((h.still i ?_).know q)
      have : (drain who.toNat (31 - ((Agr.know g who.toNat word.toNat).hd who.toNat).length) (Agr.know g who.toNat word.toNat)).2.n = g.n := by rw [i4]; rfl
      have hi' : i < (drain who.toNat (31 - ((Agr.know g who.toNat word.toNat).hd who.toNat).length) (Agr.know g who.toNat word.toNat)).2.n := hi
      rw [this] at hi'
      exact hi'
  · exact h
/-- what a settled word turns, and what it leaves -/
theorem set_spec (h : Inv0 g) {who word : Int} (hc : setC g who word = 0) : set g who word = { know g who.toNat word.toNat with hd := fun i => if i = who.toNat then g.hd who.toNat ++ setO g who word else g.hd i } := by
  obtain ⟨a, b, c, d, e⟩ := setC_ok hc
  have hk := h.know (show who.toNat < g.n by omega) d e
  obtain ⟨i1, i2, i3, i4⟩ := drain_spec who.toNat _ _ hk (Nat.le_refl _)
  rw [(set_eq hc).1, (set_eq hc).2]
  exact i4
theorem set_n (h : Inv0 g) (who word : Int) : (set g who word).n = g.n := by
  by_cases hc : setC g who word = 0
  · rw [set_spec h hc]; rfl
  · unfold Agr.set; rw [if_neg hc]
theorem pro_n (g : G) (who word : Int) : (pro g who word).n = g.n := by
  unfold pro
  split <;> rfl
theorem say_n (g : G) (word : Int) : (say g word).n = g.n := by
  unfold say
  split <;> rfl

/-! one order for all -/
theorem prefix_of {R : Nat → Nat → Prop} (irr : ∀ a, ¬ R a a) (tr : ∀ a b c, R a b → R b c → R a c) : ∀ (A B : List Nat), A.Pairwise R → B.Pairwise R → (∀ a ∈ A, ∀ b ∈ B, R a b ∨ a = b ∨ R b a) → (∀ a ∈ A, ∀ b ∈ B, R b a → b ∈ A) → (∀ a ∈ A, ∀ b ∈ B, R a b → a ∈ B) → A <+: B ∨ B <+: A := by
  intro A
  induction A with
  | nil => intro B _ _ _ _ _; exact .inl (List.nil_prefix ..)
  | cons a A ih =>
    intro B hA hB ht h1 h2
    cases B with
    | nil => exact .inr (List.nil_prefix ..)
    | cons b B =>
      rw [List.pairwise_cons] at hA hB
      have e : a = b := by
        rcases ht a (List.mem_cons_self ..) b (List.mem_cons_self ..) with q | q | q
        · rcases List.mem_cons.1 (h2 a (List.mem_cons_self ..) b (List.mem_cons_self ..) q) with z | z
          · exact z
          · exact absurd (tr _ _ _ q (hB.1 a z)) (irr _)
        · exact q
        · rcases List.mem_cons.1 (h1 a (List.mem_cons_self ..) b (List.mem_cons_self ..) q) with z | z
          · exact z.symm
          · exact absurd (tr _ _ _ q (hA.1 b z)) (irr _)
      subst e
      have key := ih B hA.2 hB.2 (fun x hx y hy => ht x (List.mem_cons_of_mem _ hx) y (List.mem_cons_of_mem _ hy))
        (fun x hx y hy q => by
          rcases List.mem_cons.1 (h1 x (List.mem_cons_of_mem _ hx) y (List.mem_cons_of_mem _ hy) q) with z | z
          · rw [z] at hy; exact absurd (hB.1 a hy) (irr _)
          · exact z)
        (fun x hx y hy q => by
          rcases List.mem_cons.1 (h2 x (List.mem_cons_of_mem _ hx) y (List.mem_cons_of_mem _ hy) q) with z | z
          · rw [z] at hx; exact absurd (hA.1 a hx) (irr _)
          · exact z)
      rcases key with q | q
      · exact .inl (List.cons_prefix_cons.2 ⟨rfl, q⟩)
      · exact .inr (List.cons_prefix_cons.2 ⟨rfl, q⟩)
theorem Inv0.down (h : Inv0 g) {m k u v : Nat} (hu : u ∈ g.hd m) (hv : v ∈ g.hd k) (hl : les (fin g v) (fin g u) = true) : v ∈ g.hd m := by
  refine Decidable.byContradiction fun hn => ?_
  have kv := h.kn v k (h.hd k v hv)
  have ku := h.kn u m (h.hd m u hu)
  have hw : wts g m v = true := wts_iff.2 ⟨allG_iff.1 kv.1 m ku.2, hn⟩
  have q := h.first m u v hu hw
  rcases h.ts_le (w := v) ku.2 with a | a
  · rw [a] at q
    have := les_trans q hl
    rw [les_irr] at this
    cases this
  · have := les_trans (les_trans q a) hl
    rw [les_irr] at this
    cases this
/-- what one heard is the beginning of what the other one heard, or the other way round -/
theorem Inv0.alike (h : Inv0 g) (m k : Nat) : g.hd m <+: g.hd k ∨ g.hd k <+: g.hd m := by
  refine prefix_of (R := fun u v => les (fin g u) (fin g v) = true) (fun a q => by rw [les_irr] at q; cases q) (fun a b c => les_trans) _ _ (h.sorted m) (h.sorted k) (fun a ha b hb => ?_) (fun a ha b hb q => h.down ha hb q) (fun a ha b hb q => h.down hb ha q)
  rcases les_or (fin g a) (fin g b) with q | q | q
  · exact .inl q
  · exact .inr (.inl (h.fin_one (h.kn a m (h.hd m a ha)).1 (h.kn b k (h.hd k b hb)).1 q))
  · exact .inr (.inr q)
/-- where all that a member gave a number are settled, all these were heard -/
theorem Inv.heard (h : Inv g) {m : Nat} (hm : m < g.n) (hk : ∀ w, g.gv w m ≠ 0 → g.kn w m = true) (w : Nat) : w ∈ g.hd m ↔ g.gv w m ≠ 0 := by
  constructor
  · intro q
    have := h.kn w m (h.hd m w q)
    exact allG_iff.1 this.1 m this.2
  · intro q
    refine Decidable.byContradiction fun hn => ?_
    obtain ⟨u, a, b, _⟩ := h.still m hm w (wts_iff.2 ⟨q, hn⟩) (hk w q)
    rw [hk u (wts_iff.1 a).1] at b
    cases b
theorem sub_len {l l' : List Nat} (hn : l.Nodup) (hs : ∀ x ∈ l, x ∈ l') : l.length ≤ l'.length := by
  induction l generalizing l' with
  | nil => simp
  | cons a l ih =>
    rw [List.nodup_cons] at hn
    have ha : a ∈ l' := hs a (List.mem_cons_self ..)
    have h1 := List.length_erase_of_mem ha
    have h2 : l.length ≤ (l'.erase a).length := ih hn.2 fun x hx => (List.mem_erase_of_ne (show x ≠ a from fun e => hn.1 (by rw [← e]; exact hx))).2 (hs x (List.mem_cons_of_mem _ hx))
    have : 0 < l'.length := List.length_pos_of_mem ha
    simp
    omega
/-- how many of the first so many words were said -/
def cnt (g : G) : Nat → Nat
  | 0 => 0
  | k + 1 => cnt g k + (g.was (k + 1)).toNat
def sd (g : G) : Nat → List Nat
  | 0 => []
  | k + 1 => if g.was (k + 1) = true then (k + 1) :: sd g k else sd g k
theorem sd_len (g : G) (k : Nat) : (sd g k).length = cnt g k := by
  induction k with
  | zero => rfl
  | succ k ih =>
    unfold sd cnt
    cases q : g.was (k + 1) <;> simp [ih]
theorem sd_mem {k w : Nat} : w ∈ sd g k ↔ (1 ≤ w ∧ w ≤ k) ∧ g.was w = true := by
  induction k with
  | zero => simp [sd]; omega
  | succ k ih =>
    unfold sd
    cases q : g.was (k + 1)
    · rw [if_neg (by decide), ih]
      constructor
      · rintro ⟨a, b⟩; exact ⟨by omega, b⟩
      · rintro ⟨a, b⟩
        have : w ≠ k + 1 := fun e => by rw [e, q] at b; cases b
        exact ⟨by omega, b⟩
    · rw [if_pos rfl, List.mem_cons, ih]
      constructor
      · rintro (rfl | ⟨a, b⟩)
        · exact ⟨by omega, q⟩
        · exact ⟨by omega, b⟩
      · rintro ⟨a, b⟩
        by_cases e : w = k + 1
        · exact .inl e
        · exact .inr ⟨by omega, b⟩
theorem sd_nodup (g : G) (k : Nat) : (sd g k).Nodup := by
  induction k with
  | zero => exact List.nodup_nil
  | succ k ih =>
    unfold sd
    split
    · rw [List.nodup_cons]
      exact ⟨fun q => by have := (sd_mem.1 q).1; omega, ih⟩
    · exact ih
/-- all heard all -/
theorem Inv.all (h : Inv g) {m : Nat} (hm : m < g.n) (hg : ∀ w, g.was w = true → g.gv w m ≠ 0) (hk : ∀ w, g.gv w m ≠ 0 → g.kn w m = true) : (g.hd m).length = cnt g 30 := by
  have e := h.heard hm hk
  rw [← sd_len]
  refine Nat.le_antisymm (sub_len (h.hdN m) fun x hx => ?_) (sub_len (sd_nodup g 30) fun x hx => ?_)
  · have q := (h.gv x m ((e x).1 hx)).1
    exact sd_mem.2 ⟨h.was x q, q⟩
  · exact (e x).2 (hg x (sd_mem.1 hx).2)
end Go.Proofs.YtcolcjnmdejfeafDoor.Agr
