/-
  Plain facts on a group in which all give a word a number, and the greatest counts: what is refused, what is heard; what always holds.
-/
import Derived.WalkKit
namespace Go.Proofs.YtcolcjnmdejfeafDoor.Agr
set_option linter.unusedVariables false

/-- a stamp: a number, and who gave it -/
abbrev St := Nat × Nat
def les (a b : St) : Bool := decide (a.1 < b.1) || (decide (a.1 = b.1) && decide (a.2 < b.2))
theorem les_iff {a b : St} : les a b = true ↔ a.1 < b.1 ∨ (a.1 = b.1 ∧ a.2 < b.2) := by simp [les]
theorem les_irr (a : St) : les a a = false := by
  rw [Bool.eq_false_iff]
  intro h
  have := les_iff.1 h
  omega
theorem les_trans {a b c : St} (h : les a b = true) (h' : les b c = true) : les a c = true := by
  rw [les_iff] at *
  omega
theorem les_or (a b : St) : les a b = true ∨ a = b ∨ les b a = true := by
  rcases Nat.lt_trichotomy a.1 b.1 with h | h | h
  · exact .inl (les_iff.2 (.inl h))
  · rcases Nat.lt_trichotomy a.2 b.2 with h2 | h2 | h2
    · exact .inl (les_iff.2 (.inr ⟨h, h2⟩))
    · exact .inr (.inl (Prod.ext h h2))
    · exact .inr (.inr (les_iff.2 (.inr ⟨h.symm, h2⟩)))
  · exact .inr (.inr (les_iff.2 (.inl h)))
theorem les_not {a b : St} (h : les a b = false) : a = b ∨ les b a = true := by
  rcases les_or a b with q | q | q
  · rw [h] at q; cases q
  · exact .inl q
  · exact .inr q

/-- a group: of how many; which words were said; which number a member gave a word (0: none); does it know the stamp; the greatest number; what was heard -/
structure G where
  n : Nat
  was : Nat → Bool
  gv : Nat → Nat → Nat
  kn : Nat → Nat → Bool
  most : Nat → Nat
  hd : Nat → List Nat
def start (n : Nat) : G := ⟨n, fun _ => false, fun _ _ => 0, fun _ _ => false, fun _ => 0, fun _ => []⟩
variable {g : G}
/-- the greatest stamp of the first so many -/
def finN (g : G) (w : Nat) : Nat → St
  | 0 => (0, 0)
  | k + 1 => if les (finN g w k) (g.gv w k, k) = true then (g.gv w k, k) else finN g w k
def fin (g : G) (w : Nat) : St := finN g w g.n
def allG (g : G) (w : Nat) : Bool := (List.range g.n).all fun i => decide (g.gv w i ≠ 0)
theorem allG_iff {w : Nat} : allG g w = true ↔ ∀ i, i < g.n → g.gv w i ≠ 0 := by simp [allG]
/-- the stamp by which a word waits -/
def ts (g : G) (m w : Nat) : St := if g.kn w m = true then fin g w else (g.gv w m, m)
def wts (g : G) (m w : Nat) : Bool := decide (g.gv w m ≠ 0) && !(g.hd m).contains w
theorem wts_iff {m w : Nat} : wts g m w = true ↔ g.gv w m ≠ 0 ∧ w ∉ g.hd m := by simp [wts]
/-- of the first so many words the one that waits by the least stamp (0: none) -/
def best (g : G) (m : Nat) : Nat → Nat
  | 0 => 0
  | k + 1 => if wts g m (k + 1) = true ∧ (best g m k = 0 ∨ les (ts g m (k + 1)) (ts g m (best g m k)) = true) then k + 1 else best g m k
/-- one is heard -/
def hear (g : G) (m b : Nat) : G := { g with hd := fun i => if i = m then g.hd m ++ [b] else g.hd i }
/-- those that wait are heard, as long as the least is settled -/
def drain (m : Nat) : Nat → G → List Nat × G
  | 0, g => ([], g)
  | f + 1, g => if best g m 30 ≠ 0 ∧ g.kn (best g m 30) m = true then (best g m 30 :: (drain m f (hear g m (best g m 30))).1, (drain m f (hear g m (best g m 30))).2) else ([], g)
def run (m : Nat) (g : G) : List Nat × G := drain m (31 - (g.hd m).length) g

/-! what is wrong -/
def chkC (g : G) (who word : Int) : Int := if who < 0 ∨ (g.n : Int) ≤ who ∨ word < 1 ∨ 30 < word then 1 else if g.was word.toNat = true then 0 else 5
def sayC (g : G) (word : Int) : Int := if word < 1 ∨ 30 < word then 1 else if g.was word.toNat = true then 7 else 0
def say (g : G) (word : Int) : G := if sayC g word = 0 then { g with was := fun w => if w = word.toNat then true else g.was w } else g
def proC (g : G) (who word : Int) : Int := if chkC g who word ≠ 0 then chkC g who word else if g.gv word.toNat who.toNat ≠ 0 then 7 else 0
def proS (g : G) (who word : Int) : St := if proC g who word = 0 then (g.most who.toNat + 1, who.toNat) else (0, 0)
def give (g : G) (m w : Nat) : G := { g with gv := fun v i => if v = w ∧ i = m then g.most m + 1 else g.gv v i, most := fun i => if i = m then g.most m + 1 else g.most i }
def pro (g : G) (who word : Int) : G := if proC g who word = 0 then give g who.toNat word.toNat else g
def setC (g : G) (who word : Int) : Int := if chkC g who word ≠ 0 then chkC g who word else if allG g word.toNat = false then 6 else if g.kn word.toNat who.toNat = true then 7 else 0
def know (g : G) (m w : Nat) : G := { g with kn := fun v i => if v = w ∧ i = m then true else g.kn v i, most := fun i => if i = m then max (g.most m) (fin g w).1 else g.most i }
def setO (g : G) (who word : Int) : List Nat := if setC g who word = 0 then (run who.toNat (know g who.toNat word.toNat)).1 else []
def set (g : G) (who word : Int) : G := if setC g who word = 0 then (run who.toNat (know g who.toNat word.toNat)).2 else g
def hdC (g : G) (who : Int) : Int := if who < 0 ∨ (g.n : Int) ≤ who then 1 else 0
def hdL (g : G) (who : Int) : List Nat := if hdC g who = 0 then g.hd who.toNat else []

/-! the greatest stamp -/
theorem finN_ge {w : Nat} : ∀ (k i : Nat), i < k → finN g w k = (g.gv w i, i) ∨ les (g.gv w i, i) (finN g w k) = true := by
  intro k
  induction k with
  | zero => intro i hi; omega
  | succ k ih =>
    intro i hi
    unfold finN
    by_cases h : les (finN g w k) (g.gv w k, k) = true
    · rw [if_pos h]
      by_cases e : i = k
      · subst e; exact .inl rfl
      · right
        rcases ih i (by omega) with q | q
        · rw [← q]; exact h
        · exact les_trans q h
    · rw [if_neg h]
      by_cases e : i = k
      · subst e
        rcases les_not (by simpa using h) with q | q
        · exact .inl q
        · exact .inr q
      · exact ih i (by omega)
theorem finN_at {w : Nat} : ∀ k, 0 < k → (∀ i, i < k → g.gv w i ≠ 0) → ∃ i, i < k ∧ finN g w k = (g.gv w i, i) := by
  intro k
  induction k with
  | zero => intro h; omega
  | succ k ih =>
    intro _ hg
    unfold finN
    by_cases h : les (finN g w k) (g.gv w k, k) = true
    · exact ⟨k, by omega, if_pos h⟩
    · rw [if_neg h]
      by_cases hk : k = 0
      · subst hk
        exfalso
        apply h
        have := hg 0 (by omega)
        exact les_iff.2 (.inl (by show 0 < g.gv w 0; omega))
      · obtain ⟨i, hi, e⟩ := ih (by omega) (fun i hi => hg i (by omega))
        exact ⟨i, by omega, e⟩
theorem finN_congr {g g' : G} {w : Nat} : ∀ k, (∀ i, i < k → g'.gv w i = g.gv w i) → finN g' w k = finN g w k := by
  intro k
  induction k with
  | zero => intro _; rfl
  | succ k ih =>
    intro h
    unfold finN
    rw [ih (fun i hi => h i (by omega)), h k (by omega)]
/-- what always holds, but that nobody waits for one that is settled -/
structure Inv0 (g : G) : Prop where
  two : 2 ≤ g.n
  five : g.n ≤ 5
  was : ∀ w, g.was w = true → 1 ≤ w ∧ w ≤ 30
  gv : ∀ w i, g.gv w i ≠ 0 → g.was w = true ∧ i < g.n
  kn : ∀ w m, g.kn w m = true → allG g w = true ∧ m < g.n
  gvM : ∀ w m, g.gv w m ≤ g.most m
  knM : ∀ w m, g.kn w m = true → (fin g w).1 ≤ g.most m
  one : ∀ w v m, g.gv w m = g.gv v m → g.gv w m ≠ 0 → w = v
  hd : ∀ m w, w ∈ g.hd m → g.kn w m = true
  sorted : ∀ m, (g.hd m).Pairwise fun u v => les (fin g u) (fin g v) = true
  first : ∀ m u v, u ∈ g.hd m → wts g m v = true → les (fin g u) (ts g m v) = true
/-- nobody waits for one that is settled -/
def Still (g : G) (m : Nat) : Prop := ∀ v, wts g m v = true → g.kn v m = true → ∃ u, wts g m u = true ∧ g.kn u m = false ∧ les (ts g m u) (ts g m v) = true
structure Inv (g : G) : Prop extends Inv0 g where
  still : ∀ m, m < g.n → Still g m
theorem Inv0.fin_at (h : Inv0 g) {w : Nat} (ha : allG g w = true) : ∃ i, i < g.n ∧ fin g w = (g.gv w i, i) ∧ g.gv w i ≠ 0 := by
  obtain ⟨i, hi, e⟩ := finN_at g.n (by have := h.two; omega) (allG_iff.1 ha)
  exact ⟨i, hi, e, allG_iff.1 ha i hi⟩
theorem Inv0.fin_ge (h : Inv0 g) {w i : Nat} (hi : i < g.n) : fin g w = (g.gv w i, i) ∨ les (g.gv w i, i) (fin g w) = true := finN_ge _ i hi
theorem Inv0.fin_one (h : Inv0 g) {w v : Nat} (hw : allG g w = true) (hv : allG g v = true) (e : fin g w = fin g v) : w = v := by
  obtain ⟨i, hi, e1, n1⟩ := h.fin_at hw
  obtain ⟨j, hj, e2, n2⟩ := h.fin_at hv
  rw [e1, e2] at e
  have a : i = j := congrArg Prod.snd e
  have b := congrArg Prod.fst e
  subst a
  exact h.one w v i b n1
/-- each stamp by which one waits was given by somebody -/
theorem Inv0.ts_at (h : Inv0 g) {m w : Nat} (hw : g.gv w m ≠ 0) : ∃ i, ts g m w = (g.gv w i, i) ∧ g.gv w i ≠ 0 := by
  unfold ts
  split
  · rename_i q
    obtain ⟨i, _, e, n⟩ := h.fin_at (h.kn w m q).1
    exact ⟨i, e, n⟩
  · exact ⟨m, rfl, hw⟩
theorem Inv0.ts_one (h : Inv0 g) {m w v : Nat} (hw : g.gv w m ≠ 0) (hv : g.gv v m ≠ 0) (e : ts g m w = ts g m v) : w = v := by
  obtain ⟨i, e1, n1⟩ := h.ts_at hw
  obtain ⟨j, e2, n2⟩ := h.ts_at hv
  rw [e1, e2] at e
  have a : i = j := congrArg Prod.snd e
  have b := congrArg Prod.fst e
  subst a
  exact h.one w v i b n1
/-- a stamp by which one waits is no greater than the greatest -/
theorem Inv0.ts_le (h : Inv0 g) {m w : Nat} (hm : m < g.n) : ts g m w = fin g w ∨ les (ts g m w) (fin g w) = true := by
  unfold ts
  split
  · exact .inl rfl
  · rcases h.fin_ge (w := w) hm with q | q
    · exact .inl q.symm
    · exact .inr q
theorem Inv0.hdN (h : Inv0 g) (m : Nat) : (g.hd m).Nodup := by
  refine List.Pairwise.imp (fun {u v} q e => ?_) (h.sorted m)
  rw [e, les_irr] at q
  cases q
theorem few {l : List Nat} : ∀ (n : Nat), l.Nodup → (∀ x ∈ l, 1 ≤ x ∧ x ≤ n) → l.length ≤ n := by
  intro n
  induction n generalizing l with
  | zero =>
    intro _ hl
    cases l with
    | nil => simp
    | cons x l => have := hl x (List.mem_cons_self ..); omega
  | succ n ih =>
    intro hd hl
    by_cases hm : n + 1 ∈ l
    · have h1 := List.length_erase_of_mem hm
      have h2 : (l.erase (n + 1)).length ≤ n := ih (hd.erase _) fun x hx => by
        obtain ⟨a, b⟩ := (hd.mem_erase_iff).1 hx
        have := hl x b
        omega
      omega
    · have := ih hd fun x hx => by
        have h1 := hl x hx
        have : x ≠ n + 1 := fun e => hm (e ▸ hx)
        omega
      omega
theorem Inv0.hdR (h : Inv0 g) {m w : Nat} (hw : w ∈ g.hd m) : 1 ≤ w ∧ w ≤ 30 := by
  have hk := h.hd m w hw
  have := allG_iff.1 (h.kn w m hk).1 m (h.kn w m hk).2
  exact h.was w (h.gv w m this).1
theorem Inv0.hd30 (h : Inv0 g) (m : Nat) : (g.hd m).length ≤ 30 := few 30 (h.hdN m) fun x hx => h.hdR hx
/-! the least of those that wait -/
theorem best_le (g : G) (m k : Nat) : best g m k ≤ k := by
  induction k with
  | zero => exact Nat.le_refl _
  | succ k ih =>
    unfold best
    split <;> omega
theorem best_wts {m : Nat} : ∀ k, best g m k ≠ 0 → wts g m (best g m k) = true := by
  intro k
  induction k with
  | zero => intro h; exact absurd rfl h
  | succ k ih =>
    intro h
    unfold best at h ⊢
    split
    · rename_i q
      exact q.1
    · rename_i q
      rw [if_neg q] at h
      exact ih h
theorem best_none {m : Nat} : ∀ k, best g m k = 0 → ∀ w, 1 ≤ w → w ≤ k → wts g m w = false := by
  intro k
  induction k with
  | zero => intro _ w h1 h2; omega
  | succ k ih =>
    intro h w h1 h2
    unfold best at h
    split at h
    · omega
    · rename_i q
      by_cases e : w = k + 1
      · subst e
        rw [Bool.eq_false_iff]
        intro hw
        exact q ⟨hw, .inl h⟩
      · exact ih h w h1 (by omega)
theorem best_least (h : Inv0 g) {m : Nat} : ∀ k w, 1 ≤ w → w ≤ k → wts g m w = true → w = best g m k ∨ les (ts g m (best g m k)) (ts g m w) = true := by
  intro k
  induction k with
  | zero => intro w h1 h2; omega
  | succ k ih =>
    intro w h1 h2 hw
    unfold best
    by_cases q : wts g m (k + 1) = true ∧ (best g m k = 0 ∨ les (ts g m (k + 1)) (ts g m (best g m k)) = true)
    · rw [if_pos q]
      by_cases e : w = k + 1
      · exact .inl e
      · right
        rcases q.2 with z | z
        · have := best_none k z w h1 (by omega)
          rw [hw] at this
          cases this
        · rcases ih w h1 (by omega) hw with a | a
          · rw [a]; exact z
          · exact les_trans z a
    · rw [if_neg q]
      by_cases e : w = k + 1
      · subst e
        have hb : best g m k ≠ 0 := fun z => q ⟨hw, .inl z⟩
        have hl : les (ts g m (k + 1)) (ts g m (best g m k)) = false := by
          rw [Bool.eq_false_iff]
          intro z
          exact q ⟨hw, .inr z⟩
        rcases les_not hl with z | z
        · exact .inl (h.ts_one (wts_iff.1 hw).1 (wts_iff.1 (best_wts k hb)).1 z)
        · exact .inr z
      · exact ih w h1 (by omega) hw
theorem Inv0.wtsR (h : Inv0 g) {m w : Nat} (hw : wts g m w = true) : 1 ≤ w ∧ w ≤ 30 ∧ m < g.n := by
  obtain ⟨a, b⟩ := h.gv w m (wts_iff.1 hw).1
  have := h.was w a
  omega

/-! each keeps it -/
theorem Inv.start {n : Nat} (h2 : 2 ≤ n) (h5 : n ≤ 5) : Inv (start n) :=
  { two := h2, five := h5, was := fun w h => (by cases h), gv := fun w i h => absurd rfl h, kn := fun w m h => (by cases h), gvM := fun w m => Nat.le_refl _, knM := fun w m h => (by cases h)
    one := fun w v m _ h => absurd rfl h, hd := fun m w h => absurd h List.not_mem_nil, sorted := fun m => List.Pairwise.nil, first := fun m u v h => absurd h List.not_mem_nil
    still := fun m _ v h => absurd rfl (wts_iff.1 h).1 }
def also (g : G) (w : Nat) : G := { g with was := fun v => if v = w then true else g.was v }
theorem also_fin (g : G) (w v : Nat) : fin (also g w) v = fin g v := finN_congr (g := g) (g' := also g w) _ fun _ _ => rfl
theorem also_ts (g : G) (w m v : Nat) : ts (also g w) m v = ts g m v := by
  unfold ts
  rw [also_fin]
  rfl
theorem Inv.also (h : Inv g) {w : Nat} (h1 : 1 ≤ w) (h30 : w ≤ 30) : Inv (also g w) :=
  { two := h.two, five := h.five
    was := fun v hv => (by
      have hv' : (if v = w then true else g.was v) = true := hv
      split at hv'
      · omega
      · exact h.was v hv')
    gv := fun v i hv => (by
      obtain ⟨a, b⟩ := h.gv v i hv
      refine ⟨?_, b⟩
      show (if v = w then true else g.was v) = true
      rw [a]
      simp)
    kn := h.kn, gvM := h.gvM
    knM := fun v m q => (by rw [also_fin]; exact h.knM v m q)
    one := h.one, hd := h.hd
    sorted := fun m => (h.sorted m).imp fun {u v} q => (by rw [also_fin, also_fin]; exact q)
    first := fun m u v hu hv => (by rw [also_fin, also_ts]; exact h.first m u v hu hv)
    still := fun m hm v hv kv => (by
      obtain ⟨u, a, b, c⟩ := h.still m hm v hv kv
      exact ⟨u, a, b, by rw [also_ts, also_ts]; exact c⟩) }
theorem Inv.say (h : Inv g) (word : Int) : Inv (say g word) := by
  unfold Agr.say
  split
  · rename_i hc
    have hr : 1 ≤ word ∧ word ≤ 30 := by
      unfold sayC at hc
      split at hc <;> omega
    exact h.also (by omega) (by omega)
  · exact h
/-- a member gives a number -/
theorem give_fin (h : Inv0 g) {m w v : Nat} (hn : v ≠ w) : fin (give g m w) v = fin g v := finN_congr _ fun i _ => if_neg (fun q => hn q.1)
theorem give_gv {m w v i : Nat} : (give g m w).gv v i = if v = w ∧ i = m then g.most m + 1 else g.gv v i := rfl
theorem give_all {m w v : Nat} (ha : allG g v = true) : allG (give g m w) v = true := by
  rw [allG_iff] at ha ⊢
  intro i hi
  rw [give_gv]
  split
  · omega
  · exact ha i hi
theorem Inv.give (h : Inv g) {m w : Nat} (hm : m < g.n) (hw : g.was w = true) (h0 : g.gv w m = 0) : Inv (give g m w) := by
  have hk : ∀ i, g.kn w i = false := fun i => by
    rw [Bool.eq_false_iff]
    intro q
    exact allG_iff.1 (h.kn w i q).1 m hm h0
  have hf : ∀ v i, g.kn v i = true → fin (Agr.give g m w) v = fin g v := fun v i q => give_fin h.toInv0 (fun e => by rw [e, hk i] at q; cases q)
  have hkn : ∀ v i, (Agr.give g m w).kn v i = g.kn v i := fun _ _ => rfl
  have hhd : ∀ i, (Agr.give g m w).hd i = g.hd i := fun _ => rfl
  have hts : ∀ i v, ¬ (v = w ∧ i = m) → ts (Agr.give g m w) i v = ts g i v := fun i v q => by
    unfold ts
    rw [hkn]
    split
    · rename_i z
      exact hf v i z
    · rw [give_gv, if_neg q]
  have htw : ts (Agr.give g m w) m w = (g.most m + 1, m) := by
    unfold ts
    rw [hkn, hk m, if_neg (by decide), give_gv, if_pos ⟨rfl, rfl⟩]
  have hwt : ∀ i v, wts (Agr.give g m w) i v = true → (v = w ∧ i = m) ∨ wts g i v = true := fun i v q => by
    obtain ⟨a, b⟩ := wts_iff.1 q
    by_cases e : v = w ∧ i = m
    · exact .inl e
    · rw [give_gv, if_neg e] at a
      exact .inr (wts_iff.2 ⟨a, b⟩)
  have hwt' : ∀ i v, wts g i v = true → wts (Agr.give g m w) i v = true := fun i v q => by
    obtain ⟨a, b⟩ := wts_iff.1 q
    refine wts_iff.2 ⟨?_, b⟩
    rw [give_gv]
    split
    · omega
    · exact a
  exact
    { two := h.two, five := h.five, was := h.was
      gv := fun v i q => by
        rw [give_gv] at q
        split at q
        · rename_i e
          exact ⟨by rw [e.1]; exact hw, by rw [e.2]; exact hm⟩
        · exact h.gv v i q
      kn := fun v i q => ⟨give_all (h.kn v i q).1, (h.kn v i q).2⟩
      gvM := fun v i => by
        show (Agr.give g m w).gv v i ≤ if i = m then g.most m + 1 else g.most i
        rw [give_gv]
        have := h.gvM v i
        split
        · rename_i e
          rw [if_pos e.2]
          exact Nat.le_refl _
        · split
          · rename_i e
            rw [e] at this ⊢
            omega
          · exact this
      knM := fun v i q => by
        show _ ≤ if i = m then g.most m + 1 else g.most i
        rw [hf v i q]
        have := h.knM v i q
        split
        · rename_i e
          rw [e] at this
          omega
        · exact this
      one := fun u v i e n => by
        rw [give_gv] at n
        rw [give_gv, give_gv] at e
        by_cases a : u = w ∧ i = m
        · by_cases b : v = w ∧ i = m
          · rw [a.1, b.1]
          · rw [if_pos a, if_neg b] at e
            have := h.gvM v i
            rw [a.2] at this e
            omega
        · by_cases b : v = w ∧ i = m
          · rw [if_neg a, if_pos b] at e
            have := h.gvM u i
            rw [b.2] at this e
            omega
          · rw [if_neg a, if_neg b] at e
            rw [if_neg a] at n
            exact h.one u v i e n
      hd := h.hd
      sorted := fun i => List.Pairwise.imp_of_mem (fun {u v} hu hv q => by
        rw [hf u i (h.hd i u hu), hf v i (h.hd i v hv)]
        exact q) (h.sorted i)
      first := fun i u v hu hv => by
        have ku := h.hd i u hu
        rw [hf u i ku]
        rcases hwt i v hv with e | e
        · rw [e.1, e.2, htw]
          have := h.knM u i ku
          rw [e.2] at this
          exact les_iff.2 (.inl (by show (fin g u).1 < g.most m + 1; omega))
        · have hne : ¬ (v = w ∧ i = m) := fun q => by
            have := (wts_iff.1 e).1
            rw [q.1, q.2] at this
            exact this h0
          rw [hts i v hne]
          exact h.first i u v hu e
      still := fun i hi v hv kv => by
        rw [hkn] at kv
        have hv' : wts g i v = true := by
          rcases hwt i v hv with e | e
          · rw [e.1, hk i] at kv; cases kv
          · exact e
        obtain ⟨u, a, b, c⟩ := h.still i hi v hv' kv
        have ne : ∀ x, wts g i x = true → ¬ (x = w ∧ i = m) := fun x hx q => by
          have := (wts_iff.1 hx).1
          rw [q.1, q.2] at this
          exact this h0
        exact ⟨u, hwt' i u a, b, by rw [hts i u (ne u a), hts i v (ne v hv')]; exact c⟩ }
end Go.Proofs.YtcolcjnmdejfeafDoor.Agr
