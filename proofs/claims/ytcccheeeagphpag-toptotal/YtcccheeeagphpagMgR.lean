/-
  Texts put together: AgrM, AgrN, AgrE, MapV, AgrK, AgrL, AgrB, AgrC.
-/
import Derived.WalkKit
import Derived.Test.YtcccheeeagphpagMgA
import Derived.Maps.OwnSet
import Derived.Maps.Keyed
import Derived.Maps.RangeWalk
import Derived.MapViews
import Derived.Deep.QuietTactic
import Derived.BigQuiet
import Derived.Deep.RegionHeld3
import Derived.WalkLawsBesides
import Derived.Handy

/-
  Plain facts on a group in which all give a word a number, and the greatest counts: what is refused, what is heard; what always holds.
-/
namespace Go.Proofs.Ytcccheeeagphpag.Agr
set_option linter.unusedVariables false

/-- a stamp: a number, and who gave it -/
abbrev St := Nat × Nat
def les (a b : St) : Bool := decide (a.1 < b.1) || (decide (a.1 = b.1) && decide (a.2 < b.2))
theorem les_iff {a b : St} : les a b = true ↔ a.1 < b.1 ∨ (a.1 = b.1 ∧ a.2 < b.2) := by simp [les]
theorem les_irr (a : St) : les a a = false := by
  rw [Bool.eq_false_iff]
  intro h
  have := les_iff.1 h
  omega
theorem les_trans {a b c : St} (h : les a b = true) (h' : les b c = true) : les a c = true := by
  rw [les_iff] at *
  omega
theorem les_or (a b : St) : les a b = true ∨ a = b ∨ les b a = true := by
  rcases Nat.lt_trichotomy a.1 b.1 with h | h | h
  · exact .inl (les_iff.2 (.inl h))
  · rcases Nat.lt_trichotomy a.2 b.2 with h2 | h2 | h2
    · exact .inl (les_iff.2 (.inr ⟨h, h2⟩))
    · exact .inr (.inl (Prod.ext h h2))
    · exact .inr (.inr (les_iff.2 (.inr ⟨h.symm, h2⟩)))
  · exact .inr (.inr (les_iff.2 (.inl h)))
theorem les_not {a b : St} (h : les a b = false) : a = b ∨ les b a = true := by
  rcases les_or a b with q | q | q
  · rw [h] at q; cases q
  · exact .inl q
  · exact .inr q

/-- a group: of how many; which words were said; which number a member gave a word (0: none); does it know the stamp; the greatest number; what was heard -/
structure G where
  n : Nat
  was : Nat → Bool
  gv : Nat → Nat → Nat
  kn : Nat → Nat → Bool
  most : Nat → Nat
  hd : Nat → List Nat
def start (n : Nat) : G := ⟨n, fun _ => false, fun _ _ => 0, fun _ _ => false, fun _ => 0, fun _ => []⟩
variable {g : G}
/-- the greatest stamp of the first so many -/
def finN (g : G) (w : Nat) : Nat → St
  | 0 => (0, 0)
  | k + 1 => if les (finN g w k) (g.gv w k, k) = true then (g.gv w k, k) else finN g w k
def fin (g : G) (w : Nat) : St := finN g w g.n
def allG (g : G) (w : Nat) : Bool := (List.range g.n).all fun i => decide (g.gv w i ≠ 0)
theorem allG_iff {w : Nat} : allG g w = true ↔ ∀ i, i < g.n → g.gv w i ≠ 0 := by simp [allG]
/-- the stamp by which a word waits -/
def ts (g : G) (m w : Nat) : St := if g.kn w m = true then fin g w else (g.gv w m, m)
def wts (g : G) (m w : Nat) : Bool := decide (g.gv w m ≠ 0) && !(g.hd m).contains w
theorem wts_iff {m w : Nat} : wts g m w = true ↔ g.gv w m ≠ 0 ∧ w ∉ g.hd m := by simp [wts]
/-- of the first so many words the one that waits by the least stamp (0: none) -/
def best (g : G) (m : Nat) : Nat → Nat
  | 0 => 0
  | k + 1 => if wts g m (k + 1) = true ∧ (best g m k = 0 ∨ les (ts g m (k + 1)) (ts g m (best g m k)) = true) then k + 1 else best g m k
/-- one is heard -/
def hear (g : G) (m b : Nat) : G := { g with hd := fun i => if i = m then g.hd m ++ [b] else g.hd i }
/-- those that wait are heard, as long as the least is settled -/
def drain (m : Nat) : Nat → G → List Nat × G
  | 0, g => ([], g)
  | f + 1, g => if best g m 30 ≠ 0 ∧ g.kn (best g m 30) m = true then (best g m 30 :: (drain m f (hear g m (best g m 30))).1, (drain m f (hear g m (best g m 30))).2) else ([], g)
def run (m : Nat) (g : G) : List Nat × G := drain m (31 - (g.hd m).length) g

/-! what is wrong -/
def chkC (g : G) (who word : Int) : Int := if who < 0 ∨ (g.n : Int) ≤ who ∨ word < 1 ∨ 30 < word then 1 else if g.was word.toNat = true then 0 else 5
def sayC (g : G) (word : Int) : Int := if word < 1 ∨ 30 < word then 1 else if g.was word.toNat = true then 7 else 0
def say (g : G) (word : Int) : G := if sayC g word = 0 then { g with was := fun w => if w = word.toNat then true else g.was w } else g
def proC (g : G) (who word : Int) : Int := if chkC g who word ≠ 0 then chkC g who word else if g.gv word.toNat who.toNat ≠ 0 then 7 else 0
def proS (g : G) (who word : Int) : St := if proC g who word = 0 then (g.most who.toNat + 1, who.toNat) else (0, 0)
def give (g : G) (m w : Nat) : G := { g with gv := fun v i => if v = w ∧ i = m then g.most m + 1 else g.gv v i, most := fun i => if i = m then g.most m + 1 else g.most i }
def pro (g : G) (who word : Int) : G := if proC g who word = 0 then give g who.toNat word.toNat else g
def setC (g : G) (who word : Int) : Int := if chkC g who word ≠ 0 then chkC g who word else if allG g word.toNat = false then 6 else if g.kn word.toNat who.toNat = true then 7 else 0
def know (g : G) (m w : Nat) : G := { g with kn := fun v i => if v = w ∧ i = m then true else g.kn v i, most := fun i => if i = m then max (g.most m) (fin g w).1 else g.most i }
def setO (g : G) (who word : Int) : List Nat := if setC g who word = 0 then (run who.toNat (know g who.toNat word.toNat)).1 else []
def set (g : G) (who word : Int) : G := if setC g who word = 0 then (run who.toNat (know g who.toNat word.toNat)).2 else g
def hdC (g : G) (who : Int) : Int := if who < 0 ∨ (g.n : Int) ≤ who then 1 else 0
def hdL (g : G) (who : Int) : List Nat := if hdC g who = 0 then g.hd who.toNat else []

/-! the greatest stamp -/
theorem finN_ge {w : Nat} : ∀ (k i : Nat), i < k → finN g w k = (g.gv w i, i) ∨ les (g.gv w i, i) (finN g w k) = true := by
  intro k
  induction k with
  | zero => intro i hi; omega
  | succ k ih =>
    intro i hi
    unfold finN
    by_cases h : les (finN g w k) (g.gv w k, k) = true
    · rw [if_pos h]
      by_cases e : i = k
      · subst e; exact .inl rfl
      · right
        rcases ih i (by omega) with q | q
        · rw [← q]; exact h
        · exact les_trans q h
    · rw [if_neg h]
      by_cases e : i = k
      · subst e
        rcases les_not (by simpa using h) with q | q
        · exact .inl q
        · exact .inr q
      · exact ih i (by omega)
theorem finN_at {w : Nat} : ∀ k, 0 < k → (∀ i, i < k → g.gv w i ≠ 0) → ∃ i, i < k ∧ finN g w k = (g.gv w i, i) := by
  intro k
  induction k with
  | zero => intro h; omega
  | succ k ih =>
    intro _ hg
    unfold finN
    by_cases h : les (finN g w k) (g.gv w k, k) = true
    · exact ⟨k, by omega, if_pos h⟩
    · rw [if_neg h]
      by_cases hk : k = 0
      · subst hk
        exfalso
        apply h
        have := hg 0 (by omega)
        exact les_iff.2 (.inl (by show 0 < g.gv w 0; omega))
      · obtain ⟨i, hi, e⟩ := ih (by omega) (fun i hi => hg i (by omega))
        exact ⟨i, by omega, e⟩
theorem finN_congr {g g' : G} {w : Nat} : ∀ k, (∀ i, i < k → g'.gv w i = g.gv w i) → finN g' w k = finN g w k := by
  intro k
  induction k with
  | zero => intro _; rfl
  | succ k ih =>
    intro h
    unfold finN
    rw [ih (fun i hi => h i (by omega)), h k (by omega)]
/-- what always holds, but that nobody waits for one that is settled -/
structure Inv0 (g : G) : Prop where
  two : 2 ≤ g.n
  five : g.n ≤ 5
  was : ∀ w, g.was w = true → 1 ≤ w ∧ w ≤ 30
  gv : ∀ w i, g.gv w i ≠ 0 → g.was w = true ∧ i < g.n
  kn : ∀ w m, g.kn w m = true → allG g w = true ∧ m < g.n
  gvM : ∀ w m, g.gv w m ≤ g.most m
  knM : ∀ w m, g.kn w m = true → (fin g w).1 ≤ g.most m
  one : ∀ w v m, g.gv w m = g.gv v m → g.gv w m ≠ 0 → w = v
  hd : ∀ m w, w ∈ g.hd m → g.kn w m = true
  sorted : ∀ m, (g.hd m).Pairwise fun u v => les (fin g u) (fin g v) = true
  first : ∀ m u v, u ∈ g.hd m → wts g m v = true → les (fin g u) (ts g m v) = true
/-- nobody waits for one that is settled -/
def Still (g : G) (m : Nat) : Prop := ∀ v, wts g m v = true → g.kn v m = true → ∃ u, wts g m u = true ∧ g.kn u m = false ∧ les (ts g m u) (ts g m v) = true
structure Inv (g : G) : Prop extends Inv0 g where
  still : ∀ m, m < g.n → Still g m
theorem Inv0.fin_at (h : Inv0 g) {w : Nat} (ha : allG g w = true) : ∃ i, i < g.n ∧ fin g w = (g.gv w i, i) ∧ g.gv w i ≠ 0 := by
  obtain ⟨i, hi, e⟩ := finN_at g.n (by have := h.two; omega) (allG_iff.1 ha)
  exact ⟨i, hi, e, allG_iff.1 ha i hi⟩
theorem Inv0.fin_ge (h : Inv0 g) {w i : Nat} (hi : i < g.n) : fin g w = (g.gv w i, i) ∨ les (g.gv w i, i) (fin g w) = true := finN_ge _ i hi
theorem Inv0.fin_one (h : Inv0 g) {w v : Nat} (hw : allG g w = true) (hv : allG g v = true) (e : fin g w = fin g v) : w = v := by
  obtain ⟨i, hi, e1, n1⟩ := h.fin_at hw
  obtain ⟨j, hj, e2, n2⟩ := h.fin_at hv
  rw [e1, e2] at e
  have a : i = j := congrArg Prod.snd e
  have b := congrArg Prod.fst e
  subst a
  exact h.one w v i b n1
/-- each stamp by which one waits was given by somebody -/
theorem Inv0.ts_at (h : Inv0 g) {m w : Nat} (hw : g.gv w m ≠ 0) : ∃ i, ts g m w = (g.gv w i, i) ∧ g.gv w i ≠ 0 := by
  unfold ts
  split
  · rename_i q
    obtain ⟨i, _, e, n⟩ := h.fin_at (h.kn w m q).1
    exact ⟨i, e, n⟩
  · exact ⟨m, rfl, hw⟩
theorem Inv0.ts_one (h : Inv0 g) {m w v : Nat} (hw : g.gv w m ≠ 0) (hv : g.gv v m ≠ 0) (e : ts g m w = ts g m v) : w = v := by
  obtain ⟨i, e1, n1⟩ := h.ts_at hw
  obtain ⟨j, e2, n2⟩ := h.ts_at hv
  rw [e1, e2] at e
  have a : i = j := congrArg Prod.snd e
  have b := congrArg Prod.fst e
  subst a
  exact h.one w v i b n1
/-- a stamp by which one waits is no greater than the greatest -/
theorem Inv0.ts_le (h : Inv0 g) {m w : Nat} (hm : m < g.n) : ts g m w = fin g w ∨ les (ts g m w) (fin g w) = true := by
  unfold ts
  split
  · exact .inl rfl
  · rcases h.fin_ge (w := w) hm with q | q
    · exact .inl q.symm
    · exact .inr q
theorem Inv0.hdN (h : Inv0 g) (m : Nat) : (g.hd m).Nodup := by
  refine List.Pairwise.imp (fun {u v} q e => ?_) (h.sorted m)
  rw [e, les_irr] at q
  cases q
theorem few {l : List Nat} : ∀ (n : Nat), l.Nodup → (∀ x ∈ l, 1 ≤ x ∧ x ≤ n) → l.length ≤ n := by
  intro n
  induction n generalizing l with
  | zero =>
    intro _ hl
    cases l with
    | nil => simp
    | cons x l => have := hl x (List.mem_cons_self ..); omega
  | succ n ih =>
    intro hd hl
    by_cases hm : n + 1 ∈ l
    · have h1 := List.length_erase_of_mem hm
      have h2 : (l.erase (n + 1)).length ≤ n := ih (hd.erase _) fun x hx => by
        obtain ⟨a, b⟩ := (hd.mem_erase_iff).1 hx
        have := hl x b
        omega
      omega
    · have := ih hd fun x hx => by
        have h1 := hl x hx
        have : x ≠ n + 1 := fun e => hm (e ▸ hx)
        omega
      omega
theorem Inv0.hdR (h : Inv0 g) {m w : Nat} (hw : w ∈ g.hd m) : 1 ≤ w ∧ w ≤ 30 := by
  have hk := h.hd m w hw
  have := allG_iff.1 (h.kn w m hk).1 m (h.kn w m hk).2
  exact h.was w (h.gv w m this).1
theorem Inv0.hd30 (h : Inv0 g) (m : Nat) : (g.hd m).length ≤ 30 := few 30 (h.hdN m) fun x hx => h.hdR hx
/-! the least of those that wait -/
theorem best_le (g : G) (m k : Nat) : best g m k ≤ k := by
  induction k with
  | zero => exact Nat.le_refl _
  | succ k ih =>
    unfold best
    split <;> omega
theorem best_wts {m : Nat} : ∀ k, best g m k ≠ 0 → wts g m (best g m k) = true := by
  intro k
  induction k with
  | zero => intro h; exact absurd rfl h
  | succ k ih =>
    intro h
    unfold best at h ⊢
    split
    · rename_i q
      exact q.1
    · rename_i q
      rw [if_neg q] at h
      exact ih h
theorem best_none {m : Nat} : ∀ k, best g m k = 0 → ∀ w, 1 ≤ w → w ≤ k → wts g m w = false := by
  intro k
  induction k with
  | zero => intro _ w h1 h2; omega
  | succ k ih =>
    intro h w h1 h2
    unfold best at h
    split at h
    · omega
    · rename_i q
      by_cases e : w = k + 1
      · subst e
        rw [Bool.eq_false_iff]
        intro hw
        exact q ⟨hw, .inl h⟩
      · exact ih h w h1 (by omega)
theorem best_least (h : Inv0 g) {m : Nat} : ∀ k w, 1 ≤ w → w ≤ k → wts g m w = true → w = best g m k ∨ les (ts g m (best g m k)) (ts g m w) = true := by
  intro k
  induction k with
  | zero => intro w h1 h2; omega
  | succ k ih =>
    intro w h1 h2 hw
    unfold best
    by_cases q : wts g m (k + 1) = true ∧ (best g m k = 0 ∨ les (ts g m (k + 1)) (ts g m (best g m k)) = true)
    · rw [if_pos q]
      by_cases e : w = k + 1
      · exact .inl e
      · right
        rcases q.2 with z | z
        · have := best_none k z w h1 (by omega)
          rw [hw] at this
          cases this
        · rcases ih w h1 (by omega) hw with a | a
          · rw [a]; exact z
          · exact les_trans z a
    · rw [if_neg q]
      by_cases e : w = k + 1
      · subst e
        have hb : best g m k ≠ 0 := fun z => q ⟨hw, .inl z⟩
        have hl : les (ts g m (k + 1)) (ts g m (best g m k)) = false := by
          rw [Bool.eq_false_iff]
          intro z
          exact q ⟨hw, .inr z⟩
        rcases les_not hl with z | z
        · exact .inl (h.ts_one (wts_iff.1 hw).1 (wts_iff.1 (best_wts k hb)).1 z)
        · exact .inr z
      · exact ih w h1 (by omega) hw
theorem Inv0.wtsR (h : Inv0 g) {m w : Nat} (hw : wts g m w = true) : 1 ≤ w ∧ w ≤ 30 ∧ m < g.n := by
  obtain ⟨a, b⟩ := h.gv w m (wts_iff.1 hw).1
  have := h.was w a
  omega

/-! each keeps it -/
theorem Inv.start {n : Nat} (h2 : 2 ≤ n) (h5 : n ≤ 5) : Inv (start n) :=
  { two := h2, five := h5, was := fun w h => (by cases h), gv := fun w i h => absurd rfl h, kn := fun w m h => (by cases h), gvM := fun w m => Nat.le_refl _, knM := fun w m h => (by cases h)
    one := fun w v m _ h => absurd rfl h, hd := fun m w h => absurd h List.not_mem_nil, sorted := fun m => List.Pairwise.nil, first := fun m u v h => absurd h List.not_mem_nil
    still := fun m _ v h => absurd rfl (wts_iff.1 h).1 }
def also (g : G) (w : Nat) : G := { g with was := fun v => if v = w then true else g.was v }
theorem also_fin (g : G) (w v : Nat) : fin (also g w) v = fin g v := finN_congr (g := g) (g' := also g w) _ fun _ _ => rfl
theorem also_ts (g : G) (w m v : Nat) : ts (also g w) m v = ts g m v := by
  unfold ts
  rw [also_fin]
  rfl
theorem Inv.also (h : Inv g) {w : Nat} (h1 : 1 ≤ w) (h30 : w ≤ 30) : Inv (also g w) :=
  { two := h.two, five := h.five
    was := fun v hv => (by
      have hv' : (if v = w then true else g.was v) = true := hv
      split at hv'
      · omega
      · exact h.was v hv')
    gv := fun v i hv => (by
      obtain ⟨a, b⟩ := h.gv v i hv
      refine ⟨?_, b⟩
      show (if v = w then true else g.was v) = true
      rw [a]
      simp)
    kn := h.kn, gvM := h.gvM
    knM := fun v m q => (by rw [also_fin]; exact h.knM v m q)
    one := h.one, hd := h.hd
    sorted := fun m => (h.sorted m).imp fun {u v} q => (by rw [also_fin, also_fin]; exact q)
    first := fun m u v hu hv => (by rw [also_fin, also_ts]; exact h.first m u v hu hv)
    still := fun m hm v hv kv => (by
      obtain ⟨u, a, b, c⟩ := h.still m hm v hv kv
      exact ⟨u, a, b, by rw [also_ts, also_ts]; exact c⟩) }
theorem Inv.say (h : Inv g) (word : Int) : Inv (say g word) := by
  unfold Agr.say
  split
  · rename_i hc
    have hr : 1 ≤ word ∧ word ≤ 30 := by
      unfold sayC at hc
      split at hc <;> omega
    exact h.also (by omega) (by omega)
  · exact h
/-- a member gives a number -/
theorem give_fin (h : Inv0 g) {m w v : Nat} (hn : v ≠ w) : fin (give g m w) v = fin g v := finN_congr _ fun i _ => if_neg (fun q => hn q.1)
theorem give_gv {m w v i : Nat} : (give g m w).gv v i = if v = w ∧ i = m then g.most m + 1 else g.gv v i := rfl
theorem give_all {m w v : Nat} (ha : allG g v = true) : allG (give g m w) v = true := by
  rw [allG_iff] at ha ⊢
  intro i hi
  rw [give_gv]
  split
  · omega
  · exact ha i hi
theorem Inv.give (h : Inv g) {m w : Nat} (hm : m < g.n) (hw : g.was w = true) (h0 : g.gv w m = 0) : Inv (give g m w) := by
  have hk : ∀ i, g.kn w i = false := fun i => by
    rw [Bool.eq_false_iff]
    intro q
    exact allG_iff.1 (h.kn w i q).1 m hm h0
  have hf : ∀ v i, g.kn v i = true → fin (Agr.give g m w) v = fin g v := fun v i q => give_fin h.toInv0 (fun e => by rw [e, hk i] at q; cases q)
  have hkn : ∀ v i, (Agr.give g m w).kn v i = g.kn v i := fun _ _ => rfl
  have hhd : ∀ i, (Agr.give g m w).hd i = g.hd i := fun _ => rfl
  have hts : ∀ i v, ¬ (v = w ∧ i = m) → ts (Agr.give g m w) i v = ts g i v := fun i v q => by
    unfold ts
    rw [hkn]
    split
    · rename_i z
      exact hf v i z
    · rw [give_gv, if_neg q]
  have htw : ts (Agr.give g m w) m w = (g.most m + 1, m) := by
    unfold ts
    rw [hkn, hk m, if_neg (by decide), give_gv, if_pos ⟨rfl, rfl⟩]
  have hwt : ∀ i v, wts (Agr.give g m w) i v = true → (v = w ∧ i = m) ∨ wts g i v = true := fun i v q => by
    obtain ⟨a, b⟩ := wts_iff.1 q
    by_cases e : v = w ∧ i = m
    · exact .inl e
    · rw [give_gv, if_neg e] at a
      exact .inr (wts_iff.2 ⟨a, b⟩)
  have hwt' : ∀ i v, wts g i v = true → wts (Agr.give g m w) i v = true := fun i v q => by
    obtain ⟨a, b⟩ := wts_iff.1 q
    refine wts_iff.2 ⟨?_, b⟩
    rw [give_gv]
    split
    · omega
    · exact a
  exact
    { two := h.two, five := h.five, was := h.was
      gv := fun v i q => by
        rw [give_gv] at q
        split at q
        · rename_i e
          exact ⟨by rw [e.1]; exact hw, by rw [e.2]; exact hm⟩
        · exact h.gv v i q
      kn := fun v i q => ⟨give_all (h.kn v i q).1, (h.kn v i q).2⟩
      gvM := fun v i => by
        show (Agr.give g m w).gv v i ≤ if i = m then g.most m + 1 else g.most i
        rw [give_gv]
        have := h.gvM v i
        split
        · rename_i e
          rw [if_pos e.2]
          exact Nat.le_refl _
        · split
          · rename_i e
            rw [e] at this ⊢
            omega
          · exact this
      knM := fun v i q => by
        show _ ≤ if i = m then g.most m + 1 else g.most i
        rw [hf v i q]
        have := h.knM v i q
        split
        · rename_i e
          rw [e] at this
          omega
        · exact this
      one := fun u v i e n => by
        rw [give_gv] at n
        rw [give_gv, give_gv] at e
        by_cases a : u = w ∧ i = m
        · by_cases b : v = w ∧ i = m
          · rw [a.1, b.1]
          · rw [if_pos a, if_neg b] at e
            have := h.gvM v i
            rw [a.2] at this e
            omega
        · by_cases b : v = w ∧ i = m
          · rw [if_neg a, if_pos b] at e
            have := h.gvM u i
            rw [b.2] at this e
            omega
          · rw [if_neg a, if_neg b] at e
            rw [if_neg a] at n
            exact h.one u v i e n
      hd := h.hd
      sorted := fun i => List.Pairwise.imp_of_mem (fun {u v} hu hv q => by
        rw [hf u i (h.hd i u hu), hf v i (h.hd i v hv)]
        exact q) (h.sorted i)
      first := fun i u v hu hv => by
        have ku := h.hd i u hu
        rw [hf u i ku]
        rcases hwt i v hv with e | e
        · rw [e.1, e.2, htw]
          have := h.knM u i ku
          rw [e.2] at this
          exact les_iff.2 (.inl (by show (fin g u).1 < g.most m + 1; omega))
        · have hne : ¬ (v = w ∧ i = m) := fun q => by
            have := (wts_iff.1 e).1
            rw [q.1, q.2] at this
            exact this h0
          rw [hts i v hne]
          exact h.first i u v hu e
      still := fun i hi v hv kv => by
        rw [hkn] at kv
        have hv' : wts g i v = true := by
          rcases hwt i v hv with e | e
          · rw [e.1, hk i] at kv; cases kv
          · exact e
        obtain ⟨u, a, b, c⟩ := h.still i hi v hv' kv
        have ne : ∀ x, wts g i x = true → ¬ (x = w ∧ i = m) := fun x hx q => by
          have := (wts_iff.1 hx).1
          rw [q.1, q.2] at this
          exact this h0
        exact ⟨u, hwt' i u a, b, by rw [hts i u (ne u a), hts i v (ne v hv')]; exact c⟩ }
end Go.Proofs.Ytcccheeeagphpag.Agr

/-
  Plain facts on a group in which all give a word a number: a stamp that is learnt, what is heard by that; one order for all; all heard all.
-/
namespace Go.Proofs.Ytcccheeeagphpag.Agr
set_option linter.unusedVariables false
variable {g : G}

/-! a stamp is learnt -/
theorem know_fin (g : G) (m w v : Nat) : fin (know g m w) v = fin g v := finN_congr (g := g) (g' := know g m w) _ fun _ _ => rfl
theorem know_kn {m w v i : Nat} : (know g m w).kn v i = if v = w ∧ i = m then true else g.kn v i := rfl
theorem know_most {m w i : Nat} : (know g m w).most i = if i = m then max (g.most m) (fin g w).1 else g.most i := rfl
theorem know_ts {m w i v : Nat} (h : ¬ (v = w ∧ i = m)) : ts (know g m w) i v = ts g i v := by
  unfold ts
  rw [know_kn, if_neg h, know_fin]
  rfl
theorem know_ts_self (g : G) (m w : Nat) : ts (know g m w) m w = fin g w := by
  have e : (know g m w).kn w m = true := by rw [know_kn, if_pos ⟨rfl, rfl⟩]
  unfold ts
  rw [if_pos e, know_fin]
theorem know_wts (g : G) (m w i v : Nat) : wts (know g m w) i v = wts g i v := rfl
theorem Inv0.know (h : Inv0 g) {m w : Nat} (hm : m < g.n) (ha : allG g w = true) (h0 : g.kn w m = false) : Inv0 (know g m w) :=
  { two := h.two, five := h.five, was := h.was, gv := h.gv
    kn := fun v i q => (by
      rw [know_kn] at q
      split at q
      · rename_i e
        rw [e.1, e.2]
        exact ⟨ha, hm⟩
      · exact h.kn v i q)
    gvM := fun v i => (by
      rw [know_most]
      have := h.gvM v i
      split
      · rename_i e
        rw [e] at this ⊢
        exact Nat.le_trans this (Nat.le_max_left _ _)
      · exact this)
    knM := fun v i q => (by
      rw [know_most, know_fin]
      rw [know_kn] at q
      split at q
      · rename_i e
        rw [e.1, if_pos e.2]
        exact Nat.le_max_right _ _
      · have := h.knM v i q
        split
        · rename_i e
          rw [e] at this
          exact Nat.le_trans this (Nat.le_max_left _ _)
        · exact this)
    one := h.one
    hd := fun i v q => (by
      rw [know_kn]
      split
      · rfl
      · exact h.hd i v q)
    sorted := fun i => (h.sorted i).imp fun {u v} q => (by rw [know_fin, know_fin]; exact q)
    first := fun i u v hu hv => (by
      rw [know_fin]
      have q := h.first i u v hu hv
      by_cases e : v = w ∧ i = m
      · obtain ⟨rfl, rfl⟩ := e
        rw [know_ts_self]
        rcases h.ts_le (w := v) hm with a | a
        · rw [← a]; exact q
        · exact les_trans q a
      · rw [know_ts e]
        exact q) }
theorem Still.know {m w i : Nat} (h : Still g i) (hi : i ≠ m) : Still (know g m w) i := fun v hv kv => by
  have ne : ∀ x, ¬ (x = w ∧ i = m) := fun x q => hi q.2
  rw [know_kn, if_neg (ne v)] at kv
  obtain ⟨u, a, b, c⟩ := h v hv kv
  exact ⟨u, a, by rw [know_kn, if_neg (ne u)]; exact b, by rw [know_ts (ne u), know_ts (ne v)]; exact c⟩

/-! one is heard -/
theorem hear_hd {m b i : Nat} : (hear g m b).hd i = if i = m then g.hd m ++ [b] else g.hd i := rfl
theorem hear_fin (g : G) (m b v : Nat) : fin (hear g m b) v = fin g v := finN_congr (g := g) (g' := hear g m b) _ fun _ _ => rfl
theorem hear_ts (g : G) (m b i v : Nat) : ts (hear g m b) i v = ts g i v := by
  unfold ts
  rw [hear_fin]
  rfl
theorem hear_wts {m b i v : Nat} : wts (hear g m b) i v = true ↔ wts g i v = true ∧ ¬ (i = m ∧ v = b) := by
  rw [wts_iff, wts_iff, hear_hd]
  show g.gv v i ≠ 0 ∧ _ ↔ _
  by_cases e : i = m
  · subst e
    rw [if_pos rfl]
    simp
    constructor
    · rintro ⟨a, b, c⟩
      exact ⟨⟨a, b⟩, c⟩
    · rintro ⟨⟨a, b⟩, c⟩
      exact ⟨a, b, c⟩
  · rw [if_neg e]
    simp [e]
theorem Inv0.hear (h : Inv0 g) {m : Nat} (hb : best g m 30 ≠ 0) (hk : g.kn (best g m 30) m = true) : Inv0 (hear g m (best g m 30)) := by
  have hw := best_wts (g := g) 30 hb
  have hts : ts g m (best g m 30) = fin g (best g m 30) := if_pos hk
  have hl : ∀ v, wts g m v = true → v ≠ best g m 30 → les (fin g (best g m 30)) (ts g m v) = true := fun v hv hne => by
    obtain ⟨a, b, _⟩ := h.wtsR hv
    rcases best_least h 30 v a b hv with q | q
    · exact absurd q hne
    · rw [hts] at q
      exact q
  generalize best g m 30 = b at *
  exact
  { two := h.two, five := h.five, was := h.was, gv := h.gv, kn := h.kn, gvM := h.gvM
    knM := fun v i q => (by rw [hear_fin]; exact h.knM v i q)
    one := h.one
    hd := fun i v q => (by
      rw [hear_hd] at q
      split at q
      · rename_i e
        rw [e]
        rcases List.mem_append.1 q with a | a
        · exact h.hd m v a
        · rw [List.mem_singleton.1 a]; exact hk
      · exact h.hd i v q)
    sorted := fun i => (by
      rw [hear_hd]
      have q : ∀ j, (g.hd j).Pairwise fun u v => les (fin (Agr.hear g m b) u) (fin (Agr.hear g m b) v) = true := fun j => (h.sorted j).imp fun {u v} q => (by rw [hear_fin, hear_fin]; exact q)
      split
      · rw [List.pairwise_append]
        refine ⟨q m, by simp, fun u hu v hv => ?_⟩
        rw [List.mem_singleton.1 hv, hear_fin, hear_fin, ← hts]
        exact h.first m u b hu hw
      · exact q i)
    first := fun i u v hu hv => (by
      obtain ⟨a, c⟩ := hear_wts.1 hv
      rw [hear_fin, hear_ts]
      rw [hear_hd] at hu
      split at hu
      · rename_i e
        subst e
        rcases List.mem_append.1 hu with q | q
        · exact h.first i u v q a
        · rw [List.mem_singleton.1 q]
          exact hl v a (fun e => c ⟨rfl, e⟩)
      · exact h.first i u v hu a) }
theorem Still.hear {m b i : Nat} (h : Still g i) (hi : i ≠ m) : Still (hear g m b) i := fun v hv kv => by
  obtain ⟨u, a, c, d⟩ := h v (hear_wts.1 hv).1 kv
  exact ⟨u, hear_wts.2 ⟨a, fun q => hi q.1⟩, c, by rw [hear_ts, hear_ts]; exact d⟩
/-- where the least is not settled nobody waits for one that is -/
theorem Inv0.stop (h : Inv0 g) {m : Nat} (hs : ¬ (best g m 30 ≠ 0 ∧ g.kn (best g m 30) m = true)) : Still g m := fun v hv kv => by
  obtain ⟨a, b, _⟩ := h.wtsR hv
  have hb : best g m 30 ≠ 0 := fun z => by
    have := best_none 30 z v a b
    rw [hv] at this
    cases this
  have hk : g.kn (best g m 30) m = false := by
    rw [Bool.eq_false_iff]
    exact fun q => hs ⟨hb, q⟩
  refine ⟨best g m 30, best_wts 30 hb, hk, ?_⟩
  rcases best_least h 30 v a b hv with q | q
  · rw [← q, kv] at hk; cases hk
  · exact q

/-! as long as the least is settled -/
theorem run_stop {m : Nat} (hs : ¬ (best g m 30 ≠ 0 ∧ g.kn (best g m 30) m = true)) : run m g = ([], g) := by
  unfold run
  cases 31 - (g.hd m).length with
  | zero => rfl
  | succ f => unfold drain; rw [if_neg hs]
theorem run_go (h : Inv0 g) {m : Nat} (hb : best g m 30 ≠ 0) (hk : g.kn (best g m 30) m = true) : run m g = (best g m 30 :: (run m (hear g m (best g m 30))).1, (run m (hear g m (best g m 30))).2) := by
  have hl := h.hd30 m
  have e1 : 31 - (g.hd m).length = (30 - (g.hd m).length) + 1 := by omega
  have e2 : 31 - ((hear g m (best g m 30)).hd m).length = 30 - (g.hd m).length := by
    rw [hear_hd, if_pos rfl, List.length_append]
    simp
  unfold run
  rw [e1, e2]
  show drain m ((30 - (g.hd m).length) + 1) g = _
  rw [drain, if_pos ⟨hb, hk⟩]
/-- what comes of it -/
theorem drain_spec (m : Nat) : ∀ (f : Nat) (g : G), Inv0 g → 31 - (g.hd m).length ≤ f →
    Inv0 (drain m f g).2 ∧ Still (drain m f g).2 m ∧ (∀ i, i ≠ m → Still g i → Still (drain m f g).2 i) ∧
    (drain m f g).2 = { g with hd := fun i => if i = m then g.hd m ++ (drain m f g).1 else g.hd i } := by
  intro f
  induction f with
  | zero =>
    intro g h hf
    have := h.hd30 m
    omega
  | succ f ih =>
    intro g h hf
    by_cases hs : best g m 30 ≠ 0 ∧ g.kn (best g m 30) m = true
    · have e : drain m (f + 1) g = (best g m 30 :: (drain m f (hear g m (best g m 30))).1, (drain m f (hear g m (best g m 30))).2) := by
        rw [drain, if_pos hs]
      obtain ⟨i1, i2, i3, i4⟩ := ih (hear g m (best g m 30)) (h.hear hs.1 hs.2) (by rw [hear_hd, if_pos rfl, List.length_append]; simp; omega)
      rw [e]
      refine ⟨i1, i2, fun i hi q => i3 i hi (q.hear hi), ?_⟩
      show (drain m f (hear g m (best g m 30))).2 = _
      rw [i4]
      show G.mk _ _ _ _ _ _ = G.mk _ _ _ _ _ _
      congr 1
      funext i
      by_cases q : i = m
      · rw [if_pos q, if_pos q, hear_hd, if_pos rfl]
        simp
      · rw [if_neg q, if_neg q, hear_hd, if_neg q]
    · have e : drain m (f + 1) g = ([], g) := by
        rw [drain, if_neg hs]
      rw [e]
      refine ⟨h, h.stop hs, fun i _ q => q, ?_⟩
      show g = G.mk _ _ _ _ _ _
      have : (fun i => if i = m then g.hd m ++ [] else g.hd i) = g.hd := by
        funext i
        by_cases q : i = m
        · rw [if_pos q, q]; simp
        · rw [if_neg q]
      rw [this]
theorem setC_ok {who word : Int} (h : setC g who word = 0) : (0 ≤ who ∧ who < (g.n : Int)) ∧ (1 ≤ word ∧ word ≤ 30) ∧ g.was word.toNat = true ∧ allG g word.toNat = true ∧ g.kn word.toNat who.toNat = false := by
  unfold setC at h
  split at h
  · omega
  · rename_i hc
    have hc' : chkC g who word = 0 := Decidable.byContradiction hc
    unfold chkC at hc'
    split at hc'
    · omega
    · split at hc'
      · rename_i q2
        split at h
        · omega
        · rename_i q3
          split at h
          · omega
          · rename_i q4
            exact ⟨by omega, by omega, q2, by simpa using q3, by simpa using q4⟩
      · omega
theorem proC_ok {who word : Int} (h : proC g who word = 0) : (0 ≤ who ∧ who < (g.n : Int)) ∧ (1 ≤ word ∧ word ≤ 30) ∧ g.was word.toNat = true ∧ g.gv word.toNat who.toNat = 0 := by
  unfold proC at h
  split at h
  · omega
  · rename_i hc
    have hc' : chkC g who word = 0 := Decidable.byContradiction hc
    unfold chkC at hc'
    split at hc'
    · omega
    · split at hc'
      · rename_i q2
        split at h
        · omega
        · rename_i q3
          exact ⟨by omega, by omega, q2, Decidable.byContradiction q3⟩
      · omega
theorem Inv.pro (h : Inv g) (who word : Int) : Inv (pro g who word) := by
  unfold Agr.pro
  split
  · rename_i hc
    obtain ⟨a, b, c, d⟩ := proC_ok hc
    exact h.give (by omega) c d
  · exact h
theorem set_eq {who word : Int} (hc : setC g who word = 0) : set g who word = (run who.toNat (know g who.toNat word.toNat)).2 ∧ setO g who word = (run who.toNat (know g who.toNat word.toNat)).1 := ⟨if_pos hc, if_pos hc⟩
theorem Inv.set (h : Inv g) (who word : Int) : Inv (set g who word) := by
  unfold Agr.set
  split
  · rename_i hc
    obtain ⟨a, b, c, d, e⟩ := setC_ok hc
    have hm : who.toNat < g.n := by omega
    have hk := h.toInv0.know hm d e
    obtain ⟨i1, i2, i3, i4⟩ := drain_spec who.toNat _ _ hk (Nat.le_refl _)
    refine { toInv0 := i1, still := fun i hi => ?_ }
    by_cases q : i = who.toNat
    · rw [q]; exact i2
    · refine i3 i q ((h.still i ?_).know q)
      have : (drain who.toNat (31 - ((Agr.know g who.toNat word.toNat).hd who.toNat).length) (Agr.know g who.toNat word.toNat)).2.n = g.n := by rw [i4]; rfl
      have hi' : i < (drain who.toNat (31 - ((Agr.know g who.toNat word.toNat).hd who.toNat).length) (Agr.know g who.toNat word.toNat)).2.n := hi
      rw [this] at hi'
      exact hi'
  · exact h
/-- what a settled word turns, and what it leaves -/
theorem set_spec (h : Inv0 g) {who word : Int} (hc : setC g who word = 0) : set g who word = { know g who.toNat word.toNat with hd := fun i => if i = who.toNat then g.hd who.toNat ++ setO g who word else g.hd i } := by
  obtain ⟨a, b, c, d, e⟩ := setC_ok hc
  have hk := h.know (show who.toNat < g.n by omega) d e
  obtain ⟨i1, i2, i3, i4⟩ := drain_spec who.toNat _ _ hk (Nat.le_refl _)
  rw [(set_eq hc).1, (set_eq hc).2]
  exact i4
theorem set_n (h : Inv0 g) (who word : Int) : (set g who word).n = g.n := by
  by_cases hc : setC g who word = 0
  · rw [set_spec h hc]; rfl
  · unfold Agr.set; rw [if_neg hc]
theorem pro_n (g : G) (who word : Int) : (pro g who word).n = g.n := by
  unfold pro
  split <;> rfl
theorem say_n (g : G) (word : Int) : (say g word).n = g.n := by
  unfold say
  split <;> rfl

/-! one order for all -/
theorem prefix_of {R : Nat → Nat → Prop} (irr : ∀ a, ¬ R a a) (tr : ∀ a b c, R a b → R b c → R a c) : ∀ (A B : List Nat), A.Pairwise R → B.Pairwise R → (∀ a ∈ A, ∀ b ∈ B, R a b ∨ a = b ∨ R b a) → (∀ a ∈ A, ∀ b ∈ B, R b a → b ∈ A) → (∀ a ∈ A, ∀ b ∈ B, R a b → a ∈ B) → A <+: B ∨ B <+: A := by
  intro A
  induction A with
  | nil => intro B _ _ _ _ _; exact .inl (List.nil_prefix ..)
  | cons a A ih =>
    intro B hA hB ht h1 h2
    cases B with
    | nil => exact .inr (List.nil_prefix ..)
    | cons b B =>
      rw [List.pairwise_cons] at hA hB
      have e : a = b := by
        rcases ht a (List.mem_cons_self ..) b (List.mem_cons_self ..) with q | q | q
        · rcases List.mem_cons.1 (h2 a (List.mem_cons_self ..) b (List.mem_cons_self ..) q) with z | z
          · exact z
          · exact absurd (tr _ _ _ q (hB.1 a z)) (irr _)
        · exact q
        · rcases List.mem_cons.1 (h1 a (List.mem_cons_self ..) b (List.mem_cons_self ..) q) with z | z
          · exact z.symm
          · exact absurd (tr _ _ _ q (hA.1 b z)) (irr _)
      subst e
      have key := ih B hA.2 hB.2 (fun x hx y hy => ht x (List.mem_cons_of_mem _ hx) y (List.mem_cons_of_mem _ hy))
        (fun x hx y hy q => by
          rcases List.mem_cons.1 (h1 x (List.mem_cons_of_mem _ hx) y (List.mem_cons_of_mem _ hy) q) with z | z
          · rw [z] at hy; exact absurd (hB.1 a hy) (irr _)
          · exact z)
        (fun x hx y hy q => by
          rcases List.mem_cons.1 (h2 x (List.mem_cons_of_mem _ hx) y (List.mem_cons_of_mem _ hy) q) with z | z
          · rw [z] at hx; exact absurd (hA.1 a hx) (irr _)
          · exact z)
      rcases key with q | q
      · exact .inl (List.cons_prefix_cons.2 ⟨rfl, q⟩)
      · exact .inr (List.cons_prefix_cons.2 ⟨rfl, q⟩)
theorem Inv0.down (h : Inv0 g) {m k u v : Nat} (hu : u ∈ g.hd m) (hv : v ∈ g.hd k) (hl : les (fin g v) (fin g u) = true) : v ∈ g.hd m := by
  refine Decidable.byContradiction fun hn => ?_
  have kv := h.kn v k (h.hd k v hv)
  have ku := h.kn u m (h.hd m u hu)
  have hw : wts g m v = true := wts_iff.2 ⟨allG_iff.1 kv.1 m ku.2, hn⟩
  have q := h.first m u v hu hw
  rcases h.ts_le (w := v) ku.2 with a | a
  · rw [a] at q
    have := les_trans q hl
    rw [les_irr] at this
    cases this
  · have := les_trans (les_trans q a) hl
    rw [les_irr] at this
    cases this
/-- what one heard is the beginning of what the other one heard, or the other way round -/
theorem Inv0.alike (h : Inv0 g) (m k : Nat) : g.hd m <+: g.hd k ∨ g.hd k <+: g.hd m := by
  refine prefix_of (R := fun u v => les (fin g u) (fin g v) = true) (fun a q => by rw [les_irr] at q; cases q) (fun a b c => les_trans) _ _ (h.sorted m) (h.sorted k) (fun a ha b hb => ?_) (fun a ha b hb q => h.down ha hb q) (fun a ha b hb q => h.down hb ha q)
  rcases les_or (fin g a) (fin g b) with q | q | q
  · exact .inl q
  · exact .inr (.inl (h.fin_one (h.kn a m (h.hd m a ha)).1 (h.kn b k (h.hd k b hb)).1 q))
  · exact .inr (.inr q)
/-- where all that a member gave a number are settled, all these were heard -/
theorem Inv.heard (h : Inv g) {m : Nat} (hm : m < g.n) (hk : ∀ w, g.gv w m ≠ 0 → g.kn w m = true) (w : Nat) : w ∈ g.hd m ↔ g.gv w m ≠ 0 := by
  constructor
  · intro q
    have := h.kn w m (h.hd m w q)
    exact allG_iff.1 this.1 m this.2
  · intro q
    refine Decidable.byContradiction fun hn => ?_
    obtain ⟨u, a, b, _⟩ := h.still m hm w (wts_iff.2 ⟨q, hn⟩) (hk w q)
    rw [hk u (wts_iff.1 a).1] at b
    cases b
theorem sub_len {l l' : List Nat} (hn : l.Nodup) (hs : ∀ x ∈ l, x ∈ l') : l.length ≤ l'.length := by
  induction l generalizing l' with
  | nil => simp
  | cons a l ih =>
    rw [List.nodup_cons] at hn
    have ha : a ∈ l' := hs a (List.mem_cons_self ..)
    have h1 := List.length_erase_of_mem ha
    have h2 : l.length ≤ (l'.erase a).length := ih hn.2 fun x hx => (List.mem_erase_of_ne (show x ≠ a from fun e => hn.1 (by rw [← e]; exact hx))).2 (hs x (List.mem_cons_of_mem _ hx))
    have : 0 < l'.length := List.length_pos_of_mem ha
    simp
    omega
/-- how many of the first so many words were said -/
def cnt (g : G) : Nat → Nat
  | 0 => 0
  | k + 1 => cnt g k + (g.was (k + 1)).toNat
def sd (g : G) : Nat → List Nat
  | 0 => []
  | k + 1 => if g.was (k + 1) = true then (k + 1) :: sd g k else sd g k
theorem sd_len (g : G) (k : Nat) : (sd g k).length = cnt g k := by
  induction k with
  | zero => rfl
  | succ k ih =>
    unfold sd cnt
    cases q : g.was (k + 1) <;> simp [ih]
theorem sd_mem {k w : Nat} : w ∈ sd g k ↔ (1 ≤ w ∧ w ≤ k) ∧ g.was w = true := by
  induction k with
  | zero => simp [sd]; omega
  | succ k ih =>
    unfold sd
    cases q : g.was (k + 1)
    · rw [if_neg (by decide), ih]
      constructor
      · rintro ⟨a, b⟩; exact ⟨by omega, b⟩
      · rintro ⟨a, b⟩
        have : w ≠ k + 1 := fun e => by rw [e, q] at b; cases b
        exact ⟨by omega, b⟩
    · rw [if_pos rfl, List.mem_cons, ih]
      constructor
      · rintro (rfl | ⟨a, b⟩)
        · exact ⟨by omega, q⟩
        · exact ⟨by omega, b⟩
      · rintro ⟨a, b⟩
        by_cases e : w = k + 1
        · exact .inl e
        · exact .inr ⟨by omega, b⟩
theorem sd_nodup (g : G) (k : Nat) : (sd g k).Nodup := by
  induction k with
  | zero => exact List.nodup_nil
  | succ k ih =>
    unfold sd
    split
    · rw [List.nodup_cons]
      exact ⟨fun q => by have := (sd_mem.1 q).1; omega, ih⟩
    · exact ih
/-- all heard all -/
theorem Inv.all (h : Inv g) {m : Nat} (hm : m < g.n) (hg : ∀ w, g.was w = true → g.gv w m ≠ 0) (hk : ∀ w, g.gv w m ≠ 0 → g.kn w m = true) : (g.hd m).length = cnt g 30 := by
  have e := h.heard hm hk
  rw [← sd_len]
  refine Nat.le_antisymm (sub_len (h.hdN m) fun x hx => ?_) (sub_len (sd_nodup g 30) fun x hx => ?_)
  · have q := (h.gv x m ((e x).1 hx)).1
    exact sd_mem.2 ⟨h.was x q, q⟩
  · exact (e x).2 (hg x (sd_mem.1 hx).2)
end Go.Proofs.Ytcccheeeagphpag.Agr

/-
  Errors as the program tells them; a list that is seen; is one list the beginning of another one.
-/
namespace Go.Proofs.Ytcccheeeagphpag.Agr
open Go.RowKit
open Go.Proofs.Ytcccheeeagphpag.Fif (own_lt own_block own_form own_mono own_vw ret_bool)
open Go.Proofs.Ytcccheeeagphpag.Vec (Vw)
open Go.Proofs.Ytcccheeeagphpag.Sep (KpL NewL)
set_option linter.unusedVariables false

def errF (c : Int) : Value := if c = 0 then .nilIface else .iface 54 (.int .i64 c)
theorem errF_ok : errF 0 = .nilIface := rfl
theorem errF_no {c : Int} (h : c ≠ 0) : errF c = .iface 54 (.int .i64 c) := if_neg h
def ints (l : List Nat) : List Int := l.map fun x : Nat => (x : Int)
theorem ints_len (l : List Nat) : (ints l).length = l.length := by simp [ints]
theorem ints_inj {a b : List Nat} : ints a = ints b ↔ a = b := by
  constructor
  · intro h
    unfold ints at h
    induction a generalizing b with
    | nil =>
      cases b with
      | nil => rfl
      | cons y b => simp at h
    | cons x a ih =>
      cases b with
      | nil => simp at h
      | cons y b =>
        rw [List.map_cons, List.map_cons] at h
        injection h with h1 h2
        rw [ih h2, show x = y by omega]
  · intro h
    rw [h]
/-- a list of numbers that is seen -/
def Sl (w : World) (v : Value) (l : List Nat) : Prop := ∃ a cap, v = .slice a l.length cap ∧ l.length ≤ cap ∧ cap ≤ maxLen ∧ Vw w a l.length (ints l)
theorem Sl.later {w w' : World} {v : Value} {l : List Nat} (h : Sl w v l) (hb : Below w.heap.size w w') : Sl w' v l := by
  obtain ⟨a, cap, e, h1, h2, h3⟩ := h
  exact ⟨a, cap, e, h1, h2, h3.later hb⟩
theorem Sl.of_own {w : World} {base : Nat} {v : Value} {l : List Nat} {t : TypeId} (o : w.ownsRow base t 1 v l.length ((ints l).map (Value.int .i64))) : Sl w v l := by
  obtain ⟨a, cap, e, hv⟩ := own_vw o
  refine ⟨a, cap, e, ?_, ?_, hv⟩
  · rcases o.2 with ⟨h2, h3⟩ | ⟨g, cap', cur, hv', _, _, hc, hm, _, _⟩
    · rw [e] at h2
      injection h2 with _ _ h4
      omega
    · rw [e] at hv'
      injection hv' with _ _ h4
      omega
  · rcases o.2 with ⟨h2, h3⟩ | ⟨g, cap', cur, hv', _, _, hc, hm, _, _⟩
    · rw [e] at h2
      injection h2 with _ _ h4
      unfold maxLen
      omega
    · rw [e] at hv'
      injection hv' with _ _ h4
      rw [h4]
      exact hm
end Go.Proofs.Ytcccheeeagphpag.Agr

/-
  A map from numbers to values of whatever type, seen as which value stands at which number.
-/
namespace Go.Proofs.Ytcccheeeagphpag.MapV
open Go.RowKit Go.Maps
set_option linter.unusedVariables false

def kl (i : Int) : Lit := .int .i64 i
theorem law : Keyed Try.prog 3 := int_keyed Try.underlying3
theorem keyK {i : Int} (h : (Lit.int .i64 i).wf = true) : keyOf Try.prog 3 (.int .i64 i) = some (kl i) := keyOf_int_mk Try.underlying3 h
theorem kl_inj {x y : Int} (h : kl x = kl y) : x = y := by
  unfold kl at h
  injection h
theorem wfI {i : Int} (h1 : -1000000000 ≤ i) (h2 : i ≤ 1000000000) : (Lit.int .i64 i).wf = true := by
  simp [Lit.wf, IntKind.min, IntKind.max, IntKind.bits, IntKind.signed]
  omega
theorem kl_key {i : Int} (h : (Lit.int .i64 i).wf = true) : WideAt.IsKeyLit (kl i) := law.key (keyK h)
def RV (v : Value) : Option (DataW Value × List MemPlace) := some (.held v, [])
theorem RV_inv {u v : Value} {ps : List MemPlace} (h : RV u = some (.held v, ps)) : u = v := by
  have h1 : (DataW.held u, ([] : List MemPlace)) = (DataW.held v, ps) := Option.some.inj h
  have h2 : DataW.held u = DataW.held v := (Prod.mk.inj h1).1
  exact DataW.held.inj h2
theorem own_norm {k : TypeId} {w : World} {b n : Nat} {D : DataW Value} (h : w.ownsMap Try.prog k RV b n D) : w.ownsMap Try.prog k RV b (Maps.size D) D := by
  obtain ⟨es, clock, hb, F, _, rfl⟩ := h
  exact ⟨es, clock, hb, F, by simp [Maps.size, length_sorted], rfl⟩
theorem own_heap {k : TypeId} {w w' : World} {b n : Nat} {D : DataW Value} (h : w.ownsMap Try.prog k RV b n D) (he : w'.heap[b]? = w.heap[b]?) : w'.ownsMap Try.prog k RV b n D := by
  obtain ⟨es, clock, hb, r⟩ := h
  exact ⟨es, clock, by rw [he]; exact hb, r⟩
/-- a map holds just these -/
structure MP (D : DataW Value) (T : Int → Option Value) (c : Nat) : Prop where
  tidy : Tidy D
  has : ∀ i, Maps.has D (kl i) = (T i).isSome
  at_ : ∀ i x, T i = some x → ∀ z, D.atKey (kl i) z = .held x
  size : Maps.size D = c
theorem MP.start : MP (.map []) (fun _ => none) 0 := ⟨tidy_empty, fun _ => rfl, fun i t h => absurd h (by simp), rfl⟩
def MM (w : World) (mb : Nat) (T : Int → Option Value) (c : Nat) : Prop := ∃ D, w.ownsMap Try.prog 3 RV mb (Maps.size D) D ∧ MP D T c
def putT (T : Int → Option Value) (i : Int) (x : Value) : Int → Option Value := fun k => if k = i then some x else T k
def delT (T : Int → Option Value) (i : Int) : Int → Option Value := fun k => if k = i then none else T k
variable {w w' : World} {mb c : Nat} {T : Int → Option Value}
theorem MM.lt (h : MM w mb T c) : mb < w.heap.size := by
  obtain ⟨D, h, _⟩ := h
  exact h.lt
theorem MM.of_block (h : MM w mb T c) (he : w'.heap[mb]? = w.heap[mb]?) : MM w' mb T c := by
  obtain ⟨D, h, v⟩ := h
  exact ⟨D, own_heap h he, v⟩
theorem MM.congr (h : MM w mb T c) {T' : Int → Option Value} {c' : Nat} (e : ∀ i, T' i = T i) (ec : c' = c) : MM w mb T' c' := by
  obtain ⟨D, h, v⟩ := h
  subst ec
  exact ⟨D, h, v.tidy, fun i => by rw [e]; exact v.has i, fun i x q => v.at_ i x (by rw [← e]; exact q), v.size⟩
theorem MM.made (w : World) : MM (w.alloc (.map #[] 0)) w.heap.size (fun _ => none) 0 := ⟨.map [], World.ownsMap_made w _ _ _, MP.start⟩
theorem MM.row (h : MM w mb T c) {P t n : Nat} {f : Nat → Value} (r : w.rowIs P t n f) : P ≠ mb := by
  obtain ⟨D, ⟨es', clock, hb, _⟩, _⟩ := h
  obtain ⟨c, hc, _⟩ := r
  intro e
  rw [e, hb] at hc
  cases hc
theorem MM.kind (h : MM w mb T c) (t : TypeId) : ∀ cs fr, w.heap[mb]? ≠ some (.cells cs t fr) := by
  obtain ⟨D, ⟨es', clock, hb, _⟩, _⟩ := h
  intro cs fr q
  rw [hb] at q
  cases q
theorem MM.own (h : MM w mb T c) {b t s n : Nat} {u : Value} {xs : List Value} (o : w.ownsRow b t s u n xs) : u.ownBlock ≠ some mb := by
  intro hk
  rcases o.2 with ⟨h2, _⟩ | ⟨g', cap', cur, hv, hbg, hh, _⟩
  · rw [h2] at hk; cases hk
  · rw [hv] at hk
    have : g' = mb := by simpa [Value.ownBlock] using hk
    subst this
    exact h.kind _ _ _ hh
/-- what stands at a number, and whether -/
theorem MM.look_ok (h : MM w mb T c) {mt vt : TypeId} {z : Value} (hU : Try.prog.underlying mt = some (.map 3 vt)) (hZ : ∀ W : World, (zeroValue vt).run Try.prog W = .ok z W) {i : Int} (hi : (Lit.int .i64 i).wf = true) : ∀ W : World, W.heap[mb]? = w.heap[mb]? → (Instr.lookup mt (.map (some mb)) (.int .i64 i) true).run Try.prog W = .ok (.tuple #[(T i).getD z, .bool (T i).isSome]) W := by
  obtain ⟨D, hm, v⟩ := h
  intro W hW
  obtain ⟨u, ps, e1, e2⟩ := (own_heap hm hW).look_ok law hU (hZ W) (zd := .held _) (zp := []) rfl (keyK hi)
  cases q : T i with
  | none =>
    rw [atKey_of_not_has (by rw [v.has, q]; rfl)] at e2
    rw [v.has, q, RV_inv e2] at e1
    exact e1
  | some x =>
    rw [v.at_ i x q] at e2
    rw [v.has, q, RV_inv e2] at e1
    exact e1
theorem MM.look (h : MM w mb T c) {mt vt : TypeId} {z : Value} (hU : Try.prog.underlying mt = some (.map 3 vt)) (hZ : ∀ W : World, (zeroValue vt).run Try.prog W = .ok z W) {i : Int} (hi : (Lit.int .i64 i).wf = true) : ∀ W : World, W.heap[mb]? = w.heap[mb]? → (Instr.lookup mt (.map (some mb)) (.int .i64 i) false).run Try.prog W = .ok ((T i).getD z) W := by
  obtain ⟨D, hm, v⟩ := h
  intro W hW
  obtain ⟨u, ps, e1, e2⟩ := (own_heap hm hW).lookup law hU (hZ W) (zd := .held _) (zp := []) rfl (keyK hi)
  cases q : T i with
  | none =>
    rw [atKey_of_not_has (by rw [v.has, q]; rfl)] at e2
    rw [RV_inv e2] at e1
    exact e1
  | some x =>
    rw [v.at_ i x q] at e2
    rw [RV_inv e2] at e1
    exact e1
theorem MM.put (h : MM w mb T c) {mt vt : TypeId} (hU : Try.prog.underlying mt = some (.map 3 vt)) {i : Int} (hi : (Lit.int .i64 i).wf = true) (x : Value) (hc : c < 1000000) : ∃ w', (Instr.mapUpdate mt (.map (some mb)) (.int .i64 i) x).run Try.prog w = .ok () w' ∧ MM w' mb (putT T i x) (if (T i).isSome = true then c else c + 1) ∧ w.mapTurned w' mb := by
  obtain ⟨D, hm, v⟩ := h
  have hk := keyK hi
  obtain ⟨w', er, h', tt⟩ := hm.store law hU (by rw [v.size]; unfold maxLen; omega) hk (val := x) rfl
  refine ⟨w', er, ⟨_, own_norm h', ⟨v.tidy.put (law.key hk) _, fun y => ?_, fun y z hy => ?_, ?_⟩⟩, tt⟩
  · unfold putT
    by_cases e : y = i
    · rw [if_pos e, e]
      exact has_put_same v.tidy.isMap (law.key hk) _
    · rw [if_neg e, has_put_other (fun q => e (kl_inj q)), v.has]
  · unfold putT at hy
    by_cases e : y = i
    · rw [if_pos e] at hy
      intro z'
      rw [e, atKey_put_same v.tidy.isMap (law.key hk), ← Option.some.inj hy]
    · rw [if_neg e] at hy
      intro z'
      rw [atKey_put_other (fun q => e (kl_inj q)), v.at_ y z hy]
  · rw [size_put v.tidy, v.has, v.size]
theorem MM.del (h : MM w mb T c) {mt vt : TypeId} (hU : Try.prog.underlying mt = some (.map 3 vt)) {i : Int} (hi : (Lit.int .i64 i).wf = true) (ty : TypeId) : ∃ w', (Builtin.delete_ #[mt, 3] ty #[.map (some mb), .int .i64 i]).run Try.prog w = .ok (.tuple #[]) w' ∧ MM w' mb (delT T i) (if (T i).isSome = true then c - 1 else c) ∧ w.mapTurned w' mb := by
  obtain ⟨D, hm, v⟩ := h
  have hk := keyK hi
  obtain ⟨w', er, h', tt⟩ := hm.drop law hU hk ty
  refine ⟨w', er, ⟨_, own_norm h', ⟨v.tidy.del _, fun y => ?_, fun y z hy => ?_, ?_⟩⟩, tt⟩
  · unfold delT
    by_cases e : y = i
    · rw [if_pos e, e]
      exact has_del_same ..
    · rw [if_neg e, has_del_other (fun q => e (kl_inj q)), v.has]
  · unfold delT at hy
    by_cases e : y = i
    · rw [if_pos e] at hy; cases hy
    · rw [if_neg e] at hy
      intro z'
      rw [atKey_del_other (fun q => e (kl_inj q)), v.at_ y z hy]
  · have h1 := size_del (k := kl i) v.tidy
    rw [v.has, v.size] at h1
    cases q : (T i).isSome <;> rw [q] at h1 <;> simp at h1 ⊢ <;> omega
theorem turned_below {b base : Nat} (h : w.mapTurned w' b) (hb : base ≤ b) : Below base w w' := by
  have hlt : b < w.heap.size := by
    obtain ⟨es, c, _, _, h1, _⟩ := h
    exact (Array.getElem?_eq_some_iff.1 h1).1
  exact (Below.refl base w).grown h.grown (by omega) (fun k e => by cases e; exact hb)
theorem g_of_turned {P' : Nat} (h : w.mapTurned w' mb) (hP : P' < w.heap.size) (hne : P' ≠ mb) : w'.heap[P']? = w.heap[P']? := h.grown.block P' hP (fun q => hne (Option.some.inj q))
theorem ranges_blocks {b r n : Nat} {D : DataW Value} {left : Lit → Bool} {cnt : Nat} (h : w.ranges Try.prog 3 RV b r n D left cnt) (h1 : w'.heap[b]? = w.heap[b]?) (h2 : w'.heap[r]? = w.heap[r]?) : w'.ranges Try.prog 3 RV b r n D left cnt := by
  obtain ⟨es, clock, since, seen, c0, hb, F, hs, hD, hr, rest⟩ := h
  exact ⟨es, clock, since, seen, c0, by rw [h1]; exact hb, F, hs, hD, by rw [h2]; exact hr, rest⟩
def strike (left : Lit → Bool) (k : Lit) : Lit → Bool := fun x => left x && !x.sameKey k
theorem strike_new {left : Lit → Bool} {i j : Int} (h : strike left (kl i) (kl j) = false) : left (kl j) = false ∨ j = i := by
  unfold strike at h
  cases q : left (kl j)
  · exact .inl rfl
  · rw [q] at h
    have : (kl j).sameKey (kl i) = true := by simpa using h
    exact .inr (kl_inj (WideAt.sameKey_eq this))
theorem strike_old {left : Lit → Bool} {k l : Lit} (h : left l = false) : strike left k l = false := by simp [strike, h]
theorem strike_self {left : Lit → Bool} {k : Lit} (h : WideAt.IsKeyLit k) : strike left k k = false := by simp [strike, WideAt.sameKey_self h]
set_option maxRecDepth 100000 in
/-- the next one, whichever it is -/
theorem next_cases {b r n : Nat} {D : DataW Value} {left : Lit → Bool} {cnt : Nat} (h : w.ranges Try.prog 3 RV b r n D left cnt) (v : MP D T c) (ty : TypeId) :
    (cnt = 0 ∧ (∀ kl, left kl = false) ∧ (Instr.next (.pointer (some ⟨r, 0, none⟩)) false ty).run Try.prog w = .ok (.tuple #[.bool false]) w) ∨
    ∃ i u, T i = some u ∧ (Lit.int .i64 i).wf = true ∧ left (kl i) = true ∧ ∃ w' cnt', (Instr.next (.pointer (some ⟨r, 0, none⟩)) false ty).run Try.prog w = .ok (.tuple #[.bool true, .int .i64 i, u]) w' ∧
      w'.ranges Try.prog 3 RV b r n D (strike left (kl i)) cnt' ∧ cnt' < cnt ∧ w.grownBy w' (some r) ∧ w'.heap.size = w.heap.size ∧ (Instr.entry (.pointer (some ⟨r, 0, none⟩))).run Try.prog w' = .ok (.tuple #[.int .i64 i, u]) w' := by
  rcases h.next law ty with h | ⟨key, u, k, y, w', cnt', hkey, hl, hu, hat, hrun, hrg, hlt, hg, hs, hen⟩
  · exact .inl h
  · obtain ⟨i, rfl, rfl, hwf⟩ := Maps.keyOf_int_inv Try.underlying3 hkey
    have h1 := has_true_of_atKey hat
    rw [show (Lit.int .i64 i) = kl i from rfl, v.has] at h1
    obtain ⟨x, hx⟩ := Option.isSome_iff_exists.1 h1
    have e2 : u = x := by
      have q := hat .nil
      rw [show (Lit.int .i64 i) = kl i from rfl, v.at_ i x hx, ← Option.some.inj (hu : some (DataW.held u, []) = some y)] at q
      injection q with q
      exact q.symm
    subst e2
    exact .inr ⟨i, u, hx, hwf, hl, w', cnt', hrun, hrg, hlt, hg, hs, hen⟩
end Go.Proofs.Ytcccheeeagphpag.MapV

/-
  Plain facts: what the program keeps of a group in maps: the greatest stamp that a word was given so far, and by which stamp a word waits.
-/
namespace Go.Proofs.Ytcccheeeagphpag.Agr
open Go.RowKit
open Go.Proofs.Ytcccheeeagphpag.MapV (putT delT)
set_option linter.unusedVariables false
variable {g : G}

/-- the greatest stamp that the first so many gave -/
def mxN (g : G) (w : Nat) : Nat → St
  | 0 => (0, 0)
  | k + 1 => if g.gv w k ≠ 0 ∧ les (mxN g w k) (g.gv w k, k) = true then (g.gv w k, k) else mxN g w k
def mx (g : G) (w : Nat) : St := mxN g w g.n
theorem mxN_congr {g g' : G} {w : Nat} : ∀ k, (∀ i, i < k → g'.gv w i = g.gv w i) → mxN g' w k = mxN g w k := by
  intro k
  induction k with
  | zero => intro _; rfl
  | succ k ih =>
    intro h
    unfold mxN
    rw [ih (fun i hi => h i (by omega)), h k (by omega)]
theorem mxN_none {w : Nat} : ∀ k, (∀ i, g.gv w i = 0) → mxN g w k = (0, 0) := by
  intro k
  induction k with
  | zero => intro _; rfl
  | succ k ih =>
    intro h
    unfold mxN
    rw [if_neg (fun q => q.1 (h k)), ih h]
theorem mxN_all {w : Nat} : ∀ k, (∀ i, i < k → g.gv w i ≠ 0) → mxN g w k = finN g w k := by
  intro k
  induction k with
  | zero => intro _; rfl
  | succ k ih =>
    intro h
    unfold mxN finN
    rw [ih (fun i hi => h i (by omega))]
    by_cases q : les (finN g w k) (g.gv w k, k) = true
    · rw [if_pos ⟨h k (by omega), q⟩, if_pos q]
    · rw [if_neg (fun z => q z.2), if_neg q]
theorem mx_all {w : Nat} (h : allG g w = true) : mx g w = fin g w := mxN_all _ (allG_iff.1 h)
theorem les_asymm {a b : St} (h : les a b = true) : les b a = false := by
  rw [Bool.eq_false_iff]
  intro q
  have := les_trans h q
  rw [les_irr] at this
  cases this
theorem mxN_give {m w : Nat} (h0 : g.gv w m = 0) : ∀ k, mxN (give g m w) w k = if m < k then (if les (mxN g w k) (g.most m + 1, m) = true then (g.most m + 1, m) else mxN g w k) else mxN g w k := by
  intro k
  induction k with
  | zero => rfl
  | succ k ih =>
    by_cases e : k = m
    · subst e
      rw [if_neg (by omega)] at ih
      rw [if_pos (by omega)]
      have e1 : mxN g w (k + 1) = mxN g w k := by
        show (if _ then _ else _) = _
        rw [if_neg (fun q => q.1 h0)]
      rw [e1]
      show (if (give g k w).gv w k ≠ 0 ∧ les (mxN (give g k w) w k) ((give g k w).gv w k, k) = true then ((give g k w).gv w k, k) else mxN (give g k w) w k) = _
      have e4 : (give g k w).gv w k = g.most k + 1 := by rw [give_gv, if_pos ⟨rfl, rfl⟩]
      rw [ih, e4]
      by_cases q : les (mxN g w k) (g.most k + 1, k) = true
      · rw [if_pos ⟨by omega, q⟩, if_pos q]
      · rw [if_neg (fun z => q z.2), if_neg q]
    · have e2 : (give g m w).gv w k = g.gv w k := by rw [give_gv, if_neg (fun q => e q.2)]
      show (if (give g m w).gv w k ≠ 0 ∧ les (mxN (give g m w) w k) ((give g m w).gv w k, k) = true then ((give g m w).gv w k, k) else mxN (give g m w) w k) = _
      rw [ih, e2]
      have e3 : mxN g w (k + 1) = if g.gv w k ≠ 0 ∧ les (mxN g w k) (g.gv w k, k) = true then (g.gv w k, k) else mxN g w k := rfl
      rw [e3]
      by_cases lt : m < k
      · rw [if_pos lt, if_pos (show m < k + 1 by omega)]
        generalize mxN g w k = a
        generalize hb : (g.gv w k, k) = b
        generalize hs : (g.most m + 1, m) = s
        have hne : s ≠ b := fun q => by
          rw [← hs, ← hb] at q
          have := congrArg Prod.snd q
          exact e this.symm
        by_cases z : g.gv w k ≠ 0
        · simp only [z, true_and, not_false_eq_true, ne_eq]
          by_cases p1 : les a s = true
          · rw [if_pos p1]
            by_cases p2 : les a b = true
            · rw [if_pos p2]
              rcases les_or s b with q | q | q
              · rw [if_pos q, les_asymm q, if_neg (by decide)]
              · exact absurd q hne
              · rw [les_asymm q, if_neg (by decide), if_pos q]
            · rw [if_neg p2, if_pos p1]
              rcases les_not (by simpa using p2) with q | q
              · rw [← q, les_asymm p1, if_neg (by decide)]
              · rw [les_asymm (les_trans q p1), if_neg (by decide)]
          · rw [if_neg p1]
            by_cases p2 : les a b = true
            · rw [if_pos p2]
              rcases les_not (by simpa using p1) with q | q
              · rw [← q, les_asymm p2, if_neg (by decide)]
              · rw [les_asymm (les_trans q p2), if_neg (by decide)]
            · rw [if_neg p2, if_neg p1]
        · have z' : g.gv w k = 0 := by omega
          simp only [z', ne_eq, not_true_eq_false, false_and, if_false]
      · rw [if_neg lt, if_neg (show ¬ m < k + 1 by omega)]
theorem mx_give {m w : Nat} (hm : m < g.n) (h0 : g.gv w m = 0) : mx (give g m w) w = if les (mx g w) (g.most m + 1, m) = true then (g.most m + 1, m) else mx g w := by
  have := mxN_give (g := g) (w := w) h0 g.n
  rw [if_pos hm] at this
  exact this
theorem mx_give_other {m w v : Nat} (h : v ≠ w) : mx (give g m w) v = mx g v := mxN_congr _ fun i _ => if_neg (fun q => h q.1)

/-! what stands in the maps -/
def stV (s : St) : Value := .agg #[.int .i64 (s.1 : Int), .int .i64 (s.2 : Int)]
def waV (s : St) (b : Bool) : Value := .agg #[.int .i64 (s.1 : Int), .int .i64 (s.2 : Int), .bool b]
/-- what was said, with the greatest stamp so far -/
def TS (g : G) (i : Int) : Option Value := if 0 ≤ i ∧ g.was i.toNat = true then some (stV (mx g i.toNat)) else none
/-- what waits at a member -/
def TW (g : G) (m : Nat) (i : Int) : Option Value := if 0 ≤ i ∧ wts g m i.toNat = true then some (waV (ts g m i.toNat) (g.kn i.toNat m)) else none
theorem TS_at {w : Nat} (h : g.was w = true) : TS g (w : Int) = some (stV (mx g w)) := by
  unfold TS
  rw [if_pos ⟨by omega, by simpa using h⟩]
  simp
theorem TS_not {w : Nat} (h : g.was w = false) : TS g (w : Int) = none := by
  unfold TS
  rw [if_neg]
  rintro ⟨_, q⟩
  rw [Int.toNat_natCast, h] at q
  cases q
theorem TW_at {m w : Nat} (h : wts g m w = true) : TW g m (w : Int) = some (waV (ts g m w) (g.kn w m)) := by
  unfold TW
  rw [if_pos ⟨by omega, by simpa using h⟩]
  simp
theorem TW_not {m w : Nat} (h : wts g m w = false) : TW g m (w : Int) = none := by
  unfold TW
  rw [if_neg]
  rintro ⟨_, q⟩
  rw [Int.toNat_natCast, h] at q
  cases q
theorem TW_some {m : Nat} {i : Int} {u : Value} (h : TW g m i = some u) : ∃ w : Nat, i = (w : Int) ∧ wts g m w = true ∧ u = waV (ts g m w) (g.kn w m) := by
  unfold TW at h
  split at h
  · rename_i q
    exact ⟨i.toNat, by omega, q.2, (Option.some.inj h).symm⟩
  · cases h
/-- a word is said -/
theorem TS_also {w : Nat} (h : Inv0 g) (hw : g.was w = false) : ∀ i, TS (also g w) i = putT (TS g) (w : Int) (stV (0, 0)) i := by
  intro i
  have hz : ∀ j, g.gv w j = 0 := fun j => Decidable.byContradiction fun q => by
    have := (h.gv w j q).1
    rw [hw] at this
    cases this
  unfold putT TS
  by_cases e : i = (w : Int)
  · rw [if_pos e, if_pos ⟨by omega, by rw [e]; show (if _ then _ else _) = true; rw [if_pos (by simp)]⟩]
    have : mx (also g w) i.toNat = (0, 0) := by
      rw [e, Int.toNat_natCast]
      exact mxN_none _ hz
    rw [this]
  · rw [if_neg e]
    by_cases q : 0 ≤ i
    · have e1 : (also g w).was i.toNat = g.was i.toNat := if_neg (fun z => e (by omega))
      have e2 : mx (also g w) i.toNat = mx g i.toNat := mxN_congr (g := g) (g' := also g w) _ fun _ _ => rfl
      rw [e1, e2]
    · rw [if_neg (fun z => q z.1), if_neg (fun z => q z.1)]
theorem TW_also (g : G) (w m : Nat) : ∀ i, TW (also g w) m i = TW g m i := by
  intro i
  unfold TW
  rw [also_ts]
  rfl
/-- a number is given -/
theorem TS_give {m w : Nat} (hm : m < g.n) (hw : g.was w = true) (h0 : g.gv w m = 0) : ∀ i, TS (give g m w) i = if les (mx g w) (g.most m + 1, m) = true then putT (TS g) (w : Int) (stV (g.most m + 1, m)) i else TS g i := by
  intro i
  have e0 : ∀ v, (give g m w).was v = g.was v := fun _ => rfl
  by_cases e : i = (w : Int)
  · subst e
    rw [TS_at (g := give g m w) (by rw [e0]; exact hw), mx_give hm h0]
    by_cases q : les (mx g w) (g.most m + 1, m) = true
    · rw [if_pos q, if_pos q]
      unfold putT
      rw [if_pos rfl]
    · rw [if_neg q, if_neg q, TS_at hw]
  · have e1 : TS (give g m w) i = TS g i := by
      unfold TS
      rw [e0]
      by_cases z : 0 ≤ i
      · rw [mx_give_other (show i.toNat ≠ w by omega)]
      · rw [if_neg (fun y => z y.1), if_neg (fun y => z y.1)]
    rw [e1]
    unfold putT
    rw [if_neg e]
    simp
theorem give_ts (h : Inv0 g) {m w i v : Nat} (hm : m < g.n) (h0 : g.gv w m = 0) (hne : ¬ (v = w ∧ i = m)) : ts (give g m w) i v = ts g i v := by
  have hk : ∀ i, g.kn w i = false := fun i => by
    rw [Bool.eq_false_iff]
    intro q
    exact allG_iff.1 (h.kn w i q).1 m hm h0
  unfold ts
  show (if g.kn v i = true then _ else _) = _
  split
  · rename_i z
    exact give_fin h (fun e => by rw [e, hk i] at z; cases z)
  · rw [give_gv, if_neg hne]
theorem TW_give (h : Inv0 g) {m w : Nat} (hm : m < g.n) (h0 : g.gv w m = 0) : ∀ i, TW (give g m w) m i = putT (TW g m) (w : Int) (waV (g.most m + 1, m) false) i := by
  have hk : ∀ i, g.kn w i = false := fun i => by
    rw [Bool.eq_false_iff]
    intro q
    exact allG_iff.1 (h.kn w i q).1 m hm h0
  intro i
  by_cases e : i = (w : Int)
  · subst e
    have hw : wts (give g m w) m w = true := wts_iff.2 ⟨by rw [give_gv, if_pos ⟨rfl, rfl⟩]; omega, fun q => by
      have := h.hd m w q
      rw [hk m] at this
      cases this⟩
    rw [TW_at hw]
    have e1 : (give g m w).kn w m = false := hk m
    have e2 : ts (give g m w) m w = (g.most m + 1, m) := by
      unfold ts
      rw [e1, if_neg (by decide), give_gv, if_pos ⟨rfl, rfl⟩]
    rw [e1, e2]
    unfold putT
    rw [if_pos rfl]
  · unfold putT
    rw [if_neg e]
    unfold TW
    by_cases z : 0 ≤ i
    · have hne : ¬ (i.toNat = w ∧ m = m) := fun q => e (by omega)
      have e1 : wts (give g m w) m i.toNat = wts g m i.toNat := by
        unfold wts
        rw [give_gv, if_neg hne]
        rfl
      rw [e1, give_ts h hm h0 hne]
      rfl
    · rw [if_neg (fun y => z y.1), if_neg (fun y => z y.1)]
theorem TW_give_other (h : Inv0 g) {m w j : Nat} (hm : m < g.n) (h0 : g.gv w m = 0) (hj : j ≠ m) : ∀ i, TW (give g m w) j i = TW g j i := by
  intro i
  unfold TW
  have hne : ¬ (i.toNat = w ∧ j = m) := fun q => hj q.2
  have e1 : wts (give g m w) j i.toNat = wts g j i.toNat := by
    unfold wts
    rw [give_gv, if_neg hne]
    rfl
  rw [e1, give_ts h hm h0 hne]
  rfl
/-- a stamp is learnt -/
theorem TS_know (g : G) (m w : Nat) : ∀ i, TS (know g m w) i = TS g i := by
  intro i
  unfold TS
  have e2 : mx (know g m w) i.toNat = mx g i.toNat := mxN_congr (g := g) (g' := know g m w) _ fun _ _ => rfl
  rw [e2]
  rfl
theorem TW_know {m w : Nat} (hw : wts g m w = true) : ∀ i, TW (know g m w) m i = putT (TW g m) (w : Int) (waV (fin g w) true) i := by
  intro i
  by_cases e : i = (w : Int)
  · subst e
    rw [TW_at (show wts (know g m w) m w = true from hw), know_ts_self]
    have e1 : (know g m w).kn w m = true := by rw [know_kn, if_pos ⟨rfl, rfl⟩]
    rw [e1]
    unfold putT
    rw [if_pos rfl]
  · unfold putT
    rw [if_neg e]
    unfold TW
    by_cases z : 0 ≤ i
    · have hne : ¬ (i.toNat = w ∧ m = m) := fun q => e (by omega)
      have e1 : (know g m w).kn i.toNat m = g.kn i.toNat m := by rw [know_kn, if_neg hne]
      rw [know_ts hne, know_wts, e1]
    · rw [if_neg (fun y => z y.1), if_neg (fun y => z y.1)]
theorem TW_know_other {m w j : Nat} (hj : j ≠ m) : ∀ i, TW (know g m w) j i = TW g j i := by
  intro i
  unfold TW
  have hne : ¬ (i.toNat = w ∧ j = m) := fun q => hj q.2
  have e1 : (know g m w).kn i.toNat j = g.kn i.toNat j := by rw [know_kn, if_neg hne]
  rw [know_ts hne, know_wts, e1]
/-- one is heard -/
theorem TS_hear (g : G) (m b : Nat) : ∀ i, TS (hear g m b) i = TS g i := by
  intro i
  unfold TS
  have e2 : mx (hear g m b) i.toNat = mx g i.toNat := mxN_congr (g := g) (g' := hear g m b) _ fun _ _ => rfl
  rw [e2]
  rfl
theorem TW_hear (g : G) (m b : Nat) : ∀ i, TW (hear g m b) m i = delT (TW g m) (b : Int) i := by
  intro i
  unfold delT TW
  rw [hear_ts]
  by_cases e : i = (b : Int)
  · rw [if_pos e, if_neg]
    rintro ⟨_, q⟩
    exact (hear_wts.1 q).2 ⟨rfl, by omega⟩
  · rw [if_neg e]
    by_cases q : 0 ≤ i ∧ wts g m i.toNat = true
    · rw [if_pos q, if_pos ⟨q.1, hear_wts.2 ⟨q.2, fun z => e (by omega)⟩⟩]
      rfl
    · rw [if_neg q, if_neg (fun z => q ⟨z.1, (hear_wts.1 z.2).1⟩)]
theorem TW_hear_other {m b j : Nat} (hj : j ≠ m) : ∀ i, TW (hear g m b) j i = TW g j i := by
  intro i
  unfold TW
  rw [hear_ts]
  have e : wts (hear g m b) j i.toNat = wts g j i.toNat := by
    rw [Bool.eq_iff_iff, hear_wts]
    exact ⟨fun q => q.1, fun q => ⟨q, fun z => hj z.1⟩⟩
  rw [e]
  rfl
/-- the least one, whichever way it was found -/
theorem best_is (h : Inv0 g) {m r : Nat} (hr : (r = 0 ∧ ∀ v, wts g m v = false) ∨ (wts g m r = true ∧ ∀ v, wts g m v = true → les (ts g m v) (ts g m r) = false)) : r = best g m 30 := by
  rcases hr with ⟨rfl, hn⟩ | ⟨hw, hl⟩
  · refine Decidable.byContradiction fun q => ?_
    have := best_wts (g := g) (m := m) 30 (fun e => q e.symm)
    rw [hn] at this
    cases this
  · obtain ⟨a, b, _⟩ := h.wtsR hw
    rcases best_least h 30 r a b hw with q | q
    · exact q
    · have hb : best g m 30 ≠ 0 := fun z => by
        have := best_none 30 z r a b
        rw [hw] at this
        cases this
      rw [hl _ (best_wts 30 hb)] at q
      cases q
/-- how many words were said -/
theorem cnt_also {w : Nat} (hw : g.was w = false) (h1 : 1 ≤ w) : ∀ k, cnt (also g w) k = if w ≤ k then cnt g k + 1 else cnt g k := by
  intro k
  induction k with
  | zero => rw [if_neg (by omega)]; rfl
  | succ k ih =>
    unfold cnt
    rw [ih]
    have e : (also g w).was (k + 1) = if k + 1 = w then true else g.was (k + 1) := rfl
    rw [e]
    by_cases q : k + 1 = w
    · rw [if_pos q, if_neg (by omega), if_pos (by omega), q, hw]
      simp
    · rw [if_neg q]
      by_cases z : w ≤ k
      · rw [if_pos z, if_pos (by omega)]
        omega
      · rw [if_neg z, if_neg (by omega)]
theorem cnt_leA (g : G) (k : Nat) : cnt g k ≤ k := by
  induction k with
  | zero => exact Nat.le_refl _
  | succ k ih =>
    unfold cnt
    cases g.was (k + 1) <;> simp <;> omega
end Go.Proofs.Ytcccheeeagphpag.Agr

/-
  The program's group in memory: a block, a map of what was said, a map of what waits a member, a row of what it heard a member.
-/
namespace Go.Proofs.Ytcccheeeagphpag.Agr
open Go.RowKit Go.Maps
open Go.Proofs.Ytcccheeeagphpag.Fif (own_lt own_block own_form own_mono own_vw ret_bool)
open Go.Proofs.Ytcccheeeagphpag.MapV (MM putT delT turned_below g_of_turned)
open Go.Proofs.Ytcccheeeagphpag.Sep (KpL NewL)
set_option linter.unusedVariables false

/-- what is kept -/
structure Rc where
  n : Nat
  S : Int → Option Value
  cS : Nat
  W : Nat → Int → Option Value
  cW : Nat → Nat
  most : Nat → Nat
  hd : Nat → List Nat
def up {α : Type} (f : Nat → α) (m : Nat) (x : α) : Nat → α := fun i => if i = m then x else f i
theorem up_same {α : Type} (f : Nat → α) (m : Nat) (x : α) : up f m x m = x := if_pos rfl
theorem up_other {α : Type} (f : Nat → α) {m i : Nat} (x : α) (h : i ≠ m) : up f m x i = f i := if_neg h
def av (r : Rc) (mS : Nat) (mb : Nat → Nat) (hv : Nat → Value) (k : Nat) : Value :=
  if k = 0 then .int .i64 (r.n : Int) else if k = 1 then .map (some mS) else if k < 7 then .int .i64 (r.most (k - 2) : Int) else if k < 12 then (if k - 7 < r.n then .map (some (mb (k - 7))) else .map none) else hv (k - 12)
abbrev Lw (w : World) (base : Nat) (v : Value) (l : List Nat) : Prop := w.ownsRow base 3 1 v l.length ((ints l).map (Value.int .i64))
structure AF (w : World) (base P mS : Nat) (mb : Nat → Nat) (hv : Nat → Value) (r : Rc) : Prop where
  row : w.rowIs P 61 17 (av r mS mb hv)
  said : MM w mS r.S r.cS
  wait : ∀ i, i < r.n → MM w (mb i) (r.W i) (r.cW i)
  hd : ∀ i, i < 5 → Lw w base (hv i) (r.hd i)
  low : base ≤ P ∧ base ≤ mS ∧ ∀ i, i < r.n → base ≤ mb i
  five : r.n ≤ 5
  dS : ∀ i, i < r.n → mb i ≠ mS
  dW : ∀ i j, i < r.n → j < r.n → i ≠ j → mb i ≠ mb j
  dH : ∀ i j, i < 5 → j < 5 → i ≠ j → ∀ b, (hv i).ownBlock = some b → (hv j).ownBlock ≠ some b
def fpA (P mS n : Nat) (mb : Nat → Nat) (hv : Nat → Value) : List Nat := P :: mS :: ((List.range n).map mb ++ (List.range 5).filterMap fun i => (hv i).ownBlock)
theorem fpA_iff {P mS n : Nat} {mb : Nat → Nat} {hv : Nat → Value} {b : Nat} : b ∈ fpA P mS n mb hv ↔ b = P ∨ b = mS ∨ (∃ i, i < n ∧ mb i = b) ∨ ∃ i, i < 5 ∧ (hv i).ownBlock = some b := by
  simp [fpA]
variable {w w' : World} {base P mS : Nat} {mb : Nat → Nat} {hv : Nat → Value} {r : Rc}
theorem AF.c0 (h : AF w base P mS mb hv r) : w.cell? ⟨P, 0, none⟩ = some (.int .i64 (r.n : Int)) := World.rowIs.cell h.row (i := 0) (by omega)
theorem AF.c1 (h : AF w base P mS mb hv r) : w.cell? ⟨P, 1, none⟩ = some (.map (some mS)) := World.rowIs.cell h.row (i := 1) (by omega)
theorem AF.fr (h : AF w base P mS mb hv r) (k : Nat) : w.frozen? ⟨P, k, none⟩ = false := World.rowIs.frozen h.row k
theorem AF.cl (h : AF w base P mS mb hv r) {m : Nat} (hm : m < 5) : w.cell? ⟨P, 2 + m, none⟩ = some (.int .i64 (r.most m : Int)) := by
  rw [World.rowIs.cell h.row (i := 2 + m) (by omega)]
  unfold av
  rw [if_neg (by omega), if_neg (by omega), if_pos (by omega), show 2 + m - 2 = m by omega]
theorem AF.cw (h : AF w base P mS mb hv r) {m : Nat} (hm : m < r.n) : w.cell? ⟨P, 7 + m, none⟩ = some (.map (some (mb m))) := by
  have := h.five
  rw [World.rowIs.cell h.row (i := 7 + m) (by omega)]
  unfold av
  rw [if_neg (by omega), if_neg (by omega), if_neg (by omega), if_pos (by omega), show 7 + m - 7 = m by omega, if_pos hm]
theorem AF.ch (h : AF w base P mS mb hv r) {m : Nat} (hm : m < 5) : w.cell? ⟨P, 12 + m, none⟩ = some (hv m) := by
  rw [World.rowIs.cell h.row (i := 12 + m) (by omega)]
  unfold av
  rw [if_neg (by omega), if_neg (by omega), if_neg (by omega), if_neg (by omega), show 12 + m - 12 = m by omega]
theorem AF.lt (h : AF w base P mS mb hv r) : P < w.heap.size := World.rowIs.lt h.row
theorem own_ne {b t : Nat} {f : Nat → Value} {q n : Nat} (h : w.rowIs P t n f) (ht : t ≠ 3) {v : Value} {l : List Nat} (o : Lw w q v l) (hb : v.ownBlock = some b) : b ≠ P := by
  rcases o.2 with ⟨h2, _⟩ | ⟨g', cap', cur, hv, hbg, hh, _⟩
  · rw [h2] at hb; cases hb
  · rw [hv] at hb
    have : g' = b := by simpa [Value.ownBlock] using hb
    subst this
    obtain ⟨c, hc, _⟩ := h
    intro e
    rw [e, hc] at hh
    injection hh with hh
    injection hh with _ q _
    exact ht q
theorem AF.fp (h : AF w base P mS mb hv r) : ∀ b ∈ fpA P mS r.n mb hv, base ≤ b ∧ b < w.heap.size := by
  intro b hb
  rcases fpA_iff.1 hb with rfl | rfl | ⟨i, hi, rfl⟩ | ⟨i, hi, q⟩
  · exact ⟨h.low.1, h.lt⟩
  · exact ⟨h.low.2.1, h.said.lt⟩
  · exact ⟨h.low.2.2 i hi, (h.wait i hi).lt⟩
  · exact own_lt (h.hd i hi) b q
theorem AF.of_blocks (h : AF w base P mS mb hv r) (hk : ∀ b ∈ fpA P mS r.n mb hv, w'.heap[b]? = w.heap[b]?) : AF w' base P mS mb hv r :=
  { row := World.rowIs.of_block h.row (hk P (fpA_iff.2 (.inl rfl)))
    said := h.said.of_block (hk mS (fpA_iff.2 (.inr (.inl rfl))))
    wait := fun i hi => (h.wait i hi).of_block (hk _ (fpA_iff.2 (.inr (.inr (.inl ⟨i, hi, rfl⟩)))))
    hd := fun i hi => own_block (h.hd i hi) fun k q => hk k (fpA_iff.2 (.inr (.inr (.inr ⟨i, hi, q⟩))))
    low := h.low, five := h.five, dS := h.dS, dW := h.dW, dH := h.dH }
theorem AF.later (h : AF w base P mS mb hv r) (hb : Below w.heap.size w w') : AF w' base P mS mb hv r := h.of_blocks fun b q => hb.block b (h.fp b q).2
theorem AF.heap (h : AF w base P mS mb hv r) (e : w'.heap = w.heap) : AF w' base P mS mb hv r := h.of_blocks fun b _ => by rw [e]
theorem AF.lower (h : AF w base P mS mb hv r) {base' : Nat} (hb : base' ≤ base) : AF w base' P mS mb hv r :=
  { row := h.row, said := h.said, wait := h.wait, hd := fun i hi => own_mono (h.hd i hi) hb
    low := ⟨Nat.le_trans hb h.low.1, Nat.le_trans hb h.low.2.1, fun i hi => Nat.le_trans hb (h.low.2.2 i hi)⟩, five := h.five, dS := h.dS, dW := h.dW, dH := h.dH }
/-- a cell of the block is stored: the rest stays -/
theorem AF.other (h : AF w base P mS mb hv r) (hk : ∀ b, b ≠ P → w'.heap[b]? = w.heap[b]?) : MM w' mS r.S r.cS ∧ (∀ i, i < r.n → MM w' (mb i) (r.W i) (r.cW i)) ∧ ∀ i, i < 5 → Lw w' base (hv i) (r.hd i) :=
  ⟨h.said.of_block (hk _ (h.said.row h.row).symm), fun i hi => (h.wait i hi).of_block (hk _ ((h.wait i hi).row h.row).symm), fun i hi => own_block (h.hd i hi) fun k q => hk k (own_ne h.row (by decide) (h.hd i hi) q)⟩
theorem AF.setLast (h : AF w base P mS mb hv r) {m : Nat} (hm : m < 5) (y : Nat) : AF (w.setCell ⟨P, 2 + m, none⟩ (.int .i64 (y : Int))) base P mS mb hv { r with most := up r.most m y } := by
  obtain ⟨a, b, c⟩ := h.other (w' := w.setCell ⟨P, 2 + m, none⟩ (.int .i64 (y : Int))) fun b hb => Deep.blk_setCell_other _ _ _ _ hb
  refine { row := (World.rowIs.set h.row (2 + m) _).congr fun k hk => ?_, said := a, wait := b, hd := c, low := h.low, five := h.five, dS := h.dS, dW := h.dW, dH := h.dH }
  unfold av
  by_cases e : k = 2 + m
  · rw [if_pos e, if_neg (by omega), if_neg (by omega), if_pos (by omega)]
    show _ = Value.int .i64 ((up r.most m y (k - 2) : Nat) : Int)
    rw [show k - 2 = m by omega, up_same]
  · rw [if_neg e]
    by_cases e0 : k = 0
    · rw [if_pos e0, if_pos e0]
    · rw [if_neg e0, if_neg e0]
      by_cases e1 : k = 1
      · rw [if_pos e1, if_pos e1]
      · rw [if_neg e1, if_neg e1]
        by_cases e7 : k < 7
        · rw [if_pos e7, if_pos e7]
          show _ = Value.int .i64 ((up r.most m y (k - 2) : Nat) : Int)
          rw [up_other _ _ (show k - 2 ≠ m by omega)]
        · rw [if_neg e7, if_neg e7]
theorem AF.turnS (h : AF w base P mS mb hv r) {S' : Int → Option Value} {c' : Nat} (hm : MM w' mS S' c') (ht : w.mapTurned w' mS) : AF w' base P mS mb hv { r with S := S', cS := c' } := by
  have hk : ∀ b, b < w.heap.size → b ≠ mS → w'.heap[b]? = w.heap[b]? := fun b hb hne => g_of_turned ht hb hne
  exact
  { row := World.rowIs.of_block h.row (hk P h.lt (h.said.row h.row))
    said := hm
    wait := fun i hi => (h.wait i hi).of_block (hk _ (h.wait i hi).lt (h.dS i hi))
    hd := fun i hi => own_block (h.hd i hi) fun k q => hk k (own_lt (h.hd i hi) k q).2 fun e => h.said.own (h.hd i hi) (by rw [q, e])
    low := h.low, five := h.five, dS := h.dS, dW := h.dW, dH := h.dH }
theorem AF.turnW (h : AF w base P mS mb hv r) {m : Nat} (hmn : m < r.n) {T' : Int → Option Value} {c' : Nat} (hm : MM w' (mb m) T' c') (ht : w.mapTurned w' (mb m)) : AF w' base P mS mb hv { r with W := up r.W m T', cW := up r.cW m c' } := by
  have hk : ∀ b, b < w.heap.size → b ≠ mb m → w'.heap[b]? = w.heap[b]? := fun b hb hne => g_of_turned ht hb hne
  exact
  { row := World.rowIs.of_block h.row (hk P h.lt ((h.wait m hmn).row h.row))
    said := h.said.of_block (hk _ h.said.lt (h.dS m hmn).symm)
    wait := fun i hi => (by
      show MM w' (mb i) (up r.W m T' i) (up r.cW m c' i)
      by_cases e : i = m
      · subst e
        rw [up_same, up_same]
        exact hm
      · rw [up_other _ _ e, up_other _ _ e]
        exact (h.wait i hi).of_block (hk _ (h.wait i hi).lt (h.dW i m hi hmn e)))
    hd := fun i hi => own_block (h.hd i hi) fun k q => hk k (own_lt (h.hd i hi) k q).2 fun e => (h.wait m hmn).own (h.hd i hi) (by rw [q, e])
    low := h.low, five := h.five, dS := h.dS, dW := h.dW, dH := h.dH }
theorem AF.setHd (h : AF w base P mS mb hv r) {m : Nat} (hm : m < 5) {v : Value} {l : List Nat} (hg : w.grownBy w' (hv m).ownBlock) (ho : Lw w' base v l) (hn : ∀ b, v.ownBlock = some b → (hv m).ownBlock = some b ∨ w.heap.size ≤ b) : AF (w'.setCell ⟨P, 12 + m, none⟩ v) base P mS mb (up hv m v) { r with hd := up r.hd m l } := by
  have hk : ∀ b, b < w.heap.size → (hv m).ownBlock ≠ some b → w'.heap[b]? = w.heap[b]? := fun b hb hne => hg.block b hb (fun q => hne q.symm)
  have hk2 : ∀ b, b < w.heap.size → b ≠ P → (hv m).ownBlock ≠ some b → (w'.setCell ⟨P, 12 + m, none⟩ v).heap[b]? = w.heap[b]? := fun b hb hp hne => by rw [Deep.blk_setCell_other _ _ _ _ hp]; exact hk b hb hne
  have hP : (hv m).ownBlock ≠ some P := fun q => own_ne h.row (by decide) (h.hd m hm) q rfl
  have hr := World.rowIs.of_block h.row (hk P h.lt hP)
  have hvP : ∀ b, v.ownBlock = some b → b ≠ P := fun b q e => by
    rcases hn b q with z | z
    · rw [e] at z; exact hP z
    · have := h.lt; omega
  refine
  { row := (World.rowIs.set hr (12 + m) _).congr fun k hk => ?_
    said := h.said.of_block (hk2 _ h.said.lt (h.said.row h.row).symm (h.said.own (h.hd m hm)))
    wait := fun i hi => (h.wait i hi).of_block (hk2 _ (h.wait i hi).lt ((h.wait i hi).row h.row).symm ((h.wait i hi).own (h.hd m hm)))
    hd := fun i hi => ?_
    low := h.low, five := h.five, dS := h.dS, dW := h.dW
    dH := fun i j hi hj hne b q q' => ?_ }
  · unfold av
    by_cases e : k = 12 + m
    · rw [if_pos e, if_neg (by omega), if_neg (by omega), if_neg (by omega), if_neg (by omega), show k - 12 = m by omega, up_same]
    · rw [if_neg e]
      by_cases e0 : k = 0
      · rw [if_pos e0, if_pos e0]
      · rw [if_neg e0, if_neg e0]
        by_cases e1 : k = 1
        · rw [if_pos e1, if_pos e1]
        · rw [if_neg e1, if_neg e1]
          by_cases e7 : k < 7
          · rw [if_pos e7, if_pos e7]
          · rw [if_neg e7, if_neg e7]
            by_cases e12 : k < 12
            · rw [if_pos e12, if_pos e12]
            · rw [if_neg e12, if_neg e12, up_other _ _ (show k - 12 ≠ m by omega)]
  · show Lw _ base (up hv m v i) (up r.hd m l i)
    by_cases e : i = m
    · rw [e, up_same, up_same]
      exact own_block ho fun b q => Deep.blk_setCell_other _ _ _ _ (hvP b q)
    · rw [up_other _ _ e, up_other _ _ e]
      exact own_block (h.hd i hi) fun b q => hk2 b (own_lt (h.hd i hi) b q).2 (own_ne h.row (by decide) (h.hd i hi) q) (h.dH i m hi hm e b q)
  · by_cases e : i = m
    · subst e
      rw [up_same] at q
      rw [up_other _ _ (show j ≠ i from fun z => hne z.symm)] at q'
      rcases hn b q with z | z
      · exact h.dH i j hi hj hne b z q'
      · have := (own_lt (h.hd j hj) b q').2; omega
    · rw [up_other _ _ e] at q
      by_cases e2 : j = m
      · subst e2
        rw [up_same] at q'
        rcases hn b q' with z | z
        · exact h.dH i j hi hj hne b q z
        · have := (own_lt (h.hd i hi) b q).2; omega
      · rw [up_other _ _ e2] at q'
        exact h.dH i j hi hj hne b q q'
/-- the same, in other words -/
theorem AF.congr (h : AF w base P mS mb hv r) {r' : Rc} (en : r'.n = r.n) (eS : ∀ i, r'.S i = r.S i) (ec : r'.cS = r.cS) (eW : ∀ m, m < r.n → ∀ i, r'.W m i = r.W m i) (ecw : ∀ m, m < r.n → r'.cW m = r.cW m) (em : ∀ m, m < 5 → r'.most m = r.most m) (eh : ∀ m, m < 5 → r'.hd m = r.hd m) : AF w base P mS mb hv r' := by
  refine { row := h.row.congr fun k hk => ?_, said := h.said.congr eS ec, wait := fun i hi => (h.wait i (by omega)).congr (eW i (by omega)) (ecw i (by omega)), hd := fun i hi => (by rw [eh i hi]; exact h.hd i hi), low := ⟨h.low.1, h.low.2.1, fun i hi => h.low.2.2 i (by omega)⟩, five := (by rw [en]; exact h.five), dS := fun i hi => h.dS i (by omega), dW := fun i j hi hj => h.dW i j (by omega) (by omega), dH := h.dH }
  unfold av
  rw [en]
  by_cases e7 : k < 7
  · rw [if_pos e7, if_pos e7]
    by_cases e0 : k = 0
    · rw [if_pos e0, if_pos e0]
    · by_cases e1 : k = 1
      · rw [if_pos e1, if_pos e1]
      · rw [if_neg e0, if_neg e1, if_neg e0, if_neg e1, em _ (by omega)]
  · rw [if_neg e7, if_neg e7]

/-! what a call leaves alone -/
abbrev KA (w w' : World) (P mS n : Nat) (mb : Nat → Nat) (hv : Nat → Value) : Prop := KpL w w' (fpA P mS n mb hv)
theorem kp_refl (w : World) (fp : List Nat) : KpL w w fp := ⟨Nat.le_refl _, fun _ _ _ => rfl⟩
theorem kp_trans {w1 w2 w3 : World} {fp : List Nat} (h : KpL w1 w2 fp) (h' : KpL w2 w3 fp) : KpL w1 w3 fp := ⟨Nat.le_trans h.1 h'.1, fun b hb hn => (h'.2 b (Nat.lt_of_lt_of_le hb h.1) hn).trans (h.2 b hb hn)⟩
theorem kp_turned {b : Nat} {fp : List Nat} (h : w.mapTurned w' b) (hb : b ∈ fp) : KpL w w' fp := ⟨h.grown.size, fun k hk hn => g_of_turned h hk (fun e => hn (by rw [e]; exact hb))⟩
theorem kp_set {fp : List Nat} (w : World) (i : Nat) (v : Value) (hb : P ∈ fp) : KpL w (w.setCell ⟨P, i, none⟩ v) fp := ⟨by simp [World.setCell], fun b _ hn => Deep.blk_setCell_other _ _ _ _ (fun e => hn (by rw [e]; exact hb))⟩
theorem kp_heapA {w1 w2 w3 : World} {fp : List Nat} (h : KpL w1 w2 fp) (e : w3.heap = w2.heap) : KpL w1 w3 fp := ⟨by rw [e]; exact h.1, fun b hb hn => by rw [e]; exact h.2 b hb hn⟩
theorem kp_grown {o : Option Nat} {fp : List Nat} (h : w.grownBy w' o) (ho : ∀ b, o = some b → b ∈ fp) : KpL w w' fp := ⟨h.size, fun b hb hn => h.block b hb fun q => hn (ho b q.symm)⟩
theorem P_fp {n : Nat} : P ∈ fpA P mS n mb hv := fpA_iff.2 (.inl rfl)
theorem S_fp {n : Nat} : mS ∈ fpA P mS n mb hv := fpA_iff.2 (.inr (.inl rfl))
theorem W_fp {n i : Nat} (hi : i < n) : mb i ∈ fpA P mS n mb hv := fpA_iff.2 (.inr (.inr (.inl ⟨i, hi, rfl⟩)))
theorem H_fp {n i b : Nat} (hi : i < 5) (q : (hv i).ownBlock = some b) : b ∈ fpA P mS n mb hv := fpA_iff.2 (.inr (.inr (.inr ⟨i, hi, q⟩)))
theorem new_up {n m : Nat} {v : Value} (hm : m < 5) (hn : ∀ b, v.ownBlock = some b → (hv m).ownBlock = some b ∨ w.heap.size ≤ b) : NewL w (fpA P mS n mb hv) (fpA P mS n mb (up hv m v)) := by
  intro b hb
  rcases fpA_iff.1 hb with rfl | rfl | ⟨i, hi, rfl⟩ | ⟨i, hi, q⟩
  · exact .inl P_fp
  · exact .inl S_fp
  · exact .inl (W_fp hi)
  · by_cases e : i = m
    · rw [e, up_same] at q
      rcases hn b q with z | z
      · exact .inl (H_fp hm z)
      · exact .inr z
    · rw [up_other _ _ e] at q
      exact .inl (H_fp hi q)

/-! the group that it shows -/
def rc (g : G) (cW : Nat → Nat) : Rc := ⟨g.n, TS g, cnt g 30, TW g, cW, g.most, g.hd⟩
def AS (w : World) (base P : Nat) (g : G) (fp : List Nat) : Prop := ∃ mS mb hv cW, fp = fpA P mS g.n mb hv ∧ AF w base P mS mb hv (rc g cW) ∧ ∀ i, i < g.n → cW i ≤ g.most i
theorem AS.of_blocks {w w' : World} {base P : Nat} {g : G} {fp : List Nat} (h : AS w base P g fp) (hs : w.heap.size ≤ w'.heap.size) (hk : ∀ b ∈ fp, w'.heap[b]? = w.heap[b]?) : AS w' base P g fp := by
  obtain ⟨mS, mb, hv, cW, rfl, h, hc⟩ := h
  exact ⟨mS, mb, hv, cW, rfl, h.of_blocks hk, hc⟩
theorem AS.fp {w : World} {base P : Nat} {g : G} {fp : List Nat} (h : AS w base P g fp) : ∀ b ∈ fp, base ≤ b ∧ b < w.heap.size := by
  obtain ⟨mS, mb, hv, cW, rfl, h, hc⟩ := h
  exact h.fp
theorem AS.lower {w : World} {base base' P : Nat} {g : G} {fp : List Nat} (h : AS w base P g fp) (hb : base' ≤ base) : AS w base' P g fp := by
  obtain ⟨mS, mb, hv, cW, rfl, h, hc⟩ := h
  exact ⟨mS, mb, hv, cW, rfl, h.lower hb, hc⟩
end Go.Proofs.Ytcccheeeagphpag.Agr

/-
  Contracts of slices.Index, Contains and Clone over numbers, of cmp.Compare and Or, and of package agree's compare.
-/
namespace Go.Proofs.Ytcccheeeagphpag.Agr
open Go.RowKit Go.Maps
open Go.Proofs.Ytcccheeeagphpag.Fif (own_lt own_block own_form own_mono own_vw ret_bool info_int)
open Go.Proofs.Ytcccheeeagphpag.Vec (Vw)
open Go.Proofs.Ytcccheeeagphpag.MapV (MM putT delT)
set_option linter.unusedVariables false

theorem rtI {a b : Int} (h : a = b) : Ending.returned (.int .i64 a) = .returned (.int .i64 b) := by rw [h]
def ixA (xs : List Int) (n : Int) : Int := if n ∈ xs then (xs.findIdx (fun x => x == n) : Nat) else -1
theorem getDA {xs : List Int} {j : Nat} (hj : j < xs.length) : xs.getD j 0 = xs[j] := by simp [List.getD, hj]
theorem ixA_hit {xs : List Int} {n : Int} {k : Nat} (hk : k < xs.length) (hp : xs.getD k 0 = n) (hb : ∀ j, j < k → xs.getD j 0 ≠ n) : ixA xs n = (k : Int) := by
  have hm : n ∈ xs := by rw [← hp, getDA hk]; exact List.getElem_mem hk
  have hi : xs.findIdx (fun x => x == n) = k := by
    rw [List.findIdx_eq hk]
    refine ⟨by rw [← getDA hk, hp]; simp, fun j hj => ?_⟩
    have := hb j hj
    rw [getDA (by omega)] at this
    simpa using this
  rw [ixA, if_pos hm, hi]
theorem ixA_miss {xs : List Int} {n : Int} (hb : ∀ j, j < xs.length → xs.getD j 0 ≠ n) : ixA xs n = -1 := by
  rw [ixA, if_neg]
  intro hm
  obtain ⟨j, hj, e⟩ := List.getElem_of_mem hm
  exact hb j hj (by rw [getDA hj, e])
theorem idxA (a : Option Addr) (len cap : Nat) (xs : List Int) (n : Int) (w : World) (hm : len ≤ maxLen) (hv : Vw w a len xs) :
    Calls Try.prog 58 #[.slice a len cap, .int .i64 n] w fun e w' => e = .returned (.int .i64 (ixA xs n)) ∧ w' = w := by
  unfold maxLen at hm
  have G : Hid (Vw w a len xs) := hv
  clear hv
  go_enter Try.func58, Try.ntmps58
  go_wp2
  go_loopw [8] (fun i wr => ∃ k : Nat, k ≤ len ∧ i = .int .i64 k ∧ wr = w ∧ Hid (∀ j, j < k → xs.getD j 0 ≠ n)) (fun i _ => len - (intOf i).toNat)
  case atStart => exact ⟨0, by omega, rfl, rfl, fun j hj => absurd hj (by omega)⟩
  case round =>
    obtain ⟨k, hk, rfl, rfl, hp⟩ := hrel
    by_cases hlt : k < len
    · obtain ⟨b, off, rfl, _, hcs⟩ := G.out.2 (by omega)
      have c0 := hcs k hlt
      obtain ⟨x, ex⟩ : ∃ x, x = xs.getD k 0 := ⟨_, rfl⟩
      rw [← ex] at c0
      have EX : Hid (x = xs.getD k 0) := ex
      have hk0 : (0 : Int) ≤ (k : Int) := by omega
      have hkl : (k : Int) < (len : Int) := by omega
      clear hcs ex
      by_cases hx : x = n
      · subst hx
        have ht : (x == x) = true := by simp
        go_wp2
        go_ret
        exact ⟨rtI (ixA_hit (by rw [G.out.1]; exact hlt) EX.out.symm hp.out).symm, rfl⟩
      · have ht : (n == x) = false := by simp; exact fun e => hx e.symm
        have HX : Hid (x ≠ n) := hx
        go_wp2
        go_roundw
        case rel => exact ⟨k + 1, by omega, by go_num, by first | rfl | trivial, fun j hj => if e : j < k then hp.out j e else by rw [show j = k by omega, ← EX.out]; exact HX.out⟩
        case measure => simp [intOf]; omega
    · go_wp2
      go_ret
      exact ⟨rtI (ixA_miss fun j hj => hp.out j (by have := G.out.1; omega)).symm, rfl⟩
theorem contA (a : Option Addr) (len cap : Nat) (xs : List Int) (n : Int) (w : World) (hm : len ≤ maxLen) (hv : Vw w a len xs) :
    Calls Try.prog 40 #[.slice a len cap, .int .i64 n] w fun e w' => e = .returned (.bool (xs.contains n)) ∧ w' = w := by
  go_enter Try.func40, Try.ntmps40
  go_wp2_with fail
  refine (idxA a len cap xs n _ hm hv).mono ?_
  rintro e w1 ⟨rfl, rfl⟩
  clear hv
  go_wp2
  go_ret
  refine ⟨ret_bool ?_, rfl⟩
  rw [ixA]
  by_cases hx : n ∈ xs <;> simp [hx]
theorem ints_cont (l : List Nat) (v : Nat) : (ints l).contains (v : Int) = l.contains v := by
  rw [Bool.eq_iff_iff]
  simp [ints]
  constructor
  · rintro ⟨a, ha, e⟩
    have : a = v := by omega
    rwa [← this]
  · intro h
    exact ⟨v, h, rfl⟩
theorem int_empty (w : World) : (w.alloc (.cells #[] 3)).ownsRow w.heap.size 3 1 (.slice (some ⟨w.heap.size, 0, none⟩) 0 0) 0 [] := by
  refine ⟨rfl, .inr ⟨w.heap.size, 0, #[], rfl, Nat.le_refl _, ?_, Nat.le_refl _, by unfold maxLen; omega, rfl, rfl⟩⟩
  show (w.heap.push _)[w.heap.size]? = _
  simp
theorem int_ones (l : List Int) : ∀ u ∈ l.map (Value.int .i64), u.oneCell' = true := by
  intro u hu
  obtain ⟨x, _, rfl⟩ := List.mem_map.1 hu
  rfl
set_option maxRecDepth 100000 in
theorem cloneA (base : Nat) (v : Value) (l : List Nat) (w : World) (g : Lw w base v l) (hl : l.length ≤ 1000000) :
    Calls Try.prog 30 #[v] w fun x w' => ∃ v', x = .returned v' ∧ Lw w' w.heap.size v' l ∧ Below w.heap.size w w' := by
  rcases g.2 with ⟨rfl, h3⟩ | ⟨g0, cap, cur, rfl, hb, hh, hc, hm, hsz, ht⟩
  · have el : l = [] := List.eq_nil_of_length_eq_zero h3
    subst el
    have hnil := fun W : World => Lib.run_eql_slice_nil (P := Try.prog) W 22 3 none 0 0 0 0 Try.underlying22
    clear g hl h3
    go_enter Try.func30, Try.ntmps30
    go_wp2
    go_ret
    exact ⟨_, rfl, World.ownsRow_nil _ _ _ _, Below.refl _ _⟩
  · obtain ⟨n, en⟩ : ∃ n, n = l.length := ⟨_, rfl⟩
    have HN : Hid (n = l.length) := en
    have hlt : g0 < w.heap.size := by
      rcases Nat.lt_or_ge g0 w.heap.size with a | a
      · exact a
      · rw [Array.getElem?_eq_none a] at hh; cases hh
    have HC : Hid (∀ j u, ((ints l).map (Value.int .i64))[j]? = some u → (w.alloc (.cells #[] 3)).cell? ((⟨g0, 0, none⟩ : Addr).add j) = some u) := by
      intro j u hj
      have hjl : j < l.length * 1 := by
        have := (List.getElem?_eq_some_iff.1 hj).1
        rw [List.length_map, ints_len] at this
        omega
      rw [Addr.add_lit, Nat.zero_add]
      refine (((Below.refl w.heap.size w).alloc (Nat.le_refl _) _).cell (p := ⟨g0, j, none⟩) hlt).trans ?_
      rw [← ht, List.getElem?_take_of_lt hjl] at hj
      simp only [World.cell?, hh]
      simpa using hj
    obtain ⟨ie, hi, hz0, hz1, hz2⟩ := info_int
    have HI : Hid (Try.prog.info? 3 = some ie ∧ ie.zero = some (.int .i64 0) ∧ ie.size = 1 ∧ ie.bytes = 8) := ⟨hi, hz0, hz1, hz2⟩
    show Calls _ _ _ _ fun x w' => ∃ v', x = .returned v' ∧ w'.ownsRow w.heap.size 3 1 v' l.length ((ints l).map (Value.int .i64)) ∧ Below w.heap.size w w'
    rw [← en] at hl ⊢
    have hnil := fun W : World => Lib.run_eql_slice_nil (P := Try.prog) W 22 3 (some ⟨g0, 0, none⟩) n cap 0 0 Try.underlying22
    clear g hb hh hc hm hsz ht hi hz0 hz1 hz2 en hlt
    go_enter Try.func30, Try.ntmps30
    go_wp2_with (at_builtin; refine wpList_append_own _ rfl _ _ 22 rfl w.heap.size 3 ie (.int .i64 0) 1 8 Try.underlying22 HI.out.1 HI.out.2.1 HI.out.2.2.1 HI.out.2.2.2 rfl (by decide) _ 0 _ rfl (int_empty w) ⟨g0, 0, none⟩ n cap ((ints l).map (Value.int .i64)) rfl (by rw [List.length_map, ints_len, HN.out, Nat.mul_one]) HC.out (int_ones _) (by unfold maxLen; omega) (by omega) (by simp) ?_; intro v' wn hown hgrow _; rw [Nat.zero_add, List.nil_append] at hown; have HO : Hid (wn.ownsRow w.heap.size 3 1 v' n ((ints l).map (Value.int .i64))) := hown; have HGr : Hid _ := hgrow; clear hown hgrow)
    go_ret
    refine ⟨_, rfl, ?_, ((Below.refl w.heap.size w).alloc (Nat.le_refl _) _).grown HGr.out (by simp) (fun k e => (own_lt (int_empty w) k e).1)⟩
    exact HO.out
/-! which of two stamps is ahead -/
def cmpA (x y : Int) : Int := if x < y then -1 else if y < x then 1 else 0
def orA (x y : Int) : Int := if x = 0 then y else x
def cmS (a b : St) : Int := orA (cmpA (a.1 : Int) (b.1 : Int)) (cmpA (a.2 : Int) (b.2 : Int))
theorem cmS_lt (a b : St) : decide (cmS a b < 0) = les a b := by
  rw [Bool.eq_iff_iff, decide_eq_true_iff, les_iff]
  unfold cmS orA cmpA
  rcases Nat.lt_trichotomy a.1 b.1 with h | h | h
  · rw [if_pos (show (a.1 : Int) < (b.1 : Int) by omega)]
    simp [h]
  · rw [if_neg (show ¬ (a.1 : Int) < (b.1 : Int) by omega), if_neg (show ¬ (b.1 : Int) < (a.1 : Int) by omega), if_pos rfl]
    rcases Nat.lt_trichotomy a.2 b.2 with q | q | q
    · rw [if_pos (show (a.2 : Int) < (b.2 : Int) by omega)]
      simp [h, q]
    · rw [if_neg (show ¬ (a.2 : Int) < (b.2 : Int) by omega), if_neg (show ¬ (b.2 : Int) < (a.2 : Int) by omega)]
      constructor
      · intro z; omega
      · intro z; omega
    · rw [if_neg (show ¬ (a.2 : Int) < (b.2 : Int) by omega), if_pos (show (b.2 : Int) < (a.2 : Int) by omega)]
      constructor
      · intro z; omega
      · intro z; omega
  · rw [if_neg (show ¬ (a.1 : Int) < (b.1 : Int) by omega), if_pos (show (b.1 : Int) < (a.1 : Int) by omega), if_neg (by decide)]
    constructor
    · intro z; omega
    · intro z; omega
theorem cmS_gt (a b : St) : decide (cmS a b > 0) = les b a := by
  rw [Bool.eq_iff_iff, decide_eq_true_iff, les_iff]
  unfold cmS orA cmpA
  rcases Nat.lt_trichotomy a.1 b.1 with h | h | h
  · rw [if_pos (show (a.1 : Int) < (b.1 : Int) by omega), if_neg (by decide)]
    constructor
    · intro z; omega
    · intro z; omega
  · rw [if_neg (show ¬ (a.1 : Int) < (b.1 : Int) by omega), if_neg (show ¬ (b.1 : Int) < (a.1 : Int) by omega), if_pos rfl]
    rcases Nat.lt_trichotomy a.2 b.2 with q | q | q
    · rw [if_pos (show (a.2 : Int) < (b.2 : Int) by omega)]
      constructor
      · intro z; omega
      · intro z; omega
    · rw [if_neg (show ¬ (a.2 : Int) < (b.2 : Int) by omega), if_neg (show ¬ (b.2 : Int) < (a.2 : Int) by omega)]
      constructor
      · intro z; omega
      · intro z; omega
    · rw [if_neg (show ¬ (a.2 : Int) < (b.2 : Int) by omega), if_pos (show (b.2 : Int) < (a.2 : Int) by omega)]
      simp [h, q]
  · rw [if_neg (show ¬ (a.1 : Int) < (b.1 : Int) by omega), if_pos (show (b.1 : Int) < (a.1 : Int) by omega), if_neg (by decide)]
    simp [h]
theorem compA (x y : Int) (w : World) : Calls Try.prog 42 #[.int .i64 x, .int .i64 y] w fun e w' => e = .returned (.int .i64 (cmpA x y)) ∧ w' = w := by
  have hx : (x != x) = false := by simp
  have hy : (y != y) = false := by simp
  rcases Int.lt_trichotomy x y with h | h | h
  · have E : Hid (cmpA x y = -1) := if_pos h
    go_enter Try.func42, Try.ntmps42
    go_wp2
    go_ret
    exact ⟨rtI E.out.symm, rfl⟩
  · subst h
    have E : Hid (cmpA x x = 0) := by simp [cmpA, Hid]
    go_enter Try.func42, Try.ntmps42
    go_wp2
    go_ret
    exact ⟨rtI E.out.symm, rfl⟩
  · have h' : ¬ x < y := by omega
    have E : Hid (cmpA x y = 1) := by unfold cmpA; rw [if_neg h', if_pos h]; exact rfl
    go_enter Try.func42, Try.ntmps42
    go_wp2
    go_ret
    exact ⟨rtI E.out.symm, rfl⟩
set_option maxRecDepth 100000 in
theorem or2A (B : Nat) (x y : Int) (w : World) (h0 : w.cell? ⟨B, 0, none⟩ = some (.int .i64 x)) (h1 : w.cell? ⟨B, 1, none⟩ = some (.int .i64 y)) :
    Calls Try.prog 41 #[.slice (some ⟨B, 0, none⟩) 2 2] w fun e w' => e = .returned (.int .i64 (orA x y)) ∧ w' = w := by
  by_cases hx : x = 0
  · subst hx
    by_cases hy : y = 0
    · subst hy
      go_enter Try.func41, Try.ntmps41
      go_wp2
      refine wp_loop_rounds 3 ?_
      rw [rounds_succ]; go_wp2
      rw [rounds_succ]; go_wp2
      rw [rounds_succ]; go_wp2
      go_ret
      exact ⟨rfl, rfl⟩
    · have hy' : (y != 0) = true := by simp [hy]
      have E : Hid (orA 0 y = y) := if_pos rfl
      go_enter Try.func41, Try.ntmps41
      go_wp2
      refine wp_loop_rounds 3 ?_
      rw [rounds_succ]; go_wp2
      rw [rounds_succ]; go_wp2
      go_ret
      exact ⟨rtI E.out.symm, rfl⟩
  · have hx' : (x != 0) = true := by simp [hx]
    have E : Hid (orA x y = x) := if_neg hx
    go_enter Try.func41, Try.ntmps41
    go_wp2
    refine wp_loop_rounds 3 ?_
    rw [rounds_succ]; go_wp2
    go_ret
    exact ⟨rtI E.out.symm, rfl⟩
set_option maxRecDepth 100000 in
set_option maxHeartbeats 1000000 in
theorem cmpZ_any (i0 i1 j0 j1 : Int) (w : World) : Calls Try.prog 25 #[.agg #[.int .i64 i0, .int .i64 i1], .agg #[.int .i64 j0, .int .i64 j1]] w fun e w' => e = .returned (.int .i64 (orA (cmpA i0 j0) (cmpA i1 j1))) ∧ Below w.heap.size w w' := by
  go_enter Try.func25, Try.ntmps25
  go_wp2_with fail
  obtain ⟨W, eW⟩ : ∃ W, W = (w.alloc (Obj.cells #[.int .i64 i0, .int .i64 i1] 41)).alloc (Obj.cells #[.int .i64 j0, .int .i64 j1] 41) := ⟨_, rfl⟩
  have BW : Hid (Below w.heap.size w W) := by rw [eW]; exact ((Below.refl _ _).alloc (Nat.le_refl _) _).alloc (by simp) _
  have c0 : W.cell? ⟨w.heap.size, 0, none⟩ = some (.int .i64 i0) := by rw [eW]; go_cell
  have c1 : W.cell? ⟨w.heap.size, 1, none⟩ = some (.int .i64 i1) := by rw [eW]; go_cell
  have c2 : W.cell? ⟨w.heap.size + 1, 0, none⟩ = some (.int .i64 j0) := by rw [eW]; go_cell
  have c3 : W.cell? ⟨w.heap.size + 1, 1, none⟩ = some (.int .i64 j1) := by rw [eW]; go_cell
  rw [← eW]
  have m0 := World.new_ne W _ c0
  have m1 := World.new_ne W _ c1
  have m2 := World.new_ne W _ c2
  have m3 := World.new_ne W _ c3
  clear eW
  go_region_held3 (fun w' => w'.cell? ⟨w.heap.size, 0, none⟩ = some (.int .i64 i0) ∧ w'.cell? ⟨w.heap.size, 1, none⟩ = some (.int .i64 i1) ∧ w'.cell? ⟨w.heap.size + 1, 0, none⟩ = some (.int .i64 j0) ∧ w'.cell? ⟨w.heap.size + 1, 1, none⟩ = some (.int .i64 j1)) (go_keep)
    (first
      | (go_at_call 42; refine (compA _ _ _).mono ?_; rintro e w' ⟨rfl, rfl⟩)
      | (go_at_call 41; refine (or2A _ (cmpA i0 j0) (cmpA i1 j1) _ ?_ ?_).mono ?_; (simp); (simp); rintro e w' ⟨rfl, rfl⟩))
  all_goals go_wp2
  go_ret
  exact ⟨rfl, (((BW.out.alloc BW.out.size _)).drew)⟩
end Go.Proofs.Ytcccheeeagphpag.Agr

/-
  Contracts of package agree's small functions: isWord, has, wasSaid, check, gave, learnt, allGave.
-/
namespace Go.Proofs.Ytcccheeeagphpag.Agr
open Go.RowKit Go.Maps
open Go.Proofs.Ytcccheeeagphpag.Fif (own_lt own_block own_form own_mono own_vw ret_bool info_int)
open Go.Proofs.Ytcccheeeagphpag.Vec (Vw)
open Go.Proofs.Ytcccheeeagphpag.MapV (MM putT delT wfI)
set_option linter.unusedVariables false

theorem zeroS (W : World) : (zeroValue 41).run Try.prog W = .ok (stV (0, 0)) W := by kernel_rfl
theorem zeroW (W : World) : (zeroValue 71).run Try.prog W = .ok (waV (0, 0) false) W := by kernel_rfl
theorem wordA_any (x : Int) (w : World) : Calls Try.prog 21 #[.int .i64 x] w fun e w' => e = .returned (.bool (decide (1 ≤ x ∧ x ≤ 30))) ∧ w' = w := by
  by_cases h1 : 1 ≤ x
  · by_cases h2 : x ≤ 30
    · rw [decide_eq_true (show 1 ≤ x ∧ x ≤ 30 from ⟨h1, h2⟩)]
      go_enter Try.func21, Try.ntmps21
      go_wp2
      go_ret
      exact ⟨rfl, rfl⟩
    · rw [decide_eq_false (show ¬ (1 ≤ x ∧ x ≤ 30) from fun q => h2 q.2)]
      go_enter Try.func21, Try.ntmps21
      go_wp2
      go_ret
      exact ⟨rfl, rfl⟩
  · rw [decide_eq_false (show ¬ (1 ≤ x ∧ x ≤ 30) from fun q => h1 q.1)]
    go_enter Try.func21, Try.ntmps21
    go_wp2
    go_ret
    exact ⟨rfl, rfl⟩
variable {w w' : World} {base P mS : Nat} {mb : Nat → Nat} {hv : Nat → Value} {r : Rc}
theorem has_any (h : AF w base P mS mb hv r) (x : Int) : Calls Try.prog 29 #[.pointer (some ⟨P, 0, none⟩), .int .i64 x] w fun e w' => e = .returned (.bool (decide (0 ≤ x ∧ x < (r.n : Int)))) ∧ w' = w := by
  have c0 := h.c0
  obtain ⟨n, en⟩ : ∃ n : Int, n = (r.n : Int) := ⟨_, rfl⟩
  rw [← en] at c0 ⊢
  clear h en
  by_cases h1 : 0 ≤ x
  · by_cases h2 : x < n
    · rw [decide_eq_true (show 0 ≤ x ∧ x < n from ⟨h1, h2⟩)]
      go_enter Try.func29, Try.ntmps29
      go_wp2
      go_ret
      exact ⟨rfl, rfl⟩
    · rw [decide_eq_false (show ¬ (0 ≤ x ∧ x < n) from fun q => h2 q.2)]
      go_enter Try.func29, Try.ntmps29
      go_wp2
      go_ret
      exact ⟨rfl, rfl⟩
  · rw [decide_eq_false (show ¬ (0 ≤ x ∧ x < n) from fun q => h1 q.1)]
    go_enter Try.func29, Try.ntmps29
    go_wp2
    go_ret
    exact ⟨rfl, rfl⟩
theorem AF.lkS {s : Option St} (h : AF w base P mS mb hv r) {x : Int} (hx : (Lit.int .i64 x).wf = true) (hs : r.S x = s.map stV) : ∀ W : World, W.heap[mS]? = w.heap[mS]? → (Instr.lookup 55 (.map (some mS)) (.int .i64 x) true).run Try.prog W = .ok (.tuple #[.agg #[.int .i64 ((s.getD (0, 0)).1 : Int), .int .i64 ((s.getD (0, 0)).2 : Int)], .bool s.isSome]) W := by
  intro W hW
  have hlk := h.said.look_ok Try.underlying55 zeroS hx W hW
  rw [hs] at hlk
  cases s <;> exact hlk
theorem AF.lkS1 {s : Option St} (h : AF w base P mS mb hv r) {x : Int} (hx : (Lit.int .i64 x).wf = true) (hs : r.S x = s.map stV) : ∀ W : World, W.heap[mS]? = w.heap[mS]? → (Instr.lookup 55 (.map (some mS)) (.int .i64 x) false).run Try.prog W = .ok (.agg #[.int .i64 ((s.getD (0, 0)).1 : Int), .int .i64 ((s.getD (0, 0)).2 : Int)]) W := by
  intro W hW
  have hlk := h.said.look Try.underlying55 zeroS hx W hW
  rw [hs] at hlk
  cases s <;> exact hlk
abbrev waP (p : St × Bool) : Value := waV p.1 p.2
theorem AF.lkW {s : Option (St × Bool)} (h : AF w base P mS mb hv r) {m : Nat} (hm : m < r.n) {x : Int} (hx : (Lit.int .i64 x).wf = true) (hs : r.W m x = s.map waP) : ∀ W : World, W.heap[mb m]? = w.heap[mb m]? → (Instr.lookup 57 (.map (some (mb m))) (.int .i64 x) true).run Try.prog W = .ok (.tuple #[.agg #[.int .i64 ((s.getD ((0, 0), false)).1.1 : Int), .int .i64 ((s.getD ((0, 0), false)).1.2 : Int), .bool (s.getD ((0, 0), false)).2], .bool s.isSome]) W := by
  intro W hW
  have hlk := (h.wait m hm).look_ok Try.underlying57 zeroW hx W hW
  rw [hs] at hlk
  cases s <;> exact hlk
theorem AF.lkW1 {s : Option (St × Bool)} (h : AF w base P mS mb hv r) {m : Nat} (hm : m < r.n) {x : Int} (hx : (Lit.int .i64 x).wf = true) (hs : r.W m x = s.map waP) : ∀ W : World, W.heap[mb m]? = w.heap[mb m]? → (Instr.lookup 57 (.map (some (mb m))) (.int .i64 x) false).run Try.prog W = .ok (.agg #[.int .i64 ((s.getD ((0, 0), false)).1.1 : Int), .int .i64 ((s.getD ((0, 0), false)).1.2 : Int), .bool (s.getD ((0, 0), false)).2]) W := by
  intro W hW
  have hlk := (h.wait m hm).look Try.underlying57 zeroW hx W hW
  rw [hs] at hlk
  cases s <;> exact hlk
set_option maxRecDepth 100000 in
theorem saidA_any {s : Option St} (h : AF w base P mS mb hv r) (x : Int) (hx : (Lit.int .i64 x).wf = true) (hs : r.S x = s.map stV) : Calls Try.prog 22 #[.pointer (some ⟨P, 0, none⟩), .int .i64 x] w fun e w' => e = .returned (.bool s.isSome) ∧ Below w.heap.size w w' := by
  have c1 := h.c1
  have hlk := h.lkS hx hs w rfl
  obtain ⟨a, ea⟩ : ∃ a : Int, a = ((s.getD (0, 0)).1 : Int) := ⟨_, rfl⟩
  obtain ⟨b, eb⟩ : ∃ b : Int, b = ((s.getD (0, 0)).2 : Int) := ⟨_, rfl⟩
  obtain ⟨c, ec⟩ : ∃ c, c = s.isSome := ⟨_, rfl⟩
  rw [← ea, ← eb, ← ec] at hlk
  rw [← ec]
  clear h hs ea eb ec
  go_enter Try.func22, Try.ntmps22
  go_wp2
  go_ret
  exact ⟨rfl, (Below.refl _ _).alloc (Nat.le_refl _) _⟩
theorem TS_map (g : G) {x : Int} (h1 : 1 ≤ x) : TS g x = (if g.was x.toNat = true then some (mx g x.toNat) else none).map stV := by
  unfold TS
  by_cases q : g.was x.toNat = true
  · rw [if_pos ⟨by omega, q⟩, if_pos q]
    rfl
  · rw [if_neg (fun z => q z.2), if_neg q]
    rfl
theorem TW_map (g : G) (m : Nat) {x : Int} (h1 : 0 ≤ x) : TW g m x = (if wts g m x.toNat = true then some (ts g m x.toNat, g.kn x.toNat m) else none).map waP := by
  unfold TW
  by_cases q : wts g m x.toNat = true
  · rw [if_pos ⟨by omega, q⟩, if_pos q]
    rfl
  · rw [if_neg (fun z => q z.2), if_neg q]
    rfl
variable {g : G} {cW : Nat → Nat}
/-- what is wrong with a member and a word -/
theorem checkA_any (h : AF w base P mS mb hv (rc g cW)) (who x : Int) : Calls Try.prog 23 #[.pointer (some ⟨P, 0, none⟩), .int .i64 who, .int .i64 x] w fun e w' => e = .returned (errF (chkC g who x)) ∧ Below w.heap.size w w' := by
  have HG : Hid (AF w base P mS mb hv (rc g cW)) := h
  clear h
  by_cases h1 : 0 ≤ who ∧ who < (g.n : Int)
  · have d1 : Hid (decide (0 ≤ who ∧ who < ((rc g cW).n : Int)) = true) := decide_eq_true h1
    by_cases h2 : 1 ≤ x ∧ x ≤ 30
    · have d2 : Hid (decide (1 ≤ x ∧ x ≤ 30) = true) := decide_eq_true h2
      have HW : Hid ((Lit.int .i64 x).wf = true) := wfI (by omega) (by omega)
      by_cases h3 : g.was x.toNat = true
      · have HS : Hid ((rc g cW).S x = (some (mx g x.toNat)).map stV) := by
          have := TS_map g h2.1
          rw [if_pos h3] at this
          exact this
        have e : chkC g who x = 0 := by unfold chkC; rw [if_neg (by omega), if_pos h3]
        rw [e, errF_ok]
        clear h3 e
        go_enter Try.func23, Try.ntmps23
        go_wp2_with fail
        refine (has_any HG.out who).mono ?_
        rintro e w ⟨rfl, rfl⟩
        rw [d1.out]
        go_wp2_with fail
        refine (wordA_any x w).mono ?_
        rintro e w ⟨rfl, rfl⟩
        rw [d2.out]
        go_wp2_with fail
        refine (saidA_any HG.out x HW.out HS.out).mono ?_
        rintro e w1 ⟨rfl, hb⟩
        have B1 : Hid _ := hb
        clear hb
        go_wp2
        go_ret
        exact ⟨rfl, B1.out⟩
      · have HS : Hid ((rc g cW).S x = (none : Option St).map stV) := by
          have := TS_map g h2.1
          rw [if_neg h3] at this
          exact this
        have e : chkC g who x = 5 := by unfold chkC; rw [if_neg (by omega), if_neg h3]
        rw [e, errF_no (by decide)]
        clear h3 e
        go_enter Try.func23, Try.ntmps23
        go_wp2_with fail
        refine (has_any HG.out who).mono ?_
        rintro e w ⟨rfl, rfl⟩
        rw [d1.out]
        go_wp2_with fail
        refine (wordA_any x w).mono ?_
        rintro e w ⟨rfl, rfl⟩
        rw [d2.out]
        go_wp2_with fail
        refine (saidA_any HG.out x HW.out HS.out).mono ?_
        rintro e w1 ⟨rfl, hb⟩
        have B1 : Hid _ := hb
        clear hb
        go_wp2
        go_ret
        exact ⟨rfl, B1.out⟩
    · have d2 : Hid (decide (1 ≤ x ∧ x ≤ 30) = false) := decide_eq_false h2
      have e : chkC g who x = 1 := if_pos (by omega)
      rw [e, errF_no (by decide)]
      clear e
      go_enter Try.func23, Try.ntmps23
      go_wp2_with fail
      refine (has_any HG.out who).mono ?_
      rintro e w ⟨rfl, rfl⟩
      rw [d1.out]
      go_wp2_with fail
      refine (wordA_any x w).mono ?_
      rintro e w ⟨rfl, rfl⟩
      rw [d2.out]
      go_wp2
      go_ret
      exact ⟨rfl, Below.refl _ _⟩
  · have d1 : Hid (decide (0 ≤ who ∧ who < ((rc g cW).n : Int)) = false) := decide_eq_false h1
    have e : chkC g who x = 1 := if_pos (by omega)
    rw [e, errF_no (by decide)]
    clear e
    go_enter Try.func23, Try.ntmps23
    go_wp2_with fail
    refine (has_any HG.out who).mono ?_
    rintro e w ⟨rfl, rfl⟩
    rw [d1.out]
    go_wp2
    go_ret
    exact ⟨rfl, Below.refl _ _⟩
set_option maxRecDepth 100000 in
/-- did a member give a word a stamp? -/
theorem gaveA_any {s : Option (St × Bool)} {m : Nat} (h : AF w base P mS mb hv r) (hm : m < r.n) (x : Int) (hx : (Lit.int .i64 x).wf = true) (hs : r.W m x = s.map waP) : Calls Try.prog 24 #[.pointer (some ⟨P, 0, none⟩), .int .i64 (m : Int), .int .i64 x] w fun e w' => e = .returned (.bool (s.isSome || (ints (r.hd m)).contains x)) ∧ Below w.heap.size w w' := by
  have hm5 : m < 5 := Nat.lt_of_lt_of_le hm h.five
  have c1 := h.cw hm
  have c2 := h.ch hm5
  obtain ⟨q, cap, e, hvw⟩ := own_vw (h.hd m hm5)
  have HM : Hid ((r.hd m).length ≤ maxLen) := by
    obtain ⟨a, c, e, h1, h2, _⟩ := Sl.of_own (h.hd m hm5)
    exact Nat.le_trans h1 h2
  obtain ⟨ll, el⟩ : ∃ ll, ll = (r.hd m).length := ⟨_, rfl⟩
  rw [← el] at hvw e
  rw [e] at c2
  have HV : Hid (Vw w q ll (ints (r.hd m)) ∧ ll ≤ maxLen) := ⟨hvw, by rw [el]; exact HM.out⟩
  have hlk := h.lkW hm hx hs w rfl
  obtain ⟨a, ea⟩ : ∃ a : Int, a = ((s.getD ((0, 0), false)).1.1 : Int) := ⟨_, rfl⟩
  obtain ⟨b, eb⟩ : ∃ b : Int, b = ((s.getD ((0, 0), false)).1.2 : Int) := ⟨_, rfl⟩
  obtain ⟨d, ed⟩ : ∃ d, d = (s.getD ((0, 0), false)).2 := ⟨_, rfl⟩
  rw [← ea, ← eb, ← ed] at hlk
  have hlt := h.lt
  have HX : Hid (((Below.refl w.heap.size w).alloc (Nat.le_refl _) (.cells #[.int .i64 a, .int .i64 b, .bool d] 71)) = ((Below.refl w.heap.size w).alloc (Nat.le_refl _) (.cells #[.int .i64 a, .int .i64 b, .bool d] 71))) := rfl
  have hm0 : (0 : Int) ≤ (m : Int) := by omega
  have hm5' : (m : Int) < 5 := by omega
  clear h hs ea eb ed e hvw el HM HX
  cases s with
  | none =>
    simp only [Option.isSome_none, Bool.false_or] at hlk ⊢
    go_enter Try.func24, Try.ntmps24
    go_wp2_with fail
    refine (contA q ll cap (ints (r.hd m)) x _ HV.out.2 (HV.out.1.later ((Below.refl _ _).alloc (Nat.le_refl _) _))).mono ?_
    rintro e w1 ⟨rfl, rfl⟩
    go_wp2
    go_ret
    exact ⟨ret_bool (by simp), (Below.refl _ _).alloc (Nat.le_refl _) _⟩
  | some s =>
    simp only [Option.isSome_some, Bool.true_or] at hlk ⊢
    go_enter Try.func24, Try.ntmps24
    go_wp2
    go_ret
    exact ⟨rfl, (Below.refl _ _).alloc (Nat.le_refl _) _⟩
theorem fldB (a b : Int) (d : Bool) (X : World) : (Instr.field 71 (.agg #[.int .i64 a, .int .i64 b, .bool d]) 1).run Try.prog X = .ok (.bool d) X := by kernel_rfl
theorem fldS (a b : Int) (d : Bool) (X : World) : (Instr.field 71 (.agg #[.int .i64 a, .int .i64 b, .bool d]) 0).run Try.prog X = .ok (.agg #[.int .i64 a, .int .i64 b]) X := by kernel_rfl
set_option maxRecDepth 100000 in
/-- does a member know a word's stamp? -/
theorem learnA_any {s : Option (St × Bool)} {m : Nat} (h : AF w base P mS mb hv r) (hm : m < r.n) (x : Int) (hx : (Lit.int .i64 x).wf = true) (hs : r.W m x = s.map waP) : Calls Try.prog 27 #[.pointer (some ⟨P, 0, none⟩), .int .i64 (m : Int), .int .i64 x] w fun e w' => e = .returned (.bool ((s.getD ((0, 0), false)).2 || (ints (r.hd m)).contains x)) ∧ Below w.heap.size w w' := by
  have hm5 : m < 5 := Nat.lt_of_lt_of_le hm h.five
  have c1 := h.cw hm
  have c2 := h.ch hm5
  obtain ⟨q, cap, e, hvw⟩ := own_vw (h.hd m hm5)
  have HM : Hid ((r.hd m).length ≤ maxLen) := by
    obtain ⟨a, c, e, h1, h2, _⟩ := Sl.of_own (h.hd m hm5)
    exact Nat.le_trans h1 h2
  obtain ⟨ll, el⟩ : ∃ ll, ll = (r.hd m).length := ⟨_, rfl⟩
  rw [← el] at hvw e
  rw [e] at c2
  have HV : Hid (Vw w q ll (ints (r.hd m)) ∧ ll ≤ maxLen) := ⟨hvw, by rw [el]; exact HM.out⟩
  have hlk := h.lkW1 hm hx hs w rfl
  obtain ⟨a, ea⟩ : ∃ a : Int, a = ((s.getD ((0, 0), false)).1.1 : Int) := ⟨_, rfl⟩
  obtain ⟨b, eb⟩ : ∃ b : Int, b = ((s.getD ((0, 0), false)).1.2 : Int) := ⟨_, rfl⟩
  obtain ⟨d, ed⟩ : ∃ d, d = (s.getD ((0, 0), false)).2 := ⟨_, rfl⟩
  rw [← ea, ← eb, ← ed] at hlk
  rw [← ed]
  have hfd := fldB a b d
  have hm0 : (0 : Int) ≤ (m : Int) := by omega
  have hm5' : (m : Int) < 5 := by omega
  clear h hs ea eb ed e hvw el HM
  cases d with
  | false =>
    rw [Bool.false_or]
    go_enter Try.func27, Try.ntmps27
    go_wp2_with fail
    refine (contA q ll cap (ints (r.hd m)) x _ HV.out.2 HV.out.1).mono ?_
    rintro e w1 ⟨rfl, rfl⟩
    go_wp2
    go_ret
    exact ⟨ret_bool (by simp), Below.refl _ _⟩
  | true =>
    rw [Bool.true_or]
    go_enter Try.func27, Try.ntmps27
    go_wp2
    go_ret
    exact ⟨rfl, Below.refl _ _⟩
/-! in words of the group -/
theorem gave_is (hi : Inv0 g) {m v : Nat} : ((if wts g m v = true then some (ts g m v, g.kn v m) else none : Option (St × Bool)).isSome || (ints (g.hd m)).contains (v : Int)) = decide (g.gv v m ≠ 0) := by
  rw [ints_cont, Bool.eq_iff_iff]
  by_cases q : wts g m v = true
  · rw [if_pos q]
    simp [(wts_iff.1 q).1]
  · rw [if_neg q]
    simp only [Option.isSome_none, Bool.false_or, decide_eq_true_iff]
    constructor
    · intro z
      have hk := hi.hd m v (by simpa using z)
      exact allG_iff.1 (hi.kn v m hk).1 m (hi.kn v m hk).2
    · intro z
      refine Decidable.byContradiction fun y => q (wts_iff.2 ⟨z, by simpa using y⟩)
theorem learn_is (hi : Inv0 g) {m v : Nat} : (((if wts g m v = true then some (ts g m v, g.kn v m) else none : Option (St × Bool)).getD ((0, 0), false)).2 || (ints (g.hd m)).contains (v : Int)) = g.kn v m := by
  rw [ints_cont, Bool.eq_iff_iff]
  by_cases q : wts g m v = true
  · rw [if_pos q]
    have : (g.hd m).contains v = false := by
      rw [Bool.eq_false_iff]
      intro z
      exact (wts_iff.1 q).2 (by simpa using z)
    rw [this]
    simp
  · rw [if_neg q]
    simp only [Option.getD_none, Bool.false_or]
    constructor
    · intro z
      exact hi.hd m v (by simpa using z)
    · intro z
      refine Decidable.byContradiction fun y => q (wts_iff.2 ⟨?_, by simpa using y⟩)
      exact allG_iff.1 (hi.kn v m z).1 m (hi.kn v m z).2
theorem gaveG {m v : Nat} (h : AF w base P mS mb hv (rc g cW)) (hi : Inv0 g) (hm : m < g.n) (hv30 : v ≤ 30) : Calls Try.prog 24 #[.pointer (some ⟨P, 0, none⟩), .int .i64 (m : Int), .int .i64 (v : Int)] w fun e w' => e = .returned (.bool (decide (g.gv v m ≠ 0))) ∧ Below w.heap.size w w' := by
  have := TW_map g m (x := (v : Int)) (by omega)
  rw [Int.toNat_natCast] at this
  refine (gaveA_any h hm (v : Int) (wfI (by omega) (by omega)) this).mono ?_
  rintro e w' ⟨rfl, hb⟩
  exact ⟨ret_bool (gave_is hi), hb⟩
theorem learnG {m v : Nat} (h : AF w base P mS mb hv (rc g cW)) (hi : Inv0 g) (hm : m < g.n) (hv30 : v ≤ 30) : Calls Try.prog 27 #[.pointer (some ⟨P, 0, none⟩), .int .i64 (m : Int), .int .i64 (v : Int)] w fun e w' => e = .returned (.bool (g.kn v m)) ∧ Below w.heap.size w w' := by
  have := TW_map g m (x := (v : Int)) (by omega)
  rw [Int.toNat_natCast] at this
  refine (learnA_any h hm (v : Int) (wfI (by omega) (by omega)) this).mono ?_
  rintro e w' ⟨rfl, hb⟩
  exact ⟨ret_bool (learn_is hi), hb⟩
set_option maxRecDepth 100000 in
theorem allGaveG {v : Nat} (h : AF w base P mS mb hv (rc g cW)) (hi : Inv0 g) (hv30 : v ≤ 30) : Calls Try.prog 26 #[.pointer (some ⟨P, 0, none⟩), .int .i64 (v : Int)] w fun e w' => e = .returned (.bool (allG g v)) ∧ Below w.heap.size w w' := by
  have c0 : w.cell? ⟨P, 0, none⟩ = some (.int .i64 (g.n : Int)) := h.c0
  obtain ⟨n, en⟩ : ∃ n, n = g.n := ⟨_, rfl⟩
  rw [← en] at c0
  have hn5 : n ≤ 5 := by rw [en]; exact hi.five
  have HG : Hid (AF w base P mS mb hv (rc g cW) ∧ Inv0 g ∧ v ≤ 30 ∧ n = g.n) := ⟨h, hi, hv30, en⟩
  clear h hi hv30 en
  go_enter Try.func26, Try.ntmps26
  go_wp2
  go_loopw [10] (fun i wr => ∃ k : Nat, k ≤ n ∧ i = .int .i64 k ∧ Hid (Below w.heap.size w wr ∧ ∀ j, j < k → g.gv v j ≠ 0)) (fun i _ => n - (intOf i).toNat)
  case atStart => exact ⟨0, by omega, rfl, Below.refl _ _, fun j hj => absurd hj (by omega)⟩
  case round =>
    obtain ⟨k, hk, rfl, hp⟩ := hrel
    by_cases hlt : k < n
    · have hkl : (k : Int) < (n : Int) := by omega
      go_wp2_with fail
      refine (gaveG (HG.out.1.later hp.out.1) HG.out.2.1 (m := k) (by rw [← HG.out.2.2.2]; exact hlt) HG.out.2.2.1).mono ?_
      rintro e w2 ⟨rfl, hb⟩
      have B2 : Hid (Below w.heap.size w w2) := hp.out.1.trans (hb.mono hp.out.1.size)
      clear hb
      by_cases hz : g.gv v k = 0
      · rw [decide_eq_false (show ¬ g.gv v k ≠ 0 from fun q => q hz)]
        have E : Hid (allG g v = false) := by
          show _ = _
          rw [Bool.eq_false_iff]
          intro q
          exact allG_iff.1 q k (by rw [← HG.out.2.2.2]; exact hlt) hz
        clear hz
        go_wp2
        go_ret
        exact ⟨ret_bool E.out.symm, B2.out⟩
      · rw [decide_eq_true hz]
        have HZ : Hid (g.gv v k ≠ 0) := hz
        clear hz
        go_wp2
        go_roundw
        case rel => exact ⟨k + 1, by omega, by go_num, B2.out, fun j hj => if e : j < k then hp.out.2 j e else by rw [show j = k by omega]; exact HZ.out⟩
        case measure => simp [intOf]; omega
    · go_wp2
      go_ret
      exact ⟨ret_bool (allG_iff.2 fun i hi => hp.out.2 i (by have := HG.out.2.2.2; omega)).symm, hp.out.1⟩
end Go.Proofs.Ytcccheeeagphpag.Agr
