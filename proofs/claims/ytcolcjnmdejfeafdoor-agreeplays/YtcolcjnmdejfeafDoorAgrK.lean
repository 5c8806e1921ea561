/-
  Plain facts: what the program keeps of a group in maps: the greatest stamp that a word was given so far, and by which stamp a word waits.
-/
import Derived.Test.YtcolcjnmdejfeafDoorAgrN
import Derived.Test.YtcolcjnmdejfeafDoorMapV
namespace Go.Proofs.YtcolcjnmdejfeafDoor.Agr
open Go.RowKit
open Go.Proofs.YtcolcjnmdejfeafDoor.MapV (putT delT)
set_option linter.unusedVariables false
variable {g : G}

/-- the greatest stamp that the first so many gave -/
def mxN (g : G) (w : Nat) : Nat → St
  | 0 => (0, 0)
  | k + 1 => if g.gv w k ≠ 0 ∧ les (mxN g w k) (g.gv w k, k) = true then (g.gv w k, k) else mxN g w k
def mx (g : G) (w : Nat) : St := mxN g w g.n
theorem mxN_congr {g g' : G} {w : Nat} : ∀ k, (∀ i, i < k → g'.gv w i = g.gv w i) → mxN g' w k = mxN g w k := by
  intro k
  induction k with
  | zero => intro _; rfl
  | succ k ih =>
    intro h
    unfold mxN
    rw [ih (fun i hi => h i (by omega)), h k (by omega)]
theorem mxN_none {w : Nat} : ∀ k, (∀ i, g.gv w i = 0) → mxN g w k = (0, 0) := by
  intro k
  induction k with
  | zero => intro _; rfl
  | succ k ih =>
    intro h
    unfold mxN
    rw [if_neg (fun q => q.1 (h k)), ih h]
theorem mxN_all {w : Nat} : ∀ k, (∀ i, i < k → g.gv w i ≠ 0) → mxN g w k = finN g w k := by
  intro k
  induction k with
  | zero => intro _; rfl
  | succ k ih =>
    intro h
    unfold mxN finN
    rw [ih (fun i hi => h i (by omega))]
    by_cases q : les (finN g w k) (g.gv w k, k) = true
    · rw [if_pos ⟨h k (by omega), q⟩, if_pos q]
    · rw [if_neg (fun z => q z.2), if_neg q]
theorem mx_all {w : Nat} (h : allG g w = true) : mx g w = fin g w := mxN_all _ (allG_iff.1 h)
theorem les_asymm {a b : St} (h : les a b = true) : les b a = false := by
  rw [Bool.eq_false_iff]
  intro q
  have := les_trans h q
  rw [les_irr] at this
  cases this
theorem mxN_give {m w : Nat} (h0 : g.gv w m = 0) : ∀ k, mxN (give g m w) w k = if m < k then (if les (mxN g w k) (g.most m + 1, m) = true then (g.most m + 1, m) else mxN g w k) else mxN g w k := by
  intro k
  induction k with
  | zero => rfl
  | succ k ih =>
    by_cases e : k = m
    · subst e
      rw [if_neg (by omega)] at ih
      rw [if_pos (by omega)]
      have e1 : mxN g w (k + 1) = mxN g w k := by
        show (if _ then _ else _) = _
        rw [if_neg (fun q => q.1 h0)]
      rw [e1]
      show (if (give g k w).gv w k ≠ 0 ∧ les (mxN (give g k w) w k) ((give g k w).gv w k, k) = true then ((give g k w).gv w k, k) else mxN (give g k w) w k) = _
      have e4 : (give g k w).gv w k = g.most k + 1 := by rw [give_gv, if_pos ⟨rfl, rfl⟩]
      rw [ih, e4]
      by_cases q : les (mxN g w k) (g.most k + 1, k) = true
      · rw [if_pos ⟨by omega, q⟩, if_pos q]
      · rw [if_neg (fun z => q z.2), if_neg q]
    · have e2 : (give g m w).gv w k = g.gv w k := by rw [give_gv, if_neg (fun q => e q.2)]
      show (if (give g m w).gv w k ≠ 0 ∧ les (mxN (give g m w) w k) ((give g m w).gv w k, k) = true then ((give g m w).gv w k, k) else mxN (give g m w) w k) = _
      rw [ih, e2]
      have e3 : mxN g w (k + 1) = if g.gv w k ≠ 0 ∧ les (mxN g w k) (g.gv w k, k) = true then (g.gv w k, k) else mxN g w k := rfl
      rw [e3]
      by_cases lt : m < k
      · rw [if_pos lt, if_pos (show m < k + 1 by omega)]
        generalize mxN g w k = a
        generalize hb : (g.gv w k, k) = b
        generalize hs : (g.most m + 1, m) = s
        have hne : s ≠ b := fun q => by
          rw [← hs, ← hb] at q
          have := congrArg Prod.snd q
          exact e this.symm
        by_cases z : g.gv w k ≠ 0
        · simp only [z, true_and, not_false_eq_true, ne_eq]
          by_cases p1 : les a s = true
          · rw [if_pos p1]
            by_cases p2 : les a b = true
            · rw [if_pos p2]
              rcases les_or s b with q | q | q
              · rw [if_pos q, les_asymm q, if_neg (by decide)]
              · exact absurd q hne
              · rw [les_asymm q, if_neg (by decide), if_pos q]
            · rw [if_neg p2, if_pos p1]
              rcases les_not (by simpa using p2) with q | q
              · rw [← q, les_asymm p1, if_neg (by decide)]
              · rw [les_asymm (les_trans q p1), if_neg (by decide)]
          · rw [if_neg p1]
            by_cases p2 : les a b = true
            · rw [if_pos p2]
              rcases les_not (by simpa using p1) with q | q
              · rw [← q, les_asymm p2, if_neg (by decide)]
              · rw [les_asymm (les_trans q p2), if_neg (by decide)]
            · rw [if_neg p2, if_neg p1]
        · have z' : g.gv w k = 0 := by omega
          simp only [z', ne_eq, not_true_eq_false, false_and, if_false]
      · rw [if_neg lt, if_neg (show ¬ m < k + 1 by omega)]
theorem mx_give {m w : Nat} (hm : m < g.n) (h0 : g.gv w m = 0) : mx (give g m w) w = if les (mx g w) (g.most m + 1, m) = true then (g.most m + 1, m) else mx g w := by
  have := mxN_give (g := g) (w := w) h0 g.n
  rw [if_pos hm] at this
  exact this
theorem mx_give_other {m w v : Nat} (h : v ≠ w) : mx (give g m w) v = mx g v := mxN_congr _ fun i _ => if_neg (fun q => h q.1)

/-! what stands in the maps -/
def stV (s : St) : Value := .agg #[.int .i64 (s.1 : Int), .int .i64 (s.2 : Int)]
def waV (s : St) (b : Bool) : Value := .agg #[.int .i64 (s.1 : Int), .int .i64 (s.2 : Int), .bool b]
/-- what was said, with the greatest stamp so far -/
def TS (g : G) (i : Int) : Option Value := if 0 ≤ i ∧ g.was i.toNat = true then some (stV (mx g i.toNat)) else none
/-- what waits at a member -/
def TW (g : G) (m : Nat) (i : Int) : Option Value := if 0 ≤ i ∧ wts g m i.toNat = true then some (waV (ts g m i.toNat) (g.kn i.toNat m)) else none
theorem TS_at {w : Nat} (h : g.was w = true) : TS g (w : Int) = some (stV (mx g w)) := by
  unfold TS
  rw [if_pos ⟨by omega, by simpa using h⟩]
  simp
theorem TS_not {w : Nat} (h : g.was w = false) : TS g (w : Int) = none := by
  unfold TS
  rw [if_neg]
  rintro ⟨_, q⟩
  rw [Int.toNat_natCast, h] at q
  cases q
theorem TW_at {m w : Nat} (h : wts g m w = true) : TW g m (w : Int) = some (waV (ts g m w) (g.kn w m)) := by
  unfold TW
  rw [if_pos ⟨by omega, by simpa using h⟩]
  simp
theorem TW_not {m w : Nat} (h : wts g m w = false) : TW g m (w : Int) = none := by
  unfold TW
  rw [if_neg]
  rintro ⟨_, q⟩
  rw [Int.toNat_natCast, h] at q
  cases q
theorem TW_some {m : Nat} {i : Int} {u : Value} (h : TW g m i = some u) : ∃ w : Nat, i = (w : Int) ∧ wts g m w = true ∧ u = waV (ts g m w) (g.kn w m) := by
  unfold TW at h
  split at h
  · rename_i q
    exact ⟨i.toNat, by omega, q.2, (Option.some.inj h).symm⟩
  · cases h
/-- a word is said -/
theorem TS_also {w : Nat} (h : Inv0 g) (hw : g.was w = false) : ∀ i, TS (also g w) i = putT (TS g) (w : Int) (stV (0, 0)) i := by
  intro i
  have hz : ∀ j, g.gv w j = 0 := fun j => Decidable.byContradiction fun q => by
    have := (h.gv w j q).1
    rw [hw] at this
    cases this
  unfold putT TS
  by_cases e : i = (w : Int)
  · rw [if_pos e, if_pos ⟨by omega, by rw [e]; show (if _ then _ else _) = true; rw [if_pos (by simp)]⟩]
    have : mx (also g w) i.toNat = (0, 0) := by
      rw [e, Int.toNat_natCast]
      exact mxN_none _ hz
    rw [this]
  · rw [if_neg e]
    by_cases q : 0 ≤ i
    · have e1 : (also g w).was i.toNat = g.was i.toNat := if_neg (fun z => e (by omega))
      have e2 : mx (also g w) i.toNat = mx g i.toNat := mxN_congr (g := g) (g' := also g w) _ fun _ _ => rfl
      rw [e1, e2]
    · rw [if_neg (fun z => q z.1), if_neg (fun z => q z.1)]
theorem TW_also (g : G) (w m : Nat) : ∀ i, TW (also g w) m i = TW g m i := by
  intro i
  unfold TW
  rw [also_ts]
  rfl
/-- a number is given -/
theorem TS_give {m w : Nat} (hm : m < g.n) (hw : g.was w = true) (h0 : g.gv w m = 0) : ∀ i, TS (give g m w) i = if les (mx g w) (g.most m + 1, m) = true then putT (TS g) (w : Int) (stV (g.most m + 1, m)) i else TS g i := by
  intro i
  have e0 : ∀ v, (give g m w).was v = g.was v := fun _ => rfl
  by_cases e : i = (w : Int)
  · subst e
    rw [TS_at (g := give g m w) (by rw [e0]; exact hw), mx_give hm h0]
    by_cases q : les (mx g w) (g.most m + 1, m) = true
    · rw [if_pos q, if_pos q]
      unfold putT
      rw [if_pos rfl]
    · rw [if_neg q, if_neg q, TS_at hw]
  · have e1 : TS (give g m w) i = TS g i := by
      unfold TS
      rw [e0]
      by_cases z : 0 ≤ i
      · rw [mx_give_other (show i.toNat ≠ w by omega)]
      · rw [if_neg (fun y => z y.1), if_neg (fun y => z y.1)]
    rw [e1]
    unfold putT
    rw [if_neg e]
    simp
theorem give_ts (h : Inv0 g) {m w i v : Nat} (hm : m < g.n) (h0 : g.gv w m = 0) (hne : ¬ (v = w ∧ i = m)) : ts (give g m w) i v = ts g i v := by
  have hk : ∀ i, g.kn w i = false := fun i => by
    rw [Bool.eq_false_iff]
    intro q
    exact allG_iff.1 (h.kn w i q).1 m hm h0
  unfold ts
  show (if g.kn v i = true then _ else _) = _
  split
  · rename_i z
    exact give_fin h (fun e => by rw [e, hk i] at z; cases z)
  · rw [give_gv, if_neg hne]
theorem TW_give (h : Inv0 g) {m w : Nat} (hm : m < g.n) (h0 : g.gv w m = 0) : ∀ i, TW (give g m w) m i = putT (TW g m) (w : Int) (waV (g.most m + 1, m) false) i := by
  have hk : ∀ i, g.kn w i = false := fun i => by
    rw [Bool.eq_false_iff]
    intro q
    exact allG_iff.1 (h.kn w i q).1 m hm h0
  intro i
  by_cases e : i = (w : Int)
  · subst e
    have hw : wts (give g m w) m w = true := wts_iff.2 ⟨by rw [give_gv, if_pos ⟨rfl, rfl⟩]; omega, fun q => by
      have := h.hd m w q
      rw [hk m] at this
      cases this⟩
    rw [TW_at hw]
    have e1 : (give g m w).kn w m = false := hk m
    have e2 : ts (give g m w) m w = (g.most m + 1, m) := by
      unfold ts
      rw [e1, if_neg (by decide), give_gv, if_pos ⟨rfl, rfl⟩]
    rw [e1, e2]
    unfold putT
    rw [if_pos rfl]
  · unfold putT
    rw [if_neg e]
    unfold TW
    by_cases z : 0 ≤ i
    · have hne : ¬ (i.toNat = w ∧ m = m) := fun q => e (by omega)
      have e1 : wts (give g m w) m i.toNat = wts g m i.toNat := by
        unfold wts
        rw [give_gv, if_neg hne]
        rfl
      rw [e1, give_ts h hm h0 hne]
      rfl
    · rw [if_neg (fun y => z y.1), if_neg (fun y => z y.1)]
theorem TW_give_other (h : Inv0 g) {m w j : Nat} (hm : m < g.n) (h0 : g.gv w m = 0) (hj : j ≠ m) : ∀ i, TW (give g m w) j i = TW g j i := by
  intro i
  unfold TW
  have hne : ¬ (i.toNat = w ∧ j = m) := fun q => hj q.2
  have e1 : wts (give g m w) j i.toNat = wts g j i.toNat := by
    unfold wts
    rw [give_gv, if_neg hne]
    rfl
  rw [e1, give_ts h hm h0 hne]
  rfl
/-- a stamp is learnt -/
theorem TS_know (g : G) (m w : Nat) : ∀ i, TS (know g m w) i = TS g i := by
  intro i
  unfold TS
  have e2 : mx (know g m w) i.toNat = mx g i.toNat := mxN_congr (g := g) (g' := know g m w) _ fun _ _ => rfl
  rw [e2]
  rfl
theorem TW_know {m w : Nat} (hw : wts g m w = true) : ∀ i, TW (know g m w) m i = putT (TW g m) (w : Int) (waV (fin g w) true) i := by
  intro i
  by_cases e : i = (w : Int)
  · subst e
    rw [TW_at (show wts (know g m w) m w = true from hw), know_ts_self]
    have e1 : (know g m w).kn w m = true := by rw [know_kn, if_pos ⟨rfl, rfl⟩]
    rw [e1]
    unfold putT
    rw [if_pos rfl]
  · unfold putT
    rw [if_neg e]
    unfold TW
    by_cases z : 0 ≤ i
    · have hne : ¬ (i.toNat = w ∧ m = m) := fun q => e (by omega)
      have e1 : (know g m w).kn i.toNat m = g.kn i.toNat m := by rw [know_kn, if_neg hne]
      rw [know_ts hne, know_wts, e1]
    · rw [if_neg (fun y => z y.1), if_neg (fun y => z y.1)]
theorem TW_know_other {m w j : Nat} (hj : j ≠ m) : ∀ i, TW (know g m w) j i = TW g j i := by
  intro i
  unfold TW
  have hne : ¬ (i.toNat = w ∧ j = m) := fun q => hj q.2
  have e1 : (know g m w).kn i.toNat j = g.kn i.toNat j := by rw [know_kn, if_neg hne]
  rw [know_ts hne, know_wts, e1]
/-- one is heard -/
theorem TS_hear (g : G) (m b : Nat) : ∀ i, TS (hear g m b) i = TS g i := by
  intro i
  unfold TS
  have e2 : mx (hear g m b) i.toNat = mx g i.toNat := mxN_congr (g := g) (g' := hear g m b) _ fun _ _ => rfl
  rw [e2]
  rfl
theorem TW_hear (g : G) (m b : Nat) : ∀ i, TW (hear g m b) m i = delT (TW g m) (b : Int) i := by
  intro i
  unfold delT TW
  rw [hear_ts]
  by_cases e : i = (b : Int)
  · rw [if_pos e, if_neg]
    rintro ⟨_, q⟩
    exact (hear_wts.1 q).2 ⟨rfl, by omega⟩
  · rw [if_neg e]
    by_cases q : 0 ≤ i ∧ wts g m i.toNat = true
    · rw [if_pos q, if_pos ⟨q.1, hear_wts.2 ⟨q.2, fun z => e (by omega)⟩⟩]
      rfl
    · rw [if_neg q, if_neg (fun z => q ⟨z.1, (hear_wts.1 z.2).1⟩)]
theorem TW_hear_other {m b j : Nat} (hj : j ≠ m) : ∀ i, TW (hear g m b) j i = TW g j i := by
  intro i
  unfold TW
  rw [hear_ts]
  have e : wts (hear g m b) j i.toNat = wts g j i.toNat := by
    rw [Bool.eq_iff_iff, hear_wts]
    exact ⟨fun q => q.1, fun q => ⟨q, fun z => hj z.1⟩⟩
  rw [e]
  rfl
/-- the least one, whichever way it was found -/
theorem best_is (h : Inv0 g) {m r : Nat} (hr : (r = 0 ∧ ∀ v, wts g m v = false) ∨ (wts g m r = true ∧ ∀ v, wts g m v = true → les (ts g m v) (ts g m r) = false)) : r = best g m 30 := by
  rcases hr with ⟨rfl, hn⟩ | ⟨hw, hl⟩
  · refine Decidable.byContradiction fun q => ?_
    have := best_wts (g := g) (m := m) 30 (fun e => q e.symm)
    rw [hn] at this
    cases this
  · obtain ⟨a, b, _⟩ := h.wtsR hw
    rcases best_least h 30 r a b hw with q | q
    · exact q
    · have hb : best g m 30 ≠ 0 := fun z => by
        have := best_none 30 z r a b
        rw [hw] at this
        cases this
      rw [hl _ (best_wts 30 hb)] at q
      cases q
/-- how many words were said -/
theorem cnt_also {w : Nat} (hw : g.was w = false) (h1 : 1 ≤ w) : ∀ k, cnt (also g w) k = if w ≤ k then cnt g k + 1 else cnt g k := by
  intro k
  induction k with
  | zero => rw [if_neg (by omega)]; rfl
  | succ k ih =>
    unfold cnt
    rw [ih]
    have e : (also g w).was (k + 1) = if k + 1 = w then true else g.was (k + 1) := rfl
    rw [e]
    by_cases q : k + 1 = w
    · rw [if_pos q, if_neg (by omega), if_pos (by omega), q, hw]
      simp
    · rw [if_neg q]
      by_cases z : w ≤ k
      · rw [if_pos z, if_pos (by omega)]
        omega
      · rw [if_neg z, if_neg (by omega)]
theorem cnt_leA (g : G) (k : Nat) : cnt g k ≤ k := by
  induction k with
  | zero => exact Nat.le_refl _
  | succ k ih =>
    unfold cnt
    cases g.was (k + 1) <;> simp <;> omega
end Go.Proofs.YtcolcjnmdejfeafDoor.Agr
