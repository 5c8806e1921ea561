/-
  Plain facts: which of those that wait is ready first, whichever way they are looked through; what follows a word that is heard.
-/
import Derived.Test.YtndjejbnappmeadDoorCapS
namespace Go.Proofs.YtndjejbnappmeadDoor.Cap
open Go.RowKit Go.Maps
open Go.Proofs.YtndjejbnappmeadDoor.Cau
open Go.Proofs.YtndjejbnappmeadDoor.Vec (code Vw anyP)
set_option linter.unusedVariables false

/-- is it so of any member but one? -/
def anyO (m : Nat) (p : Nat → Bool) : Bool := anyP fun k => decide (k ≠ m) && p k
theorem rdy_split {K : List Int} {word : Int} {clk : List Int} {m : Nat} (hm : m < 5) : rdy K ((m : Int), word, clk) = (decide (clk.getD m 0 = K.getD m 0 + 1) && !anyO m (fun k => decide (K.getD k 0 < clk.getD k 0))) := by
  cases hr : rdy K ((m : Int), word, clk)
  · symm
    rw [Bool.and_eq_false_iff]
    by_cases e : clk.getD m 0 = K.getD m 0 + 1
    · right
      cases ha : anyO m (fun k => decide (K.getD k 0 < clk.getD k 0))
      · exfalso
        have : rdy K ((m : Int), word, clk) = true := by
          rw [rdy_iff]
          intro i hi
          by_cases q : i = m
          · subst q
            rw [rdyAt_own rfl]
            exact decide_eq_true e
          · rw [rdyAt_other (by show ¬ (i : Int) = (m : Int); omega)]
            apply decide_eq_true
            show clk.getD i 0 ≤ K.getD i 0
            rcases Int.lt_or_le (K.getD i 0) (clk.getD i 0) with a | a
            · have : anyO m (fun k => decide (K.getD k 0 < clk.getD k 0)) = true := Vec.anyP_true hi (by show (decide (i ≠ m) && decide (K.getD i 0 < clk.getD i 0)) = true; rw [decide_eq_true q, decide_eq_true a]; rfl)
              rw [ha] at this
              cases this
            · exact a
        rw [hr] at this
        cases this
      · rfl
    · left
      exact decide_eq_false e
  · symm
    rw [rdy_iff] at hr
    have h1 := hr m hm
    rw [rdyAt_own rfl] at h1
    have h2 : anyO m (fun k => decide (K.getD k 0 < clk.getD k 0)) = false := Vec.anyP_false fun j hj => by
      by_cases q : j = m
      · simp [q]
      · have := hr j hj
        rw [rdyAt_other (by show ¬ (j : Int) = (m : Int); omega)] at this
        have h3 := of_decide_eq_true this
        have h4 : clk.getD j 0 ≤ K.getD j 0 := h3
        simp [q]
        simpa [List.getD] using h4
    rw [h2, h1]
    rfl
theorem sd_map {es : List En} {i : Nat} (hi : i < es.length) : sd (es.map En.s) i = es[i].s := by
  unfold sd
  rw [List.getD, List.getElem?_eq_getElem (by simpa using hi)]
  simp
theorem first_none {K : List Int} {es : List En} (h : ∀ e ∈ es, rdy K e.s = false) : (es.map En.s).findIdx? (rdy K) = none := idx_none fun j hj => by
  have hj' : j < es.length := by simpa using hj
  rw [sd_map hj']
  exact h _ (List.getElem_mem _)
theorem first_some {K : List Int} {es : List En} (hr : es.Pairwise fun a b => a.t < b.t) {e0 : En} (he : e0 ∈ es) (h0 : rdy K e0.s = true) (hmin : ∀ e ∈ es, rdy K e.s = true → e0.t ≤ e.t) :
    ∃ i, ∃ hi : i < es.length, es[i] = e0 ∧ (es.map En.s).findIdx? (rdy K) = some i := by
  obtain ⟨i, hi, rfl⟩ := List.getElem_of_mem he
  refine ⟨i, hi, rfl, idx_some (by simpa using hi) (by rw [sd_map hi]; exact h0) fun j hj => ?_⟩
  have hj' : j < es.length := by omega
  rw [sd_map hj']
  cases q : rdy K es[j].s
  · rfl
  · have h1 := hmin _ (List.getElem_mem hj') q
    have h2 := List.pairwise_iff_getElem.1 hr j i hj' hi hj
    omega
/-- what is heard from one on, that is ready -/
def go1 (K : List Int) (ws : List Sd) (i : Nat) : List Int × List Int × List Sd := ((sd ws i).2.1 :: (run (inc K (sd ws i).1) (ws.eraseIdx i)).1, (run (inc K (sd ws i).1) (ws.eraseIdx i)).2)
theorem erase_map {es : List En} {i : Nat} : (es.eraseIdx i).map En.s = (es.map En.s).eraseIdx i := by
  induction es generalizing i with
  | nil => rfl
  | cons e es ih =>
    cases i with
    | zero => rfl
    | succ i => exact congrArg (e.s :: ·) ih
theorem key_one {es : List En} (hu : Uq es) {a b : En} (ha : a ∈ es) (hb : b ∈ es) (h : a.key = b.key) : a = b := by
  obtain ⟨i, hi, rfl⟩ := List.getElem_of_mem ha
  obtain ⟨j, hj, rfl⟩ := List.getElem_of_mem hb
  by_cases q : i = j
  · subst q; rfl
  · exact absurd h (uq_get hu hi hj q)
/-- as far as it goes: the first of those that were looked at -/
def FM (K : List Int) (es : List En) (left : Lit → Bool) (vf : Value) (found : Bool) : Prop :=
  (found = false ∧ ∀ e ∈ es, left e.key = false → rdy K e.s = false) ∨
  (found = true ∧ ∃ e0 ∈ es, vf = e0.at ∧ left e0.key = false ∧ rdy K e0.s = true ∧ ∀ e ∈ es, left e.key = false → rdy K e.s = true → e0.t ≤ e.t)
def strike (left : Lit → Bool) (k : Lit) : Lit → Bool := fun x => left x && !x.sameKey k
theorem strike_new {es : List En} (hu : Uq es) {left : Lit → Bool} {x e : En} (hx : x ∈ es) (he : e ∈ es) (h : strike left e.key x.key = false) : left x.key = false ∨ x = e := by
  unfold strike at h
  cases q : left x.key
  · exact .inl rfl
  · rw [q] at h
    have : x.key.sameKey e.key = true := by simpa using h
    exact .inr (key_one hu hx he (WideAt.sameKey_eq this))
theorem strike_old {left : Lit → Bool} {k l : Lit} (h : left l = false) : strike left k l = false := by simp [strike, h]
theorem strike_self {left : Lit → Bool} {k : Lit} (h : WideAt.IsKeyLit k) : strike left k k = false := by simp [strike, WideAt.sameKey_self h]
theorem FM.pass {K : List Int} {es : List En} {left : Lit → Bool} {vf : Value} {found : Bool} (g : FM K es left vf found) (hu : Uq es) {e : En} (he : e ∈ es) (h : rdy K e.s = false) : FM K es (strike left e.key) vf found := by
  rcases g with ⟨h1, h2⟩ | ⟨h1, e0, h0, hv, hl, hr, hm⟩
  · exact .inl ⟨h1, fun x hx q => by
      rcases strike_new hu hx he q with a | rfl
      · exact h2 x hx a
      · exact h⟩
  · refine .inr ⟨h1, e0, h0, hv, strike_old hl, hr, fun x hx q r => ?_⟩
    rcases strike_new hu hx he q with a | rfl
    · exact hm x hx a r
    · rw [h] at r; cases r
theorem FM.one {K : List Int} {es : List En} {left : Lit → Bool} {vf : Value} (g : FM K es left vf false) (hu : Uq es) {e : En} (he : e ∈ es) (hk : WideAt.IsKeyLit e.key) (h : rdy K e.s = true) : FM K es (strike left e.key) e.at true := by
  rcases g with ⟨_, h2⟩ | ⟨h1, _⟩
  · refine .inr ⟨rfl, e, he, rfl, strike_self hk, h, fun x hx q r => ?_⟩
    rcases strike_new hu hx he q with a | rfl
    · rw [h2 x hx a] at r; cases r
    · exact Int.le_refl _
  · cases h1
theorem FM.get {K : List Int} {es : List En} {left : Lit → Bool} {vf : Value} (g : FM K es left vf true) : ∃ e0 ∈ es, vf = e0.at ∧ left e0.key = false ∧ rdy K e0.s = true ∧ ∀ e ∈ es, left e.key = false → rdy K e.s = true → e0.t ≤ e.t := by
  rcases g with ⟨h1, _⟩ | ⟨_, h⟩
  · cases h1
  · exact h
theorem FM.less {K : List Int} {es : List En} {left : Lit → Bool} {e0 : En} (hu : Uq es) (hm : ∀ e ∈ es, left e.key = false → rdy K e.s = true → e0.t ≤ e.t) {e : En} (he : e ∈ es) (hk : WideAt.IsKeyLit e.key) (h : rdy K e.s = true) (hlt : e.t < e0.t) : FM K es (strike left e.key) e.at true :=
  .inr ⟨rfl, e, he, rfl, strike_self hk, h, fun x hx q r => by
    rcases strike_new hu hx he q with a | rfl
    · have := hm x hx a r; omega
    · exact Int.le_refl _⟩
theorem FM.more {K : List Int} {es : List En} {left : Lit → Bool} {e0 : En} (hu : Uq es) (h0 : e0 ∈ es) (hl : left e0.key = false) (hr : rdy K e0.s = true) (hm : ∀ e ∈ es, left e.key = false → rdy K e.s = true → e0.t ≤ e.t) {e : En} (he : e ∈ es) (hle : e0.t ≤ e.t) : FM K es (strike left e.key) e0.at true :=
  .inr ⟨rfl, e0, h0, rfl, strike_old hl, hr, fun x hx q r => by
    rcases strike_new hu hx he q with a | rfl
    · exact hm x hx a r
    · exact hle⟩
end Go.Proofs.YtndjejbnappmeadDoor.Cap
