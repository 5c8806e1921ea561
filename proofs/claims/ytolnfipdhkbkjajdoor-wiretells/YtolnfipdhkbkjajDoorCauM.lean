/-
  Plain facts on one member that hears words of others by cause: what is refused, what is heard, what waits.
-/
import Derived.Test.YtolnfipdhkbkjajDoorVecA
namespace Go.Proofs.YtolnfipdhkbkjajDoor.Cau
open Go.Proofs.YtolnfipdhkbkjajDoor.Vec (code)

/-- a word that was said: who, what, what it knew -/
abbrev Sd := Int × Int × List Int
def inc (K : List Int) (who : Int) : List Int := K.set who.toNat (K.getD who.toNat 0 + 1)
/-- is it so of the i-th number? -/
def rdyAt (K : List Int) (s : Sd) (i : Nat) : Bool := if (i : Int) = s.1 then decide (s.2.2.getD i 0 = K.getD i 0 + 1) else decide (s.2.2.getD i 0 ≤ K.getD i 0)
theorem rdyAt_own {K : List Int} {s : Sd} {i : Nat} (h : (i : Int) = s.1) : rdyAt K s i = decide (s.2.2.getD i 0 = K.getD i 0 + 1) := if_pos h
theorem rdyAt_other {K : List Int} {s : Sd} {i : Nat} (h : ¬ (i : Int) = s.1) : rdyAt K s i = decide (s.2.2.getD i 0 ≤ K.getD i 0) := if_neg h
def rdy (K : List Int) (s : Sd) : Bool := (List.range 5).all (rdyAt K s)
theorem rdy_iff {K : List Int} {s : Sd} : rdy K s = true ↔ ∀ i, i < 5 → rdyAt K s i = true := by
  simp [rdy, List.all_eq_true]
theorem rdy_no {K : List Int} {s : Sd} {i : Nat} (hi : i < 5) (h : rdyAt K s i = false) : rdy K s = false := by
  rw [Bool.eq_false_iff]
  intro q
  rw [rdy_iff.1 q i hi] at h
  cases h
def same (s c : Sd) : Bool := decide (c.1 = s.1) && decide (c.2.2.getD s.1.toNat 0 = s.2.2.getD s.1.toNat 0)
def sdBad (s : Sd) : Bool := decide (s.1 < 0) || decide (4 < s.1) || decide (s.2.1 < 1) || decide (30 < s.2.1)
/-- what is wrong with a word that comes -/
def ckC (me : Int) (K : List Int) (ws : List Sd) (s : Sd) : Int :=
  if sdBad s = true then 1 else if code s.2.2 ≠ 0 then code s.2.2 else if s.1 = me then 3 else if s.2.2.getD s.1.toNat 0 = 0 then 1 else if s.2.2.getD s.1.toNat 0 ≤ K.getD s.1.toNat 0 then 7 else
  if ws.any (same s) = true then 7 else if rdy K s = false ∧ 40 ≤ ws.length then 4 else 0
def nil : Sd := (0, 0, [])
def sd (ws : List Sd) (i : Nat) : Sd := ws.getD i nil
/-- those that wait are heard, the first of those that are ready first -/
def drain : Nat → List Int → List Sd → List Int × List Int × List Sd
  | 0, K, ws => ([], K, ws)
  | f + 1, K, ws => match ws.findIdx? (rdy K) with
    | none => ([], K, ws)
    | some i => ((sd ws i).2.1 :: (drain f (inc K (sd ws i).1) (ws.eraseIdx i)).1, (drain f (inc K (sd ws i).1) (ws.eraseIdx i)).2)
theorem drain_stop {K : List Int} {ws : List Sd} (hn : ws.findIdx? (rdy K) = none) : ∀ f, drain f K ws = ([], K, ws)
  | 0 => rfl
  | f + 1 => by simp [drain, hn]
theorem drain_go {K : List Int} {ws : List Sd} {i f : Nat} (hs : ws.findIdx? (rdy K) = some i) : drain (f + 1) K ws = ((sd ws i).2.1 :: (drain f (inc K (sd ws i).1) (ws.eraseIdx i)).1, (drain f (inc K (sd ws i).1) (ws.eraseIdx i)).2) := by
  simp [drain, hs]
theorem idx_lt {K : List Int} {ws : List Sd} {i : Nat} (hs : ws.findIdx? (rdy K) = some i) : i < ws.length := by
  rw [List.findIdx?_eq_some_iff_getElem] at hs
  exact hs.1
theorem erase_len {ws : List Sd} {i : Nat} (hi : i < ws.length) : (ws.eraseIdx i).length + 1 = ws.length := by
  rw [List.length_eraseIdx, if_pos hi]
  omega
def run (K : List Int) (ws : List Sd) : List Int × List Int × List Sd := drain ws.length K ws
theorem run_stop {K : List Int} {ws : List Sd} (hn : ws.findIdx? (rdy K) = none) : run K ws = ([], K, ws) := drain_stop hn _
theorem run_go {K : List Int} {ws : List Sd} {i : Nat} (hs : ws.findIdx? (rdy K) = some i) : run K ws = ((sd ws i).2.1 :: (run (inc K (sd ws i).1) (ws.eraseIdx i)).1, (run (inc K (sd ws i).1) (ws.eraseIdx i)).2) := by
  have hl := erase_len (idx_lt hs)
  unfold run
  rw [← hl, drain_go hs]
/-- none is ready among the first so many -/
theorem idx_none {K : List Int} {ws : List Sd} (h : ∀ j, j < ws.length → rdy K (sd ws j) = false) : ws.findIdx? (rdy K) = none := by
  rw [List.findIdx?_eq_none_iff]
  intro c hc
  obtain ⟨j, hj, rfl⟩ := List.getElem_of_mem hc
  have := h j hj
  simpa [sd, List.getD, hj] using this
theorem idx_some {K : List Int} {ws : List Sd} {i : Nat} (hi : i < ws.length) (hr : rdy K (sd ws i) = true) (h : ∀ j, j < i → rdy K (sd ws j) = false) : ws.findIdx? (rdy K) = some i := by
  rw [List.findIdx?_eq_some_iff_getElem]
  refine ⟨hi, ?_, fun j hj => ?_⟩
  · simpa [sd, List.getD, hi] using hr
  · have := h j hj
    have hjl : j < ws.length := by omega
    simpa [sd, List.getD, hjl] using this
/-- what comes of a word that has come -/
def ctk (me : Int) (K : List Int) (ws : List Sd) (s : Sd) : List Int × List Int × List Sd :=
  if ckC me K ws s = 0 then (if rdy K s = true then (s.2.1 :: (run (inc K s.1) ws).1, (run (inc K s.1) ws).2) else ([], K, ws ++ [s])) else ([], K, ws)
/-- a word that may wait -/
structure SdOk (s : Sd) : Prop where
  who : 0 ≤ s.1 ∧ s.1 ≤ 4
  word : 1 ≤ s.2.1 ∧ s.2.1 ≤ 30
  clk : code s.2.2 = 0
/-- what holds at any time -/
structure CInv (me : Int) (K : List Int) (ws : List Sd) : Prop where
  me : 0 ≤ me ∧ me ≤ 4
  five : K.length = 5
  num : ∀ j, j < 5 → 0 ≤ K.getD j 0 ∧ K.getD j 0 ≤ 1000000
  ok : ∀ s ∈ ws, SdOk s
  len : ws.length ≤ 40
theorem CInv.start {me : Int} (h : 0 ≤ me ∧ me ≤ 4) : CInv me [0, 0, 0, 0, 0] [] :=
  ⟨h, rfl, fun j hj => by rcases j with _ | _ | _ | _ | _ | j <;> first | (constructor <;> decide) | omega, fun c hc => absurd hc List.not_mem_nil, by simp⟩
end Go.Proofs.YtolnfipdhkbkjajDoor.Cau
