/-
  Plain facts on packets on their way: what is refused, what is there.
-/
import Derived.Test.YtmlafflmgagkjadDoorRows
namespace Go.Proofs.YtmlafflmgagkjadDoor.Net

/-- a packet: from, to, word -/
abbrev Pk := Int × Int × Int
def pkBad (p : Pk) : Bool := decide (p.1 < 0) || decide (4 < p.1) || decide (p.2.1 < 0) || decide (4 < p.2.1) || decide (p.2.2 < 1) || decide (30 < p.2.2)
theorem pkBad_no {p : Pk} (h : pkBad p = false) : (0 ≤ p.1 ∧ p.1 ≤ 4) ∧ (0 ≤ p.2.1 ∧ p.2.1 ≤ 4) ∧ 1 ≤ p.2.2 ∧ p.2.2 ≤ 30 := by
  simp [pkBad] at h
  omega
def pk (l : List Pk) (i : Nat) : Pk := l.getD i (0, 0, 0)
theorem pk_get {l : List Pk} {i : Nat} (hi : i < l.length) : pk l i = l[i] := by
  show l.getD _ _ = _
  rw [List.getD, List.getElem?_eq_getElem hi]
  rfl
/-- what is wrong with a packet that is sent, and what is there then -/
def sendC (l : List Pk) (p : Pk) : Int := if pkBad p = true then 1 else if p.1 = p.2.1 then 3 else if 40 ≤ l.length then 4 else 0
def sendL (l : List Pk) (p : Pk) : List Pk := if sendC l p = 0 then l ++ [p] else l
/-- is there an i-th? -/
def isIn (l : List Pk) (i : Int) : Bool := decide (0 ≤ i) && decide (i < l.length)
theorem isIn_yes {l : List Pk} {i : Int} (h : isIn l i = true) : ∃ k : Nat, i = (k : Int) ∧ k < l.length := by
  simp [isIn] at h
  exact ⟨i.toNat, by omega, by omega⟩
theorem isIn_no {l : List Pk} {i : Int} (h : isIn l i = false) : i < 0 ∨ (l.length : Int) ≤ i := by
  simp [isIn] at h
  omega
theorem isIn_of {l : List Pk} {k : Nat} (h : k < l.length) : isIn l (k : Int) = true := by
  simp [isIn]
  omega
def dropC (l : List Pk) (i : Int) : Int := if isIn l i = true then 0 else 1
def dropL (l : List Pk) (i : Int) : List Pk := if isIn l i = true then l.eraseIdx i.toNat else l
def twC (l : List Pk) (i : Int) : Int := if isIn l i = true then sendC l (pk l i.toNat) else 1
def twL (l : List Pk) (i : Int) : List Pk := if isIn l i = true then sendL l (pk l i.toNat) else l
def giveC (no : Int → Int → Bool) (l : List Pk) (i : Int) : Int := if isIn l i = true then (if no (pk l i.toNat).1 (pk l i.toNat).2.1 = true then 6 else 0) else 1
def giveL (no : Int → Int → Bool) (l : List Pk) (i : Int) : List Pk := if giveC no l i = 0 then l.eraseIdx i.toNat else l
def giveP (no : Int → Int → Bool) (l : List Pk) (i : Int) : Pk := if giveC no l i = 0 then pk l i.toNat else (0, 0, 0)
def mem5 (a : Int) : Bool := decide (0 ≤ a) && decide (a ≤ 4)
def cutC (a b : Int) : Int := if mem5 a = true ∧ mem5 b = true then (if a = b then 3 else 0) else 1
def cutN (no : Int → Int → Bool) (a b : Int) (is : Bool) : Int → Int → Bool := fun x y => if cutC a b = 0 ∧ ((x = a ∧ y = b) ∨ (x = b ∧ y = a)) then is else no x y
/-- what holds at any time -/
structure NInv (l : List Pk) : Prop where
  ok : ∀ p ∈ l, pkBad p = false ∧ p.1 ≠ p.2.1
  len : l.length ≤ 40
theorem NInv.start : NInv [] := ⟨fun p hp => absurd hp List.not_mem_nil, by simp⟩
theorem NInv.send {l : List Pk} (g : NInv l) (p : Pk) : NInv (sendL l p) := by
  unfold sendL
  split
  · rename_i h
    unfold sendC at h
    split at h
    · omega
    · rename_i h1
      split at h
      · omega
      · rename_i h2
        split at h
        · omega
        · refine ⟨fun q hq => ?_, by rw [List.length_append]; simp; omega⟩
          rcases List.mem_append.1 hq with a | a
          · exact g.ok q a
          · rw [List.mem_singleton.1 a]
            exact ⟨by simpa using h1, h2⟩
  · exact g
theorem NInv.erase {l : List Pk} (g : NInv l) (i : Nat) : NInv (l.eraseIdx i) :=
  ⟨fun q hq => g.ok q ((List.eraseIdx_sublist l i).subset hq), Nat.le_trans (List.eraseIdx_sublist l i).length_le g.len⟩
theorem NInv.drop {l : List Pk} (g : NInv l) (i : Int) : NInv (dropL l i) := by
  unfold dropL
  split
  · exact g.erase _
  · exact g
theorem NInv.give {l : List Pk} (g : NInv l) (no : Int → Int → Bool) (i : Int) : NInv (giveL no l i) := by
  unfold giveL
  split
  · exact g.erase _
  · exact g
theorem NInv.tw {l : List Pk} (g : NInv l) (i : Int) : NInv (twL l i) := by
  unfold twL
  split
  · exact g.send _
  · exact g
/-- one that is there may be sent again where there is room -/
theorem send_old {l : List Pk} (g : NInv l) {k : Nat} (hk : k < l.length) : sendC l (pk l k) = if 40 ≤ l.length then 4 else 0 := by
  have h := g.ok _ (List.getElem_mem hk)
  rw [pk_get hk]
  unfold sendC
  rw [if_neg (by rw [h.1]; decide), if_neg h.2]
/-- packets as cells, one behind the other -/
def flat (ws : List Pk) : List Value := ws.flatMap fun e => [.int .i64 e.1, .int .i64 e.2.1, .int .i64 e.2.2]
theorem flat_len (ws : List Pk) : (flat ws).length = ws.length * 3 := by
  induction ws with
  | nil => rfl
  | cons e ws ih =>
    have : flat (e :: ws) = [.int .i64 e.1, .int .i64 e.2.1, .int .i64 e.2.2] ++ flat ws := rfl
    rw [this, List.length_append, ih, List.length_cons]
    simp
    omega
theorem flat_append (a b : List Pk) : flat (a ++ b) = flat a ++ flat b := by simp [flat]
theorem flat_one (ws : List Pk) : ∀ u ∈ flat ws, u.oneCell' = true := by
  intro u hu
  obtain ⟨e, _, he⟩ := List.mem_flatMap.1 hu
  simp at he
  rcases he with rfl | rfl | rfl <;> rfl
theorem flat_get (ws : List Pk) : ∀ k, k < ws.length → (flat ws)[k * 3]? = some (.int .i64 (pk ws k).1) ∧ (flat ws)[k * 3 + 1]? = some (.int .i64 (pk ws k).2.1) ∧ (flat ws)[k * 3 + 2]? = some (.int .i64 (pk ws k).2.2) := by
  induction ws with
  | nil => intro k hk; simp at hk
  | cons e ws ih =>
    intro k hk
    have e3 : flat (e :: ws) = .int .i64 e.1 :: .int .i64 e.2.1 :: .int .i64 e.2.2 :: flat ws := rfl
    rw [e3]
    cases k with
    | zero => exact ⟨rfl, rfl, rfl⟩
    | succ k =>
      have := ih k (by simpa using hk)
      have e0 : pk (e :: ws) (k + 1) = pk ws k := rfl
      rw [e0, show (k + 1) * 3 = k * 3 + 3 by omega]
      exact this
theorem flat_take (ws : List Pk) (i : Nat) : flat (ws.take i) = (flat ws).take (i * 3) := by
  induction ws generalizing i with
  | nil => simp [flat]
  | cons e ws ih =>
    cases i with
    | zero => simp [flat]
    | succ i =>
      have e3 : ∀ l, flat (e :: l) = .int .i64 e.1 :: .int .i64 e.2.1 :: .int .i64 e.2.2 :: flat l := fun _ => rfl
      rw [List.take_succ_cons, e3, e3, ih, show (i + 1) * 3 = i * 3 + 1 + 1 + 1 by omega]
      simp
theorem flat_drop (ws : List Pk) (i : Nat) : flat (ws.drop i) = (flat ws).drop (i * 3) := by
  induction ws generalizing i with
  | nil => simp [flat]
  | cons e ws ih =>
    cases i with
    | zero => simp
    | succ i =>
      have e3 : ∀ l, flat (e :: l) = .int .i64 e.1 :: .int .i64 e.2.1 :: .int .i64 e.2.2 :: flat l := fun _ => rfl
      rw [List.drop_succ_cons, e3, ih, show (i + 1) * 3 = i * 3 + 1 + 1 + 1 by omega]
      simp
end Go.Proofs.YtmlafflmgagkjadDoor.Net
