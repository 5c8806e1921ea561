/-
  Parts of memory that have no block in common; what a call leaves alone.
-/
import Derived.Test.YtpjoaogiaacikakGreatDoorMgA
namespace Go.Proofs.YtpjoaogiaacikakGreatDoor.Sep
open Go.RowKit
open Go.Proofs.YtpjoaogiaacikakGreatDoor.Fif (own_lt own_block)
set_option linter.unusedVariables false

/-- all is left alone but some blocks -/
def KpL (w w' : World) (fp : List Nat) : Prop := w.heap.size ≤ w'.heap.size ∧ ∀ b, b < w.heap.size → b ∉ fp → w'.heap[b]? = w.heap[b]?
/-- blocks that were there, or are new -/
def NewL (w : World) (fp fp' : List Nat) : Prop := ∀ b ∈ fp', b ∈ fp ∨ w.heap.size ≤ b
variable {w w' w1 w2 : World} {base : Nat} {F : Nat → List Nat}
theorem KpL.below (h : Below w.heap.size w w') (fp : List Nat) : KpL w w' fp := ⟨h.size, fun b hb _ => h.block b hb⟩
theorem NewL.refl (w : World) (fp : List Nat) : NewL w fp fp := fun _ h => .inl h
theorem NewL.fresh {fp fp' : List Nat} (h : ∀ b ∈ fp', w.heap.size ≤ b) : NewL w fp fp' := fun b hb => .inr (h b hb)
/-- parts that have no block in common -/
structure Sep (w : World) (base : Nat) (F : Nat → List Nat) : Prop where
  bd : ∀ k, k < 10 → ∀ b ∈ F k, base ≤ b ∧ b < w.heap.size
  dj : ∀ i j, i < 10 → j < 10 → ∀ b, b ∈ F i → b ∈ F j → i = j
def setF (F : Nat → List Nat) (k : Nat) (l : List Nat) : Nat → List Nat := fun i => if i = k then l else F i
theorem set_same (F : Nat → List Nat) (k : Nat) (l : List Nat) : setF F k l k = l := if_pos rfl
theorem set_other (F : Nat → List Nat) {k i : Nat} (l : List Nat) (h : i ≠ k) : setF F k l i = F i := if_neg h
theorem Sep.none (w : World) (base : Nat) : Sep w base (fun _ => []) := ⟨fun k _ b hb => absurd hb List.not_mem_nil, fun i j _ _ b hb => absurd hb List.not_mem_nil⟩
theorem Sep.put' (h : Sep w base F) {k : Nat} (hk : k < 10) {l : List Nat} (hs : w.heap.size ≤ w'.heap.size) (hn' : ∀ b ∈ l, b ∈ F k ∨ ∀ i, i < 10 → b ∉ F i) (hl : ∀ b ∈ l, base ≤ b ∧ b < w'.heap.size) : Sep w' base (setF F k l) := by
  refine ⟨fun i hi b hb => ?_, fun i j hi hj b hbi hbj => ?_⟩
  · unfold setF at hb
    split at hb
    · exact hl b hb
    · have := h.bd i hi b hb
      exact ⟨this.1, Nat.lt_of_lt_of_le this.2 hs⟩
  · unfold setF at hbi hbj
    split at hbi
    · rename_i e1
      split at hbj
      · rename_i e2
        rw [e1, e2]
      · rename_i e2
        rcases hn' b hbi with a | a
        · exact absurd (h.dj k j hk hj b a hbj).symm e2
        · exact absurd hbj (a j hj)
    · rename_i e1
      split at hbj
      · rename_i e2
        rcases hn' b hbj with a | a
        · exact absurd (h.dj k i hk hi b a hbi).symm e1
        · exact absurd hbi (a i hi)
      · exact h.dj i j hi hj b hbi hbj
theorem Sep.put (h : Sep w base F) {k : Nat} (hk : k < 10) {l : List Nat} (hs : w.heap.size ≤ w'.heap.size) (hn : NewL w (F k) l) (hl : ∀ b ∈ l, base ≤ b ∧ b < w'.heap.size) : Sep w' base (setF F k l) :=
  h.put' hk hs (fun b hb => (hn b hb).imp id fun q i hi hf => by have := (h.bd i hi b hf).2; omega) hl
theorem Sep.later (h : Sep w base F) (hs : w.heap.size ≤ w'.heap.size) : Sep w' base F := ⟨fun k hk b hb => ⟨(h.bd k hk b hb).1, Nat.lt_of_lt_of_le (h.bd k hk b hb).2 hs⟩, h.dj⟩
/-- the other parts stay -/
theorem Sep.keep (h : Sep w base F) {k i : Nat} (hk : k < 10) (hi : i < 10) (hne : i ≠ k) (hp : KpL w w' (F k)) : ∀ b ∈ F i, w'.heap[b]? = w.heap[b]? := fun b hb => hp.2 b (h.bd i hi b hb).2 fun q => hne (h.dj i k hi hk b hb q)
/-- all parts stay where only what is new is touched -/
theorem Sep.still (h : Sep w base F) (hb : Below w.heap.size w w') {i : Nat} (hi : i < 10) : ∀ b ∈ F i, w'.heap[b]? = w.heap[b]? := fun b hb' => hb.block b (h.bd i hi b hb').2
theorem Sep.lower (h : Sep w base F) {base' : Nat} (hb : base' ≤ base) : Sep w base' F := ⟨fun k hk b q => ⟨Nat.le_trans hb (h.bd k hk b q).1, (h.bd k hk b q).2⟩, h.dj⟩
end Go.Proofs.YtpjoaogiaacikakGreatDoor.Sep
