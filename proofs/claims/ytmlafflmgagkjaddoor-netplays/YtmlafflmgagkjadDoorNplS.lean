/-
  The walk of NetPlays: anything that is sent, given, dropped, doubled, cut: what is refused, what is on its way, are what the document tells.
-/
import Derived.Test.YtmlafflmgagkjadDoorNf
import Derived.Test.YtmlafflmgagkjadDoorNetO
import Derived.Test.YtmlafflmgagkjadDoorRowsF
import Derived.Deep.CutBlock
import Derived.Deep.CutRange
namespace Go.Proofs.YtmlafflmgagkjadDoor.Net
open Go.RowKit
open Go.Proofs.YtmlafflmgagkjadDoor.As (Laid)
open Go.Proofs.YtmlafflmgagkjadDoor.Vec (Vw Rw)
open Go.Proofs.YtmlafflmgagkjadDoor.Fif (own_lt own_block own_form own_mono Kp ret_bool)
set_option linter.unusedVariables false

/-- how both stand at any time -/
def PN (w : World) (P Q : Nat) (no : Int → Int → Bool) (l : List Pk) (v : Value) (fp : List Nat) (wr : World) : Prop :=
  NS wr w.heap.size P no l fp ∧ RN wr w.heap.size Q no l v ∧ NInv l ∧ (∀ b ∈ fp, b ≠ Q ∧ v.ownBlock ≠ some b) ∧ Below w.heap.size w wr
theorem PN.later {w : World} {P Q : Nat} {no : Int → Int → Bool} {l : List Pk} {v : Value} {fp : List Nat} {wr w' : World} (g : PN w P Q no l v fp wr) (hb : Below wr.heap.size wr w') : PN w P Q no l v fp w' :=
  ⟨ns_later g.1 hb, g.2.1.later hb, g.2.2.1, g.2.2.2.1, g.2.2.2.2.trans (hb.mono g.2.2.2.2.size)⟩
/-- the document's own net has turned, the program's not yet -/
def PM (w : World) (P Q : Nat) (no no' : Int → Int → Bool) (l l' : List Pk) (v' : Value) (fp : List Nat) (wr : World) : Prop :=
  NS wr w.heap.size P no l fp ∧ RN wr w.heap.size Q no' l' v' ∧ (∀ b ∈ fp, b ≠ Q ∧ v'.ownBlock ≠ some b) ∧ Below w.heap.size w wr
theorem PM.later {w : World} {P Q : Nat} {no no' : Int → Int → Bool} {l l' : List Pk} {v : Value} {fp : List Nat} {wr w' : World} (g : PM w P Q no no' l l' v fp wr) (hb : Below wr.heap.size wr w') : PM w P Q no no' l l' v fp w' :=
  ⟨ns_later g.1 hb, g.2.1.later hb, g.2.2.1, g.2.2.2.trans (hb.mono g.2.2.2.size)⟩
theorem PN.ref {w : World} {P Q : Nat} {no no' : Int → Int → Bool} {l l' : List Pk} {v v' : Value} {fp : List Nat} {w4 w5 : World} {r : Option Nat} (g : PN w P Q no l v fp w4) (hR : RN w5 w.heap.size Q no' l' v') (hB : Below w.heap.size w4 w5) (hK : Kp w4 w5 Q r) (hr : ∀ k, r = some k → v.ownBlock = some k) (hV : ∀ k, v'.ownBlock = some k → v.ownBlock = some k ∨ w4.heap.size ≤ k) : PM w P Q no no' l l' v' fp w5 := by
  refine ⟨g.1.of_blocks hK.1 (fun b hb => hK.2 b (g.1.fp b hb).2 (g.2.2.2.1 b hb).1 (fun e => (g.2.2.2.1 b hb).2 (hr b e.symm))), hR, fun b hb => ⟨(g.2.2.2.1 b hb).1, fun e => ?_⟩, g.2.2.2.2.trans hB⟩
  rcases hV b e with a | a
  · exact (g.2.2.2.1 b hb).2 a
  · have := (g.1.fp b hb).2
    omega
theorem PM.prog {w : World} {P Q : Nat} {no no' : Int → Int → Bool} {l l' : List Pk} {v' : Value} {fp fp' : List Nat} {w5 w6 : World} (g : PM w P Q no no' l l' v' fp w5) (hi : NInv l') (hN : NS w6 w.heap.size P no' l' fp') (hB : Below w.heap.size w5 w6) (hk : KpL w5 w6 fp) (hn : NewL w5 fp fp') : PN w P Q no' l' v' fp' w6 := by
  refine ⟨hN, g.2.1.of_blocks (hk.2 Q (World.rowIs.lt g.2.1.row) (fun h => (g.2.2.1 Q h).1 rfl)) (fun k hk' => hk.2 k (own_lt g.2.1.own k hk').2 (fun h => (g.2.2.1 k h).2 hk')), hi, fun b hb => ?_, g.2.2.2.trans hB⟩
  rcases hn b hb with a | a
  · exact g.2.2.1 b a
  · refine ⟨fun e => ?_, fun e => ?_⟩
    · have := World.rowIs.lt g.2.1.row
      omega
    · have := (own_lt g.2.1.own b e).2
      omega
def PA (w : World) (P Q : Nat) (wr : World) : Prop := ∃ no l v fp, PN w P Q no l v fp wr
/-- the four numbers of a step, in a variable of the round's own -/
def V4 (wr : World) (V : Nat) (k0 k1 k2 k3 : Int) : Prop := V < wr.heap.size ∧ wr.cell? ⟨V, 0, none⟩ = some (.int .i64 k0) ∧ wr.cell? ⟨V, 1, none⟩ = some (.int .i64 k1) ∧ wr.cell? ⟨V, 2, none⟩ = some (.int .i64 k2) ∧ wr.cell? ⟨V, 3, none⟩ = some (.int .i64 k3)
theorem V4.block {w w' : World} {V : Nat} {k0 k1 k2 k3 : Int} (h : V4 w V k0 k1 k2 k3) (hs : w.heap.size ≤ w'.heap.size) (e : w'.heap[V]? = w.heap[V]?) : V4 w' V k0 k1 k2 k3 :=
  ⟨Nat.lt_of_lt_of_le h.1 hs, (World.cell?_of_block (a := ⟨V, 0, none⟩) e).trans h.2.1, (World.cell?_of_block (a := ⟨V, 1, none⟩) e).trans h.2.2.1, (World.cell?_of_block (a := ⟨V, 2, none⟩) e).trans h.2.2.2.1, (World.cell?_of_block (a := ⟨V, 3, none⟩) e).trans h.2.2.2.2⟩
theorem V4.later {w w' : World} {V : Nat} {k0 k1 k2 k3 : Int} (h : V4 w V k0 k1 k2 k3) (hb : Below w.heap.size w w') : V4 w' V k0 k1 k2 k3 := h.block hb.size (hb.block V h.1)
/-- it lies apart from both -/
def Vap (V Q : Nat) (v : Value) (fp : List Nat) : Prop := V ≠ Q ∧ v.ownBlock ≠ some V ∧ V ∉ fp
theorem cut_no {no : Int → Int → Bool} {a b : Int} {is : Bool} (h : ¬ (0 ≤ a ∧ a ≤ 4 ∧ 0 ≤ b ∧ b ≤ 4)) : cutC a b = 1 ∧ cutN no a b is = no := by
  have e : cutC a b = 1 := if_neg (fun q => h (by
    have h1 := q.1
    have h2 := q.2
    simp [mem5] at h1 h2
    omega))
  refine ⟨e, funext fun x => funext fun y => ?_⟩
  unfold cutN
  rw [if_neg (fun q => by rw [e] at q; exact absurd q.1 (by decide))]
theorem cut_in {a b : Int} (ha : 0 ≤ a ∧ a ≤ 4) (hb : 0 ≤ b ∧ b ≤ 4) : cutC a b = if a = b then 3 else 0 := if_pos ⟨by simp [mem5]; omega, by simp [mem5]; omega⟩
theorem cut_same {no : Int → Int → Bool} {a b : Int} {is : Bool} (ha : 0 ≤ a ∧ a ≤ 4) (hab : a = b) : cutC a b = 3 ∧ cutN no a b is = no := by
  subst hab
  have e : cutC a a = 3 := by rw [cut_in ha ha, if_pos rfl]
  refine ⟨e, funext fun x => funext fun y => ?_⟩
  unfold cutN
  rw [if_neg (fun q => by rw [e] at q; exact absurd q.1 (by decide))]
theorem cut_yes {no : Int → Int → Bool} {a b : Int} {is : Bool} (ha : 0 ≤ a ∧ a ≤ 4) (hb : 0 ≤ b ∧ b ≤ 4) (hab : ¬ a = b) : cutC a b = 0 ∧ cutN no a b is = fun x y => if x = b ∧ y = a then is else if x = a ∧ y = b then is else no x y := by
  have e : cutC a b = 0 := by rw [cut_in ha hb, if_neg hab]
  refine ⟨e, funext fun x => funext fun y => ?_⟩
  show (if cutC a b = 0 ∧ ((x = a ∧ y = b) ∨ (x = b ∧ y = a)) then is else no x y) = _
  by_cases h1 : x = b ∧ y = a
  · rw [if_pos ⟨e, .inr h1⟩, if_pos h1]
  · rw [if_neg h1]
    by_cases h2 : x = a ∧ y = b
    · rw [if_pos ⟨e, .inl h2⟩, if_pos h2]
    · rw [if_neg h2, if_neg (fun q => q.2.elim h2 h1)]
theorem cut_zero {a b : Int} (h : cutC a b = 0) : (0 ≤ a ∧ a ≤ 4) ∧ (0 ≤ b ∧ b ≤ 4) ∧ ¬ a = b := by
  unfold cutC at h
  split at h
  · rename_i q
    have h1 := q.1
    have h2 := q.2
    simp [mem5] at h1 h2
    split at h
    · omega
    · rename_i hab
      exact ⟨h1, h2, hab⟩
  · omega
theorem cut_not {no : Int → Int → Bool} {a b : Int} {is : Bool} (h : ¬ cutC a b = 0) : cutN no a b is = no := by
  refine funext fun x => funext fun y => ?_
  unfold cutN
  rw [if_neg (fun q => h q.1)]
def k012 (k : Int) : Bool := decide (k = 0) || decide (k = 1) || decide (k = 2)
theorem below_base {B : Nat} {w w1 w2 : World} (h : Below B w1 w2) (e : w1.heap = w.heap) (e1 : w1.os = w.os) (e2 : w1.tape = w.tape) (e3 : w1.output = w.output) : Below B w w2 :=
  ⟨h.os.trans e1, h.tape.trans e2, h.output.trans e3, by have := h.size; rw [e] at this; exact this, fun k hk => by rw [h.block k hk, e]⟩
/-- four numbers in a variable of the round's own -/
def R4 (wo wz : World) : Prop := ∃ f : Nat → Int, wz.rowIs wo.heap.size 68 4 (fun t => .int .i64 (f t)) ∧ Below wo.heap.size wo wz
/-- the block of that number -/
def blockAt (n : Nat) : Code → Option Code
  | .block m c => if m = n then some (.block m c) else blockAt n c
  | .seq a b => match blockAt n a with
    | some c => some c
    | none => blockAt n b
  | .loop c => blockAt n c
  | .cond _ a b => match blockAt n a with
    | some c => some c
    | none => blockAt n b
  | _ => none
end Go.Proofs.YtmlafflmgagkjadDoor.Net
