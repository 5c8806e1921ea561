/-
  Contracts of package net: New, Send, All, Give, Drop, Twice, Cut, with the blocks that a net's own memory takes.
-/
import Derived.Test.YtmlafflmgagkjadDoorNetJ
namespace Go.Proofs.YtmlafflmgagkjadDoor.Net
open Go.RowKit
open Go.Proofs.YtmlafflmgagkjadDoor.Nw (NF Res fpOf)
set_option linter.unusedVariables false

/-- a net of the program in memory, and its blocks -/
def NS (w : World) (base P : Nat) (no : Int → Int → Bool) (l : List Pk) (fp : List Nat) : Prop := ∃ mb v, NF w base P mb no l v ∧ fp = fpOf P mb v
theorem NS.of_blocks {w w' : World} {base P : Nat} {no : Int → Int → Bool} {l : List Pk} {fp : List Nat} (g : NS w base P no l fp) (hs : w.heap.size ≤ w'.heap.size) (h : ∀ b ∈ fp, w'.heap[b]? = w.heap[b]?) : NS w' base P no l fp := by
  obtain ⟨mb, v, g, rfl⟩ := g
  exact ⟨mb, v, g.of_blocks h, rfl⟩
theorem NS.fp {w : World} {base P : Nat} {no : Int → Int → Bool} {l : List Pk} {fp : List Nat} (g : NS w base P no l fp) : ∀ b ∈ fp, base ≤ b ∧ b < w.heap.size := by
  obtain ⟨mb, v, g, rfl⟩ := g
  exact g.fp
theorem newN (w : World) : Calls Tryd.prog 18 #[] w fun x w' => ∃ P fp, x = .returned (.pointer (some ⟨P, 0, none⟩)) ∧ NS w' w.heap.size P (fun _ _ => false) [] fp ∧ Below w.heap.size w w' := by
  refine (Nw.newF w).mono ?_
  rintro x w' ⟨rfl, g, hb⟩
  exact ⟨_, _, rfl, ⟨_, _, g, rfl⟩, hb⟩
theorem sendN (base P : Nat) (no : Int → Int → Bool) (l : List Pk) (fp : List Nat) (p : Pk) (w : World) (g : NS w base P no l fp) (hi : NInv l) (hbw : base ≤ w.heap.size) : Calls Tryd.prog 19 #[.pointer (some ⟨P, 0, none⟩), .agg #[.int .i64 p.1, .int .i64 p.2.1, .int .i64 p.2.2]] w fun x w' => ∃ fp', x = .returned (errF (sendC l p)) ∧ NS w' base P no (sendL l p) fp' ∧ Below base w w' ∧ KpL w w' fp ∧ NewL w fp fp' := by
  obtain ⟨mb, v, g, rfl⟩ := g
  refine (Nw.send_any p.1 p.2.1 p.2.2 w g hbw).mono ?_
  rintro x w' ⟨v', rfl, r⟩
  exact ⟨_, rfl, ⟨mb, v', r.nf, rfl⟩, r.bel, r.kp, r.new⟩
theorem dropN (base P : Nat) (no : Int → Int → Bool) (l : List Pk) (fp : List Nat) (i : Int) (w : World) (g : NS w base P no l fp) (hi : NInv l) (hbw : base ≤ w.heap.size) : Calls Tryd.prog 24 #[.pointer (some ⟨P, 0, none⟩), .int .i64 i] w fun x w' => ∃ fp', x = .returned (errF (dropC l i)) ∧ NS w' base P no (dropL l i) fp' ∧ Below base w w' ∧ KpL w w' fp ∧ NewL w fp fp' := by
  obtain ⟨mb, v, g, rfl⟩ := g
  refine (Nw.drop_any i w g hbw hi.len).mono ?_
  rintro x w' ⟨v', rfl, r⟩
  exact ⟨_, rfl, ⟨mb, v', r.nf, rfl⟩, r.bel, r.kp, r.new⟩
theorem twiceN (base P : Nat) (no : Int → Int → Bool) (l : List Pk) (fp : List Nat) (i : Int) (w : World) (g : NS w base P no l fp) (hi : NInv l) (hbw : base ≤ w.heap.size) : Calls Tryd.prog 23 #[.pointer (some ⟨P, 0, none⟩), .int .i64 i] w fun x w' => ∃ fp', x = .returned (errF (twC l i)) ∧ NS w' base P no (twL l i) fp' ∧ Below base w w' ∧ KpL w w' fp ∧ NewL w fp fp' := by
  obtain ⟨mb, v, g, rfl⟩ := g
  refine (Nw.twice_any i w g hi hbw).mono ?_
  rintro x w' ⟨v', rfl, r⟩
  exact ⟨_, rfl, ⟨mb, v', r.nf, rfl⟩, r.bel, r.kp, r.new⟩
theorem giveN (base P : Nat) (no : Int → Int → Bool) (l : List Pk) (fp : List Nat) (i : Int) (w : World) (g : NS w base P no l fp) (hi : NInv l) (hbw : base ≤ w.heap.size) : Calls Tryd.prog 21 #[.pointer (some ⟨P, 0, none⟩), .int .i64 i] w fun x w' => ∃ fp', x = .returned (.tuple #[.agg #[.int .i64 (giveP no l i).1, .int .i64 (giveP no l i).2.1, .int .i64 (giveP no l i).2.2], errF (giveC no l i)]) ∧ NS w' base P no (giveL no l i) fp' ∧ Below base w w' ∧ KpL w w' fp ∧ NewL w fp fp' := by
  obtain ⟨mb, v, g, rfl⟩ := g
  cases h : isIn l i
  · have e1 : giveC no l i = 1 := if_neg (by rw [h]; decide)
    have e2 : giveL no l i = l := if_neg (by rw [e1]; decide)
    have e3 : giveP no l i = (0, 0, 0) := if_neg (by rw [e1]; decide)
    rw [e1, e2, e3]
    refine (Nw.give_out i w g h).mono ?_
    rintro x w' ⟨rfl, hb⟩
    have r := Res.still g hbw hb
    exact ⟨_, rfl, ⟨mb, v, r.nf, rfl⟩, r.bel, r.kp, r.new⟩
  · obtain ⟨k, rfl, hk⟩ := isIn_yes h
    have e0 : giveC no l (k : Int) = if no (pk l k).1 (pk l k).2.1 = true then 6 else 0 := by
      unfold giveC
      rw [if_pos h, Int.toNat_natCast]
    refine (Nw.give_in k w hk g hbw hi _ rfl).mono ?_
    rintro x w' (⟨his, rfl, hb⟩ | ⟨his, v', rfl, r⟩)
    · rw [if_pos his] at e0
      have e2 : giveL no l (k : Int) = l := if_neg (by rw [e0]; decide)
      have e3 : giveP no l (k : Int) = (0, 0, 0) := if_neg (by rw [e0]; decide)
      rw [e0, e2, e3]
      have r := Res.still g hbw hb
      exact ⟨_, rfl, ⟨mb, v, r.nf, rfl⟩, r.bel, r.kp, r.new⟩
    · rw [if_neg (by rw [his]; decide)] at e0
      have e2 : giveL no l (k : Int) = l.eraseIdx k := by unfold giveL; rw [if_pos e0, Int.toNat_natCast]
      have e3 : giveP no l (k : Int) = pk l k := by unfold giveP; rw [if_pos e0, Int.toNat_natCast]
      rw [e0, e2, e3]
      exact ⟨_, rfl, ⟨mb, v', r.nf, rfl⟩, r.bel, r.kp, r.new⟩
theorem cutNet (base P : Nat) (no : Int → Int → Bool) (l : List Pk) (fp : List Nat) (a b : Int) (is : Bool) (w : World) (g : NS w base P no l fp) (hi : NInv l) (hbw : base ≤ w.heap.size) : Calls Tryd.prog 20 #[.pointer (some ⟨P, 0, none⟩), .int .i64 a, .int .i64 b, .bool is] w fun x w' => ∃ fp', x = .returned (errF (cutC a b)) ∧ NS w' base P (cutN no a b is) l fp' ∧ Below base w w' ∧ KpL w w' fp ∧ NewL w fp fp' := by
  obtain ⟨mb, v, g, rfl⟩ := g
  refine (Nw.cutF a b is w g hbw).mono ?_
  rintro x w' ⟨rfl, r⟩
  exact ⟨_, rfl, ⟨mb, v, r.nf, rfl⟩, r.bel, r.kp, r.new⟩
theorem allN (base P : Nat) (no : Int → Int → Bool) (l : List Pk) (fp : List Nat) (w : World) (g : NS w base P no l fp) (hi : NInv l) : Calls Tryd.prog 22 #[.pointer (some ⟨P, 0, none⟩)] w fun x w' => ∃ v, x = .returned v ∧ Po w' w.heap.size v l ∧ Below w.heap.size w w' := by
  obtain ⟨mb, v, g, rfl⟩ := g
  exact Nw.all_any w g hi.len
end Go.Proofs.YtmlafflmgagkjadDoor.Net
