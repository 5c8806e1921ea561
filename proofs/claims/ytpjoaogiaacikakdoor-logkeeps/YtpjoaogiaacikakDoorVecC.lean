/-
  Small facts on vectors that lie in memory: a list that came in is seen by its numbers, and so is one that was written out in the text; who is greater than whom.
-/
import Derived.Test.YtpjoaogiaacikakDoorVecB
namespace Go.Proofs.YtpjoaogiaacikakDoor.Vec
open Go.RowKit

def IsRow (k : IntKind) (w : World) (a : Option Addr) (len cap : Nat) (zs : List Int) : Prop :=
  (a = none ∧ len = 0 ∧ cap = 0 ∧ zs = []) ∨
  ∃ x, a = some x ∧ len ≤ cap ∧ cap ≤ maxLen ∧ zs.length = cap ∧ (∀ i, i < zs.length → w.cell? (x.add i) = some (.int k (zs.getD i 0))) ∧ ∀ n ∈ zs, (Lit.int k n).wf = true

theorem IsRow.len {w : World} {a : Option Addr} {len cap : Nat} {zs : List Int} (h : IsRow .i64 w a len cap zs) : len ≤ maxLen := by
  rcases h with ⟨_, rfl, _, _⟩ | ⟨_, _, h1, h2, _⟩
  · unfold maxLen; omega
  · omega

theorem IsRow.vw {w : World} {a : Option Addr} {len cap : Nat} {zs : List Int} (h : IsRow .i64 w a len cap zs) : Vw w a len (zs.take len) := by
  rcases h with ⟨rfl, rfl, _, rfl⟩ | ⟨⟨b, off, spot⟩, rfl, h1, _, h3, hc, _⟩
  · exact ⟨rfl, fun h => absurd h (by omega)⟩
  · refine ⟨by rw [List.length_take]; omega, fun hl => ?_⟩
    have h0 := hc 0 (by omega)
    have hs : spot = none := by simpa [Addr.add] using World.cell?_spot h0
    subst hs
    refine ⟨b, off, rfl, ?_, fun k hk => ?_⟩
    · have := block_lt_of_cell h0
      simpa [Addr.add] using this
    · have := hc k (by omega)
      rw [Addr.add_lit] at this
      rw [this]
      simp [hk]

theorem Vw.lit (w : World) (x0 x1 x2 x3 x4 : Int) (t : TypeId) : Vw (w.alloc (.cells #[.int .i64 x0, .int .i64 x1, .int .i64 x2, .int .i64 x3, .int .i64 x4] t)) (some ⟨w.heap.size, 0, none⟩) 5 [x0, x1, x2, x3, x4] := by
  refine ⟨rfl, fun _ => ⟨_, _, rfl, by simp, fun k hk => ?_⟩⟩
  match k, hk with
  | 0, _ => simp
  | 1, _ => simp
  | 2, _ => simp
  | 3, _ => simp
  | 4, _ => simp

theorem Vw.litAt (w : World) (N : Nat) (hN : N = w.heap.size) (x0 x1 x2 x3 x4 : Int) (t : TypeId) : Vw (w.alloc (.cells #[.int .i64 x0, .int .i64 x1, .int .i64 x2, .int .i64 x3, .int .i64 x4] t)) (some ⟨N, 0, none⟩) 5 [x0, x1, x2, x3, x4] := by
  subst hN; exact Vw.lit w x0 x1 x2 x3 x4 t

theorem Vw.alloc {w : World} {a : Option Addr} {len : Nat} {xs : List Int} (h : Vw w a len xs) (o : Obj) : Vw (w.alloc o) a len xs := h.later ((Below.refl _ _).alloc (Nat.le_refl _) _)

theorem gt_self (xs : List Int) : gt xs xs = false := anyP_false fun j _ => by simp

theorem gt_false {xs ys : List Int} (h : gt xs ys = false) : ∀ j, j < 5 → xs.getD j 0 ≤ ys.getD j 0 := by
  intro j hj
  cases hb : decide (ys.getD j 0 < xs.getD j 0)
  · have := of_decide_eq_false hb; omega
  · have := anyP_true (p := fun k => decide (ys.getD k 0 < xs.getD k 0)) hj hb
    unfold gt at h
    rw [h] at this
    exact absurd this (by decide)

theorem gt_of {xs ys : List Int} (h : ∀ j, j < 5 → xs.getD j 0 ≤ ys.getD j 0) : gt xs ys = false := anyP_false fun j hj => by have := h j hj; simp; simpa using this

theorem eq_of_gt {xs ys : List Int} (hx : xs.length = 5) (hy : ys.length = 5) (h : gt xs ys = false) (h' : gt ys xs = false) : xs = ys :=
  getD_eq_of (by omega) fun j hj => by have := gt_false h j (by omega); have := gt_false h' j (by omega); omega

end Go.Proofs.YtpjoaogiaacikakDoor.Vec
