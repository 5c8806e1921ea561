/-
  How the program's group that flushes stands in a walk: what came in lies apart.
-/
import Derived.Test.YtgdmbnfdcbekaaiDoorFluP
import Derived.Deep.QuietTactic
import Derived.BigQuiet
import Derived.Deep.RegionHeld3
import Derived.WalkLawsBesides
import Derived.Handy
namespace Go.Proofs.YtgdmbnfdcbekaaiDoor.Flu
open Go.RowKit
open Go.Proofs.YtgdmbnfdcbekaaiDoor.Vec (Vw)
open Go.Proofs.YtgdmbnfdcbekaaiDoor.Sep (KpL NewL)
open Go.Proofs.YtgdmbnfdcbekaaiDoor.Ldr (errF errF_ok errF_no Sl)
set_option linter.unusedVariables false

theorem US.later {w w' : World} {base P : Nat} {f : F} {fp : List Nat} (h : US w base P f fp) (hb : Below w.heap.size w w') : US w' base P f fp := h.of_blocks hb.size fun b hb' => hb.block b (h.fp b hb').2
/-- how it stands -/
structure UO (w wr : World) (P : Nat) (f : F) (fp : List Nat) : Prop where
  us : US wr w.heap.size P f fp
  bel : Below w.heap.size w wr
theorem UO.later {w wr w' : World} {P : Nat} {f : F} {fp : List Nat} (h : UO w wr P f fp) (hb : Below wr.heap.size wr w') : UO w w' P f fp := ⟨h.us.later hb, h.bel.trans (hb.mono h.bel.size)⟩
theorem below_alu (w : World) (o : Obj) : Below w.heap.size w (w.alloc o) := (Below.refl _ _).alloc (Nat.le_refl _) _
theorem below_same {X a w2 : World} (h : Below X.heap.size X w2) (e : X.heap = a.heap) (e1 : X.os = a.os) (e2 : X.tape = a.tape) (e3 : X.output = a.output) : Below a.heap.size a w2 := ⟨h.os.trans e1, h.tape.trans e2, h.output.trans e3, by rw [← e]; exact h.size, fun b hb => by rw [h.block b (by rw [e]; exact hb), e]⟩
theorem below_from {B : Nat} {X a w2 : World} (h : Below B X w2) (e : X.heap = a.heap) (e1 : X.os = a.os) (e2 : X.tape = a.tape) (e3 : X.output = a.output) : Below B a w2 := ⟨h.os.trans e1, h.tape.trans e2, h.output.trans e3, by rw [← e]; exact h.size, fun b hb => by rw [h.block b hb, e]⟩
theorem sl_block {w w' : World} {q : Option Addr} {n c : Nat} {l : List Int} (h : Sl w (.slice q n c) l) (hs : w.heap.size ≤ w'.heap.size) (hk : ∀ ad, q = some ad → 0 < n → w'.heap[ad.block]? = w.heap[ad.block]?) : Sl w' (.slice q n c) l := by
  obtain ⟨a, cap, e, h1, h2, h3⟩ := h
  injection e with e1 e2 e3
  subst e1 e2 e3
  refine ⟨q, c, rfl, h1, h2, h3.1, fun z => ?_⟩
  obtain ⟨b, off, e, hlt, hc⟩ := h3.2 z
  have eb := hk _ e z
  exact ⟨b, off, e, Nat.lt_of_lt_of_le hlt hs, fun k hk => (World.cell?_of_block (a := ⟨b, off + k, none⟩) eb).trans (hc k hk)⟩
theorem sl_vw {w : World} {q : Option Addr} {n c : Nat} {l : List Int} (h : Sl w (.slice q n c) l) : n = l.length ∧ Vw w q n l ∧ n ≤ c ∧ c ≤ maxLen := by
  obtain ⟨a', c', e, h1, h2, hv⟩ := h
  injection e with e1 e2 e3
  subst e1 e2 e3
  exact ⟨rfl, hv, h1, h2⟩
theorem view_cells (w : World) (n : Int) (u : Value) : (w.alloc (.cells #[.int .i64 n, u] 30)).cell? ⟨w.heap.size, 0, none⟩ = some (.int .i64 n) ∧ (w.alloc (.cells #[.int .i64 n, u] 30)).cell? ⟨w.heap.size, 1, none⟩ = some u := ⟨by go_cell, by go_cell⟩
end Go.Proofs.YtgdmbnfdcbekaaiDoor.Flu
