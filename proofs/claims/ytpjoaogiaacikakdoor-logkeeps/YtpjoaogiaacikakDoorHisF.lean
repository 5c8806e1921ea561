/-
  A slice of events among the arguments, as the reader reads it, seen by what the events are.
-/
import Derived.Test.YtpjoaogiaacikakDoorHisA
import Derived.ProofKit
import Derived.OpenShut
import Derived.ChangeOld
import Derived.Deep.Strs
import Derived.Deep.Slices
namespace Go.Proofs.YtpjoaogiaacikakDoor.His
open Go.RowKit Go.ChangeShapes Go.WideShapes Go.Deep

theorem add_pt (b off : Nat) (i : Nat) : (⟨b, off, none⟩ : Addr).add i = ⟨b, off + i, none⟩ := Addr.add_lit ..

theorem events_of {H : Type} {enc : TypeId × Value → H} {W : World} {a : Option Addr} {len cap : Nat} {d : DataW H} {p : List MemPlace}
    (h : DataW.Trod enc Tryd.prog W 0 (fun _ => true) true 33 (.slice a len cap) d p) : ∃ es, Ew W a len es ∧ len ≤ cap ∧ cap ≤ maxLen := by
  obtain ⟨fuel, hf⟩ := h
  rcases open_slice (e := 28) (by kernel_rfl) hf with ⟨hcs, _⟩ | ⟨ad, l, c, m, n, D, Pl, hcs, _, hl, hm, hmm, _, hx⟩
  · simp [Value.cells] at hcs
    obtain ⟨rfl, rfl, rfl⟩ := hcs
    exact ⟨[], ⟨rfl, fun h => absurd h (by omega)⟩, by omega, by unfold maxLen; omega⟩
  · simp [Value.cells] at hcs
    obtain ⟨rfl, rfl, rfl⟩ := hcs
    have hc3 : Tryd.prog.cellsOf 28 = 3 := by kernel_rfl
    have hm' : m = cap := by simpa using hmm
    rw [hc3] at hx
    have key : ∀ i, i < len → ∃ e : Ev, W.cell? (ad.add (i * 3)) = some (.int .i64 e.1) ∧ W.cell? ((ad.add (i * 3)).add 1) = some (.int .i64 e.2.1) ∧ W.cell? ((ad.add (i * 3)).add 2) = some (.int .i64 e.2.2) := by
      intro i hi
      obtain ⟨cs', hcells, ht⟩ := hx i (by omega)
      obtain ⟨_, hlen, hcell⟩ := World.cells?_some hcells
      match cs', hlen with
      | [u0, u1, u2], _ =>
        obtain ⟨y0, y1, y2, n', _, _, t0, t1, t2⟩ := trod_struct3 Tryd.underlying28 ht
        have h1 : Tryd.prog.cellsOf 3 = 1 := by kernel_rfl
        simp only [h1] at t0 t1 t2
        obtain ⟨x0, e0, _⟩ := DataW.trod_int Tryd.underlying3 t0
        obtain ⟨x1, e1, _⟩ := DataW.trod_int Tryd.underlying3 t1
        obtain ⟨x2, e2, _⟩ := DataW.trod_int Tryd.underlying3 t2
        simp at e0 e1 e2
        subst e0 e1 e2
        have g0 := hcell 0 (by omega)
        have g1 := hcell 1 (by omega)
        have g2 := hcell 2 (by omega)
        rw [Deep.add_add, Nat.add_zero] at g0
        exact ⟨(x0, x1, x2), by simpa using g0, by simpa using g1, by simpa using g2⟩
    obtain ⟨f, hfx⟩ := choose_lt (α := Ev) key
    refine ⟨(List.range len).map f, ⟨by simp, fun h0 => ?_⟩, hl, hm⟩
    obtain ⟨b, off, spot⟩ := ad
    have k0 := (hfx 0 h0).1
    have hs : spot = none := by simpa [Addr.add] using World.cell?_spot k0
    subst hs
    refine ⟨b, off, rfl, ?_, fun k hk => ?_⟩
    · have := block_lt_of_cell k0
      simpa [Addr.add] using this
    · have e : ev ((List.range len).map f) k = f k := by simp [ev, List.getD, hk]
      obtain ⟨g0, g1, g2⟩ := hfx k hk
      rw [e]
      rw [Addr.add_lit] at g0 g1 g2
      rw [Addr.add_lit] at g1 g2
      exact ⟨g0, g1, g2⟩
end Go.Proofs.YtpjoaogiaacikakDoor.His
