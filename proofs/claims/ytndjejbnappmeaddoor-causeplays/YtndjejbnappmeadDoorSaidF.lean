/-
  A slice of words that were said among the arguments, as the reader reads it, seen by what they are.
-/
import Derived.Test.YtndjejbnappmeadDoorCauM
import Derived.Test.YtndjejbnappmeadDoorVecB
import Derived.ProofKit
import Derived.OpenShut
import Derived.ChangeOld
import Derived.ChangeSlices
import Derived.Deep.Strs
import Derived.Deep.Slices
namespace Go.Proofs.YtndjejbnappmeadDoor.Cau
open Go.RowKit Go.ChangeShapes Go.WideShapes Go.Deep
open Go.Proofs.YtndjejbnappmeadDoor.Vec (Vw)

/-- words that were said, each seen -/
def Sw (w : World) (a : Option Addr) (n : Nat) (ss : List Sd) : Prop :=
  ss.length = n ∧ n ≤ maxLen ∧ (0 < n → ∃ b off, a = some ⟨b, off, none⟩ ∧ b < w.heap.size ∧ ∀ k, k < n → ∃ q c, w.cell? ⟨b, off + k * 3, none⟩ = some (.int .i64 (sd ss k).1) ∧ w.cell? ⟨b, off + k * 3 + 1, none⟩ = some (.int .i64 (sd ss k).2.1) ∧
    w.cell? ⟨b, off + k * 3 + 2, none⟩ = some (.slice q (sd ss k).2.2.length c) ∧ Vw w q (sd ss k).2.2.length (sd ss k).2.2 ∧ (sd ss k).2.2.length ≤ maxLen)
theorem Sw.later {w w' : World} {a : Option Addr} {n : Nat} {ss : List Sd} (g : Sw w a n ss) (hb : Below w.heap.size w w') : Sw w' a n ss := by
  refine ⟨g.1, g.2.1, fun hn => ?_⟩
  obtain ⟨b, off, e, hlt, hc⟩ := g.2.2 hn
  refine ⟨b, off, e, Nat.lt_of_lt_of_le hlt hb.size, fun k hk => ?_⟩
  obtain ⟨q, c, h0, h1, h2, h3, h4⟩ := hc k hk
  exact ⟨q, c, (hb.cell (p := ⟨b, off + k * 3, none⟩) hlt).trans h0, (hb.cell (p := ⟨b, off + k * 3 + 1, none⟩) hlt).trans h1, (hb.cell (p := ⟨b, off + k * 3 + 2, none⟩) hlt).trans h2, h3.later hb, h4⟩
theorem saids_of {H : Type} {enc : TypeId × Value → H} {W : World} {a : Option Addr} {len cap : Nat} {d : DataW H} {p : List MemPlace}
    (h : DataW.Trod enc Tryd.prog W 0 (fun _ => true) true 23 (.slice a len cap) d p) : ∃ ss, Sw W a len ss := by
  obtain ⟨fuel, hf⟩ := h
  rcases open_slice (e := 35) (by kernel_rfl) hf with ⟨hcs, _⟩ | ⟨ad, l, c, m, n, D, Pl, hcs, _, hl, hm, hmm, _, hx⟩
  · simp [Value.cells] at hcs
    obtain ⟨rfl, rfl, rfl⟩ := hcs
    exact ⟨[], rfl, by unfold maxLen; omega, fun h => absurd h (by omega)⟩
  · simp [Value.cells] at hcs
    obtain ⟨rfl, rfl, rfl⟩ := hcs
    have hc3 : Tryd.prog.cellsOf 35 = 3 := by kernel_rfl
    have hm' : m = cap := by simpa using hmm
    rw [hc3] at hx
    have key : ∀ i, i < len → ∃ e : Sd × Option Addr × Nat, W.cell? (ad.add (i * 3)) = some (.int .i64 e.1.1) ∧ W.cell? ((ad.add (i * 3)).add 1) = some (.int .i64 e.1.2.1) ∧ W.cell? ((ad.add (i * 3)).add 2) = some (.slice e.2.1 e.1.2.2.length e.2.2) ∧ Vw W e.2.1 e.1.2.2.length e.1.2.2 ∧ e.1.2.2.length ≤ maxLen := by
      intro i hi
      obtain ⟨cs', hcells, ht⟩ := hx i (by omega)
      obtain ⟨_, hlen, hcell⟩ := World.cells?_some hcells
      match cs', hlen with
      | [u0, u1, u2], _ =>
        obtain ⟨y0, y1, y2, n', _, _, t0, t1, t2⟩ := trod_struct3 Tryd.underlying35 ht
        have h1 : Tryd.prog.cellsOf 3 = 1 := by kernel_rfl
        have h2 : Tryd.prog.cellsOf 22 = 1 := by kernel_rfl
        simp only [h1, h2] at t0 t1 t2
        obtain ⟨x0, e0, _⟩ := DataW.trod_int Tryd.underlying3 t0
        obtain ⟨x1, e1, _⟩ := DataW.trod_int Tryd.underlying3 t1
        simp at e0 e1
        subst e0 e1
        have g0 := hcell 0 (by omega)
        have g1 := hcell 1 (by omega)
        have g2 := hcell 2 (by omega)
        rw [Deep.add_add, Nat.add_zero] at g0
        rcases open_ints Tryd.underlying22 Tryd.underlying3 (by kernel_rfl) t2 with ⟨hcs, _⟩ | ⟨x, l', c', zs, hcs, _, hl', hm2, hz, _, hcl, hwz⟩
        · simp at hcs
          subst hcs
          exact ⟨((x0, x1, []), none, 0), by simpa using g0, by simpa using g1, by simpa using g2, ⟨rfl, fun h => absurd h (by simp)⟩, by unfold maxLen; simp⟩
        · simp at hcs
          subst hcs
          have hz' : zs.length = c' := by simpa using hz
          have el : (zs.take l').length = l' := by rw [List.length_take]; omega
          refine ⟨((x0, x1, zs.take l'), some x, c'), by simpa using g0, by simpa using g1, by simp only [el]; simpa using g2, ⟨rfl, fun hp => ?_⟩, by simp only [el]; omega⟩
          simp only [el] at hp ⊢
          obtain ⟨b', off', spot'⟩ := x
          have q0 := hcl 0 (by omega)
          have hs' : spot' = none := by simpa [Addr.add] using World.cell?_spot q0
          subst hs'
          refine ⟨b', off', rfl, ?_, fun j hj => ?_⟩
          · have := block_lt_of_cell q0
            simpa [Addr.add] using this
          · have := hcl j (by omega)
            rw [Addr.add_lit] at this
            rw [this]
            simp [List.getD, hj]
    obtain ⟨f, hfx⟩ := choose_lt (α := Sd × Option Addr × Nat) key
    refine ⟨(List.range len).map fun i => (f i).1, by simp, by omega, fun h0 => ?_⟩
    obtain ⟨b, off, spot⟩ := ad
    have k0 := (hfx 0 h0).1
    have hs : spot = none := by simpa [Addr.add] using World.cell?_spot k0
    subst hs
    refine ⟨b, off, rfl, ?_, fun k hk => ?_⟩
    · have := block_lt_of_cell k0
      simpa [Addr.add] using this
    · have e : sd ((List.range len).map fun i => (f i).1) k = (f k).1 := by simp [sd, List.getD, hk]
      obtain ⟨g0, g1, g2, g3, g4⟩ := hfx k hk
      rw [e]
      rw [Addr.add_lit] at g0 g1 g2
      rw [Addr.add_lit] at g1 g2
      exact ⟨(f k).2.1, (f k).2.2, g0, g1, g2, g3, g4⟩
end Go.Proofs.YtndjejbnappmeadDoor.Cau
