/-
  A view, and a slice of views, among the arguments, as the reader reads them.
-/
import Derived.Test.YtiiiejapbbnodahDoorViwE
import Derived.Test.YtiiiejapbbnodahDoorVecC
import Derived.ProofKit
import Derived.OpenShut
import Derived.ChangeOld
import Derived.ChangeSame
import Derived.ChangeSlices
import Derived.Deep.Strs
import Derived.Deep.Slices
namespace Go.Proofs.YtiiiejapbbnodahDoor.Viw
open Go.RowKit Go.ChangeShapes Go.WideShapes Go.Deep
open Go.Proofs.YtiiiejapbbnodahDoor.Vec (Vw IsRow)
open Go.Proofs.YtiiiejapbbnodahDoor.Ldr (Sl)

set_option maxRecDepth 100000 in
theorem row_sl {w : World} {a : Option Addr} {len cap : Nat} {zs : List Int} (h : IsRow .i64 w a len cap zs) : Sl w (.slice a len cap) (zs.take len) := by
  have hv := h.vw
  have e := hv.1
  have hc : len ≤ cap ∧ cap ≤ maxLen := by
    rcases h with ⟨_, rfl, rfl, _⟩ | ⟨_, _, h1, h2, _⟩
    · exact ⟨Nat.le_refl _, Nat.zero_le _⟩
    · exact ⟨h1, h2⟩
  exact ⟨a, cap, by rw [e], by rw [e]; exact hc.1, hc.2, by rw [e]; exact hv⟩
/-- a list of numbers, as it is read -/
theorem ints_sl {H : Type} {enc : TypeId × Value → H} {W : World} {fuel : Nat} {cs : List Value} {y : DataW H × List MemPlace} (t2 : DataW.trod enc Tryd.prog W 0 (fun _ => true) true fuel 22 cs = some y) : ∃ q c l, cs = [.slice q l.length c] ∧ Sl W (.slice q l.length c) l := by
  rcases open_ints Tryd.underlying22 Tryd.underlying3 (by kernel_rfl) t2 with ⟨hcs, _⟩ | ⟨x, l', c', zs, hcs, _, hl', hm2, hz, _, hcl, hwz⟩
  · exact ⟨none, 0, [], hcs, Ldr.Sl.nil _⟩
  · have hz' : zs.length = c' := by simpa using hz
    have el : (zs.take l').length = l' := by rw [List.length_take]; omega
    refine ⟨some x, c', zs.take l', by rw [el]; exact hcs, some x, c', rfl, by rw [el]; exact hl', hm2, rfl, fun hp => ?_⟩
    rw [el] at hp ⊢
    obtain ⟨b', off', spot'⟩ := x
    have q0 := hcl 0 (by omega)
    have hs' : spot' = none := by simpa [Addr.add] using World.cell?_spot q0
    subst hs'
    refine ⟨b', off', rfl, ?_, fun j hj => ?_⟩
    · have := block_lt_of_cell q0
      simpa [Addr.add] using this
    · have := hcl j (by omega)
      rw [Addr.add_lit] at this
      rw [this]
      simp [List.getD, hj]
set_option maxRecDepth 100000 in
theorem view_of {H : Type} {enc : TypeId × Value → H} {W : World} {r : Reach} {base : Nat} {v : Value} {d : DataW H} {p : List MemPlace}
    (hv : Value.okWide Tryd.prog W r base 40 v) (h : DataW.Trod enc Tryd.prog W 0 (fun _ => true) true 40 v d p) : ∃ (x : Vi) (q : Option Addr) (c : Nat), v = .agg #[.int .i64 x.n, .slice q x.has.length c] ∧ Sl W (.slice q x.has.length c) x.has := by
  obtain ⟨cs, rfl, hsz⟩ := okWide_struct Tryd.underlying40 hv
  have hc2 : Tryd.prog.cellsOf 40 = 2 := by kernel_rfl
  rw [hc2] at hsz
  obtain ⟨l⟩ := cs
  match l, hsz with
  | [u0, u1], _ =>
    obtain ⟨fuel, hf⟩ := h
    obtain ⟨y0, y1, n', _, _, t0, t1⟩ := trod_struct2 Tryd.underlying40 hf
    have h1 : Tryd.prog.cellsOf 3 = 1 := by kernel_rfl
    have h2 : Tryd.prog.cellsOf 22 = 1 := by kernel_rfl
    simp only [h1, h2, Value.cells] at t0 t1
    obtain ⟨x0, e0, _⟩ := DataW.trod_int Tryd.underlying3 t0
    simp at e0
    subst e0
    obtain ⟨q, c, l, e1, hs⟩ := ints_sl t1
    simp at e1
    subst e1
    exact ⟨⟨x0, l⟩, q, c, rfl, hs⟩
set_option maxRecDepth 100000 in
theorem views_of {H : Type} {enc : TypeId × Value → H} {W : World} {a : Option Addr} {len cap : Nat} {d : DataW H} {p : List MemPlace}
    (h : DataW.Trod enc Tryd.prog W 0 (fun _ => true) true 41 (.slice a len cap) d p) : ∃ l, Vs W a len l ∧ len ≤ cap ∧ cap ≤ maxLen := by
  obtain ⟨fuel, hf⟩ := h
  rcases open_slice (e := 40) (by kernel_rfl) hf with ⟨hcs, _⟩ | ⟨ad, l, c, m, n, D, Pl, hcs, _, hl, hm, hmm, _, hx⟩
  · simp [Value.cells] at hcs
    obtain ⟨rfl, rfl, rfl⟩ := hcs
    exact ⟨[], Vs.nil _, Nat.le_refl _, Nat.zero_le _⟩
  · simp [Value.cells] at hcs
    obtain ⟨rfl, rfl, rfl⟩ := hcs
    have hc2 : Tryd.prog.cellsOf 40 = 2 := by kernel_rfl
    have hm' : m = cap := by simpa using hmm
    rw [hc2] at hx
    have key : ∀ i, i < len → ∃ e : (Int × List Int) × Option Addr × Nat, W.cell? (ad.add (i * 2)) = some (.int .i64 e.1.1) ∧ W.cell? ((ad.add (i * 2)).add 1) = some (.slice e.2.1 e.1.2.length e.2.2) ∧ Sl W (.slice e.2.1 e.1.2.length e.2.2) e.1.2 := by
      intro i hi
      obtain ⟨cs', hcells, ht⟩ := hx i (by omega)
      obtain ⟨_, hlen, hcell⟩ := World.cells?_some hcells
      match cs', hlen with
      | [u0, u1], _ =>
        obtain ⟨y0, y1, n', _, _, t0, t1⟩ := trod_struct2 Tryd.underlying40 ht
        have h1 : Tryd.prog.cellsOf 3 = 1 := by kernel_rfl
        have h2 : Tryd.prog.cellsOf 22 = 1 := by kernel_rfl
        simp only [h1, h2] at t0 t1
        obtain ⟨x0, e0, _⟩ := DataW.trod_int Tryd.underlying3 t0
        simp at e0
        subst e0
        have g0 := hcell 0 (by omega)
        have g1 := hcell 1 (by omega)
        rw [Deep.add_add, Nat.add_zero] at g0
        obtain ⟨q, c, l, e1, hs⟩ := ints_sl t1
        simp at e1
        subst e1
        exact ⟨((x0, l), q, c), by simpa using g0, by simpa using g1, hs⟩
    obtain ⟨f, hfx⟩ := choose_lt (α := (Int × List Int) × Option Addr × Nat) key
    refine ⟨(List.range len).map fun i => ⟨(f i).1.1, (f i).1.2⟩, ⟨by simp, fun h0 => ?_⟩, by omega, by omega⟩
    obtain ⟨b, off, spot⟩ := ad
    have k0 := (hfx 0 h0).1
    have hs : spot = none := by simpa [Addr.add] using World.cell?_spot k0
    subst hs
    refine ⟨b, off, rfl, ?_, fun k hk => ?_⟩
    · have := block_lt_of_cell k0
      simpa [Addr.add] using this
    · have e : vw ((List.range len).map fun i => ⟨(f i).1.1, (f i).1.2⟩) k = ⟨(f k).1.1, (f k).1.2⟩ := by simp [vw, List.getD, hk]
      obtain ⟨g0, g1, g2⟩ := hfx k hk
      rw [e]
      rw [Addr.add_lit] at g0 g1
      rw [Addr.add_lit] at g1
      exact ⟨_, _, g0, g1, g2⟩
end Go.Proofs.YtiiiejapbbnodahDoor.Viw
