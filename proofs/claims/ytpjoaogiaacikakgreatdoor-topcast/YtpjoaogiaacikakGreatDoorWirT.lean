/-
  Two words are the same; a word among the arguments, as the reader reads it.
-/
import Derived.Test.YtpjoaogiaacikakGreatDoorWirG
import Derived.ProofKit
import Derived.OpenShut
import Derived.ChangeOld
import Derived.ChangeSame
import Derived.ChangeSlices
import Derived.Deep.Strs
import Derived.Deep.Slices
namespace Go.Proofs.YtpjoaogiaacikakGreatDoor.Wir
open Go.RowKit Go.ChangeShapes Go.WideShapes Go.Deep
open Go.Proofs.YtpjoaogiaacikakGreatDoor.Fif (own_lt own_block own_form own_mono own_vw Kp ret_bool)
open Go.Proofs.YtpjoaogiaacikakGreatDoor.Vec (Vw code IsRow)
open Go.Proofs.YtpjoaogiaacikakGreatDoor.Cau (Sd sdBad)
set_option linter.unusedVariables false

theorem box_sl {w : World} {u u0 : Value} {l : List Int} (h : Sl w u l) (x y : Int) : Sl (w.alloc (.cells #[.int .i64 x, .int .i64 y, u0] 51)) u l := h.later ((Below.refl _ _).alloc (Nat.le_refl _) _)
set_option maxRecDepth 100000 in
theorem said_same (x y : Int) (l : List Int) (u u' : Value) (w : World) (h : Sl w u l) (h' : Sl w u' l) : Calls Tryz.prog 19 #[.agg #[.int .i64 x, .int .i64 y, u], .agg #[.int .i64 x, .int .i64 y, u']] w fun e w' => e = .returned (.bool true) ∧ Below w.heap.size w w' := by
  have dx : (x == x) = true := by simp
  have dy : (y == y) = true := by simp
  obtain ⟨W, eW⟩ : ∃ W, W = (w.alloc (.cells #[.int .i64 x, .int .i64 y, u] 51)).alloc (.cells #[.int .i64 x, .int .i64 y, u'] 51) := ⟨_, rfl⟩
  have B0 : Hid (Below w.heap.size w W ∧ Sl W u l ∧ Sl W u' l) := by
    rw [eW]
    exact ⟨((Below.refl _ _).alloc (Nat.le_refl _) _).alloc (by simp) _, box_sl (box_sl h x y) x y, box_sl (box_sl h' x y) x y⟩
  have b1 := World.rowIs.of_block (box w x y u) (Below.heap_alloc _ (.cells #[.int .i64 x, .int .i64 y, u'] 51) _ (World.rowIs.lt (box w x y u)))
  have b2 := box (w.alloc (.cells #[.int .i64 x, .int .i64 y, u] 51)) x y u'
  rw [← eW] at b1 b2
  have p0 : W.cell? ⟨w.heap.size, 0, none⟩ = some (.int .i64 x) := World.rowIs.cell b1 (i := 0) (by omega)
  have p1 : W.cell? ⟨w.heap.size, 1, none⟩ = some (.int .i64 y) := World.rowIs.cell b1 (i := 1) (by omega)
  have p2 : W.cell? ⟨w.heap.size, 2, none⟩ = some u := World.rowIs.cell b1 (i := 2) (by omega)
  have q0 : W.cell? ⟨w.heap.size + 1, 0, none⟩ = some (.int .i64 x) := by simpa [wv] using World.rowIs.cell b2 (i := 0) (by omega)
  have q1 : W.cell? ⟨w.heap.size + 1, 1, none⟩ = some (.int .i64 y) := by simpa [wv] using World.rowIs.cell b2 (i := 1) (by omega)
  have q2 : W.cell? ⟨w.heap.size + 1, 2, none⟩ = some u' := by simpa [wv] using World.rowIs.cell b2 (i := 2) (by omega)
  clear b1 b2
  obtain ⟨a, c, rfl, _, _, hv⟩ := B0.out.2.1
  obtain ⟨a', c', rfl, _, hm, hv'⟩ := B0.out.2.2
  have HV : Hid (Vw W a l.length l ∧ Vw W a' l.length l ∧ l.length ≤ maxLen) := ⟨hv, hv', by omega⟩
  clear hv hv' hm h h'
  go_enter Tryz.func19, Tryz.ntmps19
  go_upto_region 1 with fail
  rw [← eW]
  clear eW
  go_wp2_with fail
  refine (Vec.ints_any a a' l.length c l.length c' l l W HV.out.1 HV.out.2.1 HV.out.2.2).mono ?_
  rintro e w1 ⟨rfl, n, rfl⟩
  rw [decide_eq_true rfl]
  go_wp2
  go_ret
  exact ⟨rfl, drews B0.out.1 n⟩
theorem u8_range {n : Int} (h : (Lit.int .u8 n).wf = true) : 0 ≤ n ∧ n < 256 := by
  simp [Lit.wf, IntKind.min, IntKind.max, IntKind.bits, IntKind.signed] at h
  omega
/-- a list of numbers, as it is read -/
theorem ints_sl {H : Type} {enc : TypeId × Value → H} {W : World} {fuel : Nat} {cs : List Value} {y : DataW H × List MemPlace} (t2 : DataW.trod enc Tryz.prog W 0 (fun _ => true) true fuel 30 cs = some y) : ∃ q c l, cs = [.slice q l.length c] ∧ Sl W (.slice q l.length c) l := by
  rcases open_ints Tryz.underlying30 Tryz.underlying3 (by kernel_rfl) t2 with ⟨hcs, _⟩ | ⟨x, l', c', zs, hcs, _, hl', hm2, hz, _, hcl, hwz⟩
  · exact ⟨none, 0, [], hcs, Sl.nil _⟩
  · have hz' : zs.length = c' := by simpa using hz
    have el : (zs.take l').length = l' := by rw [List.length_take]; omega
    refine ⟨some x, c', zs.take l', by rw [el]; exact hcs, some x, c', rfl, by rw [el]; exact hl', hm2, rfl, fun hp => ?_⟩
    rw [el] at hp ⊢
    obtain ⟨b', off', spot'⟩ := x
    have q0 := hcl 0 (by omega)
    have hs' : spot' = none := by simpa [Addr.add] using World.cell?_spot q0
    subst hs'
    refine ⟨b', off', rfl, ?_, fun j hj => ?_⟩
    · have := block_lt_of_cell q0
      simpa [Addr.add] using this
    · have := hcl j (by omega)
      rw [Addr.add_lit] at this
      rw [this]
      simp [List.getD, hj]
set_option maxRecDepth 100000 in
theorem said_of {H : Type} {enc : TypeId × Value → H} {W : World} {r : Reach} {base : Nat} {v : Value} {d : DataW H} {p : List MemPlace}
    (hv : Value.okWide Tryz.prog W r base 51 v) (h : DataW.Trod enc Tryz.prog W 0 (fun _ => true) true 51 v d p) : ∃ (x : Sd) (u : Value), v = .agg #[.int .i64 x.1, .int .i64 x.2.1, u] ∧ Sl W u x.2.2 := by
  obtain ⟨cs, rfl, hsz⟩ := okWide_struct Tryz.underlying51 hv
  have hc3 : Tryz.prog.cellsOf 51 = 3 := by kernel_rfl
  rw [hc3] at hsz
  obtain ⟨l⟩ := cs
  match l, hsz with
  | [u0, u1, u2], _ =>
    obtain ⟨fuel, hf⟩ := h
    obtain ⟨y0, y1, y2, n', _, _, t0, t1, t2⟩ := trod_struct3 Tryz.underlying51 hf
    have h1 : Tryz.prog.cellsOf 3 = 1 := by kernel_rfl
    have h2 : Tryz.prog.cellsOf 30 = 1 := by kernel_rfl
    simp only [h1, h2, Value.cells] at t0 t1 t2
    obtain ⟨x0, e0, _⟩ := DataW.trod_int Tryz.underlying3 t0
    obtain ⟨x1, e1, _⟩ := DataW.trod_int Tryz.underlying3 t1
    simp at e0 e1
    subst e0 e1
    obtain ⟨q, c, l, e2, hs⟩ := ints_sl t2
    simp at e2
    subst e2
    exact ⟨(x0, x1, l), _, rfl, hs⟩
end Go.Proofs.YtpjoaogiaacikakGreatDoor.Wir
