/-
  How many pieces there are, a piece with a text of its own, Split.
-/
import Derived.Test.YtolnfipdhkbkjajDoorPieE
import Derived.Test.YtolnfipdhkbkjajDoorPieL
import Derived.Laws.MakeOwn
namespace Go.Proofs.YtolnfipdhkbkjajDoor.Pie
open Go.RowKit
open Go.Proofs.YtolnfipdhkbkjajDoor.Fif (own_lt own_block own_form own_mono Kp ret_bool)
set_option linter.unusedVariables false

theorem lite_any (s : ByteArray) (w : World) (h : s.size ≤ 1000) : Calls Tryd.prog 63 #[.string s] w fun e w' => e = .returned (.string s) ∧ Below w.heap.size w w' := Any.stringslite_Clone Tryd.cloneL s w (by omega)
theorem clone_any (s : ByteArray) (w : World) (h : s.size ≤ 1000) : Calls Tryd.prog 62 #[.string s] w fun e w' => e = .returned (.string s) ∧ Below w.heap.size w w' := by
  go_enter Tryd.func62, Tryd.ntmps62
  go_wp2_with (refine (lite_any s _ h).mono ?_)
  rintro e w1 ⟨rfl, hb⟩
  go_wp2
  go_ret
  exact ⟨rfl, hb⟩
theorem many_max {len size : Nat} (h1 : 1 ≤ size) : max 1 ((len + size - 1) / size) = many len size := by
  obtain ⟨m1, m2, m3⟩ := many_spec (len := len) h1
  unfold many
  split
  · rename_i h
    have : (len + size - 1) / size ≤ 1 := by
      rw [Nat.div_le_iff_le_mul_add_pred (by omega)]
      omega
    omega
  · rename_i h
    have : 1 ≤ (len + size - 1) / size := (Nat.le_div_iff_mul_le (by omega)).2 (by omega)
    omega
theorem results_one {fn : Func} {p : Tmp} {ty : TypeId} (h : fn.results = #[.cell p ty]) (tmps : Array Value) (P : Program) (w : World) :
    (results fn tmps).run P w = ((asAddr (tmps.getD p undef)).run P w).andThen fun a w₁ => (loadVar ty a).run P w₁ := by
  simp only [results, h]
  simp [Sem.run_bind]
theorem ret3 {fn : Func} {tmps : Array Value} {w : World} {p : Tmp} {B : Nat} {v0 v1 v2 : Value} (h : (results fn tmps).run Tryd.prog w = ((asAddr (tmps.getD p undef)).run Tryd.prog w).andThen fun a w₁ => (loadVar 72 a).run Tryd.prog w₁) (hp : tmps.getD p undef = .pointer (some ⟨B, 0, none⟩))
    (y0 : w.cell? ⟨B, 0, none⟩ = some v0) (y1 : w.cell? ⟨B, 1, none⟩ = some v1) (y2 : w.cell? ⟨B, 2, none⟩ = some v2) : (results fn tmps).run Tryd.prog w = .ok (.agg #[v0, v1, v2]) w := by
  rw [h, hp]
  simp [asAddr, go_sem, y0, y1, y2]
def z3 (j : Nat) : Value := if j = 2 then .string .empty else .int .i64 0
theorem own_any (a b : Int) (s : ByteArray) (w : World) (h : s.size ≤ 1000) : Calls Tryd.prog 57 #[.int .i64 a, .int .i64 b, .string s] w fun e w' => e = .returned (.agg #[.int .i64 a, .int .i64 b, .string s]) ∧ Below w.heap.size w w' := by
  have r0 : (w.alloc (.cells #[.int .i64 0, .int .i64 0, .string .empty] 72)).rowIs w.heap.size 72 3 z3 := World.rowIs_alloc w #[.int .i64 0, .int .i64 0, .string .empty] 72 z3 fun i hi => by
    have hi : i < 3 := hi
    rcases i with _ | _ | _ | i <;> first | rfl | omega
  have R0 : Hid _ := r0
  clear r0
  go_enter Tryd.func57, Tryd.ntmps57
  go_wp2_with (refine (clone_any s _ h).mono ?_)
  rintro e w1 ⟨rfl, hb⟩
  have r : w1.rowIs w.heap.size 72 3 z3 := World.rowIs.of_block R0.out (hb.block w.heap.size (World.rowIs.lt R0.out))
  have c0 : w1.cell? ⟨w.heap.size, 0, none⟩ = some (.int .i64 0) := r.cell (i := 0) (by omega)
  have c1 : w1.cell? ⟨w.heap.size, 1, none⟩ = some (.int .i64 0) := r.cell (i := 1) (by omega)
  have c2 : w1.cell? ⟨w.heap.size, 2, none⟩ = some (.string .empty) := r.cell (i := 2) (by omega)
  have f0 := r.frozen 0
  have f1 := r.frozen 1
  have f2 := r.frozen 2
  have HB : Hid _ := hb
  have R : Hid _ := r
  clear hb r
  go_wp2
  have r5 := ((World.rowIs.set R.out 0 (.int .i64 a)).set 1 (.int .i64 b)).set 2 (.string s)
  have y0 := r5.cell (i := 0) (by omega)
  have y1 := r5.cell (i := 1) (by omega)
  have y2 := r5.cell (i := 2) (by omega)
  simp at y0 y1 y2
  refine bodyPost_ret (v := .agg #[.int .i64 a, .int .i64 b, .string s]) (ret3 (results_one rfl _ _ _) rfl y0 y1 y2) rfl ⟨rfl, ?_⟩
  have h1 : Below w.heap.size w w1 := ((Below.refl w.heap.size w).alloc (Nat.le_refl _) _).trans (HB.out.mono (by simp))
  exact ((h1.setCell (p := ⟨_, _, none⟩) (Nat.le_refl _) _).setCell (p := ⟨_, _, none⟩) (Nat.le_refl _) _).setCell (p := ⟨_, _, none⟩) (Nat.le_refl _) _
theorem makeP (w : World) (n : Nat) (hn : n ≤ 60) :
    (Instr.makeSlice 60 (.int .i64 (n : Int)) (.int .i64 (n : Int))).run Tryd.prog w = .ok (.slice (some ⟨w.heap.size, 0, none⟩) n n) (w.alloc (.cells (madeCells #[.int .i64 0, .int .i64 0, .string .empty] (n * 3)) 72)) := by
  obtain ⟨i, hi, hz, hs, hb⟩ := info_pc
  have hr := run_make (P := Tryd.prog) w 60 72 i _ (by kernel_rfl) hi hz .i64 .i64 n n (by omega) (Int.le_refl _) (by rw [hb]; omega) (by omega)
  rw [hs] at hr
  simpa [Value.cells] using hr
theorem made_row (w : World) (n : Nat) : ∃ f, (w.alloc (.cells (madeCells #[.int .i64 0, .int .i64 0, .string .empty] (n * 3)) 72)).rowIs w.heap.size 72 (n * 3) f := by
  refine ⟨fun j => (madeCells #[.int .i64 0, .int .i64 0, .string .empty] (n * 3)).getD j .nilIface, ?_⟩
  have h := World.rowIs_alloc w (madeCells #[.int .i64 0, .int .i64 0, .string .empty] (n * 3)) 72 (fun j => (madeCells #[.int .i64 0, .int .i64 0, .string .empty] (n * 3)).getD j .nilIface) (fun j hj => by simp [hj])
  rwa [size_madeCells] at h
/-- a row that is filled so far -/
def Filled (w : World) (G n : Nat) (l : List Pc) (i : Nat) : Prop := ∃ f, w.rowIs G 72 (n * 3) f ∧ ∀ j, j < i * 3 → (flat l)[j]? = some (f j)
theorem Filled.step {w : World} {G n : Nat} {l : List Pc} {i : Nat} (h : Filled w G n l i) (hi : i < l.length) : Filled (((w.setCell ⟨G, i * 3, none⟩ (.int .i64 (pc l i).1)).setCell ⟨G, i * 3 + 1, none⟩ (.int .i64 (pc l i).2.1)).setCell ⟨G, i * 3 + 2, none⟩ (.string (pc l i).2.2)) G n l (i + 1) := by
  obtain ⟨f, r, hf⟩ := h
  obtain ⟨h0, h1, h2⟩ := flat_get l i hi
  refine ⟨_, ((World.rowIs.set r (i * 3) _).set (i * 3 + 1) _).set (i * 3 + 2) _, fun j hj => ?_⟩
  by_cases e2 : j = i * 3 + 2
  · simp only [e2, if_true]; exact h2
  · by_cases e1 : j = i * 3 + 1
    · subst e1
      show _ = some (if i * 3 + 1 = i * 3 + 2 then _ else if i * 3 + 1 = i * 3 + 1 then _ else _)
      rw [if_neg (by omega), if_pos rfl]; exact h1
    · by_cases e0 : j = i * 3
      · subst e0
        show _ = some (if i * 3 = i * 3 + 2 then _ else if i * 3 = i * 3 + 1 then _ else if i * 3 = i * 3 then _ else _)
        rw [if_neg (by omega), if_neg (by omega), if_pos rfl]; exact h0
      · show _ = some (if j = i * 3 + 2 then _ else if j = i * 3 + 1 then _ else if j = i * 3 then _ else f j)
        rw [if_neg e2, if_neg e1, if_neg e0]
        exact hf j (by omega)
theorem Filled.done {w : World} {G base : Nat} {l : List Pc} (h : Filled w G l.length l l.length) (hb : base ≤ G) (hl : l.length ≤ 60) : Po w base (.slice (some ⟨G, 0, none⟩) l.length l.length) l := by
  obtain ⟨f, ⟨c, hc, hs, hr⟩, hf⟩ := h
  refine ⟨flat_len l, .inr ⟨G, l.length, c, rfl, hb, hc, Nat.le_refl _, by unfold maxLen; omega, hs, ?_⟩⟩
  apply List.ext_getElem?
  intro j
  by_cases hj : j < l.length * 3
  · rw [List.getElem?_take_of_lt hj, hf j hj]
    simpa using hr j hj
  · rw [List.getElem?_eq_none (by simp; omega), List.getElem?_eq_none (by rw [flat_len]; omega)]
end Go.Proofs.YtolnfipdhkbkjajDoor.Pie
