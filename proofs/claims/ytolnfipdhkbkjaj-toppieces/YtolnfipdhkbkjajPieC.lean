/-
  How many pieces there are, a piece with a text of its own, Split.
-/
import Derived.Test.YtolnfipdhkbkjajPieE
import Derived.Test.YtolnfipdhkbkjajPieL
import Derived.Laws.MakeOwn
namespace Go.Proofs.Ytolnfipdhkbkjaj.Pie
open Go.RowKit
open Go.Proofs.Ytolnfipdhkbkjaj.Fif (own_lt own_block own_form own_mono Kp ret_bool)
set_option linter.unusedVariables false

theorem lite_any (s : ByteArray) (w : World) (h : s.size ≤ 1000) : Calls Try.prog 30 #[.string s] w fun e w' => e = .returned (.string s) ∧ Below w.heap.size w w' := Any.stringslite_Clone Try.cloneL s w (by omega)
theorem clone_any (s : ByteArray) (w : World) (h : s.size ≤ 1000) : Calls Try.prog 21 #[.string s] w fun e w' => e = .returned (.string s) ∧ Below w.heap.size w w' := by
  go_enter Try.func21, Try.ntmps21
  go_wp2_with (refine (lite_any s _ h).mono ?_)
  rintro e w1 ⟨rfl, hb⟩
  go_wp2
  go_ret
  exact ⟨rfl, hb⟩
theorem many_max {len size : Nat} (h1 : 1 ≤ size) : max 1 ((len + size - 1) / size) = many len size := by
  obtain ⟨m1, m2, m3⟩ := many_spec (len := len) h1
  unfold many
  split
  · rename_i h
    have : (len + size - 1) / size ≤ 1 := by
      rw [Nat.div_le_iff_le_mul_add_pred (by omega)]
      omega
    omega
  · rename_i h
    have : 1 ≤ (len + size - 1) / size := (Nat.le_div_iff_mul_le (by omega)).2 (by omega)
    omega
theorem howMany_any (len size : Nat) (w : World) (h1 : 1 ≤ size) (h12 : size ≤ 12) (h60 : len ≤ 60) : Calls Try.prog 11 #[.int .i64 (len : Int), .int .i64 (size : Int)] w fun e w' => e = .returned (.int .i64 (many len size : Nat)) ∧ w' = w := by
  have hs0 : (1 : Int) ≤ (size : Int) := by omega
  have hs1 : (size : Int) ≤ 12 := by omega
  have hl0 : (len : Int) ≤ 60 := by omega
  go_enter Try.func11, Try.ntmps11
  go_wp2
  go_ret
  refine ⟨?_, rfl⟩
  rw [← many_max h1]
  have e : ((len : Int) + (size : Int) - 1) / (size : Int) = (((len + size - 1) / size : Nat) : Int) := by
    rw [Int.natCast_ediv]
    congr 1
    omega
  rw [e]
  generalize (len + size - 1) / size = x
  have : max 1 (x : Int) = ((max 1 x : Nat) : Int) := by omega
  rw [this]
  rfl
theorem results_one {fn : Func} {p : Tmp} {ty : TypeId} (h : fn.results = #[.cell p ty]) (tmps : Array Value) (P : Program) (w : World) :
    (results fn tmps).run P w = ((asAddr (tmps.getD p undef)).run P w).andThen fun a w₁ => (loadVar ty a).run P w₁ := by
  simp only [results, h]
  simp [Sem.run_bind]
theorem ret3 {fn : Func} {tmps : Array Value} {w : World} {p : Tmp} {B : Nat} {v0 v1 v2 : Value} (h : (results fn tmps).run Try.prog w = ((asAddr (tmps.getD p undef)).run Try.prog w).andThen fun a w₁ => (loadVar 35 a).run Try.prog w₁) (hp : tmps.getD p undef = .pointer (some ⟨B, 0, none⟩))
    (y0 : w.cell? ⟨B, 0, none⟩ = some v0) (y1 : w.cell? ⟨B, 1, none⟩ = some v1) (y2 : w.cell? ⟨B, 2, none⟩ = some v2) : (results fn tmps).run Try.prog w = .ok (.agg #[v0, v1, v2]) w := by
  rw [h, hp]
  simp [asAddr, go_sem, y0, y1, y2]
def z3 (j : Nat) : Value := if j = 2 then .string .empty else .int .i64 0
theorem own_any (a b : Int) (s : ByteArray) (w : World) (h : s.size ≤ 1000) : Calls Try.prog 12 #[.int .i64 a, .int .i64 b, .string s] w fun e w' => e = .returned (.agg #[.int .i64 a, .int .i64 b, .string s]) ∧ Below w.heap.size w w' := by
  have r0 : (w.alloc (.cells #[.int .i64 0, .int .i64 0, .string .empty] 35)).rowIs w.heap.size 35 3 z3 := World.rowIs_alloc w #[.int .i64 0, .int .i64 0, .string .empty] 35 z3 fun i hi => by
    have hi : i < 3 := hi
    rcases i with _ | _ | _ | i <;> first | rfl | omega
  have R0 : Hid _ := r0
  clear r0
  go_enter Try.func12, Try.ntmps12
  go_wp2_with (refine (clone_any s _ h).mono ?_)
  rintro e w1 ⟨rfl, hb⟩
  have r : w1.rowIs w.heap.size 35 3 z3 := World.rowIs.of_block R0.out (hb.block w.heap.size (World.rowIs.lt R0.out))
  have c0 : w1.cell? ⟨w.heap.size, 0, none⟩ = some (.int .i64 0) := r.cell (i := 0) (by omega)
  have c1 : w1.cell? ⟨w.heap.size, 1, none⟩ = some (.int .i64 0) := r.cell (i := 1) (by omega)
  have c2 : w1.cell? ⟨w.heap.size, 2, none⟩ = some (.string .empty) := r.cell (i := 2) (by omega)
  have f0 := r.frozen 0
  have f1 := r.frozen 1
  have f2 := r.frozen 2
  have HB : Hid _ := hb
  have R : Hid _ := r
  clear hb r
  go_wp2
  have r5 := ((World.rowIs.set R.out 0 (.int .i64 a)).set 1 (.int .i64 b)).set 2 (.string s)
  have y0 := r5.cell (i := 0) (by omega)
  have y1 := r5.cell (i := 1) (by omega)
  have y2 := r5.cell (i := 2) (by omega)
  simp at y0 y1 y2
  refine bodyPost_ret (v := .agg #[.int .i64 a, .int .i64 b, .string s]) (ret3 (results_one rfl _ _ _) rfl y0 y1 y2) rfl ⟨rfl, ?_⟩
  have h1 : Below w.heap.size w w1 := ((Below.refl w.heap.size w).alloc (Nat.le_refl _) _).trans (HB.out.mono (by simp))
  exact ((h1.setCell (p := ⟨_, _, none⟩) (Nat.le_refl _) _).setCell (p := ⟨_, _, none⟩) (Nat.le_refl _) _).setCell (p := ⟨_, _, none⟩) (Nat.le_refl _) _
theorem makeP (w : World) (n : Nat) (hn : n ≤ 60) :
    (Instr.makeSlice 23 (.int .i64 (n : Int)) (.int .i64 (n : Int))).run Try.prog w = .ok (.slice (some ⟨w.heap.size, 0, none⟩) n n) (w.alloc (.cells (madeCells #[.int .i64 0, .int .i64 0, .string .empty] (n * 3)) 35)) := by
  obtain ⟨i, hi, hz, hs, hb⟩ := info_pc
  have hr := run_make (P := Try.prog) w 23 35 i _ (by kernel_rfl) hi hz .i64 .i64 n n (by omega) (Int.le_refl _) (by rw [hb]; omega) (by omega)
  rw [hs] at hr
  simpa [Value.cells] using hr
theorem made_row (w : World) (n : Nat) : ∃ f, (w.alloc (.cells (madeCells #[.int .i64 0, .int .i64 0, .string .empty] (n * 3)) 35)).rowIs w.heap.size 35 (n * 3) f := by
  refine ⟨fun j => (madeCells #[.int .i64 0, .int .i64 0, .string .empty] (n * 3)).getD j .nilIface, ?_⟩
  have h := World.rowIs_alloc w (madeCells #[.int .i64 0, .int .i64 0, .string .empty] (n * 3)) 35 (fun j => (madeCells #[.int .i64 0, .int .i64 0, .string .empty] (n * 3)).getD j .nilIface) (fun j hj => by simp [hj])
  rwa [size_madeCells] at h
/-- a row that is filled so far -/
def Filled (w : World) (G n : Nat) (l : List Pc) (i : Nat) : Prop := ∃ f, w.rowIs G 35 (n * 3) f ∧ ∀ j, j < i * 3 → (flat l)[j]? = some (f j)
theorem Filled.step {w : World} {G n : Nat} {l : List Pc} {i : Nat} (h : Filled w G n l i) (hi : i < l.length) : Filled (((w.setCell ⟨G, i * 3, none⟩ (.int .i64 (pc l i).1)).setCell ⟨G, i * 3 + 1, none⟩ (.int .i64 (pc l i).2.1)).setCell ⟨G, i * 3 + 2, none⟩ (.string (pc l i).2.2)) G n l (i + 1) := by
  obtain ⟨f, r, hf⟩ := h
  obtain ⟨h0, h1, h2⟩ := flat_get l i hi
  refine ⟨_, ((World.rowIs.set r (i * 3) _).set (i * 3 + 1) _).set (i * 3 + 2) _, fun j hj => ?_⟩
  by_cases e2 : j = i * 3 + 2
  · simp only [e2, if_true]; exact h2
  · by_cases e1 : j = i * 3 + 1
    · subst e1
      show _ = some (if i * 3 + 1 = i * 3 + 2 then _ else if i * 3 + 1 = i * 3 + 1 then _ else _)
      rw [if_neg (by omega), if_pos rfl]; exact h1
    · by_cases e0 : j = i * 3
      · subst e0
        show _ = some (if i * 3 = i * 3 + 2 then _ else if i * 3 = i * 3 + 1 then _ else if i * 3 = i * 3 then _ else _)
        rw [if_neg (by omega), if_neg (by omega), if_pos rfl]; exact h0
      · show _ = some (if j = i * 3 + 2 then _ else if j = i * 3 + 1 then _ else if j = i * 3 then _ else f j)
        rw [if_neg e2, if_neg e1, if_neg e0]
        exact hf j (by omega)
theorem Filled.done {w : World} {G base : Nat} {l : List Pc} (h : Filled w G l.length l l.length) (hb : base ≤ G) (hl : l.length ≤ 60) : Po w base (.slice (some ⟨G, 0, none⟩) l.length l.length) l := by
  obtain ⟨f, ⟨c, hc, hs, hr⟩, hf⟩ := h
  refine ⟨flat_len l, .inr ⟨G, l.length, c, rfl, hb, hc, Nat.le_refl _, by unfold maxLen; omega, hs, ?_⟩⟩
  apply List.ext_getElem?
  intro j
  by_cases hj : j < l.length * 3
  · rw [List.getElem?_take_of_lt hj, hf j hj]
    simpa using hr j hj
  · rw [List.getElem?_eq_none (by simp; omega), List.getElem?_eq_none (by rw [flat_len]; omega)]
set_option maxRecDepth 100000 in
theorem splitP_any (t : ByteArray) (size : Int) (w : World) : Calls Try.prog 5 #[.string t, .int .i64 size] w fun x w' => ∃ v, x = .returned (.tuple #[v, errF (splitC t size)]) ∧ Po w' w.heap.size v (splitL t size) ∧ Below w.heap.size w w' := by
  by_cases h60 : 60 < t.size
  · have d0 : decide ((t.size : Int) > 60) = true := decide_eq_true (by omega)
    have e : splitC t size = 4 := if_pos h60
    have el : splitL t size = [] := if_neg (by rw [e]; omega)
    rw [e, el]
    clear e el h60
    go_enter Try.func5, Try.ntmps5
    go_wp2
    go_ret2
    exact ⟨_, rfl, World.ownsRow_nil _ _ _ _, Below.refl _ _⟩
  · have d0 : decide ((t.size : Int) > 60) = false := decide_eq_false (by omega)
    by_cases hs : size < 1 ∨ 12 < size
    · have e : splitC t size = 1 := by unfold splitC; rw [if_neg h60, if_pos hs]
      have el : splitL t size = [] := if_neg (by rw [e]; omega)
      rw [e, el]
      by_cases hs1 : size < 1
      · clear e el h60 hs
        go_enter Try.func5, Try.ntmps5
        go_wp2
        go_ret2
        exact ⟨_, rfl, World.ownsRow_nil _ _ _ _, Below.refl _ _⟩
      · have d2 : decide (size > 12) = true := decide_eq_true (by omega)
        clear e el h60 hs
        go_enter Try.func5, Try.ntmps5
        go_wp2
        go_ret2
        exact ⟨_, rfl, World.ownsRow_nil _ _ _ _, Below.refl _ _⟩
    · have e : splitC t size = 0 := by unfold splitC; rw [if_neg h60, if_neg hs]
      have d1 : decide (size < 1) = false := decide_eq_false (by omega)
      have d2 : decide (size > 12) = false := decide_eq_false (by omega)
      obtain ⟨sz, rfl⟩ : ∃ sz : Nat, size = (sz : Int) := ⟨size.toNat, by omega⟩
      rw [split_zero e, e, Int.toNat_natCast]
      have H0 : Hid (1 ≤ sz ∧ sz ≤ 12 ∧ t.size ≤ 60) := ⟨by omega, by omega, by omega⟩
      obtain ⟨n, en⟩ : ∃ n, n = many t.size sz := ⟨_, rfl⟩
      obtain ⟨l, el⟩ : ∃ l, l = pcs t sz n := ⟨_, rfl⟩
      have hn60 : n ≤ 60 := by rw [en]; exact many_le (by omega) (by omega)
      have EL : Hid (l = pcs t sz n ∧ n = many t.size sz ∧ l.length = n) := ⟨el, en, by rw [el, pcs_len]⟩
      rw [← en, ← el]
      have mk := fun W : World => makeP W n hn60
      clear e h60 hs en el
      go_enter Try.func5, Try.ntmps5
      go_wp2_with (refine (howMany_any t.size sz _ H0.out.1 H0.out.2.1 H0.out.2.2).mono ?_)
      rintro _ w1 ⟨rfl, hw⟩
      rw [← EL.out.2.1, hw]
      clear hw
      have F0 : Hid (Filled (w.alloc (.cells (madeCells #[.int .i64 0, .int .i64 0, .string .empty] (n * 3)) 35)) w.heap.size n l 0 ∧ Below w.heap.size w (w.alloc (.cells (madeCells #[.int .i64 0, .int .i64 0, .string .empty] (n * 3)) 35))) := by
        obtain ⟨f, hf⟩ := made_row w n
        exact ⟨⟨f, hf, fun j hj => absurd hj (by omega)⟩, (Below.refl _ _).alloc (Nat.le_refl _) _⟩
      go_wp2
      go_loopw [28] (fun x wr => ∃ i : Nat, i ≤ n ∧ x = .int .i64 (i : Int) ∧ Hid (Filled wr w.heap.size n l i ∧ Below w.heap.size w wr)) (fun x _ => n - (intOf x).toNat)
      case atStart => exact ⟨0, by omega, rfl, F0.out⟩
      case round =>
        obtain ⟨i, hin, rfl, hR⟩ := hrel
        by_cases hlt : i < n
        · have hi0 : (0 : Int) ≤ (i : Int) := by omega
          have hin' : (i : Int) < (n : Int) := by omega
          obtain ⟨X, eX⟩ : ∃ X : Nat, X = i * sz := ⟨_, rfl⟩
          obtain ⟨Y, eY⟩ : ∃ Y : Nat, Y = (i + 1) * sz := ⟨_, rfl⟩
          have mX : (i : Int) * (sz : Int) = (X : Int) := by rw [eX]; simp
          have mY : ((i : Int) + 1) * (sz : Int) = (Y : Int) := by rw [eY]; simp
          obtain ⟨E, eE⟩ : ∃ E : Nat, E = min Y t.size := ⟨_, rfl⟩
          have mE : min (Y : Int) (t.size : Int) = (E : Int) := by omega
          have hYX : Y = X + sz := by rw [eX, eY, Nat.add_mul, Nat.one_mul]
          have hXt : X ≤ t.size := by
            obtain ⟨m1, m2, m3⟩ := many_spec (len := t.size) H0.out.1
            rw [← EL.out.2.1] at m1 m2 m3
            by_cases q : 1 < n
            · have := m3 q
              have : i * sz ≤ (n - 1) * sz := Nat.mul_le_mul_right _ (by omega)
              omega
            · have : i = 0 := by omega
              rw [eX, this, Nat.zero_mul]
              omega
          have hc : t.extract X E = cut t sz i := by
            unfold cut
            rw [eE, eX, eY, Nat.min_comm, ext_min]
          have HX : Hid (t.extract X E = cut t sz i ∧ (t.extract X E).size ≤ 1000) := ⟨hc, by rw [ByteArray.size_extract]; have := H0.out; omega⟩
          have bX0 : (0 : Int) ≤ (X : Int) := by omega
          have bX : (X : Int) ≤ (E : Int) := by omega
          have bE : (E : Int) ≤ (t.size : Int) := by omega
          have bE' : (t.size : Int) ≤ 60 := by have := H0.out; omega
          have bY : (Y : Int) ≤ 1000 := by have := H0.out; omega
          clear eX eY eE hYX hXt hc
          go_wp2_with (refine (own_any (i : Int) (n : Int) (t.extract X E) wr HX.out.2).mono ?_)
          rintro e w2 ⟨rfl, hb⟩
          have HB : Hid (Below wr.heap.size wr w2) := hb
          have F2 : Hid (Filled w2 w.heap.size n l i) := by
            obtain ⟨f, r, hf⟩ := hR.out.1
            exact ⟨f, World.rowIs.of_block r (hb.block _ (World.rowIs.lt r)), hf⟩
          obtain ⟨f, r, hf⟩ := F2.out
          have c0 := r.cell (i := i * 3) (by omega)
          have c1 := r.cell (i := i * 3 + 1) (by omega)
          have c2 := r.cell (i := i * 3 + 2) (by omega)
          have f0 := r.frozen (i * 3)
          have f1 := r.frozen (i * 3 + 1)
          have f2 := r.frozen (i * 3 + 2)
          have ep : pc l i = ((i : Int), (n : Int), cut t sz i) := by
            unfold pc
            rw [EL.out.1, pcs_get t sz hlt, ← EL.out.2.1]
          have EP : Hid _ := ep
          clear hb hf r ep
          go_wp2
          go_roundw
          case rel =>
            refine ⟨i + 1, by omega, by go_num, ?_, ?_⟩
            · have h := F2.out.step (show i < l.length by rw [EL.out.2.2]; exact hlt)
              rw [EP.out] at h
              rw [HX.out.1]
              exact h
            · have h1 := hR.out.2.trans (HB.out.mono hR.out.2.size)
              exact ((h1.setCell (p := ⟨_, _, none⟩) (Nat.le_refl _) _).setCell (p := ⟨_, _, none⟩) (Nat.le_refl _) _).setCell (p := ⟨_, _, none⟩) (Nat.le_refl _) _
          case measure => simp [intOf]; omega
        · have hkn : i = n := by omega
          subst hkn
          go_wp2
          go_ret2
          refine ⟨_, rfl, ?_, hR.out.2⟩
          have e := EL.out.2.2
          have h := hR.out.1
          rw [← e] at h ⊢
          exact h.done (Nat.le_refl _) (by omega)
end Go.Proofs.Ytolnfipdhkbkjaj.Pie
