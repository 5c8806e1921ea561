/-
  Contracts of package vector's Join and Step, for whatever lists of numbers: what each returns, and that nothing that was there is written.
-/
import Derived.Test.YtcmfhlegpgmakaaVecC
import Derived.WalkLawsBesides
import Derived.RegionTactic
import Derived.Deep.WholeRow
namespace Go.Proofs.Ytcmfhlegpgmakaa.Vec
open Go.RowKit

def joinL (xs ys : List Int) : List Int := (List.range 5).map fun k => max (xs.getD k 0) (ys.getD k 0)

def Own5 (w : World) (g : Nat) (f : Nat → Int) (k : Nat) : Prop :=
  ∀ j, j < 5 → w.cell? ⟨g, j, none⟩ = some (.int .i64 (if j < k then f j else 0)) ∧ w.frozen? ⟨g, j, none⟩ = false

theorem Own5.step {w : World} {g k : Nat} {f : Nat → Int} {v : Int} (h : Own5 w g f k) (hk : k < 5) (hv : v = f k) : Own5 (w.setCell ⟨g, k, none⟩ (.int .i64 v)).drew g f (k + 1) := by
  intro j hj
  obtain ⟨h1, h2⟩ := h j hj
  refine ⟨?_, by simpa using h2⟩
  show (w.setCell ⟨g, k, none⟩ (.int .i64 v)).cell? ⟨g, j, none⟩ = _
  by_cases e : j = k
  · subst e
    rw [World.cell?_setCell_same (h := h1), if_pos (by omega), hv]
  · rw [World.cell?_setCell_other (h := by intro q; injection q; omega), h1]
    by_cases h3 : j < k
    · rw [if_pos h3, if_pos (by omega)]
    · rw [if_neg h3, if_neg (by omega)]

theorem Own5.vw {w : World} {g : Nat} {f : Nat → Int} (h : Own5 w g f 5) : Vw w (some ⟨g, 0, none⟩) 5 ((List.range 5).map f) := by
  refine ⟨by simp, fun _ => ⟨g, 0, rfl, block_lt_of_cell (h 0 (by omega)).1, fun k hk => ?_⟩⟩
  have := (h k hk).1
  rw [Nat.zero_add, this, if_pos hk]
  simp [hk]

theorem max_lt {x y : Int} (h : x < y) : y = max x y := by omega
theorem max_ge {x y : Int} (h : y ≤ x) : x = max x y := by omega

theorem join_ok (a b : Option Addr) (len cap len' cap' : Nat) (xs ys : List Int) (w : World) (hv : Vw w a len xs) (hv' : Vw w b len' ys) (h : code xs = 0) (h' : code ys = 0) :
    Calls Try.prog 8 #[.slice a len cap, .slice b len' cap'] w fun e w' => ∃ g, e = .returned (.tuple #[.slice (some ⟨g, 0, none⟩) 5 5, .nilIface]) ∧ Vw w' (some ⟨g, 0, none⟩) 5 (joinL xs ys) ∧ Below w.heap.size w w' := by
  obtain rfl : 5 = len := by have := code_len h; have := hv.1; omega
  obtain rfl : 5 = len' := by have := code_len h'; have := hv'.1; omega
  have hmk : ∀ w, (Instr.makeSlice 26 (.int .i64 5) (.int .i64 5)).run Try.prog w = .ok (.slice (some ⟨w.heap.size, 0, none⟩) 5 5) (w.alloc (.cells #[.int .i64 0, .int .i64 0, .int .i64 0, .int .i64 0, .int .i64 0] 3)) := fun _ => by kernel_rfl
  go_enter Try.func8, Try.ntmps8
  go_wp2_with fail
  refine (both_ok a b 5 cap 5 cap' xs ys w hv hv' h h').mono ?_
  rintro e w1 ⟨rfl, hb1⟩
  have HB : Hid (Below w.heap.size w w1) := hb1
  have HV : Hid (Vw w1 a 5 xs) := hv.later hb1
  have HV' : Hid (Vw w1 b 5 ys) := hv'.later hb1
  clear hb1 hv hv'
  go_wp2
  have hsz := HB.out.size
  generalize hg : w1.heap.size = g
  have H0 : Hid (Own5 (w1.alloc (.cells #[.int .i64 0, .int .i64 0, .int .i64 0, .int .i64 0, .int .i64 0] 3)) g (fun j => max (xs.getD j 0) (ys.getD j 0)) 0) := by
    subst hg
    intro j hj
    match j, hj with
    | 0, _ => simp
    | 1, _ => simp
    | 2, _ => simp
    | 3, _ => simp
    | 4, _ => simp
  have HG : Hid (w1.heap.size = g) := hg
  have HS : Hid (w.heap.size ≤ w1.heap.size) := hsz
  clear hg hsz
  go_loopw [18] (fun i wr => ∃ k : Nat, k ≤ 5 ∧ i = .int .i64 k ∧ Hid (Own5 wr g (fun j => max (xs.getD j 0) (ys.getD j 0)) k) ∧ Hid (Below w1.heap.size w1 wr)) (fun i _ => 5 - (intOf i).toNat)
  case atStart => exact ⟨0, by omega, rfl, H0, (Below.refl _ _).alloc (Nat.le_refl _) _⟩
  case round =>
    obtain ⟨k, hk, rfl, hO, hB⟩ := hrel
    by_cases hlt : k < 5
    · obtain ⟨p, off, rfl, hpb, hc⟩ := HV.out.2 (by omega)
      obtain ⟨p', off', rfl, hpb', hc'⟩ := HV'.out.2 (by omega)
      have hx := (hB.out.cell (p := ⟨p, off + k, none⟩) hpb).trans (hc k hlt)
      have hy := (hB.out.cell (p := ⟨p', off' + k, none⟩) hpb').trans (hc' k hlt)
      obtain ⟨ho, hf⟩ := hO.out k hlt
      have hk0 : (0 : Int) ≤ (k : Int) := by omega
      have hk5 : (k : Int) < 5 := by omega
      obtain ⟨x, ex⟩ : ∃ x, x = xs.getD k 0 := ⟨_, rfl⟩
      obtain ⟨y, ey⟩ : ∃ y, y = ys.getD k 0 := ⟨_, rfl⟩
      rw [← ex] at hx
      rw [← ey] at hy
      have EX : Hid _ := ex
      have EY : Hid _ := ey
      clear hc hc' ex ey
      by_cases hxy : x < y
      · go_wp2
        go_region
        go_wp2
        go_roundw
        case rel => exact ⟨k + 1, by omega, by go_num, hO.out.step hlt (by rw [← EX.out, ← EY.out]; exact max_lt hxy), (hB.out.setCell (Nat.le_of_eq HG.out) _).drew⟩
        case measure => simp [intOf]; omega
      · go_wp2
        go_region
        go_wp2
        go_roundw
        case rel => exact ⟨k + 1, by omega, by go_num, hO.out.step hlt (by rw [← EX.out, ← EY.out]; exact max_ge hxy), (hB.out.setCell (Nat.le_of_eq HG.out) _).drew⟩
        case measure => simp [intOf]; omega
    · go_wp2
      go_ret2
      obtain rfl : k = 5 := by omega
      exact ⟨g, rfl, hO.out.vw, HB.out.trans (hB.out.mono HS.out)⟩

theorem join_no (a b : Option Addr) (len cap len' cap' : Nat) (xs ys : List Int) (w : World) (hv : Vw w a len xs) (hv' : Vw w b len' ys) (h : code2 xs ys ≠ 0) :
    Calls Try.prog 8 #[.slice a len cap, .slice b len' cap'] w fun e w' => e = .returned (.tuple #[.slice none 0 0, .iface 23 (.int .i64 (code2 xs ys))]) ∧ Below w.heap.size w w' := by
  go_enter Try.func8, Try.ntmps8
  go_wp2_with fail
  refine (both_no a b len cap len' cap' xs ys w hv hv' h).mono ?_
  rintro e w1 ⟨rfl, hb1⟩
  have HB : Hid (Below w.heap.size w w1) := hb1
  clear hb1
  go_wp2
  go_ret2
  exact ⟨rfl, HB.out⟩

def stepCode (xs : List Int) (who : Int) : Int := if code xs = 0 then (if who < 0 ∨ 4 < who then 1 else if xs.getD who.toNat 0 = 1000000 then 4 else 0) else code xs
def stepL (xs : List Int) (who : Int) : List Int := xs.set who.toNat (xs.getD who.toNat 0 + 1)

theorem code_bd {xs : List Int} (h : code xs = 0) : ∀ j, j < 5 → 0 ≤ xs.getD j 0 ∧ xs.getD j 0 ≤ 1000000 := by
  intro j hj
  have hl := code_len h
  have hb : bad xs = false := by
    cases hb : bad xs
    · rfl
    · simp [code, hl, hb] at h
  cases ho : out (xs.getD j 0)
  · simp only [out, Bool.or_eq_false_iff, decide_eq_false_iff_not] at ho
    omega
  · have := anyP_true (p := fun k => out (xs.getD k 0)) hj ho
    unfold bad at hb
    rw [hb] at this
    exact absurd this (by decide)

theorem step_bad (a : Option Addr) (len cap : Nat) (xs : List Int) (who : Int) (w : World) (hv : Vw w a len xs) (h : code xs ≠ 0) :
    Calls Try.prog 11 #[.slice a len cap, .int .i64 who] w fun e w' => e = .returned (.tuple #[.slice none 0 0, .iface 23 (.int .i64 (code xs))]) ∧ Below w.heap.size w w' := by
  go_enter Try.func11, Try.ntmps11
  go_wp2_with fail
  refine (check_no a len cap xs w hv h).mono ?_
  rintro e w1 ⟨rfl, hb1⟩
  have HB : Hid (Below w.heap.size w w1) := hb1
  clear hb1
  go_wp2
  go_ret2
  exact ⟨rfl, HB.out⟩

theorem step_who (a : Option Addr) (len cap : Nat) (xs : List Int) (who : Int) (w : World) (hv : Vw w a len xs) (h : code xs = 0) (hw : who < 0 ∨ 4 < who) :
    Calls Try.prog 11 #[.slice a len cap, .int .i64 who] w fun e w' => e = .returned (.tuple #[.slice none 0 0, .iface 23 (.int .i64 1)]) ∧ Below w.heap.size w w' := by
  rcases hw with hw | hw
  · go_enter Try.func11, Try.ntmps11
    go_wp2_with fail
    refine (check_ok a len cap xs w hv h).mono ?_
    rintro e w1 ⟨rfl, hb1⟩
    have HB : Hid (Below w.heap.size w w1) := hb1
    clear hb1
    go_wp2
    go_ret2
    exact ⟨rfl, HB.out⟩
  · have hw' : ¬ who < 0 := by omega
    have hw5 : 5 ≤ who := by omega
    go_enter Try.func11, Try.ntmps11
    go_wp2_with fail
    refine (check_ok a len cap xs w hv h).mono ?_
    rintro e w1 ⟨rfl, hb1⟩
    have HB : Hid (Below w.heap.size w w1) := hb1
    clear hb1
    go_wp2
    go_ret2
    exact ⟨rfl, HB.out⟩

theorem step_full (a : Option Addr) (len cap : Nat) (xs : List Int) (who : Nat) (w : World) (hv : Vw w a len xs) (h : code xs = 0) (hw : who < 5) (hx : xs.getD who 0 = 1000000) :
    Calls Try.prog 11 #[.slice a len cap, .int .i64 who] w fun e w' => e = .returned (.tuple #[.slice none 0 0, .iface 23 (.int .i64 4)]) ∧ Below w.heap.size w w' := by
  obtain rfl : 5 = len := by have := code_len h; have := hv.1; omega
  have hw0 : (0 : Int) ≤ (who : Int) := by omega
  have hw5 : (who : Int) < 5 := by omega
  go_enter Try.func11, Try.ntmps11
  go_wp2_with fail
  refine (check_ok a 5 cap xs w hv h).mono ?_
  rintro e w1 ⟨rfl, hb1⟩
  have HB : Hid (Below w.heap.size w w1) := hb1
  obtain ⟨p, off, rfl, hpb, hc⟩ := (hv.later hb1).2 (by omega)
  have hcell := hc who hw
  rw [hx] at hcell
  clear hb1 hc hv hx
  go_wp2
  go_ret2
  exact ⟨rfl, HB.out⟩

theorem five {xs : List Int} (h : xs.length = 5) : ∃ x0 x1 x2 x3 x4, xs = [x0, x1, x2, x3, x4] := by
  match xs, h with
  | [x0, x1, x2, x3, x4], _ => exact ⟨x0, x1, x2, x3, x4, rfl⟩

theorem copy5 (w : World) (p off cap : Nat) (x0 x1 x2 x3 x4 : Int) (hpb : p < w.heap.size) (hc : ∀ k, k < 5 → w.cell? ⟨p, off + k, none⟩ = some (.int .i64 ([x0, x1, x2, x3, x4].getD k 0))) :
    (Builtin.copy_ #[26, 26] 3 #[.slice (some ⟨w.heap.size, 0, none⟩) 5 5, .slice (some ⟨p, off, none⟩) 5 cap]).run Try.prog (w.alloc (.cells #[.int .i64 0, .int .i64 0, .int .i64 0, .int .i64 0, .int .i64 0] 3)) =
      .ok (.int .i64 5) (w.alloc (.cells #[.int .i64 x0, .int .i64 x1, .int .i64 x2, .int .i64 x3, .int .i64 x4] 3)) := by
  rw [run_copy_row Try.prog _ 26 26 3 3 w.heap.size 0 5 5 ⟨p, off, none⟩ 5 cap #[.int .i64 0, .int .i64 0, .int .i64 0, .int .i64 0, .int .i64 0] 3 [.int .i64 x0, .int .i64 x1, .int .i64 x2, .int .i64 x3, .int .i64 x4] Try.underlying26 (by kernel_rfl) (heap_alloc_new w _) rfl ?_ (by simp) (by intro v hv; simp at hv; rcases hv with rfl | rfl | rfl | rfl | rfl <;> rfl)]
  · simp only [World.setRow_alloc_new]
    rfl
  · intro j v hj
    rw [Addr.add_lit, World.cell?_alloc_lt (h := hpb)]
    match j, hj with
    | 0, hj => rw [hc 0 (by omega)]; simpa using hj
    | 1, hj => rw [hc 1 (by omega)]; simpa using hj
    | 2, hj => rw [hc 2 (by omega)]; simpa using hj
    | 3, hj => rw [hc 3 (by omega)]; simpa using hj
    | 4, hj => rw [hc 4 (by omega)]; simpa using hj

theorem step_ok (a : Option Addr) (len cap : Nat) (xs : List Int) (who : Nat) (w : World) (hv : Vw w a len xs) (h : code xs = 0) (hw : who < 5) (hx : xs.getD who 0 ≠ 1000000) :
    Calls Try.prog 11 #[.slice a len cap, .int .i64 who] w fun e w' => ∃ g, e = .returned (.tuple #[.slice (some ⟨g, 0, none⟩) 5 5, .nilIface]) ∧ Vw w' (some ⟨g, 0, none⟩) 5 (stepL xs who) ∧ Below w.heap.size w w' := by
  have hl := code_len h
  obtain rfl : 5 = len := by have := hv.1; omega
  have hbd := code_bd h who hw
  obtain ⟨x0, x1, x2, x3, x4, rfl⟩ := five hl
  have hmk : ∀ w, (Instr.makeSlice 26 (.int .i64 5) (.int .i64 5)).run Try.prog w = .ok (.slice (some ⟨w.heap.size, 0, none⟩) 5 5) (w.alloc (.cells #[.int .i64 0, .int .i64 0, .int .i64 0, .int .i64 0, .int .i64 0] 3)) := fun _ => by kernel_rfl
  have hw0 : (0 : Int) ≤ (who : Int) := by omega
  have hw5 : (who : Int) < 5 := by omega
  go_enter Try.func11, Try.ntmps11
  go_wp2_with fail
  refine (check_ok a 5 cap [x0, x1, x2, x3, x4] w hv h).mono ?_
  rintro e w1 ⟨rfl, hb1⟩
  have HB : Hid (Below w.heap.size w w1) := hb1
  obtain ⟨p, off, rfl, hpb, hc⟩ := (hv.later hb1).2 (by omega)
  have hcp := copy5 w1 p off cap x0 x1 x2 x3 x4 hpb hc
  have HC : Hid _ := hc
  clear hb1 hc hv hl h
  rcases (show who = 0 ∨ who = 1 ∨ who = 2 ∨ who = 3 ∨ who = 4 by omega) with rfl | rfl | rfl | rfl | rfl
  · have hne : (x0 == 1000000) = false := by simpa using hx
    have hcell : w1.cell? ⟨p, off, none⟩ = some (.int .i64 x0) := HC.out 0 (by omega)
    have hb0 : 0 ≤ x0 := hbd.1
    have hb5 : x0 ≤ 1000000 := hbd.2
    clear hbd hx
    go_wp2
    go_ret2
    exact ⟨w1.heap.size, rfl, Vw.lit w1 (x0 + 1) (x1) (x2) (x3) (x4) 3, HB.out.trans ((Below.refl _ _).alloc HB.out.size _)⟩
  · have hne : (x1 == 1000000) = false := by simpa using hx
    have hcell : w1.cell? ⟨p, off + 1, none⟩ = some (.int .i64 x1) := HC.out 1 (by omega)
    have hb0 : 0 ≤ x1 := hbd.1
    have hb5 : x1 ≤ 1000000 := hbd.2
    clear hbd hx
    go_wp2
    go_ret2
    exact ⟨w1.heap.size, rfl, Vw.lit w1 (x0) (x1 + 1) (x2) (x3) (x4) 3, HB.out.trans ((Below.refl _ _).alloc HB.out.size _)⟩
  · have hne : (x2 == 1000000) = false := by simpa using hx
    have hcell : w1.cell? ⟨p, off + 2, none⟩ = some (.int .i64 x2) := HC.out 2 (by omega)
    have hb0 : 0 ≤ x2 := hbd.1
    have hb5 : x2 ≤ 1000000 := hbd.2
    clear hbd hx
    go_wp2
    go_ret2
    exact ⟨w1.heap.size, rfl, Vw.lit w1 (x0) (x1) (x2 + 1) (x3) (x4) 3, HB.out.trans ((Below.refl _ _).alloc HB.out.size _)⟩
  · have hne : (x3 == 1000000) = false := by simpa using hx
    have hcell : w1.cell? ⟨p, off + 3, none⟩ = some (.int .i64 x3) := HC.out 3 (by omega)
    have hb0 : 0 ≤ x3 := hbd.1
    have hb5 : x3 ≤ 1000000 := hbd.2
    clear hbd hx
    go_wp2
    go_ret2
    exact ⟨w1.heap.size, rfl, Vw.lit w1 (x0) (x1) (x2) (x3 + 1) (x4) 3, HB.out.trans ((Below.refl _ _).alloc HB.out.size _)⟩
  · have hne : (x4 == 1000000) = false := by simpa using hx
    have hcell : w1.cell? ⟨p, off + 4, none⟩ = some (.int .i64 x4) := HC.out 4 (by omega)
    have hb0 : 0 ≤ x4 := hbd.1
    have hb5 : x4 ≤ 1000000 := hbd.2
    clear hbd hx
    go_wp2
    go_ret2
    exact ⟨w1.heap.size, rfl, Vw.lit w1 (x0) (x1) (x2) (x3) (x4 + 1) 3, HB.out.trans ((Below.refl _ _).alloc HB.out.size _)⟩

end Go.Proofs.Ytcmfhlegpgmakaa.Vec
