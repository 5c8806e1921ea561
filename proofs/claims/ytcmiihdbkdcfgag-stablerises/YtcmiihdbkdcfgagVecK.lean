/-
  Join's contract once more: what it answers lies in new memory.
-/
import Derived.Test.YtcmiihdbkdcfgagVecJ
namespace Go.Proofs.Ytcmiihdbkdcfgag.Vec
open Go.RowKit

set_option maxRecDepth 100000 in
theorem join_new (a b : Option Addr) (len cap len' cap' : Nat) (xs ys : List Int) (w : World) (hv : Vw w a len xs) (hv' : Vw w b len' ys) (h : code xs = 0) (h' : code ys = 0) :
    Calls Try.prog 57 #[.slice a len cap, .slice b len' cap'] w fun e w' => ∃ g, e = .returned (.tuple #[.slice (some ⟨g, 0, none⟩) 5 5, .nilIface]) ∧ Vw w' (some ⟨g, 0, none⟩) 5 (joinL xs ys) ∧ w.heap.size ≤ g ∧ Below w.heap.size w w' := by
  obtain rfl : 5 = len := by have := code_len h; have := hv.1; omega
  obtain rfl : 5 = len' := by have := code_len h'; have := hv'.1; omega
  have hmk : ∀ w, (Instr.makeSlice 22 (.int .i64 5) (.int .i64 5)).run Try.prog w = .ok (.slice (some ⟨w.heap.size, 0, none⟩) 5 5) (w.alloc (.cells #[.int .i64 0, .int .i64 0, .int .i64 0, .int .i64 0, .int .i64 0] 3)) := fun _ => by kernel_rfl
  go_enter Try.func57, Try.ntmps57
  go_wp2_with fail
  refine (both_ok a b 5 cap 5 cap' xs ys w hv hv' h h').mono ?_
  rintro e w1 ⟨rfl, hb1⟩
  have HB : Hid (Below w.heap.size w w1) := hb1
  have HV : Hid (Vw w1 a 5 xs) := hv.later hb1
  have HV' : Hid (Vw w1 b 5 ys) := hv'.later hb1
  clear hb1 hv hv'
  go_wp2
  have hsz := HB.out.size
  generalize hg : w1.heap.size = g
  have H0 : Hid (Own5 (w1.alloc (.cells #[.int .i64 0, .int .i64 0, .int .i64 0, .int .i64 0, .int .i64 0] 3)) g (fun j => max (xs.getD j 0) (ys.getD j 0)) 0) := by
    subst hg
    intro j hj
    match j, hj with
    | 0, _ => simp
    | 1, _ => simp
    | 2, _ => simp
    | 3, _ => simp
    | 4, _ => simp
  have HG : Hid (w1.heap.size = g) := hg
  have HS : Hid (w.heap.size ≤ w1.heap.size) := hsz
  clear hg hsz
  go_loopw [18] (fun i wr => ∃ k : Nat, k ≤ 5 ∧ i = .int .i64 k ∧ Hid (Own5 wr g (fun j => max (xs.getD j 0) (ys.getD j 0)) k) ∧ Hid (Below w1.heap.size w1 wr)) (fun i _ => 5 - (intOf i).toNat)
  case atStart => exact ⟨0, by omega, rfl, H0, (Below.refl _ _).alloc (Nat.le_refl _) _⟩
  case round =>
    obtain ⟨k, hk, rfl, hO, hB⟩ := hrel
    by_cases hlt : k < 5
    · obtain ⟨p, off, rfl, hpb, hc⟩ := HV.out.2 (by omega)
      obtain ⟨p', off', rfl, hpb', hc'⟩ := HV'.out.2 (by omega)
      have hx := (hB.out.cell (p := ⟨p, off + k, none⟩) hpb).trans (hc k hlt)
      have hy := (hB.out.cell (p := ⟨p', off' + k, none⟩) hpb').trans (hc' k hlt)
      obtain ⟨ho, hf⟩ := hO.out k hlt
      have hk0 : (0 : Int) ≤ (k : Int) := by omega
      have hk5 : (k : Int) < 5 := by omega
      obtain ⟨x, ex⟩ : ∃ x, x = xs.getD k 0 := ⟨_, rfl⟩
      obtain ⟨y, ey⟩ : ∃ y, y = ys.getD k 0 := ⟨_, rfl⟩
      rw [← ex] at hx
      rw [← ey] at hy
      have EX : Hid _ := ex
      have EY : Hid _ := ey
      clear hc hc' ex ey
      by_cases hxy : x < y
      · go_wp2
        go_region
        go_wp2
        go_roundw
        case rel => exact ⟨k + 1, by omega, by go_num, hO.out.step hlt (by rw [← EX.out, ← EY.out]; exact max_lt hxy), (hB.out.setCell (Nat.le_of_eq HG.out) _).drew⟩
        case measure => simp [intOf]; omega
      · go_wp2
        go_region
        go_wp2
        go_roundw
        case rel => exact ⟨k + 1, by omega, by go_num, hO.out.step hlt (by rw [← EX.out, ← EY.out]; exact max_ge hxy), (hB.out.setCell (Nat.le_of_eq HG.out) _).drew⟩
        case measure => simp [intOf]; omega
    · go_wp2
      go_ret2
      obtain rfl : k = 5 := by omega
      exact ⟨g, rfl, hO.out.vw, by have := HG.out; have := HS.out; omega, HB.out.trans (hB.out.mono HS.out)⟩

theorem joinL_R (xs ys : List Int) : joinL xs ys = [max (xs.getD 0 0) (ys.getD 0 0), max (xs.getD 1 0) (ys.getD 1 0), max (xs.getD 2 0) (ys.getD 2 0), max (xs.getD 3 0) (ys.getD 3 0), max (xs.getD 4 0) (ys.getD 4 0)] := rfl
end Go.Proofs.Ytcmiihdbkdcfgag.Vec
