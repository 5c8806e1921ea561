/-
  The walk of VectorTells, some of its ways: for whatever two lists and whatever number it returns true, and nothing that was there is written.
-/
import Derived.Test.YtcmfhlegpgmakaaDoorTellsA
namespace Go.Proofs.YtcmfhlegpgmakaaDoor.Tells
open Go.RowKit Go.Proofs.YtcmfhlegpgmakaaDoor.Vec Go.Proofs.YtcmfhlegpgmakaaDoor.As

set_option maxRecDepth 100000 in
set_option maxHeartbeats 4000000 in
theorem walk_lo_n (a b : Option Addr) (len cap len' cap' : Nat) (xs ys : List Int) (who : Int) (w0 : World) (HV : Hid (Vw w0 a len xs)) (HV' : Hid (Vw w0 b len' ys)) (HL : Hid (Laid w0)) (h : Hid (code xs = 0)) (hw : who < 0) (h' : Hid (code ys ≠ 0)) :
    Calls Tryd.prog 3 #[.slice a len cap, .slice b len' cap', .int .i64 who] w0 fun e w' => e = .returned (.bool true) ∧ Below w0.heap.size w0 w' := by
  obtain rfl : 5 = len := by have := code_len h.out; have := HV.out.1; omega
  obtain ⟨p, off, rfl, hpb⟩ : ∃ p off, a = some ⟨p, off, none⟩ ∧ True := by obtain ⟨p, off, e, _⟩ := HV.out.2 (by omega); exact ⟨p, off, e, trivial⟩
  clear hpb
  have h0 : (code ys == 0) = false := beq_eq_false_iff_ne.2 h'.out
  have h2 : code2 xs ys = code ys := code2_right h.out
  have H2 : Hid _ := h2
  have hs : (code ys == code ys) = true := beq_self_eq_true _
  clear h2
  have HB : Hid (Below w0.heap.size w0 w0) := Below.refl _ _
  go_enter Tryd.func3, Tryd.ntmps3
  go_wp2_with fail
  refine (refVector (some ⟨p, off, none⟩) 5 cap xs w0 HV.out).mono ?_
  rintro e w1 ⟨rfl, hw⟩
  have hb2 : Below w0.heap.size w0 w1 := by rw [hw]; exact Below.refl _ _
  clear hw
  replace HB := chain HB hb2
  replace HL := keepL HL hb2
  replace HV := keep HV hb2
  replace HV' := keep HV' hb2
  clear hb2
  rw [h.out]
  go_wp2_with fail
  refine (check_ok (some ⟨p, off, none⟩) 5 cap xs w1 HV.out h.out).mono ?_
  rintro e w2 ⟨rfl, hb2⟩
  replace HB := chain HB hb2
  replace HL := keepL HL hb2
  replace HV := keep HV hb2
  replace HV' := keep HV' hb2
  clear hb2
  go_wp2_with fail
  refine (error_nil 0 w2).mono ?_
  rintro e w3 ⟨rfl, hb2⟩
  replace HB := chain HB hb2
  replace HL := keepL HL hb2
  replace HV := keep HV hb2
  replace HV' := keep HV' hb2
  clear hb2
  rw [zero0]
  go_wp2_with fail
  refine (step_who (some ⟨p, off, none⟩) 5 cap xs who w3 HV.out h.out (Or.inl hw)).mono ?_
  rintro e w4 ⟨rfl, hb2⟩
  replace HB := chain HB hb2
  replace HL := keepL HL hb2
  replace HV := keep HV hb2
  replace HV' := keep HV' hb2
  clear hb2
  go_wp2_with fail
  refine (error_errno 1 1 w4 HL.out).mono ?_
  rintro e w5 ⟨rfl, hb2⟩
  replace HB := chain HB hb2
  replace HL := keepL HL hb2
  replace HV := keep HV hb2
  replace HV' := keep HV' hb2
  clear hb2
  rw [one1]
  go_wp2_with fail
  refine (ints_any none none 0 0 0 0 [] [] w5 (nil_vw _) (nil_vw _) (by decide)).mono ?_
  rintro e w6 ⟨rfl, nd, ed⟩
  have hb2 : Below w5.heap.size w5 w6 := by subst ed; exact drewB _ nd
  clear ed
  replace HB := chain HB hb2
  replace HL := keepL HL hb2
  replace HV := keep HV hb2
  replace HV' := keep HV' hb2
  clear hb2
  rw [nilnil]
  go_wp2_with fail
  refine (refVector b len' cap' ys w6 HV'.out).mono ?_
  rintro e w7 ⟨rfl, hw⟩
  have hb2 : Below w6.heap.size w6 w7 := by rw [hw]; exact Below.refl _ _
  clear hw
  replace HB := chain HB hb2
  replace HL := keepL HL hb2
  replace HV := keep HV hb2
  replace HV' := keep HV' hb2
  clear hb2
  go_wp2_with fail
  refine wp_loop_rounds 1 ?_
  rw [rounds_succ]
  go_wp2_with fail
  refine (join_no (some ⟨p, off, none⟩) b 5 cap len' cap' xs ys w7 HV.out HV'.out (by rw [H2.out]; exact h'.out)).mono ?_
  rintro e w8 ⟨rfl, hb2⟩
  replace HB := chain HB hb2
  replace HL := keepL HL hb2
  replace HV := keep HV hb2
  replace HV' := keep HV' hb2
  clear hb2
  rw [H2.out]
  go_wp2_with fail
  refine (error_errno (code ys) (code ys) w8 HL.out).mono ?_
  rintro e w9 ⟨rfl, hb2⟩
  replace HB := chain HB hb2
  replace HL := keepL HL hb2
  replace HV := keep HV hb2
  replace HV' := keep HV' hb2
  clear hb2
  rw [hs]
  go_wp2_with fail
  refine (ints_any none none 0 0 0 0 [] [] w9 (nil_vw _) (nil_vw _) (by decide)).mono ?_
  rintro e w10 ⟨rfl, nd, ed⟩
  have hb2 : Below w9.heap.size w9 w10 := by subst ed; exact drewB _ nd
  clear ed
  replace HB := chain HB hb2
  replace HL := keepL HL hb2
  replace HV := keep HV hb2
  replace HV' := keep HV' hb2
  clear hb2
  rw [nilnil]
  go_wp2_with fail
  refine (leq_no (some ⟨p, off, none⟩) b 5 cap len' cap' xs ys w10 HV.out HV'.out (by rw [H2.out]; exact h'.out)).mono ?_
  rintro e w11 ⟨rfl, hb2⟩
  replace HB := chain HB hb2
  replace HL := keepL HL hb2
  replace HV := keep HV hb2
  replace HV' := keep HV' hb2
  clear hb2
  rw [H2.out]
  go_wp2_with fail
  refine (error_errno (code ys) (code ys) w11 HL.out).mono ?_
  rintro e w12 ⟨rfl, hb2⟩
  replace HB := chain HB hb2
  replace HL := keepL HL hb2
  replace HV := keep HV hb2
  replace HV' := keep HV' hb2
  clear hb2
  rw [hs]
  go_wp2_with fail
  refine (apart_no (some ⟨p, off, none⟩) b 5 cap len' cap' xs ys w12 HV.out HV'.out (by rw [H2.out]; exact h'.out)).mono ?_
  rintro e w13 ⟨rfl, hb2⟩
  replace HB := chain HB hb2
  replace HL := keepL HL hb2
  replace HV := keep HV hb2
  replace HV' := keep HV' hb2
  clear hb2
  rw [H2.out]
  go_wp2_with fail
  refine (error_errno (code ys) (code ys) w13 HL.out).mono ?_
  rintro e w14 ⟨rfl, hb2⟩
  replace HB := chain HB hb2
  replace HL := keepL HL hb2
  replace HV := keep HV hb2
  replace HV' := keep HV' hb2
  clear hb2
  rw [hs]
  go_wp2
  go_ret
  exact ⟨rfl, HB.out⟩

set_option maxRecDepth 100000 in
set_option maxHeartbeats 4000000 in
theorem walk_hi_n (a b : Option Addr) (len cap len' cap' : Nat) (xs ys : List Int) (who : Int) (w0 : World) (HV : Hid (Vw w0 a len xs)) (HV' : Hid (Vw w0 b len' ys)) (HL : Hid (Laid w0)) (h : Hid (code xs = 0)) (hw : 4 < who) (h' : Hid (code ys ≠ 0)) :
    Calls Tryd.prog 3 #[.slice a len cap, .slice b len' cap', .int .i64 who] w0 fun e w' => e = .returned (.bool true) ∧ Below w0.heap.size w0 w' := by
  obtain rfl : 5 = len := by have := code_len h.out; have := HV.out.1; omega
  obtain ⟨p, off, rfl, hpb⟩ : ∃ p off, a = some ⟨p, off, none⟩ ∧ True := by obtain ⟨p, off, e, _⟩ := HV.out.2 (by omega); exact ⟨p, off, e, trivial⟩
  clear hpb
  have h0 : (code ys == 0) = false := beq_eq_false_iff_ne.2 h'.out
  have h2 : code2 xs ys = code ys := code2_right h.out
  have H2 : Hid _ := h2
  have hs : (code ys == code ys) = true := beq_self_eq_true _
  clear h2
  have hw0 : ¬ who < 0 := by omega
  have HB : Hid (Below w0.heap.size w0 w0) := Below.refl _ _
  go_enter Tryd.func3, Tryd.ntmps3
  go_wp2_with fail
  refine (refVector (some ⟨p, off, none⟩) 5 cap xs w0 HV.out).mono ?_
  rintro e w1 ⟨rfl, hw⟩
  have hb2 : Below w0.heap.size w0 w1 := by rw [hw]; exact Below.refl _ _
  clear hw
  replace HB := chain HB hb2
  replace HL := keepL HL hb2
  replace HV := keep HV hb2
  replace HV' := keep HV' hb2
  clear hb2
  rw [h.out]
  go_wp2_with fail
  refine (check_ok (some ⟨p, off, none⟩) 5 cap xs w1 HV.out h.out).mono ?_
  rintro e w2 ⟨rfl, hb2⟩
  replace HB := chain HB hb2
  replace HL := keepL HL hb2
  replace HV := keep HV hb2
  replace HV' := keep HV' hb2
  clear hb2
  go_wp2_with fail
  refine (error_nil 0 w2).mono ?_
  rintro e w3 ⟨rfl, hb2⟩
  replace HB := chain HB hb2
  replace HL := keepL HL hb2
  replace HV := keep HV hb2
  replace HV' := keep HV' hb2
  clear hb2
  rw [zero0]
  go_wp2_with fail
  refine (step_who (some ⟨p, off, none⟩) 5 cap xs who w3 HV.out h.out (Or.inr hw)).mono ?_
  rintro e w4 ⟨rfl, hb2⟩
  replace HB := chain HB hb2
  replace HL := keepL HL hb2
  replace HV := keep HV hb2
  replace HV' := keep HV' hb2
  clear hb2
  go_wp2_with fail
  refine (error_errno 1 1 w4 HL.out).mono ?_
  rintro e w5 ⟨rfl, hb2⟩
  replace HB := chain HB hb2
  replace HL := keepL HL hb2
  replace HV := keep HV hb2
  replace HV' := keep HV' hb2
  clear hb2
  rw [one1]
  go_wp2_with fail
  refine (ints_any none none 0 0 0 0 [] [] w5 (nil_vw _) (nil_vw _) (by decide)).mono ?_
  rintro e w6 ⟨rfl, nd, ed⟩
  have hb2 : Below w5.heap.size w5 w6 := by subst ed; exact drewB _ nd
  clear ed
  replace HB := chain HB hb2
  replace HL := keepL HL hb2
  replace HV := keep HV hb2
  replace HV' := keep HV' hb2
  clear hb2
  rw [nilnil]
  go_wp2_with fail
  refine (refVector b len' cap' ys w6 HV'.out).mono ?_
  rintro e w7 ⟨rfl, hw⟩
  have hb2 : Below w6.heap.size w6 w7 := by rw [hw]; exact Below.refl _ _
  clear hw
  replace HB := chain HB hb2
  replace HL := keepL HL hb2
  replace HV := keep HV hb2
  replace HV' := keep HV' hb2
  clear hb2
  go_wp2_with fail
  refine wp_loop_rounds 1 ?_
  rw [rounds_succ]
  go_wp2_with fail
  refine (join_no (some ⟨p, off, none⟩) b 5 cap len' cap' xs ys w7 HV.out HV'.out (by rw [H2.out]; exact h'.out)).mono ?_
  rintro e w8 ⟨rfl, hb2⟩
  replace HB := chain HB hb2
  replace HL := keepL HL hb2
  replace HV := keep HV hb2
  replace HV' := keep HV' hb2
  clear hb2
  rw [H2.out]
  go_wp2_with fail
  refine (error_errno (code ys) (code ys) w8 HL.out).mono ?_
  rintro e w9 ⟨rfl, hb2⟩
  replace HB := chain HB hb2
  replace HL := keepL HL hb2
  replace HV := keep HV hb2
  replace HV' := keep HV' hb2
  clear hb2
  rw [hs]
  go_wp2_with fail
  refine (ints_any none none 0 0 0 0 [] [] w9 (nil_vw _) (nil_vw _) (by decide)).mono ?_
  rintro e w10 ⟨rfl, nd, ed⟩
  have hb2 : Below w9.heap.size w9 w10 := by subst ed; exact drewB _ nd
  clear ed
  replace HB := chain HB hb2
  replace HL := keepL HL hb2
  replace HV := keep HV hb2
  replace HV' := keep HV' hb2
  clear hb2
  rw [nilnil]
  go_wp2_with fail
  refine (leq_no (some ⟨p, off, none⟩) b 5 cap len' cap' xs ys w10 HV.out HV'.out (by rw [H2.out]; exact h'.out)).mono ?_
  rintro e w11 ⟨rfl, hb2⟩
  replace HB := chain HB hb2
  replace HL := keepL HL hb2
  replace HV := keep HV hb2
  replace HV' := keep HV' hb2
  clear hb2
  rw [H2.out]
  go_wp2_with fail
  refine (error_errno (code ys) (code ys) w11 HL.out).mono ?_
  rintro e w12 ⟨rfl, hb2⟩
  replace HB := chain HB hb2
  replace HL := keepL HL hb2
  replace HV := keep HV hb2
  replace HV' := keep HV' hb2
  clear hb2
  rw [hs]
  go_wp2_with fail
  refine (apart_no (some ⟨p, off, none⟩) b 5 cap len' cap' xs ys w12 HV.out HV'.out (by rw [H2.out]; exact h'.out)).mono ?_
  rintro e w13 ⟨rfl, hb2⟩
  replace HB := chain HB hb2
  replace HL := keepL HL hb2
  replace HV := keep HV hb2
  replace HV' := keep HV' hb2
  clear hb2
  rw [H2.out]
  go_wp2_with fail
  refine (error_errno (code ys) (code ys) w13 HL.out).mono ?_
  rintro e w14 ⟨rfl, hb2⟩
  replace HB := chain HB hb2
  replace HL := keepL HL hb2
  replace HV := keep HV hb2
  replace HV' := keep HV' hb2
  clear hb2
  rw [hs]
  go_wp2
  go_ret
  exact ⟨rfl, HB.out⟩

set_option maxRecDepth 100000 in
set_option maxHeartbeats 4000000 in
theorem walk_full_n (a b : Option Addr) (len cap len' cap' : Nat) (xs ys : List Int) (who : Int) (w0 : World) (HV : Hid (Vw w0 a len xs)) (HV' : Hid (Vw w0 b len' ys)) (HL : Hid (Laid w0)) (h : Hid (code xs = 0)) (n : Nat) (en : who = n) (hn : n < 5) (hx : Hid (xs.getD n 0 = 1000000)) (h' : Hid (code ys ≠ 0)) :
    Calls Tryd.prog 3 #[.slice a len cap, .slice b len' cap', .int .i64 who] w0 fun e w' => e = .returned (.bool true) ∧ Below w0.heap.size w0 w' := by
  obtain rfl : 5 = len := by have := code_len h.out; have := HV.out.1; omega
  obtain ⟨p, off, rfl, hpb⟩ : ∃ p off, a = some ⟨p, off, none⟩ ∧ True := by obtain ⟨p, off, e, _⟩ := HV.out.2 (by omega); exact ⟨p, off, e, trivial⟩
  clear hpb
  have h0 : (code ys == 0) = false := beq_eq_false_iff_ne.2 h'.out
  have h2 : code2 xs ys = code ys := code2_right h.out
  have H2 : Hid _ := h2
  have hs : (code ys == code ys) = true := beq_self_eq_true _
  clear h2
  subst en
  have hn0 : (0 : Int) ≤ (n : Int) := by omega
  have hn4 : (n : Int) ≤ 4 := by omega
  have hn5 : (n : Int) < 5 := by omega
  have HB : Hid (Below w0.heap.size w0 w0) := Below.refl _ _
  go_enter Tryd.func3, Tryd.ntmps3
  go_wp2_with fail
  refine (refVector (some ⟨p, off, none⟩) 5 cap xs w0 HV.out).mono ?_
  rintro e w1 ⟨rfl, hw⟩
  have hb2 : Below w0.heap.size w0 w1 := by rw [hw]; exact Below.refl _ _
  clear hw
  replace HB := chain HB hb2
  replace HL := keepL HL hb2
  replace HV := keep HV hb2
  replace HV' := keep HV' hb2
  clear hb2
  rw [h.out]
  go_wp2_with fail
  refine (check_ok (some ⟨p, off, none⟩) 5 cap xs w1 HV.out h.out).mono ?_
  rintro e w2 ⟨rfl, hb2⟩
  replace HB := chain HB hb2
  replace HL := keepL HL hb2
  replace HV := keep HV hb2
  replace HV' := keep HV' hb2
  clear hb2
  go_wp2_with fail
  refine (error_nil 0 w2).mono ?_
  rintro e w3 ⟨rfl, hb2⟩
  replace HB := chain HB hb2
  replace HL := keepL HL hb2
  replace HV := keep HV hb2
  replace HV' := keep HV' hb2
  clear hb2
  rw [zero0]
  have hcell := vw_cell HV.out hn
  rw [hx.out] at hcell
  go_wp2_with fail
  clear hcell
  refine (step_full (some ⟨p, off, none⟩) 5 cap xs n w3 HV.out h.out hn hx.out).mono ?_
  rintro e w4 ⟨rfl, hb2⟩
  replace HB := chain HB hb2
  replace HL := keepL HL hb2
  replace HV := keep HV hb2
  replace HV' := keep HV' hb2
  clear hb2
  go_wp2_with fail
  refine (error_errno 4 4 w4 HL.out).mono ?_
  rintro e w5 ⟨rfl, hb2⟩
  replace HB := chain HB hb2
  replace HL := keepL HL hb2
  replace HV := keep HV hb2
  replace HV' := keep HV' hb2
  clear hb2
  rw [four4]
  go_wp2_with fail
  refine (ints_any none none 0 0 0 0 [] [] w5 (nil_vw _) (nil_vw _) (by decide)).mono ?_
  rintro e w6 ⟨rfl, nd, ed⟩
  have hb2 : Below w5.heap.size w5 w6 := by subst ed; exact drewB _ nd
  clear ed
  replace HB := chain HB hb2
  replace HL := keepL HL hb2
  replace HV := keep HV hb2
  replace HV' := keep HV' hb2
  clear hb2
  rw [nilnil]
  go_wp2_with fail
  refine (refVector b len' cap' ys w6 HV'.out).mono ?_
  rintro e w7 ⟨rfl, hw⟩
  have hb2 : Below w6.heap.size w6 w7 := by rw [hw]; exact Below.refl _ _
  clear hw
  replace HB := chain HB hb2
  replace HL := keepL HL hb2
  replace HV := keep HV hb2
  replace HV' := keep HV' hb2
  clear hb2
  go_wp2_with fail
  refine wp_loop_rounds 1 ?_
  rw [rounds_succ]
  go_wp2_with fail
  refine (join_no (some ⟨p, off, none⟩) b 5 cap len' cap' xs ys w7 HV.out HV'.out (by rw [H2.out]; exact h'.out)).mono ?_
  rintro e w8 ⟨rfl, hb2⟩
  replace HB := chain HB hb2
  replace HL := keepL HL hb2
  replace HV := keep HV hb2
  replace HV' := keep HV' hb2
  clear hb2
  rw [H2.out]
  go_wp2_with fail
  refine (error_errno (code ys) (code ys) w8 HL.out).mono ?_
  rintro e w9 ⟨rfl, hb2⟩
  replace HB := chain HB hb2
  replace HL := keepL HL hb2
  replace HV := keep HV hb2
  replace HV' := keep HV' hb2
  clear hb2
  rw [hs]
  go_wp2_with fail
  refine (ints_any none none 0 0 0 0 [] [] w9 (nil_vw _) (nil_vw _) (by decide)).mono ?_
  rintro e w10 ⟨rfl, nd, ed⟩
  have hb2 : Below w9.heap.size w9 w10 := by subst ed; exact drewB _ nd
  clear ed
  replace HB := chain HB hb2
  replace HL := keepL HL hb2
  replace HV := keep HV hb2
  replace HV' := keep HV' hb2
  clear hb2
  rw [nilnil]
  go_wp2_with fail
  refine (leq_no (some ⟨p, off, none⟩) b 5 cap len' cap' xs ys w10 HV.out HV'.out (by rw [H2.out]; exact h'.out)).mono ?_
  rintro e w11 ⟨rfl, hb2⟩
  replace HB := chain HB hb2
  replace HL := keepL HL hb2
  replace HV := keep HV hb2
  replace HV' := keep HV' hb2
  clear hb2
  rw [H2.out]
  go_wp2_with fail
  refine (error_errno (code ys) (code ys) w11 HL.out).mono ?_
  rintro e w12 ⟨rfl, hb2⟩
  replace HB := chain HB hb2
  replace HL := keepL HL hb2
  replace HV := keep HV hb2
  replace HV' := keep HV' hb2
  clear hb2
  rw [hs]
  go_wp2_with fail
  refine (apart_no (some ⟨p, off, none⟩) b 5 cap len' cap' xs ys w12 HV.out HV'.out (by rw [H2.out]; exact h'.out)).mono ?_
  rintro e w13 ⟨rfl, hb2⟩
  replace HB := chain HB hb2
  replace HL := keepL HL hb2
  replace HV := keep HV hb2
  replace HV' := keep HV' hb2
  clear hb2
  rw [H2.out]
  go_wp2_with fail
  refine (error_errno (code ys) (code ys) w13 HL.out).mono ?_
  rintro e w14 ⟨rfl, hb2⟩
  replace HB := chain HB hb2
  replace HL := keepL HL hb2
  replace HV := keep HV hb2
  replace HV' := keep HV' hb2
  clear hb2
  rw [hs]
  go_wp2
  go_ret
  exact ⟨rfl, HB.out⟩

set_option maxRecDepth 100000 in
set_option maxHeartbeats 4000000 in
theorem walk_ok_n (a b : Option Addr) (len cap len' cap' : Nat) (xs ys : List Int) (who : Int) (w0 : World) (HV : Hid (Vw w0 a len xs)) (HV' : Hid (Vw w0 b len' ys)) (HL : Hid (Laid w0)) (h : Hid (code xs = 0)) (n : Nat) (en : who = n) (hn : n < 5) (hx : Hid (xs.getD n 0 ≠ 1000000)) (h' : Hid (code ys ≠ 0)) :
    Calls Tryd.prog 3 #[.slice a len cap, .slice b len' cap', .int .i64 who] w0 fun e w' => e = .returned (.bool true) ∧ Below w0.heap.size w0 w' := by
  obtain rfl : 5 = len := by have := code_len h.out; have := HV.out.1; omega
  obtain ⟨p, off, rfl, hpb⟩ : ∃ p off, a = some ⟨p, off, none⟩ ∧ True := by obtain ⟨p, off, e, _⟩ := HV.out.2 (by omega); exact ⟨p, off, e, trivial⟩
  clear hpb
  have h0 : (code ys == 0) = false := beq_eq_false_iff_ne.2 h'.out
  have h2 : code2 xs ys = code ys := code2_right h.out
  have H2 : Hid _ := h2
  have hs : (code ys == code ys) = true := beq_self_eq_true _
  clear h2
  subst en
  have hn0 : (0 : Int) ≤ (n : Int) := by omega
  have hn4 : (n : Int) ≤ 4 := by omega
  have hn5 : (n : Int) < 5 := by omega
  have HB : Hid (Below w0.heap.size w0 w0) := Below.refl _ _
  go_enter Tryd.func3, Tryd.ntmps3
  go_wp2_with fail
  refine (refVector (some ⟨p, off, none⟩) 5 cap xs w0 HV.out).mono ?_
  rintro e w1 ⟨rfl, hw⟩
  have hb2 : Below w0.heap.size w0 w1 := by rw [hw]; exact Below.refl _ _
  clear hw
  replace HB := chain HB hb2
  replace HL := keepL HL hb2
  replace HV := keep HV hb2
  replace HV' := keep HV' hb2
  clear hb2
  rw [h.out]
  go_wp2_with fail
  refine (check_ok (some ⟨p, off, none⟩) 5 cap xs w1 HV.out h.out).mono ?_
  rintro e w2 ⟨rfl, hb2⟩
  replace HB := chain HB hb2
  replace HL := keepL HL hb2
  replace HV := keep HV hb2
  replace HV' := keep HV' hb2
  clear hb2
  go_wp2_with fail
  refine (error_nil 0 w2).mono ?_
  rintro e w3 ⟨rfl, hb2⟩
  replace HB := chain HB hb2
  replace HL := keepL HL hb2
  replace HV := keep HV hb2
  replace HV' := keep HV' hb2
  clear hb2
  rw [zero0]
  obtain ⟨i0, hi, hz0, hz1, hz2⟩ := info_parts infoInt
  have hcell := vw_cell HV.out hn
  have hbd := code_bd h.out n hn
  obtain ⟨x, ex⟩ : ∃ x, x = xs.getD n 0 := ⟨_, rfl⟩
  rw [← ex] at hcell hbd
  obtain ⟨hb0, hb5⟩ := hbd
  have hne : (x == 1000000) = false := beq_eq_false_iff_ne.2 (by rw [ex]; exact hx.out)
  have EX : Hid _ := ex
  have HI : Hid _ := hi
  have hlen : Hid (xs.length = 5) := code_len h.out
  clear ex hi
  go_wp2_with (at_builtin; refine wpList_append_lies _ rfl _ _ 22 rfl w3.heap.size 3 i0 (.int .i64 0) 1 8 Tryd.underlying22 HI.out hz0 hz1 hz2 rfl (by decide) (.slice none 0 0) 0 [] rfl (World.ownsRow_nil _ _ _ _) ⟨p, off, none⟩ 5 cap (xs.map (Value.int .i64)) rfl (by simp [hlen.out]) (news_of_vw HV.out) (ints_one xs) (by decide) (by decide) (by decide) (Nat.le_refl _) _ rfl ?_; intro g capg wg hown hgrow hat hltg; have hown2 := own5 hown; have hsc := own_at hown2 hn EX.out; have hsf := (own_cells hown2 n hn).2; have HO : Hid _ := hown2; have HGr : Hid _ := hgrow; have HAt : Hid _ := hat; clear hown hgrow hat hown2 hcell hz0 hz1 hz2 HI)
  have hb2 : Below w3.heap.size w3 (wg.setCell ⟨g, n, none⟩ (.int .i64 (x + 1))) := ((Below.refl _ _).grown HGr.out (Nat.le_refl _) (fun k hk => by cases hk)).setCell (own_lo HAt.out) _
  have hSv : Vw (wg.setCell ⟨g, n, none⟩ (.int .i64 (x + 1))) (some ⟨g, 0, none⟩) 5 (stepL xs n) := vw_set (vw_of_own hlen.out HO.out) hn (by rw [EX.out])
  clear HO HGr HAt hsc hsf
  generalize wg.setCell ⟨g, n, none⟩ (.int .i64 (x + 1)) = w5 at *
  have S : Hid _ := hSv
  clear hSv
  replace HB := chain HB hb2
  replace HL := keepL HL hb2
  replace HV := keep HV hb2
  replace HV' := keep HV' hb2
  clear hb2
  refine (step_ok (some ⟨p, off, none⟩) 5 cap xs n w5 HV.out h.out hn hx.out).mono ?_
  rintro e w6 ⟨t, rfl, Tv, hb2⟩
  replace HB := chain HB hb2
  replace HL := keepL HL hb2
  replace HV := keep HV hb2
  replace HV' := keep HV' hb2
  replace S := keep S hb2
  clear hb2
  have T : Hid _ := Tv
  clear Tv
  go_wp2_with fail
  refine (error_nil 0 w6).mono ?_
  rintro e w7 ⟨rfl, hb2⟩
  replace HB := chain HB hb2
  replace HL := keepL HL hb2
  replace HV := keep HV hb2
  replace HV' := keep HV' hb2
  replace S := keep S hb2
  replace T := keep T hb2
  clear hb2
  rw [zero0]
  go_wp2_with fail
  refine (ints_any (some ⟨t, 0, none⟩) (some ⟨g, 0, none⟩) 5 5 5 capg (stepL xs n) (stepL xs n) w7 T.out S.out (by decide)).mono ?_
  rintro e w8 ⟨rfl, nd, ed⟩
  have hb2 : Below w7.heap.size w7 w8 := by subst ed; exact drewB _ nd
  clear ed
  replace HB := chain HB hb2
  replace HL := keepL HL hb2
  replace HV := keep HV hb2
  replace HV' := keep HV' hb2
  replace S := keep S hb2
  replace T := keep T hb2
  clear hb2
  clear S T
  rw [decide_eq_true rfl]
  go_wp2_with fail
  refine (refVector b len' cap' ys w8 HV'.out).mono ?_
  rintro e w9 ⟨rfl, hw⟩
  have hb2 : Below w8.heap.size w8 w9 := by rw [hw]; exact Below.refl _ _
  clear hw
  replace HB := chain HB hb2
  replace HL := keepL HL hb2
  replace HV := keep HV hb2
  replace HV' := keep HV' hb2
  clear hb2
  go_wp2_with fail
  refine wp_loop_rounds 1 ?_
  rw [rounds_succ]
  go_wp2_with fail
  refine (join_no (some ⟨p, off, none⟩) b 5 cap len' cap' xs ys w9 HV.out HV'.out (by rw [H2.out]; exact h'.out)).mono ?_
  rintro e w10 ⟨rfl, hb2⟩
  replace HB := chain HB hb2
  replace HL := keepL HL hb2
  replace HV := keep HV hb2
  replace HV' := keep HV' hb2
  clear hb2
  rw [H2.out]
  go_wp2_with fail
  refine (error_errno (code ys) (code ys) w10 HL.out).mono ?_
  rintro e w11 ⟨rfl, hb2⟩
  replace HB := chain HB hb2
  replace HL := keepL HL hb2
  replace HV := keep HV hb2
  replace HV' := keep HV' hb2
  clear hb2
  rw [hs]
  go_wp2_with fail
  refine (ints_any none none 0 0 0 0 [] [] w11 (nil_vw _) (nil_vw _) (by decide)).mono ?_
  rintro e w12 ⟨rfl, nd, ed⟩
  have hb2 : Below w11.heap.size w11 w12 := by subst ed; exact drewB _ nd
  clear ed
  replace HB := chain HB hb2
  replace HL := keepL HL hb2
  replace HV := keep HV hb2
  replace HV' := keep HV' hb2
  clear hb2
  rw [nilnil]
  go_wp2_with fail
  refine (leq_no (some ⟨p, off, none⟩) b 5 cap len' cap' xs ys w12 HV.out HV'.out (by rw [H2.out]; exact h'.out)).mono ?_
  rintro e w13 ⟨rfl, hb2⟩
  replace HB := chain HB hb2
  replace HL := keepL HL hb2
  replace HV := keep HV hb2
  replace HV' := keep HV' hb2
  clear hb2
  rw [H2.out]
  go_wp2_with fail
  refine (error_errno (code ys) (code ys) w13 HL.out).mono ?_
  rintro e w14 ⟨rfl, hb2⟩
  replace HB := chain HB hb2
  replace HL := keepL HL hb2
  replace HV := keep HV hb2
  replace HV' := keep HV' hb2
  clear hb2
  rw [hs]
  go_wp2_with fail
  refine (apart_no (some ⟨p, off, none⟩) b 5 cap len' cap' xs ys w14 HV.out HV'.out (by rw [H2.out]; exact h'.out)).mono ?_
  rintro e w15 ⟨rfl, hb2⟩
  replace HB := chain HB hb2
  replace HL := keepL HL hb2
  replace HV := keep HV hb2
  replace HV' := keep HV' hb2
  clear hb2
  rw [H2.out]
  go_wp2_with fail
  refine (error_errno (code ys) (code ys) w15 HL.out).mono ?_
  rintro e w16 ⟨rfl, hb2⟩
  replace HB := chain HB hb2
  replace HL := keepL HL hb2
  replace HV := keep HV hb2
  replace HV' := keep HV' hb2
  clear hb2
  rw [hs]
  go_wp2
  go_ret
  exact ⟨rfl, HB.out⟩

end Go.Proofs.YtcmfhlegpgmakaaDoor.Tells
