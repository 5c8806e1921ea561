/-
  The walk of VectorTells, some of its ways: for whatever two lists and whatever number it returns true, and nothing that was there is written.
-/
import Derived.Test.YtcmfhlegpgmakaaDoorTellsA
import Derived.Deep.QuietTactic
import Derived.BigQuiet
namespace Go.Proofs.YtcmfhlegpgmakaaDoor.Tells
open Go.RowKit Go.Proofs.YtcmfhlegpgmakaaDoor.Vec Go.Proofs.YtcmfhlegpgmakaaDoor.As

set_option maxRecDepth 100000 in
set_option maxHeartbeats 4000000 in
theorem walk_full_y (a b : Option Addr) (len cap len' cap' : Nat) (xs ys : List Int) (who : Int) (w0 : World) (HV : Hid (Vw w0 a len xs)) (HV' : Hid (Vw w0 b len' ys)) (HL : Hid (Laid w0)) (h : Hid (code xs = 0)) (n : Nat) (en : who = n) (hn : n < 5) (hx : Hid (xs.getD n 0 = 1000000)) (h' : Hid (code ys = 0)) :
    Calls Tryd.prog 3 #[.slice a len cap, .slice b len' cap', .int .i64 who] w0 fun e w' => e = .returned (.bool true) ∧ Below w0.heap.size w0 w' := by
  obtain rfl : 5 = len := by have := code_len h.out; have := HV.out.1; omega
  obtain ⟨p, off, rfl, hpb⟩ : ∃ p off, a = some ⟨p, off, none⟩ ∧ True := by obtain ⟨p, off, e, _⟩ := HV.out.2 (by omega); exact ⟨p, off, e, trivial⟩
  clear hpb
  obtain rfl : 5 = len' := by have := code_len h'.out; have := HV'.out.1; omega
  obtain ⟨p', off', rfl, hpb⟩ : ∃ p off, b = some ⟨p, off, none⟩ ∧ True := by obtain ⟨p, off, e, _⟩ := HV'.out.2 (by omega); exact ⟨p, off, e, trivial⟩
  clear hpb
  subst en
  have hn0 : (0 : Int) ≤ (n : Int) := by omega
  have hn4 : (n : Int) ≤ 4 := by omega
  have hn5 : (n : Int) < 5 := by omega
  have HB : Hid (Below w0.heap.size w0 w0) := Below.refl _ _
  go_enter Tryd.func3, Tryd.ntmps3
  go_wp2_with fail
  refine (refVector (some ⟨p, off, none⟩) 5 cap xs w0 HV.out).mono ?_
  rintro e w1 ⟨rfl, hw⟩
  have hb2 : Below w0.heap.size w0 w1 := by rw [hw]; exact Below.refl _ _
  clear hw
  replace HB := chain HB hb2
  replace HL := keepL HL hb2
  replace HV := keep HV hb2
  replace HV' := keep HV' hb2
  clear hb2
  rw [h.out]
  go_wp2_with fail
  refine (check_ok (some ⟨p, off, none⟩) 5 cap xs w1 HV.out h.out).mono ?_
  rintro e w2 ⟨rfl, hb2⟩
  replace HB := chain HB hb2
  replace HL := keepL HL hb2
  replace HV := keep HV hb2
  replace HV' := keep HV' hb2
  clear hb2
  go_wp2_with fail
  refine (error_nil 0 w2).mono ?_
  rintro e w3 ⟨rfl, hb2⟩
  replace HB := chain HB hb2
  replace HL := keepL HL hb2
  replace HV := keep HV hb2
  replace HV' := keep HV' hb2
  clear hb2
  rw [zero0]
  have hcell := vw_cell HV.out hn
  rw [hx.out] at hcell
  go_wp2_with fail
  clear hcell
  refine (step_full (some ⟨p, off, none⟩) 5 cap xs n w3 HV.out h.out hn hx.out).mono ?_
  rintro e w4 ⟨rfl, hb2⟩
  replace HB := chain HB hb2
  replace HL := keepL HL hb2
  replace HV := keep HV hb2
  replace HV' := keep HV' hb2
  clear hb2
  go_wp2_with fail
  refine (error_errno 4 4 w4 HL.out).mono ?_
  rintro e w5 ⟨rfl, hb2⟩
  replace HB := chain HB hb2
  replace HL := keepL HL hb2
  replace HV := keep HV hb2
  replace HV' := keep HV' hb2
  clear hb2
  rw [four4]
  go_wp2_with fail
  refine (ints_any none none 0 0 0 0 [] [] w5 (nil_vw _) (nil_vw _) (by decide)).mono ?_
  rintro e w6 ⟨rfl, nd, ed⟩
  have hb2 : Below w5.heap.size w5 w6 := by subst ed; exact drewB _ nd
  clear ed
  replace HB := chain HB hb2
  replace HL := keepL HL hb2
  replace HV := keep HV hb2
  replace HV' := keep HV' hb2
  clear hb2
  rw [nilnil]
  go_wp2_with fail
  refine (refVector (some ⟨p', off', none⟩) 5 cap' ys w6 HV'.out).mono ?_
  rintro e w7 ⟨rfl, hw⟩
  have hb2 : Below w6.heap.size w6 w7 := by rw [hw]; exact Below.refl _ _
  clear hw
  replace HB := chain HB hb2
  replace HL := keepL HL hb2
  replace HV := keep HV hb2
  replace HV' := keep HV' hb2
  clear hb2
  rw [h'.out]
  go_wp2
  obtain ⟨i1, hi, hz0, hz1, hz2⟩ := info_parts infoInt
  have HI : Hid _ := hi
  have HZ0 : Hid _ := hz0
  have HZ1 : Hid _ := hz1
  have HZ2 : Hid _ := hz2
  clear hi hz0 hz1 hz2
  go_loopw [14, 17] (fun v i wr => ∃ k : Nat, k ≤ 5 ∧ i = .int .i64 k ∧ Hid (wr.ownsRow w7.heap.size 3 1 v k (((joinL xs ys).take k).map (Value.int .i64))) ∧ Hid (Below w7.heap.size w7 wr)) (fun _ i _ => 5 - (intOf i).toNat)
  case atStart => exact ⟨0, by omega, rfl, World.ownsRow_nil _ _ _ _, Below.refl _ _⟩
  case round =>
    obtain ⟨k, hk, rfl, hO, hB⟩ := hrel
    by_cases hlt : k < 5
    · have hk0 : (0 : Int) ≤ (k : Int) := by omega
      have hk5 : (k : Int) < 5 := by omega
      have hcx := vw_cell (HV.out.later hB.out) hlt
      have hcy := vw_cell (HV'.out.later hB.out) hlt
      obtain ⟨x, ex⟩ : ∃ x, x = xs.getD k 0 := ⟨_, rfl⟩
      obtain ⟨y, ey⟩ : ∃ y, y = ys.getD k 0 := ⟨_, rfl⟩
      rw [← ex] at hcx
      rw [← ey] at hcy
      have EX : Hid _ := ex
      have EY : Hid _ := ey
      clear ex ey
      by_cases hxy : y < x
      · go_wp2
        go_quiet (fail)
        go_wp2_with (at_builtin; refine wpList_append_own _ rfl _ _ 22 rfl w7.heap.size 3 i1 (.int .i64 0) 1 8 Tryd.underlying22 HI.out HZ0.out HZ1.out HZ2.out rfl (by decide) _ k _ rfl (by exact hO.out.alloc _) ⟨wr.heap.size, 0, none⟩ 1 1 [.int .i64 x] rfl rfl (by exact one_new wr (.int .i64 x) 3 nq) (one_one x) (by unfold maxLen; omega) (by omega) (by have := hB.out.size; simp; omega) ?_; intro v' wn hown hgrow _; have HO : Hid _ := hown; have HG : Hid _ := hgrow; clear hown hgrow)
        go_roundw
        case rel => exact ⟨k + 1, by omega, by go_num, by rw [Hid, take_joinL hlt, ← EX.out, ← EY.out, show max x y = x from by omega]; exact HO.out, own_below hB.out hO.out HG.out hB.out.size⟩
        case measure => simp [intOf]; omega
      · go_wp2
        go_quiet (fail)
        go_wp2_with (at_builtin; refine wpList_append_own _ rfl _ _ 22 rfl w7.heap.size 3 i1 (.int .i64 0) 1 8 Tryd.underlying22 HI.out HZ0.out HZ1.out HZ2.out rfl (by decide) _ k _ rfl (by exact hO.out.alloc _) ⟨wr.heap.size, 0, none⟩ 1 1 [.int .i64 y] rfl rfl (by exact one_new wr (.int .i64 y) 3 nq) (one_one y) (by unfold maxLen; omega) (by omega) (by have := hB.out.size; simp; omega) ?_; intro v' wn hown hgrow _; have HO : Hid _ := hown; have HG : Hid _ := hgrow; clear hown hgrow)
        go_roundw
        case rel => exact ⟨k + 1, by omega, by go_num, by rw [Hid, take_joinL hlt, ← EX.out, ← EY.out, show max x y = y from by omega]; exact HO.out, own_below hB.out hO.out HG.out hB.out.size⟩
        case measure => simp [intOf]; omega
    · obtain rfl : k = 5 := by omega
      obtain ⟨j, capj, rfl, _, _⟩ := hO.out.form (by omega)
      have J : Hid (Vw wr (some ⟨j, 0, none⟩) 5 (joinL xs ys)) := vw_of_own (joinL_len _ _) (by have := hO.out; rwa [List.take_of_length_le (by rw [joinL_len]; omega)] at this)
      have hb2 : Below w7.heap.size w7 wr := hB.out
      clear hO hB HI HZ0 HZ1 HZ2
      replace HB := chain HB hb2
      replace HL := keepL HL hb2
      replace HV := keep HV hb2
      replace HV' := keep HV' hb2
      clear hb2
      cases hg : gt xs ys
      · go_wp2_with fail
        refine (refLeq (some ⟨p, off, none⟩) (some ⟨p', off', none⟩) cap cap' xs ys wr HV.out HV'.out).mono ?_
        rintro e w8 ⟨rfl, nd, ed⟩
        have hb2 : Below wr.heap.size wr w8 := by subst ed; exact drewB _ nd
        clear ed
        replace HB := chain HB hb2
        replace HL := keepL HL hb2
        replace HV := keep HV hb2
        replace HV' := keep HV' hb2
        replace J := keep J hb2
        clear hb2
        rw [hg]
        go_wp2_with fail
        refine (join_ok (some ⟨p, off, none⟩) (some ⟨p', off', none⟩) 5 cap 5 cap' xs ys w8 HV.out HV'.out h.out h'.out).mono ?_
        rintro e w9 ⟨x, rfl, Xv, hb2⟩
        replace HB := chain HB hb2
        replace HL := keepL HL hb2
        replace HV := keep HV hb2
        replace HV' := keep HV' hb2
        replace J := keep J hb2
        clear hb2
        have X : Hid _ := Xv
        clear Xv
        go_wp2_with fail
        refine (error_nil 0 w9).mono ?_
        rintro e w10 ⟨rfl, hb2⟩
        replace HB := chain HB hb2
        replace HL := keepL HL hb2
        replace HV := keep HV hb2
        replace HV' := keep HV' hb2
        replace J := keep J hb2
        replace X := keep X hb2
        clear hb2
        rw [zero0]
        go_wp2_with fail
        refine (ints_any (some ⟨x, 0, none⟩) (some ⟨j, 0, none⟩) 5 5 5 capj (joinL xs ys) (joinL xs ys) w10 X.out J.out (by decide)).mono ?_
        rintro e w11 ⟨rfl, nd, ed⟩
        have hb2 : Below w10.heap.size w10 w11 := by subst ed; exact drewB _ nd
        clear ed
        replace HB := chain HB hb2
        replace HL := keepL HL hb2
        replace HV := keep HV hb2
        replace HV' := keep HV' hb2
        replace J := keep J hb2
        replace X := keep X hb2
        clear hb2
        clear X J
        rw [decide_eq_true rfl]
        go_wp2_with fail
        refine (leq_ok (some ⟨p, off, none⟩) (some ⟨p', off', none⟩) 5 cap 5 cap' xs ys w11 HV.out HV'.out h.out h'.out).mono ?_
        rintro e w12 ⟨rfl, hb2⟩
        replace HB := chain HB hb2
        replace HL := keepL HL hb2
        replace HV := keep HV hb2
        replace HV' := keep HV' hb2
        clear hb2
        rw [hg]
        go_wp2_with fail
        refine (error_nil 0 w12).mono ?_
        rintro e w13 ⟨rfl, hb2⟩
        replace HB := chain HB hb2
        replace HL := keepL HL hb2
        replace HV := keep HV hb2
        replace HV' := keep HV' hb2
        clear hb2
        rw [zero0]
        go_wp2_with fail
        refine (apart_ok (some ⟨p, off, none⟩) (some ⟨p', off', none⟩) 5 cap 5 cap' xs ys w13 HV.out HV'.out h.out h'.out).mono ?_
        rintro e w14 ⟨rfl, hb2⟩
        replace HB := chain HB hb2
        replace HL := keepL HL hb2
        replace HV := keep HV hb2
        replace HV' := keep HV' hb2
        clear hb2
        rw [hg]
        go_wp2_with fail
        refine (error_nil 0 w14).mono ?_
        rintro e w15 ⟨rfl, hb2⟩
        replace HB := chain HB hb2
        replace HL := keepL HL hb2
        replace HV := keep HV hb2
        replace HV' := keep HV' hb2
        clear hb2
        rw [zero0]
        go_wp2
        go_ret
        exact ⟨rfl, HB.out⟩
      · cases hg2 : gt ys xs
        · go_wp2_with fail
          refine (refLeq (some ⟨p, off, none⟩) (some ⟨p', off', none⟩) cap cap' xs ys wr HV.out HV'.out).mono ?_
          rintro e w8 ⟨rfl, nd, ed⟩
          have hb2 : Below wr.heap.size wr w8 := by subst ed; exact drewB _ nd
          clear ed
          replace HB := chain HB hb2
          replace HL := keepL HL hb2
          replace HV := keep HV hb2
          replace HV' := keep HV' hb2
          replace J := keep J hb2
          clear hb2
          rw [hg]
          go_wp2_with fail
          refine (refLeq (some ⟨p', off', none⟩) (some ⟨p, off, none⟩) cap' cap ys xs w8 HV'.out HV.out).mono ?_
          rintro e w9 ⟨rfl, nd, ed⟩
          have hb2 : Below w8.heap.size w8 w9 := by subst ed; exact drewB _ nd
          clear ed
          replace HB := chain HB hb2
          replace HL := keepL HL hb2
          replace HV := keep HV hb2
          replace HV' := keep HV' hb2
          replace J := keep J hb2
          clear hb2
          rw [hg2]
          go_wp2_with fail
          refine (join_ok (some ⟨p, off, none⟩) (some ⟨p', off', none⟩) 5 cap 5 cap' xs ys w9 HV.out HV'.out h.out h'.out).mono ?_
          rintro e w10 ⟨x, rfl, Xv, hb2⟩
          replace HB := chain HB hb2
          replace HL := keepL HL hb2
          replace HV := keep HV hb2
          replace HV' := keep HV' hb2
          replace J := keep J hb2
          clear hb2
          have X : Hid _ := Xv
          clear Xv
          go_wp2_with fail
          refine (error_nil 0 w10).mono ?_
          rintro e w11 ⟨rfl, hb2⟩
          replace HB := chain HB hb2
          replace HL := keepL HL hb2
          replace HV := keep HV hb2
          replace HV' := keep HV' hb2
          replace J := keep J hb2
          replace X := keep X hb2
          clear hb2
          rw [zero0]
          go_wp2_with fail
          refine (ints_any (some ⟨x, 0, none⟩) (some ⟨j, 0, none⟩) 5 5 5 capj (joinL xs ys) (joinL xs ys) w11 X.out J.out (by decide)).mono ?_
          rintro e w12 ⟨rfl, nd, ed⟩
          have hb2 : Below w11.heap.size w11 w12 := by subst ed; exact drewB _ nd
          clear ed
          replace HB := chain HB hb2
          replace HL := keepL HL hb2
          replace HV := keep HV hb2
          replace HV' := keep HV' hb2
          replace J := keep J hb2
          replace X := keep X hb2
          clear hb2
          clear X J
          rw [decide_eq_true rfl]
          go_wp2_with fail
          refine (leq_ok (some ⟨p, off, none⟩) (some ⟨p', off', none⟩) 5 cap 5 cap' xs ys w12 HV.out HV'.out h.out h'.out).mono ?_
          rintro e w13 ⟨rfl, hb2⟩
          replace HB := chain HB hb2
          replace HL := keepL HL hb2
          replace HV := keep HV hb2
          replace HV' := keep HV' hb2
          clear hb2
          rw [hg]
          go_wp2_with fail
          refine (error_nil 0 w13).mono ?_
          rintro e w14 ⟨rfl, hb2⟩
          replace HB := chain HB hb2
          replace HL := keepL HL hb2
          replace HV := keep HV hb2
          replace HV' := keep HV' hb2
          clear hb2
          rw [zero0]
          go_wp2_with fail
          refine (apart_ok (some ⟨p, off, none⟩) (some ⟨p', off', none⟩) 5 cap 5 cap' xs ys w14 HV.out HV'.out h.out h'.out).mono ?_
          rintro e w15 ⟨rfl, hb2⟩
          replace HB := chain HB hb2
          replace HL := keepL HL hb2
          replace HV := keep HV hb2
          replace HV' := keep HV' hb2
          clear hb2
          rw [hg, hg2]
          go_wp2_with fail
          refine (error_nil 0 w15).mono ?_
          rintro e w16 ⟨rfl, hb2⟩
          replace HB := chain HB hb2
          replace HL := keepL HL hb2
          replace HV := keep HV hb2
          replace HV' := keep HV' hb2
          clear hb2
          rw [zero0]
          go_wp2
          go_ret
          exact ⟨rfl, HB.out⟩
        · go_wp2_with fail
          refine (refLeq (some ⟨p, off, none⟩) (some ⟨p', off', none⟩) cap cap' xs ys wr HV.out HV'.out).mono ?_
          rintro e w8 ⟨rfl, nd, ed⟩
          have hb2 : Below wr.heap.size wr w8 := by subst ed; exact drewB _ nd
          clear ed
          replace HB := chain HB hb2
          replace HL := keepL HL hb2
          replace HV := keep HV hb2
          replace HV' := keep HV' hb2
          replace J := keep J hb2
          clear hb2
          rw [hg]
          go_wp2_with fail
          refine (refLeq (some ⟨p', off', none⟩) (some ⟨p, off, none⟩) cap' cap ys xs w8 HV'.out HV.out).mono ?_
          rintro e w9 ⟨rfl, nd, ed⟩
          have hb2 : Below w8.heap.size w8 w9 := by subst ed; exact drewB _ nd
          clear ed
          replace HB := chain HB hb2
          replace HL := keepL HL hb2
          replace HV := keep HV hb2
          replace HV' := keep HV' hb2
          replace J := keep J hb2
          clear hb2
          rw [hg2]
          go_wp2_with fail
          refine (join_ok (some ⟨p, off, none⟩) (some ⟨p', off', none⟩) 5 cap 5 cap' xs ys w9 HV.out HV'.out h.out h'.out).mono ?_
          rintro e w10 ⟨x, rfl, Xv, hb2⟩
          replace HB := chain HB hb2
          replace HL := keepL HL hb2
          replace HV := keep HV hb2
          replace HV' := keep HV' hb2
          replace J := keep J hb2
          clear hb2
          have X : Hid _ := Xv
          clear Xv
          go_wp2_with fail
          refine (error_nil 0 w10).mono ?_
          rintro e w11 ⟨rfl, hb2⟩
          replace HB := chain HB hb2
          replace HL := keepL HL hb2
          replace HV := keep HV hb2
          replace HV' := keep HV' hb2
          replace J := keep J hb2
          replace X := keep X hb2
          clear hb2
          rw [zero0]
          go_wp2_with fail
          refine (ints_any (some ⟨x, 0, none⟩) (some ⟨j, 0, none⟩) 5 5 5 capj (joinL xs ys) (joinL xs ys) w11 X.out J.out (by decide)).mono ?_
          rintro e w12 ⟨rfl, nd, ed⟩
          have hb2 : Below w11.heap.size w11 w12 := by subst ed; exact drewB _ nd
          clear ed
          replace HB := chain HB hb2
          replace HL := keepL HL hb2
          replace HV := keep HV hb2
          replace HV' := keep HV' hb2
          replace J := keep J hb2
          replace X := keep X hb2
          clear hb2
          clear X J
          rw [decide_eq_true rfl]
          go_wp2_with fail
          refine (leq_ok (some ⟨p, off, none⟩) (some ⟨p', off', none⟩) 5 cap 5 cap' xs ys w12 HV.out HV'.out h.out h'.out).mono ?_
          rintro e w13 ⟨rfl, hb2⟩
          replace HB := chain HB hb2
          replace HL := keepL HL hb2
          replace HV := keep HV hb2
          replace HV' := keep HV' hb2
          clear hb2
          rw [hg]
          go_wp2_with fail
          refine (error_nil 0 w13).mono ?_
          rintro e w14 ⟨rfl, hb2⟩
          replace HB := chain HB hb2
          replace HL := keepL HL hb2
          replace HV := keep HV hb2
          replace HV' := keep HV' hb2
          clear hb2
          rw [zero0]
          go_wp2_with fail
          refine (apart_ok (some ⟨p, off, none⟩) (some ⟨p', off', none⟩) 5 cap 5 cap' xs ys w14 HV.out HV'.out h.out h'.out).mono ?_
          rintro e w15 ⟨rfl, hb2⟩
          replace HB := chain HB hb2
          replace HL := keepL HL hb2
          replace HV := keep HV hb2
          replace HV' := keep HV' hb2
          clear hb2
          rw [hg, hg2]
          go_wp2_with fail
          refine (error_nil 0 w15).mono ?_
          rintro e w16 ⟨rfl, hb2⟩
          replace HB := chain HB hb2
          replace HL := keepL HL hb2
          replace HV := keep HV hb2
          replace HV' := keep HV' hb2
          clear hb2
          rw [zero0]
          go_wp2
          go_ret
          exact ⟨rfl, HB.out⟩

end Go.Proofs.YtcmfhlegpgmakaaDoor.Tells
