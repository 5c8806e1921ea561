/-
  The walk of VectorTells, some of its ways: for whatever two lists and whatever number it returns true, and nothing that was there is written.
-/
import Derived.Test.YtcmfhlegpgmakaaDoorTellsM
namespace Go.Proofs.YtcmfhlegpgmakaaDoor.Tells
open Go.RowKit Go.Proofs.YtcmfhlegpgmakaaDoor.Vec Go.Proofs.YtcmfhlegpgmakaaDoor.As

theorem chain {w w1 w2 : World} (h : Hid (Below w.heap.size w w1)) (h' : Below w1.heap.size w1 w2) : Hid (Below w.heap.size w w2) := h.out.trans (h'.mono h.out.size)
theorem keep {w w2 : World} {a : Option Addr} {len : Nat} {xs : List Int} (h : Hid (Vw w a len xs)) (h' : Below w.heap.size w w2) : Hid (Vw w2 a len xs) := h.out.later h'
theorem keepL {w w2 : World} (h : Hid (Laid w)) (h' : Below w.heap.size w w2) : Hid (Laid w2) := h.out.later h'
theorem drewB (w : World) (n : Nat) : Below w.heap.size w (w.drewN n) := below_drewN (Below.refl _ _) n
theorem nilnil : decide (([] : List Int) = []) = true := rfl

theorem infoInt : (Tryd.prog.info? 3).map (fun i => (i.zero, i.size, i.bytes)) = some (some (.int .i64 0), 1, 8) := by kernel_rfl
theorem zero0 : ((0 : Int) == 0) = true := rfl
theorem one1 : ((1 : Int) == 1) = true := rfl
theorem four4 : ((4 : Int) == 4) = true := rfl
theorem vw_cell {w : World} {p off k : Nat} {xs : List Int} (h : Vw w (some ⟨p, off, none⟩) 5 xs) (hk : k < 5) : w.cell? ⟨p, off + k, none⟩ = some (.int .i64 (xs.getD k 0)) := by
  obtain ⟨p', off', e, _, hc⟩ := h.2 (by omega)
  injection e with e
  injection e with e1 e2 _
  subst e1 e2
  exact hc k hk
theorem own5 {w : World} {B g cap : Nat} {t : TypeId} {ns : List Value} (h : w.ownsRow B t 1 (.slice (some ⟨g, 0, none⟩) (0 + 5) cap) (0 + 5) ([] ++ ns)) : w.ownsRow B t 1 (.slice (some ⟨g, 0, none⟩) 5 cap) 5 ns := h
theorem own_at {w : World} {base g cap n : Nat} {t : TypeId} {xs : List Int} {x : Int} (h : w.ownsRow base t 1 (.slice (some ⟨g, 0, none⟩) 5 cap) 5 (xs.map (Value.int .i64))) (hn : n < 5) (hx : x = xs.getD n 0) : w.cell? ⟨g, n, none⟩ = some (.int .i64 x) := by
  rw [hx]; exact (own_cells h n hn).1
theorem own_lo {H g : Nat} (h : (Value.slice none 0 0).ownBlock = some g ∨ g = H) : H ≤ g := by
  rcases h with h | h
  · cases h
  · omega
theorem one_new (w : World) (x : Value) (t : TypeId) (n : Nat) : ∀ j u, [x][j]? = some u → ((w.alloc (.cells #[x] t)).drewN n).cell? ((⟨w.heap.size, 0, none⟩ : Addr).add j) = some u := by
  intro j u hj
  match j, hj with
  | 0, hj => simp at hj; subst hj; simp [Addr.add]
theorem one_one (x : Int) : ∀ u ∈ [Value.int .i64 x], u.oneCell' = true := by intro u hu; simp at hu; subst hu; rfl
theorem own_below {B n : Nat} {w wr wn : World} {o : Obj} {m : Nat} {v : Value} {t : TypeId} {xs : List Value} (hb : Below B w wr) (ho : wr.ownsRow B t 1 v n xs) (hg : ((wr.alloc o).drewN m).grownBy wn v.ownBlock) (hB : B ≤ wr.heap.size) : Hid (Below B w wn) := by
  refine (below_drewN (hb.alloc hB o) m).grown hg (by show B ≤ (wr.alloc o).heap.size; simp; omega) fun k hk => ?_
  rcases ho.2 with ⟨e, _⟩ | ⟨g, cap, cur, e, hbg, _⟩
  · subst e; cases hk
  · subst e
    have : k = g := by simpa [Value.ownBlock] using hk.symm
    omega

set_option maxRecDepth 100000 in
set_option maxHeartbeats 4000000 in
theorem walk_a (a b : Option Addr) (len cap len' cap' : Nat) (xs ys : List Int) (who : Int) (w0 : World) (HV : Hid (Vw w0 a len xs)) (HV' : Hid (Vw w0 b len' ys)) (HL : Hid (Laid w0)) (h : Hid (code xs ≠ 0)) :
    Calls Tryd.prog 3 #[.slice a len cap, .slice b len' cap', .int .i64 who] w0 fun e w' => e = .returned (.bool true) ∧ Below w0.heap.size w0 w' := by
  have h0 : (code xs == 0) = false := beq_eq_false_iff_ne.2 h.out
  have h2 : code2 xs ys = code xs := code2_left h.out
  have H2 : Hid _ := h2
  have hs : (code xs == code xs) = true := beq_self_eq_true _
  clear h2
  have HB : Hid (Below w0.heap.size w0 w0) := Below.refl _ _
  go_enter Tryd.func3, Tryd.ntmps3
  go_wp2_with fail
  refine (refVector a len cap xs w0 HV.out).mono ?_
  rintro e w1 ⟨rfl, hw⟩
  have hb2 : Below w0.heap.size w0 w1 := by rw [hw]; exact Below.refl _ _
  clear hw
  replace HB := chain HB hb2
  replace HL := keepL HL hb2
  replace HV := keep HV hb2
  replace HV' := keep HV' hb2
  clear hb2
  go_wp2_with fail
  refine (check_no a len cap xs w1 HV.out h.out).mono ?_
  rintro e w2 ⟨rfl, hb2⟩
  replace HB := chain HB hb2
  replace HL := keepL HL hb2
  replace HV := keep HV hb2
  replace HV' := keep HV' hb2
  clear hb2
  go_wp2_with fail
  refine (error_errno (code xs) (code xs) w2 HL.out).mono ?_
  rintro e w3 ⟨rfl, hb2⟩
  replace HB := chain HB hb2
  replace HL := keepL HL hb2
  replace HV := keep HV hb2
  replace HV' := keep HV' hb2
  clear hb2
  rw [hs]
  go_wp2_with fail
  refine (step_bad a len cap xs who w3 HV.out h.out).mono ?_
  rintro e w4 ⟨rfl, hb2⟩
  replace HB := chain HB hb2
  replace HL := keepL HL hb2
  replace HV := keep HV hb2
  replace HV' := keep HV' hb2
  clear hb2
  go_wp2_with fail
  refine (error_errno (code xs) (code xs) w4 HL.out).mono ?_
  rintro e w5 ⟨rfl, hb2⟩
  replace HB := chain HB hb2
  replace HL := keepL HL hb2
  replace HV := keep HV hb2
  replace HV' := keep HV' hb2
  clear hb2
  rw [hs]
  go_wp2_with fail
  refine (ints_any none none 0 0 0 0 [] [] w5 (nil_vw _) (nil_vw _) (by decide)).mono ?_
  rintro e w6 ⟨rfl, nd, ed⟩
  have hb2 : Below w5.heap.size w5 w6 := by subst ed; exact drewB _ nd
  clear ed
  replace HB := chain HB hb2
  replace HL := keepL HL hb2
  replace HV := keep HV hb2
  replace HV' := keep HV' hb2
  clear hb2
  rw [nilnil]
  go_wp2_with fail
  refine wp_loop_rounds 1 ?_
  rw [rounds_succ]
  by_cases hl : 0 < len
  all_goals
    go_wp2_with fail
    refine (join_no a b len cap len' cap' xs ys w6 HV.out HV'.out (by rw [H2.out]; exact h.out)).mono ?_
    rintro e w7 ⟨rfl, hb2⟩
    replace HB := chain HB hb2
    replace HL := keepL HL hb2
    replace HV := keep HV hb2
    replace HV' := keep HV' hb2
    clear hb2
    rw [H2.out]
    go_wp2_with fail
    refine (error_errno (code xs) (code xs) w7 HL.out).mono ?_
    rintro e w8 ⟨rfl, hb2⟩
    replace HB := chain HB hb2
    replace HL := keepL HL hb2
    replace HV := keep HV hb2
    replace HV' := keep HV' hb2
    clear hb2
    rw [hs]
    go_wp2_with fail
    refine (ints_any none none 0 0 0 0 [] [] w8 (nil_vw _) (nil_vw _) (by decide)).mono ?_
    rintro e w9 ⟨rfl, nd, ed⟩
    have hb2 : Below w8.heap.size w8 w9 := by subst ed; exact drewB _ nd
    clear ed
    replace HB := chain HB hb2
    replace HL := keepL HL hb2
    replace HV := keep HV hb2
    replace HV' := keep HV' hb2
    clear hb2
    rw [nilnil]
    go_wp2_with fail
    refine (leq_no a b len cap len' cap' xs ys w9 HV.out HV'.out (by rw [H2.out]; exact h.out)).mono ?_
    rintro e w10 ⟨rfl, hb2⟩
    replace HB := chain HB hb2
    replace HL := keepL HL hb2
    replace HV := keep HV hb2
    replace HV' := keep HV' hb2
    clear hb2
    rw [H2.out]
    go_wp2_with fail
    refine (error_errno (code xs) (code xs) w10 HL.out).mono ?_
    rintro e w11 ⟨rfl, hb2⟩
    replace HB := chain HB hb2
    replace HL := keepL HL hb2
    replace HV := keep HV hb2
    replace HV' := keep HV' hb2
    clear hb2
    rw [hs]
    go_wp2_with fail
    refine (apart_no a b len cap len' cap' xs ys w11 HV.out HV'.out (by rw [H2.out]; exact h.out)).mono ?_
    rintro e w12 ⟨rfl, hb2⟩
    replace HB := chain HB hb2
    replace HL := keepL HL hb2
    replace HV := keep HV hb2
    replace HV' := keep HV' hb2
    clear hb2
    rw [H2.out]
    go_wp2_with fail
    refine (error_errno (code xs) (code xs) w12 HL.out).mono ?_
    rintro e w13 ⟨rfl, hb2⟩
    replace HB := chain HB hb2
    replace HL := keepL HL hb2
    replace HV := keep HV hb2
    replace HV' := keep HV' hb2
    clear hb2
    rw [hs]
    go_wp2
    go_ret
    exact ⟨rfl, HB.out⟩

end Go.Proofs.YtcmfhlegpgmakaaDoor.Tells
