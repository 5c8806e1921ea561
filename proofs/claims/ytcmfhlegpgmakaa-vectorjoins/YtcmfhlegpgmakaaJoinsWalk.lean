/-
  The walk of VectorJoins: for whatever three lists and whatever number it returns true, and nothing that was there is written.
-/
import Derived.Test.YtcmfhlegpgmakaaVecM
namespace Go.Proofs.Ytcmfhlegpgmakaa.JoinsWalk
open Go.RowKit Go.Proofs.Ytcmfhlegpgmakaa.Vec

theorem codes {xs ys : List Int} (h : code2 xs ys = 0) : code xs = 0 ∧ code ys = 0 := by
  unfold code2 at h
  split at h
  · exact ⟨by assumption, h⟩
  · contradiction

theorem lit1 : code [1, 2, 0, 0, 0] = 0 := by decide
theorem lit2 : code [3, 0, 0, 0, 1] = 0 := by decide
theorem lit3 : joinL [1, 2, 0, 0, 0] [3, 0, 0, 0, 1] = [3, 2, 0, 0, 1] := by decide

theorem chain {w w1 w2 : World} (h : Hid (Below w.heap.size w w1)) (h' : Below w1.heap.size w1 w2) : Hid (Below w.heap.size w w2) := h.out.trans (h'.mono h.out.size)
theorem keep {w w2 : World} {a : Option Addr} {len : Nat} {xs : List Int} (h : Hid (Vw w a len xs)) (h' : Below w.heap.size w w2) : Hid (Vw w2 a len xs) := h.out.later h'

set_option maxRecDepth 100000 in
set_option maxHeartbeats 2000000 in
theorem walk_no (a b c : Option Addr) (len cap len' cap' len3 cap3 : Nat) (xs ys zs : List Int) (who : Int) (w : World) (HV : Hid (Vw w a len xs)) (HV' : Hid (Vw w b len' ys)) (HZ : Hid (Vw w c len3 zs)) (h : Hid (code2 xs ys ≠ 0)) :
    Calls Try.prog 4 #[.slice a len cap, .slice b len' cap', .slice c len3 cap3, .int .i64 who] w fun e w' => e = .returned (.bool true) ∧ Below w.heap.size w w' := by
  go_enter Try.func4, Try.ntmps4
  go_wp2_with fail
  refine (join_ok _ _ 5 5 5 5 [1, 2, 0, 0, 0] [3, 0, 0, 0, 1] _ ?_ ?_ lit1 lit2).mono ?_
  · exact (Vw.lit w 1 2 0 0 0 3).alloc _
  · exact Vw.litAt _ _ (by simp) 3 0 0 0 1 3
  rintro e w1 ⟨g, rfl, hg, hb1⟩
  rw [lit3] at hg
  obtain ⟨g', o', eg, _, hc⟩ := hg.2 (by omega)
  injection eg with eg
  injection eg with eg eo _
  subst eg eo
  have hc0 : w1.cell? ⟨g, 0, none⟩ = some (.int .i64 3) := hc 0 (by omega)
  have hc1 : w1.cell? ⟨g, 1, none⟩ = some (.int .i64 2) := hc 1 (by omega)
  have hc4 : w1.cell? ⟨g, 4, none⟩ = some (.int .i64 1) := hc 4 (by omega)
  have HB : Hid (Below w.heap.size w w1) := (((Below.refl _ _).alloc (Nat.le_refl _) _).alloc (by simp) _).trans (hb1.mono (by simp; omega))
  replace HV := keep HV HB.out
  replace HV' := keep HV' HB.out
  replace HZ := keep HZ HB.out
  clear hb1 hg hc
  go_wp2_with fail
  clear hc0 hc1 hc4
  refine (join_no a b len cap len' cap' xs ys w1 HV.out HV'.out h.out).mono ?_
  rintro e w2 ⟨rfl, hb2⟩
  replace HB := chain HB hb2
  clear hb2
  go_wp2
  go_ret
  exact ⟨rfl, HB.out⟩

set_option maxRecDepth 100000 in
set_option maxHeartbeats 2000000 in
theorem walk_who_c (a b c : Option Addr) (len cap len' cap' len3 cap3 : Nat) (xs ys zs : List Int) (who : Int) (w : World) (HV : Hid (Vw w a len xs)) (HV' : Hid (Vw w b len' ys)) (HZ : Hid (Vw w c len3 zs)) (h : Hid (code xs = 0)) (h' : Hid (code ys = 0)) (hs : Hid (who < 0 ∨ 4 < who)) (hz : Hid (code zs = 0)) :
    Calls Try.prog 4 #[.slice a len cap, .slice b len' cap', .slice c len3 cap3, .int .i64 who] w fun e w' => e = .returned (.bool true) ∧ Below w.heap.size w w' := by
  go_enter Try.func4, Try.ntmps4
  go_wp2_with fail
  refine (join_ok _ _ 5 5 5 5 [1, 2, 0, 0, 0] [3, 0, 0, 0, 1] _ ?_ ?_ lit1 lit2).mono ?_
  · exact (Vw.lit w 1 2 0 0 0 3).alloc _
  · exact Vw.litAt _ _ (by simp) 3 0 0 0 1 3
  rintro e w1 ⟨g, rfl, hg, hb1⟩
  rw [lit3] at hg
  obtain ⟨g', o', eg, _, hc⟩ := hg.2 (by omega)
  injection eg with eg
  injection eg with eg eo _
  subst eg eo
  have hc0 : w1.cell? ⟨g, 0, none⟩ = some (.int .i64 3) := hc 0 (by omega)
  have hc1 : w1.cell? ⟨g, 1, none⟩ = some (.int .i64 2) := hc 1 (by omega)
  have hc4 : w1.cell? ⟨g, 4, none⟩ = some (.int .i64 1) := hc 4 (by omega)
  have HB : Hid (Below w.heap.size w w1) := (((Below.refl _ _).alloc (Nat.le_refl _) _).alloc (by simp) _).trans (hb1.mono (by simp; omega))
  replace HV := keep HV HB.out
  replace HV' := keep HV' HB.out
  replace HZ := keep HZ HB.out
  clear hb1 hg hc
  go_wp2_with fail
  clear hc0 hc1 hc4
  refine (join_ok a b len cap len' cap' xs ys w1 HV.out HV'.out h.out h'.out).mono ?_
  rintro e w2 ⟨j, rfl, Jv, hb2⟩
  replace HB := chain HB hb2
  replace HV := keep HV hb2
  replace HV' := keep HV' hb2
  replace HZ := keep HZ hb2
  have J : Hid _ := Jv
  clear hb2 Jv
  have hj : Hid (code (joinL xs ys) = 0) := join_code h.out h'.out
  go_wp2_with fail
  refine (join_ok b a len' cap' len cap ys xs w2 HV'.out HV.out h'.out h.out).mono ?_
  rintro e w3 ⟨k, rfl, Kv, hb2⟩
  replace HB := chain HB hb2
  replace HV := keep HV hb2
  replace HV' := keep HV' hb2
  replace HZ := keep HZ hb2
  replace J := keep J hb2
  have K : Hid _ := Kv
  clear hb2 Kv
  go_wp2_with fail
  refine (leq_ok a (some ⟨j, 0, none⟩) len cap 5 5 xs (joinL xs ys) w3 HV.out J.out h.out hj.out).mono ?_
  rintro e w4 ⟨rfl, hb2⟩
  replace HB := chain HB hb2
  replace HV := keep HV hb2
  replace HV' := keep HV' hb2
  replace HZ := keep HZ hb2
  replace J := keep J hb2
  replace K := keep K hb2
  clear hb2
  rw [join_left]
  go_wp2_with fail
  refine (leq_ok b (some ⟨j, 0, none⟩) len' cap' 5 5 ys (joinL xs ys) w4 HV'.out J.out h'.out hj.out).mono ?_
  rintro e w5 ⟨rfl, hb2⟩
  replace HB := chain HB hb2
  replace HV := keep HV hb2
  replace HV' := keep HV' hb2
  replace HZ := keep HZ hb2
  replace J := keep J hb2
  replace K := keep K hb2
  clear hb2
  rw [join_right]
  go_wp2_with fail
  refine (ints_any (some ⟨j, 0, none⟩) (some ⟨k, 0, none⟩) 5 5 5 5 (joinL xs ys) (joinL ys xs) w5 J.out K.out (by decide)).mono ?_
  rintro e w6 ⟨rfl, nd, ed⟩
  have hb2 : Below w5.heap.size w5 w6 := by subst ed; exact below_drewN (Below.refl _ _) nd
  clear ed
  replace HB := chain HB hb2
  replace HV := keep HV hb2
  replace HV' := keep HV' hb2
  replace HZ := keep HZ hb2
  replace J := keep J hb2
  clear hb2 K
  rw [decide_eq_true (join_comm xs ys)]
  go_wp2_with fail
  refine (step_who a len cap xs who w6 HV.out h.out hs.out).mono ?_
  rintro e w7 ⟨rfl, hb2⟩
  replace HB := chain HB hb2
  replace HV := keep HV hb2
  replace HV' := keep HV' hb2
  replace HZ := keep HZ hb2
  replace J := keep J hb2
  clear hb2
  go_wp2_with fail
  refine (leq_ok a c len cap len3 cap3 xs zs w7 HV.out HZ.out h.out hz.out).mono ?_
  rintro e w8 ⟨rfl, hb2⟩
  replace HB := chain HB hb2
  replace HV := keep HV hb2
  replace HV' := keep HV' hb2
  replace HZ := keep HZ hb2
  replace J := keep J hb2
  clear hb2
  go_wp2_with fail
  refine (leq_ok b c len' cap' len3 cap3 ys zs w8 HV'.out HZ.out h'.out hz.out).mono ?_
  rintro e w9 ⟨rfl, hb2⟩
  replace HB := chain HB hb2
  replace HZ := keep HZ hb2
  replace J := keep J hb2
  clear hb2
  go_wp2_with fail
  refine (leq_ok (some ⟨j, 0, none⟩) c 5 5 len3 cap3 (joinL xs ys) zs w9 J.out HZ.out hj.out hz.out).mono ?_
  rintro e w10 ⟨rfl, hb2⟩
  replace HB := chain HB hb2
  clear hb2
  rw [join_least]
  cases gt xs zs <;> cases gt ys zs
  all_goals
    go_wp2
    go_ret
    exact ⟨rfl, HB.out⟩

set_option maxRecDepth 100000 in
set_option maxHeartbeats 2000000 in
theorem walk_who_n (a b c : Option Addr) (len cap len' cap' len3 cap3 : Nat) (xs ys zs : List Int) (who : Int) (w : World) (HV : Hid (Vw w a len xs)) (HV' : Hid (Vw w b len' ys)) (HZ : Hid (Vw w c len3 zs)) (h : Hid (code xs = 0)) (h' : Hid (code ys = 0)) (hs : Hid (who < 0 ∨ 4 < who)) (hz : Hid (code zs ≠ 0)) :
    Calls Try.prog 4 #[.slice a len cap, .slice b len' cap', .slice c len3 cap3, .int .i64 who] w fun e w' => e = .returned (.bool true) ∧ Below w.heap.size w w' := by
  go_enter Try.func4, Try.ntmps4
  go_wp2_with fail
  refine (join_ok _ _ 5 5 5 5 [1, 2, 0, 0, 0] [3, 0, 0, 0, 1] _ ?_ ?_ lit1 lit2).mono ?_
  · exact (Vw.lit w 1 2 0 0 0 3).alloc _
  · exact Vw.litAt _ _ (by simp) 3 0 0 0 1 3
  rintro e w1 ⟨g, rfl, hg, hb1⟩
  rw [lit3] at hg
  obtain ⟨g', o', eg, _, hc⟩ := hg.2 (by omega)
  injection eg with eg
  injection eg with eg eo _
  subst eg eo
  have hc0 : w1.cell? ⟨g, 0, none⟩ = some (.int .i64 3) := hc 0 (by omega)
  have hc1 : w1.cell? ⟨g, 1, none⟩ = some (.int .i64 2) := hc 1 (by omega)
  have hc4 : w1.cell? ⟨g, 4, none⟩ = some (.int .i64 1) := hc 4 (by omega)
  have HB : Hid (Below w.heap.size w w1) := (((Below.refl _ _).alloc (Nat.le_refl _) _).alloc (by simp) _).trans (hb1.mono (by simp; omega))
  replace HV := keep HV HB.out
  replace HV' := keep HV' HB.out
  replace HZ := keep HZ HB.out
  clear hb1 hg hc
  go_wp2_with fail
  clear hc0 hc1 hc4
  refine (join_ok a b len cap len' cap' xs ys w1 HV.out HV'.out h.out h'.out).mono ?_
  rintro e w2 ⟨j, rfl, Jv, hb2⟩
  replace HB := chain HB hb2
  replace HV := keep HV hb2
  replace HV' := keep HV' hb2
  replace HZ := keep HZ hb2
  have J : Hid _ := Jv
  clear hb2 Jv
  have hj : Hid (code (joinL xs ys) = 0) := join_code h.out h'.out
  go_wp2_with fail
  refine (join_ok b a len' cap' len cap ys xs w2 HV'.out HV.out h'.out h.out).mono ?_
  rintro e w3 ⟨k, rfl, Kv, hb2⟩
  replace HB := chain HB hb2
  replace HV := keep HV hb2
  replace HV' := keep HV' hb2
  replace HZ := keep HZ hb2
  replace J := keep J hb2
  have K : Hid _ := Kv
  clear hb2 Kv
  go_wp2_with fail
  refine (leq_ok a (some ⟨j, 0, none⟩) len cap 5 5 xs (joinL xs ys) w3 HV.out J.out h.out hj.out).mono ?_
  rintro e w4 ⟨rfl, hb2⟩
  replace HB := chain HB hb2
  replace HV := keep HV hb2
  replace HV' := keep HV' hb2
  replace HZ := keep HZ hb2
  replace J := keep J hb2
  replace K := keep K hb2
  clear hb2
  rw [join_left]
  go_wp2_with fail
  refine (leq_ok b (some ⟨j, 0, none⟩) len' cap' 5 5 ys (joinL xs ys) w4 HV'.out J.out h'.out hj.out).mono ?_
  rintro e w5 ⟨rfl, hb2⟩
  replace HB := chain HB hb2
  replace HV := keep HV hb2
  replace HV' := keep HV' hb2
  replace HZ := keep HZ hb2
  replace J := keep J hb2
  replace K := keep K hb2
  clear hb2
  rw [join_right]
  go_wp2_with fail
  refine (ints_any (some ⟨j, 0, none⟩) (some ⟨k, 0, none⟩) 5 5 5 5 (joinL xs ys) (joinL ys xs) w5 J.out K.out (by decide)).mono ?_
  rintro e w6 ⟨rfl, nd, ed⟩
  have hb2 : Below w5.heap.size w5 w6 := by subst ed; exact below_drewN (Below.refl _ _) nd
  clear ed
  replace HB := chain HB hb2
  replace HV := keep HV hb2
  replace HV' := keep HV' hb2
  replace HZ := keep HZ hb2
  replace J := keep J hb2
  clear hb2 K
  rw [decide_eq_true (join_comm xs ys)]
  go_wp2_with fail
  refine (step_who a len cap xs who w6 HV.out h.out hs.out).mono ?_
  rintro e w7 ⟨rfl, hb2⟩
  replace HB := chain HB hb2
  replace HV := keep HV hb2
  replace HV' := keep HV' hb2
  replace HZ := keep HZ hb2
  replace J := keep J hb2
  clear hb2
  go_wp2_with fail
  refine (leq_no a c len cap len3 cap3 xs zs w7 HV.out HZ.out (by rw [code2_right h.out]; exact hz.out)).mono ?_
  rintro e w8 ⟨rfl, hb2⟩
  replace HB := chain HB hb2
  replace HV := keep HV hb2
  replace HV' := keep HV' hb2
  replace HZ := keep HZ hb2
  replace J := keep J hb2
  clear hb2
  go_wp2_with fail
  refine (leq_no b c len' cap' len3 cap3 ys zs w8 HV'.out HZ.out (by rw [code2_right h'.out]; exact hz.out)).mono ?_
  rintro e w9 ⟨rfl, hb2⟩
  replace HB := chain HB hb2
  replace HZ := keep HZ hb2
  replace J := keep J hb2
  clear hb2
  go_wp2_with fail
  refine (leq_no (some ⟨j, 0, none⟩) c 5 5 len3 cap3 (joinL xs ys) zs w9 J.out HZ.out (by rw [code2_right hj.out]; exact hz.out)).mono ?_
  rintro e w10 ⟨rfl, hb2⟩
  replace HB := chain HB hb2
  clear hb2
  go_wp2
  go_ret
  exact ⟨rfl, HB.out⟩

set_option maxRecDepth 100000 in
set_option maxHeartbeats 2000000 in
theorem walk_full_c (a b c : Option Addr) (len cap len' cap' len3 cap3 : Nat) (xs ys zs : List Int) (who : Int) (w : World) (HV : Hid (Vw w a len xs)) (HV' : Hid (Vw w b len' ys)) (HZ : Hid (Vw w c len3 zs)) (h : Hid (code xs = 0)) (h' : Hid (code ys = 0)) (n : Nat) (en : who = n) (hn : n < 5) (hx : Hid (xs.getD n 0 = 1000000)) (hz : Hid (code zs = 0)) :
    Calls Try.prog 4 #[.slice a len cap, .slice b len' cap', .slice c len3 cap3, .int .i64 who] w fun e w' => e = .returned (.bool true) ∧ Below w.heap.size w w' := by
  subst en
  go_enter Try.func4, Try.ntmps4
  go_wp2_with fail
  refine (join_ok _ _ 5 5 5 5 [1, 2, 0, 0, 0] [3, 0, 0, 0, 1] _ ?_ ?_ lit1 lit2).mono ?_
  · exact (Vw.lit w 1 2 0 0 0 3).alloc _
  · exact Vw.litAt _ _ (by simp) 3 0 0 0 1 3
  rintro e w1 ⟨g, rfl, hg, hb1⟩
  rw [lit3] at hg
  obtain ⟨g', o', eg, _, hc⟩ := hg.2 (by omega)
  injection eg with eg
  injection eg with eg eo _
  subst eg eo
  have hc0 : w1.cell? ⟨g, 0, none⟩ = some (.int .i64 3) := hc 0 (by omega)
  have hc1 : w1.cell? ⟨g, 1, none⟩ = some (.int .i64 2) := hc 1 (by omega)
  have hc4 : w1.cell? ⟨g, 4, none⟩ = some (.int .i64 1) := hc 4 (by omega)
  have HB : Hid (Below w.heap.size w w1) := (((Below.refl _ _).alloc (Nat.le_refl _) _).alloc (by simp) _).trans (hb1.mono (by simp; omega))
  replace HV := keep HV HB.out
  replace HV' := keep HV' HB.out
  replace HZ := keep HZ HB.out
  clear hb1 hg hc
  go_wp2_with fail
  clear hc0 hc1 hc4
  refine (join_ok a b len cap len' cap' xs ys w1 HV.out HV'.out h.out h'.out).mono ?_
  rintro e w2 ⟨j, rfl, Jv, hb2⟩
  replace HB := chain HB hb2
  replace HV := keep HV hb2
  replace HV' := keep HV' hb2
  replace HZ := keep HZ hb2
  have J : Hid _ := Jv
  clear hb2 Jv
  have hj : Hid (code (joinL xs ys) = 0) := join_code h.out h'.out
  go_wp2_with fail
  refine (join_ok b a len' cap' len cap ys xs w2 HV'.out HV.out h'.out h.out).mono ?_
  rintro e w3 ⟨k, rfl, Kv, hb2⟩
  replace HB := chain HB hb2
  replace HV := keep HV hb2
  replace HV' := keep HV' hb2
  replace HZ := keep HZ hb2
  replace J := keep J hb2
  have K : Hid _ := Kv
  clear hb2 Kv
  go_wp2_with fail
  refine (leq_ok a (some ⟨j, 0, none⟩) len cap 5 5 xs (joinL xs ys) w3 HV.out J.out h.out hj.out).mono ?_
  rintro e w4 ⟨rfl, hb2⟩
  replace HB := chain HB hb2
  replace HV := keep HV hb2
  replace HV' := keep HV' hb2
  replace HZ := keep HZ hb2
  replace J := keep J hb2
  replace K := keep K hb2
  clear hb2
  rw [join_left]
  go_wp2_with fail
  refine (leq_ok b (some ⟨j, 0, none⟩) len' cap' 5 5 ys (joinL xs ys) w4 HV'.out J.out h'.out hj.out).mono ?_
  rintro e w5 ⟨rfl, hb2⟩
  replace HB := chain HB hb2
  replace HV := keep HV hb2
  replace HV' := keep HV' hb2
  replace HZ := keep HZ hb2
  replace J := keep J hb2
  replace K := keep K hb2
  clear hb2
  rw [join_right]
  go_wp2_with fail
  refine (ints_any (some ⟨j, 0, none⟩) (some ⟨k, 0, none⟩) 5 5 5 5 (joinL xs ys) (joinL ys xs) w5 J.out K.out (by decide)).mono ?_
  rintro e w6 ⟨rfl, nd, ed⟩
  have hb2 : Below w5.heap.size w5 w6 := by subst ed; exact below_drewN (Below.refl _ _) nd
  clear ed
  replace HB := chain HB hb2
  replace HV := keep HV hb2
  replace HV' := keep HV' hb2
  replace HZ := keep HZ hb2
  replace J := keep J hb2
  clear hb2 K
  rw [decide_eq_true (join_comm xs ys)]
  go_wp2_with fail
  refine (step_full a len cap xs n w6 HV.out h.out hn hx.out).mono ?_
  rintro e w7 ⟨rfl, hb2⟩
  replace HB := chain HB hb2
  replace HV := keep HV hb2
  replace HV' := keep HV' hb2
  replace HZ := keep HZ hb2
  replace J := keep J hb2
  clear hb2
  go_wp2_with fail
  refine (leq_ok a c len cap len3 cap3 xs zs w7 HV.out HZ.out h.out hz.out).mono ?_
  rintro e w8 ⟨rfl, hb2⟩
  replace HB := chain HB hb2
  replace HV := keep HV hb2
  replace HV' := keep HV' hb2
  replace HZ := keep HZ hb2
  replace J := keep J hb2
  clear hb2
  go_wp2_with fail
  refine (leq_ok b c len' cap' len3 cap3 ys zs w8 HV'.out HZ.out h'.out hz.out).mono ?_
  rintro e w9 ⟨rfl, hb2⟩
  replace HB := chain HB hb2
  replace HZ := keep HZ hb2
  replace J := keep J hb2
  clear hb2
  go_wp2_with fail
  refine (leq_ok (some ⟨j, 0, none⟩) c 5 5 len3 cap3 (joinL xs ys) zs w9 J.out HZ.out hj.out hz.out).mono ?_
  rintro e w10 ⟨rfl, hb2⟩
  replace HB := chain HB hb2
  clear hb2
  rw [join_least]
  cases gt xs zs <;> cases gt ys zs
  all_goals
    go_wp2
    go_ret
    exact ⟨rfl, HB.out⟩

set_option maxRecDepth 100000 in
set_option maxHeartbeats 2000000 in
theorem walk_full_n (a b c : Option Addr) (len cap len' cap' len3 cap3 : Nat) (xs ys zs : List Int) (who : Int) (w : World) (HV : Hid (Vw w a len xs)) (HV' : Hid (Vw w b len' ys)) (HZ : Hid (Vw w c len3 zs)) (h : Hid (code xs = 0)) (h' : Hid (code ys = 0)) (n : Nat) (en : who = n) (hn : n < 5) (hx : Hid (xs.getD n 0 = 1000000)) (hz : Hid (code zs ≠ 0)) :
    Calls Try.prog 4 #[.slice a len cap, .slice b len' cap', .slice c len3 cap3, .int .i64 who] w fun e w' => e = .returned (.bool true) ∧ Below w.heap.size w w' := by
  subst en
  go_enter Try.func4, Try.ntmps4
  go_wp2_with fail
  refine (join_ok _ _ 5 5 5 5 [1, 2, 0, 0, 0] [3, 0, 0, 0, 1] _ ?_ ?_ lit1 lit2).mono ?_
  · exact (Vw.lit w 1 2 0 0 0 3).alloc _
  · exact Vw.litAt _ _ (by simp) 3 0 0 0 1 3
  rintro e w1 ⟨g, rfl, hg, hb1⟩
  rw [lit3] at hg
  obtain ⟨g', o', eg, _, hc⟩ := hg.2 (by omega)
  injection eg with eg
  injection eg with eg eo _
  subst eg eo
  have hc0 : w1.cell? ⟨g, 0, none⟩ = some (.int .i64 3) := hc 0 (by omega)
  have hc1 : w1.cell? ⟨g, 1, none⟩ = some (.int .i64 2) := hc 1 (by omega)
  have hc4 : w1.cell? ⟨g, 4, none⟩ = some (.int .i64 1) := hc 4 (by omega)
  have HB : Hid (Below w.heap.size w w1) := (((Below.refl _ _).alloc (Nat.le_refl _) _).alloc (by simp) _).trans (hb1.mono (by simp; omega))
  replace HV := keep HV HB.out
  replace HV' := keep HV' HB.out
  replace HZ := keep HZ HB.out
  clear hb1 hg hc
  go_wp2_with fail
  clear hc0 hc1 hc4
  refine (join_ok a b len cap len' cap' xs ys w1 HV.out HV'.out h.out h'.out).mono ?_
  rintro e w2 ⟨j, rfl, Jv, hb2⟩
  replace HB := chain HB hb2
  replace HV := keep HV hb2
  replace HV' := keep HV' hb2
  replace HZ := keep HZ hb2
  have J : Hid _ := Jv
  clear hb2 Jv
  have hj : Hid (code (joinL xs ys) = 0) := join_code h.out h'.out
  go_wp2_with fail
  refine (join_ok b a len' cap' len cap ys xs w2 HV'.out HV.out h'.out h.out).mono ?_
  rintro e w3 ⟨k, rfl, Kv, hb2⟩
  replace HB := chain HB hb2
  replace HV := keep HV hb2
  replace HV' := keep HV' hb2
  replace HZ := keep HZ hb2
  replace J := keep J hb2
  have K : Hid _ := Kv
  clear hb2 Kv
  go_wp2_with fail
  refine (leq_ok a (some ⟨j, 0, none⟩) len cap 5 5 xs (joinL xs ys) w3 HV.out J.out h.out hj.out).mono ?_
  rintro e w4 ⟨rfl, hb2⟩
  replace HB := chain HB hb2
  replace HV := keep HV hb2
  replace HV' := keep HV' hb2
  replace HZ := keep HZ hb2
  replace J := keep J hb2
  replace K := keep K hb2
  clear hb2
  rw [join_left]
  go_wp2_with fail
  refine (leq_ok b (some ⟨j, 0, none⟩) len' cap' 5 5 ys (joinL xs ys) w4 HV'.out J.out h'.out hj.out).mono ?_
  rintro e w5 ⟨rfl, hb2⟩
  replace HB := chain HB hb2
  replace HV := keep HV hb2
  replace HV' := keep HV' hb2
  replace HZ := keep HZ hb2
  replace J := keep J hb2
  replace K := keep K hb2
  clear hb2
  rw [join_right]
  go_wp2_with fail
  refine (ints_any (some ⟨j, 0, none⟩) (some ⟨k, 0, none⟩) 5 5 5 5 (joinL xs ys) (joinL ys xs) w5 J.out K.out (by decide)).mono ?_
  rintro e w6 ⟨rfl, nd, ed⟩
  have hb2 : Below w5.heap.size w5 w6 := by subst ed; exact below_drewN (Below.refl _ _) nd
  clear ed
  replace HB := chain HB hb2
  replace HV := keep HV hb2
  replace HV' := keep HV' hb2
  replace HZ := keep HZ hb2
  replace J := keep J hb2
  clear hb2 K
  rw [decide_eq_true (join_comm xs ys)]
  go_wp2_with fail
  refine (step_full a len cap xs n w6 HV.out h.out hn hx.out).mono ?_
  rintro e w7 ⟨rfl, hb2⟩
  replace HB := chain HB hb2
  replace HV := keep HV hb2
  replace HV' := keep HV' hb2
  replace HZ := keep HZ hb2
  replace J := keep J hb2
  clear hb2
  go_wp2_with fail
  refine (leq_no a c len cap len3 cap3 xs zs w7 HV.out HZ.out (by rw [code2_right h.out]; exact hz.out)).mono ?_
  rintro e w8 ⟨rfl, hb2⟩
  replace HB := chain HB hb2
  replace HV := keep HV hb2
  replace HV' := keep HV' hb2
  replace HZ := keep HZ hb2
  replace J := keep J hb2
  clear hb2
  go_wp2_with fail
  refine (leq_no b c len' cap' len3 cap3 ys zs w8 HV'.out HZ.out (by rw [code2_right h'.out]; exact hz.out)).mono ?_
  rintro e w9 ⟨rfl, hb2⟩
  replace HB := chain HB hb2
  replace HZ := keep HZ hb2
  replace J := keep J hb2
  clear hb2
  go_wp2_with fail
  refine (leq_no (some ⟨j, 0, none⟩) c 5 5 len3 cap3 (joinL xs ys) zs w9 J.out HZ.out (by rw [code2_right hj.out]; exact hz.out)).mono ?_
  rintro e w10 ⟨rfl, hb2⟩
  replace HB := chain HB hb2
  clear hb2
  go_wp2
  go_ret
  exact ⟨rfl, HB.out⟩

set_option maxRecDepth 100000 in
set_option maxHeartbeats 2000000 in
theorem walk_ok_c (a b c : Option Addr) (len cap len' cap' len3 cap3 : Nat) (xs ys zs : List Int) (who : Int) (w : World) (HV : Hid (Vw w a len xs)) (HV' : Hid (Vw w b len' ys)) (HZ : Hid (Vw w c len3 zs)) (h : Hid (code xs = 0)) (h' : Hid (code ys = 0)) (n : Nat) (en : who = n) (hn : n < 5) (hx : Hid (xs.getD n 0 ≠ 1000000)) (hz : Hid (code zs = 0)) :
    Calls Try.prog 4 #[.slice a len cap, .slice b len' cap', .slice c len3 cap3, .int .i64 who] w fun e w' => e = .returned (.bool true) ∧ Below w.heap.size w w' := by
  subst en
  go_enter Try.func4, Try.ntmps4
  go_wp2_with fail
  refine (join_ok _ _ 5 5 5 5 [1, 2, 0, 0, 0] [3, 0, 0, 0, 1] _ ?_ ?_ lit1 lit2).mono ?_
  · exact (Vw.lit w 1 2 0 0 0 3).alloc _
  · exact Vw.litAt _ _ (by simp) 3 0 0 0 1 3
  rintro e w1 ⟨g, rfl, hg, hb1⟩
  rw [lit3] at hg
  obtain ⟨g', o', eg, _, hc⟩ := hg.2 (by omega)
  injection eg with eg
  injection eg with eg eo _
  subst eg eo
  have hc0 : w1.cell? ⟨g, 0, none⟩ = some (.int .i64 3) := hc 0 (by omega)
  have hc1 : w1.cell? ⟨g, 1, none⟩ = some (.int .i64 2) := hc 1 (by omega)
  have hc4 : w1.cell? ⟨g, 4, none⟩ = some (.int .i64 1) := hc 4 (by omega)
  have HB : Hid (Below w.heap.size w w1) := (((Below.refl _ _).alloc (Nat.le_refl _) _).alloc (by simp) _).trans (hb1.mono (by simp; omega))
  replace HV := keep HV HB.out
  replace HV' := keep HV' HB.out
  replace HZ := keep HZ HB.out
  clear hb1 hg hc
  go_wp2_with fail
  clear hc0 hc1 hc4
  refine (join_ok a b len cap len' cap' xs ys w1 HV.out HV'.out h.out h'.out).mono ?_
  rintro e w2 ⟨j, rfl, Jv, hb2⟩
  replace HB := chain HB hb2
  replace HV := keep HV hb2
  replace HV' := keep HV' hb2
  replace HZ := keep HZ hb2
  have J : Hid _ := Jv
  clear hb2 Jv
  have hj : Hid (code (joinL xs ys) = 0) := join_code h.out h'.out
  go_wp2_with fail
  refine (join_ok b a len' cap' len cap ys xs w2 HV'.out HV.out h'.out h.out).mono ?_
  rintro e w3 ⟨k, rfl, Kv, hb2⟩
  replace HB := chain HB hb2
  replace HV := keep HV hb2
  replace HV' := keep HV' hb2
  replace HZ := keep HZ hb2
  replace J := keep J hb2
  have K : Hid _ := Kv
  clear hb2 Kv
  go_wp2_with fail
  refine (leq_ok a (some ⟨j, 0, none⟩) len cap 5 5 xs (joinL xs ys) w3 HV.out J.out h.out hj.out).mono ?_
  rintro e w4 ⟨rfl, hb2⟩
  replace HB := chain HB hb2
  replace HV := keep HV hb2
  replace HV' := keep HV' hb2
  replace HZ := keep HZ hb2
  replace J := keep J hb2
  replace K := keep K hb2
  clear hb2
  rw [join_left]
  go_wp2_with fail
  refine (leq_ok b (some ⟨j, 0, none⟩) len' cap' 5 5 ys (joinL xs ys) w4 HV'.out J.out h'.out hj.out).mono ?_
  rintro e w5 ⟨rfl, hb2⟩
  replace HB := chain HB hb2
  replace HV := keep HV hb2
  replace HV' := keep HV' hb2
  replace HZ := keep HZ hb2
  replace J := keep J hb2
  replace K := keep K hb2
  clear hb2
  rw [join_right]
  go_wp2_with fail
  refine (ints_any (some ⟨j, 0, none⟩) (some ⟨k, 0, none⟩) 5 5 5 5 (joinL xs ys) (joinL ys xs) w5 J.out K.out (by decide)).mono ?_
  rintro e w6 ⟨rfl, nd, ed⟩
  have hb2 : Below w5.heap.size w5 w6 := by subst ed; exact below_drewN (Below.refl _ _) nd
  clear ed
  replace HB := chain HB hb2
  replace HV := keep HV hb2
  replace HV' := keep HV' hb2
  replace HZ := keep HZ hb2
  replace J := keep J hb2
  clear hb2 K
  rw [decide_eq_true (join_comm xs ys)]
  go_wp2_with fail
  refine (step_ok a len cap xs n w6 HV.out h.out hn hx.out).mono ?_
  rintro e w7 ⟨s, rfl, Sv, hb2⟩
  replace HB := chain HB hb2
  replace HV := keep HV hb2
  replace HV' := keep HV' hb2
  replace HZ := keep HZ hb2
  replace J := keep J hb2
  have S : Hid _ := Sv
  clear hb2 Sv
  have hst : Hid (code (stepL xs n) = 0) := step_code h.out hn hx.out
  go_wp2_with fail
  refine (leq_ok a (some ⟨s, 0, none⟩) len cap 5 5 xs (stepL xs n) w7 HV.out S.out h.out hst.out).mono ?_
  rintro e w8 ⟨rfl, hb2⟩
  replace HB := chain HB hb2
  replace HV := keep HV hb2
  replace HV' := keep HV' hb2
  replace HZ := keep HZ hb2
  replace J := keep J hb2
  replace S := keep S hb2
  clear hb2
  rw [step_up h.out]
  go_wp2_with fail
  refine (leq_ok (some ⟨s, 0, none⟩) a 5 5 len cap (stepL xs n) xs w8 S.out HV.out hst.out h.out).mono ?_
  rintro e w9 ⟨rfl, hb2⟩
  replace HB := chain HB hb2
  replace HV := keep HV hb2
  replace HV' := keep HV' hb2
  replace HZ := keep HZ hb2
  replace J := keep J hb2
  clear hb2
  clear S
  rw [step_down h.out hn]
  go_wp2_with fail
  refine (leq_ok a c len cap len3 cap3 xs zs w9 HV.out HZ.out h.out hz.out).mono ?_
  rintro e w10 ⟨rfl, hb2⟩
  replace HB := chain HB hb2
  replace HV := keep HV hb2
  replace HV' := keep HV' hb2
  replace HZ := keep HZ hb2
  replace J := keep J hb2
  clear hb2
  go_wp2_with fail
  refine (leq_ok b c len' cap' len3 cap3 ys zs w10 HV'.out HZ.out h'.out hz.out).mono ?_
  rintro e w11 ⟨rfl, hb2⟩
  replace HB := chain HB hb2
  replace HZ := keep HZ hb2
  replace J := keep J hb2
  clear hb2
  go_wp2_with fail
  refine (leq_ok (some ⟨j, 0, none⟩) c 5 5 len3 cap3 (joinL xs ys) zs w11 J.out HZ.out hj.out hz.out).mono ?_
  rintro e w12 ⟨rfl, hb2⟩
  replace HB := chain HB hb2
  clear hb2
  rw [join_least]
  cases gt xs zs <;> cases gt ys zs
  all_goals
    go_wp2
    go_ret
    exact ⟨rfl, HB.out⟩

set_option maxRecDepth 100000 in
set_option maxHeartbeats 2000000 in
theorem walk_ok_n (a b c : Option Addr) (len cap len' cap' len3 cap3 : Nat) (xs ys zs : List Int) (who : Int) (w : World) (HV : Hid (Vw w a len xs)) (HV' : Hid (Vw w b len' ys)) (HZ : Hid (Vw w c len3 zs)) (h : Hid (code xs = 0)) (h' : Hid (code ys = 0)) (n : Nat) (en : who = n) (hn : n < 5) (hx : Hid (xs.getD n 0 ≠ 1000000)) (hz : Hid (code zs ≠ 0)) :
    Calls Try.prog 4 #[.slice a len cap, .slice b len' cap', .slice c len3 cap3, .int .i64 who] w fun e w' => e = .returned (.bool true) ∧ Below w.heap.size w w' := by
  subst en
  go_enter Try.func4, Try.ntmps4
  go_wp2_with fail
  refine (join_ok _ _ 5 5 5 5 [1, 2, 0, 0, 0] [3, 0, 0, 0, 1] _ ?_ ?_ lit1 lit2).mono ?_
  · exact (Vw.lit w 1 2 0 0 0 3).alloc _
  · exact Vw.litAt _ _ (by simp) 3 0 0 0 1 3
  rintro e w1 ⟨g, rfl, hg, hb1⟩
  rw [lit3] at hg
  obtain ⟨g', o', eg, _, hc⟩ := hg.2 (by omega)
  injection eg with eg
  injection eg with eg eo _
  subst eg eo
  have hc0 : w1.cell? ⟨g, 0, none⟩ = some (.int .i64 3) := hc 0 (by omega)
  have hc1 : w1.cell? ⟨g, 1, none⟩ = some (.int .i64 2) := hc 1 (by omega)
  have hc4 : w1.cell? ⟨g, 4, none⟩ = some (.int .i64 1) := hc 4 (by omega)
  have HB : Hid (Below w.heap.size w w1) := (((Below.refl _ _).alloc (Nat.le_refl _) _).alloc (by simp) _).trans (hb1.mono (by simp; omega))
  replace HV := keep HV HB.out
  replace HV' := keep HV' HB.out
  replace HZ := keep HZ HB.out
  clear hb1 hg hc
  go_wp2_with fail
  clear hc0 hc1 hc4
  refine (join_ok a b len cap len' cap' xs ys w1 HV.out HV'.out h.out h'.out).mono ?_
  rintro e w2 ⟨j, rfl, Jv, hb2⟩
  replace HB := chain HB hb2
  replace HV := keep HV hb2
  replace HV' := keep HV' hb2
  replace HZ := keep HZ hb2
  have J : Hid _ := Jv
  clear hb2 Jv
  have hj : Hid (code (joinL xs ys) = 0) := join_code h.out h'.out
  go_wp2_with fail
  refine (join_ok b a len' cap' len cap ys xs w2 HV'.out HV.out h'.out h.out).mono ?_
  rintro e w3 ⟨k, rfl, Kv, hb2⟩
  replace HB := chain HB hb2
  replace HV := keep HV hb2
  replace HV' := keep HV' hb2
  replace HZ := keep HZ hb2
  replace J := keep J hb2
  have K : Hid _ := Kv
  clear hb2 Kv
  go_wp2_with fail
  refine (leq_ok a (some ⟨j, 0, none⟩) len cap 5 5 xs (joinL xs ys) w3 HV.out J.out h.out hj.out).mono ?_
  rintro e w4 ⟨rfl, hb2⟩
  replace HB := chain HB hb2
  replace HV := keep HV hb2
  replace HV' := keep HV' hb2
  replace HZ := keep HZ hb2
  replace J := keep J hb2
  replace K := keep K hb2
  clear hb2
  rw [join_left]
  go_wp2_with fail
  refine (leq_ok b (some ⟨j, 0, none⟩) len' cap' 5 5 ys (joinL xs ys) w4 HV'.out J.out h'.out hj.out).mono ?_
  rintro e w5 ⟨rfl, hb2⟩
  replace HB := chain HB hb2
  replace HV := keep HV hb2
  replace HV' := keep HV' hb2
  replace HZ := keep HZ hb2
  replace J := keep J hb2
  replace K := keep K hb2
  clear hb2
  rw [join_right]
  go_wp2_with fail
  refine (ints_any (some ⟨j, 0, none⟩) (some ⟨k, 0, none⟩) 5 5 5 5 (joinL xs ys) (joinL ys xs) w5 J.out K.out (by decide)).mono ?_
  rintro e w6 ⟨rfl, nd, ed⟩
  have hb2 : Below w5.heap.size w5 w6 := by subst ed; exact below_drewN (Below.refl _ _) nd
  clear ed
  replace HB := chain HB hb2
  replace HV := keep HV hb2
  replace HV' := keep HV' hb2
  replace HZ := keep HZ hb2
  replace J := keep J hb2
  clear hb2 K
  rw [decide_eq_true (join_comm xs ys)]
  go_wp2_with fail
  refine (step_ok a len cap xs n w6 HV.out h.out hn hx.out).mono ?_
  rintro e w7 ⟨s, rfl, Sv, hb2⟩
  replace HB := chain HB hb2
  replace HV := keep HV hb2
  replace HV' := keep HV' hb2
  replace HZ := keep HZ hb2
  replace J := keep J hb2
  have S : Hid _ := Sv
  clear hb2 Sv
  have hst : Hid (code (stepL xs n) = 0) := step_code h.out hn hx.out
  go_wp2_with fail
  refine (leq_ok a (some ⟨s, 0, none⟩) len cap 5 5 xs (stepL xs n) w7 HV.out S.out h.out hst.out).mono ?_
  rintro e w8 ⟨rfl, hb2⟩
  replace HB := chain HB hb2
  replace HV := keep HV hb2
  replace HV' := keep HV' hb2
  replace HZ := keep HZ hb2
  replace J := keep J hb2
  replace S := keep S hb2
  clear hb2
  rw [step_up h.out]
  go_wp2_with fail
  refine (leq_ok (some ⟨s, 0, none⟩) a 5 5 len cap (stepL xs n) xs w8 S.out HV.out hst.out h.out).mono ?_
  rintro e w9 ⟨rfl, hb2⟩
  replace HB := chain HB hb2
  replace HV := keep HV hb2
  replace HV' := keep HV' hb2
  replace HZ := keep HZ hb2
  replace J := keep J hb2
  clear hb2
  clear S
  rw [step_down h.out hn]
  go_wp2_with fail
  refine (leq_no a c len cap len3 cap3 xs zs w9 HV.out HZ.out (by rw [code2_right h.out]; exact hz.out)).mono ?_
  rintro e w10 ⟨rfl, hb2⟩
  replace HB := chain HB hb2
  replace HV := keep HV hb2
  replace HV' := keep HV' hb2
  replace HZ := keep HZ hb2
  replace J := keep J hb2
  clear hb2
  go_wp2_with fail
  refine (leq_no b c len' cap' len3 cap3 ys zs w10 HV'.out HZ.out (by rw [code2_right h'.out]; exact hz.out)).mono ?_
  rintro e w11 ⟨rfl, hb2⟩
  replace HB := chain HB hb2
  replace HZ := keep HZ hb2
  replace J := keep J hb2
  clear hb2
  go_wp2_with fail
  refine (leq_no (some ⟨j, 0, none⟩) c 5 5 len3 cap3 (joinL xs ys) zs w11 J.out HZ.out (by rw [code2_right hj.out]; exact hz.out)).mono ?_
  rintro e w12 ⟨rfl, hb2⟩
  replace HB := chain HB hb2
  clear hb2
  go_wp2
  go_ret
  exact ⟨rfl, HB.out⟩

theorem walk (a0 : Option Addr) (len0 cap0 : Nat) (z0 : List Int) (a1 : Option Addr) (len1 cap1 : Nat) (z1 : List Int) (a2 : Option Addr) (len2 cap2 : Nat) (z2 : List Int) (a3 : Int) (w : World) (w0 : IsRow .i64 w a0 len0 cap0 z0) (w1 : IsRow .i64 w a1 len1 cap1 z1) (w2 : IsRow .i64 w a2 len2 cap2 z2) (_ : (Lit.int .i64 a3).wf = true) :
    Calls Try.prog 4 #[.slice a0 len0 cap0, .slice a1 len1 cap1, .slice a2 len2 cap2, .int .i64 a3] w fun e w' => e = .returned (.bool true) ∧ Below w.heap.size w w' := by
  by_cases hc : code2 (z0.take len0) (z1.take len1) = 0
  · obtain ⟨h, h'⟩ := codes hc
    by_cases hw : a3 < 0 ∨ 4 < a3
    · by_cases hz : code (z2.take len2) = 0
      · exact walk_who_c _ _ _ _ _ _ _ _ _ _ _ _ _ w w0.vw w1.vw w2.vw h h' hw hz
      · exact walk_who_n _ _ _ _ _ _ _ _ _ _ _ _ _ w w0.vw w1.vw w2.vw h h' hw hz
    · obtain ⟨n, rfl⟩ := Int.eq_ofNat_of_zero_le (show 0 ≤ a3 by omega)
      by_cases hx : (z0.take len0).getD n 0 = 1000000
      · by_cases hz : code (z2.take len2) = 0
        · exact walk_full_c _ _ _ _ _ _ _ _ _ _ _ _ _ w w0.vw w1.vw w2.vw h h' n rfl (by omega) hx hz
        · exact walk_full_n _ _ _ _ _ _ _ _ _ _ _ _ _ w w0.vw w1.vw w2.vw h h' n rfl (by omega) hx hz
      · by_cases hz : code (z2.take len2) = 0
        · exact walk_ok_c _ _ _ _ _ _ _ _ _ _ _ _ _ w w0.vw w1.vw w2.vw h h' n rfl (by omega) hx hz
        · exact walk_ok_n _ _ _ _ _ _ _ _ _ _ _ _ _ w w0.vw w1.vw w2.vw h h' n rfl (by omega) hx hz
  · exact walk_no _ _ _ _ _ _ _ _ _ _ _ _ _ w w0.vw w1.vw w2.vw hc

end Go.Proofs.Ytcmfhlegpgmakaa.JoinsWalk
