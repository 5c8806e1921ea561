/-
  Contract of package agree's Settle.
-/
import Derived.Test.YtcccheeeagphpagAgrI
import Derived.Deep.AppendLies
import Derived.Deep.RegionLaw
namespace Go.Proofs.Ytcccheeeagphpag.Agr
open Go.RowKit Go.Maps
open Go.Proofs.Ytcccheeeagphpag.Fif (own_lt own_block own_form own_mono own_vw ret_bool info_int lenOf new_int int_one)
open Go.Proofs.Ytcccheeeagphpag.Vec (Vw)
open Go.Proofs.Ytcccheeeagphpag.MapV (MM putT delT wfI turned_below g_of_turned)
open Go.Proofs.Ytcccheeeagphpag.Sep (KpL NewL)
set_option linter.unusedVariables false
theorem app_zero {Q : Program} {w : World} (base : Nat) (t ty e : TypeId) (i : TypeInfo) (size : Nat) (ht : Q.underlying t = some (.slice e)) (hi : Q.info? e = some i)
    (v : Value) (n : Nat) (xs : List Value) (hown : w.ownsRow base e size v n xs) (q : Option Addr) (c : Nat) : (Builtin.append_ #[t, t] ty #[v, .slice q 0 c]).run Q w = .ok v w := by
  rcases hown.2 with ⟨rfl, rfl⟩ | ⟨g, cap, cur, rfl, _, _, hnc, _⟩
  · cases q <;> simp [Builtin.append_, run_underlying ht, sizeOf, typeInfo, hi, Builtin.lenOf, Builtin.firstCells, loadCells, loadCellsFrom]
  · cases q <;> simp [Builtin.append_, run_underlying ht, sizeOf, typeInfo, hi, Builtin.lenOf, Builtin.firstCells, hnc, storeCells, loadCells, loadCellsFrom]
theorem step_append_zero {Q0 : Program} {w : World} {ops : Array Oper} {o : Oper} {a : Act} {K : Act → World → Prop} {Q : Exit → Act → World → Prop} {E : Prop} (hgd : o.guard = none) (s x : Operand) (t : TypeId)
    (ho : o.op = .call { callee := .builtin .append, args := #[s, x], argTypes := #[t, t] })
    (base : Nat) (e : TypeId) (i : TypeInfo) (size : Nat) (ht : Q0.underlying t = some (.slice e)) (hi : Q0.info? e = some i)
    (v : Value) (n : Nat) (xs : List Value) (hs : a.eval s = v) (hown : w.ownsRow base e size v n xs) (q : Option Addr) (c : Nat) (hx : a.eval x = .slice q 0 c)
    (h : K (a.put o.dst v) w) : if Region.wanted o (yielded ops a.tmps) = true then Oper.wp Q0 o a w K Q else E := by
  have hw : Region.wanted o (yielded ops a.tmps) = true := by simp [Region.wanted, hgd]
  rw [if_pos hw]
  have hrun := app_zero (Q := Q0) (w := w) base t o.type e i size ht hi v n xs hown q c
  unfold Oper.wp
  simp [execOp, ho, resolve, invoke, builtin, hs, hx, hrun, Result.andThen]
  exact h
theorem own_same {w w' : World} {base : Nat} {t : TypeId} {s n : Nat} {v : Value} {xs : List Value} (o : w.ownsRow base t s v n xs) (e : w'.heap = w.heap) : w'.ownsRow base t s v n xs := own_block o fun k hk => by rw [e]
theorem grown_same {w X w5 : World} {r : Option Nat} (hg : X.grownBy w5 r) (e : X.heap = w.heap) (e1 : X.os = w.os) (e2 : X.tape = w.tape) (e3 : X.output = w.output) : w.grownBy w5 r := by
  obtain ⟨a1, a2, a3, a4, a5⟩ := hg
  refine ⟨a1.trans e1, a2.trans e2, a3.trans e3, ?_, fun k hk hne => ?_⟩
  · rw [e] at a4
    exact a4
  · rw [a5 k (by rw [e]; exact hk) hne, e]
theorem grown_refl {w w' : World} {r : Option Nat} (e : w'.heap = w.heap) (e1 : w'.os = w.os) (e2 : w'.tape = w.tape) (e3 : w'.output = w.output) : w.grownBy w' r := ⟨e1, e2, e3, by rw [e]; exact Nat.le_refl _, fun k hk _ => by rw [e]⟩
theorem news_of {w W : World} {base : Nat} {v : Value} {l : List Nat} {q : Option Addr} {n c : Nat} (o : Lw w base v l) (e : v = .slice q n c) (hn : 0 < l.length) : ∃ go, q = some ⟨go, 0, none⟩ ∧ n = l.length ∧ base ≤ go ∧ go < w.heap.size ∧ ∀ W : World, W.heap = w.heap → ∀ j u, ((ints l).map (Value.int .i64))[j]? = some u → W.cell? ((⟨go, 0, none⟩ : Addr).add j) = some u := by
  rcases o.2 with ⟨h2, h3⟩ | ⟨g0, cap, cur, hv, hb, hh, hc, hm, hsz, ht⟩
  · omega
  · rw [e] at hv
    injection hv with h1 h2 h3
    have hlt : g0 < w.heap.size := by
      rcases Nat.lt_or_ge g0 w.heap.size with a | a
      · exact a
      · rw [Array.getElem?_eq_none a] at hh; cases hh
    refine ⟨g0, h1, h2, hb, hlt, fun W hW j u hj => ?_⟩
    have hjl : j < l.length * 1 := by
      have := (List.getElem?_eq_some_iff.1 hj).1
      rw [List.length_map, ints_len] at this
      omega
    rw [Addr.add_lit, Nat.zero_add]
    rw [← ht, List.getElem?_take_of_lt hjl] at hj
    simp only [World.cell?, hW, hh]
    simpa using hj
variable {w w' : World} {base P mS : Nat} {mb : Nat → Nat} {hv : Nat → Value} {r : Rc} {g : G} {cW : Nat → Nat} {H : Nat → List Nat}

set_option maxRecDepth 100000 in
theorem set_chk (h : AF w base P mS mb hv (rc g cW)) (who word : Int) (hc : chkC g who word ≠ 0) : Calls Try.prog 11 #[.pointer (some ⟨P, 0, none⟩), .int .i64 who, .int .i64 word] w fun x w' => x = .returned (.tuple #[.slice none 0 0, errF (chkC g who word)]) ∧ Below w.heap.size w w' := by
  obtain ⟨c, ec⟩ : ∃ c, c = chkC g who word := ⟨_, rfl⟩
  have HC : Hid (c = chkC g who word) := ec
  rw [← ec] at hc ⊢
  have en : errF c = .iface 54 (.int .i64 c) := errF_no hc
  have HG : Hid (AF w base P mS mb hv (rc g cW)) := h
  rw [en]
  clear h ec
  go_enter Try.func11, Try.ntmps11
  go_wp2_with fail
  refine (checkA_any HG.out who word).mono ?_
  rintro e w1 ⟨rfl, hb⟩
  rw [← HC.out, en]
  have B1 : Hid (Below w.heap.size w w1) := hb
  clear hb
  go_wp2
  go_ret2
  exact ⟨rfl, B1.out⟩
set_option maxRecDepth 100000 in
theorem set_not (h : AF w base P mS mb hv (rc g cW)) (hi : Inv0 g) (m v : Nat) (hv30 : v ≤ 30) (hc : chkC g (m : Int) (v : Int) = 0) (ha : allG g v = false) : Calls Try.prog 11 #[.pointer (some ⟨P, 0, none⟩), .int .i64 (m : Int), .int .i64 (v : Int)] w fun x w' => x = .returned (.tuple #[.slice none 0 0, errF 6]) ∧ Below w.heap.size w w' := by
  have HG : Hid (AF w base P mS mb hv (rc g cW) ∧ Inv0 g ∧ v ≤ 30 ∧ chkC g (m : Int) (v : Int) = 0 ∧ allG g v = false) := ⟨h, hi, hv30, hc, ha⟩
  rw [errF_no (by decide)]
  clear h hi hv30 hc ha
  go_enter Try.func11, Try.ntmps11
  go_wp2_with fail
  refine (checkA_any HG.out.1 (m : Int) (v : Int)).mono ?_
  rintro e w1 ⟨rfl, hb⟩
  rw [HG.out.2.2.2.1, errF_ok]
  have B1 : Hid (Below w.heap.size w w1) := hb
  clear hb
  go_wp2_with fail
  refine (allGaveG (HG.out.1.later B1.out) HG.out.2.1 HG.out.2.2.1).mono ?_
  rintro e w2 ⟨rfl, hb⟩
  rw [HG.out.2.2.2.2]
  have B2 : Hid (Below w.heap.size w w2) := B1.out.trans (hb.mono B1.out.size)
  clear hb
  go_wp2
  go_ret2
  exact ⟨rfl, B2.out⟩
set_option maxRecDepth 100000 in
theorem set_knew (h : AF w base P mS mb hv (rc g cW)) (hi : Inv0 g) (m v : Nat) (hm : m < g.n) (hv30 : v ≤ 30) (hc : chkC g (m : Int) (v : Int) = 0) (ha : allG g v = true) (hk : g.kn v m = true) : Calls Try.prog 11 #[.pointer (some ⟨P, 0, none⟩), .int .i64 (m : Int), .int .i64 (v : Int)] w fun x w' => x = .returned (.tuple #[.slice none 0 0, errF 7]) ∧ Below w.heap.size w w' := by
  have HG : Hid (AF w base P mS mb hv (rc g cW) ∧ Inv0 g ∧ v ≤ 30 ∧ chkC g (m : Int) (v : Int) = 0 ∧ allG g v = true ∧ m < g.n ∧ g.kn v m = true) := ⟨h, hi, hv30, hc, ha, hm, hk⟩
  rw [errF_no (by decide)]
  clear h hi hv30 hc ha hm hk
  go_enter Try.func11, Try.ntmps11
  go_wp2_with fail
  refine (checkA_any HG.out.1 (m : Int) (v : Int)).mono ?_
  rintro e w1 ⟨rfl, hb⟩
  rw [HG.out.2.2.2.1, errF_ok]
  have B1 : Hid (Below w.heap.size w w1) := hb
  clear hb
  go_wp2_with fail
  refine (allGaveG (HG.out.1.later B1.out) HG.out.2.1 HG.out.2.2.1).mono ?_
  rintro e w2 ⟨rfl, hb⟩
  rw [HG.out.2.2.2.2.1]
  have B2 : Hid (Below w.heap.size w w2) := B1.out.trans (hb.mono B1.out.size)
  clear hb
  go_wp2_with fail
  refine (learnG (HG.out.1.later B2.out) HG.out.2.1 HG.out.2.2.2.2.2.1 HG.out.2.2.1).mono ?_
  rintro e w3 ⟨rfl, hb⟩
  rw [HG.out.2.2.2.2.2.2]
  have B3 : Hid (Below w.heap.size w w3) := B2.out.trans (hb.mono B2.out.size)
  clear hb
  go_wp2
  go_ret2
  exact ⟨rfl, B3.out⟩
set_option maxRecDepth 100000 in
set_option maxHeartbeats 1000000 in
theorem set_okA (h : AF w base P mS mb hv (rc g cW)) (hi : Inv0 g) (hcw : ∀ i, i < g.n → cW i ≤ g.most i) (hbw : base ≤ w.heap.size) (m v : Nat) (hm : m < g.n) (hv30 : v ≤ 30) (hc : chkC g (m : Int) (v : Int) = 0) (ha : allG g v = true) (hk : g.kn v m = false) (hM : ∀ i, g.most i ≤ 10000) : Calls Try.prog 11 #[.pointer (some ⟨P, 0, none⟩), .int .i64 (m : Int), .int .i64 (v : Int)] w fun x w' => ∃ o hv' c', x = .returned (.tuple #[o, .nilIface]) ∧ Lw w' base o (run m (know g m v)).1 ∧ AF w' base P mS mb hv' (rcH (run m (know g m v)).2 c' (up g.hd m (g.hd m ++ (run m (know g m v)).1))) ∧ (∀ i, i < g.n → c' i ≤ (know g m v).most i) ∧ Below base w w' ∧ KpL w w' (fpA P mS g.n mb hv) ∧ NewL w (fpA P mS g.n mb hv) (fpA P mS g.n mb hv') := by
  have hm5 : m < 5 := Nat.lt_of_lt_of_le hm h.five
  have HG : Hid (AF w base P mS mb hv (rc g cW) ∧ Inv0 g ∧ v ≤ 30 ∧ chkC g (m : Int) (v : Int) = 0 ∧ allG g v = true ∧ m < g.n ∧ g.kn v m = false) := ⟨h, hi, hv30, hc, ha, hm, hk⟩
  have HB : Hid (base ≤ w.heap.size ∧ m < 5 ∧ ∀ i, i < g.n → cW i ≤ g.most i) := ⟨hbw, hm5, hcw⟩
  have hw : wts g m v = true := wts_iff.2 ⟨allG_iff.1 ha m hm, fun q => by
    have := hi.hd m v q
    rw [hk] at this
    cases this⟩
  have hwas : g.was v = true := (hi.gv v m (wts_iff.1 hw).1).1
  have HW : Hid ((Lit.int .i64 (v : Int)).wf = true ∧ TS g (v : Int) = (some (fin g v)).map stV ∧ wts g m v = true) := ⟨wfI (by omega) (by omega), by rw [TS_at hwas, mx_all ha]; rfl, hw⟩
  obtain ⟨k, ek⟩ : ∃ k, k = g.most m := ⟨_, rfl⟩
  obtain ⟨a, ea⟩ : ∃ a, a = (fin g v).1 := ⟨_, rfl⟩
  obtain ⟨b, eb⟩ : ∃ b, b = (fin g v).2 := ⟨_, rfl⟩
  obtain ⟨y, ey⟩ : ∃ y, y = max k a := ⟨_, rfl⟩
  have HK : Hid (k = g.most m ∧ a = (fin g v).1 ∧ b = (fin g v).2 ∧ y = max k a) := ⟨ek, ea, eb, ey⟩
  have hk1 : k ≤ 10000 := by rw [ek]; exact hM m
  have ha1 : a ≤ 10000 := by
    obtain ⟨i, _, e, _⟩ := hi.fin_at ha
    rw [ea, e]
    exact Nat.le_trans (hi.gvM v i) (hM i)
  have hmax : (if k < a then (a : Int) else (k : Int)) = (y : Int) := by
    rw [ey]
    split <;> omega
  have hm0 : (0 : Int) ≤ (m : Int) := by omega
  have hm5' : (m : Int) < 5 := by omega
  obtain ⟨ii, hii, hz0, hz1, hz2⟩ := info_int
  have HJ : Hid (Try.prog.info? 3 = some ii ∧ ii.zero = some (.int .i64 0) ∧ ii.size = 1 ∧ ii.bytes = 8) := ⟨hii, hz0, hz1, hz2⟩
  clear h hi hv30 hc ha hm hk hw hwas hcw hbw hm5 ek ea eb ey hM hii hz0 hz1 hz2
  go_enter Try.func11, Try.ntmps11
  go_wp2_with fail
  refine (checkA_any HG.out.1 (m : Int) (v : Int)).mono ?_
  rintro e w1 ⟨rfl, hb⟩
  rw [HG.out.2.2.2.1, errF_ok]
  have B1 : Hid (Below w.heap.size w w1) := hb
  clear hb
  go_wp2_with fail
  refine (allGaveG (HG.out.1.later B1.out) HG.out.2.1 HG.out.2.2.1).mono ?_
  rintro e w2 ⟨rfl, hb⟩
  rw [HG.out.2.2.2.2.1]
  have B2 : Hid (Below w.heap.size w w2) := B1.out.trans (hb.mono B1.out.size)
  clear hb
  go_wp2_with fail
  refine (learnG (HG.out.1.later B2.out) HG.out.2.1 HG.out.2.2.2.2.2.1 HG.out.2.2.1).mono ?_
  rintro e w3 ⟨rfl, hb⟩
  rw [HG.out.2.2.2.2.2.2]
  have B3 : Hid (Below w.heap.size w w3) := B2.out.trans (hb.mono B2.out.size)
  have G3 : Hid (AF w3 base P mS mb hv (rc g cW)) := HG.out.1.later B3.out
  have c1 := G3.out.c1
  have hlk : (Instr.lookup 55 (.map (some mS)) (.int .i64 (v : Int)) false).run Try.prog w3 = .ok (.agg #[.int .i64 (a : Int), .int .i64 (b : Int)]) w3 := by
    rw [HK.out.2.1, HK.out.2.2.1]
    exact G3.out.lkS1 HW.out.1 HW.out.2.1 w3 rfl
  obtain ⟨W4, eW4⟩ : ∃ W4, W4 = w3.alloc (.cells #[.int .i64 (a : Int), .int .i64 (b : Int)] 41) := ⟨_, rfl⟩
  have B4 : Hid (Below w3.heap.size w3 W4 ∧ W4.rowIs w3.heap.size 41 2 (svA (a : Int) (b : Int))) := by rw [eW4]; exact ⟨(Below.refl _ _).alloc (Nat.le_refl _) _, svA_new w3 _ _⟩
  have G4 : Hid (AF W4 base P mS mb hv (rc g cW)) := G3.out.later B4.out.1
  clear hb
  go_wp2_with fail
  rw [← eW4]
  have c2 : W4.cell? ⟨P, 2 + m, none⟩ = some (.int .i64 (k : Int)) := by rw [HK.out.1]; exact G4.out.cl HB.out.2.1
  have z2 := G4.out.fr (2 + m)
  have p0 : W4.cell? ⟨w3.heap.size, 0, none⟩ = some (.int .i64 (a : Int)) := World.rowIs.cell B4.out.2 (i := 0) (by omega)
  clear eW4 hlk c1
  go_region
  obtain ⟨W5, eW5⟩ : ∃ W5, W5 = (W4.setCell ⟨P, 2 + m, none⟩ (.int .i64 (y : Int))).drew := ⟨_, rfl⟩
  rw [← eW5]
  have G5 : Hid (AF W5 base P mS mb hv { rc g cW with most := up g.most m y } ∧ KpL w W5 (fpA P mS g.n mb hv) ∧ Below base w W5 ∧ W5.rowIs w3.heap.size 41 2 (svA (a : Int) (b : Int))) := by
    have q := G4.out.setLast HB.out.2.1 y
    have e : W5.heap = (W4.setCell ⟨P, 2 + m, none⟩ (.int .i64 (y : Int))).heap := by rw [eW5]; rfl
    have hP : w3.heap.size ≠ P := by have := G3.out.lt; omega
    have b4 : Below w.heap.size w W4 := B3.out.trans (B4.out.1.mono B3.out.size)
    refine ⟨q.heap e, kp_heapA (kp_trans (KpL.below b4 _) (kp_set W4 _ _ P_fp)) e, ?_, World.rowIs.of_block B4.out.2 ?_⟩
    · rw [eW5]
      exact ((b4.mono HB.out.1).setCell (p := ⟨P, 2 + m, none⟩) HG.out.1.low.1 _).drew
    · rw [e]
      exact Deep.blk_setCell_other _ _ _ _ hP
  have c5 := G5.out.1.cw HG.out.2.2.2.2.2.1
  have p0 : W5.cell? ⟨w3.heap.size, 0, none⟩ = some (.int .i64 (a : Int)) := World.rowIs.cell G5.out.2.2.2 (i := 0) (by omega)
  have p1 : W5.cell? ⟨w3.heap.size, 1, none⟩ = some (.int .i64 (b : Int)) := World.rowIs.cell G5.out.2.2.2 (i := 1) (by omega)
  obtain ⟨W6, e6, m6, t6⟩ := ((G5.out.1.heap (w' := W5.drew) rfl).wait m HG.out.2.2.2.2.2.1).put Try.underlying57 HW.out.1 (.agg #[.int .i64 (a : Int), .int .i64 (b : Int), .bool true]) (by have := HB.out.2.2 m HG.out.2.2.2.2.2.1; have := HK.out.1; show cW m < _; omega)
  have G6 : Hid (AF W6 base P mS mb hv (rcH (know g m v) cW g.hd) ∧ KpL w W6 (fpA P mS g.n mb hv) ∧ Below base w W6) := by
    have q := (G5.out.1.heap (w' := W5.drew) rfl).turnW HG.out.2.2.2.2.2.1 m6 t6
    have hq : (rc g cW).W m (v : Int) = some (waV (ts g m v) (g.kn v m)) := TW_at HW.out.2.2
    refine ⟨q.congr rfl (fun i => TS_know g m v i) rfl (fun j hj i => ?_) (fun j hj => ?_) (fun j hj => ?_) (fun j hj => rfl), kp_trans G5.out.2.1 (kp_trans (kp_heapA (kp_refl W5 _) (w3 := W5.drew) rfl) (kp_turned t6 (W_fp HG.out.2.2.2.2.2.1))), (G5.out.2.2.1.drew).trans (turned_below t6 (HG.out.1.low.2.2 m HG.out.2.2.2.2.2.1))⟩
    · show TW (know g m v) j i = up (TW g) m (putT (TW g m) (v : Int) _) j i
      by_cases e : j = m
      · subst e
        rw [up_same, TW_know HW.out.2.2, HK.out.2.1, HK.out.2.2.1]
        rfl
      · rw [up_other _ _ e, TW_know_other e]
    · show cW j = up cW m (if ((rc g cW).W m (v : Int)).isSome = true then cW m else cW m + 1) j
      rw [hq]
      by_cases e : j = m
      · rw [e, up_same]
        rfl
      · rw [up_other _ _ e]
    · show (know g m v).most j = up g.most m y j
      rw [know_most, HK.out.2.2.2, HK.out.1, HK.out.2.1]
      rfl
  clear eW5 c2 z2 m6 t6 hmax
  go_wp2_with fail
  go_region
  have HI : Hid (Inv0 (know g m v) ∧ ∀ i, i < (know g m v).n → cW i ≤ (know g m v).most i) := by
    refine ⟨HG.out.2.1.know HG.out.2.2.2.2.2.1 HG.out.2.2.2.2.1 HG.out.2.2.2.2.2.2, fun i hi => ?_⟩
    rw [know_most]
    have := HB.out.2.2 i hi
    split
    · rename_i e
      rw [e] at this ⊢
      exact Nat.le_trans this (Nat.le_max_left _ _)
    · exact this
  clear c5 p0 p1 e6
  go_wp2_with fail
  refine (hear_any G6.out.1 HI.out.1 HI.out.2 (Nat.le_trans HB.out.1 G6.out.2.1.1) m HG.out.2.2.2.2.2.1).mono ?_
  rintro e w7 ⟨o, c7, rfl, ho, hA, hC, hB7, hK7⟩
  obtain ⟨l, el⟩ : ∃ l, l = (run m (know g m v)).1 := ⟨_, rfl⟩
  obtain ⟨g2, eg2⟩ : ∃ g2, g2 = (run m (know g m v)).2 := ⟨_, rfl⟩
  rw [← el] at ho
  rw [← eg2] at hA
  have EL : Hid (l = (run m (know g m v)).1 ∧ g2 = (run m (know g m v)).2) := ⟨el, eg2⟩
  obtain ⟨qo, co, eo⟩ := own_form ho
  obtain ⟨qh, ch, eh⟩ := own_form (hA.hd m HB.out.2.1)
  obtain ⟨lo, elo⟩ : ∃ lo, lo = l.length := ⟨_, rfl⟩
  obtain ⟨lh, elh⟩ : ∃ lh, lh = (g.hd m).length := ⟨_, rfl⟩
  have eh' : hv m = .slice qh lh ch := by rw [elh]; exact eh
  have eo' : o = .slice qo lo co := by rw [elo]; exact eo
  have G7 : Hid (AF w7 base P mS mb hv (rcH g2 c7 g.hd) ∧ KpL w w7 (fpA P mS g.n mb hv) ∧ Below base w w7 ∧ (∀ i, i < g.n → c7 i ≤ (know g m v).most i) ∧ base ≤ w7.heap.size) := ⟨hA, kp_trans G6.out.2.1 hK7, G6.out.2.2.trans hB7, hC, Nat.le_trans HB.out.1 (Nat.le_trans G6.out.2.1.1 hK7.1)⟩
  have O7 : Hid (Lw w7 W6.heap.size o l ∧ w.heap.size ≤ W6.heap.size ∧ o = .slice qo lo co ∧ hv m = .slice qh lh ch ∧ lo = l.length ∧ lh = (g.hd m).length) := ⟨ho, G6.out.2.1.1, eo', eh', elo, elh⟩
  have hn2 : g2.n = g.n := by
    rw [eg2]
    have := (drain_spec m (31 - ((know g m v).hd m).length) (know g m v) HI.out.1 (Nat.le_refl _)).2.2.2
    show (drain m (31 - ((know g m v).hd m).length) (know g m v)).2.n = g.n
    rw [this]
    rfl
  have HN : Hid (g2.n = g.n ∧ l.length ≤ 30 ∧ (g.hd m).length ≤ 30) := by
    refine ⟨hn2, ?_, HG.out.2.1.hd30 m⟩
    have h0 := drain_spec m (31 - ((know g m v).hd m).length) (know g m v) HI.out.1 (Nat.le_refl _)
    have h1 := h0.1.hd30 m
    have h2 : (drain m (31 - ((know g m v).hd m).length) (know g m v)).2.hd m = (know g m v).hd m ++ (drain m (31 - ((know g m v).hd m).length) (know g m v)).1 := by
      have := congrArg (fun x : G => x.hd m) h0.2.2.2
      rw [this]
      show (if m = m then _ else _) = _
      rw [if_pos rfl]
    rw [h2, List.length_append] at h1
    rw [el]
    show (drain m (31 - ((know g m v).hd m).length) (know g m v)).1.length ≤ 30
    omega
  have c7c : w7.cell? ⟨P, 12 + m, none⟩ = some (.slice qh lh ch) := by rw [← eh']; exact hA.ch HB.out.2.1
  have z7 := hA.fr (12 + m)
  rw [eo']
  have hlo : lo ≤ 30 := by rw [elo]; exact HN.out.2.1
  have hlh : lh ≤ 30 := by rw [elh]; exact HN.out.2.2
  have FIN : Hid (∀ (W : World) (v8 : Value), w7.grownBy W (hv m).ownBlock → Lw W base v8 (g.hd m ++ l) → (∀ z, v8.ownBlock = some z → (hv m).ownBlock = some z ∨ w7.heap.size ≤ z) → ∀ W', W' = W.setCell ⟨P, 12 + m, none⟩ v8 → ∀ W2 : World, W2.heap = W'.heap → W2.os = W'.os → W2.tape = W'.tape → W2.output = W'.output →
      Lw W2 base (.slice qo lo co) l ∧ AF W2 base P mS mb (up hv m v8) (rcH g2 c7 (up g.hd m (g.hd m ++ l))) ∧ Below base w W2 ∧ KpL w W2 (fpA P mS g.n mb hv) ∧ NewL w (fpA P mS g.n mb hv) (fpA P mS g.n mb (up hv m v8))) := by
    intro W v8 hg ho8 hn W' eW' W2 e1 e2 e3 e4
    subst eW'
    have q := G7.out.1.setHd HB.out.2.1 (l := g.hd m ++ l) hg ho8 hn
    have bo : ∀ z, o.ownBlock = some z → w.heap.size ≤ z ∧ z < w7.heap.size := fun z hz => ⟨Nat.le_trans O7.out.2.1 (own_lt O7.out.1 z hz).1, (own_lt O7.out.1 z hz).2⟩
    have hvlt : ∀ z, (hv m).ownBlock = some z → z < w.heap.size := fun z hz => (own_lt (HG.out.1.hd m HB.out.2.1) z hz).2
    have hb7 : Below base w7 W := (Below.refl base w7).grown hg G7.out.2.2.2.2 (fun z hz => (own_lt (HG.out.1.hd m HB.out.2.1) z hz).1)
    have hbs : Below base w (W.setCell ⟨P, 12 + m, none⟩ v8) := (G7.out.2.2.1.trans hb7).setCell (p := ⟨P, 12 + m, none⟩) HG.out.1.low.1 _
    refine ⟨?_, q.heap e1, ⟨e2.trans hbs.os, e3.trans hbs.tape, e4.trans hbs.output, by rw [e1]; exact hbs.size, fun z hz => by rw [e1]; exact hbs.block z hz⟩, kp_heapA (kp_trans G7.out.2.1 (kp_trans (kp_grown hg fun z hz => H_fp HB.out.2.1 hz) (kp_set W _ _ P_fp))) e1, fun z hz => ?_⟩
    · rw [← O7.out.2.2.1]
      refine own_mono (own_block O7.out.1 fun z hz => ?_) (Nat.le_trans HB.out.1 O7.out.2.1)
      have h1 := bo z hz
      have h2 := HG.out.1.lt
      rw [e1, Deep.blk_setCell_other _ _ _ _ (show z ≠ P by omega)]
      exact hg.block z h1.2 (fun q => by have := hvlt z q.symm; omega)
    · rcases new_up (w := w7) HB.out.2.1 hn z hz with a | a
      · exact .inl a
      · exact .inr (Nat.le_trans G7.out.2.1.1 a)
  have OH : Hid (w7.ownsRow base 3 1 (.slice qh lh ch) lh ((ints (g.hd m)).map (Value.int .i64))) := by
    have q := hA.hd m HB.out.2.1
    rw [eh'] at q
    rw [elh]
    rw [elh] at q
    exact q
  clear ho hA hC hB7 hK7 el eg2 eo eh elo elh eh' eo' hn2
  by_cases hz : lo = 0
  · subst hz
    go_wp2_with fail
    go_region_law ((refine step_append_zero (by rfl) _ _ _ (by rfl) base 3 ii 1 Try.underlying22 HJ.out.1 (.slice qh lh ch) lh _ (by rfl) (by exact own_same OH.out rfl) qo co (by rfl) ?_))
    all_goals
      go_wp2
      go_ret2
      have hl : l = [] := List.eq_nil_of_length_eq_zero O7.out.2.2.2.2.1.symm
      have hg : g.hd m ++ l = g.hd m := by rw [hl, List.append_nil]
      have q := FIN.out w7 (.slice qh lh ch) (grown_refl rfl rfl rfl rfl) (by rw [hg]; show World.ownsRow _ _ _ _ _ _ _; rw [← O7.out.2.2.2.2.2]; exact OH.out) (fun z hz => .inl (by rw [O7.out.2.2.2.1]; exact hz)) _ rfl
      rw [← EL.out.1, ← EL.out.2]
      first
      | exact ⟨_, _, _, rfl, (q (w7.setCell ⟨P, 12 + m, none⟩ (.slice qh lh ch)).drew rfl rfl rfl rfl).1, (q (w7.setCell ⟨P, 12 + m, none⟩ (.slice qh lh ch)).drew rfl rfl rfl rfl).2.1, G7.out.2.2.2.1, (q (w7.setCell ⟨P, 12 + m, none⟩ (.slice qh lh ch)).drew rfl rfl rfl rfl).2.2⟩
      | exact ⟨_, _, _, rfl, (q _ rfl rfl rfl rfl).1, (q _ rfl rfl rfl rfl).2.1, G7.out.2.2.2.1, (q _ rfl rfl rfl rfl).2.2⟩
  · obtain ⟨go, rfl, -, hgo1, hgo2, hnews⟩ := news_of (W := w7) O7.out.1 O7.out.2.2.1 (by rw [← O7.out.2.2.2.2.1]; omega)
    have NW7 : Hid (∀ W : World, W.heap = w7.heap → ∀ j u, ((ints l).map (Value.int .i64))[j]? = some u → W.cell? ((⟨go, 0, none⟩ : Addr).add j) = some u) := hnews
    have NP : Hid (some P ≠ (Value.slice qh lh ch).ownBlock ∧ P < w7.heap.size) := by
      refine ⟨fun q => own_ne HG.out.1.row (by decide) (HG.out.1.hd m HB.out.2.1) (by rw [O7.out.2.2.2.1]; exact q.symm) rfl, G7.out.1.lt⟩
    clear hnews hgo1 hgo2
    go_wp2_with fail
    go_region_law ((refine step_append_lies _ (by rfl) _ _ _ (by rfl) base 3 ii (.int .i64 0) 1 8 Try.underlying22 HJ.out.1 HJ.out.2.1 HJ.out.2.2.1 HJ.out.2.2.2 rfl (by omega) (.slice qh lh ch) lh ((ints (g.hd m)).map (Value.int .i64)) (by rfl) (by exact own_same OH.out rfl) ⟨go, 0, none⟩ lo co ((ints l).map (Value.int .i64)) (by rfl) (by rw [List.length_map, ints_len, O7.out.2.2.2.2.1, Nat.mul_one]) (by exact NW7.out _ rfl) (int_ones _) (by omega) (by unfold maxLen; omega) (by omega) (by have := G7.out.2.2.2.2; simp; omega) w7.heap.size (by simp) ?_; intro gg gc w8 hown hgrow hat hlt8; have HG8 : Hid (w7.grownBy w8 (Value.slice qh lh ch).ownBlock) := grown_same hgrow rfl rfl rfl rfl; have HO8 : Hid (w8.ownsRow base 3 1 (.slice (some ⟨gg, 0, none⟩) (lh + lo) gc) (lh + lo) ((ints (g.hd m)).map (Value.int .i64) ++ (ints l).map (Value.int .i64))) := hown; have AT : Hid ((Value.slice qh lh ch).ownBlock = some gg ∨ w7.heap.size ≤ gg) := (hat.imp id (fun e => by omega)); have l8 : w8.cell? ⟨P, 12 + m, none⟩ = some (.slice qh lh ch) := (HG8.out.cell_far ⟨P, 12 + m, none⟩ NP.out.2 NP.out.1).trans c7c; have m8 : w8.frozen? ⟨P, 12 + m, none⟩ = false := (HG8.out.frozen_far ⟨P, 12 + m, none⟩ NP.out.2 NP.out.1).trans z7; clear hown hgrow hat hlt8))
    all_goals
      go_wp2
      go_ret2
      have q := FIN.out w8 (.slice (some ⟨gg, 0, none⟩) (lh + lo) gc) (by rw [O7.out.2.2.2.1]; exact HG8.out) (by
        have e : ints (g.hd m ++ l) = ints (g.hd m) ++ ints l := by simp [ints]
        show World.ownsRow _ _ _ _ _ _ _
        rw [e, List.length_append, List.map_append, ← O7.out.2.2.2.2.2, ← O7.out.2.2.2.2.1]
        exact HO8.out) (fun z hz => by
        have e : gg = z := by simpa [Value.ownBlock] using hz
        rw [← e, O7.out.2.2.2.1]
        exact AT.out) _ rfl
      rw [← EL.out.1, ← EL.out.2]
      first
      | exact ⟨_, _, _, rfl, (q (w8.setCell ⟨P, 12 + m, none⟩ (.slice (some ⟨gg, 0, none⟩) (lh + lo) gc)) rfl rfl rfl rfl).1, (q (w8.setCell ⟨P, 12 + m, none⟩ (.slice (some ⟨gg, 0, none⟩) (lh + lo) gc)) rfl rfl rfl rfl).2.1, G7.out.2.2.2.1, (q (w8.setCell ⟨P, 12 + m, none⟩ (.slice (some ⟨gg, 0, none⟩) (lh + lo) gc)) rfl rfl rfl rfl).2.2⟩
      | exact ⟨_, _, _, rfl, (q (w8.setCell ⟨P, 12 + m, none⟩ (.slice (some ⟨gg, 0, none⟩) (lh + lo) gc)).drew rfl rfl rfl rfl).1, (q (w8.setCell ⟨P, 12 + m, none⟩ (.slice (some ⟨gg, 0, none⟩) (lh + lo) gc)).drew rfl rfl rfl rfl).2.1, G7.out.2.2.2.1, (q (w8.setCell ⟨P, 12 + m, none⟩ (.slice (some ⟨gg, 0, none⟩) (lh + lo) gc)).drew rfl rfl rfl rfl).2.2⟩
theorem setA (base P : Nat) (g : G) (fp : List Nat) (who word : Int) (w : World) (h : AS w base P g fp) (hi : Inv g) (hM : ∀ m, g.most m ≤ 10000) (hbw : base ≤ w.heap.size) : Calls Try.prog 11 #[.pointer (some ⟨P, 0, none⟩), .int .i64 who, .int .i64 word] w fun x w' => ∃ v fp', x = .returned (.tuple #[v, errF (setC g who word)]) ∧ Sl w' v (setO g who word) ∧ AS w' base P (set g who word) fp' ∧ Below base w w' ∧ KpL w w' fp ∧ NewL w fp fp' := by
  obtain ⟨mS, mb, hv, cW, rfl, h, hcw⟩ := h
  have still : ∀ {c : Int}, setC g who word = c → c ≠ 0 → ∀ w' : World, Below w.heap.size w w' → ∃ v fp', Ending.returned (.tuple #[.slice none 0 0, errF c]) = .returned (.tuple #[v, errF c]) ∧ Sl w' v (setO g who word) ∧ AS w' base P (set g who word) fp' ∧ Below base w w' ∧ KpL w w' (fpA P mS g.n mb hv) ∧ NewL w (fpA P mS g.n mb hv) fp' := by
    intro c ec hc w' hb
    have e1 : setO g who word = [] := by unfold setO; rw [if_neg (by rw [ec]; exact hc)]
    have e2 : set g who word = g := by unfold set; rw [if_neg (by rw [ec]; exact hc)]
    rw [e1, e2]
    exact ⟨_, _, rfl, Sl.of_own (t := 3) (World.ownsRow_nil _ 0 _ _), ⟨mS, mb, hv, cW, rfl, h.later hb, hcw⟩, hb.mono hbw, KpL.below hb _, NewL.refl _ _⟩
  by_cases hc : chkC g who word = 0
  · have hr : (0 ≤ who ∧ who < (g.n : Int)) ∧ (1 ≤ word ∧ word ≤ 30) := by
      unfold chkC at hc
      split at hc <;> omega
    obtain ⟨m, rfl⟩ : ∃ m : Nat, who = (m : Int) := ⟨who.toNat, by omega⟩
    obtain ⟨v, rfl⟩ : ∃ v : Nat, word = (v : Int) := ⟨word.toNat, by omega⟩
    cases ha : allG g v with
    | false =>
      have e0 : setC g (m : Int) (v : Int) = 6 := by
        unfold setC
        rw [if_neg (fun q => q hc), Int.toNat_natCast, if_pos ha]
      rw [e0]
      refine (set_not h hi.toInv0 m v (by omega) hc ha).mono ?_
      rintro x w' ⟨rfl, hb⟩
      exact still e0 (by decide) w' hb
    | true =>
      cases hk : g.kn v m with
      | true =>
        have e0 : setC g (m : Int) (v : Int) = 7 := by
          unfold setC
          rw [if_neg (fun q => q hc), Int.toNat_natCast, Int.toNat_natCast, ha, if_neg (by decide), if_pos hk]
        rw [e0]
        refine (set_knew h hi.toInv0 m v (by omega) (by omega) hc ha hk).mono ?_
        rintro x w' ⟨rfl, hb⟩
        exact still e0 (by decide) w' hb
      | false =>
        have e0 : setC g (m : Int) (v : Int) = 0 := by
          unfold setC
          rw [if_neg (fun q => q hc), Int.toNat_natCast, Int.toNat_natCast, ha, if_neg (by decide), hk, if_neg (by decide)]
        have e1 := set_eq e0
        rw [Int.toNat_natCast, Int.toNat_natCast] at e1
        have hki := hi.toInv0.know (show m < g.n by omega) ha hk
        have hs := (drain_spec m (31 - ((know g m v).hd m).length) (know g m v) hki (Nat.le_refl _)).2.2.2
        have hs' : (run m (know g m v)).2 = { know g m v with hd := fun i => if i = m then (know g m v).hd m ++ (run m (know g m v)).1 else (know g m v).hd i } := hs
        rw [e0, e1.1, e1.2, errF_ok]
        refine (set_okA h hi.toInv0 hcw hbw m v (by omega) (by omega) hc ha hk hM).mono ?_
        rintro x w' ⟨o, hv', c', rfl, ho, hA, hC, hB, hK, hN⟩
        have en : (run m (know g m v)).2.n = g.n := by rw [hs']; rfl
        refine ⟨o, _, rfl, Sl.of_own ho, ⟨mS, mb, hv', c', rfl, ?_, ?_⟩, hB, hK, by rw [en]; exact hN⟩
        · refine hA.congr rfl (fun i => rfl) rfl (fun j hj i => rfl) (fun j hj => rfl) (fun j hj => rfl) (fun j hj => ?_)
          show (run m (know g m v)).2.hd j = up g.hd m (g.hd m ++ (run m (know g m v)).1) j
          have := congrArg (fun x : G => x.hd j) hs'
          rw [this]
          rfl
        · intro i hi'
          rw [en] at hi'
          have := hC i hi'
          have e2 : (run m (know g m v)).2.most = (know g m v).most := by rw [hs']
          rw [e2]
          exact this
  · have e0 : setC g who word = chkC g who word := by
      unfold setC
      rw [if_pos hc]
    have := still e0 hc
    rw [e0]
    refine (set_chk h who word hc).mono ?_
    rintro x w' ⟨rfl, hb⟩
    exact this w' hb
end Go.Proofs.Ytcccheeeagphpag.Agr
