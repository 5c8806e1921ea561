/-
  Contracts of package leader's hear and Take.
-/
import Derived.Test.YtcccheeeagphpagLdrD
namespace Go.Proofs.Ytcccheeeagphpag.Ldr
open Go.RowKit Go.Maps
open Go.Proofs.Ytcccheeeagphpag.Fif (own_lt own_block own_form own_mono own_vw ret_bool info_int lenOf new_int int_one)
open Go.Proofs.Ytcccheeeagphpag.MapV (MM putT delT wfI turned_below g_of_turned)
open Go.Proofs.Ytcccheeeagphpag.Sep (KpL NewL)
set_option linter.unusedVariables false
variable {w w' : World} {base P mS m k : Nat} {mb : Nat → Nat} {r : Rc} {l : L} {nx : Nat → Nat}

/-- as far as it goes -/
structure HM (w wr : World) (base P mS : Nat) (mb nx : Nat → Nat) (l : L) (m : Nat) (y : Value) (k : Nat) : Prop where
  lo : nx m ≤ k
  hi : k ≤ hn l m
  out : Ow wr w.heap.size y ((l.ws.take k).drop (nx m))
  mem : LF wr base P mS mb (rcN l (up nx m k))
  low : Below base w wr
  kp : KpL w wr (fpL P mS l.n mb)
theorem part_len {ws : List Int} {a k : Nat} (hk : k ≤ ws.length) : ((ws.take k).drop a).length = k - a := by
  rw [List.length_drop, List.length_take]
  omega
/-- one is struck, and the next place is the one behind it -/
theorem LF.heard (h : LF w base P mS mb (rcN l (up nx m k))) (hm : m < l.n) (hk : k < l.ws.length) (hc : l.come m k = true) {c' : Nat} (hM : MM w' (mb m) (delT (TW l m k) (k : Int)) (if (TW l m k (k : Int)).isSome = true then cW l m k - 1 else cW l m k)) (ht : w.mapTurned w' (mb m)) : LF (w'.setCell ⟨P, 2 + m, none⟩ (.int .i64 ((k : Int) + 1))) base P mS mb (rcN l (up nx m (k + 1))) := by
  have hm5 : m < 5 := Nat.lt_of_lt_of_le hm h.five
  have q := (h.turnW hm hM ht).setNx hm5 (k + 1)
  rw [show ((k + 1 : Nat) : Int) = (k : Int) + 1 by omega] at q
  refine q.congr rfl (fun i => rfl) rfl (fun j hj i => ?_) (fun j hj => ?_) (fun j hj => ?_)
  · show TW l j (up nx m (k + 1) j) i = up (fun m' => TW l m' (up nx m k m')) m _ j i
    by_cases e : j = m
    · subst e
      rw [up_same, up_same, TW_next]
    · rw [up_other _ _ e, up_other _ _ e, up_other _ _ e]
  · show cW l j (up nx m (k + 1) j) = up (fun m' => cW l m' (up nx m k m')) m _ j
    by_cases e : j = m
    · subst e
      rw [up_same, up_same, TW_at _ (Nat.le_refl _), if_pos hc, cW_next hk hc]
      rfl
    · rw [up_other _ _ e, up_other _ _ e, up_other _ _ e]
  · show up nx m (k + 1) j = up (up nx m k) m (k + 1) j
    by_cases e : j = m
    · rw [e, up_same, up_same]
    · rw [up_other _ _ e, up_other _ _ e, up_other _ _ e]
theorem rcN_same (l : L) (nx : Nat → Nat) (m : Nat) : rcN l (up nx m (nx m)) = rcN l nx := by
  have e : up nx m (nx m) = nx := by
    funext i
    by_cases q : i = m
    · rw [q, up_same]
    · rw [up_other _ _ q]
  rw [e]
set_option maxRecDepth 100000 in
set_option maxHeartbeats 1000000 in
theorem hearL_any (h : LF w base P mS mb (rcN l nx)) (hi : Inv l) (hbw : base ≤ w.heap.size) (m : Nat) (hm : m < l.n) (hnx : nx m ≤ hn l m) : Calls Try.prog 20 #[.pointer (some ⟨P, 0, none⟩), .int .i64 (m : Int)] w fun x w' => ∃ v, x = .returned v ∧ Ow w' w.heap.size v ((l.ws.take (hn l m)).drop (nx m)) ∧ LF w' base P mS mb (rcN l (up nx m (hn l m))) ∧ Below base w w' ∧ KpL w w' (fpL P mS l.n mb) := by
  have M0 : Hid (HM w w base P mS mb nx l m (.slice none 0 0) (nx m)) := by
    have e0 : (l.ws.take (nx m)).drop (nx m) = [] := List.drop_eq_nil_of_le (by rw [List.length_take]; omega)
    refine ⟨Nat.le_refl _, hnx, ?_, by rw [rcN_same]; exact h, Below.refl _ _, kp_refl _ _⟩
    rw [e0]
    exact World.ownsRow_nil _ _ _ _
  have HG : Hid (LF w base P mS mb (rcN l nx) ∧ Inv l ∧ m < l.n ∧ base ≤ w.heap.size) := ⟨h, hi, hm, hbw⟩
  obtain ⟨ii, hii, hz0, hz1, hz2⟩ := info_int
  have HJ : Hid (Try.prog.info? 3 = some ii ∧ ii.zero = some (.int .i64 0) ∧ ii.size = 1 ∧ ii.bytes = 8) := ⟨hii, hz0, hz1, hz2⟩
  have hm0 : (0 : Int) ≤ (m : Int) := by omega
  have hm5' : (m : Int) < 5 := by have := hi.five; omega
  have h30 : l.ws.length ≤ 30 := hi.len
  have H30 : Hid (l.ws.length ≤ 30) := h30
  clear h hi hbw hm hnx hii hz0 hz1 hz2 h30
  go_enter Try.func20, Try.ntmps20
  go_wp2
  go_loopw [5] (fun y wr => ∃ k, Hid (HM w wr base P mS mb nx l m y k)) (fun y _ => 31 - lenOf y)
  case atStart => exact ⟨nx m, M0⟩
  case round =>
    obtain ⟨k, hM⟩ := hrel
    obtain ⟨q, cap, rfl⟩ := own_form hM.out.out
    have hkl : k ≤ l.ws.length := Nat.le_trans hM.out.hi (hn_le l m)
    have el := part_len (ws := l.ws) (a := nx m) hkl
    obtain ⟨ll, ell⟩ : ∃ ll, ll = k - nx m := ⟨_, rfl⟩
    rw [← ell] at el
    have hll : ll ≤ 30 := by have := H30.out; omega
    have HL : Hid (((l.ws.take k).drop (nx m)).length = ll) := el
    have O1 : Hid (wr.ownsRow w.heap.size 3 1 (.slice q ll cap) ll (((l.ws.take k).drop (nx m)).map (Value.int .i64))) := by
      have o : Ow wr w.heap.size (.slice q ((l.ws.take k).drop (nx m)).length cap) ((l.ws.take k).drop (nx m)) := hM.out.out
      unfold Ow at o
      rw [el] at o
      exact o
    rw [el]
    have hk30 : k ≤ 30 := by have := H30.out; omega
    have HKL : Hid (k ≤ l.ws.length ∧ ll = k - nx m) := ⟨hkl, ell⟩
    have HW : Hid ((Lit.int .i64 (k : Int)).wf = true) := wfI (by omega) (by omega)
    have hm5 : m < 5 := Nat.lt_of_lt_of_le HG.out.2.2.1 HG.out.1.five
    have HM5 : Hid (m < 5) := hm5
    have c0 : wr.cell? ⟨P, 2 + m, none⟩ = some (.int .i64 (k : Int)) := by
      have z := hM.out.mem.cl hm5
      have e : (rcN l (up nx m k)).nx m = k := up_same _ _ _
      rw [e] at z
      exact z
    have c5 : wr.cell? ⟨P, 7 + m, none⟩ = some (.map (some (mb m))) := hM.out.mem.cw HG.out.2.2.1
    have hPl : P < wr.heap.size := hM.out.mem.lt
    have hTW : (rcN l (up nx m k)).W m (k : Int) = (if l.come m k = true then some (l.ws.getD k 0) else none).map iv := by
      show TW l m (up nx m k m) (k : Int) = _
      rw [up_same, TW_at _ (Nat.le_refl _)]
      split <;> rfl
    clear el ell hkl hm5
    cases hc : l.come m k with
    | false =>
      rw [hc] at hTW
      have hlk : ∀ j, (Instr.lookup 62 (.map (some (mb m))) (.int .i64 (k : Int)) true).run Try.prog (wr.drewN j) = .ok (.tuple #[.int .i64 0, .bool false]) (wr.drewN j) := fun j => hM.out.mem.lkW_ok (s := none) HG.out.2.2.1 HW.out hTW (wr.drewN j) rfl
      have HX : Hid (k = hn l m) := by
        rcases Nat.lt_or_ge k (hn l m) with z | z
        · rw [hn_come z] at hc; cases hc
        · have := hM.out.hi
          show _ = _
          omega
      clear hc hTW
      go_wp2_with fail
      go_quiet (fail)
      go_wp2
      go_ret
      rw [← HX.out]
      refine ⟨_, rfl, ?_, hM.out.mem.heap rfl, drewsL hM.out.low _, kp_heap hM.out.kp rfl⟩
      show World.ownsRow _ _ _ _ _ _ _
      rw [HL.out]
      exact own_block O1.out fun _ _ => rfl
    | true =>
      rw [hc] at hTW
      obtain ⟨x, ex⟩ : ∃ x : Int, x = l.ws.getD k 0 := ⟨_, rfl⟩
      have hlk : ∀ j, (Instr.lookup 62 (.map (some (mb m))) (.int .i64 (k : Int)) true).run Try.prog (wr.drewN j) = .ok (.tuple #[.int .i64 x, .bool true]) (wr.drewN j) := fun j => by
        rw [ex]
        exact hM.out.mem.lkW_ok (s := some (l.ws.getD k 0)) HG.out.2.2.1 HW.out hTW (wr.drewN j) rfl
      have HX : Hid (k < hn l m ∧ k < l.ws.length ∧ l.come m k = true ∧ x = l.ws.getD k 0) := by
        have z : k < hn l m := by
          refine Decidable.byContradiction fun z => ?_
          have e : k = hn l m := by have := hM.out.hi; omega
          rw [e, hn_stop HG.out.2.1 m] at hc
          cases hc
        exact ⟨z, Nat.lt_of_lt_of_le z (hn_le l m), hc, ex⟩
      have hdel : ∀ j, ∃ w', (Builtin.delete_ #[62, 3] 0 #[.map (some (mb m)), .int .i64 (k : Int)]).run Try.prog (wr.drewN j) = .ok (.tuple #[]) w' ∧ MM w' (mb m) (delT (TW l m k) (k : Int)) (if (TW l m k (k : Int)).isSome = true then cW l m k - 1 else cW l m k) ∧ (wr.drewN j).mapTurned w' (mb m) := fun j => by
        have z := (hM.out.mem.heap (w' := wr.drewN j) rfl).wait m HG.out.2.2.1
        have z' : MM (wr.drewN j) (mb m) (TW l m k) (cW l m k) := by
          have e1 : (rcN l (up nx m k)).W m = TW l m k := by show TW l m (up nx m k m) = _; rw [up_same]
          have e2 : (rcN l (up nx m k)).cW m = cW l m k := by show cW l m (up nx m k m) = _; rw [up_same]
          rw [e1, e2] at z
          exact z
        exact z'.del Try.underlying62 HW.out 0
      obtain ⟨f, hf2⟩ := Classical.skolem.1 hdel
      have hdel1 := fun j => (hf2 j).1
      have HD : Hid (∀ j, MM (f j) (mb m) (delT (TW l m k) (k : Int)) (if (TW l m k (k : Int)).isSome = true then cW l m k - 1 else cW l m k) ∧ (wr.drewN j).mapTurned (f j) (mb m)) := fun j => (hf2 j).2
      clear hdel hf2 hTW hc ex
      go_wp2_with fail
      go_quiet (fail)
      go_wp2_with fail
      go_region
      obtain ⟨W2, eW2⟩ : ∃ W2, W2 = f (nq + 1) := ⟨_, rfl⟩
      rw [← eW2]
      have D2 : Hid (MM W2 (mb m) (delT (TW l m k) (k : Int)) (if (TW l m k (k : Int)).isSome = true then cW l m k - 1 else cW l m k) ∧ (wr.drewN (nq + 1)).mapTurned W2 (mb m)) := by rw [eW2]; exact HD.out (nq + 1)
      have G0 : Hid (LF (wr.drewN (nq + 1)) base P mS mb (rcN l (up nx m k))) := hM.out.mem.heap rfl
      have G2 : Hid (LF W2 base P mS mb { rcN l (up nx m k) with W := up (rcN l (up nx m k)).W m (delT (TW l m k) (k : Int)), cW := up (rcN l (up nx m k)).cW m (if (TW l m k (k : Int)).isSome = true then cW l m k - 1 else cW l m k) }) := G0.out.turnW HG.out.2.2.1 D2.out.1 D2.out.2
      have b0 : W2.cell? ⟨P, 2 + m, none⟩ = some (.int .i64 (k : Int)) := by
        have z := G2.out.cl HM5.out
        have e : (rcN l (up nx m k)).nx m = k := up_same _ _ _
        have z' : W2.cell? ⟨P, 2 + m, none⟩ = some (.int .i64 ((rcN l (up nx m k)).nx m : Int)) := z
        rw [e] at z'
        exact z'
      have y0 := G2.out.fr (2 + m)
      clear eW2 HD hdel1 hlk c0 c5 hPl
      have hPl : P < W2.heap.size := G2.out.lt
      go_wp2_with fail
      go_region
      obtain ⟨W3, eW3⟩ : ∃ W3, W3 = (W2.setCell ⟨P, 2 + m, none⟩ (.int .i64 ((k : Int) + 1))).drew := ⟨_, rfl⟩
      rw [← eW3]
      have F3 : Hid (LF W3 base P mS mb (rcN l (up nx m (k + 1)))) := by
        have z := LF.heard (c' := 0) G0.out HG.out.2.2.1 HX.out.2.1 HX.out.2.2.1 D2.out.1 D2.out.2
        rw [eW3]
        exact z.heap rfl
      have K3 : Hid (Below base wr W3 ∧ KpL wr W3 (fpL P mS l.n mb)) := by
        have b1 : Below base wr (wr.drewN (nq + 1)) := drewsL (Below.refl _ _) _
        have b2 : Below base wr W2 := b1.trans (turned_below D2.out.2 (G0.out.low.2.2 m HG.out.2.2.1))
        have k1 : KpL wr (wr.drewN (nq + 1)) (fpL P mS l.n mb) := kp_heap (kp_refl _ _) rfl
        rw [eW3]
        exact ⟨(b2.setCell (p := ⟨P, 2 + m, none⟩) G0.out.low.1 _).drew, kp_heap (kp_trans (kp_trans k1 (kp_turned D2.out.2 (W_fp HG.out.2.2.1))) (kp_set W2 (2 + m) _ P_fp)) rfl⟩
      have O3 : Hid (W3.ownsRow w.heap.size 3 1 (.slice q ll cap) ll (((l.ws.take k).drop (nx m)).map (Value.int .i64))) := by
        refine own_block O1.out fun z hz => K3.out.2.2 z (own_lt O1.out z hz).2 fun q => ?_
        have h1 := (own_lt O1.out z hz).1
        have h2 := HG.out.1.fp z q
        omega
      have SZ : Hid (w.heap.size ≤ W3.heap.size) := Nat.le_trans hM.out.low.size K3.out.1.size
      clear eW3 b0 y0 hPl
      go_wp2_with (at_builtin; refine wpList_append_own _ rfl _ _ 22 rfl w.heap.size 3 ii (.int .i64 0) 1 8 Try.underlying22 HJ.out.1 HJ.out.2.1 HJ.out.2.2.1 HJ.out.2.2.2 rfl (by decide) (.slice q ll cap) ll (((l.ws.take k).drop (nx m)).map (Value.int .i64)) rfl (by exact own_block O3.out fun b hb => Below.heap_alloc _ _ _ (own_lt O3.out b hb).2) ⟨W3.heap.size, 0, none⟩ 1 1 [.int .i64 x] rfl rfl (by exact new_int W3 _ rfl _ 3) (int_one _) (by unfold maxLen; omega) (by omega) (by have := SZ.out; simp; omega) ?_; intro v1 w4 hown hgrow _; obtain ⟨q1, k1, rfl⟩ := own_form hown; have HO1 : Hid (w4.ownsRow w.heap.size 3 1 (.slice q1 (ll + 1) k1) (ll + 1) (((l.ws.take k).drop (nx m)).map (Value.int .i64) ++ [.int .i64 x])) := hown; have HG1 : Hid ((W3.alloc (.cells #[.int .i64 x] 3)).grownBy w4 (Value.slice q ll cap).ownBlock) := hgrow; clear hown hgrow)
      go_roundw
      case rel =>
        have e : (l.ws.take (k + 1)).drop (nx m) = (l.ws.take k).drop (nx m) ++ [x] := by rw [HX.out.2.2.2]; exact part_succ hM.out.lo HX.out.2.1
        have hbl : ∀ z, z < W3.heap.size → (Value.slice q ll cap).ownBlock ≠ some z → w4.heap[z]? = W3.heap[z]? := fun z hz hn => by
          rw [HG1.out.block z (by simp; omega) (fun e => hn e.symm)]
          exact Below.heap_alloc _ _ _ hz
        have hfp : ∀ z ∈ fpL P mS l.n mb, (Value.slice q ll cap).ownBlock ≠ some z := fun z hz e => by
          have h1 := (own_lt O3.out z e).1
          have h2 := HG.out.1.fp z hz
          omega
        have hA : LF w4 base P mS mb (rcN l (up nx m (k + 1))) := F3.out.of_blocks fun z hz => hbl z (F3.out.fp z hz).2 (hfp z hz)
        have hBl : Below base W3 w4 := ((Below.refl base W3).alloc (by have := SZ.out; have := HG.out.2.2.2; omega) _).grown HG1.out (by have := SZ.out; have := HG.out.2.2.2; simp; omega) (fun z hz => by have := (own_lt O3.out z hz).1; have := HG.out.2.2.2; omega)
        refine ⟨k + 1, Nat.le_succ_of_le hM.out.lo, HX.out.1, ?_, hA, (hM.out.low.trans K3.out.1).trans hBl, Nat.le_trans SZ.out hBl.size, fun z hz hn => ?_⟩
        · rw [e]
          show World.ownsRow _ _ _ _ _ _ _
          rw [List.length_append, List.map_append, HL.out]
          exact HO1.out
        · rw [hbl z (by have := SZ.out; omega) (fun e => by have := (own_lt O3.out z e).1; omega)]
          exact (kp_trans hM.out.kp K3.out.2).2 z hz hn
      case measure => simp [lenOf]; omega
/-! Take -/
theorem tk_no1 (h : LF w base P mS mb (rc l)) (who at_ : Int) (hc : ¬ (0 ≤ who ∧ who < (l.n : Int))) : Calls Try.prog 8 #[.pointer (some ⟨P, 0, none⟩), .int .i64 who, .int .i64 at_] w fun x w' => x = .returned (.tuple #[.slice none 0 0, errF 1]) ∧ w' = w := by
  have d1 : Hid (decide (0 ≤ who ∧ who < ((rc l).n : Int)) = false) := decide_eq_false hc
  have HG : Hid (LF w base P mS mb (rc l)) := h
  rw [errF_no (by decide)]
  clear h hc
  go_enter Try.func8, Try.ntmps8
  go_wp2_with fail
  refine (hasL_any HG.out who).mono ?_
  rintro e w ⟨rfl, rfl⟩
  rw [d1.out]
  go_wp2
  go_ret2
  exact ⟨rfl, rfl⟩
theorem tk_no5 (h : LF w base P mS mb (rc l)) (m : Nat) (hm : m < l.n) (at_ : Int) (hx : (Lit.int .i64 at_).wf = true) (hc : ¬ (0 ≤ at_ ∧ at_ < (l.ws.length : Int))) : Calls Try.prog 8 #[.pointer (some ⟨P, 0, none⟩), .int .i64 (m : Int), .int .i64 at_] w fun x w' => x = .returned (.tuple #[.slice none 0 0, errF 5]) ∧ Below w.heap.size w w' := by
  have d1 : Hid (decide (0 ≤ (m : Int) ∧ (m : Int) < ((rc l).n : Int)) = true) := decide_eq_true ⟨by omega, by show (m : Int) < (l.n : Int); omega⟩
  have d2 : Hid (decide (0 ≤ at_ ∧ at_ < (l.ws.length : Int)) = false) := decide_eq_false hc
  have HG : Hid (LF w base P mS mb (rc l) ∧ (Lit.int .i64 at_).wf = true) := ⟨h, hx⟩
  rw [errF_no (by decide)]
  clear h hc hx hm
  go_enter Try.func8, Try.ntmps8
  go_wp2_with fail
  refine (hasL_any HG.out.1 (m : Int)).mono ?_
  rintro e w ⟨rfl, rfl⟩
  rw [d1.out]
  go_wp2_with fail
  refine (givenG (nx := hn l) HG.out.1 at_ HG.out.2).mono ?_
  rintro e w1 ⟨rfl, hb⟩
  rw [d2.out]
  have B1 : Hid _ := hb
  clear hb
  go_wp2
  go_ret2
  exact ⟨rfl, B1.out⟩
set_option maxRecDepth 100000 in
theorem tk_old (h : LF w base P mS mb (rc l)) (hi : Inv l) (m k : Nat) (hm : m < l.n) (hk : k < l.ws.length) (hc : l.come m k = true) : Calls Try.prog 8 #[.pointer (some ⟨P, 0, none⟩), .int .i64 (m : Int), .int .i64 (k : Int)] w fun x w' => x = .returned (.tuple #[.slice none 0 0, .nilIface]) ∧ Below w.heap.size w w' := by
  have d1 : Hid (decide (0 ≤ (m : Int) ∧ (m : Int) < ((rc l).n : Int)) = true) := decide_eq_true ⟨by omega, by show (m : Int) < (l.n : Int); omega⟩
  have d2 : Hid (decide (0 ≤ (k : Int) ∧ (k : Int) < (l.ws.length : Int)) = true) := decide_eq_true ⟨by omega, by omega⟩
  have h30 := hi.len
  have HG : Hid (LF w base P mS mb (rc l) ∧ Inv l ∧ m < l.n ∧ k ≤ 30 ∧ l.come m k = true) := ⟨h, hi, hm, by omega, hc⟩
  clear h hc hi hm hk h30
  go_enter Try.func8, Try.ntmps8
  go_wp2_with fail
  refine (hasL_any HG.out.1 (m : Int)).mono ?_
  rintro e w ⟨rfl, rfl⟩
  rw [d1.out]
  go_wp2_with fail
  refine (givenG (nx := hn l) HG.out.1 (k : Int) (wfI (by omega) (by have := HG.out.2.2.2.1; omega))).mono ?_
  rintro e w1 ⟨rfl, hb⟩
  rw [d2.out]
  have B1 : Hid (Below w.heap.size w w1) := hb
  clear hb
  go_wp2_with fail
  refine (cameG (HG.out.1.later B1.out) HG.out.2.1 HG.out.2.2.1 (k := k) (by have := HG.out.2.2.2.1; omega)).mono ?_
  rintro e w2 ⟨rfl, hb⟩
  rw [HG.out.2.2.2.2]
  have B2 : Hid (Below w.heap.size w w2) := B1.out.trans (hb.mono B1.out.size)
  clear hb
  go_wp2
  go_ret2
  exact ⟨rfl, B2.out⟩
set_option maxRecDepth 100000 in
set_option maxHeartbeats 1000000 in
theorem tk_new (h : LF w base P mS mb (rc l)) (hi : Inv l) (hi' : Inv (got l m k)) (hbw : base ≤ w.heap.size) (hm : m < l.n) (hk : k < l.ws.length) (hc : l.come m k = false) : Calls Try.prog 8 #[.pointer (some ⟨P, 0, none⟩), .int .i64 (m : Int), .int .i64 (k : Int)] w fun x w' => ∃ v, x = .returned (.tuple #[v, .nilIface]) ∧ Ow w' w.heap.size v ((l.ws.take (hn (got l m k) m)).drop (hn l m)) ∧ LF w' base P mS mb (rc (got l m k)) ∧ Below base w w' ∧ KpL w w' (fpL P mS l.n mb) := by
  have hm5 : m < 5 := Nat.lt_of_lt_of_le hm h.five
  have d1 : Hid (decide (0 ≤ (m : Int) ∧ (m : Int) < ((rc l).n : Int)) = true) := decide_eq_true ⟨by omega, by show (m : Int) < (l.n : Int); omega⟩
  have d2 : Hid (decide (0 ≤ (k : Int) ∧ (k : Int) < (l.ws.length : Int)) = true) := decide_eq_true ⟨by omega, by omega⟩
  have h30 := hi.len
  have HG : Hid (LF w base P mS mb (rc l) ∧ Inv l ∧ m < l.n ∧ k < l.ws.length ∧ l.come m k = false ∧ base ≤ w.heap.size ∧ Inv (got l m k)) := ⟨h, hi, hm, hk, hc, hbw, hi'⟩
  have hk30 : k ≤ 30 := by omega
  have hm0 : (0 : Int) ≤ (m : Int) := by omega
  have hm5' : (m : Int) < 5 := by omega
  have HNK : Hid (hn l m ≤ k) := by
    rcases Nat.lt_or_ge k (hn l m) with z | z
    · rw [hn_come z] at hc; cases hc
    · exact z
  clear h hc hi hm hk h30 hm5 hbw hi'
  go_enter Try.func8, Try.ntmps8
  go_wp2_with fail
  refine (hasL_any HG.out.1 (m : Int)).mono ?_
  rintro e w ⟨rfl, rfl⟩
  rw [d1.out]
  go_wp2_with fail
  refine (givenG (nx := hn l) HG.out.1 (k : Int) (wfI (by omega) (by omega))).mono ?_
  rintro e w1 ⟨rfl, hb⟩
  rw [d2.out]
  have B1 : Hid (Below w.heap.size w w1) := hb
  clear hb
  go_wp2_with fail
  refine (cameG (HG.out.1.later B1.out) HG.out.2.1 HG.out.2.2.1 (k := k) (by omega)).mono ?_
  rintro e w2 ⟨rfl, hb⟩
  rw [HG.out.2.2.2.2.1]
  have B2 : Hid (Below w.heap.size w w2) := B1.out.trans (hb.mono B1.out.size)
  have G2 : Hid (LF w2 base P mS mb (rc l)) := HG.out.1.later B2.out
  have c1 := G2.out.c1
  have c5 : w2.cell? ⟨P, 7 + m, none⟩ = some (.map (some (mb m))) := G2.out.cw HG.out.2.2.1
  obtain ⟨x, ex⟩ : ∃ x : Int, x = l.ws.getD k 0 := ⟨_, rfl⟩
  have HX : Hid (x = l.ws.getD k 0) := ex
  have HW : Hid ((Lit.int .i64 (k : Int)).wf = true) := wfI (by omega) (by omega)
  have hlk : (Instr.lookup 62 (.map (some mS)) (.int .i64 (k : Int)) false).run Try.prog w2.drew = .ok (.int .i64 x) w2.drew := by
    rw [ex]
    exact G2.out.lkS (s := some (l.ws.getD k 0)) HW.out (TS_at HG.out.2.2.2.1) w2.drew rfl
  have hlk0 : ∀ j, (Instr.lookup 62 (.map (some mS)) (.int .i64 (k : Int)) false).run Try.prog (w2.drewN j) = .ok (.int .i64 x) (w2.drewN j) := fun j => by
    rw [ex]
    exact G2.out.lkS (s := some (l.ws.getD k 0)) HW.out (TS_at HG.out.2.2.2.1) (w2.drewN j) rfl
  obtain ⟨W3, e3, m3, t3⟩ := ((G2.out.heap (w' := w2.drew) rfl).wait m HG.out.2.2.1).put Try.underlying62 HW.out (.int .i64 x) (by show cW l m (hn l m) < _; have := cW_le l m (hn l m); have := HG.out.2.1.len; omega)
  have G3 : Hid (LF W3 base P mS mb (rcN (got l m k) (hn l)) ∧ Below base w W3 ∧ KpL w W3 (fpL P mS l.n mb)) := by
    have hq : TW l m (hn l m) (k : Int) = none := by rw [TW_at _ HNK.out, HG.out.2.2.2.2.1]; rfl
    have z := (G2.out.heap (w' := w2.drew) rfl).turnW HG.out.2.2.1 m3 t3
    refine ⟨z.congr rfl (fun i => rfl) rfl (fun j hj i => ?_) (fun j hj => ?_) (fun j hj => rfl), ?_, ?_⟩
    · show TW (got l m k) j (hn l j) i = up (fun j => TW l j (hn l j)) m (putT (TW l m (hn l m)) (k : Int) (.int .i64 x)) j i
      by_cases e : j = m
      · subst e
        rw [up_same, TW_got HNK.out, ex]
        rfl
      · rw [up_other _ _ e, TW_got_other e]
    · show cW (got l m k) j (hn l j) = up (fun j => cW l j (hn l j)) m (if (TW l m (hn l m) (k : Int)).isSome = true then cW l m (hn l m) else cW l m (hn l m) + 1) j
      by_cases e : j = m
      · subst e
        rw [up_same, hq, cW_got HNK.out HG.out.2.2.2.1 HG.out.2.2.2.2.1]
        rfl
      · rw [up_other _ _ e, cW_got_other e]
    · exact ((B2.out.mono HG.out.2.2.2.2.2.1).drew).trans (turned_below t3 (HG.out.1.low.2.2 m HG.out.2.2.1))
    · exact kp_trans (kp_heap (KpL.below B2.out _) (w3 := w2.drew) rfl) (kp_turned t3 (W_fp HG.out.2.2.1))
  clear hb m3 t3 ex
  go_wp2_with fail
  go_region
  clear c1 c5 hlk hlk0 e3
  go_wp2_with fail
  refine (hearL_any (l := got l m k) G3.out.1 HG.out.2.2.2.2.2.2 (Nat.le_trans HG.out.2.2.2.2.2.1 G3.out.2.1.size) m HG.out.2.2.1 (hn_got_le l m k m)).mono ?_
  rintro e w4 ⟨v, rfl, ho, hL, hb, hk⟩
  have R : Hid (Ow w4 w.heap.size v ((l.ws.take (hn (got l m k) m)).drop (hn l m)) ∧ LF w4 base P mS mb (rc (got l m k)) ∧ Below base w w4 ∧ KpL w w4 (fpL P mS l.n mb)) := by
    refine ⟨own_mono ho G3.out.2.1.size, ?_, G3.out.2.1.trans hb, kp_trans G3.out.2.2 hk⟩
    have e : up (hn l) m (hn (got l m k) m) = hn (got l m k) := by
      funext j
      by_cases q : j = m
      · rw [q, up_same]
      · rw [up_other _ _ q, hn_got_other q]
    unfold rc
    rw [← e]
    exact hL
  clear ho hL hb hk
  go_wp2
  go_ret2
  exact ⟨_, rfl, R.out⟩
theorem tkL (base P : Nat) (l : L) (fp : List Nat) (who at_ : Int) (w : World) (h : LS w base P l fp) (hi : Inv l) (hbw : base ≤ w.heap.size) (hwf : (Lit.int .i64 at_).wf = true) : Calls Try.prog 8 #[.pointer (some ⟨P, 0, none⟩), .int .i64 who, .int .i64 at_] w fun x w' => ∃ v fp', x = .returned (.tuple #[v, errF (tkC l who at_)]) ∧ Sl w' v (tkO l who at_) ∧ LS w' base P (tk l who at_) fp' ∧ Below base w w' ∧ KpL w w' fp ∧ NewL w fp fp' := by
  obtain ⟨mS, mb, rfl, h⟩ := h
  by_cases hc : 0 ≤ who ∧ who < (l.n : Int)
  · obtain ⟨m, rfl⟩ : ∃ m : Nat, who = (m : Int) := ⟨who.toNat, by omega⟩
    have hm : m < l.n := by omega
    by_cases hk : 0 ≤ at_ ∧ at_ < (l.ws.length : Int)
    · obtain ⟨k, rfl⟩ : ∃ k : Nat, at_ = (k : Int) := ⟨at_.toNat, by omega⟩
      have hk' : k < l.ws.length := by omega
      have e0 : tkC l (m : Int) (k : Int) = 0 := (tk_came hm hk').2
      have e1 : tk l (m : Int) (k : Int) = got l m k := tk_got hm hk'
      have e2 : tkO l (m : Int) (k : Int) = (l.ws.take (hn (got l m k) m)).drop (hn l m) := by
        unfold tkO
        rw [if_pos e0, e1, Int.toNat_natCast]
      have hi' : Inv (got l m k) := by rw [← e1]; exact hi.tk _ _
      rw [e0, e1, e2, errF_ok]
      cases hq : l.come m k with
      | true =>
        have e3 : got l m k = l := got_same hq
        have e4 : (l.ws.take (hn l m)).drop (hn l m) = [] := List.drop_eq_nil_of_le (by rw [List.length_take]; omega)
        rw [e3, e4]
        refine (tk_old h hi m k hm hk' hq).mono ?_
        rintro x w' ⟨rfl, hb⟩
        exact ⟨_, _, rfl, Sl.nil _, ⟨mS, mb, rfl, h.later hb⟩, hb.mono hbw, KpL.below hb _, NewL.refl _ _⟩
      | false =>
        refine (tk_new h hi hi' hbw hm hk' hq).mono ?_
        rintro x w' ⟨v, rfl, ho, h', hb, hkp⟩
        exact ⟨v, _, rfl, Sl.of_own ho, ⟨mS, mb, rfl, h'⟩, hb, hkp, NewL.refl _ _⟩
    · have e0 : tkC l (m : Int) at_ = 5 := by
        unfold tkC
        rw [if_neg (by rw [in_ok hm]; decide), if_pos (by omega)]
      have e1 : tk l (m : Int) at_ = l := by unfold tk; rw [e0, if_neg (by decide)]
      have e2 : tkO l (m : Int) at_ = [] := by unfold tkO; rw [e0, if_neg (by decide)]
      rw [e0, e1, e2]
      refine (tk_no5 h m hm at_ hwf hk).mono ?_
      rintro x w' ⟨rfl, hb⟩
      exact ⟨_, _, rfl, Sl.nil _, ⟨mS, mb, rfl, h.later hb⟩, hb.mono hbw, KpL.below hb _, NewL.refl _ _⟩
  · have e0 : tkC l who at_ = 1 := by
      unfold tkC
      rw [if_pos (by rw [out_no hc]; decide)]
    have e1 : tk l who at_ = l := by unfold tk; rw [e0, if_neg (by decide)]
    have e2 : tkO l who at_ = [] := by unfold tkO; rw [e0, if_neg (by decide)]
    rw [e0, e1, e2]
    refine (tk_no1 h who at_ hc).mono ?_
    rintro x w' ⟨rfl, rfl⟩
    exact ⟨_, _, rfl, Sl.nil _, ⟨mS, mb, rfl, h⟩, Below.refl _ _, kp_refl _ _, NewL.refl _ _⟩
end Go.Proofs.Ytcccheeeagphpag.Ldr
