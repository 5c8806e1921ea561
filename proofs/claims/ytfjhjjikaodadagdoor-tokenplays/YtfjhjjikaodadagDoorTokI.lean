/-
  Contract of package token's Pass.
-/
import Derived.Test.YtfjhjjikaodadagDoorTokH
namespace Go.Proofs.YtfjhjjikaodadagDoor.Tok
open Go.RowKit Go.Maps
open Go.Proofs.YtfjhjjikaodadagDoor.Fif (own_lt own_block own_form own_mono own_vw ret_bool info_int lenOf new_int int_one)
open Go.Proofs.YtfjhjjikaodadagDoor.MapV (MM putT delT wfI turned_below g_of_turned)
open Go.Proofs.YtfjhjjikaodadagDoor.Sep (KpL NewL)
set_option linter.unusedVariables false
variable {w w' : World} {base P mS : Nat} {mb nx : Nat → Nat} {S : Int → Option Value} {c : Nat} {k : K}

/-- as far as it goes -/
structure PMT (w wr : World) (base P mS : Nat) (mb nx : Nat → Nat) (k : K) (y : Value) (j : Nat) : Prop where
  out : wr.ownsRow w.heap.size 37 2 y j (flatP (plN k.pl ((k.wt k.hold).take j)))
  mem : MF wr base P mS mb (up nx k.hold (nx k.hold + j)) (SD k) (cs k) (many k j)
  low : Below base w wr
  kp : KpL w wr (fpT P mS k.n mb)
theorem new_two (w : World) (B : Nat) (hB : B = w.heap.size) (x y : Int) (t : TypeId) : ∀ j u, (flatP [(x, y)])[j]? = some u → (w.alloc (.cells #[.int .i64 x, .int .i64 y] t)).cell? ((⟨B, 0, none⟩ : Addr).add j) = some u := by
  subst hB
  exact new_pushP rfl
set_option maxRecDepth 100000 in
set_option maxHeartbeats 1000000 in
theorem pass_any (h : MF w base P mS mb nx (SD k) (cs k) k) (hi : Inv k) (hbw : base ≤ w.heap.size) : Calls Tryd.prog 17 #[.pointer (some ⟨P, 0, none⟩)] w fun e w' => ∃ v nx', e = .returned v ∧ Po w' w.heap.size v (passL k) ∧ MF w' base P mS mb nx' (SD k) (cs k) (pass k) ∧ Below base w w' ∧ KpL w w' (fpT P mS k.n mb) := by
  have hm5 : k.hold < 5 := Nat.lt_of_lt_of_le hi.hold h.five
  obtain ⟨m, em⟩ : ∃ m, m = k.hold := ⟨_, rfl⟩
  obtain ⟨n, en⟩ : ∃ n, n = (k.wt m).length := ⟨_, rfl⟩
  obtain ⟨mo, emo⟩ : ∃ mo, mo = k.most := ⟨_, rfl⟩
  have HG : Hid (MF w base P mS mb nx (SD k) (cs k) k ∧ Inv k ∧ base ≤ w.heap.size) := ⟨h, hi, hbw⟩
  have EM : Hid (m = k.hold ∧ n = (k.wt m).length ∧ mo = k.most) := ⟨em, en, emo⟩
  have hn30 : n ≤ 30 := by have := hi.len m; omega
  have hmo : 1 ≤ mo ∧ mo ≤ 10 := by have := hi.m1; have := hi.m10; omega
  have c1 := h.c1
  have c2 := h.c2
  have cw := h.cw hi.hold
  rw [← emo] at c1
  rw [← em] at c2 cw
  have hln : (Builtin.len_ #[61] 3 #[.map (some (mb m))]).run Tryd.prog w.drew = .ok (.int .i64 (n : Nat)) w.drew := by
    have q := mm_len (h.wait m (by rw [em]; exact hi.hold)) 3 w.drew rfl
    rw [← en] at q
    exact q
  obtain ⟨q, eq⟩ : ∃ q, q = min mo n := ⟨_, rfl⟩
  have hq : q ≤ 10 ∧ q ≤ n := by omega
  have EQ : Hid (q = min mo n ∧ q = (out k).length) := ⟨eq, by unfold out; rw [List.length_take, eq, emo, en, em]⟩
  have hm0 : (0 : Int) ≤ (m : Int) := by omega
  have hm5' : (m : Int) < 5 := by omega
  have HMI : Hid ((if n < mo then (n : Int) else (mo : Int)) = (q : Int)) := by show _ = _; split <;> omega
  obtain ⟨ip, hip, hz0, hz1, hz2⟩ := info_pl
  have HP : Hid (Tryd.prog.info? 37 = some ip ∧ ip.zero = some (.agg #[.int .i64 0, .int .i64 0]) ∧ ip.size = 2 ∧ ip.bytes = 16) := ⟨hip, hz0, hz1, hz2⟩
  clear h hi hbw em en emo eq hm5 hip hz0 hz1 hz2
  go_enter Tryd.func17, Tryd.ntmps17
  go_wp2_with fail
  go_region
  rw [HMI.out]
  have M0 : Hid (PMT w w.drew base P mS mb nx k (.slice none 0 0) 0) := by
    refine ⟨World.ownsRow_nil _ _ _ _, ?_, (Below.refl _ _).drew, kp_heap (kp_refl _ _) rfl⟩
    rw [many_zero, Nat.add_zero, up_self]
    exact HG.out.1.heap rfl
  clear c1 c2 cw hln
  go_wp2
  go_loopw [3, 19] (fun y i wr => ∃ j : Nat, j ≤ q ∧ i = .int .i64 (j : Int) ∧ Hid (PMT w wr base P mS mb nx k y j)) (fun _ i _ => q - (intOf i).toNat)
  case atStart => exact ⟨0, by omega, rfl, M0⟩
  case round =>
    obtain ⟨j, hj, rfl, hM⟩ := hrel
    by_cases hlt : j < q
    · have hkl : (j : Int) < (q : Int) := by omega
      obtain ⟨qo, co, rfl⟩ := own_form hM.out.out
      obtain ⟨x, ex⟩ : ∃ x : Int, x = (k.wt k.hold).getD j 0 := ⟨_, rfl⟩
      obtain ⟨pj, ep⟩ : ∃ pj, pj = k.pl + j := ⟨_, rfl⟩
      have HX : Hid (x = (k.wt k.hold).getD j 0 ∧ pj = k.pl + j ∧ j < (k.wt k.hold).length) := ⟨ex, ep, by have h1 := EM.out.2.1; rw [EM.out.1] at h1; omega⟩
      have hdrop : (many k j).wt (many k j).hold = x :: (k.wt k.hold).drop (j + 1) := by
        show up k.wt k.hold ((k.wt k.hold).drop j) k.hold = _
        rw [up_same, ex, List.drop_eq_getElem_cons HX.out.2.2]
        simp [List.getD, HX.out.2.2]
      have HD : Hid ((many k j).wt (many k j).hold = x :: (k.wt k.hold).drop (j + 1)) := hdrop
      have hnb := hM.out.mem.nb k.hold
      have hnb2 : k.pl + j ≤ 1000 := by have := HG.out.2.1.len k.hold; have := HX.out.2.2; omega
      have HN : Hid ((up nx k.hold (nx k.hold + j)) (many k j).hold ≤ 1000 ∧ (many k j).pl ≤ 1000) := ⟨Nat.le_trans hnb hnb2, hnb2⟩
      clear hdrop hnb hnb2 ex ep
      go_wp2_with fail
      refine (firstT hM.out.mem (Nat.le_trans HG.out.2.2 hM.out.low.size) HG.out.2.1.hold HN.out.1 HN.out.2 HD.out).mono ?_
      rintro e w2 ⟨rfl, hF, hB, hK⟩
      have epl : ((many k j).pl : Int) = (pj : Int) := by rw [HX.out.2.1]; rfl
      rw [epl]
      have F2 : Hid (MF w2 base P mS mb (up nx k.hold (nx k.hold + (j + 1))) (SD k) (cs k) (many k (j + 1)) ∧ Below base wr w2 ∧ KpL wr w2 (fpT P mS k.n mb)) := by
        refine ⟨?_, hB, hK⟩
        have q1 : up (up nx k.hold (nx k.hold + j)) k.hold ((up nx k.hold (nx k.hold + j)) k.hold + 1) = up nx k.hold (nx k.hold + (j + 1)) := by rw [up_up, up_same]; rfl
        rw [← many_one, ← q1]
        exact hF
      have O2 : Hid (w2.ownsRow w.heap.size 37 2 (.slice qo j co) j (flatP (plN k.pl ((k.wt k.hold).take j)))) := by
        refine own_block hM.out.out fun z hz => F2.out.2.2.2 z (own_lt hM.out.out z hz).2 fun q => ?_
        have h1 := (own_lt hM.out.out z hz).1
        have h2 := HG.out.1.fp z q
        omega
      have SZ : Hid (w.heap.size ≤ w2.heap.size ∧ base ≤ w.heap.size) := ⟨Nat.le_trans hM.out.low.size F2.out.2.1.size, HG.out.2.2⟩
      clear hF hB hK epl
      go_wp2_with (at_builtin; refine wpList_append_own _ rfl _ _ 56 rfl w.heap.size 37 ip (.agg #[.int .i64 0, .int .i64 0]) 2 16 Tryd.underlying56 HP.out.1 HP.out.2.1 HP.out.2.2.1 HP.out.2.2.2 rfl (by decide) (.slice qo j co) j (flatP (plN k.pl ((k.wt k.hold).take j))) rfl (by exact own_block O2.out fun b hb => Below.heap_alloc _ _ _ (own_lt O2.out b hb).2) ⟨w2.heap.size, 0, none⟩ 1 1 (flatP [((pj : Int), x)]) rfl rfl (by exact new_two w2 _ rfl _ _ 37) (flatP_one _) (by unfold maxLen; omega) (by omega) (by have := SZ.out.1; simp; omega) ?_; intro v1 w4 hown hgrow _; obtain ⟨q1, k1, rfl⟩ := own_form hown; have HO1 : Hid (w4.ownsRow w.heap.size 37 2 (.slice q1 (j + 1) k1) (j + 1) (flatP (plN k.pl ((k.wt k.hold).take j)) ++ flatP [((pj : Int), x)])) := hown; have HG1 : Hid ((w2.alloc (.cells #[.int .i64 (pj : Int), .int .i64 x] 37)).grownBy w4 (Value.slice qo j co).ownBlock) := hgrow; clear hown hgrow)
      go_roundw
      case rel =>
        have hbl : ∀ z, z < w2.heap.size → (Value.slice qo j co).ownBlock ≠ some z → w4.heap[z]? = w2.heap[z]? := fun z hz hn => by
          rw [HG1.out.block z (by simp; omega) (fun e => hn e.symm)]
          exact Below.heap_alloc _ _ _ hz
        have hfp : ∀ z ∈ fpT P mS k.n mb, (Value.slice qo j co).ownBlock ≠ some z := fun z hz e => by
          have h1 := (own_lt O2.out z e).1
          have h2 := HG.out.1.fp z hz
          omega
        have hBl : Below base w2 w4 := ((Below.refl base w2).alloc (by have := SZ.out; omega) _).grown HG1.out (by have := SZ.out; simp; omega) (fun z hz => by have := (own_lt O2.out z hz).1; have := SZ.out; omega)
        refine ⟨j + 1, by omega, by go_num, ?_, F2.out.1.of_blocks fun z hz => hbl z (F2.out.1.fp z hz).2 (hfp z hz), (hM.out.low.trans F2.out.2.1).trans hBl, Nat.le_trans SZ.out.1 hBl.size, fun z hz hn => ?_⟩
        · rw [plN_take k.pl HX.out.2.2, flatP_append, ← HX.out.2.1, ← HX.out.1]
          exact HO1.out
        · rw [hbl z (by have := SZ.out.1; omega) (fun e => by have := (own_lt O2.out z e).1; omega)]
          exact (kp_trans hM.out.kp F2.out.2.2).2 z hz hn
      case measure => simp [intOf]; omega
    · have ej : j = q := by omega
      have hkl : ¬ (j : Int) < (q : Int) := by omega
      have HQ : Hid (PMT w wr base P mS mb nx k u3 q) := by rw [ej] at hM; exact hM
      clear hM ej
      obtain ⟨nn, enn⟩ : ∃ nn, nn = k.n := ⟨_, rfl⟩
      have c0 : wr.cell? ⟨P, 0, none⟩ = some (.int .i64 (nn : Int)) := by rw [enn]; exact HQ.out.mem.c0
      have c2 : wr.cell? ⟨P, 2, none⟩ = some (.int .i64 (m : Int)) := by rw [EM.out.1]; exact HQ.out.mem.c2
      have z2 := HQ.out.mem.fr 2
      have hPl : P < wr.heap.size := HQ.out.mem.lt
      have hnn : 2 ≤ nn ∧ nn ≤ 5 ∧ m < nn := by have := HG.out.2.1.two; have := HG.out.2.1.five; have := HG.out.2.1.hold; have := EM.out.1; omega
      have EN : Hid (nn = k.n) := enn
      have hn0 : (nn : Int) ≠ 0 := by omega
      have hn0' : nn ≠ 0 := by omega
      clear enn
      go_wp2_with fail
      go_region
      have ey : ((m : Int) + 1) % (nn : Int) = ((nxt k : Nat) : Int) := by
        rw [nxt_mod HG.out.2.1, ← EN.out, ← EM.out.1]
        simp
      rw [ey]
      obtain ⟨W5, eW5⟩ : ∃ W5, W5 = (wr.setCell ⟨P, 2, none⟩ (.int .i64 ((nxt k : Nat) : Int))).drew := ⟨_, rfl⟩
      rw [← eW5]
      have H5 : Hid (MF W5 base P mS mb (up nx k.hold (nx k.hold + q)) (SD k) (cs k) (pass k) ∧ Below base w W5 ∧ KpL w W5 (fpT P mS k.n mb) ∧ Po W5 w.heap.size u3 (passL k)) := by
        have z := HQ.out.mem.setHold (nxt k)
        have e1 : pass k = { many k q with hold := nxt k } := by rw [pass_many, ← EQ.out.2]
        have e2 : (k.wt k.hold).take q = out k := by
          unfold out
          rw [EQ.out.1, EM.out.2.1, EM.out.2.2, EM.out.1]
          rcases Nat.le_total k.most (k.wt k.hold).length with q1 | q1
          · rw [Nat.min_eq_left q1]
          · rw [Nat.min_eq_right q1, List.take_of_length_le q1, List.take_of_length_le (Nat.le_refl _)]
        rw [e1, eW5]
        refine ⟨z.heap rfl, (HQ.out.low.setCell (p := ⟨P, 2, none⟩) HG.out.1.low.1 _).drew, kp_heap (kp_trans HQ.out.kp (kp_set wr 2 _ P_fp)) rfl, ?_⟩
        have o := HQ.out.out
        rw [e2] at o
        show World.ownsRow _ _ _ _ _ _ _
        have e3 : (passL k).length = q := by unfold passL; rw [plN_len, ← EQ.out.2]
        rw [e3]
        refine own_block o fun b hb => ?_
        show (wr.setCell ⟨P, 2, none⟩ (.int .i64 ((nxt k : Nat) : Int))).heap[b]? = _
        rw [Deep.blk_setCell_other _ _ _ _ (by have h1 := (own_lt o b hb).1; have h2 := HG.out.1.lt; show b ≠ P; omega)]
      clear eW5 ey c0 c2 z2 hPl
      go_wp2
      go_ret
      exact ⟨_, _, rfl, H5.out.2.2.2, H5.out.1, H5.out.2.1, H5.out.2.2.1⟩
theorem passT (base P : Nat) (k : K) (fp : List Nat) (w : World) (h : TS w base P k fp) (hi : Inv k) (hbw : base ≤ w.heap.size) : Calls Tryd.prog 17 #[.pointer (some ⟨P, 0, none⟩)] w fun x w' => ∃ a c fp', x = .returned (.slice a (passL k).length c) ∧ Pl w' a (passL k).length (passL k) ∧ ((passL k).length ≤ c ∧ c ≤ maxLen) ∧ (∀ ad, a = some ad → 0 < (passL k).length → w.heap.size ≤ ad.block ∧ ad.block ∉ fp') ∧ TS w' base P (pass k) fp' ∧ Below base w w' ∧ KpL w w' fp ∧ NewL w fp fp' := by
  obtain ⟨mS, mb, nx, rfl, h⟩ := h
  refine (pass_any h hi hbw).mono ?_
  rintro x w' ⟨v, nx', rfl, ho, hf, hb, hk⟩
  obtain ⟨a, cap, rfl, h1, h2, h3, h4⟩ := Po.pl ho
  refine ⟨a, cap, fpT P mS k.n mb, rfl, h3, ⟨h1, h2⟩, fun ad e _ => ⟨h4 ad e, fun q => ?_⟩, ⟨mS, mb, nx', rfl, hf⟩, hb, hk, NewL.refl _ _⟩
  have := h4 ad e
  have := (h.fp _ q).2
  omega
end Go.Proofs.YtfjhjjikaodadagDoor.Tok
