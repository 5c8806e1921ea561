/-
  The document's own picture: Come.
-/
import Derived.Test.YtgcdbcljneoifajDoorPiqV
import Derived.Test.YtgcdbcljneoifajDoorPicH
namespace Go.Proofs.YtgcdbcljneoifajDoor.Pic
open Go.RowKit
open Go.Proofs.YtgcdbcljneoifajDoor.Fif (own_lt own_block own_form own_vw ret_bool info_int new_int int_one)
open Go.Proofs.YtgcdbcljneoifajDoor.Vec (Vw)
open Go.Proofs.YtgcdbcljneoifajDoor.Off (OR)
set_option linter.unusedVariables false
variable {w w' wr : World} {base R gb gc : Nat} {g : G} {ov : Nat → Value} {all : Int}

theorem RP.wayO (h : RP w base R g gb gc ov) {a c : Nat} (ha : a < 5) (hc : c < 5) : OR w base (ov (a * 5 + c)) (g.way a c) ∧ w.cell? ⟨R, 1 + a * 5 + c, none⟩ = some (ov (a * 5 + c)) := by
  have hw := h.ways (a * 5 + c) (by omega)
  rw [show (a * 5 + c) / 5 = a by omega, show (a * 5 + c) % 5 = c by omega] at hw
  refine ⟨hw, ?_⟩
  rw [show 1 + a * 5 + c = 1 + (a * 5 + c) by omega]
  exact h.cw (by omega)
theorem come_none {a b : Int} (hc : comeC g a b ≠ 0) (h0 : wayC g a b = 0) : comeC g a b = 5 ∧ g.way a.toNat b.toNat = [] := by
  unfold comeC at hc ⊢
  rw [if_pos h0] at hc ⊢
  by_cases q : (g.way a.toNat b.toNat).length = 0
  · rw [if_pos q]
    exact ⟨rfl, List.length_eq_zero_iff.1 q⟩
  · rw [if_neg q] at hc; exact absurd rfl hc
set_option maxRecDepth 100000 in
theorem refCome_no (h : RP w base R g gb gc ov) (h5 : g.n ≤ 5) (a b : Int) (hc : comeC g a b ≠ 0) : Calls Tryd.prog 8 #[.pointer (some ⟨R, 0, none⟩), .int .i64 a, .int .i64 b] w fun e w' => e = .returned (.tuple #[.int .i64 0, .int .i64 (comeC g a b)]) ∧ w' = w := by
  have HR : Hid (RP w base R g gb gc ov) := h
  by_cases h0 : wayC g a b = 0
  · obtain ⟨e5, hw⟩ := come_none hc h0
    obtain ⟨i1, i2, -⟩ := way_ok h0
    obtain ⟨i, rfl⟩ : ∃ i : Nat, a = (i : Int) := ⟨a.toNat, by unfold inM at i1; omega⟩
    obtain ⟨j, rfl⟩ : ∃ j : Nat, b = (j : Int) := ⟨b.toNat, by unfold inM at i2; omega⟩
    unfold inM at i1 i2
    rw [Int.toNat_natCast, Int.toNat_natCast] at hw
    obtain ⟨ho, cw⟩ := h.wayO (a := i) (c := j) (by omega) (by omega)
    rw [hw] at ho
    obtain ⟨q, c, e⟩ := ho.form
    rw [e] at cw
    have cw' : w.cell? ⟨R, 1 + i * 5 + j, none⟩ = some (.slice q 0 c) := cw
    have E0 : Hid (wayC g (i : Int) (j : Int) = 0) := h0
    have hi0 : (0 : Int) ≤ (i : Int) := by omega
    have hi5 : (i : Int) < 5 := by omega
    have hj0 : (0 : Int) ≤ (j : Int) := by omega
    have hj5 : (j : Int) < 5 := by omega
    rw [e5]
    clear h h5 hc h0 e5 hw i1 i2 ho e cw
    go_enter Tryd.func8, Tryd.ntmps8
    go_wp2_with fail
    refine (refWay (i : Int) (j : Int) HR.out).mono ?_
    rintro e w ⟨rfl, rfl⟩
    rw [E0.out]
    go_wp2
    go_ret2
    exact ⟨rfl, rfl⟩
  · have e0 : comeC g a b = wayC g a b := by unfold comeC; rw [if_neg h0]
    obtain ⟨c, ec⟩ : ∃ c, c = wayC g a b := ⟨_, rfl⟩
    have hcc : (c != 0) = true := by rw [bne_iff_ne, ec]; exact h0
    have EC : Hid (c = wayC g a b) := ec
    rw [e0, ← ec]
    clear h h5 hc h0 e0 ec
    go_enter Tryd.func8, Tryd.ntmps8
    go_wp2_with fail
    refine (refWay a b HR.out).mono ?_
    rintro e w ⟨rfl, rfl⟩
    rw [← EC.out]
    go_wp2
    go_ret2
    exact ⟨rfl, rfl⟩
set_option maxRecDepth 100000 in
set_option maxHeartbeats 2000000 in
theorem refCome_ok (h : RP w base R g gb gc ov) (hi : Inv all g) (hall : all ≤ 5000) (i j : Nat) (hc : comeC g (i : Int) (j : Int) = 0) : Calls Tryd.prog 8 #[.pointer (some ⟨R, 0, none⟩), .int .i64 (i : Int), .int .i64 (j : Int)] w fun e w' => e = .returned (.tuple #[.int .i64 (comeN g (i : Int) (j : Int)), .int .i64 0]) ∧ ∃ ov', RX w w' base R (come g (i : Int) (j : Int)) gb gc ov ov' := by
  obtain ⟨h0, x, l, hw, hx⟩ := come_ok hc
  obtain ⟨i1, i2, hne⟩ := way_ok h0
  have hin : i < g.n := by unfold inM at i1; omega
  have hjn : j < g.n := by unfold inM at i2; omega
  have hij : i ≠ j := fun e => hne (by rw [e])
  have h5 := hi.two.2
  rw [Int.toNat_natCast, Int.toNat_natCast] at hw
  have hx0 := hi.pos i j x (by rw [hw]; exact List.mem_cons_self)
  have far := hi.far
  have f1 := far.1 j hjn
  have f2 := far.2.1 i j hin hjn
  have f3 := far.2.2.2
  have f4 := hi.gold j hjn
  have f5 := hi.ppos i j
  have hll : l.length ≤ 1000 := by
    have := hi.len i j
    rw [hw, List.length_cons] at this
    split at this <;> omega
  obtain ⟨ho, cw⟩ := h.wayO (a := i) (c := j) (by omega) (by omega)
  rw [hw] at ho
  obtain ⟨gg, off, cap, ev, hcl, hcm, hcx, ht1, ht2⟩ := ho.tail
  obtain ⟨k, ek⟩ : ∃ k, k = l.length + 1 := ⟨_, rfl⟩
  rw [← ek] at ev hcl
  rw [ev] at cw
  have hR : Hid (RP w base R g gb gc ov ∧ i < 5 ∧ j < 5 ∧ i < g.n ∧ j < g.n ∧ i ≠ j ∧ g.n ≤ 5 ∧ ov (i * 5 + j) = .slice (some ⟨gg, off, none⟩) k cap ∧ k = l.length + 1 ∧ g.way i j = x :: l ∧ (cap ≠ 1 → OR w base (.slice (some ⟨gg, off + 1, none⟩) l.length (cap - 1)) l) ∧ (cap = 1 → OR w base (.slice (some ⟨gg, off, none⟩) l.length (cap - 1)) l)) := ⟨h, by omega, by omega, hin, hjn, hij, h5, ev, ek, hw, ht1, ht2⟩
  have HM : Hid ((∀ t, (g.way j t).length ≤ 1000) ∧ (0 ≤ g.gold j ∧ g.gold j ≤ 5000) ∧ (0 ≤ g.part i j ∧ g.part i j ≤ 5000) ∧ (0 ≤ g.ow ∧ g.ow ≤ 5000)) := ⟨fun t => by have := hi.len j t; split at this <;> omega, ⟨f4, by omega⟩, ⟨f5, by omega⟩, f3.1, by omega⟩
  have EC : Hid (come g (i : Int) (j : Int) = if 0 < x then gain (taken g i j) i j x else closed (wrt (taken g i j) j) i j) := by
    show _ = _
    unfold come
    rw [if_pos hc, hx, Int.toNat_natCast, Int.toNat_natCast]
  have E0 : Hid (wayC g (i : Int) (j : Int) = 0) := h0
  have HR : Hid (RP w base R g gb gc ov) := h
  have hi0 : (0 : Int) ≤ (i : Int) := by omega
  have hi5 : (i : Int) < 5 := by omega
  have hj0 : (0 : Int) ≤ (j : Int) := by omega
  have hj5 : (j : Int) < 5 := by omega
  have hk0 : ((k : Int) == 0) = false := by rw [beq_eq_false_iff_ne]; omega
  have hk1 : (0 : Int) < (k : Int) := by omega
  have s1 : (1 : Int) ≤ (k : Int) := by omega
  have s2 : (k : Int) ≤ (cap : Int) := by omega
  have s3 : (1 : Int) ≤ (cap : Int) := by omega
  have hk2 : k ≤ 1001 := by omega
  have z0 := h.fr (1 + i * 5 + j)
  have hRl := h.lt
  rw [hx]
  clear h hi hall hc h0 hw hx i1 i2 hne hin hjn hij h5 far f1 f2 f3 f4 f5 hll ho ev ek ht1 ht2
  go_enter Tryd.func8, Tryd.ntmps8
  go_wp2_with fail
  refine (refWay (i : Int) (j : Int) HR.out).mono ?_
  rintro e w ⟨rfl, rfl⟩
  rw [E0.out]
  go_upto_region 7 with fail
  go_cut [48] from 37 to 52 (fun x48 wc => Hid (∃ ov', RX w wc base R (taken g i j) gb gc ov ov'))
  case first =>
    by_cases hcap : cap = 1
    · have ekk : k = 1 := by omega
      have EK : Hid (l = []) := by
        show _ = _
        have := hR.out.2.2.2.2.2.2.2.2.1
        exact List.length_eq_zero_iff.1 (by omega)
      have T2 : Hid (OR w base (.slice (some ⟨gg, off, none⟩) 0 0) l) := by
        have z := hR.out.2.2.2.2.2.2.2.2.2.2.2 hcap
        rw [hcap, show l.length = 0 by rw [EK.out]; rfl] at z
        exact z
      have T3 : Hid (∀ b, (Value.slice (some ⟨gg, off, none⟩) 0 0).ownBlock = some b → (ov (i * 5 + j)).ownBlock = some b) := fun b e => by rw [hR.out.2.2.2.2.2.2.2.1]; exact e
      have T4 : Hid (RP w base R g gb gc ov ∧ i < 5 ∧ j < 5 ∧ g.way i j = x :: l) := ⟨hR.out.1, hR.out.2.1, hR.out.2.2.1, hR.out.2.2.2.2.2.2.2.2.2.1⟩
      clear hR
      subst hcap
      subst ekk
      go_region
      go_wp2
      go_meet
      have q := (RX.refl T4.out.1).cut (a := i) (c := j) T4.out.2.1 T4.out.2.2.1 (u := .slice (some ⟨gg, off, none⟩) 0 0) (l := l) T2.out T3.out
      have e : taken g i j = { g with way := up2 g.way i j l } := by unfold taken; rw [T4.out.2.2.2]; rfl
      refine ⟨upI ov (i * 5 + j) (.slice (some ⟨gg, off, none⟩) 0 0), RX.drew ?_⟩
      rw [e, show 1 + i * 5 + j = 1 + (i * 5 + j) by omega]
      exact q
    · go_region
      go_wp2
      go_meet
      have q := (RX.refl hR.out.1).cut (a := i) (c := j) hR.out.2.1 hR.out.2.2.1 (u := .slice (some ⟨gg, off + 1, none⟩) (k - 1) (cap - 1)) (l := l) (by
        have z := hR.out.2.2.2.2.2.2.2.2.2.2.1 hcap
        rw [show l.length = k - 1 by have := hR.out.2.2.2.2.2.2.2.2.1; omega] at z
        exact z) (fun b e => by rw [hR.out.2.2.2.2.2.2.2.1]; exact e)
      have e : taken g i j = { g with way := up2 g.way i j l } := by unfold taken; rw [hR.out.2.2.2.2.2.2.2.2.2.1]; rfl
      refine ⟨upI ov (i * 5 + j) (.slice (some ⟨gg, off + 1, none⟩) (k - 1) (cap - 1)), RX.drew ?_⟩
      rw [e, show 1 + i * 5 + j = 1 + (i * 5 + j) by omega]
      exact q
  case rest =>
    obtain ⟨ov1, hX⟩ := hcut.out
    obtain ⟨w2, ew2⟩ : ∃ w2, w2 = wc := ⟨_, rfl⟩
    subst ew2
    have HX : Hid (RX w w2 base R (taken g i j) gb gc ov ov1) := hX
    obtain ⟨n, en⟩ : ∃ n, n = g.n := ⟨_, rfl⟩
    obtain ⟨y, ey⟩ : ∃ y, y = g.gold j := ⟨_, rfl⟩
    obtain ⟨t, et⟩ : ∃ t, t = g.part i j := ⟨_, rfl⟩
    have HL : Hid (n = g.n ∧ y = g.gold j ∧ t = g.part i j) := ⟨en, ey, et⟩
    have hy : 0 ≤ y ∧ y ≤ 5000 := by rw [ey]; exact HM.out.2.1
    have ht : 0 ≤ t ∧ t ≤ 5000 := by rw [et]; exact HM.out.2.2.1
    clear hcut hX cw hcx hcl hcm hk0 hk1 s1 s2 s3 hk2 z0 hRl en ey et
    by_cases hz : 0 < x
    · have EG : Hid (come g (i : Int) (j : Int) = gain (taken g i j) i j x) := by show _ = _; rw [EC.out, if_pos hz]
      have c0 : w2.cell? ⟨R, 0, none⟩ = some (.slice (some ⟨gb, 0, none⟩) n gc) := by rw [HL.out.1]; exact HX.out.rp.c0
      have cg : w2.cell? ⟨gb, j, none⟩ = some (.int .i64 y) := by rw [HL.out.2.1]; exact HX.out.rp.cg (show j < (taken g i j).n from hR.out.2.2.2.2.1)
      have zg := HX.out.rp.frg j
      have hRl := HX.out.rp.lt
      have hgl := HX.out.rp.ltg
      have hjn : (j : Int) < (n : Int) := by have := HL.out.1; have := hR.out.2.2.2.2.1; omega
      have hnc : n ≤ gc := by rw [HL.out.1]; exact HX.out.rp.room.1
      obtain ⟨W3, e3⟩ : ∃ W3, W3 = (w2.setCell ⟨gb, j, none⟩ (.int .i64 (y + x))).drew := ⟨_, rfl⟩
      have X3 : Hid (RX w W3 base R { taken g i j with gold := up g.gold j (g.gold j + x) } gb gc ov ov1) := by
        have q := (HX.out.setGold (m := j) (show j < (taken g i j).n from hR.out.2.2.2.2.1) (y + x)).drew
        rw [HL.out.2.1] at q e3
        rw [e3]
        exact q
      cases ho : g.opn i j
      · have HO : Hid (g.opn i j = false) := ho
        have co : W3.cell? ⟨R, 37 + i * 5 + j, none⟩ = some (.bool false) := by
          have q := X3.out.rp.co (a := i) (c := j) hR.out.2.1 hR.out.2.2.1
          rw [← ho]
          exact q
        clear ho
        go_wp2_with fail
        go_region
        rw [← e3]
        clear e3 c0 cg zg hRl hgl
        go_wp2
        go_ret2
        refine ⟨rfl, ov1, X3.out.eq ?_⟩
        rw [EG.out]
        unfold gain
        rw [if_neg (by show ¬ g.opn i j = true; rw [HO.out]; decide)]
        have e : up2 (taken g i j).part i j ((taken g i j).part i j) = (taken g i j).part := by
          funext a b
          unfold up2
          by_cases q : a = i ∧ b = j
          · rw [if_pos q, q.1, q.2]
          · rw [if_neg q]
        rw [e]
        rfl
      · have HO : Hid (g.opn i j = true) := ho
        have co : W3.cell? ⟨R, 37 + i * 5 + j, none⟩ = some (.bool true) := by
          have q := X3.out.rp.co (a := i) (c := j) hR.out.2.1 hR.out.2.2.1
          rw [← ho]
          exact q
        have cp : W3.cell? ⟨R, 63 + i * 5 + j, none⟩ = some (.int .i64 t) := by
          rw [HL.out.2.2]
          exact X3.out.rp.cp (a := i) (c := j) hR.out.2.1 hR.out.2.2.1
        have zp := X3.out.rp.fr (63 + i * 5 + j)
        have hRl3 := X3.out.rp.lt
        clear ho
        go_wp2_with fail
        go_region
        rw [← e3]
        clear e3 c0 cg zg hRl hgl
        go_wp2_with fail
        go_region
        obtain ⟨W4, e4⟩ : ∃ W4, W4 = (W3.setCell ⟨R, 63 + i * 5 + j, none⟩ (.int .i64 (t + x))).drew := ⟨_, rfl⟩
        rw [← e4]
        have X4 : Hid (RX w W4 base R { taken g i j with gold := up g.gold j (g.gold j + x), part := up2 g.part i j (g.part i j + x) } gb gc ov ov1) := by
          have q := (X3.out.setPt (a := i) (c := j) hR.out.2.1 hR.out.2.2.1 (t + x)).drew
          rw [HL.out.2.2] at q e4
          rw [e4]
          exact q
        clear e4 co cp zp hRl3
        go_wp2
        go_ret2
        refine ⟨rfl, ov1, X4.out.eq ?_⟩
        rw [EG.out]
        unfold gain
        rw [if_pos (show (taken g i j).opn i j = true from HO.out)]
        rfl
    · have ex : x = 0 := by omega
      subst ex
      have EG : Hid (come g (i : Int) (j : Int) = closed (wrt (taken g i j) j) i j) := by show _ = _; rw [EC.out, if_neg hz]
      have ch := HX.out.rp.ch (m := j) hR.out.2.2.1
      have hRl := HX.out.rp.lt
      obtain ⟨hb, ehb⟩ : ∃ hb, hb = g.has j := ⟨_, rfl⟩
      have ch' : w2.cell? ⟨R, 27 + j, none⟩ = some (.bool hb) := by rw [ehb]; exact ch
      have HB : Hid (hb = g.has j) := ehb
      clear hz ch ehb
      go_upto_if 102 with fail
      go_cut [105] from 103 to 105 (fun x105 wd => Hid (∃ ov', RX w wd base R (wrt (taken g i j) j) gb gc ov ov'))
      case first =>
        cases hb
        · go_wp2_with fail
          refine (refWrite HX.out.rp (m := j) (show j < (taken g i j).n from hR.out.2.2.2.2.1) (show (taken g i j).n ≤ 5 from hR.out.2.2.2.2.2.2.1) (fun s => by
            show (up2 g.way i j (g.way i j).tail j s).length ≤ 1000
            rw [up2_other _ _ (fun z => hR.out.2.2.2.2.2.1 z.1.symm)]
            exact HM.out.1 s)).mono ?_
          rintro e w3 ⟨rfl, ov2, hW⟩
          have X3 : Hid (RX w w3 base R (wrt (taken g i j) j) gb gc ov ov2) := (HX.out.trans hW).eq (wrt_new HB.out.symm)
          clear hW ch'
          go_wp2
          go_meet
          exact ⟨ov2, X3.out⟩
        · go_wp2
          go_meet
          exact ⟨ov1, HX.out.eq (wrt_same HB.out.symm)⟩
      case rest =>
        obtain ⟨ov2, hX⟩ := hcut.out
        obtain ⟨w3, ew3⟩ : ∃ w3, w3 = wc := ⟨_, rfl⟩
        subst ew3
        have X3 : Hid (RX w w3 base R (wrt (taken g i j) j) gb gc ov ov2) := hX
        clear hX hcut ch' hRl
        obtain ⟨o, eo⟩ : ∃ o, o = g.ow := ⟨_, rfl⟩
        have ho5 : 0 ≤ o ∧ o ≤ 5000 := by rw [eo]; exact HM.out.2.2.2
        have HO : Hid (o = g.ow) := eo
        have co := X3.out.rp.co (a := i) (c := j) hR.out.2.1 hR.out.2.2.1
        have z3 := X3.out.rp.fr (37 + i * 5 + j)
        have hRl3 := X3.out.rp.lt
        obtain ⟨W4, e4⟩ : ∃ W4, W4 = w3.setCell ⟨R, 37 + i * 5 + j, none⟩ (.bool false) := ⟨_, rfl⟩
        have X4 : Hid (RX w W4 base R { wrt (taken g i j) j with opn := up2 (wrt (taken g i j) j).opn i j false } gb gc ov ov2) := by
          rw [e4]
          exact X3.out.setOp hR.out.2.1 hR.out.2.2.1 false
        have cw4 : W4.cell? ⟨R, 62, none⟩ = some (.int .i64 o) := by
          have q := X4.out.rp.cow
          rw [HO.out]
          have e : (wrt (taken g i j) j).ow = g.ow := (wrt_part (taken g i j) j).2.1
          rw [← e]
          exact q
        have cp4 : W4.cell? ⟨R, 63 + i * 5 + j, none⟩ = some (.int .i64 t) := by
          have q := X4.out.rp.cp (a := i) (c := j) hR.out.2.1 hR.out.2.2.1
          rw [HL.out.2.2]
          have e : (wrt (taken g i j) j).part = g.part := (wrt_part (taken g i j) j).1
          rw [← e]
          exact q
        have z4 := X4.out.rp.fr 62
        have hRl4 := X4.out.rp.lt
        clear eo
        go_upto_region 16 with fail
        rw [← e4]
        clear e4 co z3 hRl3
        go_region
        obtain ⟨W5, e5⟩ : ∃ W5, W5 = (W4.setCell ⟨R, 62, none⟩ (.int .i64 (o + t))).drew := ⟨_, rfl⟩
        rw [← e5]
        have X5 : Hid (RX w W5 base R { wrt (taken g i j) j with opn := up2 (wrt (taken g i j) j).opn i j false, ow := o + t } gb gc ov ov2) := by
          rw [e5]
          exact (X4.out.setOw (o + t)).drew
        clear e5 cw4 cp4 z4 hRl4
        go_wp2
        go_ret2
        refine ⟨rfl, ov2, X5.out.eq ?_⟩
        rw [EG.out]
        unfold closed
        rw [(wrt_part (taken g i j) j).1, (wrt_part (taken g i j) j).2.1, HO.out, HL.out.2.2]
        rfl
theorem refCome (h : RP w base R g gb gc ov) (hi : Inv all g) (hall : all ≤ 5000) (a b : Int) : Calls Tryd.prog 8 #[.pointer (some ⟨R, 0, none⟩), .int .i64 a, .int .i64 b] w fun e w' => e = .returned (.tuple #[.int .i64 (comeN g a b), .int .i64 (comeC g a b)]) ∧ ∃ ov', RX w w' base R (come g a b) gb gc ov ov' := by
  by_cases hc : comeC g a b = 0
  · obtain ⟨i1, i2, -⟩ := way_ok (come_ok hc).1
    obtain ⟨i, rfl⟩ : ∃ i : Nat, a = (i : Int) := ⟨a.toNat, by unfold inM at i1; omega⟩
    obtain ⟨j, rfl⟩ : ∃ j : Nat, b = (j : Int) := ⟨b.toNat, by unfold inM at i2; omega⟩
    rw [hc]
    exact refCome_ok h hi hall i j hc
  · have e2 : come g a b = g := if_neg hc
    have e1 : comeN g a b = 0 := if_neg hc
    rw [e2, e1]
    refine (refCome_no h hi.two.2 a b hc).mono ?_
    rintro e w' ⟨rfl, rfl⟩
    exact ⟨rfl, ov, RX.refl h⟩
end Go.Proofs.YtgcdbcljneoifajDoor.Pic
