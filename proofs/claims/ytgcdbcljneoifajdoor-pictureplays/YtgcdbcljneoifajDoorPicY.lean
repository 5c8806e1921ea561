/-
  Contracts of package picture's Begin and Come.
-/
import Derived.Test.YtgcdbcljneoifajDoorPicX
namespace Go.Proofs.YtgcdbcljneoifajDoor.Pic
open Go.RowKit Go.Maps
open Go.Proofs.YtgcdbcljneoifajDoor.Fif (own_lt own_block own_form own_mono own_vw ret_bool info_int new_int int_one)
open Go.Proofs.YtgcdbcljneoifajDoor.Vec (Vw)
open Go.Proofs.YtgcdbcljneoifajDoor.Sep (KpL NewL)
open Go.Proofs.YtgcdbcljneoifajDoor.Ldr (errF errF_ok errF_no Sl)
open Go.Proofs.YtgcdbcljneoifajDoor.Off (OR)
set_option linter.unusedVariables false
variable {w w' : World} {base P bG cG mO mW mS : Nat} {rv : Nat → Value} {g : G} {all : Int}

/-! Begin -/
theorem begun_iff (hi : Inv all g) (hr : Rg g) (h5 : g.n ≤ 5) : g.begun = decide (0 < cnK g.has 5) := by
  cases hb : g.begun
  · have z : cnK g.has 5 = 0 := cnK_zero.2 fun i _ => hi.not hb i
    rw [z]
    rfl
  · obtain ⟨b, hbn, hh⟩ := hi.beg hb
    refine (decide_eq_true ?_).symm
    refine Nat.pos_of_ne_zero fun z => ?_
    have := cnK_zero.1 z b (by omega)
    rw [hh] at this
    cases this
set_option maxRecDepth 100000 in
theorem beg_no (h : GP w base P bG cG mO mW mS rv g) (hi : Inv all g) (hr : Rg g) (m : Int) (hc : begC g m ≠ 0) : Calls Tryd.prog 11 #[.pointer (some ⟨P, 0, none⟩), .int .i64 m] w fun e w' => e = .returned (errF (begC g m)) ∧ Below w.heap.size w w' := by
  have HG : Hid (GP w base P bG cG mO mW mS rv g) := h
  by_cases h1 : inM g m
  · have e0 : begC g m = if g.begun = true then 6 else 0 := if_pos h1
    have hb : g.begun = true := by
      cases z : g.begun
      · rw [e0, z] at hc; exact absurd rfl hc
      · rfl
    have d1 : Hid (decide (inM g m) = true) := decide_eq_true h1
    have hcn : 0 < cnK g.has 5 := by
      have z := begun_iff hi hr h.room.2.2
      rw [hb] at z
      exact of_decide_eq_true z.symm
    have c2 := h.c2
    have l2 := len1 h.wrt 3 w rfl
    obtain ⟨k, ek⟩ : ∃ k, k = cnK g.has 5 := ⟨_, rfl⟩
    rw [← ek] at l2 hcn
    have hk : (k : Int) > 0 := by omega
    have hPl := h.lt
    rw [e0, if_pos hb, errF_no (by decide)]
    clear h hi hr hc h1 e0 hb ek
    go_enter Tryd.func11, Tryd.ntmps11
    go_wp2_with fail
    refine (isMem HG.out m).mono ?_
    rintro e w ⟨rfl, rfl⟩
    rw [d1.out]
    go_wp2
    go_ret
    exact ⟨rfl, Below.refl _ _⟩
  · have e0 : begC g m = 1 := if_neg h1
    have d1 : Hid (decide (inM g m) = false) := decide_eq_false h1
    rw [e0, errF_no (by decide)]
    clear h hi hr hc h1 e0
    go_enter Tryd.func11, Tryd.ntmps11
    go_wp2_with fail
    refine (isMem HG.out m).mono ?_
    rintro e w ⟨rfl, rfl⟩
    rw [d1.out]
    go_wp2
    go_ret
    exact ⟨rfl, Below.refl _ _⟩
set_option maxRecDepth 100000 in
theorem beg_okP (h : GP w base P bG cG mO mW mS rv g) (hi : Inv all g) (hr : Rg g) (m : Nat) (hc : begC g (m : Int) = 0) : Calls Tryd.prog 11 #[.pointer (some ⟨P, 0, none⟩), .int .i64 (m : Int)] w fun e w' => e = .returned .nilIface ∧ ∃ rv', GP w' base P bG cG mO mW mS rv' (write { g with begun := true } m) ∧ St w w' base (fpP P bG mO mW mS rv) (fpP P bG mO mW mS rv') := by
  obtain ⟨h1, hb⟩ := beg_ok hc
  have hm : m < g.n := by unfold inM at h1; omega
  have d1 : Hid (decide (inM g (m : Int)) = true) := decide_eq_true h1
  have hcn : cnK g.has 5 = 0 := cnK_zero.2 fun i _ => hi.not hb i
  have c2 := h.c2
  have l2 := len1 h.wrt 3 w rfl
  rw [hcn] at l2
  have HG : Hid (GP w base P bG cG mO mW mS rv g ∧ m < g.n ∧ (∀ j, (g.way m j).length ≤ 1000) ∧ (∀ i, g.part i m = 0)) := ⟨h, hm, fun j => by have := len41 hi m j; omega, fun i => hi.none i m (hi.not hb m)⟩
  have hPl := h.lt
  clear h hi hr hc h1 hb hm hcn
  go_enter Tryd.func11, Tryd.ntmps11
  go_wp2_with fail
  refine (isMem HG.out.1 (m : Int)).mono ?_
  rintro e w ⟨rfl, rfl⟩
  rw [d1.out]
  go_wp2_with fail
  refine (wdP (HG.out.1.begin true) (m := m) HG.out.2.1 HG.out.2.2.1 HG.out.2.2.2).mono ?_
  rintro e w1 ⟨rfl, rv1, g1, s1⟩
  have G1 : Hid (∃ rv', GP w1 base P bG cG mO mW mS rv' (write { g with begun := true } m) ∧ St w w1 base (fpP P bG mO mW mS rv) (fpP P bG mO mW mS rv')) := ⟨rv1, g1, s1⟩
  clear g1 s1 c2 l2 hPl
  go_wp2
  go_ret
  exact ⟨rfl, G1.out⟩
theorem begG (base P : Nat) (g : G) (fp : List Nat) (all : Int) (m : Int) (w : World) (h : TS w base P g fp) (hi : Inv all g) (hbw : base ≤ w.heap.size) : Calls Tryd.prog 11 #[.pointer (some ⟨P, 0, none⟩), .int .i64 m] w fun e w' => ∃ fp', e = .returned (errF (begC g m)) ∧ TS w' base P (beg g m) fp' ∧ Below base w w' ∧ KpL w w' fp ∧ NewL w fp fp' := by
  obtain ⟨bG, cG, mO, mW, mS, rv, rfl, h, r, h5⟩ := h
  by_cases hc : begC g m = 0
  · have e2 : beg g m = write { g with begun := true } m.toNat := if_pos hc
    obtain ⟨i, rfl, -⟩ := in_nat (beg_ok hc).1
    have hp := hi.beg_ (i : Int)
    have r' := r.beg (i : Int)
    rw [e2, Int.toNat_natCast] at hp r' ⊢
    rw [hc, errF_ok]
    refine (beg_okP h hi r i hc).mono ?_
    rintro e w' ⟨rfl, rv', g', s'⟩
    exact ⟨_, rfl, ⟨bG, cG, mO, mW, mS, rv', rfl, g', r', by rw [hp.sum, ← hi.sum]; exact h5⟩, s'.bel, s'.kp, s'.new⟩
  · have e2 : beg g m = g := if_neg hc
    rw [e2]
    refine (beg_no h hi r m hc).mono ?_
    rintro e w' ⟨rfl, hb⟩
    exact ⟨_, rfl, ⟨bG, cG, mO, mW, mS, rv, rfl, h.later hb, r, h5⟩, hb.mono hbw, KpL.below hb _, NewL.rfl _ _⟩
/-! Come -/
theorem come_cases {a b : Int} (hc : comeC g a b ≠ 0) (h0 : wayC g a b = 0) : comeC g a b = 5 ∧ g.way a.toNat b.toNat = [] := by
  unfold comeC at hc ⊢
  rw [if_pos h0] at hc ⊢
  by_cases q : (g.way a.toNat b.toNat).length = 0
  · rw [if_pos q]
    exact ⟨rfl, List.length_eq_zero_iff.1 q⟩
  · rw [if_neg q] at hc; exact absurd rfl hc
set_option maxRecDepth 100000 in
theorem come_no (h : GP w base P bG cG mO mW mS rv g) (hi : Inv all g) (a b : Int) (hc : comeC g a b ≠ 0) : Calls Tryd.prog 9 #[.pointer (some ⟨P, 0, none⟩), .int .i64 a, .int .i64 b] w fun e w' => e = .returned (.tuple #[.int .i64 0, errF (comeC g a b)]) ∧ Below w.heap.size w w' := by
  have HG : Hid (GP w base P bG cG mO mW mS rv g) := h
  by_cases h0 : wayC g a b = 0
  · obtain ⟨e5, hw⟩ := come_cases hc h0
    obtain ⟨i1, i2, -⟩ := way_ok h0
    obtain ⟨i, rfl, hin⟩ := in_nat i1
    obtain ⟨j, rfl, hjn⟩ := in_nat i2
    rw [Int.toNat_natCast, Int.toNat_natCast] at hw
    have h5 := h.room.2.2
    have E0 : Hid (errF (wayC g (i : Int) (j : Int)) = .nilIface) := by rw [h0]; rfl
    obtain ⟨B, eB⟩ : ∃ B, B = w.heap.size := ⟨_, rfl⟩
    obtain ⟨W1, eW1⟩ : ∃ W1, W1 = w.alloc (.cells #[.int .i64 (i : Int), .int .i64 (j : Int)] 70) := ⟨_, rfl⟩
    have b1 : Below w.heap.size w W1 := by rw [eW1]; exact (Below.refl _ _).alloc (Nat.le_refl _) _
    have h1 := h.later b1
    have B1 : Hid (Below w.heap.size w W1) := b1
    have r1 : W1.rowIs B 70 2 (wayV i j) := by rw [eB, eW1]; exact wayV_new w i j
    have v0 : W1.cell? ⟨B, 0, none⟩ = some (.int .i64 (i : Int)) := World.rowIs.cell r1 (i := 0) (by omega)
    have v1 : W1.cell? ⟨B, 1, none⟩ = some (.int .i64 (j : Int)) := World.rowIs.cell r1 (i := 1) (by omega)
    have c1 := h1.c1
    obtain ⟨q, c, eq, -, hlk0⟩ := h1.look (a := i) (b := j) (by omega) (by omega)
    rw [hw] at hlk0
    have hlk : ∀ k, (Instr.lookup 62 (.map (some mO)) (.agg #[.int .i64 (i : Int), .int .i64 (j : Int)]) false).run Tryd.prog (W1.drewN k) = .ok (.slice q 0 c) (W1.drewN k) := fun k => hlk0 _ rfl
    have hPl := h1.lt
    have hBl := World.rowIs.lt r1
    rw [e5, errF_no (by decide)]
    clear h hi hc h0 i1 i2 hin hjn h5 e5 b1 h1 r1 eq hlk0 hw
    go_enter Tryd.func9, Tryd.ntmps9
    go_wp2_with fail
    refine (chkW HG.out (i : Int) (j : Int)).mono ?_
    rintro e w ⟨rfl, rfl⟩
    rw [E0.out]
    go_upto_region 5 with fail
    rw [← eW1, ← eB]
    clear eW1 eB
    go_quiet (fail)
    go_wp2
    go_ret2
    have z := B1.out
    exact ⟨rfl, z.os, z.tape, z.output, z.size, z.block⟩
  · have e0 : comeC g a b = wayC g a b := by unfold comeC; rw [if_neg h0]
    have EC : Hid (errF (wayC g a b) = .iface 58 (.int .i64 (wayC g a b))) := errF_no h0
    rw [e0, EC.out]
    clear h hi hc e0 h0
    go_enter Tryd.func9, Tryd.ntmps9
    go_wp2_with fail
    refine (chkW HG.out a b).mono ?_
    rintro e w ⟨rfl, rfl⟩
    rw [EC.out]
    go_wp2
    go_ret2
    exact ⟨rfl, Below.refl _ _⟩
/-- when a mark comes the way is minded -/
theorem mark_open (hi : Inv all g) {a b : Nat} (ha : a < g.n) (hb : b < g.n) (hab : a ≠ b) (hz : (0 : Int) ∈ g.way a b) : (wrt (taken g a b) b).opn a b = true := by
  cases hh : g.has b
  · have e : wrt (taken g a b) b = write (taken g a b) b := wrt_new hh
    rw [e]
    show (if b = b ∧ a ≠ b ∧ a < g.n then true else g.opn a b) = true
    rw [if_pos ⟨rfl, hab, ha⟩]
  · have e : wrt (taken g a b) b = taken g a b := wrt_same hh
    rw [e]
    show g.opn a b = true
    rcases hi.wy a b ha hb hab with ⟨-, h1, -⟩ | ⟨-, -, h1⟩ | ⟨-, -, h1, -⟩
    · exact absurd hz h1
    · rw [h1, hh]
    · exact absurd hz h1
set_option maxRecDepth 100000 in
set_option maxHeartbeats 1000000 in
theorem come_okP (h : GP w base P bG cG mO mW mS rv g) (hi : Inv all g) (hsum : sumG0 g ≤ 5000) (i j : Nat) (hc : comeC g (i : Int) (j : Int) = 0) : Calls Tryd.prog 9 #[.pointer (some ⟨P, 0, none⟩), .int .i64 (i : Int), .int .i64 (j : Int)] w fun e w' => e = .returned (.tuple #[.int .i64 (comeN g (i : Int) (j : Int)), .nilIface]) ∧ ∃ rv', GP w' base P bG cG mO mW mS rv' (come g (i : Int) (j : Int)) ∧ St w w' base (fpP P bG mO mW mS rv) (fpP P bG mO mW mS rv') := by
  obtain ⟨h0, x, l, hw, hx⟩ := come_ok hc
  obtain ⟨i1, i2, hne⟩ := way_ok h0
  have hin : i < g.n := by unfold inM at i1; omega
  have hjn : j < g.n := by unfold inM at i2; omega
  have hij : i ≠ j := fun e => hne (by rw [e])
  rw [Int.toNat_natCast, Int.toNat_natCast] at hw
  have h5 := h.room.2.2
  have hbw := h.bw
  have hx0 := hi.pos i j x (by rw [hw]; exact List.mem_cons_self)
  have hll : l.length ≤ 1000 := by have := len41 hi i j; rw [hw, List.length_cons] at this; omega
  have E0 : Hid (errF (wayC g (i : Int) (j : Int)) = .nilIface) := by rw [h0]; rfl
  have EC : come g (i : Int) (j : Int) = if 0 < x then gain (taken g i j) i j x else closed (wrt (taken g i j) j) i j := by
    unfold come
    rw [if_pos hc, hx, Int.toNat_natCast, Int.toNat_natCast]
  obtain ⟨B, eB⟩ : ∃ B, B = w.heap.size := ⟨_, rfl⟩
  obtain ⟨W1, eW1⟩ : ∃ W1, W1 = w.alloc (.cells #[.int .i64 (i : Int), .int .i64 (j : Int)] 70) := ⟨_, rfl⟩
  have b1 : Below w.heap.size w W1 := by rw [eW1]; exact (Below.refl _ _).alloc (Nat.le_refl _) _
  have r1 : W1.rowIs B 70 2 (wayV i j) := by rw [eB, eW1]; exact wayV_new w i j
  have nB : B ∉ fpP P bG mO mW mS rv := fun q => by have := (h.fp B q).2; omega
  have h1 := h.later b1
  have c1 := h1.c1
  have v0 : W1.cell? ⟨B, 0, none⟩ = some (.int .i64 (i : Int)) := World.rowIs.cell r1 (i := 0) (by omega)
  have v1 : W1.cell? ⟨B, 1, none⟩ = some (.int .i64 (j : Int)) := World.rowIs.cell r1 (i := 1) (by omega)
  obtain ⟨q, c, eq, -, hlk0⟩ := h1.look (a := i) (b := j) (by omega) (by omega)
  obtain ⟨k, ek⟩ : ∃ k, k = (g.way i j).length := ⟨_, rfl⟩
  rw [← ek] at hlk0
  have hk0 : ((k : Int) == 0) = false := by
    have : k ≠ 0 := by rw [ek, hw]; simp
    rw [beq_eq_false_iff_ne]
    omega
  have hlk : ∀ t, (Instr.lookup 62 (.map (some mO)) (.agg #[.int .i64 (i : Int), .int .i64 (j : Int)]) false).run Tryd.prog (W1.drewN t) = .ok (.slice q k c) (W1.drewN t) := fun t => hlk0 _ rfl
  have HH : Hid (GP w base P bG cG mO mW mS rv g ∧ GP W1 base P bG cG mO mW mS rv g ∧ St w W1 base (fpP P bG mO mW mS rv) (fpP P bG mO mW mS rv) ∧ i < 5 ∧ j < 5 ∧ W1.rowIs B 70 2 (wayV i j) ∧ B ∉ fpP P bG mO mW mS rv ∧ g.way i j = x :: l ∧ l.length ≤ 1000) := ⟨h, h1, (St.refl w base _).trans (St.later hbw b1 _), by omega, by omega, r1, nB, hw, hll⟩
  have HI : Hid (Inv all g ∧ all ≤ 5000 ∧ i < g.n ∧ j < g.n ∧ i ≠ j ∧ 0 ≤ x ∧ x ≤ 1000) := ⟨hi, by have := hi.sum; omega, hin, hjn, hij, hx0.1, hx0.2⟩
  have HC : Hid (come g (i : Int) (j : Int) = if 0 < x then gain (taken g i j) i j x else closed (wrt (taken g i j) j) i j) := EC
  have hPl := h1.lt
  have hBl := World.rowIs.lt r1
  rw [hx]
  clear h hi hsum hc h0 hw hx i1 i2 hne hin hjn hij h5 hbw hx0 hll EC b1 r1 nB h1 hlk0 ek eq
  go_enter Tryd.func9, Tryd.ntmps9
  go_wp2_with fail
  refine (chkW HH.out.1 (i : Int) (j : Int)).mono ?_
  rintro e w ⟨rfl, rfl⟩
  rw [E0.out]
  go_upto_region 5 with fail
  rw [← eW1, ← eB]
  clear eW1 eB
  go_quiet (fail)
  obtain ⟨W2, eW2⟩ : ∃ W2, W2 = W1.drewN nq := ⟨_, rfl⟩
  have G2 : Hid (GP W2 base P bG cG mO mW mS rv g ∧ St w W2 base (fpP P bG mO mW mS rv) (fpP P bG mO mW mS rv) ∧ W2.rowIs B 70 2 (wayV i j)) := by
    rw [eW2]
    exact ⟨HH.out.2.1.heap rfl, HH.out.2.2.1.drewN _, World.rowIs.of_block HH.out.2.2.2.2.2.1 rfl⟩
  rw [← eW2]
  have w0 : W2.cell? ⟨B, 0, none⟩ = some (.int .i64 (i : Int)) := World.rowIs.cell G2.out.2.2 (i := 0) (by omega)
  have w1 : W2.cell? ⟨B, 1, none⟩ = some (.int .i64 (j : Int)) := World.rowIs.cell G2.out.2.2 (i := 1) (by omega)
  have hBl2 := World.rowIs.lt G2.out.2.2
  clear eW2 c1 v0 v1 hlk hPl hBl
  go_wp2_with fail
  refine (takeP G2.out.1 (a := i) (b := j) HH.out.2.2.2.1 HH.out.2.2.2.2.1 HH.out.2.2.2.2.2.2.2.1 HH.out.2.2.2.2.2.2.2.2).mono ?_
  rintro e W3 ⟨rfl, rv3, g3, s3⟩
  have r3 : W3.rowIs B 70 2 (wayV i j) := World.rowIs.of_block G2.out.2.2 (s3.kp.2 B hBl2 HH.out.2.2.2.2.2.2.1)
  have G3 : Hid (GP W3 base P bG cG mO mW mS rv3 (taken g i j) ∧ St w W3 base (fpP P bG mO mW mS rv) (fpP P bG mO mW mS rv3)) := ⟨g3, G2.out.2.1.trans s3⟩
  clear w0 w1
  have w0 : W3.cell? ⟨B, 0, none⟩ = some (.int .i64 (i : Int)) := World.rowIs.cell r3 (i := 0) (by omega)
  have w1 : W3.cell? ⟨B, 1, none⟩ = some (.int .i64 (j : Int)) := World.rowIs.cell r3 (i := 1) (by omega)
  have hBl3 := World.rowIs.lt r3
  clear g3 s3 r3 hBl2
  have far := HI.out.1.far
  by_cases hz : x = 0
  · subst hz
    have EC : Hid (come g (i : Int) (j : Int) = closed (wrt (taken g i j) j) i j) := by
      show _ = _
      rw [HC.out, if_neg (by decide)]
    have HM : Hid ((∀ t, ((taken g i j).way j t).length ≤ 1000) ∧ ((taken g i j).has j = false → ∀ t, (taken g i j).part t j = 0) ∧ (wrt (taken g i j) j).opn i j = true ∧ (0 ≤ (taken g i j).ow ∧ (taken g i j).ow ≤ 1000000) ∧ (0 ≤ (taken g i j).part i j ∧ (taken g i j).part i j ≤ 1000000)) := by
      refine ⟨fun t => ?_, fun q t => HI.out.1.none t j q, mark_open HI.out.1 HI.out.2.2.1 HI.out.2.2.2.1 HI.out.2.2.2.2.1 (by rw [HH.out.2.2.2.2.2.2.2.1]; exact List.mem_cons_self), ⟨far.2.2.2.1, ?_⟩, HI.out.1.ppos i j, ?_⟩
      · show (up2 g.way i j (g.way i j).tail j t).length ≤ 1000
        rw [up2_other _ _ (fun z => HI.out.2.2.2.2.1 z.1.symm)]
        have := len41 HI.out.1 j t
        omega
      · show g.ow ≤ _
        have := far.2.2.2.2
        have := HI.out.2.1
        omega
      · show g.part i j ≤ _
        have := far.2.1 i j HI.out.2.2.1 HI.out.2.2.2.1
        have := HI.out.2.1
        omega
    clear far
    go_wp2_with fail
    refine (hearM G3.out.1 (a := i) (b := j) HH.out.2.2.2.1 HI.out.2.2.2.1 HM.out.1 HM.out.2.1 HM.out.2.2.1 HM.out.2.2.2.1 HM.out.2.2.2.2).mono ?_
    rintro e W4 ⟨rfl, rv4, g4, s4⟩
    have G4 : Hid (∃ rv', GP W4 base P bG cG mO mW mS rv' (come g (i : Int) (j : Int)) ∧ St w W4 base (fpP P bG mO mW mS rv) (fpP P bG mO mW mS rv')) := ⟨rv4, g4.eq EC.out, G3.out.2.trans s4⟩
    clear g4 s4 w0 w1 hBl3
    go_wp2
    go_ret2
    exact ⟨rfl, G4.out⟩
  · have hz' : (x == 0) = false := by rw [beq_eq_false_iff_ne]; exact hz
    have EC : Hid (come g (i : Int) (j : Int) = gain (taken g i j) i j x) := by
      show _ = _
      rw [HC.out, if_pos (by have := HI.out; omega)]
    have HM : Hid ((0 ≤ x ∧ x ≤ 1000) ∧ (0 ≤ (taken g i j).gold j ∧ (taken g i j).gold j ≤ 1000000) ∧ (0 ≤ (taken g i j).part i j ∧ (taken g i j).part i j ≤ 1000000)) := by
      refine ⟨HI.out.2.2.2.2.2, ⟨HI.out.1.gold j HI.out.2.2.2.1, ?_⟩, HI.out.1.ppos i j, ?_⟩
      · show g.gold j ≤ _
        have := far.1 j HI.out.2.2.2.1
        have := HI.out.2.1
        omega
      · show g.part i j ≤ _
        have := far.2.1 i j HI.out.2.2.1 HI.out.2.2.2.1
        have := HI.out.2.1
        omega
    clear far hz
    go_wp2_with fail
    refine (hearG G3.out.1 (a := i) (b := j) HH.out.2.2.2.1 HI.out.2.2.2.1 x HM.out.1 HM.out.2.1 HM.out.2.2).mono ?_
    rintro e W4 ⟨rfl, g4, s4⟩
    have G4 : Hid (∃ rv', GP W4 base P bG cG mO mW mS rv' (come g (i : Int) (j : Int)) ∧ St w W4 base (fpP P bG mO mW mS rv) (fpP P bG mO mW mS rv')) := ⟨rv3, g4.eq EC.out, G3.out.2.trans s4⟩
    clear g4 s4 w0 w1 hBl3
    go_wp2
    go_ret2
    exact ⟨rfl, G4.out⟩
theorem comeG (base P : Nat) (g : G) (fp : List Nat) (all : Int) (a b : Int) (w : World) (h : TS w base P g fp) (hi : Inv all g) (hbw : base ≤ w.heap.size) : Calls Tryd.prog 9 #[.pointer (some ⟨P, 0, none⟩), .int .i64 a, .int .i64 b] w fun e w' => ∃ fp', e = .returned (.tuple #[.int .i64 (comeN g a b), errF (comeC g a b)]) ∧ TS w' base P (come g a b) fp' ∧ Below base w w' ∧ KpL w w' fp ∧ NewL w fp fp' := by
  obtain ⟨bG, cG, mO, mW, mS, rv, rfl, h, r, h5⟩ := h
  by_cases hc : comeC g a b = 0
  · obtain ⟨i1, i2, -⟩ := way_ok (come_ok hc).1
    obtain ⟨i, rfl, -⟩ := in_nat i1
    obtain ⟨j, rfl, -⟩ := in_nat i2
    have hp := hi.come (i : Int) (j : Int)
    have r' := r.come (i : Int) (j : Int)
    rw [hc, errF_ok]
    refine (come_okP h hi h5 i j hc).mono ?_
    rintro e w' ⟨rfl, rv', g', s'⟩
    exact ⟨_, rfl, ⟨bG, cG, mO, mW, mS, rv', rfl, g', r', by rw [hp.sum, ← hi.sum]; exact h5⟩, s'.bel, s'.kp, s'.new⟩
  · have e2 : come g a b = g := if_neg hc
    have e1 : comeN g a b = 0 := if_neg hc
    rw [e2, e1]
    refine (come_no h hi a b hc).mono ?_
    rintro e w' ⟨rfl, hb⟩
    exact ⟨_, rfl, ⟨bG, cG, mO, mW, mS, rv, rfl, h.later hb, r, h5⟩, hb.mono hbw, KpL.below hb _, NewL.rfl _ _⟩
end Go.Proofs.YtgcdbcljneoifajDoor.Pic
