/-
  Contracts of package picture's Pay, Come and Begin.
-/
import Derived.Test.YtgcdbcljneoifajDoorPicU
namespace Go.Proofs.YtgcdbcljneoifajDoor.Pic
open Go.RowKit Go.Maps
open Go.Proofs.YtgcdbcljneoifajDoor.Fif (own_lt own_block own_form own_mono own_vw ret_bool info_int new_int int_one)
open Go.Proofs.YtgcdbcljneoifajDoor.Vec (Vw)
open Go.Proofs.YtgcdbcljneoifajDoor.Sep (KpL NewL)
open Go.Proofs.YtgcdbcljneoifajDoor.Ldr (errF errF_ok errF_no Sl)
open Go.Proofs.YtgcdbcljneoifajDoor.Off (OR)
set_option linter.unusedVariables false
variable {w w' : World} {base P bG cG mO mW mS : Nat} {rv : Nat → Value} {g : G} {all : Int}

theorem NewL.rfl (w : World) (fp : List Nat) : NewL w fp fp := fun _ h => .inl h
theorem Inv.sum (h : Inv all g) : sumG0 g = all := h.cons
theorem GP.begin (h : GP w base P bG cG mO mW mS rv g) (b : Bool) : GP w base P bG cG mO mW mS rv { g with begun := b } :=
  { row := h.row, gold := h.gold, room := h.room, ways := h.ways, sep := h.sep, gsep := h.gsep, onw := h.onw, wrt := h.wrt, snc := h.snc, nil := h.nil, low := h.low, ne := h.ne }
theorem in_nat {x : Int} (h : inM g x) : ∃ k : Nat, x = (k : Int) ∧ k < g.n := by
  unfold inM at h
  exact ⟨x.toNat, by omega, by omega⟩
theorem len41 (h : Inv all g) (i j : Nat) : (g.way i j).length ≤ 41 := by
  have := h.len i j
  split at this <;> omega
/-! Pay -/
set_option maxRecDepth 100000 in
theorem pay_no (h : GP w base P bG cG mO mW mS rv g) (hi : Inv all g) (a b x : Int) (hc : payC g a b x ≠ 0) : Calls Tryd.prog 7 #[.pointer (some ⟨P, 0, none⟩), .int .i64 a, .int .i64 b, .int .i64 x] w fun e w' => e = .returned (errF (payC g a b x)) ∧ Below w.heap.size w w' := by
  have HG : Hid (GP w base P bG cG mO mW mS rv g) := h
  by_cases h0 : wayC g a b = 0
  · obtain ⟨i1, i2, i3⟩ := way_ok h0
    obtain ⟨i, rfl, hin⟩ := in_nat i1
    obtain ⟨j, rfl, hjn⟩ := in_nat i2
    have h5 := h.room.2.2
    have E0 : Hid (errF (wayC g (i : Int) (j : Int)) = .nilIface) := by rw [h0]; rfl
    have e1 : payC g (i : Int) (j : Int) x = if x < 1 ∨ 1000 < x then 1 else if g.gold i < x then 5 else if 40 ≤ (g.way i j).length then 4 else 0 := by unfold payC; rw [if_pos h0, Int.toNat_natCast, Int.toNat_natCast]
    obtain ⟨W1, eW1⟩ : ∃ W1, W1 = w.alloc (.cells #[.int .i64 (i : Int), .int .i64 (j : Int)] 70) := ⟨_, rfl⟩
    have b1 : Below w.heap.size w W1 := by rw [eW1]; exact (Below.refl _ _).alloc (Nat.le_refl _) _
    have h1 := h.later b1
    have B1 : Hid (Below w.heap.size w W1) := b1
    by_cases q1 : x < 1
    · rw [e1, if_pos (.inl q1), errF_no (by decide)]
      clear h hi hc h0 i1 i2 i3 hin hjn h5 e1 b1 h1
      go_enter Tryd.func7, Tryd.ntmps7
      go_wp2_with fail
      refine (chkW HG.out (i : Int) (j : Int)).mono ?_
      rintro e w ⟨rfl, rfl⟩
      rw [E0.out]
      go_upto_region 5 with fail
      rw [← eW1]
      clear eW1
      go_wp2
      go_ret
      exact ⟨rfl, B1.out⟩
    by_cases q2 : x > 1000
    · rw [e1, if_pos (.inr q2), errF_no (by decide)]
      clear h hi hc h0 i1 i2 i3 hin hjn h5 e1 b1 h1
      go_enter Tryd.func7, Tryd.ntmps7
      go_wp2_with fail
      refine (chkW HG.out (i : Int) (j : Int)).mono ?_
      rintro e w ⟨rfl, rfl⟩
      rw [E0.out]
      go_upto_region 5 with fail
      rw [← eW1]
      clear eW1
      go_wp2
      go_ret
      exact ⟨rfl, B1.out⟩
    have e2 : payC g (i : Int) (j : Int) x = if g.gold i < x then 5 else if 40 ≤ (g.way i j).length then 4 else 0 := by rw [e1, if_neg (by omega)]
    have c0 := h1.c0
    have cg := h1.cg hin
    obtain ⟨y, ey⟩ : ∃ y, y = g.gold i := ⟨_, rfl⟩
    rw [← ey] at cg e2
    obtain ⟨n, en⟩ : ∃ n, n = g.n := ⟨_, rfl⟩
    rw [← en] at c0 hin hjn h5
    have hi0 : (0 : Int) ≤ (i : Int) := by omega
    have hil : (i : Int) < (n : Int) := by omega
    by_cases q3 : x > y
    · rw [e2, if_pos (by omega), errF_no (by decide)]
      clear h hi hc h0 i1 i2 i3 hjn h5 e1 e2 b1 h1 ey en
      go_enter Tryd.func7, Tryd.ntmps7
      go_wp2_with fail
      refine (chkW HG.out (i : Int) (j : Int)).mono ?_
      rintro e w ⟨rfl, rfl⟩
      rw [E0.out]
      go_upto_region 5 with fail
      rw [← eW1]
      clear eW1
      go_wp2
      go_ret
      exact ⟨rfl, B1.out⟩
    · have e3 : payC g (i : Int) (j : Int) x = if 40 ≤ (g.way i j).length then 4 else 0 := by rw [e2, if_neg (by omega)]
      by_cases q4 : 40 ≤ (g.way i j).length
      · rw [e3, if_pos q4, errF_no (by decide)]
        obtain ⟨q, c, eq, -, hlk0⟩ := h1.look (a := i) (b := j) (by omega) (by omega)
        obtain ⟨l, el⟩ : ∃ l, l = (g.way i j).length := ⟨_, rfl⟩
        rw [← el] at hlk0 q4
        have hlk : ∀ k, (Instr.lookup 62 (.map (some mO)) (.agg #[.int .i64 (i : Int), .int .i64 (j : Int)]) false).run Tryd.prog (W1.drewN k) = .ok (.slice q l c) (W1.drewN k) := fun k => hlk0 _ rfl
        have c1 := h1.c1
        obtain ⟨B, eB⟩ : ∃ B, B = w.heap.size := ⟨_, rfl⟩
        have r1 : W1.rowIs B 70 2 (wayV i j) := by rw [eB, eW1]; exact wayV_new w i j
        have v0 : W1.cell? ⟨B, 0, none⟩ = some (.int .i64 (i : Int)) := World.rowIs.cell r1 (i := 0) (by omega)
        have v1 : W1.cell? ⟨B, 1, none⟩ = some (.int .i64 (j : Int)) := World.rowIs.cell r1 (i := 1) (by omega)
        have hPl := h1.lt
        have hBl := World.rowIs.lt r1
        have q4' : (l : Int) ≥ 40 := by omega
        clear h hi hc h0 i1 i2 i3 hjn h5 e1 e2 e3 b1 h1 ey en eq hlk0 el r1
        go_enter Tryd.func7, Tryd.ntmps7
        go_wp2_with fail
        refine (chkW HG.out (i : Int) (j : Int)).mono ?_
        rintro e w ⟨rfl, rfl⟩
        rw [E0.out]
        go_upto_region 5 with fail
        rw [← eW1, ← eB]
        clear eW1 eB
        go_wp2_with fail
        go_quiet (fail)
        go_wp2
        go_ret
        have z := B1.out
        exact ⟨rfl, z.os, z.tape, z.output, z.size, z.block⟩
      · rw [e3, if_neg q4] at hc
        exact absurd rfl hc
  · have e0 : payC g a b x = wayC g a b := by unfold payC; rw [if_neg h0]
    have EC : Hid (errF (wayC g a b) = .iface 58 (.int .i64 (wayC g a b))) := errF_no h0
    rw [e0, EC.out]
    clear h hi hc e0 h0
    go_enter Tryd.func7, Tryd.ntmps7
    go_wp2_with fail
    refine (chkW HG.out a b).mono ?_
    rintro e w ⟨rfl, rfl⟩
    rw [EC.out]
    go_wp2
    go_ret
    exact ⟨rfl, Below.refl _ _⟩
set_option maxRecDepth 100000 in
set_option maxHeartbeats 1000000 in
theorem pay_okP (h : GP w base P bG cG mO mW mS rv g) (hi : Inv all g) (hsum : sumG0 g ≤ 5000) (i j : Nat) (x : Int) (hc : payC g (i : Int) (j : Int) x = 0) : Calls Tryd.prog 7 #[.pointer (some ⟨P, 0, none⟩), .int .i64 (i : Int), .int .i64 (j : Int), .int .i64 x] w fun e w' => e = .returned .nilIface ∧ ∃ rv', GP w' base P bG cG mO mW mS rv' (paid g i j x) ∧ St w w' base (fpP P bG mO mW mS rv) (fpP P bG mO mW mS rv') := by
  obtain ⟨h0, hx, hg, hl⟩ := pay_ok hc
  rw [Int.toNat_natCast] at hg hl
  rw [Int.toNat_natCast] at hl
  obtain ⟨i1, i2, i3⟩ := way_ok h0
  have hin : i < g.n := by unfold inM at i1; omega
  have hjn : j < g.n := by unfold inM at i2; omega
  have h5 := h.room.2.2
  have hbw := h.bw
  have E0 : Hid (errF (wayC g (i : Int) (j : Int)) = .nilIface) := by rw [h0]; rfl
  obtain ⟨B, eB⟩ : ∃ B, B = w.heap.size := ⟨_, rfl⟩
  obtain ⟨W1, eW1⟩ : ∃ W1, W1 = w.alloc (.cells #[.int .i64 (i : Int), .int .i64 (j : Int)] 70) := ⟨_, rfl⟩
  have b1 : Below w.heap.size w W1 := by rw [eW1]; exact (Below.refl _ _).alloc (Nat.le_refl _) _
  have r1 : W1.rowIs B 70 2 (wayV i j) := by rw [eB, eW1]; exact wayV_new w i j
  have nB : B ∉ fpP P bG mO mW mS rv := fun q => by have := (h.fp B q).2; omega
  have h1 := h.later b1
  have c0 := h1.c0
  have c1 := h1.c1
  have cg := h1.cg hin
  have v0 : W1.cell? ⟨B, 0, none⟩ = some (.int .i64 (i : Int)) := World.rowIs.cell r1 (i := 0) (by omega)
  have v1 : W1.cell? ⟨B, 1, none⟩ = some (.int .i64 (j : Int)) := World.rowIs.cell r1 (i := 1) (by omega)
  obtain ⟨q, c, eq, -, hlk0⟩ := h1.look (a := i) (b := j) (by omega) (by omega)
  obtain ⟨l, el⟩ : ∃ l, l = (g.way i j).length := ⟨_, rfl⟩
  rw [← el] at hlk0
  have hlk : ∀ k, (Instr.lookup 62 (.map (some mO)) (.agg #[.int .i64 (i : Int), .int .i64 (j : Int)]) false).run Tryd.prog (W1.drewN k) = .ok (.slice q l c) (W1.drewN k) := fun k => hlk0 _ rfl
  obtain ⟨y, ey⟩ : ∃ y, y = g.gold i := ⟨_, rfl⟩
  rw [← ey] at cg hg
  obtain ⟨n, en⟩ : ∃ n, n = g.n := ⟨_, rfl⟩
  rw [← en] at c0
  have hi0 : (0 : Int) ≤ (i : Int) := by omega
  have hil : (i : Int) < (n : Int) := by omega
  have d1 : ¬ x < 1 := by omega
  have d2 : ¬ x > 1000 := by omega
  have d3 : ¬ x > y := by omega
  have d4 : ¬ (l : Int) ≥ 40 := by omega
  have hy5 : y ≤ 5000 := by
    have z1 := hi.far.1 i hin
    have z2 := hi.sum
    omega
  have HH : Hid (GP w base P bG cG mO mW mS rv g ∧ GP W1 base P bG cG mO mW mS rv g ∧ St w W1 base (fpP P bG mO mW mS rv) (fpP P bG mO mW mS rv) ∧ i < 5 ∧ j < 5 ∧ i < g.n ∧ W1.rowIs B 70 2 (wayV i j) ∧ B ∉ fpP P bG mO mW mS rv ∧ y = g.gold i ∧ (g.way i j).length ≤ 1000) := ⟨h, h1, (St.refl w base _).trans (St.later hbw b1 _), by omega, by omega, hin, r1, nB, ey, by omega⟩
  have HG : Hid (GP w base P bG cG mO mW mS rv g) := h
  have hPl := h1.lt
  have hBl := World.rowIs.lt r1
  have hgl := h1.ltg
  have hnc : (n : Int) ≤ (cG : Int) := by have := h1.room.1; omega
  clear h hi hc h0 hl i1 i2 i3 hin hjn h5 hbw b1 r1 nB h1 hlk0 el ey en eq hsum
  go_enter Tryd.func7, Tryd.ntmps7
  go_wp2_with fail
  refine (chkW HG.out (i : Int) (j : Int)).mono ?_
  rintro e w ⟨rfl, rfl⟩
  rw [E0.out]
  go_upto_region 5 with fail
  rw [← eW1, ← eB]
  clear eW1 eB
  go_wp2_with fail
  go_quiet (fail)
  obtain ⟨W2, eW2⟩ : ∃ W2, W2 = W1.drewN nq := ⟨_, rfl⟩
  have G2 : Hid (GP W2 base P bG cG mO mW mS rv g ∧ St w W2 base (fpP P bG mO mW mS rv) (fpP P bG mO mW mS rv) ∧ W2.rowIs B 70 2 (wayV i j)) := by
    rw [eW2]
    exact ⟨HH.out.2.1.heap rfl, HH.out.2.2.1.drewN _, World.rowIs.of_block HH.out.2.2.2.2.2.2.1 rfl⟩
  rw [← eW2]
  obtain ⟨W3, eW3⟩ : ∃ W3, W3 = W2.setCell ⟨bG, i, none⟩ (.int .i64 (y - x)) := ⟨_, rfl⟩
  obtain ⟨g3, s3⟩ := G2.out.1.setGold HH.out.2.2.2.2.2.1 (y - x)
  have G3 : Hid (GP W3 base P bG cG mO mW mS rv { g with gold := up g.gold i (g.gold i - x) } ∧ St w W3 base (fpP P bG mO mW mS rv) (fpP P bG mO mW mS rv)) := by
    rw [eW3, ← HH.out.2.2.2.2.2.2.2.2.1]
    exact ⟨g3, G2.out.2.1.trans s3⟩
  have nBg : B ≠ bG := fun e => HH.out.2.2.2.2.2.2.2.1 (by rw [e]; exact fpP_iff.2 (.inr (.inl rfl)))
  have r3 : W3.rowIs B 70 2 (wayV i j) := by rw [eW3]; exact World.rowIs.of_block G2.out.2.2 (Deep.blk_setCell_other _ _ _ _ nBg)
  have w0 : W3.cell? ⟨B, 0, none⟩ = some (.int .i64 (i : Int)) := World.rowIs.cell r3 (i := 0) (by omega)
  have w1 : W3.cell? ⟨B, 1, none⟩ = some (.int .i64 (j : Int)) := World.rowIs.cell r3 (i := 1) (by omega)
  have hBl3 := World.rowIs.lt r3
  have f0 : W2.cell? ⟨P, 0, none⟩ = some (.slice (some ⟨bG, 0, none⟩) n cG) := (World.cell?_of_block (a := ⟨P, 0, none⟩) (by rw [eW2]; rfl)).trans c0
  have fg : W2.cell? ⟨bG, i, none⟩ = some (.int .i64 y) := (World.cell?_of_block (a := ⟨bG, i, none⟩) (by rw [eW2]; rfl)).trans cg
  have zg : W2.frozen? ⟨bG, i, none⟩ = false := G2.out.1.frg i
  have hPl2 := G2.out.1.lt
  have hgl2 := G2.out.1.ltg
  clear g3 s3 r3 eW2 c0 c1 cg v0 v1 hlk hPl hBl hgl nBg
  go_upto_region 13 with fail
  rw [← eW3]
  clear eW3 f0 fg zg hPl2 hgl2
  go_wp2_with fail
  refine (sendP G3.out.1 (a := i) (b := j) HH.out.2.2.2.1 HH.out.2.2.2.2.1 HH.out.2.2.2.2.2.2.2.2.2 x).mono ?_
  rintro e W4 ⟨rfl, rv4, g4, s4⟩
  have G4 : Hid (GP W4 base P bG cG mO mW mS rv4 (paid g i j x) ∧ St w W4 base (fpP P bG mO mW mS rv) (fpP P bG mO mW mS rv4)) := ⟨g4, G3.out.2.trans s4⟩
  clear g4 s4 w0 w1 hBl3
  go_wp2
  go_ret
  exact ⟨rfl, rv4, G4.out.1, G4.out.2⟩
theorem payG (base P : Nat) (g : G) (fp : List Nat) (all : Int) (a b x : Int) (w : World) (h : TS w base P g fp) (hi : Inv all g) (hbw : base ≤ w.heap.size) : Calls Tryd.prog 7 #[.pointer (some ⟨P, 0, none⟩), .int .i64 a, .int .i64 b, .int .i64 x] w fun e w' => ∃ fp', e = .returned (errF (payC g a b x)) ∧ TS w' base P (pay g a b x) fp' ∧ Below base w w' ∧ KpL w w' fp ∧ NewL w fp fp' := by
  obtain ⟨bG, cG, mO, mW, mS, rv, rfl, h, r, h5⟩ := h
  by_cases hc : payC g a b x = 0
  · have e2 : pay g a b x = paid g a.toNat b.toNat x := if_pos hc
    obtain ⟨i1, i2, -⟩ := way_ok (pay_ok hc).1
    obtain ⟨i, rfl, -⟩ := in_nat i1
    obtain ⟨j, rfl, -⟩ := in_nat i2
    have hp := hi.pay (i : Int) (j : Int) x
    have r' := r.pay (i : Int) (j : Int) x
    rw [e2] at hp r' ⊢
    rw [Int.toNat_natCast, Int.toNat_natCast] at hp r' ⊢
    rw [hc, errF_ok]
    refine (pay_okP h hi h5 i j x hc).mono ?_
    rintro e w' ⟨rfl, rv', g', s'⟩
    exact ⟨_, rfl, ⟨bG, cG, mO, mW, mS, rv', rfl, g', r', by rw [hp.sum, ← hi.sum]; exact h5⟩, s'.bel, s'.kp, s'.new⟩
  · have e2 : pay g a b x = g := if_neg hc
    rw [e2]
    refine (pay_no h hi a b x hc).mono ?_
    rintro e w' ⟨rfl, hb⟩
    exact ⟨_, rfl, ⟨bG, cG, mO, mW, mS, rv, rfl, h.later hb, r, h5⟩, hb.mono hbw, KpL.below hb _, NewL.rfl _ _⟩
end Go.Proofs.YtgcdbcljneoifajDoor.Pic
