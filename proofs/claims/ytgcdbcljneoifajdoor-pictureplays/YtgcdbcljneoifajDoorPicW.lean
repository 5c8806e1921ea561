/-
  Contract of package picture's writeDown.
-/
import Derived.Test.YtgcdbcljneoifajDoorPicT
import Derived.Test.YtgcdbcljneoifajDoorPicL
namespace Go.Proofs.YtgcdbcljneoifajDoor.Pic
open Go.RowKit Go.Maps
open Go.Proofs.YtgcdbcljneoifajDoor.Fif (own_lt own_block own_form own_mono own_vw ret_bool info_int new_int int_one)
open Go.Proofs.YtgcdbcljneoifajDoor.Vec (Vw)
open Go.Proofs.YtgcdbcljneoifajDoor.Sep (KpL NewL)
open Go.Proofs.YtgcdbcljneoifajDoor.Ldr (errF errF_ok errF_no Sl)
open Go.Proofs.YtgcdbcljneoifajDoor.Off (OR)
open Go.Proofs.YtgcdbcljneoifajDoor.MapV (turned_below g_of_turned wfI)
set_option linter.unusedVariables false
variable {w w' : World} {base P bG cG mO mW mS : Nat} {rv : Nat → Value} {g : G}

/-- what one wrote down -/
theorem GP.putW (h : GP w base P bG cG mO mW mS rv g) {m : Nat} (hm : m < 5) (x : Int) : ∃ w', (Instr.mapUpdate 63 (.map (some mW)) (.int .i64 (m : Int)) (.int .i64 x)).run Tryd.prog w = .ok () w' ∧ GP w' base P bG cG mO mW mS rv { g with has := up g.has m true, wrote := up g.wrote m x } ∧ St w w' base (fpP P bG mO mW mS rv) (fpP P bG mO mW mS rv) := by
  obtain ⟨W, e1, m1, t1⟩ := h.wrt.put Tryd.underlying63 (i := (m : Int)) (wfI (by omega) (by omega)) (.int .i64 x) (by have := cnK_le g.has 5; omega)
  have q := M1.putIs hm m1
  have q2 : M1 W mW (up g.has m true) (fun i => .int .i64 (up g.wrote m x i)) := q.congr (fun _ _ => rfl) fun i _ _ => by
    by_cases e : i = m
    · rw [e, up_same, up_same]
    · rw [up_other _ _ e, up_other _ _ e]
  obtain ⟨r1, r2⟩ := h.turnW q2 t1
  exact ⟨W, e1, r1, r2⟩
/-- what came since is other -/
theorem GP.putS (h : GP w base P bG cG mO mW mS rv g) {a b : Nat} (ha : a < 5) (hb : b < 5) (x : Int) : ∃ w', (Instr.mapUpdate 64 (.map (some mS)) (.agg #[.int .i64 (a : Int), .int .i64 (b : Int)]) (.int .i64 x)).run Tryd.prog w = .ok () w' ∧ GP w' base P bG cG mO mW mS rv { g with opn := up2 g.opn a b true, part := up2 g.part a b x } ∧ St w w' base (fpP P bG mO mW mS rv) (fpP P bG mO mW mS rv) := by
  obtain ⟨W, e1, m1, t1⟩ := MapW.MM.put h.snc Tryd.underlying64 (okW ha hb) (.int .i64 x) (by have := cn2_le g.opn; omega)
  have q := M2.putIs ha hb m1
  have q2 : M2 W mS (up2 g.opn a b true) (fun i j => .int .i64 (up2 g.part a b x i j)) := q.congr (fun _ _ _ _ => rfl) fun i j _ _ _ => by
    by_cases e : i = a ∧ j = b
    · rw [e.1, e.2, up2_same, up2_same]
    · rw [up2_other _ _ e, up2_other _ _ e]
  obtain ⟨r1, r2⟩ := h.turnS q2 t1
  exact ⟨W, e1, r1, r2⟩
/-- of a way nothing more is minded -/
theorem GP.delS (h : GP w base P bG cG mO mW mS rv g) {a b : Nat} (ha : a < 5) (hb : b < 5) (ty : TypeId) : ∃ w', (Builtin.delete_ #[64, 70] ty #[.map (some mS), .agg #[.int .i64 (a : Int), .int .i64 (b : Int)]]).run Tryd.prog w = .ok (.tuple #[]) w' ∧ GP w' base P bG cG mO mW mS rv { g with opn := up2 g.opn a b false } ∧ St w w' base (fpP P bG mO mW mS rv) (fpP P bG mO mW mS rv) := by
  obtain ⟨W, e1, m1, t1⟩ := MapW.MM.del h.snc Tryd.underlying64 (okW ha hb) ty
  obtain ⟨r1, r2⟩ := h.turnS (M2.delIs ha hb m1) t1
  exact ⟨W, e1, r1, r2⟩
theorem GP.eq {g' : G} (h : GP w base P bG cG mO mW mS rv g) (e : g' = g) : GP w base P bG cG mO mW mS rv g' := by subst e; exact h
theorem St.drew {w w1 : World} {base : Nat} {fa fb : List Nat} (h : St w w1 base fa fb) : St w w1.drew base fa fb := ⟨⟨h.bel.os, h.bel.tape, h.bel.output, h.bel.size, h.bel.block⟩, h.kp, h.new⟩
theorem St.drewN {w w1 : World} {base : Nat} {fa fb : List Nat} (h : St w w1 base fa fb) (n : Nat) : St w (w1.drewN n) base fa fb := ⟨⟨h.bel.os, h.bel.tape, h.bel.output, h.bel.size, h.bel.block⟩, h.kp, h.new⟩
theorem St.alloc {w w1 : World} {base : Nat} {fa fb : List Nat} (h : St w w1 base fa fb) (hbw : base ≤ w.heap.size) (ob : Obj) : St w (w1.alloc ob) base fa fb := h.trans (St.later (Nat.le_trans hbw h.bel.size) ((Below.refl _ _).alloc (Nat.le_refl _) _) fb)
/-- as far as marks are sent -/
def WK (w wr : World) (base P bG cG mO mW mS : Nat) (rv : Nat → Value) (g : G) (m k : Nat) : Prop := ∃ rv', GP wr base P bG cG mO mW mS rv' (wrK g m k) ∧ St w wr base (fpP P bG mO mW mS rv) (fpP P bG mO mW mS rv')
set_option maxRecDepth 100000 in
set_option maxHeartbeats 1000000 in
theorem wdP (h : GP w base P bG cG mO mW mS rv g) {m : Nat} (hm : m < g.n) (hl : ∀ j, (g.way m j).length ≤ 1000) (hp : ∀ i, g.part i m = 0) : Calls Tryd.prog 28 #[.pointer (some ⟨P, 0, none⟩), .int .i64 (m : Int)] w fun e w' => e = .returned (.tuple #[]) ∧ ∃ rv', GP w' base P bG cG mO mW mS rv' (write g m) ∧ St w w' base (fpP P bG mO mW mS rv) (fpP P bG mO mW mS rv') := by
  have h5 := h.room.2.2
  have c0 := h.c0
  have c2 := h.c2
  have cg := h.cg hm
  obtain ⟨x, ex⟩ : ∃ x, x = g.gold m := ⟨_, rfl⟩
  rw [← ex] at cg
  obtain ⟨n, en⟩ : ∃ n, n = g.n := ⟨_, rfl⟩
  rw [← en] at c0 hm h5
  obtain ⟨W1, e1, g1, s1⟩ := (GP.heap (w' := w.drew) h rfl).putW (m := m) (by omega) x
  have K0 : Hid (WK w W1 base P bG cG mO mW mS rv g m 0) := by
    refine ⟨rv, g1.eq ?_, (St.refl w base _).drew.trans s1⟩
    rw [wrK_zero, ex]
  have HH : Hid (n = g.n ∧ (∀ j, (g.way m j).length ≤ 1000) ∧ (∀ i, g.part i m = 0) ∧ n ≤ 5) := ⟨en, hl, hp, h5⟩
  have hm0 : (0 : Int) ≤ (m : Int) := by omega
  have hmn : (m : Int) < (n : Int) := by omega
  have hcG : (n : Int) ≤ (cG : Int) := by have := h.room.1; omega
  have hPl := h.lt
  have hgl := h.ltg
  clear h hl hp ex en g1 s1
  go_enter Tryd.func28, Tryd.ntmps28
  go_wp2_with fail
  go_region
  clear e1 cg
  have c0' : W1.cell? ⟨P, 0, none⟩ = some (.slice (some ⟨bG, 0, none⟩) n cG) := by
    obtain ⟨rv', g1, -⟩ := K0.out
    have q := g1.c0
    rw [HH.out.1]
    exact q
  clear c0 c2
  go_wp2_with fail
  go_loopw [4, 22] (fun x y wr => ∃ k : Nat, k ≤ n ∧ y = .int .i64 (k : Int) ∧ Hid (WK w wr base P bG cG mO mW mS rv g m k)) (fun _ y _ => n - (intOf y).toNat)
  case atStart => exact ⟨0, by omega, rfl, K0⟩
  case round =>
    obtain ⟨k, hk, rfl, hK⟩ := hrel
    by_cases hlt : k < n
    · have hlt' : (k : Int) < (n : Int) := by omega
      by_cases hkm : k = m
      · have dm : ((k : Int) != (m : Int)) = false := by simp [hkm]
        have N1 : Hid (WK w wr base P bG cG mO mW mS rv g m (k + 1)) := by
          obtain ⟨rv', g1, s1⟩ := hK.out
          exact ⟨rv', g1.eq (wrK_skip g hkm), s1⟩
        clear hkm
        go_wp2
        go_roundw
        case rel => exact ⟨k + 1, by omega, by go_num, N1⟩
        case measure => simp [intOf]; omega
      · have dm : ((k : Int) != (m : Int)) = true := by rw [bne_iff_ne]; omega
        obtain ⟨rv', g1, s1⟩ := hK.out
        obtain ⟨W2, e2, g2, s2⟩ := g1.putS (a := k) (b := m) (by have := HH.out.2.2.2; omega) (by have := HH.out.2.2.2; omega) 0
        have H2 : Hid (GP W2 base P bG cG mO mW mS rv' { wrK g m k with opn := up2 (wrK g m k).opn k m true } ∧ St w W2 base (fpP P bG mO mW mS rv) (fpP P bG mO mW mS rv')) := by
          refine ⟨g2.eq ?_, s1.trans s2⟩
          rw [part_same (wrK g m k) (HH.out.2.2.1 k)]
        have c3 := g1.c3
        have HN : Hid (¬ k = m) := hkm
        clear g1 s1 g2 s2 hK hkm
        go_wp2_with fail
        refine (sendP H2.out.1 (a := m) (b := k) (by have := HH.out.2.2.2; omega) (by have := HH.out.2.2.2; omega) (by have q := HH.out.2.1 k; rw [← wrK_way g HN.out] at q; exact q) 0).mono ?_
        rintro e W4 ⟨rfl, rv4, g4, s4⟩
        have N1 : Hid (WK w W4 base P bG cG mO mW mS rv g m (k + 1)) := by
          refine ⟨rv4, g4.eq ?_, H2.out.2.trans s4⟩
          rw [wrK_step g HN.out]
          show _ = { wrK g m k with way := up2 (wrK g m k).way m k ((wrK g m k).way m k ++ [0]), opn := up2 (wrK g m k).opn k m true }
          rw [wrK_way g HN.out]
        clear g4 s4 e2 c3
        go_wp2
        go_roundw
        case rel => exact ⟨k + 1, by omega, by go_num, N1⟩
        case measure => simp [intOf]; omega
    · have hlt' : ¬ (k : Int) < (n : Int) := by omega
      have hkn : k = n := by omega
      go_wp2
      go_end0
      obtain ⟨rv', g1, s1⟩ := hK.out
      rw [hkn, HH.out.1, wrK_all] at g1
      exact ⟨rfl, rv', g1, s1⟩
end Go.Proofs.YtgcdbcljneoifajDoor.Pic
