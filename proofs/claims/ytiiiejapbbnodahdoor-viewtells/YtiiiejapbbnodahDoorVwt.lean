/-
  What is wrong with any view, the next one, any chain, and who is in both: the walk of ViewTells.
-/
import Derived.Test.YtiiiejapbbnodahDoorViwC
import Derived.Test.YtiiiejapbbnodahDoorVwtR
import Derived.Deep.CutBlock
import Derived.Deep.CutRange
namespace Go.Proofs.YtiiiejapbbnodahDoor.Viw
open Go.RowKit
open Go.Proofs.YtiiiejapbbnodahDoor.As (Laid)
open Go.Proofs.YtiiiejapbbnodahDoor.Fif (ret_bool)
open Go.Proofs.YtiiiejapbbnodahDoor.Vec (Vw)
open Go.Proofs.YtiiiejapbbnodahDoor.Ldr (errF errF_ok errF_no errF_same Sl same_any)
set_option linter.unusedVariables false

theorem scan_stay {f : Nat → Int} {k n : Nat} (h : scan f k ≠ 0) (hn : k ≤ n) : scan f n = scan f k ∧ at_ f n = at_ f k := by
  induction n with
  | zero => rw [show k = 0 by omega]; exact ⟨rfl, rfl⟩
  | succ n ih =>
    by_cases e : k = n + 1
    · rw [e]; exact ⟨rfl, rfl⟩
    · obtain ⟨h1, h2⟩ := ih (by omega)
      refine ⟨?_, ?_⟩
      · show (if scan f n = 0 then f n else scan f n) = _
        rw [h1, if_neg h]
      · show (if scan f n = 0 then (if f n = 0 then 0 else n) else at_ f n) = _
        rw [h1, if_neg h, h2]
theorem scan_step {f : Nat → Int} {k : Nat} (h : scan f k = 0) : scan f (k + 1) = f k ∧ at_ f (k + 1) = if f k = 0 then 0 else k := ⟨if_pos h, if_pos h⟩
theorem slvw {w : World} {q : Option Addr} {n c : Nat} {l : List Int} (h : Sl w (.slice q n c) l) : Vw w q n l ∧ n ≤ maxLen := by
  obtain ⟨a, cap, e, h1, h2, h3⟩ := h
  injection e with e1 e2 e3
  subst e1 e2
  exact ⟨h3, Nat.le_trans h1 h2⟩
theorem below_alt (w : World) (o : Obj) : Below w.heap.size w (w.alloc o) := (Below.refl _ _).alloc (Nat.le_refl _) _
/-- how it stands: both views in their variables -/
structure ST (w wz : World) (B B' : Nat) (v u : Vi) (vv uv : Value) : Prop where
  bel : Below w.heap.size w wz
  bv : Bv wz B v vv
  bu : Bv wz B' u uv
theorem ST.later {w wz w' : World} {B B' : Nat} {v u : Vi} {vv uv : Value} (h : ST w wz B B' v u vv uv) (hb : Below wz.heap.size wz w') : ST w w' B B' v u vv uv := ⟨h.bel.trans (hb.mono h.bel.size), h.bv.later hb, h.bu.later hb⟩
theorem ch_one {l : List Vi} {k : Nat} (h : viewC (vw l k) ≠ 0) : chAt l k = viewC (vw l k) := if_neg h
theorem ch_first {l : List Vi} (h : viewC (vw l 0) = 0) : chAt l 0 = 0 := by
  unfold chAt
  rw [if_pos h, if_pos rfl]
theorem ch_num {l : List Vi} {k m : Nat} (h : viewC (vw l k) = 0) (hm : k = m + 1) (hn : (vw l k).n ≠ (vw l m).n + 1) : chAt l k = 3 := by
  subst hm
  unfold chAt
  rw [if_pos h, if_neg (by omega), show m + 1 - 1 = m by omega, if_neg hn]
theorem ch_few {l : List Vi} {k m : Nat} (h : viewC (vw l k) = 0) (hm : k = m + 1) (hn : (vw l k).n = (vw l m).n + 1) : chAt l k = if few (vw l m).has (vw l k).has = true then 8 else 0 := by
  subst hm
  unfold chAt
  rw [if_pos h, if_neg (by omega), show m + 1 - 1 = m by omega, if_pos hn]
theorem ch_view {l : List Vi} {k : Nat} (h : chAt l k = 0) : viewC (vw l k) = 0 := by
  refine Decidable.byContradiction fun z => ?_
  rw [ch_one z] at h
  exact z h
set_option maxRecDepth 100000 in
set_option maxHeartbeats 8000000 in
theorem tells_any (v u : Vi) (has : List Int) (l : List Vi) (q : Option Addr) (lv c : Nat) (qu : Option Addr) (lu cu : Nat) (qh : Option Addr) (lh ch : Nat) (a : Option Addr) (len cap : Nat) (w : World) (hL : Laid w) (hv : Sl w (.slice q lv c) v.has) (hu : Sl w (.slice qu lu cu) u.has) (hh : Sl w (.slice qh lh ch) has) (hl : Vs w a len l) (hlc : len ≤ cap) (hm : cap ≤ maxLen) : Calls Tryd.prog 4 #[.agg #[.int .i64 v.n, .slice q lv c], .slice qh lh ch, .slice a len cap, .agg #[.int .i64 u.n, .slice qu lu cu]] w fun x w' => x = .returned (.bool true) ∧ Below w.heap.size w w' := by
  obtain ⟨n, en⟩ : ∃ n, n = v.n := ⟨_, rfl⟩
  obtain ⟨nu, enu⟩ : ∃ nu, nu = u.n := ⟨_, rfl⟩
  obtain ⟨W0, eW0⟩ : ∃ W0, W0 = (w.alloc (.cells #[.int .i64 v.n, .slice q lv c] 40)).alloc (.cells #[.int .i64 u.n, .slice qu lu cu] 40) := ⟨_, rfl⟩
  have S0 : Hid (ST w W0 w.heap.size (w.heap.size + 1) v u (.slice q lv c) (.slice qu lu cu)) := by
    rw [eW0]
    have b1 := below_alt w (.cells #[.int .i64 v.n, .slice q lv c] 40)
    have b2 := below_alt (w.alloc (.cells #[.int .i64 v.n, .slice q lv c] 40)) (.cells #[.int .i64 u.n, .slice qu lu cu] 40)
    have r := Bv.made (w.alloc (.cells #[.int .i64 v.n, .slice q lv c] 40)) (v := u) (hu.later b1)
    rw [show (w.alloc (.cells #[.int .i64 v.n, .slice q lv c] 40)).heap.size = w.heap.size + 1 by simp] at r
    exact ⟨b1.trans (b2.mono b1.size), (Bv.made w hv).later b2, r⟩
  have HV : Hid (Laid w ∧ Sl w (.slice qh lh ch) has ∧ Vs w a len l ∧ len ≤ cap ∧ cap ≤ maxLen ∧ n = v.n ∧ nu = u.n) := ⟨hL, hh, hl, hlc, hm, en, enu⟩
  have hlen : (len : Int) ≤ 9223372036854775807 := by unfold maxLen at hm; omega
  obtain ⟨c1, ec1⟩ : ∃ c1, c1 = viewC v := ⟨_, rfl⟩
  obtain ⟨f1, ef1⟩ : ∃ f1, f1 = nextC v has := ⟨_, rfl⟩
  have HC : Hid (c1 = viewC v ∧ f1 = nextC v has) := ⟨ec1, ef1⟩
  rw [← en, ← enu] at eW0
  rw [← en, ← enu]
  clear hL hv hu hh hl en enu ec1 ef1
  have m0 : W0.cell? ⟨w.heap.size, 0, none⟩ = some (.int .i64 n) := by rw [HV.out.2.2.2.2.2.1]; exact S0.out.bv.c0
  have m1 := S0.out.bv.c1
  go_enter Tryd.func4, Tryd.ntmps4
  go_wp2_with fail
  rw [← eW0]
  clear m0 m1 eW0
  refine (show Calls Tryd.prog 14 #[.agg #[.int .i64 n, .slice q lv c]] W0 _ from by rw [HV.out.2.2.2.2.2.1]; exact refView v q lv c W0 (slvw S0.out.bv.sl).1 (slvw S0.out.bv.sl).2).mono ?_
  rintro e w1 ⟨rfl, hb1⟩
  rw [← HC.out.1]
  have S1 : Hid (ST w w1 w.heap.size (w.heap.size + 1) v u (.slice q lv c) (.slice qu lu cu)) := S0.out.later hb1
  clear hb1 S0
  have m0 : w1.cell? ⟨w.heap.size, 0, none⟩ = some (.int .i64 n) := by rw [HV.out.2.2.2.2.2.1]; exact S1.out.bv.c0
  have m1 := S1.out.bv.c1
  go_wp2_with fail
  clear m0 m1
  refine (show Calls Tryd.prog 15 #[.agg #[.int .i64 n, .slice q lv c]] w1 _ from by rw [HV.out.2.2.2.2.2.1]; exact checkV v (.slice q lv c) w1 S1.out.bv.sl).mono ?_
  rintro e w2 ⟨rfl, hb2⟩
  rw [← HC.out.1]
  have S2 : Hid (ST w w2 w.heap.size (w.heap.size + 1) v u (.slice q lv c) (.slice qu lu cu)) := S1.out.later hb2
  clear hb2 S1
  go_wp2_with fail
  refine (errF_same c1 w2 (HV.out.1.later S2.out.bel)).mono ?_
  rintro e w3 ⟨rfl, hb3⟩
  have S3 : Hid (ST w w3 w.heap.size (w.heap.size + 1) v u (.slice q lv c) (.slice qu lu cu)) := S2.out.later hb3
  clear hb3 S2
  go_upto_if 31 with fail
  go_cut [11] from 30 to 34 (fun y wz => y = .int .i64 f1 ∧ Hid (ST w wz w.heap.size (w.heap.size + 1) v u (.slice q lv c) (.slice qu lu cu)))
  case first =>
    have m0 : w3.cell? ⟨w.heap.size, 0, none⟩ = some (.int .i64 n) := by rw [HV.out.2.2.2.2.2.1]; exact S3.out.bv.c0
    have m1 := S3.out.bv.c1
    by_cases h1 : c1 = 0
    · have h1' : (c1 == 0) = true := by rw [beq_iff_eq]; exact h1
      have H1 : Hid (viewC v = 0 ∧ f1 = nxC v has) := by
        have z : viewC v = 0 := by rw [← HC.out.1]; exact h1
        exact ⟨z, by rw [HC.out.2]; exact if_pos z⟩
      clear h1
      go_wp2_with fail
      refine (show Calls Tryd.prog 16 #[.agg #[.int .i64 n, .slice q lv c], .slice qh lh ch] w3 _ from by rw [HV.out.2.2.2.2.2.1]; exact refNext v has q lv c qh lh ch w3 (slvw S3.out.bv.sl).1 (slvw (HV.out.2.1.later S3.out.bel)).1 (slvw HV.out.2.1).2 H1.out.1).mono ?_
      rintro e w4 ⟨rfl, hb4⟩
      rw [← H1.out.2]
      have S4 : Hid (ST w w4 w.heap.size (w.heap.size + 1) v u (.slice q lv c) (.slice qu lu cu)) := S3.out.later hb4
      clear hb4 m0 m1
      go_wp2
      go_meet
      exact ⟨rfl, S4.out⟩
    · have h1' : (c1 == 0) = false := by rw [beq_eq_false_iff_ne]; exact h1
      have e : f1 = c1 := by rw [HC.out.2, HC.out.1]; exact if_neg (by rw [← HC.out.1]; exact h1)
      have E : Hid (f1 = c1) := e
      clear h1 e
      go_wp2
      go_meet
      exact ⟨by rw [E.out], S3.out⟩
  case rest =>
    obtain ⟨rfl, hS⟩ := hcut
    obtain ⟨w4, ew4⟩ : ∃ w4, w4 = wc := ⟨_, rfl⟩
    subst ew4
    have S4 : Hid (ST w w4 w.heap.size (w.heap.size + 1) v u (.slice q lv c) (.slice qu lu cu)) := hS
    clear hS S3
    obtain ⟨X, eX⟩ : ∃ X, X = w4.heap.size := ⟨_, rfl⟩
    obtain ⟨w5, ew5⟩ : ∃ w5, w5 = w4.alloc (.cells #[.int .i64 0, .slice none 0 0] 40) := ⟨_, rfl⟩
    have S5 : Hid (ST w w5 w.heap.size (w.heap.size + 1) v u (.slice q lv c) (.slice qu lu cu) ∧ Bv w5 X noV (.slice none 0 0) ∧ w.heap.size < X) := by
      rw [ew5, eX]
      exact ⟨S4.out.later (below_alt _ _), Bv.made w4 (v := noV) (Sl.nil _), S4.out.bv.lt⟩
    have SW : Hid (ST w ((w5.setCell ⟨X, 0, none⟩ (.int .i64 (n + 1))).setCell ⟨X, 1, none⟩ (.slice qh lh ch)) w.heap.size (w.heap.size + 1) v u (.slice q lv c) (.slice qu lu cu) ∧ Bv ((w5.setCell ⟨X, 0, none⟩ (.int .i64 (n + 1))).setCell ⟨X, 1, none⟩ (.slice qh lh ch)) X ⟨n + 1, has⟩ (.slice qh lh ch)) := by
      rw [ew5, eX]
      have bb : Below w4.heap.size w4 (((w4.alloc (.cells #[.int .i64 0, .slice none 0 0] 40)).setCell ⟨w4.heap.size, 0, none⟩ (.int .i64 (n + 1))).setCell ⟨w4.heap.size, 1, none⟩ (.slice qh lh ch)) := ((below_alt w4 _).setCell (p := ⟨w4.heap.size, 0, none⟩) (Nat.le_refl _) _).setCell (p := ⟨w4.heap.size, 1, none⟩) (Nat.le_refl _) _
      have r := (Bv.made w4 (v := noV) (Sl.nil _)).row
      refine ⟨S4.out.later bb, ((r.set 0 (.int .i64 (n + 1))).set 1 (.slice qh lh ch)).congr fun j hj => ?_, (HV.out.2.1.later S4.out.bel).later bb⟩
      rcases (show j = 0 ∨ j = 1 by omega) with rfl | rfl
      · rfl
      · rfl
    go_upto_if 36 with fail
    rw [← ew5, ← eX]
    clear ew5 eX S4
    go_cut [41] from 35 to 40 (fun y wz => Hid (ST w wz w.heap.size (w.heap.size + 1) v u (.slice q lv c) (.slice qu lu cu) ∧ ∃ qw kw cw, Bv wz X (nextV v has) (.slice qw kw cw)))
    case first =>
      have m0 : w5.cell? ⟨w.heap.size, 0, none⟩ = some (.int .i64 n) := by rw [HV.out.2.2.2.2.2.1]; exact S5.out.1.bv.c0
      have x0 := S5.out.2.1.c0
      have x1 := S5.out.2.1.c1
      have z0 := World.rowIs.frozen S5.out.2.1.row 0
      have z1 := World.rowIs.frozen S5.out.2.1.row 1
      by_cases h1 : f1 = 0
      · have h1' : (f1 == 0) = true := by rw [beq_iff_eq]; exact h1
        have hn : nextC v has = 0 := by rw [← HC.out.2]; exact h1
        have hb := (view_ok (next_ok hn).1).1
        have hn0 : 0 ≤ n := by rw [HV.out.2.2.2.2.2.1]; exact hb.1
        have hn1 : n ≤ 1000000 := by rw [HV.out.2.2.2.2.2.1]; exact hb.2
        have HN : Hid (nextV v has = ⟨n + 1, has⟩) := by rw [HV.out.2.2.2.2.2.1]; exact next_is hn
        have SS : Hid (ST w ((w5.setCell ⟨X, 0, none⟩ (.int .i64 (n + 1))).setCell ⟨X, 1, none⟩ (.slice qh lh ch)) w.heap.size (w.heap.size + 1) v u (.slice q lv c) (.slice qu lu cu) ∧ ∃ qw kw cw, Bv ((w5.setCell ⟨X, 0, none⟩ (.int .i64 (n + 1))).setCell ⟨X, 1, none⟩ (.slice qh lh ch)) X (nextV v has) (.slice qw kw cw)) := ⟨SW.out.1, qh, lh, ch, by rw [HN.out]; exact SW.out.2⟩
        clear h1 hn hb
        go_wp2
        go_meet
        exact SS.out
      · have h1' : (f1 == 0) = false := by rw [beq_eq_false_iff_ne]; exact h1
        have SS : Hid (ST w w5 w.heap.size (w.heap.size + 1) v u (.slice q lv c) (.slice qu lu cu) ∧ ∃ qw kw cw, Bv w5 X (nextV v has) (.slice qw kw cw)) := ⟨S5.out.1, none, 0, 0, by rw [show nextV v has = noV from if_neg (by rw [← HC.out.2]; exact h1)]; exact S5.out.2.1⟩
        clear h1
        go_wp2
        go_meet
        exact SS.out
    case rest =>
      obtain ⟨hS, qw, kw, cw, hW⟩ := hcut.out
      obtain ⟨w6, ew6⟩ : ∃ w6, w6 = wc := ⟨_, rfl⟩
      subst ew6
      have S6 : Hid (ST w w6 w.heap.size (w.heap.size + 1) v u (.slice q lv c) (.slice qu lu cu) ∧ Bv w6 X (nextV v has) (.slice qw kw cw)) := ⟨hS, hW⟩
      clear hS hW hcut S5 SW
      have m0 : w6.cell? ⟨w.heap.size, 0, none⟩ = some (.int .i64 n) := by rw [HV.out.2.2.2.2.2.1]; exact S6.out.1.bv.c0
      have m1 := S6.out.1.bv.c1
      go_wp2_with fail
      clear m0 m1
      refine (nextAt (v := v) (has := has) HV.out.2.2.2.2.2.1 S6.out.1.bv.sl (HV.out.2.1.later S6.out.1.bel)).mono ?_
      rintro e w7 ⟨n7, l7, q7, c7, rfl, hn7, h7, hb7⟩
      rw [← HC.out.2]
      have S7 : Hid (ST w w7 w.heap.size (w.heap.size + 1) v u (.slice q lv c) (.slice qu lu cu) ∧ Bv w7 X (nextV v has) (.slice qw kw cw) ∧ Sl w7 (.slice q7 l7 c7) (nextV v has).has) := ⟨S6.out.1.later hb7, S6.out.2.later hb7, h7⟩
      clear h7 hb7 S6
      obtain ⟨Y, eY⟩ : ∃ Y, Y = w7.heap.size := ⟨_, rfl⟩
      obtain ⟨w8, ew8⟩ : ∃ w8, w8 = w7.alloc (.cells #[.int .i64 n7, .slice q7 l7 c7] 40) := ⟨_, rfl⟩
      have S8 : Hid (ST w w8 w.heap.size (w.heap.size + 1) v u (.slice q lv c) (.slice qu lu cu) ∧ Bv w8 X (nextV v has) (.slice qw kw cw) ∧ Bv w8 Y (nextV v has) (.slice q7 l7 c7)) := by
        rw [ew8, eY, hn7.out.1]
        exact ⟨S7.out.1.later (below_alt _ _), S7.out.2.1.later (below_alt _ _), Bv.made w7 S7.out.2.2⟩
      go_wp2_with fail
      rw [← ew8, ← eY]
      clear ew8 eY S7
      refine (errF_same f1 w8 (HV.out.1.later S8.out.1.bel)).mono ?_
      rintro e w9 ⟨rfl, hb9⟩
      have S9 : Hid (ST w w9 w.heap.size (w.heap.size + 1) v u (.slice q lv c) (.slice qu lu cu) ∧ Bv w9 X (nextV v has) (.slice qw kw cw) ∧ Bv w9 Y (nextV v has) (.slice q7 l7 c7)) := ⟨S8.out.1.later hb9, S8.out.2.1.later hb9, S8.out.2.2.later hb9⟩
      clear hb9 S8
      have m0 : w9.cell? ⟨X, 0, none⟩ = some (.int .i64 n7) := by rw [hn7.out.1]; exact S9.out.2.1.c0
      have m1 := S9.out.2.1.c1
      have k0 : w9.cell? ⟨Y, 0, none⟩ = some (.int .i64 n7) := by rw [hn7.out.1]; exact S9.out.2.2.c0
      have k1 := S9.out.2.2.c1
      go_wp2_with fail
      clear m0 m1 k0 k1
      refine (sameView n7 (nextV v has).has q7 l7 c7 qw kw cw w9 S9.out.2.2.sl S9.out.2.1.sl).mono ?_
      rintro e w10 ⟨rfl, hb10⟩
      have S10 : Hid (ST w w10 w.heap.size (w.heap.size + 1) v u (.slice q lv c) (.slice qu lu cu)) := S9.out.1.later hb10
      clear hb10 S9
      obtain ⟨f2, ef2⟩ : ∃ f2 : Int, f2 = if 60 < len then 4 else 0 := ⟨_, rfl⟩
      have HF2 : Hid (f2 = if 60 < len then 4 else 0) := ef2
      clear ef2
      go_upto_if 58 with fail
      go_cut [11] from 56 to 58 (fun y wz => y = .int .i64 f2 ∧ wz = w10)
      case first =>
        by_cases h6 : 60 < len
        · have h6' : (len : Int) > 60 := by omega
          have e : f2 = 4 := by rw [HF2.out, if_pos h6]
          go_wp2
          go_meet
          exact ⟨by rw [e], rfl⟩
        · have h6' : ¬ (len : Int) > 60 := by omega
          have e : f2 = 0 := by rw [HF2.out, if_neg h6]
          go_wp2
          go_meet
          exact ⟨by rw [e], rfl⟩
      case rest =>
        obtain ⟨rfl, hw⟩ := hcut
        rw [hw]
        clear hw
        obtain ⟨f3, ef3⟩ : ∃ f3, f3 = chC l := ⟨_, rfl⟩
        obtain ⟨a3, ea3⟩ : ∃ a3, a3 = chN l := ⟨_, rfl⟩
        have HF3 : Hid (f3 = chC l ∧ a3 = chN l ∧ l.length = len) := ⟨ef3, ea3, HV.out.2.2.1.1⟩
        clear ef3 ea3
        go_upto_block 0 with fail
        go_cut [11, 16, 17] from 59 to 127 (fun y11 y16 y17 wz => y11 = .int .i64 f3 ∧ y16 = .int .i64 (a3 : Int) ∧ Hid (ST w wz w.heap.size (w.heap.size + 1) v u (.slice q lv c) (.slice qu lu cu)))
        case first =>
          by_cases h6 : 60 < len
          · have e2 : f2 = 4 := by rw [HF2.out, if_pos h6]
            have E : Hid (f3 = f2 ∧ a3 = 0) := by
              have z := HF3.out.2.2
              refine ⟨?_, ?_⟩
              · rw [HF3.out.1, e2]; exact if_pos (by omega)
              · rw [HF3.out.2.1]; exact if_pos (by omega)
            have hf : (f2 == 0) = false := by rw [beq_eq_false_iff_ne, e2]; decide
            have h0 : (0 : Int) < (len : Int) := by omega
            clear e2
            go_wp2_with fail
            go_loopw [11, 16, 17] (fun y y16 y17 wr => y = .int .i64 f2 ∧ y16 = .int .i64 0 ∧ y17 = .int .i64 0 ∧ wr = w10) (fun _ _ _ _ => 0)
            case atStart => exact ⟨rfl, rfl, rfl, rfl⟩
            case round =>
              obtain ⟨rfl, rfl, rfl, hw⟩ := hrel
              rw [hw]
              go_wp2
              go_meet
              exact ⟨by rw [E.out.1], by rw [E.out.2]; rfl, S10.out⟩
          · have e2 : f2 = 0 := by rw [HF2.out, if_neg h6]
            subst e2
            have HF4 : Hid (f3 = scan (chAt l) len ∧ a3 = at_ (chAt l) len ∧ len ≤ 60) := by
              have z := HF3.out.2.2
              refine ⟨?_, ?_, by omega⟩
              · rw [HF3.out.1, ← z]; exact if_neg (by omega)
              · rw [HF3.out.2.1, ← z]; exact if_neg (by omega)
            go_wp2_with fail
            go_loopw [11, 16, 17] (fun y y16 y17 wr => ∃ (k : Nat) (s : Int) (t : Nat), k ≤ len ∧ y = .int .i64 s ∧ y16 = .int .i64 (t : Int) ∧ y17 = .int .i64 (k : Int) ∧ Hid (s = scan (chAt l) k ∧ t = at_ (chAt l) k ∧ ST w wr w.heap.size (w.heap.size + 1) v u (.slice q lv c) (.slice qu lu cu))) (fun _ _ y _ => len - (intOf y).toNat)
            case atStart => exact ⟨0, 0, 0, by omega, rfl, rfl, rfl, rfl, rfl, S10.out⟩
            case round =>
              obtain ⟨k, s, t, hk, rfl, rfl, rfl, hR⟩ := hrel
              by_cases hkl : k < len
              · have hkl' : (k : Int) < (len : Int) := by omega
                by_cases hs : s = 0
                · subst hs
                  have ht : t = 0 := by rw [hR.out.2.1]; exact at_ok hR.out.1.symm
                  subst ht
                  have hk0 : (0 : Int) ≤ (k : Int) := by omega
                  obtain ⟨bl, ol, ea, hltl, hcl⟩ := (HV.out.2.2.1.later hR.out.2.2.bel).2 (by omega)
                  subst ea
                  obtain ⟨qk, ck, g0, g1, gs⟩ := hcl k hkl
                  obtain ⟨nk, enk⟩ : ∃ nk, nk = (vw l k).n := ⟨_, rfl⟩
                  obtain ⟨lk, elk⟩ : ∃ lk, lk = (vw l k).has.length := ⟨_, rfl⟩
                  obtain ⟨fk, efk⟩ : ∃ fk, fk = viewC (vw l k) := ⟨_, rfl⟩
                  rw [← enk] at g0
                  rw [← elk] at g1 gs
                  have EK : Hid (nk = (vw l k).n ∧ lk = (vw l k).has.length ∧ fk = viewC (vw l k) ∧ Sl wr (.slice qk lk ck) (vw l k).has) := ⟨enk, elk, efk, gs⟩
                  have SC : Hid (scan (chAt l) k = 0) := hR.out.1.symm
                  have HCL : Hid (bl < wr.heap.size ∧ ∀ k, k < len → ∃ q c, wr.cell? ⟨bl, ol + k * 2, none⟩ = some (.int .i64 (vw l k).n) ∧ wr.cell? ⟨bl, ol + k * 2 + 1, none⟩ = some (.slice q (vw l k).has.length c) ∧ Sl wr (.slice q (vw l k).has.length c) (vw l k).has) := ⟨hltl, hcl⟩
                  clear enk elk efk gs hcl hltl
                  go_wp2_with fail
                  refine (show Calls Tryd.prog 14 #[.agg #[.int .i64 nk, .slice qk lk ck]] wr _ from by rw [EK.out.1]; exact refView (vw l k) qk lk ck wr (slvw EK.out.2.2.2).1 (slvw EK.out.2.2.2).2).mono ?_
                  rintro e w2 ⟨rfl, hb2⟩
                  rw [← EK.out.2.2.1]
                  have T2 : Hid (ST w w2 w.heap.size (w.heap.size + 1) v u (.slice q lv c) (.slice qu lu cu) ∧ Sl w2 (.slice qk lk ck) (vw l k).has ∧ Below wr.heap.size wr w2) := ⟨hR.out.2.2.later hb2, EK.out.2.2.2.later hb2, hb2⟩
                  have x0 : w2.cell? ⟨bl, ol + k * 2, none⟩ = some (.int .i64 nk) := (hb2.cell (p := ⟨bl, ol + k * 2, none⟩) HCL.out.1).trans g0
                  have x1 : w2.cell? ⟨bl, ol + k * 2 + 1, none⟩ = some (.slice qk lk ck) := (hb2.cell (p := ⟨bl, ol + k * 2 + 1, none⟩) HCL.out.1).trans g1
                  clear hb2 g0 g1
                  by_cases hf : fk = 0
                  · subst hf
                    by_cases hk1 : 0 < k
                    · obtain ⟨m, em⟩ : ∃ m, m = k - 1 := ⟨_, rfl⟩
                      have ekm : (k : Int) - 1 = (m : Int) := by omega
                      have hm0 : (0 : Int) ≤ (m : Int) := by omega
                      have hml : (m : Int) < (len : Int) := by omega
                      have dk : (k : Int) > 0 := by omega
                      obtain ⟨qm, cm, p0, p1, ps⟩ := HCL.out.2 m (by omega)
                      obtain ⟨nm, enm⟩ : ∃ nm, nm = (vw l m).n := ⟨_, rfl⟩
                      obtain ⟨lm, elm⟩ : ∃ lm, lm = (vw l m).has.length := ⟨_, rfl⟩
                      rw [← enm] at p0
                      rw [← elm] at p1 ps
                      have hvm : viewC (vw l m) = 0 := ch_view (scan_ok.1 SC.out m (by omega))
                      have hbm := (view_ok hvm).1
                      have hnm0 : 0 ≤ nm := by rw [enm]; exact hbm.1
                      have hnm1 : nm ≤ 1000000 := by rw [enm]; exact hbm.2
                      have hlm5 : lm ≤ 5 := by rw [elm]; exact has_le (view_ok hvm).2
                      have hlk5 : lk ≤ 5 := by rw [EK.out.2.1]; exact has_le (view_ok EK.out.2.2.1.symm).2
                      have EM : Hid (k = m + 1 ∧ nm = (vw l m).n ∧ lm = (vw l m).has.length ∧ Sl w2 (.slice qm lm cm) (vw l m).has) := ⟨by omega, enm, elm, ps.later T2.out.2.2⟩
                      have y0 : w2.cell? ⟨bl, ol + m * 2, none⟩ = some (.int .i64 nm) := (T2.out.2.2.cell (p := ⟨bl, ol + m * 2, none⟩) HCL.out.1).trans p0
                      have y1 : w2.cell? ⟨bl, ol + m * 2 + 1, none⟩ = some (.slice qm lm cm) := (T2.out.2.2.cell (p := ⟨bl, ol + m * 2 + 1, none⟩) HCL.out.1).trans p1
                      clear em p0 p1 ps enm elm hvm hbm
                      by_cases hne : nk = nm + 1
                      · have HNE : Hid (nk = nm + 1) := hne
                        have ER : Hid (chAt l k = if few (vw l m).has (vw l k).has = true then 8 else 0) := ch_few EK.out.2.2.1.symm EM.out.1 (by rw [← EK.out.1, ← EM.out.2.1]; exact hne)
                        subst hne
                        go_wp2_with fail
                        go_quiet (fail)
                        obtain ⟨w3, ew3⟩ : ∃ w3, w3 = w2.drewN nq := ⟨_, rfl⟩
                        rw [← ew3]
                        have T3 : Hid (ST w w3 w.heap.size (w.heap.size + 1) v u (.slice q lv c) (.slice qu lu cu) ∧ Sl w3 (.slice qk lk ck) (vw l k).has ∧ Sl w3 (.slice qm lm cm) (vw l m).has) := by rw [ew3]; exact ⟨T2.out.1.later (drewsV (Below.refl _ _) _), T2.out.2.1.later (drewsV (Below.refl _ _) _), EM.out.2.2.2.later (drewsV (Below.refl _ _) _)⟩
                        have hb3 : w3.heap = w2.heap := by rw [ew3]; rfl
                        have HS : Hid (∀ X : World, (∀ b, b < w3.heap.size → X.heap[b]? = w3.heap[b]?) → X.cell? ⟨bl, ol + m * 2 + 1, none⟩ = some (.slice qm lm cm) ∧ X.cell? ⟨bl, ol + k * 2 + 1, none⟩ = some (.slice qk lk ck)) := by
                          intro X hX
                          have hl2 : bl < w3.heap.size := by rw [hb3]; exact Nat.lt_of_lt_of_le HCL.out.1 T2.out.2.2.size
                          have z : X.heap[bl]? = w2.heap[bl]? := by rw [hX bl hl2, hb3]
                          exact ⟨(World.cell?_of_block (a := ⟨bl, ol + m * 2 + 1, none⟩) z).trans y1, (World.cell?_of_block (a := ⟨bl, ol + k * 2 + 1, none⟩) z).trans x1⟩
                        have hwk : IntKind.i64.wrap ((k : Int) - 1) = (m : Int) := by rw [IntWalk.i64_in _ (by omega)]; exact ekm
                        have hwm : IntKind.i64.wrap (m : Int) = (m : Int) := IntWalk.i64_in _ (by omega)
                        clear ew3 hb3 x0 x1 y0 y1
                        go_wp2_with fail
                        go_region_held3 (fun X => X.cell? ⟨bl, ol + m * 2 + 1, none⟩ = some (.slice qm lm cm) ∧ X.cell? ⟨bl, ol + k * 2 + 1, none⟩ = some (.slice qk lk ck)) (first | exact HS.out _ (fun _ _ => rfl) | exact HS.out _ (fun b hb' => T4.out.1.block b hb')) (first
                          | (go_at_call 19; refine (refShared (vw l m).has (vw l k).has qm lm cm qk lk ck _ (by have z := (slvw T3.out.2.2).1; exact z) (by have z := (slvw T3.out.2.1).1; exact z) (by omega) (by omega)).mono ?_; rintro e4 w4 ⟨v4, rfl, ho, hb⟩; obtain ⟨q4, c4, rfl, hsl⟩ := Ow.sl ho; obtain ⟨l4, el4⟩ : ∃ l4, l4 = (shared (vw l m).has (vw l k).has).length := ⟨_, rfl⟩; rw [← el4]; have EL4 : Hid (l4 = (shared (vw l m).has (vw l k).has).length) := el4; have hl4 : l4 ≤ 5 := (by have z1 := shared_len (vw l m).has (vw l k).has; have z2 := EM.out.2.2.1; omega); have T4 : Hid (Below w3.heap.size w3 w4 ∧ True) := ⟨⟨hb.os, hb.tape, hb.output, hb.size, fun k hk => hb.block k hk⟩, trivial⟩; clear ho hb hsl el4))
                        have hwr : IntKind.i64.wrap (2 * (l4 : Int)) = 2 * (l4 : Int) := IntWalk.i64_in _ (by omega)
                        have T5 : Hid (ST w w4 w.heap.size (w.heap.size + 1) v u (.slice q lv c) (.slice qu lu cu)) := T3.out.1.later T4.out.1
                        have EF : Hid (few (vw l m).has (vw l k).has = decide (2 * l4 ≤ lm)) := by show _ = _; unfold few; rw [← EM.out.2.2.1, ← EL4.out]
                        by_cases h3 : 2 * l4 ≤ lm
                        · have h3' : (2 : Int) * (l4 : Int) ≤ (lm : Int) := by omega
                          have EE : Hid (scan (chAt l) (k + 1) = 8 ∧ at_ (chAt l) (k + 1) = k) := by
                            have z : chAt l k = 8 := by rw [ER.out, EF.out, decide_eq_true h3]; rfl
                            obtain ⟨h1, h2⟩ := scan_step SC.out
                            exact ⟨h1.trans z, by rw [h2, z]; rfl⟩
                          go_wp2
                          go_roundw
                          case rel => exact ⟨k + 1, 8, k, by omega, rfl, rfl, by go_num, EE.out.1.symm, EE.out.2.symm, T5.out⟩
                          case measure => simp [intOf]; omega
                        · have h3' : ¬ (2 : Int) * (l4 : Int) ≤ (lm : Int) := by omega
                          have EE : Hid (scan (chAt l) (k + 1) = 0 ∧ at_ (chAt l) (k + 1) = 0) := by
                            have z : chAt l k = 0 := by rw [ER.out, EF.out, decide_eq_false h3]; rfl
                            obtain ⟨h1, h2⟩ := scan_step SC.out
                            exact ⟨h1.trans z, by rw [h2, z]; rfl⟩
                          go_wp2
                          go_roundw
                          case rel => exact ⟨k + 1, 0, 0, by omega, rfl, rfl, by go_num, EE.out.1.symm, EE.out.2.symm, T5.out⟩
                          case measure => simp [intOf]; omega
                      · have EE : Hid (scan (chAt l) (k + 1) = 3 ∧ at_ (chAt l) (k + 1) = k) := by
                          have z : chAt l k = 3 := ch_num EK.out.2.2.1.symm EM.out.1 (by rw [← EK.out.1, ← EM.out.2.1]; exact hne)
                          obtain ⟨h1, h2⟩ := scan_step SC.out
                          exact ⟨h1.trans z, by rw [h2, z]; rfl⟩
                        have hne' : (nk != nm + 1) = true := by rw [bne_iff_ne]; exact hne
                        go_wp2_with fail
                        go_quiet (fail)
                        obtain ⟨w3, ew3⟩ : ∃ w3, w3 = w2.drewN nq := ⟨_, rfl⟩
                        rw [← ew3]
                        have T3 : Hid (ST w w3 w.heap.size (w.heap.size + 1) v u (.slice q lv c) (.slice qu lu cu)) := by rw [ew3]; exact T2.out.1.later (drewsV (Below.refl _ _) _)
                        clear ew3 x0 x1 y0 y1
                        go_wp2_with fail
                        go_quiet (fail)
                        go_wp2
                        go_roundw
                        case rel => exact ⟨k + 1, 3, k, by omega, rfl, rfl, by go_num, EE.out.1.symm, EE.out.2.symm, T3.out.later (drewsV (Below.refl _ _) _)⟩
                        case measure => simp [intOf]; omega
                    · have dk : decide ((k : Int) > 0) = false := decide_eq_false (by omega)
                      have dk2 : decide (0 < k) = false := decide_eq_false hk1
                      have ER : Hid (scan (chAt l) (k + 1) = 0 ∧ at_ (chAt l) (k + 1) = 0) := by
                        have e0 : k = 0 := by omega
                        have z : chAt l k = 0 := by rw [e0]; exact ch_first (by rw [← e0]; exact EK.out.2.2.1.symm)
                        obtain ⟨h1, h2⟩ := scan_step SC.out
                        exact ⟨h1.trans z, by rw [h2, if_pos z]⟩
                      go_wp2_with fail
                      go_quiet (fail)
                      obtain ⟨w3, ew3⟩ : ∃ w3, w3 = w2.drewN nq := ⟨_, rfl⟩
                      rw [← ew3]
                      have T3 : Hid (ST w w3 w.heap.size (w.heap.size + 1) v u (.slice q lv c) (.slice qu lu cu)) := by rw [ew3]; exact T2.out.1.later (drewsV (Below.refl _ _) _)
                      clear ew3
                      go_wp2_with fail
                      go_quiet (fail)
                      go_wp2
                      go_roundw
                      case rel => exact ⟨k + 1, 0, 0, by omega, rfl, rfl, by go_num, ER.out.1.symm, ER.out.2.symm, T3.out.later (drewsV (Below.refl _ _) _)⟩
                      case measure => simp [intOf]; omega
                  · have hf' : (fk == 0) = false := by rw [beq_eq_false_iff_ne]; exact hf
                    have hf2 : (fk != 0) = true := by rw [bne_iff_ne]; exact hf
                    have ER : Hid (scan (chAt l) (k + 1) = fk ∧ at_ (chAt l) (k + 1) = k) := by
                      have z : chAt l k = fk := by rw [EK.out.2.2.1]; exact ch_one (by rw [← EK.out.2.2.1]; exact hf)
                      obtain ⟨h1, h2⟩ := scan_step SC.out
                      exact ⟨h1.trans z, by rw [h2, z, if_neg hf]⟩
                    clear hf
                    go_wp2_with fail
                    go_quiet (fail)
                    obtain ⟨w3, ew3⟩ : ∃ w3, w3 = w2.drewN nq := ⟨_, rfl⟩
                    rw [← ew3]
                    have T3 : Hid (ST w w3 w.heap.size (w.heap.size + 1) v u (.slice q lv c) (.slice qu lu cu)) := by rw [ew3]; exact T2.out.1.later (drewsV (Below.refl _ _) _)
                    clear ew3
                    go_wp2_with fail
                    go_quiet (fail)
                    go_wp2
                    go_roundw
                    case rel => exact ⟨k + 1, fk, k, by omega, rfl, rfl, by go_num, ER.out.1.symm, ER.out.2.symm, T3.out.later (drewsV (Below.refl _ _) _)⟩
                    case measure => simp [intOf]; omega
                · have hs' : (s == 0) = false := by rw [beq_eq_false_iff_ne]; exact hs
                  have E : Hid (f3 = s ∧ a3 = t) := by
                    have z := scan_stay (f := chAt l) (k := k) (n := len) (by rw [← hR.out.1]; exact hs) (by omega)
                    exact ⟨by rw [HF4.out.1, hR.out.1]; exact z.1, by rw [HF4.out.2.1, hR.out.2.1]; exact z.2⟩
                  clear hs
                  go_wp2
                  go_meet
                  exact ⟨by rw [E.out.1], by rw [E.out.2], hR.out.2.2⟩
              · have hkl' : ¬ (k : Int) < (len : Int) := by omega
                have E : Hid (f3 = s ∧ a3 = t) := by
                  have ek : k = len := by omega
                  exact ⟨by rw [HF4.out.1, hR.out.1, ek], by rw [HF4.out.2.1, hR.out.2.1, ek]⟩
                go_wp2
                go_meet
                exact ⟨by rw [E.out.1], by rw [E.out.2], hR.out.2.2⟩
        case rest =>
          obtain ⟨rfl, rfl, hS⟩ := hcut
          obtain ⟨w11, ew11⟩ : ∃ w11, w11 = wc := ⟨_, rfl⟩
          subst ew11
          have S11 : Hid (ST w w11 w.heap.size (w.heap.size + 1) v u (.slice q lv c) (.slice qu lu cu)) := hS
          clear hS S10
          go_wp2_with fail
          refine (chainV l a len cap w11 (HV.out.2.2.1.later S11.out.bel) hlc hm).mono ?_
          rintro e w12 ⟨rfl, hb12⟩
          rw [← HF3.out.1, ← HF3.out.2.1]
          have S12 : Hid (ST w w12 w.heap.size (w.heap.size + 1) v u (.slice q lv c) (.slice qu lu cu)) := S11.out.later hb12
          clear hb12 S11
          go_wp2_with fail
          refine (errF_same f3 w12 (HV.out.1.later S12.out.bel)).mono ?_
          rintro e w13 ⟨rfl, hb13⟩
          have S13 : Hid (ST w w13 w.heap.size (w.heap.size + 1) v u (.slice q lv c) (.slice qu lu cu)) := S12.out.later hb13
          clear hb13 S12
          obtain ⟨c2, ec2⟩ : ∃ c2, c2 = bothC v u := ⟨_, rfl⟩
          have HC2 : Hid (c2 = bothC v u) := ec2
          clear ec2
          have haa : ((a3 : Int) == (a3 : Int)) = true := by simp
          go_upto_if 142 with fail
          go_cut [9] from 141 to 144 (fun y wz => y = .int .i64 c2 ∧ Hid (ST w wz w.heap.size (w.heap.size + 1) v u (.slice q lv c) (.slice qu lu cu)))
          case first =>
            have m0 : w13.cell? ⟨w.heap.size + 1, 0, none⟩ = some (.int .i64 nu) := by rw [HV.out.2.2.2.2.2.2]; exact S13.out.bu.c0
            have m1 := S13.out.bu.c1
            by_cases h1 : c1 = 0
            · have h1' : (c1 == 0) = true := by rw [beq_iff_eq]; exact h1
              have e : c2 = viewC u := by rw [HC2.out]; exact if_pos (by rw [← HC.out.1]; exact h1)
              have E : Hid (c2 = viewC u) := e
              clear h1 e
              go_wp2_with fail
              refine (show Calls Tryd.prog 14 #[.agg #[.int .i64 nu, .slice qu lu cu]] w13 _ from by rw [HV.out.2.2.2.2.2.2]; exact refView u qu lu cu w13 (slvw S13.out.bu.sl).1 (slvw S13.out.bu.sl).2).mono ?_
              rintro e w14 ⟨rfl, hb14⟩
              rw [← E.out]
              have S14 : Hid (ST w w14 w.heap.size (w.heap.size + 1) v u (.slice q lv c) (.slice qu lu cu)) := S13.out.later hb14
              clear hb14 m0 m1
              go_wp2
              go_meet
              exact ⟨rfl, S14.out⟩
            · have h1' : (c1 == 0) = false := by rw [beq_eq_false_iff_ne]; exact h1
              have e : c2 = c1 := by rw [HC2.out, HC.out.1]; exact if_neg (by rw [← HC.out.1]; exact h1)
              have E : Hid (c2 = c1) := e
              clear h1 e
              go_wp2
              go_meet
              exact ⟨by rw [E.out], S13.out⟩
          case rest =>
            obtain ⟨rfl, hS⟩ := hcut
            obtain ⟨w14, ew14⟩ : ∃ w14, w14 = wc := ⟨_, rfl⟩
            subst ew14
            have S14 : Hid (ST w w14 w.heap.size (w.heap.size + 1) v u (.slice q lv c) (.slice qu lu cu)) := hS
            clear hS S13
            go_upto_if 146 with fail
            go_cut [20] from 145 to 151 (fun y wz => Hid (ST w wz w.heap.size (w.heap.size + 1) v u (.slice q lv c) (.slice qu lu cu) ∧ Sl wz y (bothL v u)))
            case first =>
              have m1 := S14.out.bv.c1
              have k1 := S14.out.bu.c1
              by_cases h1 : c2 = 0
              · have h1' : (c2 == 0) = true := by rw [beq_iff_eq]; exact h1
                have hz : bothC v u = 0 := by rw [← HC2.out]; exact h1
                have E : Hid (bothL v u = shared v.has u.has ∧ lv ≤ 5 ∧ lu ≤ 5) := by
                  refine ⟨if_pos hz, ?_, ?_⟩
                  · have hv0 : viewC v = 0 := by
                      unfold bothC at hz
                      split at hz
                      · rename_i z; exact z
                      · rename_i z; exact absurd hz z
                    have := has_le (view_ok hv0).2
                    have := sl_len S14.out.bv.sl
                    omega
                  · have hu0 : viewC u = 0 := by
                      unfold bothC at hz
                      split at hz
                      · exact hz
                      · rename_i z; exact absurd hz z
                    have := has_le (view_ok hu0).2
                    have := sl_len S14.out.bu.sl
                    omega
                clear h1 hz
                go_wp2_with fail
                refine (refShared v.has u.has q lv c qu lu cu w14 (slvw S14.out.bv.sl).1 (slvw S14.out.bu.sl).1 (by have := E.out.2.1; omega) (by have := E.out.2.2; omega)).mono ?_
                rintro e w15 ⟨v15, rfl, ho, hb15⟩
                have S15 : Hid (ST w w15 w.heap.size (w.heap.size + 1) v u (.slice q lv c) (.slice qu lu cu) ∧ Sl w15 v15 (bothL v u)) := ⟨S14.out.later hb15, by rw [E.out.1]; exact Sl.of_own ho⟩
                clear hb15 ho m1 k1
                go_wp2
                go_meet
                exact S15.out
              · have h1' : (c2 == 0) = false := by rw [beq_eq_false_iff_ne]; exact h1
                have SS : Hid (ST w w14 w.heap.size (w.heap.size + 1) v u (.slice q lv c) (.slice qu lu cu) ∧ Sl w14 (.slice none 0 0) (bothL v u)) := ⟨S14.out, by rw [show bothL v u = [] from if_neg (by rw [← HC2.out]; exact h1)]; exact Sl.nil _⟩
                clear h1
                go_wp2
                go_meet
                exact SS.out
            case rest =>
              have S15 := hcut
              obtain ⟨w16, ew16⟩ : ∃ w16, w16 = wc := ⟨_, rfl⟩
              subst ew16
              clear hcut S14
              have m0 : w16.cell? ⟨w.heap.size, 0, none⟩ = some (.int .i64 n) := by rw [HV.out.2.2.2.2.2.1]; exact S15.out.1.bv.c0
              have m1 := S15.out.1.bv.c1
              have k0 : w16.cell? ⟨w.heap.size + 1, 0, none⟩ = some (.int .i64 nu) := by rw [HV.out.2.2.2.2.2.2]; exact S15.out.1.bu.c0
              have k1 := S15.out.1.bu.c1
              go_wp2_with fail
              clear m0 m1 k0 k1
              refine (bothAt (v := v) (v' := u) HV.out.2.2.2.2.2.1 HV.out.2.2.2.2.2.2 S15.out.1.bv.sl S15.out.1.bu.sl).mono ?_
              rintro e w17 ⟨l17, q17, c17, rfl, hn17, hs17, hb17⟩
              rw [← HC2.out]
              have S17 : Hid (ST w w17 w.heap.size (w.heap.size + 1) v u (.slice q lv c) (.slice qu lu cu) ∧ Sl w17 u20 (bothL v u) ∧ Sl w17 (.slice q17 l17 c17) (bothL v u)) := ⟨S15.out.1.later hb17, S15.out.2.later hb17, hs17⟩
              clear hs17 hb17 S15
              go_wp2_with fail
              refine (errF_same c2 w17 (HV.out.1.later S17.out.1.bel)).mono ?_
              rintro e w18 ⟨rfl, hb18⟩
              have S18 : Hid (ST w w18 w.heap.size (w.heap.size + 1) v u (.slice q lv c) (.slice qu lu cu) ∧ Sl w18 u20 (bothL v u) ∧ Sl w18 (.slice q17 l17 c17) (bothL v u)) := ⟨S17.out.1.later hb18, S17.out.2.1.later hb18, S17.out.2.2.later hb18⟩
              clear hb18 S17
              go_wp2_with fail
              refine (same_any S18.out.2.2 S18.out.2.1).mono ?_
              rintro e w19 ⟨rfl, hb19⟩
              rw [decide_eq_true (rfl : bothL v u = bothL v u)]
              have B19 : Hid (Below w.heap.size w w19) := S18.out.1.bel.trans (hb19.mono S18.out.1.bel.size)
              clear hb19 S18
              go_wp2
              go_ret
              exact ⟨rfl, B19.out⟩
end Go.Proofs.YtiiiejapbbnodahDoor.Viw
