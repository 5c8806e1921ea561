/-
  No two apart go on: the walk of ViewOne.
-/
import Derived.Test.YtiiiejapbbnodahViwC
import Derived.Deep.QuietTactic
import Derived.BigQuiet
import Derived.Deep.RegionHeld3
import Derived.WalkLawsBesides
import Derived.Handy
namespace Go.Proofs.Ytiiiejapbbnodah.Viw
open Go.RowKit
open Go.Proofs.Ytiiiejapbbnodah.Fif (ret_bool)
open Go.Proofs.Ytiiiejapbbnodah.Vec (Vw)
open Go.Proofs.Ytiiiejapbbnodah.Ldr (errF errF_ok errF_no Sl)
set_option linter.unusedVariables false

theorem sl3 (w : World) (x y z : Int) : Sl (w.alloc (.cells #[.int .i64 x, .int .i64 y, .int .i64 z] 3)) (.slice (some ⟨w.heap.size, 0, none⟩) 3 3) [x, y, z] := by
  have r := World.rowIs_alloc w #[.int .i64 x, .int .i64 y, .int .i64 z] 3 (fun i => .int .i64 ([x, y, z].getD i 0)) (fun i hi => by rcases i with _ | _ | _ | i <;> first | rfl | (exfalso; have : _ < 3 := hi; omega))
  exact ⟨some ⟨w.heap.size, 0, none⟩, 3, rfl, Nat.le_refl _, by decide, rfl, fun _ => ⟨w.heap.size, 0, rfl, by simp, fun k hk => by rw [Nat.zero_add]; exact World.rowIs.cell r hk⟩⟩
def f1 : Vi := ⟨3, [0, 1, 2]⟩
theorem fact1 : nextC f1 [1, 2, 4] = 0 ∧ nextV f1 [1, 2, 4] = ⟨4, [1, 2, 4]⟩ := ⟨by decide, by rw [next_is (by decide)]; rfl⟩
/-- how it stands: the view that came in, in a variable, and two lists -/
structure OV (w wr : World) (B : Nat) (v : Vi) (u ua ub : Value) (a b : List Int) : Prop where
  bel : Below w.heap.size w wr
  bv : Bv wr B v u
  sa : Sl wr ua a
  sb : Sl wr ub b
theorem OV.later {w wr w' : World} {B : Nat} {v : Vi} {u ua ub : Value} {a b : List Int} (h : OV w wr B v u ua ub a b) (hb : Below wr.heap.size wr w') : OV w w' B v u ua ub a b := ⟨h.bel.trans (hb.mono h.bel.size), h.bv.later hb, h.sa.later hb, h.sb.later hb⟩
theorem below_al (w : World) (o : Obj) : Below w.heap.size w (w.alloc o) := (Below.refl _ _).alloc (Nat.le_refl _) _
set_option maxRecDepth 100000 in
set_option maxHeartbeats 4000000 in
theorem one_any (v : Vi) (a b : List Int) (q : Option Addr) (c : Nat) (qa : Option Addr) (ca : Nat) (qb : Option Addr) (cb : Nat) (w : World) (hv : Sl w (.slice q v.has.length c) v.has) (ha : Sl w (.slice qa a.length ca) a) (hb : Sl w (.slice qb b.length cb) b) : Calls Try.prog 5 #[.agg #[.int .i64 v.n, .slice q v.has.length c], .slice qa a.length ca, .slice qb b.length cb] w fun x w' => x = .returned (.bool true) ∧ Below w.heap.size w w' := by
  obtain ⟨W, eW⟩ : ∃ W, W = w.alloc (.cells #[.int .i64 v.n, .slice q v.has.length c] 47) := ⟨_, rfl⟩
  have BW : Hid (Below w.heap.size w W ∧ Bv W w.heap.size v (.slice q v.has.length c)) := by rw [eW]; exact ⟨(Below.refl _ _).alloc (Nat.le_refl _) _, Bv.made w hv⟩
  have HA : Hid (Sl w (.slice qa a.length ca) a ∧ Sl w (.slice qb b.length cb) b) := ⟨ha, hb⟩
  obtain ⟨n, en⟩ : ∃ n, n = v.n := ⟨_, rfl⟩
  obtain ⟨lv, elv⟩ : ∃ lv, lv = v.has.length := ⟨_, rfl⟩
  obtain ⟨la, ela⟩ : ∃ la, la = a.length := ⟨_, rfl⟩
  obtain ⟨lb, elb⟩ : ∃ lb, lb = b.length := ⟨_, rfl⟩
  have EN : Hid (n = v.n ∧ lv = v.has.length ∧ la = a.length ∧ lb = b.length) := ⟨en, elv, ela, elb⟩
  rw [← en, ← elv] at eW
  rw [← en, ← elv, ← ela, ← elb]
  rw [← elv] at BW
  rw [← ela, ← elb] at HA
  obtain ⟨W1, eW1⟩ : ∃ W1, W1 = W.alloc (.cells #[.int .i64 0, .int .i64 1, .int .i64 2] 3) := ⟨_, rfl⟩
  obtain ⟨W2, eW2⟩ : ∃ W2, W2 = W1.alloc (.cells #[.int .i64 1, .int .i64 2, .int .i64 4] 3) := ⟨_, rfl⟩
  have s0 : W.heap.size = w.heap.size + 1 := by rw [eW]; simp
  have s1 : W1.heap.size = w.heap.size + 1 + 1 := by rw [eW1]; simp [s0]
  have O0 : Hid (OV w W w.heap.size v (.slice q lv c) (.slice qa la ca) (.slice qb lb cb) a b) := ⟨BW.out.1, BW.out.2, HA.out.1.later BW.out.1, HA.out.2.later BW.out.1⟩
  have O2 : Hid (OV w W2 w.heap.size v (.slice q lv c) (.slice qa la ca) (.slice qb lb cb) a b ∧ Sl W2 (.slice (some ⟨w.heap.size + 1, 0, none⟩) 3 3) [0, 1, 2] ∧ Sl W2 (.slice (some ⟨w.heap.size + 1 + 1, 0, none⟩) 3 3) [1, 2, 4]) := by
    have b1 : Below W.heap.size W W1 := by rw [eW1]; exact below_al _ _
    have b2 : Below W1.heap.size W1 W2 := by rw [eW2]; exact below_al _ _
    have q1 : Sl W1 (.slice (some ⟨w.heap.size + 1, 0, none⟩) 3 3) [0, 1, 2] := by rw [eW1, ← s0]; exact sl3 W 0 1 2
    have q2 : Sl W2 (.slice (some ⟨w.heap.size + 1 + 1, 0, none⟩) 3 3) [1, 2, 4] := by rw [eW2, ← s1]; exact sl3 W1 1 2 4
    exact ⟨(O0.out.later b1).later b2, q1.later b2, q2⟩
  clear hv ha hb en elv ela elb
  go_enter Try.func5, Try.ntmps5
  go_wp2_with fail
  rw [← eW, ← eW1, ← eW2]
  clear eW eW1 eW2 s0 s1 O0 BW HA
  refine (nextVw f1 [1, 2, 4] (.slice (some ⟨w.heap.size + 1, 0, none⟩) 3 3) (.slice (some ⟨w.heap.size + 1 + 1, 0, none⟩) 3 3) W2 O2.out.2.1 O2.out.2.2).mono ?_
  rintro e w3 ⟨q3, c3, rfl, h3, -, hb3⟩
  rw [fact1.1, errF_ok, fact1.2]
  rw [fact1.2] at h3
  obtain ⟨_, _, e3, _, _, hv3⟩ := h3
  cases e3
  obtain ⟨b3, o3, rfl, hlt3, hc3⟩ := hv3.2 (by decide)
  have O3 : Hid (OV w w3 w.heap.size v (.slice q lv c) (.slice qa la ca) (.slice qb lb cb) a b) := O2.out.1.later hb3
  have g2 : w3.cell? ⟨b3, o3 + 2, none⟩ = some (.int .i64 4) := hc3 2 (by decide)
  obtain ⟨W4, eW4⟩ : ∃ W4, W4 = w3.alloc (.cells #[.int .i64 4, .slice (some ⟨b3, o3, none⟩) 3 c3] 47) := ⟨_, rfl⟩
  have O4 : Hid (OV w W4 w.heap.size v (.slice q lv c) (.slice qa la ca) (.slice qb lb cb) a b) := by rw [eW4]; exact O3.out.later (below_al _ _)
  have j0 := O4.out.bv.c0
  have j1 := O4.out.bv.c1
  rw [← EN.out.1] at j0
  clear hc3 hv3 hb3 O2
  have m0 : w3.cell? ⟨w.heap.size, 0, none⟩ = some (.int .i64 n) := by rw [EN.out.1]; exact O3.out.bv.c0
  have m1 := O3.out.bv.c1
  have hl := O3.out.bv.lt
  go_wp2_with fail
  rw [← eW4]
  clear eW4 j0 j1 m0 m1 hl g2 hlt3 O3
  refine (nextAt (v := v) (has := a) EN.out.1 O4.out.bv.sl O4.out.sa).mono ?_
  rintro e w5 ⟨n5, l5, q5, c5, rfl, hn5, h5, hb5⟩
  have O5 : Hid (OV w w5 w.heap.size v (.slice q lv c) (.slice qa la ca) (.slice qb lb cb) a b ∧ Sl w5 (.slice q5 l5 c5) (nextV v a).has) := ⟨O4.out.later hb5, h5⟩
  clear h5 hb5 O4
  obtain ⟨W6, eW6⟩ : ∃ W6, W6 = w5.alloc (.cells #[.int .i64 n5, .slice q5 l5 c5] 47) := ⟨_, rfl⟩
  obtain ⟨B1, eB1⟩ : ∃ B1, B1 = w5.heap.size := ⟨_, rfl⟩
  have O6 : Hid (OV w W6 w.heap.size v (.slice q lv c) (.slice qa la ca) (.slice qb lb cb) a b ∧ Bv W6 B1 (nextV v a) (.slice q5 l5 c5)) := by
    rw [eW6, eB1, hn5.out.1]
    exact ⟨O5.out.1.later (below_al _ _), Bv.made w5 O5.out.2⟩
  have m0 : w5.cell? ⟨w.heap.size, 0, none⟩ = some (.int .i64 n) := by rw [EN.out.1]; exact O5.out.1.bv.c0
  have m1 := O5.out.1.bv.c1
  have hl := O5.out.1.bv.lt
  go_wp2_with fail
  rw [← eW6]
  clear m0 m1 hl O5
  refine (nextAt (v := v) (has := b) EN.out.1 O6.out.1.bv.sl O6.out.1.sb).mono ?_
  rintro e w7 ⟨n7, l7, q7, c7, rfl, hn7, h7, hb7⟩
  rw [← eB1]
  clear eW6 eB1
  have O7 : Hid (OV w w7 w.heap.size v (.slice q lv c) (.slice qa la ca) (.slice qb lb cb) a b ∧ Bv w7 B1 (nextV v a) (.slice q5 l5 c5) ∧ Sl w7 (.slice q7 l7 c7) (nextV v b).has) := ⟨O6.out.1.later hb7, O6.out.2.later hb7, h7⟩
  clear h7 hb7 O6
  obtain ⟨W8, eW8⟩ : ∃ W8, W8 = w7.alloc (.cells #[.int .i64 n7, .slice q7 l7 c7] 47) := ⟨_, rfl⟩
  obtain ⟨B2, eB2⟩ : ∃ B2, B2 = w7.heap.size := ⟨_, rfl⟩
  have O8 : Hid (OV w W8 w.heap.size v (.slice q lv c) (.slice qa la ca) (.slice qb lb cb) a b ∧ Bv W8 B1 (nextV v a) (.slice q5 l5 c5) ∧ Bv W8 B2 (nextV v b) (.slice q7 l7 c7)) := by
    rw [eW8, eB2, hn7.out.1]
    exact ⟨O7.out.1.later (below_al _ _), O7.out.2.1.later (below_al _ _), Bv.made w7 O7.out.2.2⟩
  by_cases h1 : nextC v a = 0
  · have H1 : Hid (nextC v a = 0) := h1
    obtain ⟨f1, f2, f3, f4, f5⟩ := one_next h1
    have F1 : Hid (bothC v (nextV v a) = 0 ∧ 0 < (bothL v (nextV v a)).length ∧ chC [v, nextV v a] = 0 ∧ chN [v, nextV v a] = 0 ∧ (nextV v a).n = v.n + 1 ∧ (0 ≤ v.n ∧ v.n ≤ 1000000)) := ⟨f1, f2, f3, f4, f5, (view_ok (next_ok h1).1).1⟩
    rw [h1, errF_ok]
    clear h1 f1 f2 f3 f4 f5
    have m0 : w7.cell? ⟨w.heap.size, 0, none⟩ = some (.int .i64 n) := by rw [EN.out.1]; exact O7.out.1.bv.c0
    have m1 := O7.out.1.bv.c1
    have hl := O7.out.1.bv.lt
    have p0 : w7.cell? ⟨B1, 0, none⟩ = some (.int .i64 n5) := by rw [hn5.out.1]; exact O7.out.2.1.c0
    have p1 := O7.out.2.1.c1
    have hl1 := O7.out.2.1.lt
    go_wp2_with fail
    rw [← eW8]
    refine (bothAt (v := v) (v' := nextV v a) EN.out.1 hn5.out.1 O8.out.1.bv.sl O8.out.2.1.sl).mono ?_
    rintro e w9 ⟨l9, q9, c9, rfl, hn9, -, hb9⟩
    rw [← eB2, F1.out.1, errF_ok]
    clear eW8 eB2 m0 m1 hl p0 p1 hl1 O7
    have O9 : Hid (OV w w9 w.heap.size v (.slice q lv c) (.slice qa la ca) (.slice qb lb cb) a b ∧ Bv w9 B1 (nextV v a) (.slice q5 l5 c5) ∧ Bv w9 B2 (nextV v b) (.slice q7 l7 c7)) := ⟨O8.out.1.later hb9, O8.out.2.1.later hb9, O8.out.2.2.later hb9⟩
    clear hb9 O8
    obtain ⟨W10, eW10⟩ : ∃ W10, W10 = w9.alloc (.cells #[.int .i64 n, .slice q lv c, .int .i64 n5, .slice q5 l5 c5] 47) := ⟨_, rfl⟩
    have O10 : Hid (OV w W10 w.heap.size v (.slice q lv c) (.slice qa la ca) (.slice qb lb cb) a b ∧ Bv W10 B1 (nextV v a) (.slice q5 l5 c5) ∧ Bv W10 B2 (nextV v b) (.slice q7 l7 c7) ∧ Vs W10 (some ⟨w9.heap.size, 0, none⟩) 2 [v, nextV v a]) := by
      rw [eW10]
      refine ⟨O9.out.1.later (below_al _ _), O9.out.2.1.later (below_al _ _), O9.out.2.2.later (below_al _ _), ?_⟩
      have q1 := O9.out.1.bv.sl
      have q2 := O9.out.2.1.sl
      rw [EN.out.2.1] at q1
      rw [hn5.out.2] at q2
      rw [EN.out.1, EN.out.2.1, hn5.out.1, hn5.out.2]
      exact Vs.two w9 q1 q2 _
    have m0 : w9.cell? ⟨w.heap.size, 0, none⟩ = some (.int .i64 n) := by rw [EN.out.1]; exact O9.out.1.bv.c0
    have m1 := O9.out.1.bv.c1
    have p0 : w9.cell? ⟨B1, 0, none⟩ = some (.int .i64 n5) := by rw [hn5.out.1]; exact O9.out.2.1.c0
    have p1 := O9.out.2.1.c1
    go_wp2_with fail
    rw [← eW10]
    clear m0 m1 p0 p1 eW10 O9
    refine (chainV [v, nextV v a] (some ⟨w9.heap.size, 0, none⟩) 2 2 W10 O10.out.2.2.2 (Nat.le_refl _) (by decide)).mono ?_
    rintro e w11 ⟨rfl, hb11⟩
    rw [F1.out.2.2.1, F1.out.2.2.2.1, errF_ok]
    have O11 : Hid (OV w w11 w.heap.size v (.slice q lv c) (.slice qa la ca) (.slice qb lb cb) a b ∧ Bv w11 B1 (nextV v a) (.slice q5 l5 c5) ∧ Bv w11 B2 (nextV v b) (.slice q7 l7 c7)) := ⟨O10.out.1.later hb11, O10.out.2.1.later hb11, O10.out.2.2.1.later hb11⟩
    clear hb11 O10
    have m0 : w11.cell? ⟨w.heap.size, 0, none⟩ = some (.int .i64 n) := by rw [EN.out.1]; exact O11.out.1.bv.c0
    have en5 : n5 = n + 1 := by rw [hn5.out.1, EN.out.1]; exact F1.out.2.2.2.2.1
    have p0 : w11.cell? ⟨B1, 0, none⟩ = some (.int .i64 (n + 1)) := by rw [← en5, hn5.out.1]; exact O11.out.2.1.c0
    have p1 := O11.out.2.1.c1
    have r0 : w11.cell? ⟨B2, 0, none⟩ = some (.int .i64 n7) := by rw [hn7.out.1]; exact O11.out.2.2.c0
    have r1 := O11.out.2.2.c1
    have hn0 : 0 ≤ n := by rw [EN.out.1]; exact F1.out.2.2.2.2.2.1
    have hn1 : n ≤ 1000000 := by rw [EN.out.1]; exact F1.out.2.2.2.2.2.2
    have hl9 : 0 < l9 := by rw [hn9.out]; exact F1.out.2.1
    have hl9' : ¬ l9 = 0 := by omega
    have EN5 : Hid (n5 = n + 1) := en5
    clear en5
    by_cases h2 : nextC v b = 0
    · have F2 := one_two H1.out h2
      have HF2 : Hid (bothC (nextV v a) (nextV v b) = 0 ∧ 0 < (bothL (nextV v a) (nextV v b)).length) := F2
      rw [h2, errF_ok]
      clear h2 F2
      go_wp2_with fail
      refine (bothAt (v := nextV v a) (v' := nextV v b) (EN5.out.symm.trans hn5.out.1) hn7.out.1 O11.out.2.1.sl O11.out.2.2.sl).mono ?_
      rintro e w12 ⟨l12, q12, c12, rfl, hn12, -, hb12⟩
      rw [HF2.out.1, errF_ok]
      have BB : Hid (Below w.heap.size w w12) := O11.out.1.bel.trans (hb12.mono O11.out.1.bel.size)
      have hl12 : 0 < l12 := by rw [hn12.out]; exact HF2.out.2
      have hl12' : (0 : Int) < (l12 : Int) := by omega
      clear hb12
      go_wp2
      go_ret
      exact ⟨by simp, BB.out⟩
    · rw [errF_no h2]
      have BB : Hid (Below w.heap.size w w11) := O11.out.1.bel
      go_wp2
      go_ret
      exact ⟨rfl, BB.out⟩
  · rw [errF_no h1]
    have BB : Hid (Below w.heap.size w W8) := O8.out.1.bel
    rw [eW8] at BB
    go_wp2
    go_ret
    exact ⟨rfl, BB.out⟩
theorem one_law (v : Vi) (q : Option Addr) (c : Nat) (a b : List Int) (qa : Option Addr) (la ca : Nat) (qb : Option Addr) (lb cb : Nat) (w : World) (hv : Sl w (.slice q v.has.length c) v.has) (ha : Sl w (.slice qa la ca) a) (hb : Sl w (.slice qb lb cb) b) : Calls Try.prog 5 #[.agg #[.int .i64 v.n, .slice q v.has.length c], .slice qa la ca, .slice qb lb cb] w fun x w' => x = .returned (.bool true) ∧ Below w.heap.size w w' := by
  have e1 := sl_len ha
  have e2 := sl_len hb
  subst e1 e2
  exact one_any v a b q c qa ca qb cb w hv ha hb
end Go.Proofs.Ytiiiejapbbnodah.Viw
