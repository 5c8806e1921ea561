/-
  Contract of package faces' Of.
-/
import Derived.Test.YtpjoaogiaacikakDoorFacE
import Derived.Laws.ResultCell
import Derived.Deep.RegionWith
namespace Go.Proofs.YtpjoaogiaacikakDoor.His
open Go.RowKit
open Go.Proofs.YtpjoaogiaacikakDoor.Vec

theorem ret3 {fn : Func} {tmps : Array Value} {w : World} {p u : Tmp} {B : Nat} {v0 v1 v2 x : Value} (h : fn.results = #[.cell p 41, .tmp u]) (hp : tmps.getD p undef = .pointer (some ⟨B, 0, none⟩)) (hu : tmps.getD u undef = x)
    (y0 : w.cell? ⟨B, 0, none⟩ = some v0) (y1 : w.cell? ⟨B, 1, none⟩ = some v1) (y2 : w.cell? ⟨B, 2, none⟩ = some v2) : (results fn tmps).run Tryd.prog w = .ok (.tuple #[.agg #[v0, v1, v2], x]) w := by
  rw [results_cell_tmp h, hp, hu]
  simp [asAddr, go_sem, y0, y1, y2]

theorem zero3 : ∀ i, i < (#[.bool false, .bool false, .bool false] : Array Value).size → (#[.bool false, .bool false, .bool false] : Array Value)[i]? = some ((fun _ : Nat => Value.bool false) i) := by
  intro i hi
  have hi' : i < 3 := hi
  rcases i with _ | _ | _ | i <;> first | rfl | omega

set_option maxRecDepth 100000 in
set_option maxHeartbeats 4000000 in
theorem of_no (a : Option Addr) (len cap : Nat) (h : List Ev) (w : World) (hlc : len ≤ cap) (hm : cap ≤ maxLen) (hv : Ew w a len h) (hc : chkC h ≠ 0) :
    Calls Tryd.prog 18 #[.slice a len cap] w fun e w' => e = .returned (.tuple #[.agg #[.bool false, .bool false, .bool false], .iface 49 (.int .i64 (chkC h))]) ∧ Below w.heap.size w w' := by
  obtain ⟨W0, eW⟩ : ∃ W, W = (w.alloc (.cells #[.slice a len cap] 33)).alloc (.cells #[.bool false, .bool false, .bool false] 41) := ⟨_, rfl⟩
  have B0 : Hid (Below w.heap.size w W0) := by
    subst eW
    exact ((Below.refl _ _).alloc (Nat.le_refl _) _).alloc (by simp) _
  have R0 : Hid (W0.rowIs (w.heap.size + 1) 41 3 (fun _ => .bool false)) := by
    have := World.rowIs_alloc (w.alloc (.cells #[.slice a len cap] 33)) #[.bool false, .bool false, .bool false] 41 (fun _ => .bool false) zero3
    rw [← eW, show (w.alloc (.cells #[.slice a len cap] 33)).heap.size = w.heap.size + 1 by simp] at this
    exact this
  have G0 : Hid (Ew W0 a len h) := hv.later B0.out
  have HM : Hid (len ≤ cap ∧ cap ≤ maxLen ∧ chkC h ≠ 0) := ⟨hlc, hm, hc⟩
  clear hv hm hc
  go_enter Tryd.func18, Tryd.ntmps18
  go_wp2_with fail
  rw [← eW]
  refine (vectors_no a len cap h _ HM.out.1 HM.out.2.1 G0.out HM.out.2.2).mono ?_
  rintro e w1 ⟨rfl, hb⟩
  have B1 : Hid (Below W0.heap.size W0 w1) := hb
  have R1 : Hid ((w1.alloc (.cells #[.slice none 0 0] 55)).rowIs (w.heap.size + 1) 41 3 (fun _ => .bool false)) := World.rowIs.alloc (rowIs_later R0.out hb) _
  have c0 := R1.out.cell (i := 0) (by omega)
  have c1 := R1.out.cell (i := 1) (by omega)
  have c2 := R1.out.cell (i := 2) (by omega)
  have f0 := R1.out.frozen 0
  have f1 := R1.out.frozen 1
  have f2 := R1.out.frozen 2
  clear hb
  go_wp2
  have r3 := ((World.rowIs.set R1.out 0 (.bool false)).set 1 (.bool false)).set 2 (.bool false)
  have y0 := r3.cell (i := 0) (by omega)
  have y1 := r3.cell (i := 1) (by omega)
  have y2 := r3.cell (i := 2) (by omega)
  simp at y0 y1 y2
  refine bodyPost_ret (v := .tuple #[.agg #[.bool false, .bool false, .bool false], .iface 49 (.int .i64 (chkC h))]) ?_ rfl ?_
  · exact ret3 rfl rfl rfl y0 y1 y2
  refine ⟨rfl, ?_⟩
  have hB : w.heap.size ≤ w1.heap.size := Nat.le_trans B0.out.size B1.out.size
  exact (((below_up rfl B0.out B1.out).alloc hB _).setCell (p := ⟨_, _, none⟩) (Nat.le_succ _) _ |>.setCell (p := ⟨_, _, none⟩) (Nat.le_succ _) _).setCell (p := ⟨_, _, none⟩) (Nat.le_succ _) _

/-- what the last statement of Of reads and writes -/
def OfS (h : List Ev) (w : World) (R B H : Nat) (a : Option Addr) (len cap : Nat) (q0 q1 q2 q3 q4 : Option Addr) (d0 d1 d2 d3 d4 : Nat) : Prop :=
  (w.cell? ⟨B, 0, none⟩ = some (.slice q0 (ln h 0) d0) ∧ w.cell? ⟨B, 1, none⟩ = some (.slice q1 (ln h 1) d1) ∧ w.cell? ⟨B, 2, none⟩ = some (.slice q2 (ln h 2) d2) ∧ w.cell? ⟨B, 3, none⟩ = some (.slice q3 (ln h 3) d3) ∧ w.cell? ⟨B, 4, none⟩ = some (.slice q4 (ln h 4) d4)) ∧ w.cell? ⟨H, 0, none⟩ = some (.slice a len cap) ∧ w.rowIs R 41 3 (fun _ => .bool false)
theorem OfS.later {h : List Ev} {w w' : World} {R B H : Nat} {a : Option Addr} {len cap : Nat} {q0 q1 q2 q3 q4 : Option Addr} {d0 d1 d2 d3 d4 : Nat} (g : OfS h w R B H a len cap q0 q1 q2 q3 q4 d0 d1 d2 d3 d4) (hB : B < w.heap.size) (hH : H < w.heap.size) (hb : Below w.heap.size w w') : OfS h w' R B H a len cap q0 q1 q2 q3 q4 d0 d1 d2 d3 d4 :=
  ⟨B5.later g.1 hB hb, (hb.cell (p := ⟨H, 0, none⟩) hH).trans g.2.1, rowIs_later g.2.2 hb⟩

set_option maxRecDepth 100000 in
set_option maxHeartbeats 4000000 in
theorem of_ok (a : Option Addr) (len cap : Nat) (h : List Ev) (w : World) (hlc : len ≤ cap) (hm : cap ≤ maxLen) (hv : Ew w a len h) (hc : chkC h = 0) :
    Calls Tryd.prog 18 #[.slice a len cap] w fun e w' => e = .returned (.tuple #[.agg #[.bool (fifoB h), .bool (causB h), .bool (totB h)], .nilIface]) ∧ Below w.heap.size w w' := by
  obtain ⟨W0, eW⟩ : ∃ W, W = (w.alloc (.cells #[.slice a len cap] 33)).alloc (.cells #[.bool false, .bool false, .bool false] 41) := ⟨_, rfl⟩
  have B0 : Hid (Below w.heap.size w W0) := by
    subst eW
    exact ((Below.refl _ _).alloc (Nat.le_refl _) _).alloc (by simp) _
  have R0 : Hid (W0.rowIs (w.heap.size + 1) 41 3 (fun _ => .bool false)) := by
    have := World.rowIs_alloc (w.alloc (.cells #[.slice a len cap] 33)) #[.bool false, .bool false, .bool false] 41 (fun _ => .bool false) zero3
    rw [← eW, show (w.alloc (.cells #[.slice a len cap] 33)).heap.size = w.heap.size + 1 by simp] at this
    exact this
  have H0 : Hid (w.heap.size < W0.heap.size ∧ W0.cell? ⟨w.heap.size, 0, none⟩ = some (.slice a len cap)) := by
    rw [eW]
    exact ⟨by simp; omega, by go_cell⟩
  have G0 : Hid (Ew W0 a len h) := hv.later B0.out
  obtain ⟨h60, hg⟩ := chk_zero hc
  have HM : Hid (len ≤ cap ∧ cap ≤ maxLen ∧ chkC h = 0 ∧ len ≤ 60 ∧ Good h len ∧ h.length ≤ 60) := ⟨hlc, hm, hc, by rw [← hv.1]; exact h60, by rw [← hv.1]; exact hg, h60⟩
  clear hv hm hc h60 hg
  go_enter Tryd.func18, Tryd.ntmps18
  go_wp2_with fail
  rw [← eW]
  refine (vectors_ok a len cap h _ HM.out.1 HM.out.2.1 G0.out HM.out.2.2.1).mono ?_
  rintro e w1 ⟨A, rfl, hb, hl⟩
  obtain ⟨W2, eW2⟩ : ∃ W, W = w1.alloc (.cells #[.slice (some ⟨A, 0, none⟩) len len] 55) := ⟨_, rfl⟩
  have B12 : Below w1.heap.size w1 W2 := by
    subst eW2
    exact (Below.refl _ _).alloc (Nat.le_refl _) _
  have B2 : Hid (Below W0.heap.size W0 W2) := below_up rfl hb B12
  have X2 : Hid (K2 W2 a len cap h w1.heap.size A w.heap.size) := by
    refine ⟨⟨G0.out.later B2.out, Nat.lt_of_lt_of_le H0.out.1 B2.out.size, (B2.out.cell (p := ⟨w.heap.size, 0, none⟩) H0.out.1).trans H0.out.2⟩, HM.out.2.2.2.2.1, ?_, ?_, hl.later B12⟩
    · rw [eW2]; simp
    · rw [eW2]; go_cell
  have z0 : (w1.alloc (.cells #[.slice (some ⟨A, 0, none⟩) len len] 55)).cell? ⟨w.heap.size, 0, none⟩ = some (.slice a len cap) := by rw [← eW2]; exact X2.out.1.2.2
  clear hb hl B12
  go_wp2_with fail
  rw [← eW2]
  refine (heardAll a len cap h _ HM.out.2.2.2.1 X2.out.1.1).mono ?_
  rintro e w3 ⟨⟨q0, q1, q2, q3, q4, d0, d1, d2, d3, d4, rfl, ha0, ha1, ha2, ha3, ha4⟩, hb⟩
  obtain ⟨W4, eW4⟩ : ∃ W, W = w3.alloc (.cells #[.slice q0 (ln h 0) d0, .slice q1 (ln h 1) d1, .slice q2 (ln h 2) d2, .slice q3 (ln h 3) d3, .slice q4 (ln h 4) d4] 59) := ⟨_, rfl⟩
  have B34 : Below w3.heap.size w3 W4 := by
    subst eW4
    exact (Below.refl _ _).alloc (Nat.le_refl _) _
  have B24 : Hid (Below W2.heap.size W2 W4) := below_up rfl hb B34
  have B4 : Hid (Below W0.heap.size W0 W4) := below_up rfl B2.out B24.out
  have A4 : Hid (Al5 h W4 q0 q1 q2 q3 q4 d0 d1 d2 d3 d4) := Al5.later ⟨ha0, ha1, ha2, ha3, ha4⟩ B34
  have X4 : Hid (K2 W4 a len cap h w1.heap.size A w.heap.size) := X2.out.later B24.out
  have S4 : Hid (OfS h W4 (w.heap.size + 1) w3.heap.size w.heap.size a len cap q0 q1 q2 q3 q4 d0 d1 d2 d3 d4 ∧ w3.heap.size < W4.heap.size ∧ w.heap.size < W4.heap.size) := by
    refine ⟨⟨?_, X4.out.1.2.2, rowIs_later R0.out B4.out⟩, ?_, X4.out.1.2.1⟩
    · rw [eW4]
      exact B5.new _ _ _ _ _ _ _
    · rw [eW4]; simp
  have hne1 : w.heap.size + 1 ≠ w3.heap.size := by
    have h1 := World.rowIs.lt R0.out
    have h2 := B2.out.size
    have h3 := hb.size
    omega
  have hne2 : w3.heap.size ≠ w.heap.size + 1 := fun e => hne1 e.symm
  clear hb ha0 ha1 ha2 ha3 ha4 B34 z0 eW eW2
  go_wp2_with fail
  rw [← eW4]
  clear eW4
  obtain ⟨⟨b0, b1, b2, b3, b4⟩, bh, -⟩ := S4.out.1
  go_region_held3 (fun w' => w'.cell? ⟨w3.heap.size, 0, none⟩ = some (.slice q0 (ln h 0) d0) ∧ w'.cell? ⟨w3.heap.size, 1, none⟩ = some (.slice q1 (ln h 1) d1) ∧ w'.cell? ⟨w3.heap.size, 2, none⟩ = some (.slice q2 (ln h 2) d2) ∧ w'.cell? ⟨w3.heap.size, 3, none⟩ = some (.slice q3 (ln h 3) d3) ∧ w'.cell? ⟨w3.heap.size, 4, none⟩ = some (.slice q4 (ln h 4) d4) ∧ w'.cell? ⟨w.heap.size, 0, none⟩ = some (.slice a len cap)) (go_keep)
    (first
      | (go_at_call_of 27 (#[Value.pointer (some (⟨w.heap.size, 0, none⟩ : Addr))]); refine (keep1 a len cap h w.heap.size q0 q1 q2 q3 q4 d0 d1 d2 d3 d4 _ HM.out.2.2.2.1 HM.out.1 HM.out.2.1 ?_ ?_).mono ?_; exact X4.out.1.later (Below.refl _ _).drew; exact A4.out.later (Below.refl _ _).drew; rintro e w5 ⟨rfl, hb⟩; have B5' : Hid (Below W4.heap.size W4 w5) := below_up rfl (Below.refl W4.heap.size W4).drew hb; obtain ⟨⟨m0, m1, m2, m3, m4⟩, mh, -⟩ := OfS.later S4.out.1 S4.out.2.1 S4.out.2.2 B5'.out; clear hb)
      | (go_at_call 27; refine (keep2 a len cap h w1.heap.size A w.heap.size q0 q1 q2 q3 q4 d0 d1 d2 d3 d4 _ HM.out.2.2.2.1 HM.out.1 HM.out.2.1 ?_ ?_).mono ?_; exact X4.out.later B5'.out; exact A4.out.later B5'.out; rintro e w6 ⟨rfl, hb⟩; have B6' : Hid (Below W4.heap.size W4 w6) := below_up rfl B5'.out hb; obtain ⟨⟨n0, n1, n2, n3, n4⟩, nh, -⟩ := OfS.later S4.out.1 S4.out.2.1 S4.out.2.2 B6'.out; clear hb)
      | (go_at_call 28; refine (agree_any h q0 q1 q2 q3 q4 d0 d1 d2 d3 d4 _ HM.out.2.2.2.2.2 ?_).mono ?_; exact A4.out.later B6'.out; rintro e w7 ⟨rfl, hb⟩; have B7' : Hid (Below W4.heap.size W4 w7) := below_up rfl B6'.out hb; obtain ⟨⟨k0, k1, k2, k3, k4⟩, kh, kr⟩ := OfS.later S4.out.1 S4.out.2.1 S4.out.2.2 B7'.out; have R7 : Hid (w7.rowIs (w.heap.size + 1) 41 3 (fun _ => .bool false)) := kr; have r0 := kr.cell (i := 0) (by omega); have r1 := kr.cell (i := 1) (by omega); have r2 := kr.cell (i := 2) (by omega); have g0 := kr.frozen 0; have g1 := kr.frozen 1; have g2 := kr.frozen 2; clear hb kr))
  go_wp2
  have t3 := ((World.rowIs.set R7.out 0 (.bool (keepB h (smB h)))).set 1 (.bool (keepB h (bef h)))).set 2 (.bool (totB h))
  have y0 := t3.cell (i := 0) (by omega)
  have y1 := t3.cell (i := 1) (by omega)
  have y2 := t3.cell (i := 2) (by omega)
  simp at y0 y1 y2
  refine bodyPost_ret (v := .tuple #[.agg #[.bool (fifoB h), .bool (causB h), .bool (totB h)], .nilIface]) ?_ rfl ?_
  · exact ret3 rfl rfl rfl y0 y1 y2
  refine ⟨rfl, ?_⟩
  exact (((below_up rfl B0.out (below_up rfl B4.out B7'.out)).setCell (p := ⟨_, _, none⟩) (Nat.le_succ _) _).setCell (p := ⟨_, _, none⟩) (Nat.le_succ _) _).setCell (p := ⟨_, _, none⟩) (Nat.le_succ _) _
end Go.Proofs.YtpjoaogiaacikakDoor.His
