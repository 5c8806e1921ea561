/-
  Contracts of package faces' heardByAll and have, and of the two closures of Of.
-/
import Derived.Test.YtpjoaogiaacikakDoorFacA
import Derived.Test.YtpjoaogiaacikakDoorClkC
import Derived.Deep.QuietTactic
import Derived.BigQuiet
import Derived.Deep.RegionHeld3
import Derived.Handy
namespace Go.Proofs.YtpjoaogiaacikakDoor.His
open Go.RowKit
open Go.Proofs.YtpjoaogiaacikakDoor.Vec

/-- how many words one has -/
def ln (h : List Ev) (m : Nat) : Nat := (hrd h (m : Int)).length
/-- what a member has, in a slice -/
def Al (h : List Ev) (w : World) (m : Nat) (q : Option Addr) (d : Nat) : Prop := Vw w q (ln h m) (hrd h (m : Int)) ∧ ln h m ≤ d ∧ d ≤ maxLen
theorem Al.later {h : List Ev} {w w' : World} {m : Nat} {q : Option Addr} {d : Nat} (g : Al h w m q d) (hb : Below w.heap.size w w') : Al h w' m q d := ⟨Vw.later g.1 hb, g.2⟩
theorem ln_le (h : List Ev) (m : Nat) : ln h m ≤ h.length := hrd_len h _
/-- what the first members have, in a row of slices -/
def Rw (h : List Ev) (w : World) (B C k : Nat) : Prop := ∃ f, w.rowIs B 59 5 f ∧ ∀ j, j < k → ∃ q d, f j = .slice q (ln h j) d ∧ Al h w j q d ∧ ∀ p, q = some p → C ≤ p.block
theorem Rw.later {h : List Ev} {w w' : World} {B C k : Nat} (g : Rw h w B C k) (hb : Below w.heap.size w w') : Rw h w' B C k := by
  obtain ⟨f, r, x⟩ := g
  refine ⟨f, rowIs_later r hb, fun j hj => ?_⟩
  obtain ⟨q, d, e, v, o⟩ := x j hj
  exact ⟨q, d, e, v.later hb, o⟩
/-- a slice of numbers that lies elsewhere -/
theorem vw_setAway {w : World} {q : Option Addr} {n : Nat} {xs : List Int} (hv : Vw w q n xs) {B i : Nat} (hne : ∀ p, q = some p → p.block ≠ B) (v : Value) : Vw (w.setCell ⟨B, i, none⟩ v) q n xs := by
  refine ⟨hv.1, fun hn => ?_⟩
  obtain ⟨b, off, e, hlt, hc⟩ := hv.2 hn
  subst e
  have hb := hne _ rfl
  refine ⟨b, off, rfl, by simpa [World.setCell] using hlt, fun k hk => ?_⟩
  rw [World.cell?_setCell_other _ _ _ _ (fun e => hb (congrArg Addr.block e).symm)]
  exact hc k hk
theorem Al.set {h : List Ev} {w : World} {m : Nat} {q : Option Addr} {d : Nat} (g : Al h w m q d) {B C : Nat} (ho : ∀ p, q = some p → C ≤ p.block) (hBC : B < C) (i : Nat) (v : Value) : Al h (w.setCell ⟨B, i, none⟩ v) m q d := ⟨vw_setAway g.1 (fun p hp e => by have := ho p hp; omega) v, g.2⟩
theorem Al.set5 {h : List Ev} {w : World} {m : Nat} {q : Option Addr} {d : Nat} (g : Al h w m q d) {B C : Nat} (ho : ∀ p, q = some p → C ≤ p.block) (hBC : B < C) (v0 v1 v2 v3 v4 : Value) : Al h (((((w.setCell ⟨B, 0, none⟩ v0).setCell ⟨B, 1, none⟩ v1).setCell ⟨B, 2, none⟩ v2).setCell ⟨B, 3, none⟩ v3).setCell ⟨B, 4, none⟩ v4) m q d :=
  ((((g.set ho hBC 0 v0).set ho hBC 1 v1).set ho hBC 2 v2).set ho hBC 3 v3).set ho hBC 4 v4
theorem results_cellA {fn : Func} {p : Tmp} {ty : TypeId} (h : fn.results = #[.cell p ty]) (tmps : Array Value) (P : Program) (w : World) :
    (results fn tmps).run P w = ((asAddr (tmps.getD p undef)).run P w).andThen fun a w₁ => (loadVar ty a).run P w₁ := by
  simp only [results, h]
  simp [Sem.run_bind]
theorem ret5 {fn : Func} {tmps : Array Value} {w : World} {p : Tmp} {B : Nat} {v0 v1 v2 v3 v4 : Value} (h : (results fn tmps).run Tryd.prog w = ((asAddr (tmps.getD p undef)).run Tryd.prog w).andThen fun a w₁ => (loadVar 59 a).run Tryd.prog w₁) (hp : tmps.getD p undef = .pointer (some ⟨B, 0, none⟩))
    (y0 : w.cell? ⟨B, 0, none⟩ = some v0) (y1 : w.cell? ⟨B, 1, none⟩ = some v1) (y2 : w.cell? ⟨B, 2, none⟩ = some v2) (y3 : w.cell? ⟨B, 3, none⟩ = some v3) (y4 : w.cell? ⟨B, 4, none⟩ = some v4) : (results fn tmps).run Tryd.prog w = .ok (.agg #[v0, v1, v2, v3, v4]) w := by
  rw [h, hp]
  simp [asAddr, go_sem, y0, y1, y2, y3, y4]
theorem Rw.step {h : List Ev} {w : World} {B C k d : Nat} {q : Option Addr} (x : Rw h w B C k) (hBC : B < C) (hv : Al h w k q d) (ho : ∀ p, q = some p → C ≤ p.block) : Rw h (w.setCell ⟨B, k, none⟩ (.slice q (ln h k) d)) B C (k + 1) := by
  obtain ⟨f, r, y⟩ := x
  refine ⟨_, r.set k _, fun j hj => ?_⟩
  have key : ∀ (v : Value) {q : Option Addr} {j d : Nat}, Al h w j q d → (∀ p, q = some p → C ≤ p.block) → Al h (w.setCell ⟨B, k, none⟩ v) j q d := fun v _ _ _ g go => ⟨vw_setAway g.1 (fun p hp e => by have := go p hp; omega) v, g.2⟩
  rcases Nat.lt_or_ge j k with hjk | hjk
  · obtain ⟨q', d', e, v, o⟩ := y j hjk
    refine ⟨q', d', ?_, key _ v o, o⟩
    show (if j = k then _ else _) = _
    rw [if_neg (by omega)]
    exact e
  · obtain rfl : j = k := by omega
    exact ⟨q, d, if_pos rfl, key _ hv ho, ho⟩

set_option maxRecDepth 100000 in
set_option maxHeartbeats 4000000 in
theorem heardAll (a : Option Addr) (len cap : Nat) (h : List Ev) (w : World) (h60 : len ≤ 60) (hv : Ew w a len h) :
    Calls Tryd.prog 26 #[.slice a len cap] w fun x w' => (∃ q0 q1 q2 q3 q4 d0 d1 d2 d3 d4, x = .returned (.agg #[.slice q0 (ln h 0) d0, .slice q1 (ln h 1) d1, .slice q2 (ln h 2) d2, .slice q3 (ln h 3) d3, .slice q4 (ln h 4) d4]) ∧ Al h w' 0 q0 d0 ∧ Al h w' 1 q1 d1 ∧ Al h w' 2 q2 d2 ∧ Al h w' 3 q3 d3 ∧ Al h w' 4 q4 d4) ∧ Below w.heap.size w w' := by
  have G : Hid (Ew w a len h) := hv
  obtain ⟨W0, eW⟩ : ∃ W, W = (w.alloc (.cells #[.slice none 0 0, .slice none 0 0, .slice none 0 0, .slice none 0 0, .slice none 0 0] 59)) := ⟨_, rfl⟩
  have B0 : Hid (Below w.heap.size w (W0.alloc (.cells #[.slice none 0 0, .slice none 0 0, .slice none 0 0, .slice none 0 0, .slice none 0 0] 59))) := by
    subst eW
    exact ((Below.refl _ _).alloc (Nat.le_refl _) _).alloc (by simp) _
  have hz : ∀ i, i < 5 → (#[.slice none 0 0, .slice none 0 0, .slice none 0 0, .slice none 0 0, .slice none 0 0] : Array Value)[i]? = some ((fun _ : Nat => Value.slice none 0 0) i) := by
    intro i hi
    rcases i with _ | _ | _ | _ | _ | i <;> first | rfl | omega
  have R0 : Hid (Rw h (W0.alloc (.cells #[.slice none 0 0, .slice none 0 0, .slice none 0 0, .slice none 0 0, .slice none 0 0] 59)) (w.heap.size + 1) (w.heap.size + 2) 0) := by
    refine ⟨fun _ => .slice none 0 0, ?_, fun j hj => absurd hj (by omega)⟩
    have := World.rowIs_alloc W0 #[.slice none 0 0, .slice none 0 0, .slice none 0 0, .slice none 0 0, .slice none 0 0] 59 (fun _ => .slice none 0 0) hz
    rw [show W0.heap.size = w.heap.size + 1 by rw [eW]; simp] at this
    exact this
  have T0 : Hid ((W0.alloc (.cells #[.slice none 0 0, .slice none 0 0, .slice none 0 0, .slice none 0 0, .slice none 0 0] 59)).rowIs w.heap.size 59 5 (fun _ => .slice none 0 0)) := by
    refine World.rowIs.alloc ?_ _
    rw [eW]
    exact World.rowIs_alloc w #[.slice none 0 0, .slice none 0 0, .slice none 0 0, .slice none 0 0, .slice none 0 0] 59 (fun _ => .slice none 0 0) hz
  clear hv hz
  go_enter Tryd.func26, Tryd.ntmps26
  go_wp2
  rw [← eW]
  go_loopw [5] (fun i wr => ∃ k : Nat, k ≤ 5 ∧ i = .int .i64 k ∧ Hid (Below w.heap.size w wr) ∧ Hid (Rw h wr (w.heap.size + 1) (w.heap.size + 2) k) ∧ Hid (w.heap.size + 2 ≤ wr.heap.size) ∧ Hid (wr.rowIs w.heap.size 59 5 (fun _ => .slice none 0 0))) (fun i _ => 5 - (intOf i).toNat)
  case atStart => exact ⟨0, by omega, rfl, B0.out, R0.out, by rw [eW]; show _ ≤ _; simp, T0.out⟩
  case round =>
    obtain ⟨k, hk, rfl, hbel, hR, hS, hT⟩ := hrel
    by_cases hlt : k < 5
    · have hk0 : (0 : Int) ≤ (k : Int) := by omega
      have hkl : (k : Int) < 5 := by omega
      go_wp2_with fail
      refine (heardBy_any a len cap h (k : Int) _ h60 (G.out.later hbel.out)).mono ?_
      rintro e w1 ⟨⟨v, rfl, ho⟩, hb⟩
      obtain ⟨q, d, rfl, hvw, hd1, hd2, hq⟩ := own_sl ho
      have R1 : Hid (Rw h w1 (w.heap.size + 1) (w.heap.size + 2) k) := Rw.later hR.out hb
      have A1 : Hid (Al h w1 k q d ∧ ∀ p, q = some p → w.heap.size + 2 ≤ p.block) := ⟨⟨hvw, hd1, hd2⟩, fun p hp => Nat.le_trans hS.out (hq p hp)⟩
      have B1 : Hid (Below w.heap.size w w1) := below_up rfl hbel.out hb
      have S1 : Hid (w.heap.size + 2 ≤ w1.heap.size) := Nat.le_trans hS.out hb.size
      have T1 : Hid (w1.rowIs w.heap.size 59 5 (fun _ => .slice none 0 0)) := rowIs_later hT.out hb
      obtain ⟨y, u0, z0⟩ : ∃ y, w1.cell? ⟨w.heap.size + 1, k, none⟩ = some y ∧ w1.frozen? ⟨w.heap.size + 1, k, none⟩ = false := by
        obtain ⟨f, r, _⟩ := R1.out
        exact ⟨_, r.cell hlt, r.frozen k⟩
      clear ho hb hvw hd1 hd2 hq
      go_wp2
      go_roundw
      case rel => exact ⟨k + 1, by omega, by go_num, B1.out.setCell (p := ⟨_, _, none⟩) (Nat.le_succ _) _, Rw.step R1.out (Nat.lt_succ_self _) A1.out.1 A1.out.2, by show _ ≤ _; simpa [World.setCell] using S1.out, World.rowIs.setOther T1.out (a := ⟨_, _, none⟩) (Nat.ne_of_lt (Nat.lt_succ_self _)) _⟩
      case measure => simp [intOf]; omega
    · have hkl : k = 5 := by omega
      subst hkl
      obtain ⟨f, r, x⟩ := hR.out
      obtain ⟨q0, d0, e0, v0, o0⟩ := x 0 (by omega)
      obtain ⟨q1, d1, e1, v1, o1⟩ := x 1 (by omega)
      obtain ⟨q2, d2, e2, v2, o2⟩ := x 2 (by omega)
      obtain ⟨q3, d3, e3, v3, o3⟩ := x 3 (by omega)
      obtain ⟨q4, d4, e4, v4, o4⟩ := x 4 (by omega)
      have c0 := (r.cell (i := 0) (by omega)).trans (congrArg some e0)
      have c1 := (r.cell (i := 1) (by omega)).trans (congrArg some e1)
      have c2 := (r.cell (i := 2) (by omega)).trans (congrArg some e2)
      have c3 := (r.cell (i := 3) (by omega)).trans (congrArg some e3)
      have c4 := (r.cell (i := 4) (by omega)).trans (congrArg some e4)
      have t0 := hT.out.cell (i := 0) (by omega)
      have t1 := hT.out.cell (i := 1) (by omega)
      have t2 := hT.out.cell (i := 2) (by omega)
      have t3 := hT.out.cell (i := 3) (by omega)
      have t4 := hT.out.cell (i := 4) (by omega)
      have f0 := hT.out.frozen 0
      have f1 := hT.out.frozen 1
      have f2 := hT.out.frozen 2
      have f3 := hT.out.frozen 3
      have f4 := hT.out.frozen 4
      have V : Hid (Al h wr 0 q0 d0 ∧ Al h wr 1 q1 d1 ∧ Al h wr 2 q2 d2 ∧ Al h wr 3 q3 d3 ∧ Al h wr 4 q4 d4) := ⟨v0, v1, v2, v3, v4⟩
      have O : Hid ((∀ p, q0 = some p → w.heap.size + 2 ≤ p.block) ∧ (∀ p, q1 = some p → w.heap.size + 2 ≤ p.block) ∧ (∀ p, q2 = some p → w.heap.size + 2 ≤ p.block) ∧ (∀ p, q3 = some p → w.heap.size + 2 ≤ p.block) ∧ (∀ p, q4 = some p → w.heap.size + 2 ≤ p.block)) := ⟨o0, o1, o2, o3, o4⟩
      clear r x e0 e1 e2 e3 e4 v0 v1 v2 v3 v4 o0 o1 o2 o3 o4
      go_wp2
      have r5 := ((((World.rowIs.set hT.out 0 (.slice q0 (ln h 0) d0)).set 1 (.slice q1 (ln h 1) d1)).set 2 (.slice q2 (ln h 2) d2)).set 3 (.slice q3 (ln h 3) d3)).set 4 (.slice q4 (ln h 4) d4)
      have y0 := r5.cell (i := 0) (by omega)
      have y1 := r5.cell (i := 1) (by omega)
      have y2 := r5.cell (i := 2) (by omega)
      have y3 := r5.cell (i := 3) (by omega)
      have y4 := r5.cell (i := 4) (by omega)
      simp at y0 y1 y2 y3 y4
      refine bodyPost_ret (v := .agg #[.slice q0 (ln h 0) d0, .slice q1 (ln h 1) d1, .slice q2 (ln h 2) d2, .slice q3 (ln h 3) d3, .slice q4 (ln h 4) d4]) ?_ rfl ?_
      · exact ret5 (results_cellA rfl _ _ _) rfl y0 y1 y2 y3 y4
      have hlt2 : w.heap.size < w.heap.size + 2 := by omega
      refine ⟨⟨q0, q1, q2, q3, q4, d0, d1, d2, d3, d4, rfl, V.out.1.set5 O.out.1 hlt2 _ _ _ _ _, V.out.2.1.set5 O.out.2.1 hlt2 _ _ _ _ _, V.out.2.2.1.set5 O.out.2.2.1 hlt2 _ _ _ _ _, V.out.2.2.2.1.set5 O.out.2.2.2.1 hlt2 _ _ _ _ _, V.out.2.2.2.2.set5 O.out.2.2.2.2 hlt2 _ _ _ _ _⟩, ?_⟩
      exact ((((hbel.out.setCell (p := ⟨_, _, none⟩) (Nat.le_refl _) _).setCell (p := ⟨_, _, none⟩) (Nat.le_refl _) _).setCell (p := ⟨_, _, none⟩) (Nat.le_refl _) _).setCell (p := ⟨_, _, none⟩) (Nat.le_refl _) _).setCell (p := ⟨_, _, none⟩) (Nat.le_refl _) _

theorem of1 (a : Option Addr) (len cap : Nat) (h : List Ev) (P x y : Nat) (w : World) (hx : x < len) (hy : y < len) (hp : w.cell? ⟨P, 0, none⟩ = some (.slice a len cap)) (hv : Ew w a len h) :
    Calls Tryd.prog 24 #[.int .i64 (x : Int), .int .i64 (y : Int), .pointer (some ⟨P, 0, none⟩)] w fun e w' => e = .returned (.bool (smB h x y)) ∧ Below w.heap.size w w' := by
  obtain ⟨b, off, rfl, hb, hcs⟩ := hv.2 (by omega)
  have c0 := (hcs x hx).1
  have c1 := (hcs y hy).1
  have ED : Hid (smB h x y = decide ((ev h x).1 = (ev h y).1)) := rfl
  obtain ⟨j0, g0⟩ : ∃ i, i = (ev h x).1 := ⟨_, rfl⟩
  obtain ⟨j1, g1⟩ : ∃ i, i = (ev h y).1 := ⟨_, rfl⟩
  rw [← g0, ← g1] at ED
  rw [← g0] at c0
  rw [← g1] at c1
  have hx0 : (0 : Int) ≤ (x : Int) := by omega
  have hxl : (x : Int) < (len : Int) := by omega
  have hy0 : (0 : Int) ≤ (y : Int) := by omega
  have hyl : (y : Int) < (len : Int) := by omega
  clear hv hcs g0 g1 hb
  go_enter Tryd.func24, Tryd.ntmps24
  go_wp2
  go_quiet (fail)
  go_wp2
  go_ret
  exact ⟨ret_bool (by rw [ED.out, Bool.eq_iff_iff]; simp), below_drewN (Below.refl _ _) _⟩
theorem of2 (a : Option Addr) (len cap : Nat) (h : List Ev) (P A Q x y : Nat) (w : World) (hx : x < len) (hy : y < len) (hxy : x < y) (hg : Good h len) (hp : w.cell? ⟨P, 0, none⟩ = some (.slice (some ⟨A, 0, none⟩) len len)) (hq : w.cell? ⟨Q, 0, none⟩ = some (.slice a len cap)) (hv : Ew w a len h) (hl : Lw w (some ⟨A, 0, none⟩) len (rows h len)) :
    Calls Tryd.prog 25 #[.int .i64 (x : Int), .int .i64 (y : Int), .pointer (some ⟨P, 0, none⟩), .pointer (some ⟨Q, 0, none⟩)] w fun e w' => e = .returned (.bool (bef h x y)) ∧ Below w.heap.size w w' := by
  obtain ⟨b, off, rfl, hb, hcs⟩ := hv.2 (by omega)
  obtain ⟨_, _, e, hA, hrs⟩ := hl.2 (by omega)
  cases e
  obtain ⟨q1, k1, d1, v1⟩ := hrs x hx
  obtain ⟨q2, k2, d2, v2⟩ := hrs y hy
  rw [rows_get _ hx, row_len, Nat.zero_add] at d1
  rw [rows_get _ hx, row_len] at v1
  rw [rows_get _ hy, row_len, Nat.zero_add] at d2
  rw [rows_get _ hy, row_len] at v2
  obtain ⟨b1, o1, rfl, hb1, n1⟩ := v1.2 (by omega)
  obtain ⟨b2, o2, rfl, hb2, n2⟩ := v2.2 (by omega)
  have c0 := (hcs x hx).1
  rw [← W_cast hg hx] at c0
  have hW := W_lt hg hx
  have r1 := n1 (W h x) hW
  have r2 := n2 (W h x) hW
  have ED : Hid (bef h x y = decide ((row h x).getD (W h x) 0 ≤ (row h y).getD (W h x) 0)) := by
    show bef h x y = _
    unfold bef
    rw [decide_eq_true (show x ≠ y by omega), Bool.true_and]
  obtain ⟨m, em⟩ : ∃ i, i = W h x := ⟨_, rfl⟩
  rw [← em] at c0 hW r1 r2 ED
  obtain ⟨j0, g0⟩ : ∃ i, i = (row h x).getD m 0 := ⟨_, rfl⟩
  obtain ⟨j1, g1⟩ : ∃ i, i = (row h y).getD m 0 := ⟨_, rfl⟩
  rw [← g0, ← g1] at ED
  rw [← g0] at r1
  rw [← g1] at r2
  have hx0 : (0 : Int) ≤ (x : Int) := by omega
  have hxl : (x : Int) < (len : Int) := by omega
  have hy0 : (0 : Int) ≤ (y : Int) := by omega
  have hyl : (y : Int) < (len : Int) := by omega
  have hm0 : (0 : Int) ≤ (m : Int) := by omega
  have hml : (m : Int) < 5 := by omega
  clear hv hl hcs hrs g0 g1 hb hb1 hb2 n1 n2 v1 v2 hA hg em
  go_enter Tryd.func25, Tryd.ntmps25
  go_wp2
  go_quiet (fail)
  go_wp2
  go_ret
  exact ⟨ret_bool (by rw [ED.out]), below_drewN (Below.refl _ _) _⟩
end Go.Proofs.YtpjoaogiaacikakDoor.His
