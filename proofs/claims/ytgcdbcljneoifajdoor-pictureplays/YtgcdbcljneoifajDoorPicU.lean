/-
  Contract of package picture's Sum, whichever way the map of what was written down is gone through.
-/
import Derived.Test.YtgcdbcljneoifajDoorPicV
namespace Go.Proofs.YtgcdbcljneoifajDoor.Pic
open Go.RowKit Go.Maps
open Go.Proofs.YtgcdbcljneoifajDoor.Fif (own_lt own_block own_form own_mono own_vw ret_bool info_int new_int int_one)
open Go.Proofs.YtgcdbcljneoifajDoor.Sep (KpL NewL)
open Go.Proofs.YtgcdbcljneoifajDoor.Ldr (errF errF_ok errF_no Sl)
open Go.Proofs.YtgcdbcljneoifajDoor.MapV (MM MP RV kl strike strike_new strike_old strike_self kl_key ranges_blocks next_cases wfI)
set_option linter.unusedVariables false
variable {w w' : World} {base P bG cG mO mW mS : Nat} {rv : Nat → Value} {g : G}

def svS (a b : Int) (j : Nat) : Value := if j = 0 then .int .i64 a else .int .i64 b
theorem svS_new (w : World) (a b : Int) : (w.alloc (.cells #[.int .i64 a, .int .i64 b] 54)).rowIs w.heap.size 54 2 (svS a b) :=
  World.rowIs_alloc w #[.int .i64 a, .int .i64 b] 54 (svS a b) (fun i hi => by rcases i with _ | _ | i <;> first | rfl | (exfalso; have : _ < 2 := hi; omega))
theorem retS {fn : Func} {tmps : Array Value} {w : World} {p u : Tmp} {B : Nat} {v0 v1 x : Value} (h : fn.results = #[.cell p 54, .tmp u]) (hp : tmps.getD p undef = .pointer (some ⟨B, 0, none⟩)) (hu : tmps.getD u undef = x)
    (y0 : w.cell? ⟨B, 0, none⟩ = some v0) (y1 : w.cell? ⟨B, 1, none⟩ = some v1) : (results fn tmps).run Tryd.prog w = .ok (.tuple #[.agg #[v0, v1], x]) w := by
  rw [results_cell_tmp h, hp, hu]
  simp [asAddr, go_sem, y0, y1]
theorem row_laterS {w w' : World} {b : Nat} {t : TypeId} {n : Nat} {f : Nat → Value} (h : w.rowIs b t n f) (hb : Below w.heap.size w w') : w'.rowIs b t n f := World.rowIs.of_block h (hb.block b (World.rowIs.lt h))
/-- so much was met -/
def sw (g : G) (left : Lit → Bool) : Int := S (fun i => if g.has i = true ∧ left (kl (i : Int)) = false then g.wrote i else 0) g.n
theorem sw_strike {left : Lit → Bool} {m : Nat} (h5 : g.n ≤ 5) (hm : m < g.n) (hh : g.has m = true) (hl : left (kl (m : Int)) = true) : sw g (strike left (kl (m : Int))) = sw g left + g.wrote m := by
  unfold sw
  have hs : strike left (kl (m : Int)) (kl (m : Int)) = false := strike_self (kl_key (wfI (by omega) (by omega)))
  rw [S_one (f := fun i => if g.has i = true ∧ left (kl (i : Int)) = false then g.wrote i else 0) hm fun k hk hne => ?_]
  · show _ + ((if g.has m = true ∧ strike left (kl (m : Int)) (kl (m : Int)) = false then g.wrote m else 0) - (if g.has m = true ∧ left (kl (m : Int)) = false then g.wrote m else 0)) = _
    rw [if_pos ⟨hh, hs⟩, if_neg (fun z => by rw [hl] at z; cases z.2)]
    omega
  · show (if g.has k = true ∧ strike left (kl (m : Int)) (kl (k : Int)) = false then g.wrote k else 0) = if g.has k = true ∧ left (kl (k : Int)) = false then g.wrote k else 0
    have e : strike left (kl (m : Int)) (kl (k : Int)) = false ↔ left (kl (k : Int)) = false := ⟨fun z => by
      rcases strike_new z with a | a
      · exact a
      · omega, strike_old⟩
    by_cases q : g.has k = true ∧ left (kl (k : Int)) = false
    · rw [if_pos q, if_pos ⟨q.1, e.2 q.2⟩]
    · rw [if_neg q, if_neg fun z => q ⟨z.1, e.1 z.2⟩]
theorem sw_all {left : Lit → Bool} (hd : Dn g) (hl : ∀ k, left k = false) : sw g left = S g.wrote g.n := S_congr fun i hi => if_pos ⟨(hd i hi).1, hl _⟩
theorem sw_begin {left : Lit → Bool} (hl : ∀ i, g.has i = true → left (kl (i : Int)) = true) : sw g left = 0 := S_none fun i hi => if_neg fun z => by rw [hl i z.1] at z; cases z.2
theorem S_mono2 {f h : Nat → Int} {n : Nat} (e : ∀ i, i < n → f i ≤ h i) : S f n ≤ S h n := by
  induction n with
  | zero => exact Int.le_refl _
  | succ n ih =>
    have h1 := ih fun i hi => e i (by omega)
    have h2 := e n (by omega)
    show S f n + f n ≤ S h n + h n
    omega
theorem sw_far {left : Lit → Bool} (hw : ∀ i, i < g.n → 0 ≤ g.wrote i) : 0 ≤ sw g left ∧ sw g left ≤ S g.wrote g.n := by
  refine ⟨S_pos fun i hi => ?_, S_mono2 fun i hi => ?_⟩
  · show 0 ≤ if g.has i = true ∧ left (kl (i : Int)) = false then g.wrote i else 0
    split
    · exact hw i hi
    · exact Int.le_refl _
  · show (if g.has i = true ∧ left (kl (i : Int)) = false then g.wrote i else 0) ≤ g.wrote i
    split
    · exact Int.le_refl _
    · exact hw i hi
theorem T1_some {p : Nat → Bool} {v : Nat → Value} {a : Int} {u : Value} (h : T1 p v a = some u) : ∃ m : Nat, a = (m : Int) ∧ m < 5 ∧ p m = true ∧ u = v m := by
  unfold T1 at h
  by_cases q : (0 ≤ a ∧ a ≤ 4) ∧ p a.toNat = true
  · rw [if_pos q] at h
    exact ⟨a.toNat, by omega, by omega, q.2, (Option.some.inj h).symm⟩
  · rw [if_neg q] at h; cases h
/-- as far as it goes -/
structure SR (w W2 wr : World) (B1 : Nat) (mW n : Nat) (D : DataW Value) (g : G) (left : Lit → Bool) (cnt : Nat) : Prop where
  rg : wr.ranges Tryd.prog 3 RV mW W2.heap.size n D left cnt
  row : wr.rowIs B1 54 2 (svS (sw g left) g.ow)
  bel : Below w.heap.size w wr
  sz : W2.heap.size < wr.heap.size
  res : wr.rowIs w.heap.size 54 2 (svS 0 0)
set_option maxRecDepth 100000 in
theorem sum_no (h : GP w base P bG cG mO mW mS rv g) (hr : Rg g) (hd : ¬ Dn g) : Calls Tryd.prog 16 #[.pointer (some ⟨P, 0, none⟩)] w fun x w' => x = .returned (.tuple #[.agg #[.int .i64 0, .int .i64 0], errF 6]) ∧ Below w.heap.size w w' := by
  have HG : Hid (GP w base P bG cG mO mW mS rv g ∧ Rg g ∧ doneB g = false) := ⟨h, hr, decide_eq_false hd⟩
  obtain ⟨W, eW⟩ : ∃ W, W = w.alloc (.cells #[.int .i64 0, .int .i64 0] 54) := ⟨_, rfl⟩
  have BW : Hid (Below w.heap.size w W ∧ W.rowIs w.heap.size 54 2 (svS 0 0)) := by rw [eW]; exact ⟨(Below.refl _ _).alloc (Nat.le_refl _) _, svS_new w 0 0⟩
  rw [errF_no (by decide)]
  clear h hr hd
  go_enter Tryd.func16, Tryd.ntmps16
  go_wp2_with fail
  rw [← eW]
  refine (donP (HG.out.1.later BW.out.1) HG.out.2.1).mono ?_
  rintro e w1 ⟨rfl, -, hb⟩
  rw [HG.out.2.2]
  have B1 : Hid (Below w.heap.size w w1) := BW.out.1.trans (hb.mono BW.out.1.size)
  have R1 : Hid (w1.rowIs w.heap.size 54 2 (svS 0 0)) := row_laterS BW.out.2 hb
  have q0 : w1.cell? ⟨w.heap.size, 0, none⟩ = some (.int .i64 0) := World.rowIs.cell R1.out (i := 0) (by omega)
  have q1 : w1.cell? ⟨w.heap.size, 1, none⟩ = some (.int .i64 0) := World.rowIs.cell R1.out (i := 1) (by omega)
  have f0 := World.rowIs.frozen R1.out 0
  have f1 := World.rowIs.frozen R1.out 1
  clear hb eW
  go_wp2
  have r3 := (World.rowIs.set R1.out 0 (.int .i64 0)).set 1 (.int .i64 0)
  have u0 := r3.cell (i := 0) (by omega)
  have u1 := r3.cell (i := 1) (by omega)
  simp at u0 u1
  refine bodyPost_ret (v := .tuple #[.agg #[.int .i64 0, .int .i64 0], .iface 58 (.int .i64 6)]) (retS (B := w.heap.size) rfl rfl rfl u0 u1) rfl ?_
  exact ⟨rfl, (B1.out.setCell (p := ⟨w.heap.size, 0, none⟩) (Nat.le_refl _) _).setCell (p := ⟨w.heap.size, 1, none⟩) (Nat.le_refl _) _⟩
set_option maxRecDepth 100000 in
set_option maxHeartbeats 1000000 in
theorem sum_ok (h : GP w base P bG cG mO mW mS rv g) (hr : Rg g) (hd : Dn g) (hw : ∀ i, i < g.n → 0 ≤ g.wrote i) (hS : S g.wrote g.n ≤ 1000000) : Calls Tryd.prog 16 #[.pointer (some ⟨P, 0, none⟩)] w fun x w' => x = .returned (.tuple #[.agg #[.int .i64 (S g.wrote g.n), .int .i64 g.ow], .nilIface]) ∧ Below w.heap.size w w' := by
  have HG : Hid (GP w base P bG cG mO mW mS rv g ∧ Rg g ∧ doneB g = true ∧ Dn g ∧ (∀ i, i < g.n → 0 ≤ g.wrote i) ∧ S g.wrote g.n ≤ 1000000) := ⟨h, hr, decide_eq_true hd, hd, hw, hS⟩
  obtain ⟨W, eW⟩ : ∃ W, W = w.alloc (.cells #[.int .i64 0, .int .i64 0] 54) := ⟨_, rfl⟩
  have BW : Hid (Below w.heap.size w W ∧ W.rowIs w.heap.size 54 2 (svS 0 0)) := by rw [eW]; exact ⟨(Below.refl _ _).alloc (Nat.le_refl _) _, svS_new w 0 0⟩
  obtain ⟨ow, eow⟩ : ∃ ow, ow = g.ow := ⟨_, rfl⟩
  have EO : Hid (ow = g.ow) := eow
  obtain ⟨sm, esm⟩ : ∃ sm, sm = S g.wrote g.n := ⟨_, rfl⟩
  have ES : Hid (sm = S g.wrote g.n) := esm
  rw [← eow, ← esm]
  clear esm h hr hd hw hS eow
  go_enter Tryd.func16, Tryd.ntmps16
  go_wp2_with fail
  rw [← eW]
  refine (donP (HG.out.1.later BW.out.1) HG.out.2.1).mono ?_
  rintro e w1 ⟨rfl, -, hb⟩
  rw [HG.out.2.2.1]
  have B1 : Hid (Below w.heap.size w w1 ∧ w1.rowIs w.heap.size 54 2 (svS 0 0)) := ⟨BW.out.1.trans (hb.mono BW.out.1.size), row_laterS BW.out.2 hb⟩
  have G1 : Hid (GP w1 base P bG cG mO mW mS rv g) := HG.out.1.later B1.out.1
  have c4 : w1.cell? ⟨P, 4, none⟩ = some (.int .i64 ow) := by rw [EO.out]; exact G1.out.c4
  have hPl := G1.out.lt
  clear hb eW
  go_upto_region 4 with fail
  obtain ⟨W2, eW2⟩ : ∃ W2, W2 = w1.alloc (.cells #[.int .i64 0, .int .i64 ow] 54) := ⟨_, rfl⟩
  obtain ⟨C, eC⟩ : ∃ C, C = w1.heap.size := ⟨_, rfl⟩
  rw [← eW2, ← eC]
  have H2 : Hid (Below w.heap.size w W2 ∧ GP W2 base P bG cG mO mW mS rv g ∧ W2.rowIs C 54 2 (svS 0 ow) ∧ W2.rowIs w.heap.size 54 2 (svS 0 0) ∧ w.heap.size < C ∧ C < W2.heap.size) := by
    have b2 : Below w1.heap.size w1 W2 := by rw [eW2]; exact (Below.refl _ _).alloc (Nat.le_refl _) _
    have r2 : W2.rowIs C 54 2 (svS 0 ow) := by rw [eW2, eC]; exact svS_new w1 0 ow
    exact ⟨B1.out.1.trans (b2.mono B1.out.1.size), G1.out.later b2, r2, row_laterS B1.out.2 b2, by rw [eC]; exact World.rowIs.lt B1.out.2, World.rowIs.lt r2⟩
  have c2 := H2.out.2.1.c2
  obtain ⟨D, hD, vD⟩ := H2.out.2.1.wrt
  have HD : Hid (MP D (T1 g.has (fun i => .int .i64 (g.wrote i))) (cnK g.has 5)) := vD
  have HO : Hid (W2.ownsMap Tryd.prog 3 RV mW (Maps.size D) D) := hD
  have hPl2 := H2.out.2.1.lt
  clear hD vD c4 hPl eW2 eC
  go_wp2_with (first | (at_range; refine wpList_range_own _ rfl _ 63 rfl 3 3 MapV.law Tryd.underlying63 _ mW (Maps.size D) D rfl HO.out ?_; intro w0 hrg0 hg0 hs0) | go_in)
  have F0 : Hid (SR w W2 w0 C mW (Maps.size D) D g (Maps.has D) (Maps.size D)) := by
    have b0 : Below W2.heap.size W2 w0 := (Below.refl _ _).grown hg0 (Nat.le_refl _) (by simp)
    refine ⟨hrg0, ?_, H2.out.1.trans (b0.mono H2.out.1.size), by omega, row_laterS H2.out.2.2.2.1 b0⟩
    rw [sw_begin fun i hi => ?_, ← EO.out]
    · exact row_laterS H2.out.2.2.1 b0
    · rw [HD.out.has, T1_is (Nat.lt_of_lt_of_le (HG.out.2.1.has i hi) HG.out.1.room.2.2)]
      exact hi
  clear hrg0 hg0 hs0 c2 HO hPl2
  go_frame
  go_loopw [6] (fun _ wr => ∃ (left : Lit → Bool) (cnt : Nat), Hid (SR w W2 wr C mW (Maps.size D) D g left cnt)) (fun _ wr => wr.rangeLeft mW W2.heap.size)
  case atStart => exact ⟨_, _, F0⟩
  case round =>
    obtain ⟨left, cnt, hF⟩ := hrel
    have hrg := hF.out.rg
    rcases next_cases hrg HD.out 0 with ⟨h0, hl, hrun⟩ | ⟨i, u, hTi, hwf, hle, w2, cnt1, hrun, hrg1, hlt, hg1, hs1, hen⟩
    · have r1 : wr.rowIs C 54 2 (svS sm ow) := by
        rw [ES.out, EO.out, ← sw_all HG.out.2.2.2.1 hl]
        exact hF.out.row
      have R1 : Hid (wr.rowIs w.heap.size 54 2 (svS 0 0) ∧ Below w.heap.size w wr) := ⟨hF.out.res, hF.out.bel⟩
      have y0 : wr.cell? ⟨C, 0, none⟩ = some (.int .i64 sm) := World.rowIs.cell r1 (i := 0) (by omega)
      have y1 : wr.cell? ⟨C, 1, none⟩ = some (.int .i64 ow) := World.rowIs.cell r1 (i := 1) (by omega)
      have q0 : wr.cell? ⟨w.heap.size, 0, none⟩ = some (.int .i64 0) := World.rowIs.cell R1.out.1 (i := 0) (by omega)
      have q1 : wr.cell? ⟨w.heap.size, 1, none⟩ = some (.int .i64 0) := World.rowIs.cell R1.out.1 (i := 1) (by omega)
      have f0 := World.rowIs.frozen R1.out.1 0
      have f1 := World.rowIs.frozen R1.out.1 1
      clear hrg hl hF h0 r1
      go_wp2
      have r3 := (World.rowIs.set R1.out.1 0 (.int .i64 sm)).set 1 (.int .i64 ow)
      have u0 := r3.cell (i := 0) (by omega)
      have u1 := r3.cell (i := 1) (by omega)
      simp at u0 u1
      refine bodyPost_ret (v := .tuple #[.agg #[.int .i64 sm, .int .i64 ow], .nilIface]) (retS (B := w.heap.size) rfl rfl rfl u0 u1) rfl ?_
      exact ⟨rfl, (R1.out.2.setCell (p := ⟨w.heap.size, 0, none⟩) (Nat.le_refl _) _).setCell (p := ⟨w.heap.size, 1, none⟩) (Nat.le_refl _) _⟩
    · obtain ⟨m, rfl, hm5, hhm, rfl⟩ := T1_some hTi
      obtain ⟨y, ey⟩ : ∃ y : Int, y = g.wrote m := ⟨_, rfl⟩
      have hmn := HG.out.2.1.has m hhm
      obtain ⟨sp, esp⟩ : ∃ sp, sp = sw g left := ⟨_, rfl⟩
      have es : sw g (strike left (kl (m : Int))) = sp + y := by rw [esp, ey]; exact sw_strike HG.out.1.room.2.2 hmn hhm hle
      have hf1 := sw_far (g := g) (left := left) HG.out.2.2.2.2.1
      have hf2 := sw_far (g := g) (left := strike left (kl (m : Int))) HG.out.2.2.2.2.1
      have hSl := HG.out.2.2.2.2.2
      rw [es] at hf2
      rw [← esp] at hf1
      have hy : 0 ≤ y := by rw [ey]; exact HG.out.2.2.2.2.1 m hmn
      have hsp : 0 ≤ sp ∧ sp ≤ 1000000 ∧ 0 ≤ sp + y ∧ sp + y ≤ 1000000 := by omega
      rw [← ey] at hrun hen
      have bw2 : Below w.heap.size w w2 := hF.out.bel.grown hg1 hF.out.bel.size (fun k q => by cases q; have := H2.out.1.size; omega)
      have hC : w2.heap[C]? = wr.heap[C]? := hg1.block C (World.rowIs.lt hF.out.row) (fun q => by cases q; have := H2.out.2.2.2.2.2; omega)
      have h0 : w2.heap[w.heap.size]? = wr.heap[w.heap.size]? := hg1.block _ (World.rowIs.lt hF.out.res) (fun q => by have := Option.some.inj q; have := H2.out.2.2.2.2; omega)
      have r2 : w2.rowIs C 54 2 (svS sp g.ow) := by rw [esp]; exact World.rowIs.of_block hF.out.row hC
      have R2 : Hid (w2.rowIs C 54 2 (svS sp g.ow) ∧ w2.rowIs w.heap.size 54 2 (svS 0 0) ∧ Below w.heap.size w w2 ∧ w2.ranges Tryd.prog 3 RV mW W2.heap.size (Maps.size D) D (strike left (kl (m : Int))) cnt1 ∧ W2.heap.size < w2.heap.size ∧ cnt1 < cnt ∧ wr.rangeLeft mW W2.heap.size = cnt ∧ sw g (strike left (kl (m : Int))) = sp + y) := ⟨r2, World.rowIs.of_block hF.out.res h0, bw2, hrg1, by have := hF.out.sz; omega, hlt, hrg.left_eq, es⟩
      have y0 : w2.cell? ⟨C, 0, none⟩ = some (.int .i64 sp) := World.rowIs.cell r2 (i := 0) (by omega)
      have z0 := World.rowIs.frozen r2 0
      clear hrg hF hle hrg1 hlt hg1 hs1 hTi ey hwf esp es hf1 hf2 hSl hy bw2 hC h0 r2 hmn hhm hm5
      go_wp2
      go_roundw
      case rel =>
        refine ⟨strike left (kl (m : Int)), cnt1, ?_⟩
        have kC : ∀ b, b ≠ C → (w2.setCell ⟨C, 0, none⟩ (.int .i64 (sp + y))).heap[b]? = w2.heap[b]? := fun b q => Deep.blk_setCell_other _ _ _ _ q
        have n1 : mW ≠ C := fun e => by have := HG.out.1.wrt.lt; have := H2.out.2.2.2.2.1; omega
        have n2 : W2.heap.size ≠ C := fun e => by have := H2.out.2.2.2.2.2; omega
        refine ⟨ranges_blocks R2.out.2.2.2.1 (kC _ n1) (kC _ n2), ?_, R2.out.2.2.1.setCell (p := ⟨C, 0, none⟩) (Nat.le_of_lt H2.out.2.2.2.2.1) _, by simpa [World.setCell] using R2.out.2.2.2.2.1, World.rowIs.of_block R2.out.2.1 (kC _ (fun e => by have := H2.out.2.2.2.2.1; omega))⟩
        rw [R2.out.2.2.2.2.2.2.2]
        refine (World.rowIs.set R2.out.1 0 _).congr fun j hj => ?_
        unfold svS
        by_cases e : j = 0
        · rw [if_pos e, if_pos e]
        · rw [if_neg e, if_neg e, if_neg e]
      case measure =>
        have n1 : mW ≠ C := fun e => by have := HG.out.1.wrt.lt; have := H2.out.2.2.2.2.1; omega
        have n2 : W2.heap.size ≠ C := fun e => by have := H2.out.2.2.2.2.2; omega
        have hR := ranges_blocks (w' := w2.setCell ⟨C, 0, none⟩ (.int .i64 (sp + y))) R2.out.2.2.2.1 (Deep.blk_setCell_other _ _ _ _ n1) (Deep.blk_setCell_other _ _ _ _ n2)
        rw [hR.left_eq, R2.out.2.2.2.2.2.2.1]
        exact R2.out.2.2.2.2.2.1
theorem sumG (base P : Nat) (g : G) (fp : List Nat) (all : Int) (w : World) (h : TS w base P g fp) (hi : Inv all g) : Calls Tryd.prog 16 #[.pointer (some ⟨P, 0, none⟩)] w fun e w' => e = .returned (.tuple #[.agg #[.int .i64 (had g), .int .i64 (onw g)], errF (sumC g)]) ∧ Below w.heap.size w w' := by
  obtain ⟨bG, cG, mO, mW, mS, rv, rfl, h, r, h5⟩ := h
  by_cases hd : Dn g
  · have e1 : had g = S g.wrote g.n := if_pos hd
    have e2 : onw g = g.ow := if_pos hd
    have e3 : sumC g = 0 := if_pos hd
    rw [e1, e2, e3, errF_ok]
    refine sum_ok h r hd hi.wpos ?_
    have e4 := hi.cons
    have e5 : sumG0 g = all := e4
    rcases hi.far.2.2.1 g.n (Nat.le_refl _) with z | z
    · omega
    · exact absurd hd z
  · have e1 : had g = 0 := if_neg hd
    have e2 : onw g = 0 := if_neg hd
    have e3 : sumC g = 6 := if_neg hd
    rw [e1, e2, e3]
    exact sum_no h r hd
end Go.Proofs.YtgcdbcljneoifajDoor.Pic
