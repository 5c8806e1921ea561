/-
  Contract of package agree's Propose.
-/
import Derived.Test.YtcccheeeagphpagAgrD
namespace Go.Proofs.Ytcccheeeagphpag.Agr
open Go.RowKit Go.Maps
open Go.Proofs.Ytcccheeeagphpag.Fif (own_lt own_block own_form own_mono own_vw ret_bool info_int)
open Go.Proofs.Ytcccheeeagphpag.Vec (Vw)
open Go.Proofs.Ytcccheeeagphpag.MapV (MM putT delT wfI turned_below g_of_turned)
open Go.Proofs.Ytcccheeeagphpag.Sep (KpL NewL)
set_option linter.unusedVariables false
variable {w w' : World} {base P mS : Nat} {mb : Nat → Nat} {hv : Nat → Value} {r : Rc} {g : G} {cW : Nat → Nat}

def svA (a b : Int) (j : Nat) : Value := if j = 0 then .int .i64 a else .int .i64 b
theorem svA_new (w : World) (a b : Int) : (w.alloc (.cells #[.int .i64 a, .int .i64 b] 41)).rowIs w.heap.size 41 2 (svA a b) :=
  World.rowIs_alloc w #[.int .i64 a, .int .i64 b] 41 (svA a b) (fun i hi => by rcases i with _ | _ | i <;> first | rfl | (exfalso; have : _ < 2 := hi; omega))
theorem retS {fn : Func} {tmps : Array Value} {w : World} {p u : Tmp} {B : Nat} {v0 v1 x : Value} (h : fn.results = #[.cell p 41, .tmp u]) (hp : tmps.getD p undef = .pointer (some ⟨B, 0, none⟩)) (hu : tmps.getD u undef = x)
    (y0 : w.cell? ⟨B, 0, none⟩ = some v0) (y1 : w.cell? ⟨B, 1, none⟩ = some v1) : (results fn tmps).run Try.prog w = .ok (.tuple #[.agg #[v0, v1], x]) w := by
  rw [results_cell_tmp h, hp, hu]
  simp [asAddr, go_sem, y0, y1]
theorem below_sameA {w w1 w2 : World} (h : Below w1.heap.size w1 w2) (e : w1.heap = w.heap) (e1 : w1.os = w.os) (e2 : w1.tape = w.tape) (e3 : w1.output = w.output) : Below w.heap.size w w2 := by
  rw [e] at h
  exact ⟨h.os.trans e1, h.tape.trans e2, h.output.trans e3, by have := h.size; rw [e] at this; exact this, fun k hk => by rw [h.block k hk, e]⟩
theorem c_heap {w X : World} (e : X.heap = w.heap) (a : Addr) : X.cell? a = w.cell? a := World.cell?_of_block (by rw [e])
theorem two_set {w : World} {b B : Nat} (h : b ≠ B) (x y : Value) : ((w.setCell ⟨B, 0, none⟩ x).setCell ⟨B, 1, none⟩ y).heap[b]? = w.heap[b]? := by rw [Deep.blk_setCell_other _ _ _ _ h, Deep.blk_setCell_other _ _ _ _ h]
theorem kp_two {w w1 : World} {fp : List Nat} (h : KpL w w1 fp) (x y : Value) : KpL w ((w1.setCell ⟨w.heap.size, 0, none⟩ x).setCell ⟨w.heap.size, 1, none⟩ y) fp := ⟨by simpa [World.setCell] using h.1, fun b hb hn => by rw [two_set (by omega)]; exact h.2 b hb hn⟩
theorem row_later {w w' : World} {b : Nat} {t : TypeId} {n : Nat} {f : Nat → Value} (h : w.rowIs b t n f) (hb : Below w.heap.size w w') : w'.rowIs b t n f := World.rowIs.of_block h (hb.block b (World.rowIs.lt h))
set_option maxRecDepth 100000 in
theorem pro_chk (h : AF w base P mS mb hv (rc g cW)) (who word : Int) (hc : chkC g who word ≠ 0) : Calls Try.prog 10 #[.pointer (some ⟨P, 0, none⟩), .int .i64 who, .int .i64 word] w fun x w' => x = .returned (.tuple #[.agg #[.int .i64 0, .int .i64 0], errF (chkC g who word)]) ∧ Below w.heap.size w w' := by
  obtain ⟨c, ec⟩ : ∃ c, c = chkC g who word := ⟨_, rfl⟩
  have HC : Hid (c = chkC g who word) := ec
  rw [← ec] at hc ⊢
  have en : errF c = .iface 54 (.int .i64 c) := errF_no hc
  have HG : Hid (AF w base P mS mb hv (rc g cW)) := h
  obtain ⟨W, eW⟩ : ∃ W, W = w.alloc (.cells #[.int .i64 0, .int .i64 0] 41) := ⟨_, rfl⟩
  have BW : Hid (Below w.heap.size w W ∧ W.rowIs w.heap.size 41 2 (svA 0 0)) := by rw [eW]; exact ⟨(Below.refl _ _).alloc (Nat.le_refl _) _, svA_new w 0 0⟩
  rw [en]
  clear h ec
  go_enter Try.func10, Try.ntmps10
  go_wp2_with fail
  rw [← eW]
  refine (checkA_any (HG.out.later BW.out.1) who word).mono ?_
  rintro e w1 ⟨rfl, hb⟩
  rw [← HC.out, en]
  have B1 : Hid (Below w.heap.size w w1) := BW.out.1.trans (hb.mono BW.out.1.size)
  have R1 : Hid (w1.rowIs w.heap.size 41 2 (svA 0 0)) := row_later BW.out.2 hb
  have q0 : w1.cell? ⟨w.heap.size, 0, none⟩ = some (.int .i64 0) := World.rowIs.cell R1.out (i := 0) (by omega)
  have q1 : w1.cell? ⟨w.heap.size, 1, none⟩ = some (.int .i64 0) := World.rowIs.cell R1.out (i := 1) (by omega)
  have f0 := World.rowIs.frozen R1.out 0
  have f1 := World.rowIs.frozen R1.out 1
  clear hb eW
  go_wp2
  have r3 := (World.rowIs.set R1.out 0 (.int .i64 0)).set 1 (.int .i64 0)
  have u0 := r3.cell (i := 0) (by omega)
  have u1 := r3.cell (i := 1) (by omega)
  simp at u0 u1
  refine bodyPost_ret (v := .tuple #[.agg #[.int .i64 0, .int .i64 0], .iface 54 (.int .i64 c)]) (retS (B := w.heap.size) rfl rfl rfl u0 u1) rfl ?_
  exact ⟨rfl, (B1.out.setCell (p := ⟨w.heap.size, 0, none⟩) (Nat.le_refl _) _).setCell (p := ⟨w.heap.size, 1, none⟩) (Nat.le_refl _) _⟩
set_option maxRecDepth 100000 in
theorem pro_gave (h : AF w base P mS mb hv (rc g cW)) (hi : Inv0 g) (m v : Nat) (hm : m < g.n) (hv30 : v ≤ 30) (hc : chkC g (m : Int) (v : Int) = 0) (hg : g.gv v m ≠ 0) : Calls Try.prog 10 #[.pointer (some ⟨P, 0, none⟩), .int .i64 (m : Int), .int .i64 (v : Int)] w fun x w' => x = .returned (.tuple #[.agg #[.int .i64 0, .int .i64 0], errF 7]) ∧ Below w.heap.size w w' := by
  have HC : Hid (chkC g (m : Int) (v : Int) = 0 ∧ decide (g.gv v m ≠ 0) = true) := ⟨hc, decide_eq_true hg⟩
  have HG : Hid (AF w base P mS mb hv (rc g cW) ∧ Inv0 g ∧ m < g.n ∧ v ≤ 30) := ⟨h, hi, hm, hv30⟩
  obtain ⟨W, eW⟩ : ∃ W, W = w.alloc (.cells #[.int .i64 0, .int .i64 0] 41) := ⟨_, rfl⟩
  have BW : Hid (Below w.heap.size w W ∧ W.rowIs w.heap.size 41 2 (svA 0 0)) := by rw [eW]; exact ⟨(Below.refl _ _).alloc (Nat.le_refl _) _, svA_new w 0 0⟩
  rw [errF_no (by decide)]
  clear h hi hm hv30 hc hg
  go_enter Try.func10, Try.ntmps10
  go_wp2_with fail
  rw [← eW]
  refine (checkA_any (HG.out.1.later BW.out.1) (m : Int) (v : Int)).mono ?_
  rintro e w1 ⟨rfl, hb⟩
  rw [HC.out.1, errF_ok]
  have B1 : Hid (Below w.heap.size w w1) := BW.out.1.trans (hb.mono BW.out.1.size)
  have R1 : Hid (w1.rowIs w.heap.size 41 2 (svA 0 0)) := row_later BW.out.2 hb
  clear hb eW
  go_wp2_with fail
  refine (gaveG (HG.out.1.later B1.out) HG.out.2.1 HG.out.2.2.1 HG.out.2.2.2).mono ?_
  rintro e w2 ⟨rfl, hb⟩
  rw [HC.out.2]
  have B2 : Hid (Below w.heap.size w w2) := B1.out.trans (hb.mono B1.out.size)
  have R2 : Hid (w2.rowIs w.heap.size 41 2 (svA 0 0)) := row_later R1.out hb
  have q0 : w2.cell? ⟨w.heap.size, 0, none⟩ = some (.int .i64 0) := World.rowIs.cell R2.out (i := 0) (by omega)
  have q1 : w2.cell? ⟨w.heap.size, 1, none⟩ = some (.int .i64 0) := World.rowIs.cell R2.out (i := 1) (by omega)
  have f0 := World.rowIs.frozen R2.out 0
  have f1 := World.rowIs.frozen R2.out 1
  clear hb
  go_wp2
  have r3 := (World.rowIs.set R2.out 0 (.int .i64 0)).set 1 (.int .i64 0)
  have u0 := r3.cell (i := 0) (by omega)
  have u1 := r3.cell (i := 1) (by omega)
  simp at u0 u1
  refine bodyPost_ret (v := .tuple #[.agg #[.int .i64 0, .int .i64 0], .iface 54 (.int .i64 7)]) (retS (B := w.heap.size) rfl rfl rfl u0 u1) rfl ?_
  exact ⟨rfl, (B2.out.setCell (p := ⟨w.heap.size, 0, none⟩) (Nat.le_refl _) _).setCell (p := ⟨w.heap.size, 1, none⟩) (Nat.le_refl _) _⟩
set_option maxRecDepth 100000 in
set_option maxHeartbeats 1000000 in
theorem pro_okA (h : AF w base P mS mb hv (rc g cW)) (hi : Inv0 g) (hcw : ∀ i, i < g.n → cW i ≤ g.most i) (hbw : base ≤ w.heap.size) (m v : Nat) (hm : m < g.n) (hv30 : v ≤ 30) (hc : chkC g (m : Int) (v : Int) = 0) (hg : g.gv v m = 0) (hM : g.most m ≤ 10000) : Calls Try.prog 10 #[.pointer (some ⟨P, 0, none⟩), .int .i64 (m : Int), .int .i64 (v : Int)] w fun x w' => x = .returned (.tuple #[.agg #[.int .i64 ((g.most m : Int) + 1), .int .i64 (m : Int)], .nilIface]) ∧ AF w' base P mS mb hv (rc (give g m v) (up cW m (cW m + 1))) ∧ Below base w w' ∧ KpL w w' (fpA P mS g.n mb hv) := by
  have hm5 : m < 5 := Nat.lt_of_lt_of_le hm h.five
  have HC : Hid (chkC g (m : Int) (v : Int) = 0 ∧ decide (g.gv v m ≠ 0) = false) := ⟨hc, decide_eq_false (fun q => q hg)⟩
  have HG : Hid (AF w base P mS mb hv (rc g cW) ∧ Inv0 g ∧ m < g.n ∧ v ≤ 30 ∧ m < 5 ∧ base ≤ w.heap.size ∧ g.gv v m = 0 ∧ cW m ≤ g.most m) := ⟨h, hi, hm, hv30, hm5, hbw, hg, hcw m hm⟩
  obtain ⟨W, eW⟩ : ∃ W, W = w.alloc (.cells #[.int .i64 0, .int .i64 0] 41) := ⟨_, rfl⟩
  have BW : Hid (Below w.heap.size w W ∧ W.rowIs w.heap.size 41 2 (svA 0 0)) := by rw [eW]; exact ⟨(Below.refl _ _).alloc (Nat.le_refl _) _, svA_new w 0 0⟩
  have hm0 : (0 : Int) ≤ (m : Int) := by omega
  have hm5' : (m : Int) < 5 := by omega
  obtain ⟨k, ek⟩ : ∃ k, k = g.most m := ⟨_, rfl⟩
  have HK : Hid (k = g.most m) := ek
  rw [← ek] at hM ⊢
  clear h hi hm hv30 hc hg hm5 hbw hcw ek
  go_enter Try.func10, Try.ntmps10
  go_wp2_with fail
  rw [← eW]
  refine (checkA_any (HG.out.1.later BW.out.1) (m : Int) (v : Int)).mono ?_
  rintro e w1 ⟨rfl, hb⟩
  rw [HC.out.1, errF_ok]
  have B1 : Hid (Below w.heap.size w w1) := BW.out.1.trans (hb.mono BW.out.1.size)
  have R1 : Hid (w1.rowIs w.heap.size 41 2 (svA 0 0)) := row_later BW.out.2 hb
  clear hb eW
  go_wp2_with fail
  refine (gaveG (HG.out.1.later B1.out) HG.out.2.1 HG.out.2.2.1 HG.out.2.2.2.1).mono ?_
  rintro e w2 ⟨rfl, hb⟩
  rw [HC.out.2]
  have B2 : Hid (Below w.heap.size w w2) := B1.out.trans (hb.mono B1.out.size)
  have R2 : Hid (w2.rowIs w.heap.size 41 2 (svA 0 0)) := row_later R1.out hb
  have G2 : Hid (AF w2 base P mS mb hv (rc g cW)) := HG.out.1.later B2.out
  clear hb
  have c0 : w2.cell? ⟨P, 2 + m, none⟩ = some (.int .i64 (k : Int)) := by rw [HK.out]; exact G2.out.cl HG.out.2.2.2.2.1
  have z0 := G2.out.fr (2 + m)
  go_wp2_with fail
  go_region
  obtain ⟨W3, eW3⟩ : ∃ W3, W3 = (w2.setCell ⟨P, 2 + m, none⟩ (.int .i64 ((k : Int) + 1))).drew := ⟨_, rfl⟩
  rw [← eW3]
  have G3 : Hid (AF W3 base P mS mb hv { rc g cW with most := up g.most m (k + 1) } ∧ KpL w W3 (fpA P mS g.n mb hv) ∧ Below base w W3 ∧ W3.rowIs w.heap.size 41 2 (svA 0 0)) := by
    have q := G2.out.setLast HG.out.2.2.2.2.1 (k + 1)
    rw [show ((k + 1 : Nat) : Int) = (k : Int) + 1 by omega] at q
    have e : W3.heap = (w2.setCell ⟨P, 2 + m, none⟩ (.int .i64 ((k : Int) + 1))).heap := by rw [eW3]; rfl
    have hP : w.heap.size ≠ P := by have := HG.out.1.lt; omega
    refine ⟨q.heap e, kp_heapA (kp_trans (KpL.below B2.out _) (kp_set w2 _ _ P_fp)) e, ?_, World.rowIs.of_block R2.out ?_⟩
    · rw [eW3]
      exact ((B2.out.mono HG.out.2.2.2.2.2.1).setCell (p := ⟨P, 2 + m, none⟩) HG.out.1.low.1 _).drew
    · rw [e]
      exact Deep.blk_setCell_other _ _ _ _ hP
  have c3 : W3.cell? ⟨P, 2 + m, none⟩ = some (.int .i64 ((k : Int) + 1)) := by
    have q := G3.out.1.cl HG.out.2.2.2.2.1
    have e : up g.most m (k + 1) m = k + 1 := up_same _ _ _
    have q' : W3.cell? ⟨P, 2 + m, none⟩ = some (.int .i64 ((up g.most m (k + 1) m : Nat) : Int)) := q
    rw [e] at q'
    rw [q', show ((k + 1 : Nat) : Int) = (k : Int) + 1 by omega]
  clear c0 z0 eW3
  obtain ⟨W4, eW4⟩ : ∃ W4, W4 = W3.alloc (.cells #[.int .i64 ((k : Int) + 1), .int .i64 (m : Int)] 41) := ⟨_, rfl⟩
  have B4 : Hid (Below W3.heap.size W3 W4 ∧ W4.rowIs W3.heap.size 41 2 (svA ((k : Int) + 1) (m : Int))) := by rw [eW4]; exact ⟨(Below.refl _ _).alloc (Nat.le_refl _) _, svA_new W3 _ _⟩
  have G4 : Hid (AF W4 base P mS mb hv { rc g cW with most := up g.most m (k + 1) }) := G3.out.1.later B4.out.1
  go_wp2_with fail
  rw [← eW4]
  have c4 := G4.out.cw HG.out.2.2.1
  have p0 : W4.cell? ⟨W3.heap.size, 0, none⟩ = some (.int .i64 ((k : Int) + 1)) := World.rowIs.cell B4.out.2 (i := 0) (by omega)
  have p1 : W4.cell? ⟨W3.heap.size, 1, none⟩ = some (.int .i64 (m : Int)) := World.rowIs.cell B4.out.2 (i := 1) (by omega)
  obtain ⟨W5, e5, m5, t5⟩ := ((G4.out.heap (w' := W4.drew) rfl).wait m HG.out.2.2.1).put Try.underlying57 (i := (v : Int)) (wfI (by have := HG.out.2.2.2.1; omega) (by have := HG.out.2.2.2.1; omega)) (.agg #[.int .i64 ((k : Int) + 1), .int .i64 (m : Int), .bool false]) (by have := HG.out.2.2.2.2.2.2.2; have := HK.out; show cW m < _; omega)
  have hwt : TW g m (v : Int) = none := TW_not (by
    rw [Bool.eq_false_iff]
    intro q
    exact (wts_iff.1 q).1 HG.out.2.2.2.2.2.2.1)
  have G5 : Hid (AF W5 base P mS mb hv { rc (give g m v) (up cW m (cW m + 1)) with S := TS g } ∧ KpL w W5 (fpA P mS g.n mb hv) ∧ Below base w W5 ∧ W5.rowIs w.heap.size 41 2 (svA 0 0) ∧ W5.rowIs W3.heap.size 41 2 (svA ((k : Int) + 1) (m : Int)) ∧ w.heap.size < W3.heap.size) := by
    have q := (G4.out.heap (w' := W4.drew) rfl).turnW HG.out.2.2.1 m5 t5
    have hq : (rc g cW).W m (v : Int) = none := hwt
    have k4 : KpL w W4 (fpA P mS g.n mb hv) := kp_trans G3.out.2.1 (KpL.below B4.out.1 _)
    have sz : W3.heap.size ≤ W4.heap.size := B4.out.1.size
    have l3 : w.heap.size < W3.heap.size := World.rowIs.lt G3.out.2.2.2
    have l4 : W3.heap.size < W4.heap.size := World.rowIs.lt B4.out.2
    have mbl : mb m < w.heap.size := (HG.out.1.wait m HG.out.2.2.1).lt
    have bl : ∀ b, b < W4.heap.size → b ≠ mb m → W5.heap[b]? = W4.heap[b]? := fun b hb hne => g_of_turned (w := W4.drew) t5 hb hne
    refine ⟨q.congr rfl (fun i => rfl) rfl (fun j hj i => ?_) (fun j hj => ?_) (fun j hj => ?_) (fun j hj => rfl), kp_trans k4 (kp_trans (kp_heapA (kp_refl W4 _) (w3 := W4.drew) rfl) (kp_turned t5 (W_fp HG.out.2.2.1))), ?_, World.rowIs.of_block (row_later G3.out.2.2.2 B4.out.1) (bl _ (by omega) (by omega)), World.rowIs.of_block B4.out.2 (bl _ l4 (by omega)), l3⟩
    · show TW (give g m v) j i = up (TW g) m (putT (TW g m) (v : Int) _) j i
      by_cases e : j = m
      · subst e
        rw [up_same, TW_give HG.out.2.1 HG.out.2.2.1 HG.out.2.2.2.2.2.2.1, ← HK.out]
        rfl
      · rw [up_other _ _ e, TW_give_other HG.out.2.1 HG.out.2.2.1 HG.out.2.2.2.2.2.2.1 e]
    · show up cW m (cW m + 1) j = up cW m _ j
      rw [hq]
      rfl
    · show (if j = m then g.most m + 1 else g.most j) = up g.most m (k + 1) j
      rw [HK.out]
      rfl
    · exact (((G3.out.2.2.1.trans (B4.out.1.mono (by have := HG.out.2.2.2.2.2.1; omega))).drew)).trans (turned_below t5 (HG.out.1.low.2.2 m HG.out.2.2.1))
  clear eW4 c3 m5 t5 hwt
  go_wp2_with fail
  go_region
  have hwas : g.was v = true := by
    have q := HC.out.1
    unfold chkC at q
    split at q
    · omega
    · split at q
      · rename_i z; simpa using z
      · omega
  have HW : Hid ((Lit.int .i64 (v : Int)).wf = true ∧ TS g (v : Int) = (some (mx g v)).map stV ∧ g.was v = true) := ⟨wfI (by have := HG.out.2.2.2.1; omega) (by have := HG.out.2.2.2.1; omega), TS_at hwas, hwas⟩
  obtain ⟨a, ea⟩ : ∃ a : Int, a = ((mx g v).1 : Int) := ⟨_, rfl⟩
  obtain ⟨b, eb⟩ : ∃ b : Int, b = ((mx g v).2 : Int) := ⟨_, rfl⟩
  obtain ⟨cv, ecv⟩ : ∃ cv : Int, cv = orA (cmpA ((k : Int) + 1) a) (cmpA (m : Int) b) := ⟨_, rfl⟩
  have ECV : Hid (cv = orA (cmpA ((k : Int) + 1) a) (cmpA (m : Int) b) ∧ decide (cv > 0) = les (mx g v) (g.most m + 1, m)) := by
    refine ⟨ecv, ?_⟩
    rw [← cmS_gt (g.most m + 1, m) (mx g v), ecv, ea, eb, ← HK.out]
    rfl
  have HS : Hid (∀ X : World, Below W5.heap.size W5 X → ∀ w' : World, w'.heap = X.heap → w'.cell? ⟨W3.heap.size, 0, none⟩ = some (.int .i64 ((k : Int) + 1)) ∧ w'.cell? ⟨W3.heap.size, 1, none⟩ = some (.int .i64 (m : Int)) ∧ w'.cell? ⟨P, 1, none⟩ = some (.map (some mS)) ∧ (Instr.lookup 55 (.map (some mS)) (.int .i64 (v : Int)) false).run Try.prog w' = .ok (.agg #[.int .i64 a, .int .i64 b]) w') := by
    intro X hX w' h
    have rX := row_later G5.out.2.2.2.2.1 hX
    have gX := G5.out.1.later hX
    refine ⟨(c_heap h _).trans (World.rowIs.cell rX (i := 0) (by omega)), (c_heap h _).trans (World.rowIs.cell rX (i := 1) (by omega)), (c_heap h _).trans gX.c1, ?_⟩
    have q := gX.lkS1 HW.out.1 HW.out.2.1 w' (by rw [h])
    rw [ea, eb]
    exact q
  clear ea eb ecv c4 p0 p1 e5 hwas
  by_cases hpos : cv > 0
  · have HL : Hid (les (mx g v) (g.most m + 1, m) = true) := by rw [← ECV.out.2]; exact decide_eq_true hpos
    go_wp2_with fail
    go_region_held3 (fun w' => w'.cell? ⟨W3.heap.size, 0, none⟩ = some (.int .i64 ((k : Int) + 1)) ∧ w'.cell? ⟨W3.heap.size, 1, none⟩ = some (.int .i64 (m : Int)) ∧ w'.cell? ⟨P, 1, none⟩ = some (.map (some mS)) ∧ (Instr.lookup 55 (.map (some mS)) (.int .i64 (v : Int)) false).run Try.prog w' = .ok (.agg #[.int .i64 a, .int .i64 b]) w') (first | exact HS.out _ B6.out _ rfl | exact HS.out _ (Below.refl _ _) _ rfl) (first
      | (go_at_call 25; refine (cmpZ_any ((k : Int) + 1) (m : Int) a b _).mono ?_; rintro e6 w6 ⟨rfl, hb⟩; rw [← ECV.out.1]; have B6 : Hid (Below W5.heap.size W5 w6) := below_sameA hb rfl rfl rfl rfl; clear hb))
    try go_frame
    obtain ⟨p0, p1, c4, -⟩ := HS.out w6 B6.out w6 rfl
    have G6 : Hid (AF w6 base P mS mb hv { rc (give g m v) (up cW m (cW m + 1)) with S := TS g }) := G5.out.1.later B6.out
    obtain ⟨W7, e7, m7, t7⟩ := (G6.out.heap (w' := w6.drew) rfl).said.put Try.underlying55 HW.out.1 (.agg #[.int .i64 ((k : Int) + 1), .int .i64 (m : Int)]) (by have := cnt_leA (give g m v) 30; show cnt (give g m v) 30 < _; omega)
    go_wp2_with fail
    go_region
    have G7 : Hid (AF W7 base P mS mb hv (rc (give g m v) (up cW m (cW m + 1))) ∧ KpL w W7 (fpA P mS g.n mb hv) ∧ Below base w W7 ∧ W7.rowIs w.heap.size 41 2 (svA 0 0) ∧ W7.rowIs W3.heap.size 41 2 (svA ((k : Int) + 1) (m : Int))) := by
      have q := (G6.out.heap (w' := w6.drew) rfl).turnS m7 t7
      have l3 := G5.out.2.2.2.2.2
      have l5 : W3.heap.size < W5.heap.size := World.rowIs.lt G5.out.2.2.2.2.1
      have l6 := B6.out.size
      have sl : mS < w.heap.size := HG.out.1.said.lt
      have bl : ∀ b, b < w6.heap.size → b ≠ mS → W7.heap[b]? = w6.heap[b]? := fun b hb hne => g_of_turned (w := w6.drew) t7 hb hne
      refine ⟨q.congr rfl (fun i => ?_) ?_ (fun j hj i => rfl) (fun j hj => rfl) (fun j hj => rfl) (fun j hj => rfl), kp_trans G5.out.2.1 (kp_trans (KpL.below B6.out _) (kp_trans (kp_heapA (kp_refl w6 _) (w3 := w6.drew) rfl) (kp_turned t7 S_fp))), ?_, World.rowIs.of_block (row_later G5.out.2.2.2.1 B6.out) (bl _ (by omega) (by omega)), World.rowIs.of_block (row_later G5.out.2.2.2.2.1 B6.out) (bl _ (by omega) (by omega))⟩
      · show TS (give g m v) i = putT (TS g) (v : Int) _ i
        rw [TS_give HG.out.2.2.1 HW.out.2.2 HG.out.2.2.2.2.2.2.1, if_pos HL.out, ← HK.out]
        rfl
      · show cnt (give g m v) 30 = if (TS g (v : Int)).isSome = true then cnt (give g m v) 30 else _
        rw [HW.out.2.1]
        rfl
      · exact (((G5.out.2.2.1.trans (B6.out.mono (by have := HG.out.2.2.2.2.2.1; omega))).drew)).trans (turned_below t7 HG.out.1.low.2.1)
    have p0 : W7.cell? ⟨W3.heap.size, 0, none⟩ = some (.int .i64 ((k : Int) + 1)) := World.rowIs.cell G7.out.2.2.2.2 (i := 0) (by omega)
    have p1 : W7.cell? ⟨W3.heap.size, 1, none⟩ = some (.int .i64 (m : Int)) := World.rowIs.cell G7.out.2.2.2.2 (i := 1) (by omega)
    clear m7 t7 e7 c4
    have q0 : W7.cell? ⟨w.heap.size, 0, none⟩ = some (.int .i64 0) := World.rowIs.cell G7.out.2.2.2.1 (i := 0) (by omega)
    have q1 : W7.cell? ⟨w.heap.size, 1, none⟩ = some (.int .i64 0) := World.rowIs.cell G7.out.2.2.2.1 (i := 1) (by omega)
    have f0 := World.rowIs.frozen G7.out.2.2.2.1 0
    have f1 := World.rowIs.frozen G7.out.2.2.2.1 1
    go_wp2
    have r3 := (World.rowIs.set G7.out.2.2.2.1 0 (.int .i64 ((k : Int) + 1))).set 1 (.int .i64 (m : Int))
    have u0 := r3.cell (i := 0) (by omega)
    have u1 := r3.cell (i := 1) (by omega)
    simp at u0 u1
    refine bodyPost_ret (v := .tuple #[.agg #[.int .i64 ((k : Int) + 1), .int .i64 (m : Int)], .nilIface]) (retS (B := w.heap.size) rfl rfl rfl u0 u1) rfl ?_
    exact ⟨rfl, G7.out.1.of_blocks fun z hz => two_set (fun e => by have := (HG.out.1.fp z hz).2; omega) _ _, (G7.out.2.2.1.setCell (p := ⟨w.heap.size, 0, none⟩) HG.out.2.2.2.2.2.1 _).setCell (p := ⟨w.heap.size, 1, none⟩) HG.out.2.2.2.2.2.1 _, kp_two G7.out.2.1 _ _⟩
  · have HL : Hid (les (mx g v) (g.most m + 1, m) = false) := by rw [← ECV.out.2]; exact decide_eq_false hpos
    go_wp2_with fail
    go_region_held3 (fun w' => w'.cell? ⟨W3.heap.size, 0, none⟩ = some (.int .i64 ((k : Int) + 1)) ∧ w'.cell? ⟨W3.heap.size, 1, none⟩ = some (.int .i64 (m : Int)) ∧ w'.cell? ⟨P, 1, none⟩ = some (.map (some mS)) ∧ (Instr.lookup 55 (.map (some mS)) (.int .i64 (v : Int)) false).run Try.prog w' = .ok (.agg #[.int .i64 a, .int .i64 b]) w') (first | exact HS.out _ B6.out _ rfl | exact HS.out _ (Below.refl _ _) _ rfl) (first
      | (go_at_call 25; refine (cmpZ_any ((k : Int) + 1) (m : Int) a b _).mono ?_; rintro e6 w6 ⟨rfl, hb⟩; rw [← ECV.out.1]; have B6 : Hid (Below W5.heap.size W5 w6) := below_sameA hb rfl rfl rfl rfl; clear hb))
    try go_frame
    obtain ⟨p0, p1, c4, -⟩ := HS.out w6 B6.out w6 rfl
    have G7 : Hid (AF w6 base P mS mb hv (rc (give g m v) (up cW m (cW m + 1))) ∧ KpL w w6 (fpA P mS g.n mb hv) ∧ Below base w w6 ∧ w6.rowIs w.heap.size 41 2 (svA 0 0) ∧ w6.rowIs W3.heap.size 41 2 (svA ((k : Int) + 1) (m : Int))) := by
      have q := G5.out.1.later B6.out
      have l3 := G5.out.2.2.2.2.2
      have l5 : W3.heap.size < W5.heap.size := World.rowIs.lt G5.out.2.2.2.2.1
      refine ⟨q.congr rfl (fun i => ?_) rfl (fun j hj i => rfl) (fun j hj => rfl) (fun j hj => rfl) (fun j hj => rfl), kp_trans G5.out.2.1 (KpL.below B6.out _), G5.out.2.2.1.trans (B6.out.mono (by have := HG.out.2.2.2.2.2.1; omega)), row_later G5.out.2.2.2.1 B6.out, row_later G5.out.2.2.2.2.1 B6.out⟩
      show TS (give g m v) i = TS g i
      rw [TS_give HG.out.2.2.1 HW.out.2.2 HG.out.2.2.2.2.2.2.1, HL.out, if_neg (by decide)]
    clear c4
    have q0 : w6.cell? ⟨w.heap.size, 0, none⟩ = some (.int .i64 0) := World.rowIs.cell G7.out.2.2.2.1 (i := 0) (by omega)
    have q1 : w6.cell? ⟨w.heap.size, 1, none⟩ = some (.int .i64 0) := World.rowIs.cell G7.out.2.2.2.1 (i := 1) (by omega)
    have f0 := World.rowIs.frozen G7.out.2.2.2.1 0
    have f1 := World.rowIs.frozen G7.out.2.2.2.1 1
    go_wp2
    have r3 := (World.rowIs.set G7.out.2.2.2.1 0 (.int .i64 ((k : Int) + 1))).set 1 (.int .i64 (m : Int))
    have u0 := r3.cell (i := 0) (by omega)
    have u1 := r3.cell (i := 1) (by omega)
    simp at u0 u1
    refine bodyPost_ret (v := .tuple #[.agg #[.int .i64 ((k : Int) + 1), .int .i64 (m : Int)], .nilIface]) (retS (B := w.heap.size) rfl rfl rfl u0 u1) rfl ?_
    exact ⟨rfl, G7.out.1.of_blocks fun z hz => two_set (fun e => by have := (HG.out.1.fp z hz).2; omega) _ _, (G7.out.2.2.1.setCell (p := ⟨w.heap.size, 0, none⟩) HG.out.2.2.2.2.2.1 _).setCell (p := ⟨w.heap.size, 1, none⟩) HG.out.2.2.2.2.2.1 _, kp_two G7.out.2.1 _ _⟩
theorem proA (base P : Nat) (g : G) (fp : List Nat) (who word : Int) (w : World) (h : AS w base P g fp) (hi : Inv g) (hM : ∀ m, g.most m ≤ 10000) (hbw : base ≤ w.heap.size) : Calls Try.prog 10 #[.pointer (some ⟨P, 0, none⟩), .int .i64 who, .int .i64 word] w fun x w' => ∃ fp', x = .returned (.tuple #[.agg #[.int .i64 ((proS g who word).1 : Int), .int .i64 ((proS g who word).2 : Int)], errF (proC g who word)]) ∧ AS w' base P (pro g who word) fp' ∧ Below base w w' ∧ KpL w w' fp ∧ NewL w fp fp' := by
  obtain ⟨mS, mb, hv, cW, rfl, h, hcw⟩ := h
  by_cases hc : chkC g who word = 0
  · have hr : (0 ≤ who ∧ who < (g.n : Int)) ∧ (1 ≤ word ∧ word ≤ 30) := by
      unfold chkC at hc
      split at hc <;> omega
    obtain ⟨m, rfl⟩ : ∃ m : Nat, who = (m : Int) := ⟨who.toNat, by omega⟩
    obtain ⟨v, rfl⟩ : ∃ v : Nat, word = (v : Int) := ⟨word.toNat, by omega⟩
    by_cases hg : g.gv v m = 0
    · have e0 : proC g (m : Int) (v : Int) = 0 := by
        unfold proC
        rw [if_neg (fun q => q hc), Int.toNat_natCast, Int.toNat_natCast, if_neg (fun q => q hg)]
      have e1 : proS g (m : Int) (v : Int) = (g.most m + 1, m) := by
        unfold proS
        rw [if_pos e0, Int.toNat_natCast]
      have e2 : pro g (m : Int) (v : Int) = give g m v := by
        unfold pro
        rw [if_pos e0, Int.toNat_natCast, Int.toNat_natCast]
      rw [e0, e1, e2, errF_ok]
      refine (pro_okA h hi.toInv0 hcw hbw m v (by omega) (by omega) hc hg (hM m)).mono ?_
      rintro x w' ⟨rfl, h', hb, hk⟩
      refine ⟨_, rfl, ⟨mS, mb, hv, _, rfl, h', fun i hi => ?_⟩, hb, hk, NewL.refl _ _⟩
      show up cW m (cW m + 1) i ≤ if i = m then g.most m + 1 else g.most i
      by_cases e : i = m
      · rw [e, up_same, if_pos rfl]
        have := hcw m (by omega)
        omega
      · rw [up_other _ _ e, if_neg e]
        exact hcw i hi
    · have e0 : proC g (m : Int) (v : Int) = 7 := by
        unfold proC
        rw [if_neg (fun q => q hc), Int.toNat_natCast, Int.toNat_natCast, if_pos hg]
      have e1 : proS g (m : Int) (v : Int) = (0, 0) := by
        unfold proS
        rw [if_neg (by rw [e0]; decide)]
      have e2 : pro g (m : Int) (v : Int) = g := by
        unfold pro
        rw [if_neg (by rw [e0]; decide)]
      rw [e0, e1, e2]
      refine (pro_gave h hi.toInv0 m v (by omega) (by omega) hc hg).mono ?_
      rintro x w' ⟨rfl, hb⟩
      exact ⟨_, rfl, ⟨mS, mb, hv, cW, rfl, h.later hb, hcw⟩, hb.mono hbw, KpL.below hb _, NewL.refl _ _⟩
  · have e0 : proC g who word = chkC g who word := by
      unfold proC
      rw [if_pos hc]
    have e1 : proS g who word = (0, 0) := by
      unfold proS
      rw [if_neg (by rw [e0]; exact hc)]
    have e2 : pro g who word = g := by
      unfold pro
      rw [if_neg (by rw [e0]; exact hc)]
    rw [e0, e1, e2]
    refine (pro_chk h who word hc).mono ?_
    rintro x w' ⟨rfl, hb⟩
    exact ⟨_, rfl, ⟨mS, mb, hv, cW, rfl, h.later hb, hcw⟩, hb.mono hbw, KpL.below hb _, NewL.refl _ _⟩
end Go.Proofs.Ytcccheeeagphpag.Agr
