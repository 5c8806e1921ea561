/-
  Contract of package cause's firstReady: of those that wait and are ready the one that came first, whichever way the map is gone through.
-/
import Derived.Test.YtndjejbnappmeadDoorCapT
namespace Go.Proofs.YtndjejbnappmeadDoor.Cap
open Go.RowKit Go.Maps
open Go.Proofs.YtndjejbnappmeadDoor.Cau
open Go.Proofs.YtndjejbnappmeadDoor.Vec (code Vw anyP ret_bool)
open Go.Proofs.YtndjejbnappmeadDoor.Fif (own_lt own_block own_mono own_vw own_form Kp info_int)
set_option linter.unusedVariables false
variable {base P mb : Nat} {me : Int} {K : List Int} {cn : Int} {es : List En}

def pv (a b : Int) (j : Nat) : Value := if j = 0 then .int .i64 a else .int .i64 b
/-- as far as it goes -/
def FR (w : World) (mb : Nat) (K : List Int) (es : List En) (D : DataW Value) (wr : World) (a b : Int) (found : Bool) (left : Lit → Bool) (cnt : Nat) : Prop :=
  wr.ranges Tryd.prog 62 RV mb (w.heap.size + 2) es.length D left cnt ∧ Below w.heap.size w wr ∧ wr.rowIs w.heap.size 62 2 (pv 0 0) ∧ wr.rowIs (w.heap.size + 1) 62 2 (pv a b) ∧ FM K es left (.agg #[.int .i64 a, .int .i64 b]) found ∧ w.heap.size + 2 < wr.heap.size
theorem pv_new (w : World) (a b : Int) : (w.alloc (.cells #[.int .i64 a, .int .i64 b] 62)).rowIs w.heap.size 62 2 (pv a b) :=
  World.rowIs_alloc w #[.int .i64 a, .int .i64 b] 62 (pv a b) (fun i hi => by rcases i with _ | _ | i <;> first | rfl | (exfalso; have : _ < 2 := hi; omega))
theorem below_same {w w1 w2 : World} (h : Below w1.heap.size w1 w2) (e : w1.heap = w.heap) (e1 : w1.os = w.os) (e2 : w1.tape = w.tape) (e3 : w1.output = w.output) : Below w.heap.size w w2 := by
  rw [e] at h
  exact ⟨h.os.trans e1, h.tape.trans e2, h.output.trans e3, by have := h.size; rw [e] at this; exact this, fun k hk => by rw [h.block k hk, e]⟩
theorem retF {fn : Func} {tmps : Array Value} {w : World} {p u : Tmp} {B : Nat} {v0 v1 x : Value} (h : fn.results = #[.cell p 62, .tmp u]) (hp : tmps.getD p undef = .pointer (some ⟨B, 0, none⟩)) (hu : tmps.getD u undef = x)
    (y0 : w.cell? ⟨B, 0, none⟩ = some v0) (y1 : w.cell? ⟨B, 1, none⟩ = some v1) : (results fn tmps).run Tryd.prog w = .ok (.tuple #[.agg #[v0, v1], x]) w := by
  rw [results_cell_tmp h, hp, hu]
  simp [asAddr, go_sem, y0, y1]
theorem take_at {P : Program} {ops : Array Oper} {Q : Exit → Act → World → Prop} {md : Region.Mode} {i : Nat} (d : Nat) {oi : Oper} {v : Value} {fuel : Nat} {listed : Array Bool} {a : Act} {w : World} (hi : ops[i]? = some oi) (hd : oi.dst = some d)
    (hs : Region.noSelect ops = true) (hf : Region.free md ops listed i = true) (hr : (Region.ready md ops listed).contains i = true)
    (hQ : ∀ c a w, Q (.panic c) (a.put (some d) v) w → Q (.panic c) a w) (hy : Yields P ops oi v a)
    (h : wpAny P md ops Q fuel (listed.setIfInBounds i true) (a.put (some d) v) w) : wpAny P md ops Q (fuel + 1) listed a w :=
  wpAny_take hi hs hf hr (by rw [hd]; exact hQ) hy (by rw [hd]; exact h)
theorem fld_t (t k x : Int) (v : Value) (X : World) : (Instr.field 60 (.agg #[.int .i64 t, .int .i64 k, .int .i64 x, v]) 0).run Tryd.prog X = .ok (.int .i64 t) X := by kernel_rfl
theorem fld_s (t k x : Int) (v : Value) (X : World) : (Instr.field 60 (.agg #[.int .i64 t, .int .i64 k, .int .i64 x, v]) 1).run Tryd.prog X = .ok (.agg #[.int .i64 k, .int .i64 x, v]) X := by kernel_rfl
theorem fld_w (k x : Int) (v : Value) (X : World) : (Instr.field 35 (.agg #[.int .i64 k, .int .i64 x, v]) 1).run Tryd.prog X = .ok (.int .i64 x) X := by kernel_rfl
theorem ranges_blocks {w w' : World} {b r n : Nat} {D : DataW Value} {left : Lit → Bool} {cnt : Nat} (h : w.ranges Tryd.prog 62 RV b r n D left cnt) (h1 : w'.heap[b]? = w.heap[b]?) (h2 : w'.heap[r]? = w.heap[r]?) : w'.ranges Tryd.prog 62 RV b r n D left cnt := by
  obtain ⟨es, clock, since, seen, c0, hb, F, hs, hD, hr, rest⟩ := h
  exact ⟨es, clock, since, seen, c0, by rw [h1]; exact hb, F, hs, hD, by rw [h2]; exact hr, rest⟩
theorem fr_close {w W w9 : World} {mb : Nat} {K : List Int} {es : List En} {D : DataW Value} {a b : Int} {found : Bool} {left : Lit → Bool} {cnt : Nat} (hB : Below w.heap.size w W) (hS : W.rowIs (w.heap.size + 1) 62 2 (pv a b)) (hR : W.rowIs w.heap.size 62 2 (pv 0 0)) (hrg : W.ranges Tryd.prog 62 RV mb (w.heap.size + 2) es.length D left cnt)
    (h9 : Below W.heap.size W w9) (hM : FM K es left (.agg #[.int .i64 a, .int .i64 b]) found) : FR w mb K es D w9 a b found left cnt ∧ w9.rangeLeft mb (w.heap.size + 2) = cnt := by
  have h2 := hrg.lt
  have hrg9 := ranges_blocks hrg (h9.block mb hrg.owns.lt) (h9.block _ h2)
  exact ⟨⟨hrg9, hB.trans (h9.mono hB.size), World.rowIs.of_block hR (h9.block _ (by omega)), World.rowIs.of_block hS (h9.block _ (by omega)), hM, Nat.lt_of_lt_of_le h2 h9.size⟩, hrg9.left_eq⟩
theorem fr_store {w W w9 : World} {mb : Nat} {K : List Int} {es : List En} {D : DataW Value} {a b m n : Int} {left : Lit → Bool} {cnt : Nat} (hB : Below w.heap.size w W) (hS : W.rowIs (w.heap.size + 1) 62 2 (pv a b)) (hR : W.rowIs w.heap.size 62 2 (pv 0 0)) (hrg : W.ranges Tryd.prog 62 RV mb (w.heap.size + 2) es.length D left cnt)
    (h9 : Below W.heap.size W w9) (hmb : mb < w.heap.size) (hM : FM K es left (.agg #[.int .i64 m, .int .i64 n]) true) :
    FR w mb K es D ((w9.setCell ⟨w.heap.size + 1, 0, none⟩ (.int .i64 m)).setCell ⟨w.heap.size + 1, 1, none⟩ (.int .i64 n)) m n true left cnt ∧ ((w9.setCell ⟨w.heap.size + 1, 0, none⟩ (.int .i64 m)).setCell ⟨w.heap.size + 1, 1, none⟩ (.int .i64 n)).rangeLeft mb (w.heap.size + 2) = cnt := by
  have h2 := hrg.lt
  have hrg9 := ranges_blocks hrg (h9.block mb hrg.owns.lt) (h9.block _ h2)
  have hR9 := World.rowIs.of_block hR (h9.block _ (by omega))
  have hS9 := World.rowIs.of_block hS (h9.block _ (by omega))
  have bl : ∀ k, k ≠ w.heap.size + 1 → ((w9.setCell ⟨w.heap.size + 1, 0, none⟩ (.int .i64 m)).setCell ⟨w.heap.size + 1, 1, none⟩ (.int .i64 n)).heap[k]? = w9.heap[k]? := by
    intro k hk
    rw [Deep.blk_setCell_other _ _ _ _ hk, Deep.blk_setCell_other _ _ _ _ hk]
  have hrgX := ranges_blocks hrg9 (bl mb (by omega)) (bl _ (by omega))
  refine ⟨⟨hrgX, ((hB.trans (h9.mono hB.size)).setCell (p := ⟨w.heap.size + 1, 0, none⟩) (Nat.le_succ _) _).setCell (p := ⟨w.heap.size + 1, 1, none⟩) (Nat.le_succ _) _, World.rowIs.of_block hR9 (bl _ (by omega)), ((World.rowIs.set hS9 0 _).set 1 _).congr fun j hj => ?_, hM, hrgX.lt⟩, hrgX.left_eq⟩
  rcases j with _ | _ | j
  · rfl
  · rfl
  · omega
theorem c_heap {w X : World} (e : X.heap = w.heap) (a : Addr) : X.cell? a = w.cell? a := World.cell?_of_block (by rw [e])
theorem new2 (w W : World) (a n t x : Int) (g c : Nat) (e : W = (w.alloc (.cells #[.int .i64 a, .int .i64 n] 62)).alloc (.cells #[.int .i64 t, .int .i64 a, .int .i64 x, .slice (some ⟨g, 0, none⟩) 5 c] 60)) :
    W.cell? ⟨w.heap.size, 0, none⟩ = some (.int .i64 a) ∧ W.cell? ⟨w.heap.size, 1, none⟩ = some (.int .i64 n) ∧ W.cell? ⟨w.heap.size + 1, 0, none⟩ = some (.int .i64 t) ∧ W.cell? ⟨w.heap.size + 1, 1, none⟩ = some (.int .i64 a) ∧ W.cell? ⟨w.heap.size + 1, 2, none⟩ = some (.int .i64 x) ∧ W.cell? ⟨w.heap.size + 1, 3, none⟩ = some (.slice (some ⟨g, 0, none⟩) 5 c) := by
  subst e
  refine ⟨?_, ?_, ?_, ?_, ?_, ?_⟩ <;> go_cell
set_option maxRecDepth 100000 in
set_option maxHeartbeats 1000000 in
theorem first_any (w : World) (g : CF w base P mb me K cn es) :
    Calls Tryd.prog 30 #[.pointer (some ⟨P, 0, none⟩)] w fun x w' => ∃ (a b : Int) (more : Bool), x = .returned (.tuple #[.agg #[.int .i64 a, .int .i64 b], .bool more]) ∧ Below w.heap.size w w' ∧
      ((more = true ∧ ∃ i, ∃ hi : i < es.length, .agg #[.int .i64 a, .int .i64 b] = es[i].at ∧ rdy K es[i].s = true ∧ (es.map En.s).findIdx? (rdy K) = some i) ∨ (more = false ∧ (es.map En.s).findIdx? (rdy K) = none)) := by
  obtain ⟨D, hD, vD⟩ := g.map
  have HD : Hid (MW D es) := vD
  have HG : Hid (CF w base P mb me K cn es) := g
  obtain ⟨W, eW⟩ : ∃ W, W = (w.alloc (.cells #[.int .i64 0, .int .i64 0] 62)).alloc (.cells #[.int .i64 0, .int .i64 0] 62) := ⟨_, rfl⟩
  have BW : Hid (Below w.heap.size w W ∧ W.heap.size = w.heap.size + 2) := ⟨by rw [eW]; exact ((Below.refl _ _).alloc (Nat.le_refl _) _).alloc (by simp) _, by rw [eW]; simp⟩
  have R0 : Hid (W.rowIs w.heap.size 62 2 (pv 0 0) ∧ W.rowIs (w.heap.size + 1) 62 2 (pv 0 0)) := by
    have q1 := pv_new w 0 0
    have q2 := pv_new (w.alloc (.cells #[.int .i64 0, .int .i64 0] 62)) 0 0
    rw [eW]
    refine ⟨World.rowIs.of_block q1 (Below.heap_alloc _ _ _ (by simp)), ?_⟩
    simpa using q2
  have hown : W.ownsMap Tryd.prog 62 RV mb es.length D := own_heap hD (BW.out.1.block mb g.lt.2)
  have c7 := (g.later BW.out.1).wait.1
  rw [eW] at c7 hown
  have EW : Hid (W = (w.alloc (.cells #[.int .i64 0, .int .i64 0] 62)).alloc (.cells #[.int .i64 0, .int .i64 0] 62)) := eW
  have HO : Hid (((w.alloc (.cells #[.int .i64 0, .int .i64 0] 62)).alloc (.cells #[.int .i64 0, .int .i64 0] 62)).ownsMap Tryd.prog 62 RV mb es.length D) := hown
  clear hD vD g hown eW
  go_enter Tryd.func30, Tryd.ntmps30
  go_wp2_with (first | (at_range; refine wpList_range_own _ rfl _ 51 rfl 62 60 law Tryd.underlying51 _ mb es.length D rfl HO.out ?_; intro w0 hrg0 hg0 hs0) | go_in)
  rw [← EW.out] at hrg0 hg0 hs0
  rw [← EW.out]
  rw [BW.out.2] at hrg0 ⊢
  have F0 : Hid (FR w mb K es D w0 0 0 false (Maps.has D) (Maps.size D)) := by
    refine ⟨hrg0, ?_, World.rowIs.of_block R0.out.1 (hg0.block _ (by have := BW.out.2; omega) (by simp)), World.rowIs.of_block R0.out.2 (hg0.block _ (by have := BW.out.2; omega) (by simp)), ?_, by have := BW.out.2; omega⟩
    · exact BW.out.1.grown hg0 BW.out.1.size (by simp)
    · refine .inl ⟨rfl, fun e he q => ?_⟩
      rw [(HD.out.has _).2 ⟨e, he, rfl⟩] at q
      cases q
  clear hrg0 hg0 hs0 c7 EW HO
  go_frame
  go_loopw [5] (fun x wr => ∃ (a b : Int) (found : Bool) (left : Lit → Bool) (cnt : Nat), x = .bool found ∧ Hid (FR w mb K es D wr a b found left cnt)) (fun _ wr => wr.rangeLeft mb (w.heap.size + 2))
  case atStart => exact ⟨0, 0, false, _, _, rfl, F0⟩
  case round =>
    obtain ⟨a, b, found, left, cnt, rfl, hF⟩ := hrel
    obtain ⟨hrg, hB, hR, hS, hM, hsz⟩ := hF.out
    rcases next_cases hrg HD.out HG.out.ok 0 with ⟨h0, hl, hrun⟩ | ⟨e, he, hle, w1, cnt1, hrun, hrg1, hlt, hg1, hs1, hen⟩
    · have y0 : wr.cell? ⟨w.heap.size + 1, 0, none⟩ = some (.int .i64 a) := World.rowIs.cell hS (i := 0) (by omega)
      have y1 : wr.cell? ⟨w.heap.size + 1, 1, none⟩ = some (.int .i64 b) := World.rowIs.cell hS (i := 1) (by omega)
      have x0 : wr.cell? ⟨w.heap.size, 0, none⟩ = some (.int .i64 0) := World.rowIs.cell hR (i := 0) (by omega)
      have x1 : wr.cell? ⟨w.heap.size, 1, none⟩ = some (.int .i64 0) := World.rowIs.cell hR (i := 1) (by omega)
      have f0 := World.rowIs.frozen hR 0
      have f1 := World.rowIs.frozen hR 1
      have HH : Hid (wr.rowIs w.heap.size 62 2 (pv 0 0) ∧ Below w.heap.size w wr ∧ FM K es left (.agg #[.int .i64 a, .int .i64 b]) found ∧ ∀ k, left k = false) := ⟨hR, hB, hM, hl⟩
      clear hrg hB hR hS hM hl hF h0
      go_wp2
      have r3 := (World.rowIs.set HH.out.1 0 (.int .i64 a)).set 1 (.int .i64 b)
      have u0 := r3.cell (i := 0) (by omega)
      have u1 := r3.cell (i := 1) (by omega)
      simp at u0 u1
      refine bodyPost_ret (v := .tuple #[.agg #[.int .i64 a, .int .i64 b], .bool found]) (retF (B := w.heap.size) rfl rfl rfl u0 u1) rfl ?_
      refine ⟨a, b, found, rfl, (HH.out.2.1.setCell (p := ⟨w.heap.size, 0, none⟩) (Nat.le_refl _) _).setCell (p := ⟨w.heap.size, 1, none⟩) (Nat.le_refl _) _, ?_⟩
      rcases HH.out.2.2.1 with ⟨rfl, h2⟩ | ⟨rfl, e0, he0, hv, _, hr, hm⟩
      · exact .inr ⟨rfl, first_none fun e he => h2 e he (HH.out.2.2.2 _)⟩
      · obtain ⟨i, hi, rfl, hx⟩ := first_some HG.out.rise he0 hr (fun e he q => hm e he (HH.out.2.2.2 _) q)
        exact .inl ⟨rfl, i, hi, hv, hr, hx⟩
    · obtain ⟨m, em, hm⟩ := who_nat (HG.out.ok e he)
      obtain ⟨n, en⟩ : ∃ n, n = e.n := ⟨_, rfl⟩
      obtain ⟨t, et⟩ : ∃ t, t = e.t := ⟨_, rfl⟩
      obtain ⟨x, ex⟩ : ∃ x, x = e.s.2.1 := ⟨_, rfl⟩
      obtain ⟨gg, egg⟩ : ∃ gg, gg = e.g := ⟨_, rfl⟩
      obtain ⟨cc, ecc⟩ : ∃ cc, cc = e.c := ⟨_, rfl⟩
      have eat : e.at = .agg #[.int .i64 (m : Int), .int .i64 n] := by rw [En.at, em, en]
      have eval : e.val = .agg #[.int .i64 t, .int .i64 (m : Int), .int .i64 x, .slice (some ⟨gg, 0, none⟩) 5 cc] := by rw [En.val, em, et, ex, egg, ecc]
      have es3 : e.s = ((m : Int), x, e.s.2.2) := by rw [← em, ex]
      rw [eat, eval] at hrun hen
      obtain ⟨W2, eW2⟩ : ∃ W2, W2 = (w1.alloc (.cells #[.int .i64 (m : Int), .int .i64 n] 62)).alloc (.cells #[.int .i64 t, .int .i64 (m : Int), .int .i64 x, .slice (some ⟨gg, 0, none⟩) 5 cc] 60) := ⟨_, rfl⟩
      have hws1 : w.heap.size + 2 < w1.heap.size := by omega
      have Bw1 : Below w.heap.size w w1 := hB.grown hg1 hB.size (fun k q => by cases q; omega)
      have B2 : Hid (Below w1.heap.size w1 W2 ∧ W2.heap.size = w1.heap.size + 2) := ⟨by rw [eW2]; exact ((Below.refl _ _).alloc (Nat.le_refl _) _).alloc (by simp) _, by rw [eW2]; simp⟩
      have BW2 : Hid (Below w.heap.size w W2) := Bw1.trans (B2.out.1.mono Bw1.size)
      have hS1 := World.rowIs.of_block hS (hg1.block _ (by omega) (by simp))
      have hR1 := World.rowIs.of_block hR (hg1.block _ (by omega) (by simp))
      have G2 : Hid (CF W2 base P mb me K cn es) := HG.out.later BW2.out
      have V2 : Hid (Vw W2 (some ⟨gg, 0, none⟩) 5 e.s.2.2) := by rw [egg]; exact G2.out.vw he
      have S2 : Hid (W2.rowIs (w.heap.size + 1) 62 2 (pv a b) ∧ W2.rowIs w.heap.size 62 2 (pv 0 0) ∧ W2.ranges Tryd.prog 62 RV mb (w.heap.size + 2) es.length D (strike left e.key) cnt1) := by
        refine ⟨World.rowIs.of_block hS1 (B2.out.1.block _ (by omega)), World.rowIs.of_block hR1 (B2.out.1.block _ (by omega)), ?_⟩
        rw [eW2]
        exact (hrg1.alloc _).alloc _
      obtain ⟨q0, q1, v0, v1, v2, v3⟩ := new2 w1 W2 (m : Int) n t x gg cc eW2
      have HH : Hid (FM K es left (.agg #[.int .i64 a, .int .i64 b]) found ∧ e ∈ es ∧ e.at = .agg #[.int .i64 (m : Int), .int .i64 n] ∧ e.s = ((m : Int), x, e.s.2.2) ∧ t = e.t ∧ cnt1 < cnt ∧ wr.rangeLeft mb (w.heap.size + 2) = cnt ∧ w.heap.size + 2 < w1.heap.size) := ⟨hM, he, eat, es3, et, hlt, hrg.left_eq, hws1⟩
      clear hrg hB hR hS hM hF hle hrg1 hlt hg1 hs1 eat eval es3 em en et ex egg ecc hS1 hR1 Bw1 hws1 hsz
      have HS2 : Hid (∀ w' : World, w'.heap = W2.heap → w'.cell? ⟨w1.heap.size + 1, 1, none⟩ = some (.int .i64 (m : Int)) ∧ w'.cell? ⟨w1.heap.size + 1, 2, none⟩ = some (.int .i64 x) ∧ w'.cell? ⟨w1.heap.size + 1, 3, none⟩ = some (.slice (some ⟨gg, 0, none⟩) 5 cc)) := fun w' h => ⟨(c_heap h _).trans v1, (c_heap h _).trans v2, (c_heap h _).trans v3⟩
      have HL2 : Hid (w1.heap.size + 1 < W2.heap.size) := (by have := B2.out.2; omega : w1.heap.size + 1 < W2.heap.size)
      have HL1 : Hid (w1.heap.size < W2.heap.size) := (by have := B2.out.2; omega : w1.heap.size < W2.heap.size)
      cases hr : rdy K e.s
      · go_wp2_with fail
        rw [← eW2]
        clear eW2 hrun hen
        refine wp_region_any (by kernel_rfl) ?_
        change wpAny _ _ _ _ _ _ _ (World.drew _)
        refine take_at (i := 0) 18 (v := .pointer (some ⟨P, 0, none⟩)) rfl rfl (by kernel_rfl) (by kernel_rfl) (by kernel_rfl) (fun _ _ _ h => h) (Or.inl ⟨by kernel_rfl, fun _ => by first | rfl | go_simp⟩) ?_
        refine take_at (i := 1) 19 (v := .pointer (some ⟨w1.heap.size + 1, 1, none⟩)) rfl rfl (by kernel_rfl) (by kernel_rfl) (by kernel_rfl) (fun _ _ _ h => h) (Or.inl ⟨by kernel_rfl, fun _ => by first | rfl | go_simp⟩) ?_
        refine wpAny_ready (rs := [2]) (by kernel_rfl) (by simp) ?_
        refine AllReady.cons rfl (fun KK hK => ?_) AllReady.nil
        go_simp
        refine hK _ _ ?_
        clear hK KK
        refine wpAny_ready (rs := [3]) (by kernel_rfl) (by simp) ?_
        refine AllReady.cons rfl (fun KK hK => ?_) AllReady.nil
        go_simp
        go_wp2_with (go_at_call 23; refine (ready_any P m gg 0 cc K e.s.2.2 x _ hm (by exact G2.out.k5) (by exact V2.out)).mono ?_; rintro e9 w9 ⟨rfl, hb⟩; rw [← HH.out.2.2.2.1, hr]; have B9 : Hid (Below W2.heap.size W2 w9) := below_same hb rfl rfl rfl rfl; clear hb)
        try go_frame
        refine take_at (i := 4) 22 (v := .bool false) rfl rfl (by kernel_rfl) (by kernel_rfl) (by kernel_rfl) (fun _ _ _ h => h) (Or.inl ⟨by kernel_rfl, fun _ => by go_simp⟩) ?_
        refine take_at (i := 5) 23 (v := undef) rfl rfl (by kernel_rfl) (by kernel_rfl) (by kernel_rfl) (fun _ _ _ h => h) (Or.inr ⟨by kernel_rfl, rfl⟩) ?_
        refine take_at (i := 6) 24 (v := undef) rfl rfl (by kernel_rfl) (by kernel_rfl) (by kernel_rfl) (fun _ _ _ h => h) (Or.inr ⟨by kernel_rfl, rfl⟩) ?_
        refine take_at (i := 7) 25 (v := undef) rfl rfl (by kernel_rfl) (by kernel_rfl) (by kernel_rfl) (fun _ _ _ h => h) (Or.inr ⟨by kernel_rfl, rfl⟩) ?_
        refine take_at (i := 8) 26 (v := undef) rfl rfl (by kernel_rfl) (by kernel_rfl) (by kernel_rfl) (fun _ _ _ h => h) (Or.inr ⟨by kernel_rfl, rfl⟩) ?_
        refine take_at (i := 9) 27 (v := undef) rfl rfl (by kernel_rfl) (by kernel_rfl) (by kernel_rfl) (fun _ _ _ h => h) (Or.inr ⟨by kernel_rfl, rfl⟩) ?_
        refine take_at (i := 10) 28 (v := undef) rfl rfl (by kernel_rfl) (by kernel_rfl) (by kernel_rfl) (fun _ _ _ h => h) (Or.inr ⟨by kernel_rfl, rfl⟩) ?_
        refine take_at (i := 11) 29 (v := undef) rfl rfl (by kernel_rfl) (by kernel_rfl) (by kernel_rfl) (fun _ _ _ h => h) (Or.inr ⟨by kernel_rfl, rfl⟩) ?_
        refine take_at (i := 12) 30 (v := undef) rfl rfl (by kernel_rfl) (by kernel_rfl) (by kernel_rfl) (fun _ _ _ h => h) (Or.inr ⟨by kernel_rfl, rfl⟩) ?_
        refine take_at (i := 13) 31 (v := undef) rfl rfl (by kernel_rfl) (by kernel_rfl) (by kernel_rfl) (fun _ _ _ h => h) (Or.inr ⟨by kernel_rfl, rfl⟩) ?_
        refine take_at (i := 14) 32 (v := undef) rfl rfl (by kernel_rfl) (by kernel_rfl) (by kernel_rfl) (fun _ _ _ h => h) (Or.inr ⟨by kernel_rfl, rfl⟩) ?_
        refine take_at (i := 15) 33 (v := undef) rfl rfl (by kernel_rfl) (by kernel_rfl) (by kernel_rfl) (fun _ _ _ h => h) (Or.inr ⟨by kernel_rfl, rfl⟩) ?_
        refine take_at (i := 16) 34 (v := undef) rfl rfl (by kernel_rfl) (by kernel_rfl) (by kernel_rfl) (fun _ _ _ h => h) (Or.inr ⟨by kernel_rfl, rfl⟩) ?_
        refine take_at (i := 17) 35 (v := undef) rfl rfl (by kernel_rfl) (by kernel_rfl) (by kernel_rfl) (fun _ _ _ h => h) (Or.inr ⟨by kernel_rfl, rfl⟩) ?_
        refine take_at (i := 18) 36 (v := undef) rfl rfl (by kernel_rfl) (by kernel_rfl) (by kernel_rfl) (fun _ _ _ h => h) (Or.inr ⟨by kernel_rfl, rfl⟩) ?_
        try go_frame
        refine take_at (i := 19) 37 (v := .bool false) rfl rfl (by kernel_rfl) (by kernel_rfl) (by kernel_rfl) (fun _ _ _ h => h) (Or.inl ⟨by kernel_rfl, fun _ => by go_simp⟩) ?_
        refine wpAny_done (by kernel_rfl) ?_ _
        try go_frame
        go_wp2_with fail
        have fc := fr_close BW2.out S2.out.1 S2.out.2.1 S2.out.2.2 B9.out (HH.out.1.pass HG.out.uq HH.out.2.1 hr)
        exact ⟨⟨a, b, found, _, _, rfl, fc.1⟩, by rw [fc.2, HH.out.2.2.2.2.2.2.1]; exact HH.out.2.2.2.2.2.1⟩
      · cases found
        · go_wp2_with fail
          rw [← eW2]
          clear eW2 hrun hen
          refine wp_region_any (by kernel_rfl) ?_
          change wpAny _ _ _ _ _ _ _ (World.drew _)
          refine take_at (i := 0) 18 (v := .pointer (some ⟨P, 0, none⟩)) rfl rfl (by kernel_rfl) (by kernel_rfl) (by kernel_rfl) (fun _ _ _ h => h) (Or.inl ⟨by kernel_rfl, fun _ => by first | rfl | go_simp⟩) ?_
          refine take_at (i := 1) 19 (v := .pointer (some ⟨w1.heap.size + 1, 1, none⟩)) rfl rfl (by kernel_rfl) (by kernel_rfl) (by kernel_rfl) (fun _ _ _ h => h) (Or.inl ⟨by kernel_rfl, fun _ => by first | rfl | go_simp⟩) ?_
          refine wpAny_ready (rs := [2]) (by kernel_rfl) (by simp) ?_
          refine AllReady.cons rfl (fun KK hK => ?_) AllReady.nil
          go_simp
          refine hK _ _ ?_
          clear hK KK
          refine wpAny_ready (rs := [3]) (by kernel_rfl) (by simp) ?_
          refine AllReady.cons rfl (fun KK hK => ?_) AllReady.nil
          go_simp
          go_wp2_with (go_at_call 23; refine (ready_any P m gg 0 cc K e.s.2.2 x _ hm (by exact G2.out.k5) (by exact V2.out)).mono ?_; rintro e9 w9 ⟨rfl, hb⟩; rw [← HH.out.2.2.2.1, hr]; have B9 : Hid (Below W2.heap.size W2 w9) := below_same hb rfl rfl rfl rfl; clear hb)
          try go_frame
          refine take_at (i := 4) 22 (v := .bool true) rfl rfl (by kernel_rfl) (by kernel_rfl) (by kernel_rfl) (fun _ _ _ h => h) (Or.inl ⟨by kernel_rfl, fun _ => by go_simp⟩) ?_
          try go_frame
          refine take_at (i := 5) 23 (v := .bool false) rfl rfl (by kernel_rfl) (by kernel_rfl) (by kernel_rfl) (fun _ _ _ h => h) (Or.inl ⟨by kernel_rfl, fun _ => by go_simp⟩) ?_
          try go_frame
          refine take_at (i := 6) 24 (v := .bool true) rfl rfl (by kernel_rfl) (by kernel_rfl) (by kernel_rfl) (fun _ _ _ h => h) (Or.inl ⟨by kernel_rfl, fun _ => by go_simp⟩) ?_
          try go_frame
          refine take_at (i := 7) 25 (v := .bool true) rfl rfl (by kernel_rfl) (by kernel_rfl) (by kernel_rfl) (fun _ _ _ h => h) (Or.inl ⟨by kernel_rfl, fun _ => by go_simp⟩) ?_
          refine take_at (i := 8) 26 (v := undef) rfl rfl (by kernel_rfl) (by kernel_rfl) (by kernel_rfl) (fun _ _ _ h => h) (Or.inr ⟨by kernel_rfl, rfl⟩) ?_
          refine take_at (i := 9) 27 (v := undef) rfl rfl (by kernel_rfl) (by kernel_rfl) (by kernel_rfl) (fun _ _ _ h => h) (Or.inr ⟨by kernel_rfl, rfl⟩) ?_
          refine take_at (i := 10) 28 (v := undef) rfl rfl (by kernel_rfl) (by kernel_rfl) (by kernel_rfl) (fun _ _ _ h => h) (Or.inr ⟨by kernel_rfl, rfl⟩) ?_
          refine take_at (i := 11) 29 (v := undef) rfl rfl (by kernel_rfl) (by kernel_rfl) (by kernel_rfl) (fun _ _ _ h => h) (Or.inr ⟨by kernel_rfl, rfl⟩) ?_
          refine take_at (i := 12) 30 (v := undef) rfl rfl (by kernel_rfl) (by kernel_rfl) (by kernel_rfl) (fun _ _ _ h => h) (Or.inr ⟨by kernel_rfl, rfl⟩) ?_
          refine take_at (i := 13) 31 (v := undef) rfl rfl (by kernel_rfl) (by kernel_rfl) (by kernel_rfl) (fun _ _ _ h => h) (Or.inr ⟨by kernel_rfl, rfl⟩) ?_
          refine take_at (i := 14) 32 (v := undef) rfl rfl (by kernel_rfl) (by kernel_rfl) (by kernel_rfl) (fun _ _ _ h => h) (Or.inr ⟨by kernel_rfl, rfl⟩) ?_
          refine take_at (i := 15) 33 (v := undef) rfl rfl (by kernel_rfl) (by kernel_rfl) (by kernel_rfl) (fun _ _ _ h => h) (Or.inr ⟨by kernel_rfl, rfl⟩) ?_
          refine take_at (i := 16) 34 (v := undef) rfl rfl (by kernel_rfl) (by kernel_rfl) (by kernel_rfl) (fun _ _ _ h => h) (Or.inr ⟨by kernel_rfl, rfl⟩) ?_
          refine take_at (i := 17) 35 (v := undef) rfl rfl (by kernel_rfl) (by kernel_rfl) (by kernel_rfl) (fun _ _ _ h => h) (Or.inr ⟨by kernel_rfl, rfl⟩) ?_
          try go_frame
          refine take_at (i := 18) 36 (v := .bool true) rfl rfl (by kernel_rfl) (by kernel_rfl) (by kernel_rfl) (fun _ _ _ h => h) (Or.inl ⟨by kernel_rfl, fun _ => by go_simp⟩) ?_
          try go_frame
          refine take_at (i := 19) 37 (v := .bool true) rfl rfl (by kernel_rfl) (by kernel_rfl) (by kernel_rfl) (fun _ _ _ h => h) (Or.inl ⟨by kernel_rfl, fun _ => by go_simp⟩) ?_
          refine wpAny_done (by kernel_rfl) ?_ _
          try go_frame
          have p0 := (B9.out.cell (p := ⟨w1.heap.size, 0, none⟩) HL1.out).trans q0
          have p1 := (B9.out.cell (p := ⟨w1.heap.size, 1, none⟩) HL1.out).trans q1
          have R9 : Hid (w9.rowIs (w.heap.size + 1) 62 2 (pv a b)) := World.rowIs.of_block S2.out.1 (B9.out.block _ (World.rowIs.lt S2.out.1))
          have y0 : w9.cell? ⟨w.heap.size + 1, 0, none⟩ = some (.int .i64 a) := World.rowIs.cell R9.out (i := 0) (by omega)
          have y1 : w9.cell? ⟨w.heap.size + 1, 1, none⟩ = some (.int .i64 b) := World.rowIs.cell R9.out (i := 1) (by omega)
          have f0 := World.rowIs.frozen R9.out 0
          have f1 := World.rowIs.frozen R9.out 1
          go_wp2
          have hk : WideAt.IsKeyLit e.key := kl_key (En.okK (HG.out.ok e HH.out.2.1))
          have hM : FM K es (strike left e.key) (.agg #[.int .i64 (m : Int), .int .i64 n]) true := by
            rw [← HH.out.2.2.1]
            exact HH.out.1.one HG.out.uq HH.out.2.1 hk hr
          have fs := fr_store BW2.out S2.out.1 S2.out.2.1 S2.out.2.2 B9.out HG.out.lt.2 hM
          exact ⟨⟨(m : Int), n, true, _, _, rfl, fs.1⟩, by rw [fs.2, HH.out.2.2.2.2.2.2.1]; exact HH.out.2.2.2.2.2.1⟩
        · obtain ⟨e0, he0, hv0, hl0, hr0, hm0⟩ := FM.get HH.out.1
          obtain ⟨t0, et0⟩ : ∃ t0, t0 = e0.t := ⟨_, rfl⟩
          obtain ⟨k0, ek0⟩ : ∃ k0, k0 = e0.s.1 := ⟨_, rfl⟩
          obtain ⟨x0, ex0⟩ : ∃ x0, x0 = e0.s.2.1 := ⟨_, rfl⟩
          obtain ⟨g0, eg0⟩ : ∃ g0, g0 = e0.g := ⟨_, rfl⟩
          obtain ⟨c0, ec0⟩ : ∃ c0, c0 = e0.c := ⟨_, rfl⟩
          have ev0 : e0.val = .agg #[.int .i64 t0, .int .i64 k0, .int .i64 x0, .slice (some ⟨g0, 0, none⟩) 5 c0] := by rw [En.val, et0, ek0, ex0, eg0, ec0]
          have H0 : Hid (e0 ∈ es ∧ .agg #[.int .i64 a, .int .i64 b] = e0.at ∧ left e0.key = false ∧ rdy K e0.s = true ∧ (∀ e ∈ es, left e.key = false → rdy K e.s = true → e0.t ≤ e.t) ∧ t0 = e0.t) := ⟨he0, hv0, hl0, hr0, hm0, et0⟩
          have HS : Hid (∀ X : World, Below W2.heap.size W2 X → ∀ w' : World, w'.heap = X.heap → w'.cell? ⟨w1.heap.size + 1, 0, none⟩ = some (.int .i64 t) ∧ w'.cell? ⟨w1.heap.size + 1, 1, none⟩ = some (.int .i64 (m : Int)) ∧ w'.cell? ⟨w1.heap.size + 1, 2, none⟩ = some (.int .i64 x) ∧ w'.cell? ⟨w1.heap.size + 1, 3, none⟩ = some (.slice (some ⟨gg, 0, none⟩) 5 cc) ∧ w'.cell? ⟨P, 7, none⟩ = some (.map (some mb)) ∧ w'.cell? ⟨w.heap.size + 1, 0, none⟩ = some (.int .i64 a) ∧ w'.cell? ⟨w.heap.size + 1, 1, none⟩ = some (.int .i64 b) ∧ (Instr.lookup 51 (.map (some mb)) (.agg #[.int .i64 a, .int .i64 b]) false).run Tryd.prog w' = .ok (.agg #[.int .i64 t0, .int .i64 k0, .int .i64 x0, .slice (some ⟨g0, 0, none⟩) 5 c0]) w') := by
            intro X hX w' h
            have gX := G2.out.later hX
            have rX := World.rowIs.of_block S2.out.1 (hX.block _ (World.rowIs.lt S2.out.1))
            have lX := gX.look he0 w' (by rw [h])
            rw [← hv0, ev0] at lX
            exact ⟨(c_heap h _).trans ((hX.cell (p := ⟨w1.heap.size + 1, 0, none⟩) HL2.out).trans v0), (c_heap h _).trans ((hX.cell (p := ⟨w1.heap.size + 1, 1, none⟩) HL2.out).trans v1), (c_heap h _).trans ((hX.cell (p := ⟨w1.heap.size + 1, 2, none⟩) HL2.out).trans v2), (c_heap h _).trans ((hX.cell (p := ⟨w1.heap.size + 1, 3, none⟩) HL2.out).trans v3), (c_heap h _).trans gX.wait.1, (c_heap h _).trans (World.rowIs.cell rX (i := 0) (by omega)), (c_heap h _).trans (World.rowIs.cell rX (i := 1) (by omega)), lX⟩
          have hfd := fld_t t0 k0 x0 (.slice (some ⟨g0, 0, none⟩) 5 c0)
          clear he0 hv0 hl0 hr0 hm0 et0 ek0 ex0 eg0 ec0 ev0
          by_cases ht : t < t0
          · have hd : decide (t < t0) = true := decide_eq_true ht
            go_wp2_with fail
            rw [← eW2]
            clear eW2 hrun hen
            go_region_held3 (fun w' => w'.cell? ⟨w1.heap.size + 1, 0, none⟩ = some (.int .i64 t) ∧ w'.cell? ⟨w1.heap.size + 1, 1, none⟩ = some (.int .i64 (m : Int)) ∧ w'.cell? ⟨w1.heap.size + 1, 2, none⟩ = some (.int .i64 x) ∧ w'.cell? ⟨w1.heap.size + 1, 3, none⟩ = some (.slice (some ⟨gg, 0, none⟩) 5 cc) ∧ w'.cell? ⟨P, 7, none⟩ = some (.map (some mb)) ∧ w'.cell? ⟨w.heap.size + 1, 0, none⟩ = some (.int .i64 a) ∧ w'.cell? ⟨w.heap.size + 1, 1, none⟩ = some (.int .i64 b) ∧ (Instr.lookup 51 (.map (some mb)) (.agg #[.int .i64 a, .int .i64 b]) false).run Tryd.prog w' = .ok (.agg #[.int .i64 t0, .int .i64 k0, .int .i64 x0, .slice (some ⟨g0, 0, none⟩) 5 c0]) w') (first | exact HS.out _ B9.out _ rfl | exact HS.out _ (Below.refl _ _) _ rfl) (first
              | (go_at_call 23; refine (ready_any P m gg 0 cc K e.s.2.2 x _ hm (by exact G2.out.k5) (by exact V2.out)).mono ?_; rintro e9 w9 ⟨rfl, hb⟩; rw [← HH.out.2.2.2.1, hr]; have B9 : Hid (Below W2.heap.size W2 w9) := below_same hb rfl rfl rfl rfl; clear hb))
            try go_frame
            have p0 := (B9.out.cell (p := ⟨w1.heap.size, 0, none⟩) HL1.out).trans q0
            have p1 := (B9.out.cell (p := ⟨w1.heap.size, 1, none⟩) HL1.out).trans q1
            have R9 : Hid (w9.rowIs (w.heap.size + 1) 62 2 (pv a b)) := World.rowIs.of_block S2.out.1 (B9.out.block _ (World.rowIs.lt S2.out.1))
            have y0 : w9.cell? ⟨w.heap.size + 1, 0, none⟩ = some (.int .i64 a) := World.rowIs.cell R9.out (i := 0) (by omega)
            have y1 : w9.cell? ⟨w.heap.size + 1, 1, none⟩ = some (.int .i64 b) := World.rowIs.cell R9.out (i := 1) (by omega)
            have f0 := World.rowIs.frozen R9.out 0
            have f1 := World.rowIs.frozen R9.out 1
            go_wp2
            have hk : WideAt.IsKeyLit e.key := kl_key (En.okK (HG.out.ok e HH.out.2.1))
            have hM : FM K es (strike left e.key) (.agg #[.int .i64 (m : Int), .int .i64 n]) true := by
              rw [← HH.out.2.2.1]
              exact FM.less HG.out.uq H0.out.2.2.2.2.1 HH.out.2.1 hk hr (by rw [← HH.out.2.2.2.2.1, ← H0.out.2.2.2.2.2]; exact ht)
            have fs := fr_store BW2.out S2.out.1 S2.out.2.1 S2.out.2.2 B9.out HG.out.lt.2 hM
            exact ⟨⟨(m : Int), n, true, _, _, rfl, fs.1⟩, by rw [fs.2, HH.out.2.2.2.2.2.2.1]; exact HH.out.2.2.2.2.2.1⟩
          · have hd : decide (t < t0) = false := decide_eq_false ht
            go_wp2_with fail
            rw [← eW2]
            clear eW2 hrun hen
            go_region_held3 (fun w' => w'.cell? ⟨w1.heap.size + 1, 0, none⟩ = some (.int .i64 t) ∧ w'.cell? ⟨w1.heap.size + 1, 1, none⟩ = some (.int .i64 (m : Int)) ∧ w'.cell? ⟨w1.heap.size + 1, 2, none⟩ = some (.int .i64 x) ∧ w'.cell? ⟨w1.heap.size + 1, 3, none⟩ = some (.slice (some ⟨gg, 0, none⟩) 5 cc) ∧ w'.cell? ⟨P, 7, none⟩ = some (.map (some mb)) ∧ w'.cell? ⟨w.heap.size + 1, 0, none⟩ = some (.int .i64 a) ∧ w'.cell? ⟨w.heap.size + 1, 1, none⟩ = some (.int .i64 b) ∧ (Instr.lookup 51 (.map (some mb)) (.agg #[.int .i64 a, .int .i64 b]) false).run Tryd.prog w' = .ok (.agg #[.int .i64 t0, .int .i64 k0, .int .i64 x0, .slice (some ⟨g0, 0, none⟩) 5 c0]) w') (first | exact HS.out _ B9.out _ rfl | exact HS.out _ (Below.refl _ _) _ rfl) (first
              | (go_at_call 23; refine (ready_any P m gg 0 cc K e.s.2.2 x _ hm (by exact G2.out.k5) (by exact V2.out)).mono ?_; rintro e9 w9 ⟨rfl, hb⟩; rw [← HH.out.2.2.2.1, hr]; have B9 : Hid (Below W2.heap.size W2 w9) := below_same hb rfl rfl rfl rfl; clear hb))
            try go_frame
            go_wp2_with fail
            have fc := fr_close BW2.out S2.out.1 S2.out.2.1 S2.out.2.2 B9.out (by rw [H0.out.2.1]; exact FM.more HG.out.uq H0.out.1 H0.out.2.2.1 H0.out.2.2.2.1 H0.out.2.2.2.2.1 HH.out.2.1 (by rw [← HH.out.2.2.2.2.1, ← H0.out.2.2.2.2.2]; omega))
            exact ⟨⟨a, b, true, _, _, rfl, fc.1⟩, by rw [fc.2, HH.out.2.2.2.2.2.2.1]; exact HH.out.2.2.2.2.2.1⟩
end Go.Proofs.YtndjejbnappmeadDoor.Cap
