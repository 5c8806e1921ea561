/-
  Contracts of package leader's wasSaid and Say: whichever way the map of what was said is gone through.
-/
import Derived.Test.YtcccheeeagphpagLdrC
namespace Go.Proofs.Ytcccheeeagphpag.Ldr
open Go.RowKit Go.Maps
open Go.Proofs.Ytcccheeeagphpag.Fif (own_lt own_block own_form own_mono own_vw ret_bool info_int)
open Go.Proofs.Ytcccheeeagphpag.MapV (MM MP RV kl putT delT wfI turned_below g_of_turned strike strike_new strike_old strike_self kl_key ranges_blocks next_cases)
open Go.Proofs.Ytcccheeeagphpag.Sep (KpL NewL)
set_option linter.unusedVariables false
variable {w w' : World} {base P mS : Nat} {mb : Nat → Nat} {r : Rc} {l : L} {nx : Nat → Nat}

/-- none of those that were looked at is it -/
def NR (w wr : World) (b n : Nat) (D : DataW Value) (ws : List Int) (x : Int) (left : Lit → Bool) (cnt : Nat) : Prop :=
  wr.ranges Try.prog 3 RV b w.heap.size n D left cnt ∧ Below w.heap.size w wr ∧ (∀ k : Nat, k < ws.length → left (kl (k : Int)) = false → ws.getD k 0 ≠ x) ∧ w.heap.size < wr.heap.size
theorem mem_getD {ws : List Int} {x : Int} : x ∈ ws ↔ ∃ k : Nat, k < ws.length ∧ ws.getD k 0 = x := by
  constructor
  · intro h
    obtain ⟨k, hk, e⟩ := List.getElem_of_mem h
    exact ⟨k, hk, by simp [List.getD, hk, e]⟩
  · rintro ⟨k, hk, rfl⟩
    have e : ws.getD k 0 = ws[k] := by simp [List.getD, hk]
    rw [e]
    exact List.getElem_mem hk
set_option maxRecDepth 100000 in
set_option maxHeartbeats 1000000 in
theorem saidL_any (h : LF w base P mS mb (rcN l nx)) (x : Int) : Calls Try.prog 16 #[.pointer (some ⟨P, 0, none⟩), .int .i64 x] w fun e w' => e = .returned (.bool (decide (x ∈ l.ws))) ∧ Below w.heap.size w w' := by
  obtain ⟨D, hD, vD⟩ := h.said
  have HD : Hid (MP D (TS l.ws) l.ws.length) := vD
  have HG : Hid (LF w base P mS mb (rcN l nx)) := h
  have HO : Hid (w.ownsMap Try.prog 3 RV mS (Maps.size D) D) := hD
  have c1 := h.c1
  clear hD vD h
  go_enter Try.func16, Try.ntmps16
  go_wp2_with (first | (at_range; refine wpList_range_own _ rfl _ 62 rfl 3 3 MapV.law Try.underlying62 _ mS (Maps.size D) D rfl HO.out ?_; intro w0 hrg0 hg0 hs0) | go_in)
  have F0 : Hid (NR w w0 mS (Maps.size D) D l.ws x (Maps.has D) (Maps.size D)) := by
    refine ⟨hrg0, (Below.refl _ _).grown hg0 (Nat.le_refl _) (by simp), fun k hk q => ?_, by omega⟩
    rw [HD.out.has, TS_at hk] at q
    cases q
  clear hrg0 hg0 hs0 c1 HO
  go_frame
  go_loopw [6] (fun _ wr => ∃ (left : Lit → Bool) (cnt : Nat), Hid (NR w wr mS (Maps.size D) D l.ws x left cnt)) (fun _ wr => wr.rangeLeft mS w.heap.size)
  case atStart => exact ⟨_, _, F0⟩
  case round =>
    obtain ⟨left, cnt, hF⟩ := hrel
    obtain ⟨hrg, hB, hM, hsz⟩ := hF.out
    rcases next_cases hrg HD.out 0 with ⟨h0, hl, hrun⟩ | ⟨i, u, hTi, hwf, hle, w1, cnt1, hrun, hrg1, hlt, hg1, hs1, hen⟩
    · have HH : Hid (decide (x ∈ l.ws) = false ∧ Below w.heap.size w wr) := by
        refine ⟨decide_eq_false fun q => ?_, hB⟩
        obtain ⟨k, hk, e⟩ := mem_getD.1 q
        exact hM k hk (hl _) e
      clear hrg hB hM hl hF h0
      go_wp2
      go_ret
      exact ⟨ret_bool HH.out.1.symm, HH.out.2⟩
    · obtain ⟨k, rfl, hk, rfl⟩ := TS_some hTi
      obtain ⟨y, ey⟩ : ∃ y : Int, y = l.ws.getD k 0 := ⟨_, rfl⟩
      have ev : iv (l.ws.getD k 0) = .int .i64 y := by rw [ey]; rfl
      rw [ev] at hrun hen
      have Bw1 : Hid (Below w.heap.size w w1) := hB.grown hg1 hB.size (fun k q => by cases q; omega)
      by_cases hxy : y = x
      · have HH : Hid (decide (x ∈ l.ws) = true) := decide_eq_true (mem_getD.2 ⟨k, hk, by rw [← ey]; exact hxy⟩)
        clear hrg hB hM hF hle hrg1 hlt hg1 hs1 hTi ev ey hsz hwf
        go_wp2
        go_ret
        exact ⟨ret_bool HH.out.symm, Bw1.out⟩
      · have R : Hid (NR w w1 mS (Maps.size D) D l.ws x (strike left (kl (k : Int))) cnt1 ∧ w1.rangeLeft mS w.heap.size < wr.rangeLeft mS w.heap.size) := by
          refine ⟨⟨hrg1, Bw1.out, fun j hj q => ?_, by omega⟩, by rw [hrg1.left_eq, hrg.left_eq]; exact hlt⟩
          rcases strike_new q with a | a
          · exact hM j hj a
          · rw [show j = k by omega, ← ey]
            exact hxy
        clear hrg hB hM hF hle hrg1 hlt hg1 hs1 hTi ev ey hsz hwf
        go_wp2
        go_roundw
        case rel => exact ⟨_, _, R.out.1⟩
        case measure => exact R.out.2
/-! Say -/
def svL (a b : Int) (j : Nat) : Value := if j = 0 then .int .i64 a else .int .i64 b
theorem svL_new (w : World) (a b : Int) : (w.alloc (.cells #[.int .i64 a, .int .i64 b] 34)).rowIs w.heap.size 34 2 (svL a b) :=
  World.rowIs_alloc w #[.int .i64 a, .int .i64 b] 34 (svL a b) (fun i hi => by rcases i with _ | _ | i <;> first | rfl | (exfalso; have : _ < 2 := hi; omega))
theorem retL {fn : Func} {tmps : Array Value} {w : World} {p u : Tmp} {B : Nat} {v0 v1 x : Value} (h : fn.results = #[.cell p 34, .tmp u]) (hp : tmps.getD p undef = .pointer (some ⟨B, 0, none⟩)) (hu : tmps.getD u undef = x)
    (y0 : w.cell? ⟨B, 0, none⟩ = some v0) (y1 : w.cell? ⟨B, 1, none⟩ = some v1) : (results fn tmps).run Try.prog w = .ok (.tuple #[.agg #[v0, v1], x]) w := by
  rw [results_cell_tmp h, hp, hu]
  simp [asAddr, go_sem, y0, y1]
theorem two_setL {w : World} {b B : Nat} (h : b ≠ B) (x y : Value) : ((w.setCell ⟨B, 0, none⟩ x).setCell ⟨B, 1, none⟩ y).heap[b]? = w.heap[b]? := by rw [Deep.blk_setCell_other _ _ _ _ h, Deep.blk_setCell_other _ _ _ _ h]
theorem kp_twoL {w w1 : World} {fp : List Nat} (h : KpL w w1 fp) (x y : Value) : KpL w ((w1.setCell ⟨w.heap.size, 0, none⟩ x).setCell ⟨w.heap.size, 1, none⟩ y) fp := ⟨by simpa [World.setCell] using h.1, fun b hb hn => by rw [two_setL (by omega)]; exact h.2 b hb hn⟩
theorem row_laterL {w w' : World} {b : Nat} {t : TypeId} {n : Nat} {f : Nat → Value} (h : w.rowIs b t n f) (hb : Below w.heap.size w w') : w'.rowIs b t n f := World.rowIs.of_block h (hb.block b (World.rowIs.lt h))
set_option maxRecDepth 100000 in
theorem say_out (P : Nat) (word : Int) (w : World) (hc : word < 1 ∨ 30 < word) : Calls Try.prog 7 #[.pointer (some ⟨P, 0, none⟩), .int .i64 word] w fun x w' => x = .returned (.tuple #[.agg #[.int .i64 0, .int .i64 0], errF 1]) ∧ Below w.heap.size w w' := by
  rw [errF_no (by decide)]
  have B1 : Hid (Below w.heap.size w (w.alloc (.cells #[.int .i64 0, .int .i64 0] 34))) := (Below.refl _ _).alloc (Nat.le_refl _) _
  by_cases h1 : word < 1
  · clear hc
    go_enter Try.func7, Try.ntmps7
    go_wp2
    refine bodyPost_ret (v := .tuple #[.agg #[.int .i64 0, .int .i64 0], .iface 54 (.int .i64 1)]) (retL (B := w.heap.size) rfl rfl rfl (by go_cell) (by go_cell)) rfl ?_
    exact ⟨rfl, by first | exact B1.out | exact (B1.out.setCell (p := ⟨w.heap.size, 0, none⟩) (Nat.le_refl _) _).setCell (p := ⟨w.heap.size, 1, none⟩) (Nat.le_refl _) _⟩
  · have h2 : 30 < word := by omega
    clear hc
    go_enter Try.func7, Try.ntmps7
    go_wp2
    refine bodyPost_ret (v := .tuple #[.agg #[.int .i64 0, .int .i64 0], .iface 54 (.int .i64 1)]) (retL (B := w.heap.size) rfl rfl rfl (by go_cell) (by go_cell)) rfl ?_
    exact ⟨rfl, by first | exact B1.out | exact (B1.out.setCell (p := ⟨w.heap.size, 0, none⟩) (Nat.le_refl _) _).setCell (p := ⟨w.heap.size, 1, none⟩) (Nat.le_refl _) _⟩
set_option maxRecDepth 100000 in
theorem say_was (h : LF w base P mS mb (rc l)) (word : Int) (h1 : 1 ≤ word) (h30 : word ≤ 30) (hm : word ∈ l.ws) : Calls Try.prog 7 #[.pointer (some ⟨P, 0, none⟩), .int .i64 word] w fun x w' => x = .returned (.tuple #[.agg #[.int .i64 0, .int .i64 0], errF 7]) ∧ Below w.heap.size w w' := by
  have HC : Hid (decide (word ∈ l.ws) = true) := decide_eq_true hm
  have HG : Hid (LF w base P mS mb (rc l)) := h
  have d1 : ¬ word < 1 := by omega
  have d2 : ¬ word > 30 := by omega
  obtain ⟨W, eW⟩ : ∃ W, W = w.alloc (.cells #[.int .i64 0, .int .i64 0] 34) := ⟨_, rfl⟩
  have BW : Hid (Below w.heap.size w W ∧ W.rowIs w.heap.size 34 2 (svL 0 0)) := by rw [eW]; exact ⟨(Below.refl _ _).alloc (Nat.le_refl _) _, svL_new w 0 0⟩
  rw [errF_no (by decide)]
  clear h hm
  go_enter Try.func7, Try.ntmps7
  go_wp2_with fail
  rw [← eW]
  refine (saidL_any (HG.out.later BW.out.1) word).mono ?_
  rintro e w1 ⟨rfl, hb⟩
  rw [HC.out]
  have B1 : Hid (Below w.heap.size w w1) := BW.out.1.trans (hb.mono BW.out.1.size)
  have R1 : Hid (w1.rowIs w.heap.size 34 2 (svL 0 0)) := row_laterL BW.out.2 hb
  have q0 : w1.cell? ⟨w.heap.size, 0, none⟩ = some (.int .i64 0) := World.rowIs.cell R1.out (i := 0) (by omega)
  have q1 : w1.cell? ⟨w.heap.size, 1, none⟩ = some (.int .i64 0) := World.rowIs.cell R1.out (i := 1) (by omega)
  have f0 := World.rowIs.frozen R1.out 0
  have f1 := World.rowIs.frozen R1.out 1
  clear hb eW
  go_wp2
  have r3 := (World.rowIs.set R1.out 0 (.int .i64 0)).set 1 (.int .i64 0)
  have u0 := r3.cell (i := 0) (by omega)
  have u1 := r3.cell (i := 1) (by omega)
  simp at u0 u1
  refine bodyPost_ret (v := .tuple #[.agg #[.int .i64 0, .int .i64 0], .iface 54 (.int .i64 7)]) (retL (B := w.heap.size) rfl rfl rfl u0 u1) rfl ?_
  exact ⟨rfl, (B1.out.setCell (p := ⟨w.heap.size, 0, none⟩) (Nat.le_refl _) _).setCell (p := ⟨w.heap.size, 1, none⟩) (Nat.le_refl _) _⟩
set_option maxRecDepth 100000 in
theorem say_okL (h : LF w base P mS mb (rc l)) (hi : Inv l) (hbw : base ≤ w.heap.size) (word : Int) (h1 : 1 ≤ word) (h30 : word ≤ 30) (hm : word ∉ l.ws) : Calls Try.prog 7 #[.pointer (some ⟨P, 0, none⟩), .int .i64 word] w fun x w' => x = .returned (.tuple #[.agg #[.int .i64 (l.ws.length : Int), .int .i64 word], .nilIface]) ∧ LF w' base P mS mb (rc { l with ws := l.ws ++ [word] }) ∧ Below base w w' ∧ KpL w w' (fpL P mS l.n mb) := by
  have HC : Hid (decide (word ∈ l.ws) = false) := decide_eq_false hm
  have HG : Hid (LF w base P mS mb (rc l) ∧ Inv l ∧ base ≤ w.heap.size) := ⟨h, hi, hbw⟩
  have d1 : ¬ word < 1 := by omega
  have d2 : ¬ word > 30 := by omega
  obtain ⟨W, eW⟩ : ∃ W, W = w.alloc (.cells #[.int .i64 0, .int .i64 0] 34) := ⟨_, rfl⟩
  have BW : Hid (Below w.heap.size w W ∧ W.rowIs w.heap.size 34 2 (svL 0 0)) := by rw [eW]; exact ⟨(Below.refl _ _).alloc (Nat.le_refl _) _, svL_new w 0 0⟩
  obtain ⟨n, en⟩ : ∃ n, n = l.ws.length := ⟨_, rfl⟩
  have h30' : n ≤ 30 := by have := hi.len; omega
  have EN : Hid (n = l.ws.length) := en
  rw [← en]
  clear h hm hi hbw en
  go_enter Try.func7, Try.ntmps7
  go_wp2_with fail
  rw [← eW]
  refine (saidL_any (HG.out.1.later BW.out.1) word).mono ?_
  rintro e w1 ⟨rfl, hb⟩
  rw [HC.out]
  have B1 : Hid (Below w.heap.size w w1) := BW.out.1.trans (hb.mono BW.out.1.size)
  have R1 : Hid (w1.rowIs w.heap.size 34 2 (svL 0 0)) := row_laterL BW.out.2 hb
  have G1 : Hid (LF w1 base P mS mb (rc l)) := HG.out.1.later B1.out
  have c1 := G1.out.c1
  have hln : (Builtin.len_ #[62] 3 #[.map (some mS)]).run Try.prog w1 = .ok (.int .i64 (n : Nat)) w1 := by
    rw [EN.out]
    exact mm_len G1.out.said 3 w1 rfl
  obtain ⟨W2, e2, m2, t2⟩ := G1.out.said.put Try.underlying62 (i := (n : Int)) (wfI (by omega) (by omega)) (.int .i64 word) (by show l.ws.length < _; rw [← EN.out]; omega)
  have hPn : P ≠ w.heap.size := by have := HG.out.1.lt; omega
  have hSn : mS ≠ w.heap.size := by have := HG.out.1.said.lt; omega
  have G2 : Hid (LF W2 base P mS mb (rc { l with ws := l.ws ++ [word] }) ∧ KpL w W2 (fpL P mS l.n mb) ∧ Below base w W2 ∧ W2.rowIs w.heap.size 34 2 (svL 0 0)) := by
    have hq : TS l.ws (n : Int) = none := TS_not (by have := EN.out; omega)
    refine ⟨(G1.out.turnS m2 t2).congr rfl (fun i => ?_) ?_ (fun m _ i => ?_) (fun m _ => ?_) (fun m _ => hn_say HG.out.2.1 word m), kp_trans (KpL.below B1.out _) (kp_turned t2 S_fp), (B1.out.mono HG.out.2.2).trans (turned_below t2 HG.out.1.low.2.1), World.rowIs.of_block R1.out (g_of_turned t2 (World.rowIs.lt R1.out) (fun e => hSn e.symm))⟩
    · show TS (l.ws ++ [word]) i = putT (TS l.ws) (n : Int) (.int .i64 word) i
      rw [TS_put, EN.out]
      rfl
    · show (l.ws ++ [word]).length = if (TS l.ws (n : Int)).isSome = true then l.ws.length else l.ws.length + 1
      rw [hq, List.length_append]
      rfl
    · show TW { l with ws := l.ws ++ [word] } m (hn { l with ws := l.ws ++ [word] } m) i = TW l m (hn l m) i
      rw [hn_say HG.out.2.1, TW_say HG.out.2.1]
    · show cW { l with ws := l.ws ++ [word] } m (hn { l with ws := l.ws ++ [word] } m) = cW l m (hn l m)
      rw [hn_say HG.out.2.1, cW_say HG.out.2.1]
  have q0 : W2.cell? ⟨w.heap.size, 0, none⟩ = some (.int .i64 0) := World.rowIs.cell G2.out.2.2.2 (i := 0) (by omega)
  have q1 : W2.cell? ⟨w.heap.size, 1, none⟩ = some (.int .i64 0) := World.rowIs.cell G2.out.2.2.2 (i := 1) (by omega)
  have f0 := World.rowIs.frozen G2.out.2.2.2 0
  have f1 := World.rowIs.frozen G2.out.2.2.2 1
  clear hb eW m2 t2
  go_wp2
  have r3 := (World.rowIs.set G2.out.2.2.2 0 (.int .i64 (n : Int))).set 1 (.int .i64 word)
  have u0 := r3.cell (i := 0) (by omega)
  have u1 := r3.cell (i := 1) (by omega)
  simp at u0 u1
  refine bodyPost_ret (v := .tuple #[.agg #[.int .i64 (n : Int), .int .i64 word], .nilIface]) (retL (B := w.heap.size) rfl rfl rfl u0 u1) rfl ?_
  exact ⟨rfl, G2.out.1.of_blocks fun z hz => two_setL (fun e => by have := (HG.out.1.fp z hz).2; omega) _ _, (G2.out.2.2.1.setCell (p := ⟨w.heap.size, 0, none⟩) HG.out.2.2 _).setCell (p := ⟨w.heap.size, 1, none⟩) HG.out.2.2 _, kp_twoL G2.out.2.1 _ _⟩
theorem sayL (base P : Nat) (l : L) (fp : List Nat) (word : Int) (w : World) (h : LS w base P l fp) (hi : Inv l) (hbw : base ≤ w.heap.size) : Calls Try.prog 7 #[.pointer (some ⟨P, 0, none⟩), .int .i64 word] w fun x w' => ∃ fp', x = .returned (.tuple #[.agg #[.int .i64 (sayP l word).1, .int .i64 (sayP l word).2], errF (sayC l word)]) ∧ LS w' base P (say l word) fp' ∧ Below base w w' ∧ KpL w w' fp ∧ NewL w fp fp' := by
  obtain ⟨mS, mb, rfl, h⟩ := h
  by_cases h1 : word < 1 ∨ 30 < word
  · have e0 : sayC l word = 1 := if_pos h1
    have e1 : sayP l word = (0, 0) := by unfold sayP; rw [e0, if_neg (by decide)]
    have e2 : say l word = l := by unfold say; rw [e0, if_neg (by decide)]
    rw [e0, e1, e2]
    refine (say_out P word w h1).mono ?_
    rintro x w' ⟨rfl, hb⟩
    exact ⟨_, rfl, ⟨mS, mb, rfl, h.later hb⟩, hb.mono hbw, KpL.below hb _, NewL.refl _ _⟩
  · by_cases hm : word ∈ l.ws
    · have e0 : sayC l word = 7 := by unfold sayC; rw [if_neg h1, if_pos hm]
      have e1 : sayP l word = (0, 0) := by unfold sayP; rw [e0, if_neg (by decide)]
      have e2 : say l word = l := by unfold say; rw [e0, if_neg (by decide)]
      rw [e0, e1, e2]
      refine (say_was h word (by omega) (by omega) hm).mono ?_
      rintro x w' ⟨rfl, hb⟩
      exact ⟨_, rfl, ⟨mS, mb, rfl, h.later hb⟩, hb.mono hbw, KpL.below hb _, NewL.refl _ _⟩
    · have e0 : sayC l word = 0 := by unfold sayC; rw [if_neg h1, if_neg hm]
      have e1 : sayP l word = ((l.ws.length : Int), word) := by unfold sayP; rw [e0, if_pos rfl]
      have e2 : say l word = { l with ws := l.ws ++ [word] } := by unfold say; rw [e0, if_pos rfl]
      rw [e0, e1, e2, errF_ok]
      refine (say_okL h hi hbw word (by omega) (by omega) hm).mono ?_
      rintro x w' ⟨rfl, h', hb, hk⟩
      exact ⟨_, rfl, ⟨mS, mb, rfl, h'⟩, hb, hk, NewL.refl _ _⟩
end Go.Proofs.Ytcccheeeagphpag.Ldr
