/-
  The document's own group that flushes: Change.
-/
import Derived.Test.YtgdmbnfdcbekaaiDoorFlqE
namespace Go.Proofs.YtgdmbnfdcbekaaiDoor.Flu
open Go.RowKit
open Go.Proofs.YtgdmbnfdcbekaaiDoor.Fif (own_lt own_block own_form own_vw ret_bool info_int new_int int_one)
open Go.Proofs.YtgdmbnfdcbekaaiDoor.Vec (Vw)
open Go.Proofs.YtgdmbnfdcbekaaiDoor.Viw (Vi refIn ret_iv refNext refShared Ow nxC nextC shared drewsV)
set_option linter.unusedVariables false
variable {w : World} {base R g cap : Nat} {f : F} {rv : Nat → Value}

theorem own_seen {w : World} {base c : Nat} {t : TypeId} {q : Option Addr} {n : Nat} {l : List Int} (h : w.ownsRow base t 1 (.slice q n c) n (l.map (Value.int .i64))) : Vw w q n l := by
  obtain ⟨a, cap, e, hv⟩ := own_vw h
  injection e with e1 _ _
  rw [e1]
  exact hv
theorem row_form (h : RF w base R f rv g cap) {k m : Nat} (hk : k ≤ num f) (hm : m < 5) : ∃ p l d, rv (ix k m) = .slice p l d := by
  obtain ⟨q, c, e, _⟩ := h.ints.see (ix_lt hk hm)
  exact ⟨q, _, c, e⟩
theorem infoFive : (Tryd.prog.info? 48).map (fun i => (i.zero, i.size, i.bytes)) = some (some (.agg #[nilV, nilV, nilV, nilV, nilV]), 5, 120) := by kernel_rfl
theorem info_five : ∃ i, Tryd.prog.info? 48 = some i ∧ i.zero = some (.agg #[nilV, nilV, nilV, nilV, nilV]) ∧ i.size = 5 ∧ i.bytes = 120 := by
  have h := infoFive
  cases hi : Tryd.prog.info? 48 with
  | none => rw [hi] at h; cases h
  | some i =>
    rw [hi] at h
    simp at h
    exact ⟨i, rfl, h.1, h.2.1, h.2.2⟩
theorem new_five (w : World) : ∀ j u, [nilV, nilV, nilV, nilV, nilV][j]? = some u → (w.alloc (.cells #[nilV, nilV, nilV, nilV, nilV] 48)).cell? ((⟨w.heap.size, 0, none⟩ : Addr).add j) = some u := World.news_of_block (w := w.alloc (.cells #[nilV, nilV, nilV, nilV, nilV] 48)) (B := w.heap.size) (cs := #[nilV, nilV, nilV, nilV, nilV]) (heap_alloc_new w _)
theorem five_one : ∀ u ∈ [nilV, nilV, nilV, nilV, nilV], u.oneCell' = true := by
  intro u hu
  simp at hu
  subst hu
  rfl
theorem grown_tmpC {w w5 : World} {ob : Obj} {r : Option Nat} (hg : (w.alloc ob).grownBy w5 r) : w.grownBy w5 r := by
  obtain ⟨a1, a2, a3, a4, a5⟩ := hg
  have b : Below w.heap.size w (w.alloc ob) := (Below.refl _ _).alloc (Nat.le_refl _) _
  exact ⟨a1, a2, a3, Nat.le_trans b.size a4, fun k hk hne => (a5 k (Nat.lt_of_lt_of_le hk b.size) hne).trans (b.block k hk)⟩
theorem news_of {w : World} {b o n : Nat} {l : List Int} (h : Vw w (some ⟨b, o, none⟩) n l) : ∀ j u, (l.map (Value.int .i64))[j]? = some u → w.cell? ((⟨b, o, none⟩ : Addr).add j) = some u := by
  intro j u hj
  have hjl : j < l.length := by
    have := (List.getElem?_eq_some_iff.1 hj).1
    rwa [List.length_map] at this
  obtain ⟨b', off, e, hlt, hc⟩ := h.2 (by have := h.1; omega)
  cases e
  rw [Addr.add_lit, hc j (by rw [← h.1]; exact hjl), ← hj, List.getElem?_map, List.getElem?_eq_getElem hjl]
  simp [List.getD, hjl]
theorem ints_one (l : List Int) : ∀ u ∈ l.map (Value.int .i64), u.oneCell' = true := by
  intro u hu
  obtain ⟨x, _, rfl⟩ := List.mem_map.1 hu
  rfl
theorem chC_nx (hi : Inv f) (has : List Int) : chC f has = nxC f.v has := if_pos hi.view
theorem drewN_below (w : World) (d : Nat) : Below w.heap.size w (w.drewN d) := ⟨rfl, rfl, rfl, Nat.le_refl _, fun _ _ => rfl⟩
set_option maxRecDepth 100000 in
theorem refChange_no (has : List Int) (qh : Option Addr) (lh ch : Nat) (h : RF w base R f rv g cap) (hi : Inv f) (hh : Vw w qh lh has) (hm : lh ≤ maxLen) (hc : chC f has ≠ 0) : Calls Tryd.prog 14 #[.pointer (some ⟨R, 0, none⟩), .slice qh lh ch] w fun e w' => e = .returned (.int .i64 (chC f has)) ∧ Below w.heap.size w w' := by
  obtain ⟨q0, k0, e0, hv0⟩ := h.ints.see (i := 0) (by unfold cntF; omega)
  have c0 := h.main.c0
  have c1 := h.main.c1
  rw [e0] at c1
  have el : lsF f 0 = f.v.has := rfl
  rw [el] at c1 hv0
  obtain ⟨l0, el0⟩ : ∃ l0, l0 = f.v.has.length := ⟨_, rfl⟩
  rw [← el0] at c1 hv0
  obtain ⟨cc, ecc⟩ : ∃ cc, cc = chC f has := ⟨_, rfl⟩
  obtain ⟨nv, env⟩ : ∃ nv, nv = f.v.n := ⟨_, rfl⟩
  rw [← env] at c0
  have hcc : (cc != 0) = true := by rw [bne_iff_ne, ecc]; exact hc
  have HV : Hid (Vw w q0 l0 f.v.has ∧ Vw w qh lh has ∧ lh ≤ maxLen ∧ Inv f ∧ cc = nxC f.v has ∧ nv = f.v.n) := ⟨hv0, hh, hm, hi, by rw [ecc]; exact chC_nx hi has, env⟩
  rw [← ecc]
  clear h hi hh hm hc hv0 el el0 ecc e0 env
  go_enter Tryd.func14, Tryd.ntmps14
  go_wp2_with fail
  rw [HV.out.2.2.2.2.2]
  refine (refNext f.v has q0 l0 k0 qh lh ch w HV.out.1 HV.out.2.1 HV.out.2.2.1 HV.out.2.2.2.1.view).mono ?_
  rintro e w1 ⟨rfl, hb⟩
  rw [← HV.out.2.2.2.2.1]
  have B1 : Hid (Below w.heap.size w w1) := hb
  clear hb
  go_wp2
  go_ret
  exact ⟨rfl, B1.out⟩
set_option maxRecDepth 100000 in
set_option maxHeartbeats 4000000 in
theorem refChange_ok (has : List Int) (qh : Option Addr) (lh ch : Nat) (h : RF w base R f rv g cap) (hi : Inv f) (hr : Rng f) (hn : f.v.n ≤ 1000) (hh : Vw w qh lh has) (hm : lh ≤ maxLen) (hk : ∀ ad, qh = some ad → 0 < lh → ¬ Fb R g (cntF f) rv ad.block) (hc : chC f has = 0) : Calls Tryd.prog 14 #[.pointer (some ⟨R, 0, none⟩), .slice qh lh ch] w fun e w' => ∃ rv' g' cap', e = .returned (.int .i64 0) ∧ FR w w' base R f (turn f has) rv rv' g g' cap' := by
  have hbw : base ≤ w.heap.size := Nat.le_trans h.low (Nat.le_of_lt (World.rowIs.lt h.main))
  have hlh : lh ≤ 5 ∧ 0 < lh := by
    have h1 := (Viw.next_ok hc).2.2.1
    have h2 := Viw.has_le h1
    have h3 := (Viw.has_ok h1).1
    have := hh.1
    omega
  obtain ⟨q0, k0, e0, hv0⟩ := h.ints.see (i := 0) (by unfold cntF; omega)
  have c0 := h.main.c0
  have c1 := h.main.c1
  rw [e0] at c1
  have el : lsF f 0 = f.v.has := rfl
  rw [el] at c1 hv0
  obtain ⟨l0, el0⟩ : ∃ l0, l0 = f.v.has.length := ⟨_, rfl⟩
  rw [← el0] at c1 hv0
  have hl0 : l0 ≤ 5 := by rw [el0]; exact has5 hi
  obtain ⟨N, eN⟩ : ∃ N, N = num f := ⟨_, rfl⟩
  have eNn : f.v.n = (N : Int) := by rw [eN]; exact hi.numI.symm
  have ev : f.v = ⟨(N : Int), f.v.has⟩ := by rw [← eNn]
  obtain ⟨K, eK⟩ : ∃ K, K = num f + 1 := ⟨_, rfl⟩
  have hN0 : (0 : Int) ≤ (N : Int) := by omega
  have hNK : (N : Int) < (K : Int) := by omega
  have hN1 : (N : Int) ≤ 1000 := by rw [← eNn]; exact hn
  rw [eNn] at c0
  obtain ⟨st, est⟩ : ∃ st, st = stay f has := ⟨_, rfl⟩
  have HC : Hid (RF w base R f rv g cap ∧ Inv f ∧ Rng f ∧ base ≤ w.heap.size ∧ N = num f ∧ K = num f + 1 ∧ st = stay f has ∧ (f.v.n = (N : Int) ∧ f.v = ⟨(N : Int), f.v.has⟩ ∧ nxC f.v has = 0)) := ⟨h, hi, hr, hbw, eN, eK, est, eNn, ev, by rw [← chC_nx hi]; exact hc⟩
  have HV : Hid (Vw w q0 l0 f.v.has ∧ Vw w qh lh has ∧ lh ≤ maxLen ∧ (∀ ad, qh = some ad → 0 < lh → ¬ Fb R g (cntF f) rv ad.block)) := ⟨hv0, hh, hm, hk⟩
  obtain ⟨qs, cs, es1, -⟩ := h.ints.see (i := 1) (by unfold cntF; omega)
  have el1 : lsF f 1 = f.said := rfl
  rw [el1] at es1
  obtain ⟨ls, els⟩ : ∃ ls, ls = f.said.length := ⟨_, rfl⟩
  have hls : ls ≤ 30 := by rw [els]; exact said30 hi
  rw [← els] at es1
  have ES : Hid (rv 1 = .slice qs ls cs ∧ ls = f.said.length) := ⟨es1, els⟩
  have hR := World.rowIs.lt h.main
  obtain ⟨ii, hii, hz0, hz1, hz2⟩ := info_int
  have HJ : Hid (Tryd.prog.info? 3 = some ii ∧ ii.zero = some (.int .i64 0) ∧ ii.size = 1 ∧ ii.bytes = 8) := ⟨hii, hz0, hz1, hz2⟩
  clear h hi hr hn hh hm hk hc hbw hv0 el el0 el1 es1 els eN eNn ev eK est e0 hii hz0 hz1 hz2
  go_enter Tryd.func14, Tryd.ntmps14
  go_wp2_with fail
  refine (refNext ⟨(N : Int), f.v.has⟩ has q0 l0 k0 qh lh ch w HV.out.1 HV.out.2.1 HV.out.2.2.1 (by rw [← HC.out.2.2.2.2.2.2.2.2.1]; exact HC.out.2.1.view)).mono ?_
  rintro e w1 ⟨rfl, hb1⟩
  rw [← HC.out.2.2.2.2.2.2.2.2.1, HC.out.2.2.2.2.2.2.2.2.2]
  have B1 : Hid (Below w.heap.size w w1) := hb1
  have d1 : w1.cell? ⟨R, 1, none⟩ = some (.slice q0 l0 k0) := (hb1.cell (p := ⟨R, 1, none⟩) hR).trans c1
  clear hb1 c0 c1
  go_wp2_with fail
  refine (refShared f.v.has has q0 l0 k0 qh lh ch w1 (HV.out.1.later B1.out) (HV.out.2.1.later B1.out) (by omega) (by omega)).mono ?_
  rintro e w2 ⟨vst, rfl, ho, hb2⟩
  obtain ⟨qst, cst, rfl⟩ := own_form ho
  have est2 : shared f.v.has has = st := HC.out.2.2.2.2.2.2.1.symm
  rw [est2] at ho ⊢
  obtain ⟨lst, elst⟩ : ∃ lst, lst = st.length := ⟨_, rfl⟩
  have B2 : Hid (Below w.heap.size w w2 ∧ w2.ownsRow w1.heap.size 3 1 (.slice qst lst cst) lst (st.map (Value.int .i64)) ∧ lst = st.length) := by
    rw [elst]
    exact ⟨B1.out.trans (hb2.mono B1.out.size), ho, rfl⟩
  have hlst : lst ≤ 5 := by
    have h1 := Viw.shared_len f.v.has has
    rw [est2] at h1
    have h2 := HV.out.1.1
    omega
  rw [← elst]
  clear ho hb2 est2 elst d1
  have F2 : Hid (RF w2 base R f rv g cap) := HC.out.1.later B2.out.1
  have x0 : w2.cell? ⟨R, 0, none⟩ = some (.int .i64 (N : Int)) := by rw [← HC.out.2.2.2.2.2.2.2.1]; exact F2.out.main.c0
  have x34 : w2.cell? ⟨R, 34, none⟩ = some (.slice (some ⟨g, 0, none⟩) K cap) := by rw [HC.out.2.2.2.2.2.1]; exact F2.out.main.cr
  have hNK' : N < num f + 1 := by have := HC.out.2.2.2.2.1; omega
  have g0 : w2.cell? ⟨g, N * 5, none⟩ = some (rv (ix N 0)) := F2.out.rows.cell (k := N) (m := 0) hNK' (by omega)
  have g1 : w2.cell? ⟨g, N * 5 + 1, none⟩ = some (rv (ix N 1)) := F2.out.rows.cell (k := N) (m := 1) hNK' (by omega)
  have g2 : w2.cell? ⟨g, N * 5 + 2, none⟩ = some (rv (ix N 2)) := F2.out.rows.cell (k := N) (m := 2) hNK' (by omega)
  have g3 : w2.cell? ⟨g, N * 5 + 3, none⟩ = some (rv (ix N 3)) := F2.out.rows.cell (k := N) (m := 3) hNK' (by omega)
  have g4 : w2.cell? ⟨g, N * 5 + 4, none⟩ = some (rv (ix N 4)) := F2.out.rows.cell (k := N) (m := 4) hNK' (by omega)
  obtain ⟨p0, m0, d0, ev0⟩ : ∃ p m d, rv (ix N 0) = .slice p m d := row_form F2.out (by have := HC.out.2.2.2.2.1; omega) (by omega)
  rw [ev0] at g0
  obtain ⟨p1, m1, d1, ev1⟩ : ∃ p m d, rv (ix N 1) = .slice p m d := row_form F2.out (by have := HC.out.2.2.2.2.1; omega) (by omega)
  rw [ev1] at g1
  obtain ⟨p2, m2, d2, ev2⟩ : ∃ p m d, rv (ix N 2) = .slice p m d := row_form F2.out (by have := HC.out.2.2.2.2.1; omega) (by omega)
  rw [ev2] at g2
  obtain ⟨p3, m3, d3, ev3⟩ : ∃ p m d, rv (ix N 3) = .slice p m d := row_form F2.out (by have := HC.out.2.2.2.2.1; omega) (by omega)
  rw [ev3] at g3
  obtain ⟨p4, m4, d4, ev4⟩ : ∃ p m d, rv (ix N 4) = .slice p m d := row_form F2.out (by have := HC.out.2.2.2.2.1; omega) (by omega)
  rw [ev4] at g4
  have EV : Hid (rv (ix N 0) = .slice p0 m0 d0 ∧ rv (ix N 1) = .slice p1 m1 d1 ∧ rv (ix N 2) = .slice p2 m2 d2 ∧ rv (ix N 3) = .slice p3 m3 d3 ∧ rv (ix N 4) = .slice p4 m4 d4) := ⟨ev0, ev1, ev2, ev3, ev4⟩
  clear ev0 ev1 ev2 ev3 ev4
  go_upto_region 5 with fail
  have hgl := F2.out.rows.lt
  have hRl := World.rowIs.lt F2.out.main
  go_region_held3 (fun X => X.cell? ⟨R, 0, none⟩ = some (.int .i64 (N : Int)) ∧ X.cell? ⟨R, 34, none⟩ = some (.slice (some ⟨g, 0, none⟩) K cap) ∧ X.cell? ⟨g, N * 5, none⟩ = some (.slice p0 m0 d0) ∧ X.cell? ⟨g, N * 5 + 1, none⟩ = some (.slice p1 m1 d1) ∧ X.cell? ⟨g, N * 5 + 2, none⟩ = some (.slice p2 m2 d2) ∧ X.cell? ⟨g, N * 5 + 3, none⟩ = some (.slice p3 m3 d3) ∧ X.cell? ⟨g, N * 5 + 4, none⟩ = some (.slice p4 m4 d4)) (first | exact ⟨x0, x34, g0, g1, g2, g3, g4⟩ | go_keep) (fail)
  obtain ⟨W3, eW3⟩ : ∃ W3, W3 = (w2.alloc (.cells #[.slice p0 m0 d0, .slice p1 m1 d1, .slice p2 m2 d2, .slice p3 m3 d3, .slice p4 m4 d4] 48)).drew := ⟨_, rfl⟩
  obtain ⟨B, eB⟩ : ∃ B, B = w2.heap.size := ⟨_, rfl⟩
  rw [← eW3, ← eB]
  have hlp : 0 < lst := by
    have h1 := Viw.few_no (Viw.next_ok (show nextC f.v has = 0 from by rw [show nextC f.v has = nxC f.v has from if_pos HC.out.2.1.view]; exact HC.out.2.2.2.2.2.2.2.2.2)).2.2.2
    have h2 := B2.out.2.2
    have h3 := HC.out.2.2.2.2.2.2.1
    rw [h2, h3]
    show 0 < (shared f.v.has has).length
    omega
  obtain ⟨bs, os, rfl, -, -⟩ := (own_seen B2.out.2.1).2 hlp
  have X3 : Hid (CX w W3 base R f rv rv g cap B (cur f) (some ⟨bs, os, none⟩) lst st ∧ Okg (cur f)) := by
    have b3 : Below w2.heap.size w2 W3 := by rw [eW3]; exact drewsV (below_alu _ _) 1
    have bw := B2.out.1
    have r := F2.out.rx.later b3
    have ob := own_lt B2.out.2.1 bs rfl
    have h1 := B1.out.size
    have nF : ∀ b, w.heap.size ≤ b → ¬ Fb R g (cntF f) rv b := fun b hb z => by have := (HC.out.1.fb z).2; omega
    refine ⟨⟨⟨r.main, r.ints.congr (fun i hi => lsG_start i hi) (fun _ _ => rfl), r.rows, r.low⟩, fun _ _ => rfl, ?_, ⟨nF B (by rw [eB]; exact bw.size), by rw [eB]; exact bw.size⟩, (own_seen B2.out.2.1).later b3, fun ad e _ => ?_, XR.later HC.out.2.2.2.1 (bw.trans (b3.mono bw.size)) _ _ _ _, HC.out.2.2.2.1⟩, Okg.start HC.out.2.1 HC.out.2.2.1⟩
    · have z := World.rowIs_alloc w2 #[.slice p0 m0 d0, .slice p1 m1 d1, .slice p2 m2 d2, .slice p3 m3 d3, .slice p4 m4 d4] 48 (fun m => rv (ix (num f) m)) (fun j hj => by
        rw [← HC.out.2.2.2.2.1]
        rcases j with _ | _ | _ | _ | _ | j
        · rw [EV.out.1]; rfl
        · rw [EV.out.2.1]; rfl
        · rw [EV.out.2.2.1]; rfl
        · rw [EV.out.2.2.2.1]; rfl
        · rw [EV.out.2.2.2.2]; rfl
        · exfalso; have : _ < 5 := hj; omega)
      rw [eW3, eB]
      exact z
    · cases e
      exact ⟨nF bs (by have h2 : w1.heap.size ≤ bs := ob.1; omega), by have h2 : bs < w2.heap.size := ob.2; show bs ≠ B; omega⟩
  clear eW3 x0 x34 g0 g1 g2 g3 g4 hgl hRl hNK' hR
  have LS : Hid (lst = st.length ∧ st = stay f has) := ⟨B2.out.2.2, HC.out.2.2.2.2.2.2.1⟩
  clear eB
  go_wp2_with fail
  go_loopw [8] (fun y wr => ∃ i : Nat, i ≤ ls ∧ y = .int .i64 (i : Int) ∧ Hid (∃ rvc, CX w wr base R f rv rvc g cap B (fl st (cur f) (f.said.take i)) (some ⟨bs, os, none⟩) lst st ∧ Okg (fl st (cur f) (f.said.take i)))) (fun y _ => ls - (intOf y).toNat)
  case atStart => exact ⟨0, by omega, rfl, rv, X3.out⟩
  case round =>
    obtain ⟨i, hi, rfl, hQ⟩ := hrel
    obtain ⟨rvc, hX, hO⟩ := hQ.out
    obtain ⟨gc, egc⟩ : ∃ gc, gc = fl st (cur f) (f.said.take i) := ⟨_, rfl⟩
    rw [← egc] at hX hO
    have CI : Hid (CX w wr base R f rv rvc g cap B gc (some ⟨bs, os, none⟩) lst st ∧ Okg gc ∧ gc = fl st (cur f) (f.said.take i)) := ⟨hX, hO, egc⟩
    obtain ⟨sv, s33, -⟩ := hX.said ES.out.1
    clear hX hO egc hQ
    obtain ⟨wo, ewo⟩ : ∃ wo, wo = wr := ⟨_, rfl⟩
    subst ewo
    by_cases hil : i < ls
    · have hil' : (i : Int) < (ls : Int) := by omega
      have hi0 : (0 : Int) ≤ (i : Int) := by omega
      obtain ⟨bq, oq, eqs, hbq, hcq⟩ := sv.2 (by omega)
      subst eqs
      obtain ⟨x, ex⟩ : ∃ x, x = f.said.getD i 0 := ⟨_, rfl⟩
      have yq : wo.cell? ⟨bq, oq + i, none⟩ = some (.int .i64 x) := by rw [ex]; exact hcq i hil
      have EX : Hid (x = f.said.getD i 0 ∧ (1 ≤ x ∧ x ≤ 30) ∧ bq < wo.heap.size) := ⟨ex, by rw [ex]; exact said_at HC.out.2.1 (by rw [← ES.out.2]; exact hil), hbq⟩
      clear hcq ex hbq sv
      go_wp2_with fail
      go_loopw [9, 10] (fun a y wz => ∃ k d : Nat, k ≤ lst ∧ y = .int .i64 (k : Int) ∧ a = .bool (anyK st gc x k) ∧ wz = wo.drewN d) (fun _ y _ => lst - (intOf y).toNat)
      case atStart => exact ⟨0, 0, by omega, rfl, rfl, rfl⟩
      case round =>
        obtain ⟨k, d, hk, rfl, rfl, hwz⟩ := hrel
        subst hwz
        by_cases hkl : k < lst
        · have hkl' : (k : Int) < (lst : Int) := by omega
          have hk0 : (0 : Int) ≤ (k : Int) := by omega
          obtain ⟨s, es, hs5⟩ := stay_at HC.out.2.1 (has := has) (k := k) (by rw [← LS.out.2, ← LS.out.1]; exact hkl)
          rw [← LS.out.2] at es
          obtain ⟨q9, c9, e9, hv9, yb, -⟩ := CI.out.1.see hs5
          obtain ⟨l9, el9⟩ : ∃ l9, l9 = (gc s).length := ⟨_, rfl⟩
          rw [← el9] at hv9 yb
          have hl9 : l9 ≤ 30 := by rw [el9]; exact CI.out.2.1.len s
          have ys : wo.cell? ⟨bs, os + k, none⟩ = some (.int .i64 (s : Int)) := by
            obtain ⟨b', o', e', _, hc'⟩ := CI.out.1.sv.2 (by omega)
            cases e'
            rw [hc' k hkl, es]
          have hs0 : (0 : Int) ≤ (s : Int) := by omega
          have hs5' : (s : Int) < 5 := by omega
          obtain ⟨b2, eb2⟩ : ∃ b, b = (gc s).contains x := ⟨_, rfl⟩
          obtain ⟨b1, eb1⟩ : ∃ b, b = anyK st gc x k := ⟨_, rfl⟩
          have HS : Hid (anyK st gc x (k + 1) = (b1 || b2)) := by
            rw [anyK_step (by rw [← LS.out.1]; exact hkl), es, Int.toNat_natCast, eb1, eb2]
            congr 1
            rw [Bool.eq_iff_iff, decide_eq_true_eq, List.contains_iff_mem]
          have HV9 : Hid (Vw wo q9 l9 (gc s) ∧ b2 = (gc s).contains x) := ⟨hv9, eb2⟩
          rw [← eb1]
          clear hv9 eb1 eb2 el9 es e9
          go_wp2_with fail
          go_region_held3 (fun X => X.cell? ⟨bs, os + k, none⟩ = some (.int .i64 (s : Int)) ∧ X.cell? ⟨B, s, none⟩ = some (.slice q9 l9 c9) ∧ X.cell? ⟨R, 33, none⟩ = some (.slice (some ⟨bq, oq, none⟩) ls cs) ∧ X.cell? ⟨bq, oq + i, none⟩ = some (.int .i64 x)) (exact ⟨ys, yb, s33, yq⟩) (first
            | (go_at_call 29; refine (refIn q9 l9 c9 (gc s) x _ (by exact HV9.out.1) (by omega)).mono ?_; rintro e9 w9 ⟨rfl, rfl⟩; rw [← HV9.out.2]))
          cases b1 <;> cases b2
          all_goals
            go_wp2
            go_roundw
            case rel => exact ⟨k + 1, d + 1, by omega, by go_num, by rw [HS.out]; rfl, rfl⟩
            case measure => simp [intOf]; omega
        · have hkl' : ¬ (k : Int) < (lst : Int) := by omega
          have ek : lst = k := by omega
          subst ek
          have HA : Hid (anyK st gc x lst = anyH st gc x) := by rw [LS.out.1]; exact anyK_all
          rw [HA.out]
          obtain ⟨V4, eV4⟩ : ∃ V4, V4 = wo.drewN d := ⟨_, rfl⟩
          rw [← eV4]
          have bW : Below wo.heap.size wo V4 := by rw [eV4]; exact drewN_below _ _
          have C4 : Hid (CX w V4 base R f rv rvc g cap B gc (some ⟨bs, os, none⟩) lst st ∧ Okg gc ∧ gc = fl st (cur f) (f.said.take i)) := ⟨CI.out.1.later bW (Nat.le_trans CI.out.1.rx.low (Nat.le_of_lt CI.out.1.rx.lt)), CI.out.2⟩
          clear eV4 bW
          have NXT : Hid (fl st (cur f) (f.said.take (i + 1)) = hearW st gc x) := by
            rw [C4.out.2.2, EX.out.1]
            have e : f.said.take (i + 1) = f.said.take i ++ [f.said.getD i 0] := take_snoc (st := f.said) (by rw [← ES.out.2]; exact hil)
            rw [e]
            exact fl_snoc _ _ _ _
          cases ha : anyH st gc x
          · have E5 : Hid (hearW st gc x = gc) := hearW_none ha
            clear ha
            have hl0' : (0 : Int) < (lst : Int) := by omega
            go_wp2_with fail
            go_loopw [12] (fun y wz => y = .int .i64 0 ∧ wz = V4) (fun _ _ => 0)
            case atStart => exact ⟨rfl, rfl⟩
            case round =>
              obtain ⟨rfl, hwz⟩ := hrel
              subst hwz
              go_wp2
              go_roundw
              case rel => exact ⟨i + 1, by omega, by go_num, rvc, by rw [NXT.out, E5.out]; exact ⟨C4.out.1, C4.out.2.1⟩⟩
              case measure => simp [intOf]; omega
          · have E5 : Hid (heK st gc x lst = hearW st gc x) := by rw [LS.out.1]; exact heK_all ha
            clear ha
            have hl0' : (0 : Int) < (lst : Int) := by omega
            clear s33 yq
            go_wp2_with fail
            go_loopw [12] (fun y wz => ∃ k : Nat, k ≤ lst ∧ y = .int .i64 (k : Int) ∧ Hid (∃ rvd, CX w wz base R f rv rvd g cap B (heK st gc x k) (some ⟨bs, os, none⟩) lst st)) (fun y _ => lst - (intOf y).toNat)
            case atStart => exact ⟨0, by omega, rfl, rvc, by rw [heK_zero]; exact C4.out.1⟩
            case round =>
              obtain ⟨k, hk, rfl, hQ⟩ := hrel
              obtain ⟨rvd, hD⟩ := hQ.out
              have CD : Hid (CX w wr base R f rv rvd g cap B (heK st gc x k) (some ⟨bs, os, none⟩) lst st) := hD
              clear hQ
              obtain ⟨wo, ewo⟩ : ∃ wo, wo = wr := ⟨_, rfl⟩
              subst ewo
              by_cases hkl : k < lst
              · have hkl' : (k : Int) < (lst : Int) := by omega
                have hk0 : (0 : Int) ≤ (k : Int) := by omega
                obtain ⟨s, es, hs5⟩ := stay_at HC.out.2.1 (has := has) (k := k) (by rw [← LS.out.2, ← LS.out.1]; exact hkl)
                rw [← LS.out.2] at es
                obtain ⟨ge, ege⟩ : ∃ ge, ge = heK st gc x k := ⟨_, rfl⟩
                rw [← ege] at hD
                obtain ⟨q9, c9, e9, hv9, yb, o9⟩ := hD.see hs5
                obtain ⟨l9, el9⟩ : ∃ l9, l9 = (ge s).length := ⟨_, rfl⟩
                rw [← el9] at hv9 yb e9 o9
                have hl9 : l9 ≤ 30 := by rw [el9, ege]; exact (C4.out.2.1.heK EX.out.2.1 st k).len s
                obtain ⟨sv, s33, sf⟩ := hD.said ES.out.1
                have ys : wo.cell? ⟨bs, os + k, none⟩ = some (.int .i64 (s : Int)) := by
                  obtain ⟨b', o', e', _, hc'⟩ := hD.sv.2 (by omega)
                  cases e'
                  rw [hc' k hkl, es]
                have yq : wo.cell? ⟨bq, oq + i, none⟩ = some (.int .i64 x) := by
                  obtain ⟨b', o', e', _, hc'⟩ := sv.2 (by omega)
                  cases e'
                  rw [hc' i hil, EX.out.1]
                have hs0 : (0 : Int) ≤ (s : Int) := by omega
                have hs5' : (s : Int) < 5 := by omega
                have HV9 : Hid (Vw wo q9 l9 (ge s) ∧ ge = heK st gc x k ∧ l9 = (ge s).length ∧ st.getD k 0 = (s : Int) ∧ s < 5 ∧ rvd (ix (num f) s) = .slice q9 l9 c9 ∧ wo.ownsRow base 3 1 (.slice q9 l9 c9) l9 ((ge s).map (Value.int .i64)) ∧ k < st.length) := ⟨hv9, ege, el9, es, hs5, e9, o9, by rw [← LS.out.1]; exact hkl⟩
                by_cases hin : x ∈ ge s
                · have HI : Hid ((ge s).contains x = true ∧ x ∈ ge s) := ⟨List.contains_iff_mem.2 hin, hin⟩
                  clear hv9 ege el9 es e9 o9 sv sf hD hin
                  go_wp2_with fail
                  go_region_held3 (fun X => X.cell? ⟨bs, os + k, none⟩ = some (.int .i64 (s : Int)) ∧ X.cell? ⟨B, s, none⟩ = some (.slice q9 l9 c9) ∧ X.cell? ⟨R, 33, none⟩ = some (.slice (some ⟨bq, oq, none⟩) ls cs) ∧ X.cell? ⟨bq, oq + i, none⟩ = some (.int .i64 x)) (exact ⟨ys, yb, s33, yq⟩) (first
                    | (go_at_call 29; refine (refIn q9 l9 c9 (ge s) x _ (by exact HV9.out.1) (by omega)).mono ?_; rintro e9 w9 ⟨rfl, rfl⟩; rw [HI.out.1]))
                  have NX : Hid (CX w wo.drew base R f rv rvd g cap B (heK st gc x (k + 1)) (some ⟨bs, os, none⟩) lst st) := by
                    rw [heK_had HV9.out.2.2.2.2.2.2.2 HV9.out.2.2.2.1 (by rw [← HV9.out.2.1]; exact HI.out.2)]
                    exact CD.out.later (drewN_below wo 1) (Nat.le_trans CD.out.rx.low (Nat.le_of_lt CD.out.rx.lt))
                  go_wp2
                  go_roundw
                  case rel => exact ⟨k + 1, by omega, by go_num, rvd, NX.out⟩
                  case measure => simp [intOf]; omega
                · have HI : Hid ((ge s).contains x = false ∧ x ∉ ge s) := ⟨by rw [Bool.eq_false_iff]; exact fun z => hin (List.contains_iff_mem.1 z), hin⟩
                  clear hv9 ege el9 es e9 o9 sv sf hD hin
                  go_wp2_with fail
                  go_region_held3 (fun X => X.cell? ⟨bs, os + k, none⟩ = some (.int .i64 (s : Int)) ∧ X.cell? ⟨B, s, none⟩ = some (.slice q9 l9 c9) ∧ X.cell? ⟨R, 33, none⟩ = some (.slice (some ⟨bq, oq, none⟩) ls cs) ∧ X.cell? ⟨bq, oq + i, none⟩ = some (.int .i64 x)) (exact ⟨ys, yb, s33, yq⟩) (first
                    | (go_at_call 29; refine (refIn q9 l9 c9 (ge s) x _ (by exact HV9.out.1) (by omega)).mono ?_; rintro e9 w9 ⟨rfl, rfl⟩; rw [HI.out.1]))
                  go_upto_region 20 with fail
                  obtain ⟨W4, eW4⟩ : ∃ W4, W4 = wo.drew := ⟨_, rfl⟩
                  rw [← eW4]
                  have bW : Below wo.heap.size wo W4 := by rw [eW4]; exact drewN_below wo 1
                  have C5 : Hid (CX w W4 base R f rv rvd g cap B ge (some ⟨bs, os, none⟩) lst st) := by
                    rw [HV9.out.2.1]
                    exact CD.out.later bW (Nat.le_trans CD.out.rx.low (Nat.le_of_lt CD.out.rx.lt))
                  clear ys yb s33 yq
                  have yb : W4.cell? ⟨B, s, none⟩ = some (.slice q9 l9 c9) := by rw [World.rowIs.cell C5.out.bx (i := s) HV9.out.2.2.2.2.1, HV9.out.2.2.2.2.2.1]
                  have yz := World.rowIs.frozen C5.out.bx s
                  have hBl := World.rowIs.lt C5.out.bx
                  have hR4 := C5.out.rx.lt
                  obtain ⟨sv, y33, sf⟩ := C5.out.said ES.out.1
                  have ys : W4.cell? ⟨bs, os + k, none⟩ = some (.int .i64 (s : Int)) := by
                    obtain ⟨b', o', e', _, hc'⟩ := C5.out.sv.2 (by omega)
                    cases e'
                    rw [hc' k hkl, HV9.out.2.2.2.1]
                  have hbs : bs < W4.heap.size := by
                    obtain ⟨b', o', e', hl', _⟩ := C5.out.sv.2 (by omega)
                    cases e'
                    exact hl'
                  have yq : W4.cell? ⟨bq, oq + i, none⟩ = some (.int .i64 x) := by
                    obtain ⟨b', o', e', _, hc'⟩ := sv.2 (by omega)
                    cases e'
                    rw [hc' i hil, EX.out.1]
                  have hbq : bq < W4.heap.size := by
                    obtain ⟨b', o', e', hl', _⟩ := sv.2 (by omega)
                    cases e'
                    exact hl'
                  have NB : Hid (some B ≠ (Value.slice q9 l9 c9).ownBlock ∧ some bs ≠ (Value.slice q9 l9 c9).ownBlock ∧ some R ≠ (Value.slice q9 l9 c9).ownBlock ∧ some bq ≠ (Value.slice q9 l9 c9).ownBlock ∧ B ≠ bs ∧ B ≠ R ∧ B ≠ bq) := by
                    have h5 := HV9.out.2.2.2.2.1
                    have e := HV9.out.2.2.2.2.2.1
                    have n1 := C5.out.neR h5
                    have n2 := C5.out.stayF _ rfl (by omega) s h5
                    have n3 := sf _ rfl (by omega) s h5
                    rw [e] at n1 n2 n3
                    exact ⟨fun z => n1.2.1 z.symm, fun z => n2.1 z.symm, fun z => n1.1 z.symm, fun z => n3.1 z.symm, fun z => n2.2 z.symm, fun z => n1.2.2 z.symm, fun z => n3.2 z.symm⟩
                  have OH : Hid (W4.ownsRow base 3 1 (.slice q9 l9 c9) l9 ((ge s).map (Value.int .i64)) ∧ base ≤ W4.heap.size) := ⟨own_block HV9.out.2.2.2.2.2.2.1 fun b hb => bW.block b (own_lt HV9.out.2.2.2.2.2.2.1 b hb).2, Nat.le_trans C5.out.rx.low (Nat.le_of_lt C5.out.rx.lt)⟩
                  clear eW4 bW sv sf
                  refine wp_region_held_drew (S := fun X => X.cell? ⟨bs, os + k, none⟩ = some (.int .i64 (s : Int)) ∧ X.cell? ⟨R, 33, none⟩ = some (.slice (some ⟨bq, oq, none⟩) ls cs) ∧ X.cell? ⟨bq, oq + i, none⟩ = some (.int .i64 x)) (by kernel_rfl) ⟨ys, y33, yq⟩ ?_
                  intro hS
                  refine takeH (i := 0) 99 (v := .slice (some ⟨bs, os, none⟩) lst cst) rfl rfl (by kernel_rfl) (by kernel_rfl) (by kernel_rfl) (fun _ _ _ h => h) (Or.inl ⟨by kernel_rfl, fun _ hS => by first | rfl | (obtain ⟨g0, g33, g1⟩ := hS; go_simp)⟩) hS ?_
                  try simp only [Act.put, List.setIfInBounds_toArray, List.set_cons_zero, List.set_cons_succ]
                  refine takeH (i := 1) 100 (v := .int .i64 (k : Int)) rfl rfl (by kernel_rfl) (by kernel_rfl) (by kernel_rfl) (fun _ _ _ h => h) (Or.inl ⟨by kernel_rfl, fun _ hS => by first | rfl | (obtain ⟨g0, g33, g1⟩ := hS; go_simp)⟩) hS ?_
                  try simp only [Act.put, List.setIfInBounds_toArray, List.set_cons_zero, List.set_cons_succ]
                  refine takeH (i := 2) 101 (v := .pointer (some ⟨bs, os + k, none⟩)) rfl rfl (by kernel_rfl) (by kernel_rfl) (by kernel_rfl) (fun _ _ _ h => h) (Or.inl ⟨by kernel_rfl, fun _ hS => by first | rfl | (obtain ⟨g0, g33, g1⟩ := hS; go_simp)⟩) hS ?_
                  try simp only [Act.put, List.setIfInBounds_toArray, List.set_cons_zero, List.set_cons_succ]
                  refine takeH (i := 3) 102 (v := .int .i64 (s : Int)) rfl rfl (by kernel_rfl) (by kernel_rfl) (by kernel_rfl) (fun _ _ _ h => h) (Or.inl ⟨by kernel_rfl, fun _ hS => by first | rfl | (obtain ⟨g0, g33, g1⟩ := hS; go_simp)⟩) hS ?_
                  try simp only [Act.put, List.setIfInBounds_toArray, List.set_cons_zero, List.set_cons_succ]
                  refine takeH (i := 4) 103 (v := .slice (some ⟨bs, os, none⟩) lst cst) rfl rfl (by kernel_rfl) (by kernel_rfl) (by kernel_rfl) (fun _ _ _ h => h) (Or.inl ⟨by kernel_rfl, fun _ hS => by first | rfl | (obtain ⟨g0, g33, g1⟩ := hS; go_simp)⟩) hS ?_
                  try simp only [Act.put, List.setIfInBounds_toArray, List.set_cons_zero, List.set_cons_succ]
                  refine takeH (i := 5) 104 (v := .int .i64 (k : Int)) rfl rfl (by kernel_rfl) (by kernel_rfl) (by kernel_rfl) (fun _ _ _ h => h) (Or.inl ⟨by kernel_rfl, fun _ hS => by first | rfl | (obtain ⟨g0, g33, g1⟩ := hS; go_simp)⟩) hS ?_
                  try simp only [Act.put, List.setIfInBounds_toArray, List.set_cons_zero, List.set_cons_succ]
                  refine takeH (i := 6) 105 (v := .pointer (some ⟨bs, os + k, none⟩)) rfl rfl (by kernel_rfl) (by kernel_rfl) (by kernel_rfl) (fun _ _ _ h => h) (Or.inl ⟨by kernel_rfl, fun _ hS => by first | rfl | (obtain ⟨g0, g33, g1⟩ := hS; go_simp)⟩) hS ?_
                  try simp only [Act.put, List.setIfInBounds_toArray, List.set_cons_zero, List.set_cons_succ]
                  refine takeH (i := 7) 106 (v := .int .i64 (s : Int)) rfl rfl (by kernel_rfl) (by kernel_rfl) (by kernel_rfl) (fun _ _ _ h => h) (Or.inl ⟨by kernel_rfl, fun _ hS => by first | rfl | (obtain ⟨g0, g33, g1⟩ := hS; go_simp)⟩) hS ?_
                  try simp only [Act.put, List.setIfInBounds_toArray, List.set_cons_zero, List.set_cons_succ]
                  refine takeH (i := 8) 107 (v := .pointer (some ⟨B, s, none⟩)) rfl rfl (by kernel_rfl) (by kernel_rfl) (by kernel_rfl) (fun _ _ _ h => h) (Or.inl ⟨by kernel_rfl, fun _ hS => by first | rfl | (obtain ⟨g0, g33, g1⟩ := hS; go_simp)⟩) hS ?_
                  try simp only [Act.put, List.setIfInBounds_toArray, List.set_cons_zero, List.set_cons_succ]
                  refine takeH (i := 10) 109 (v := .pointer (some ⟨R, 0, none⟩)) rfl rfl (by kernel_rfl) (by kernel_rfl) (by kernel_rfl) (fun _ _ _ h => h) (Or.inl ⟨by kernel_rfl, fun _ hS => by first | rfl | (obtain ⟨g0, g33, g1⟩ := hS; go_simp)⟩) hS ?_
                  try simp only [Act.put, List.setIfInBounds_toArray, List.set_cons_zero, List.set_cons_succ]
                  refine takeH (i := 11) 110 (v := .pointer (some ⟨R, 0, none⟩)) rfl rfl (by kernel_rfl) (by kernel_rfl) (by kernel_rfl) (fun _ _ _ h => h) (Or.inl ⟨by kernel_rfl, fun _ hS => by first | rfl | (obtain ⟨g0, g33, g1⟩ := hS; go_simp)⟩) hS ?_
                  try simp only [Act.put, List.setIfInBounds_toArray, List.set_cons_zero, List.set_cons_succ]
                  refine takeH (i := 12) 111 (v := .pointer (some ⟨R, 33, none⟩)) rfl rfl (by kernel_rfl) (by kernel_rfl) (by kernel_rfl) (fun _ _ _ h => h) (Or.inl ⟨by kernel_rfl, fun _ hS => by first | rfl | (obtain ⟨g0, g33, g1⟩ := hS; go_simp)⟩) hS ?_
                  try simp only [Act.put, List.setIfInBounds_toArray, List.set_cons_zero, List.set_cons_succ]
                  refine takeH (i := 13) 112 (v := .slice (some ⟨bq, oq, none⟩) ls cs) rfl rfl (by kernel_rfl) (by kernel_rfl) (by kernel_rfl) (fun _ _ _ h => h) (Or.inl ⟨by kernel_rfl, fun _ hS => by first | rfl | (obtain ⟨g0, g33, g1⟩ := hS; go_simp)⟩) hS ?_
                  try simp only [Act.put, List.setIfInBounds_toArray, List.set_cons_zero, List.set_cons_succ]
                  refine takeH (i := 14) 113 (v := .int .i64 (i : Int)) rfl rfl (by kernel_rfl) (by kernel_rfl) (by kernel_rfl) (fun _ _ _ h => h) (Or.inl ⟨by kernel_rfl, fun _ hS => by first | rfl | (obtain ⟨g0, g33, g1⟩ := hS; go_simp)⟩) hS ?_
                  try simp only [Act.put, List.setIfInBounds_toArray, List.set_cons_zero, List.set_cons_succ]
                  refine takeH (i := 15) 114 (v := .pointer (some ⟨bq, oq + i, none⟩)) rfl rfl (by kernel_rfl) (by kernel_rfl) (by kernel_rfl) (fun _ _ _ h => h) (Or.inl ⟨by kernel_rfl, fun _ hS => by first | rfl | (obtain ⟨g0, g33, g1⟩ := hS; go_simp)⟩) hS ?_
                  try simp only [Act.put, List.setIfInBounds_toArray, List.set_cons_zero, List.set_cons_succ]
                  refine takeH (i := 16) 115 (v := .int .i64 x) rfl rfl (by kernel_rfl) (by kernel_rfl) (by kernel_rfl) (fun _ _ _ h => h) (Or.inl ⟨by kernel_rfl, fun _ hS => by first | rfl | (obtain ⟨g0, g33, g1⟩ := hS; go_simp)⟩) hS ?_
                  try simp only [Act.put, List.setIfInBounds_toArray, List.set_cons_zero, List.set_cons_succ]
                  refine wpAnyH_ready (rs := [9, 17]) (by kernel_rfl) (by simp) ?_
                  refine AllReadyH.cons rfl (fun K9 hK9 => ?_) (AllReadyH.cons rfl (fun K9 hK9 => ?_) AllReadyH.nil)
                  · go_simp
                    refine hK9.out _ _ hS (fun hS => ?_)
                    clear hK9 K9
                    refine wpAnyH_ready (rs := [17]) (by kernel_rfl) (by simp) ?_
                    refine AllReadyH.cons rfl (fun K9 hK9 => ?_) AllReadyH.nil
                    go_simp
                    refine hK9.out _ _ ⟨(World.cell?_alloc_lt _ _ _ hbs).trans ys, (World.cell?_alloc_lt _ _ _ hR4).trans y33, (World.cell?_alloc_lt _ _ _ hbq).trans yq⟩ (fun hS => ?_)
                    clear hK9 K9
                    refine wpAnyH_ready (rs := [18]) (by kernel_rfl) (by simp) ?_
                    refine AllReadyH.cons rfl (fun K9 hK9 => ?_) AllReadyH.nil
                    (refine step_append_lies _ (by rfl) _ _ _ (by rfl) base 3 ii (.int .i64 0) 1 8 Tryd.underlying28 HJ.out.1 HJ.out.2.1 HJ.out.2.2.1 HJ.out.2.2.2 rfl (by omega) (.slice q9 l9 c9) l9 ((ge s).map (Value.int .i64)) (by rfl) (by exact own_pushF OH.out.1 rfl) ⟨W4.heap.size, 0, none⟩ 1 1 [.int .i64 x] (by rfl) (by rfl) (by exact new_pushF rfl) (int_one _) (by omega) (by unfold maxLen; omega) (by omega) (by have := OH.out.2; simp; omega) (W4.heap.size + 1) (by simp) ?_; intro gh gc5 w5 hown hgrow hat hlt5; have HG5 : Hid (W4.grownBy w5 (Value.slice q9 l9 c9).ownBlock) := grown_tmpF hgrow rfl rfl rfl rfl; have HO5 : Hid (w5.ownsRow base 3 1 (.slice (some ⟨gh, 0, none⟩) (l9 + 1) gc5) (l9 + 1) ((ge s).map (Value.int .i64) ++ [.int .i64 x]) ∧ ((Value.slice q9 l9 c9).ownBlock = some gh ∨ W4.heap.size ≤ gh)) := ⟨hown, (hat.imp id (fun e => by omega))⟩; have l5 : w5.cell? ⟨B, s, none⟩ = some (.slice q9 l9 c9) := (HG5.out.cell_far ⟨B, s, none⟩ hBl NB.out.1).trans yb; have m5 : w5.frozen? ⟨B, s, none⟩ = false := (HG5.out.frozen_far ⟨B, s, none⟩ hBl NB.out.1).trans yz; have s5 : w5.cell? ⟨bs, os + k, none⟩ = some (.int .i64 (s : Int)) := (HG5.out.cell_far ⟨bs, os + k, none⟩ hbs NB.out.2.1).trans ys; have r5 : w5.cell? ⟨R, 33, none⟩ = some (.slice (some ⟨bq, oq, none⟩) ls cs) := (HG5.out.cell_far ⟨R, 33, none⟩ hR4 NB.out.2.2.1).trans y33; have t5 : w5.cell? ⟨bq, oq + i, none⟩ = some (.int .i64 x) := (HG5.out.cell_far ⟨bq, oq + i, none⟩ hbq NB.out.2.2.2.1).trans yq; clear hown hgrow hat hlt5)
                    refine hK9.out _ _ ⟨s5, r5, t5⟩ (fun hS => ?_)
                    clear hK9 K9
                    refine takeH (i := 19) 118 (v := .pointer (some ⟨B, s, none⟩)) rfl rfl (by kernel_rfl) (by kernel_rfl) (by kernel_rfl) (fun _ _ _ h => h) (Or.inl ⟨by kernel_rfl, fun _ hS => by first | rfl | (obtain ⟨g0, g33, g1⟩ := hS; go_simp)⟩) hS ?_
                    refine wpAnyH_ready (rs := [20]) (by kernel_rfl) (by simp) ?_
                    refine AllReadyH.cons rfl (fun K9 hK9 => ?_) AllReadyH.nil
                    go_simp
                    refine hK9.out _ _ ⟨(World.cell?_setCell_far _ _ _ _ NB.out.2.2.2.2.1).trans s5, (World.cell?_setCell_far _ _ _ _ NB.out.2.2.2.2.2.1).trans r5, (World.cell?_setCell_far _ _ _ _ NB.out.2.2.2.2.2.2).trans t5⟩ (fun hS => ?_)
                    clear hK9 K9
                    refine wpAnyH_done (by kernel_rfl) ?_ _
                    obtain ⟨W6, eW6⟩ : ∃ W6, W6 = w5.setCell ⟨B, s, none⟩ (.slice (some ⟨gh, 0, none⟩) (l9 + 1) gc5) := ⟨_, rfl⟩
                    rw [← eW6]
                    have X6 : Hid (∃ rvd, CX w W6 base R f rv rvd g cap B (heK st gc x (k + 1)) (some ⟨bs, os, none⟩) lst st) := by
                      have z := C5.out.app HV9.out.2.2.2.2.1 HV9.out.2.2.1 (by rw [HV9.out.2.2.2.2.2.1]; exact HG5.out) HO5.out.1 (by rw [HV9.out.2.2.2.2.2.1]; exact HO5.out.2)
                      rw [← eW6] at z
                      have e := heK_new HV9.out.2.2.2.2.2.2.2 HV9.out.2.2.2.1 (gc := gc) (x := x) (by rw [← HV9.out.2.1]; exact HI.out.2)
                      rw [← HV9.out.2.1] at e
                      rw [e]
                      exact ⟨_, z⟩
                    clear eW6 l5 m5 s5 r5 t5
                    go_wp2
                    go_roundw
                    case rel => exact ⟨k + 1, by omega, by go_num, X6.out⟩
                    case measure => simp [intOf]; omega
                  · go_simp
                    refine hK9.out _ _ ⟨(World.cell?_alloc_lt _ _ _ hbs).trans ys, (World.cell?_alloc_lt _ _ _ hR4).trans y33, (World.cell?_alloc_lt _ _ _ hbq).trans yq⟩ (fun hS => ?_)
                    clear hK9 K9
                    refine wpAnyH_ready (rs := [9]) (by kernel_rfl) (by simp) ?_
                    refine AllReadyH.cons rfl (fun K9 hK9 => ?_) AllReadyH.nil
                    go_simp
                    refine hK9.out _ _ ⟨(World.cell?_alloc_lt _ _ _ hbs).trans ys, (World.cell?_alloc_lt _ _ _ hR4).trans y33, (World.cell?_alloc_lt _ _ _ hbq).trans yq⟩ (fun hS => ?_)
                    clear hK9 K9
                    refine wpAnyH_ready (rs := [18]) (by kernel_rfl) (by simp) ?_
                    refine AllReadyH.cons rfl (fun K9 hK9 => ?_) AllReadyH.nil
                    (refine step_append_lies _ (by rfl) _ _ _ (by rfl) base 3 ii (.int .i64 0) 1 8 Tryd.underlying28 HJ.out.1 HJ.out.2.1 HJ.out.2.2.1 HJ.out.2.2.2 rfl (by omega) (.slice q9 l9 c9) l9 ((ge s).map (Value.int .i64)) (by rfl) (by exact own_pushF OH.out.1 rfl) ⟨W4.heap.size, 0, none⟩ 1 1 [.int .i64 x] (by rfl) (by rfl) (by exact new_pushF rfl) (int_one _) (by omega) (by unfold maxLen; omega) (by omega) (by have := OH.out.2; simp; omega) (W4.heap.size + 1) (by simp) ?_; intro gh gc5 w5 hown hgrow hat hlt5; have HG5 : Hid (W4.grownBy w5 (Value.slice q9 l9 c9).ownBlock) := grown_tmpF hgrow rfl rfl rfl rfl; have HO5 : Hid (w5.ownsRow base 3 1 (.slice (some ⟨gh, 0, none⟩) (l9 + 1) gc5) (l9 + 1) ((ge s).map (Value.int .i64) ++ [.int .i64 x]) ∧ ((Value.slice q9 l9 c9).ownBlock = some gh ∨ W4.heap.size ≤ gh)) := ⟨hown, (hat.imp id (fun e => by omega))⟩; have l5 : w5.cell? ⟨B, s, none⟩ = some (.slice q9 l9 c9) := (HG5.out.cell_far ⟨B, s, none⟩ hBl NB.out.1).trans yb; have m5 : w5.frozen? ⟨B, s, none⟩ = false := (HG5.out.frozen_far ⟨B, s, none⟩ hBl NB.out.1).trans yz; have s5 : w5.cell? ⟨bs, os + k, none⟩ = some (.int .i64 (s : Int)) := (HG5.out.cell_far ⟨bs, os + k, none⟩ hbs NB.out.2.1).trans ys; have r5 : w5.cell? ⟨R, 33, none⟩ = some (.slice (some ⟨bq, oq, none⟩) ls cs) := (HG5.out.cell_far ⟨R, 33, none⟩ hR4 NB.out.2.2.1).trans y33; have t5 : w5.cell? ⟨bq, oq + i, none⟩ = some (.int .i64 x) := (HG5.out.cell_far ⟨bq, oq + i, none⟩ hbq NB.out.2.2.2.1).trans yq; clear hown hgrow hat hlt5)
                    refine hK9.out _ _ ⟨s5, r5, t5⟩ (fun hS => ?_)
                    clear hK9 K9
                    refine takeH (i := 19) 118 (v := .pointer (some ⟨B, s, none⟩)) rfl rfl (by kernel_rfl) (by kernel_rfl) (by kernel_rfl) (fun _ _ _ h => h) (Or.inl ⟨by kernel_rfl, fun _ hS => by first | rfl | (obtain ⟨g0, g33, g1⟩ := hS; go_simp)⟩) hS ?_
                    refine wpAnyH_ready (rs := [20]) (by kernel_rfl) (by simp) ?_
                    refine AllReadyH.cons rfl (fun K9 hK9 => ?_) AllReadyH.nil
                    go_simp
                    refine hK9.out _ _ ⟨(World.cell?_setCell_far _ _ _ _ NB.out.2.2.2.2.1).trans s5, (World.cell?_setCell_far _ _ _ _ NB.out.2.2.2.2.2.1).trans r5, (World.cell?_setCell_far _ _ _ _ NB.out.2.2.2.2.2.2).trans t5⟩ (fun hS => ?_)
                    clear hK9 K9
                    refine wpAnyH_done (by kernel_rfl) ?_ _
                    obtain ⟨W6, eW6⟩ : ∃ W6, W6 = w5.setCell ⟨B, s, none⟩ (.slice (some ⟨gh, 0, none⟩) (l9 + 1) gc5) := ⟨_, rfl⟩
                    rw [← eW6]
                    have X6 : Hid (∃ rvd, CX w W6 base R f rv rvd g cap B (heK st gc x (k + 1)) (some ⟨bs, os, none⟩) lst st) := by
                      have z := C5.out.app HV9.out.2.2.2.2.1 HV9.out.2.2.1 (by rw [HV9.out.2.2.2.2.2.1]; exact HG5.out) HO5.out.1 (by rw [HV9.out.2.2.2.2.2.1]; exact HO5.out.2)
                      rw [← eW6] at z
                      have e := heK_new HV9.out.2.2.2.2.2.2.2 HV9.out.2.2.2.1 (gc := gc) (x := x) (by rw [← HV9.out.2.1]; exact HI.out.2)
                      rw [← HV9.out.2.1] at e
                      rw [e]
                      exact ⟨_, z⟩
                    clear eW6 l5 m5 s5 r5 t5
                    go_wp2
                    go_roundw
                    case rel => exact ⟨k + 1, by omega, by go_num, X6.out⟩
                    case measure => simp [intOf]; omega
              · have hkl' : ¬ (k : Int) < (lst : Int) := by omega
                have ek : lst = k := by omega
                subst ek
                have NX : Hid (CX w wo base R f rv rvd g cap B (fl st (cur f) (f.said.take (i + 1))) (some ⟨bs, os, none⟩) lst st ∧ Okg (fl st (cur f) (f.said.take (i + 1)))) := by
                  rw [NXT.out]
                  refine ⟨?_, C4.out.2.1.hearW EX.out.2.1 st⟩
                  rw [← E5.out]
                  exact hD
                clear hD
                go_wp2
                go_roundw
                case rel => exact ⟨i + 1, by omega, by go_num, rvd, NX.out⟩
                case measure => simp [intOf]; omega
    · have hil' : ¬ (i : Int) < (ls : Int) := by omega
      have ei : f.said.take i = f.said := List.take_of_length_le (by have := ES.out.2; omega)
      have CE : Hid (CX w wo base R f rv rvc g cap B (fl st (cur f) f.said) (some ⟨bs, os, none⟩) lst st ∧ N = num f ∧ K = num f + 1) := by
        have z := CI.out.1
        rw [CI.out.2.2, ei] at z
        exact ⟨z, HC.out.2.2.2.2.1, HC.out.2.2.2.2.2.1⟩
      have y0 : wo.cell? ⟨R, 0, none⟩ = some (.int .i64 (N : Int)) := by rw [← HC.out.2.2.2.2.2.2.2.1]; exact CE.out.1.rx.main.c0
      have y34 : wo.cell? ⟨R, 34, none⟩ = some (.slice (some ⟨g, 0, none⟩) K cap) := by rw [CE.out.2.2]; exact CE.out.1.rx.main.cr
      have hNK' : N < num f + 1 := by have := CE.out.2.1; omega
      obtain ⟨a0, e0, f0, -, b0, -⟩ := CE.out.1.see (s := 0) (by omega)
      rw [← CE.out.2.1] at f0
      obtain ⟨n0, en0⟩ : ∃ n0, n0 = (fl st (cur f) f.said 0).length := ⟨_, rfl⟩
      rw [← en0] at f0 b0
      clear en0
      have h0 : wo.cell? ⟨g, N * 5, none⟩ = some (rv (ix N 0)) := CE.out.1.rx.rows.cell (k := N) (m := 0) hNK' (by omega)
      have z0 := CE.out.1.rx.rows.frozen (N * 5)
      obtain ⟨a1, e1, f1, -, b1, -⟩ := CE.out.1.see (s := 1) (by omega)
      rw [← CE.out.2.1] at f1
      obtain ⟨n1, en1⟩ : ∃ n1, n1 = (fl st (cur f) f.said 1).length := ⟨_, rfl⟩
      rw [← en1] at f1 b1
      clear en1
      have h1 : wo.cell? ⟨g, N * 5 + 1, none⟩ = some (rv (ix N 1)) := CE.out.1.rx.rows.cell (k := N) (m := 1) hNK' (by omega)
      have z1 := CE.out.1.rx.rows.frozen (N * 5 + 1)
      obtain ⟨a2, e2, f2, -, b2, -⟩ := CE.out.1.see (s := 2) (by omega)
      rw [← CE.out.2.1] at f2
      obtain ⟨n2, en2⟩ : ∃ n2, n2 = (fl st (cur f) f.said 2).length := ⟨_, rfl⟩
      rw [← en2] at f2 b2
      clear en2
      have h2 : wo.cell? ⟨g, N * 5 + 2, none⟩ = some (rv (ix N 2)) := CE.out.1.rx.rows.cell (k := N) (m := 2) hNK' (by omega)
      have z2 := CE.out.1.rx.rows.frozen (N * 5 + 2)
      obtain ⟨a3, e3, f3, -, b3, -⟩ := CE.out.1.see (s := 3) (by omega)
      rw [← CE.out.2.1] at f3
      obtain ⟨n3, en3⟩ : ∃ n3, n3 = (fl st (cur f) f.said 3).length := ⟨_, rfl⟩
      rw [← en3] at f3 b3
      clear en3
      have h3 : wo.cell? ⟨g, N * 5 + 3, none⟩ = some (rv (ix N 3)) := CE.out.1.rx.rows.cell (k := N) (m := 3) hNK' (by omega)
      have z3 := CE.out.1.rx.rows.frozen (N * 5 + 3)
      obtain ⟨a4, e4, f4, -, b4, -⟩ := CE.out.1.see (s := 4) (by omega)
      rw [← CE.out.2.1] at f4
      obtain ⟨n4, en4⟩ : ∃ n4, n4 = (fl st (cur f) f.said 4).length := ⟨_, rfl⟩
      rw [← en4] at f4 b4
      clear en4
      have h4 : wo.cell? ⟨g, N * 5 + 4, none⟩ = some (rv (ix N 4)) := CE.out.1.rx.rows.cell (k := N) (m := 4) hNK' (by omega)
      have z4 := CE.out.1.rx.rows.frozen (N * 5 + 4)
      have EV5 : Hid (rvc (ix N 0) = .slice a0 n0 e0 ∧ rvc (ix N 1) = .slice a1 n1 e1 ∧ rvc (ix N 2) = .slice a2 n2 e2 ∧ rvc (ix N 3) = .slice a3 n3 e3 ∧ rvc (ix N 4) = .slice a4 n4 e4) := ⟨f0, f1, f2, f3, f4⟩
      clear f0 f1 f2 f3 f4 ei sv
      have hgl := CE.out.1.rx.rows.lt
      have hRl := CE.out.1.rx.lt
      have hBl := World.rowIs.lt CE.out.1.bx
      have NG : Hid (R ≠ g ∧ B ≠ g) := ⟨Ne.symm CE.out.1.rx.neG, fun z => CE.out.1.bn.1 (.inr (.inl z))⟩
      have HS : Hid (∀ X : World, X.heap[R]? = wo.heap[R]? → X.heap[B]? = wo.heap[B]? → X.cell? ⟨R, 0, none⟩ = some (.int .i64 (N : Int)) ∧ X.cell? ⟨R, 34, none⟩ = some (.slice (some ⟨g, 0, none⟩) K cap) ∧ X.cell? ⟨B, 0, none⟩ = some (.slice a0 n0 e0) ∧ X.cell? ⟨B, 1, none⟩ = some (.slice a1 n1 e1) ∧ X.cell? ⟨B, 2, none⟩ = some (.slice a2 n2 e2) ∧ X.cell? ⟨B, 3, none⟩ = some (.slice a3 n3 e3) ∧ X.cell? ⟨B, 4, none⟩ = some (.slice a4 n4 e4)) := by
        intro X hR hB
        exact ⟨(World.cell?_of_block (a := ⟨R, 0, none⟩) hR).trans y0, (World.cell?_of_block (a := ⟨R, 34, none⟩) hR).trans y34, (World.cell?_of_block (a := ⟨B, 0, none⟩) hB).trans b0, (World.cell?_of_block (a := ⟨B, 1, none⟩) hB).trans b1, (World.cell?_of_block (a := ⟨B, 2, none⟩) hB).trans b2, (World.cell?_of_block (a := ⟨B, 3, none⟩) hB).trans b3, (World.cell?_of_block (a := ⟨B, 4, none⟩) hB).trans b4⟩
      obtain ⟨W7, eW7⟩ : ∃ W7, W7 = (((((wo.setCell ⟨g, N * 5, none⟩ (.slice a0 n0 e0)).setCell ⟨g, N * 5 + 1, none⟩ (.slice a1 n1 e1)).setCell ⟨g, N * 5 + 2, none⟩ (.slice a2 n2 e2)).setCell ⟨g, N * 5 + 3, none⟩ (.slice a3 n3 e3)).setCell ⟨g, N * 5 + 4, none⟩ (.slice a4 n4 e4)).drew := ⟨_, rfl⟩
      have HT : Hid (W7.cell? ⟨R, 0, none⟩ = some (.int .i64 (N : Int)) ∧ W7.cell? ⟨R, 34, none⟩ = some (.slice (some ⟨g, 0, none⟩) K cap) ∧ W7.cell? ⟨B, 0, none⟩ = some (.slice a0 n0 e0) ∧ W7.cell? ⟨B, 1, none⟩ = some (.slice a1 n1 e1) ∧ W7.cell? ⟨B, 2, none⟩ = some (.slice a2 n2 e2) ∧ W7.cell? ⟨B, 3, none⟩ = some (.slice a3 n3 e3) ∧ W7.cell? ⟨B, 4, none⟩ = some (.slice a4 n4 e4)) := by
        have k : ∀ b, b ≠ g → W7.heap[b]? = wo.heap[b]? := fun b q => by
          rw [eW7]
          exact ((((Deep.blk_setCell_other _ _ _ _ q).trans (Deep.blk_setCell_other _ _ _ _ q)).trans (Deep.blk_setCell_other _ _ _ _ q)).trans (Deep.blk_setCell_other _ _ _ _ q)).trans (Deep.blk_setCell_other _ _ _ _ q)
        exact HS.out _ (k R NG.out.1) (k B NG.out.2)
      rw [eW7] at HT
      have HS0 : Hid (wo.drew.cell? ⟨R, 0, none⟩ = some (.int .i64 (N : Int)) ∧ wo.drew.cell? ⟨R, 34, none⟩ = some (.slice (some ⟨g, 0, none⟩) K cap) ∧ wo.drew.cell? ⟨B, 0, none⟩ = some (.slice a0 n0 e0) ∧ wo.drew.cell? ⟨B, 1, none⟩ = some (.slice a1 n1 e1) ∧ wo.drew.cell? ⟨B, 2, none⟩ = some (.slice a2 n2 e2) ∧ wo.drew.cell? ⟨B, 3, none⟩ = some (.slice a3 n3 e3) ∧ wo.drew.cell? ⟨B, 4, none⟩ = some (.slice a4 n4 e4)) := HS.out _ rfl rfl
      go_upto_region 21 with fail
      go_region_held3 (fun X => X.cell? ⟨R, 0, none⟩ = some (.int .i64 (N : Int)) ∧ X.cell? ⟨R, 34, none⟩ = some (.slice (some ⟨g, 0, none⟩) K cap) ∧ X.cell? ⟨B, 0, none⟩ = some (.slice a0 n0 e0) ∧ X.cell? ⟨B, 1, none⟩ = some (.slice a1 n1 e1) ∧ X.cell? ⟨B, 2, none⟩ = some (.slice a2 n2 e2) ∧ X.cell? ⟨B, 3, none⟩ = some (.slice a3 n3 e3) ∧ X.cell? ⟨B, 4, none⟩ = some (.slice a4 n4 e4)) (first | with_reducible exact HS0.out | with_reducible exact HT.out) (fail)
      rw [← eW7]
      have X7 : Hid (RX W7 base R (cntF f) f.v.n f.was (rv 0) (rv 1) (lsG f (fl st (cur f) f.said)) rvc g cap (num f + 1) (fun k m => rvc (ix k m)) ∧ XR w W7 base R g (cntF f) rv g (cntF f) rvc) := by
        have hN := CE.out.2.1
        subst hN
        obtain ⟨a, b⟩ := CE.out.1.end1 (fun m => if m = 0 then .slice a0 n0 e0 else if m = 1 then .slice a1 n1 e1 else if m = 2 then .slice a2 n2 e2 else if m = 3 then .slice a3 n3 e3 else .slice a4 n4 e4) (fun m hm => by
          rcases (show m = 0 ∨ m = 1 ∨ m = 2 ∨ m = 3 ∨ m = 4 by omega) with rfl | rfl | rfl | rfl | rfl
          · exact EV5.out.1.symm
          · exact EV5.out.2.1.symm
          · exact EV5.out.2.2.1.symm
          · exact EV5.out.2.2.2.1.symm
          · exact EV5.out.2.2.2.2.symm)
        have bd := drewN_below (((((wo.setCell ⟨g, num f * 5, none⟩ (.slice a0 n0 e0)).setCell ⟨g, num f * 5 + 1, none⟩ (.slice a1 n1 e1)).setCell ⟨g, num f * 5 + 2, none⟩ (.slice a2 n2 e2)).setCell ⟨g, num f * 5 + 3, none⟩ (.slice a3 n3 e3)).setCell ⟨g, num f * 5 + 4, none⟩ (.slice a4 n4 e4)) 1
        have z1 := a.later bd
        have z2 := b.trans (XR.later (Nat.le_trans a.low (Nat.le_of_lt a.lt)) bd R g (cntF f) rvc)
        rw [eW7]
        exact ⟨z1, z2⟩
      clear eW7 h0 h1 h2 h3 h4 z0 z1 z2 z3 z4 b0 b1 b2 b3 b4 HS0 HT HS y0 y34 s33
      have y34 : W7.cell? ⟨R, 34, none⟩ = some (.slice (some ⟨g, 0, none⟩) K cap) := by rw [CE.out.2.2]; exact X7.out.1.main.cr
      have zr := X7.out.1.main.fr 34
      have zr0 := X7.out.1.main.fr 0
      have zr1 := X7.out.1.main.fr 1
      have y0 : W7.cell? ⟨R, 0, none⟩ = some (.int .i64 (N : Int)) := by rw [← HC.out.2.2.2.2.2.2.2.1]; exact X7.out.1.main.c0
      have y1 := X7.out.1.main.c1
      have hR7 := X7.out.1.lt
      have hK1 : K ≤ 1001 := by have := CE.out.2.1; have := CE.out.2.2; omega
      have O7 : Hid (W7.ownsRow base 48 5 (.slice (some ⟨g, 0, none⟩) K cap) K (flatH (fun k m => rvc (ix k m)) (num f + 1)) ∧ base ≤ W7.heap.size ∧ some R ≠ some g) := by
        rw [CE.out.2.2]
        exact ⟨X7.out.1.rows.own, Nat.le_trans X7.out.1.low (Nat.le_of_lt hR7), fun e => NG.out.1 (Option.some.inj e)⟩
      obtain ⟨ia, hia, hia0, hia1, hia2⟩ := info_five
      have HA : Hid (Tryd.prog.info? 48 = some ia ∧ ia.zero = some (.agg #[nilV, nilV, nilV, nilV, nilV]) ∧ ia.size = 5 ∧ ia.bytes = 120) := ⟨hia, hia0, hia1, hia2⟩
      clear hia hia0 hia1 hia2
      go_upto_region 23 with (at_builtin; refine wpList_append_lies _ rfl _ _ 44 rfl base 48 ia (.agg #[nilV, nilV, nilV, nilV, nilV]) 5 120 Tryd.underlying44 HA.out.1 HA.out.2.1 HA.out.2.2.1 HA.out.2.2.2 rfl (by decide) (.slice (some ⟨g, 0, none⟩) K cap) K (flatH (fun k m => rvc (ix k m)) (num f + 1)) rfl (by exact own_block O7.out.1 fun b hb => Below.heap_alloc _ _ _ (own_lt O7.out.1 b hb).2) ⟨W7.heap.size, 0, none⟩ 1 1 [nilV, nilV, nilV, nilV, nilV] rfl rfl (by exact new_five W7) five_one (by omega) (by unfold maxLen; omega) (by omega) (by have := O7.out.2.1; simp; omega) (W7.heap.size + 1) (by simp) ?_; intro g8 c8 w8 hown hgrow hlie hg8; have HG8 : Hid (W7.grownBy w8 (some g)) := grown_tmpC hgrow; have H8 : Hid (w8.ownsRow base 48 5 (.slice (some ⟨g8, 0, none⟩) (K + 1) c8) (K + 1) (flatH (fun k m => rvc (ix k m)) (num f + 1) ++ [nilV, nilV, nilV, nilV, nilV]) ∧ (some g = some g8 ∨ W7.heap.size ≤ g8)) := ⟨hown, hlie.imp id (fun e => by omega)⟩; have x34 : w8.cell? ⟨R, 34, none⟩ = some (.slice (some ⟨g, 0, none⟩) K cap) := (HG8.out.cell_far ⟨R, 34, none⟩ hR7 O7.out.2.2).trans y34; have xr : w8.frozen? ⟨R, 34, none⟩ = false := (HG8.out.frozen_far ⟨R, 34, none⟩ hR7 O7.out.2.2).trans zr; have x0 := (HG8.out.cell_far ⟨R, 0, none⟩ hR7 O7.out.2.2).trans y0; have x1 := (HG8.out.cell_far ⟨R, 1, none⟩ hR7 O7.out.2.2).trans y1; have xr0 : w8.frozen? ⟨R, 0, none⟩ = false := (HG8.out.frozen_far ⟨R, 0, none⟩ hR7 O7.out.2.2).trans zr0; have xr1 : w8.frozen? ⟨R, 1, none⟩ = false := (HG8.out.frozen_far ⟨R, 1, none⟩ hR7 O7.out.2.2).trans zr1; clear hown hgrow hlie hg8)
      have e2 := X7.out.1.end2 (f := f) (g' := g8) (cap' := c8) X7.out.2 HG8.out (by have z := H8.out.1; rw [CE.out.2.2] at z; exact z) H8.out.2 (f.v.n + 1)
      obtain ⟨W9, eW9⟩ : ∃ W9, W9 = ((w8.setCell ⟨R, 34, none⟩ (.slice (some ⟨g8, 0, none⟩) (K + 1) c8)).setCell ⟨R, 0, none⟩ (.int .i64 ((N : Int) + 1))).setCell ⟨R, 1, none⟩ (.slice none 0 0) := ⟨_, rfl⟩
      have E2 : Hid (RX W9 base R (cntF f + 5) (f.v.n + 1) f.was nilV (rv 1) (upV (lsE f (fl st (cur f) f.said)) 0 []) (upV (rvE f rvc) 0 nilV) g8 c8 (num f + 1 + 1) (fun k m => if k = num f + 1 then nilV else rvc (ix k m)) ∧ XR w W9 base R g (cntF f) rv g8 (cntF f + 5) (upV (rvE f rvc) 0 nilV)) := by
        rw [eW9, CE.out.2.2, ← HC.out.2.2.2.2.2.2.2.1]
        exact e2
      have hwN : IntKind.i64.wrap ((N : Int) + 1) = (N : Int) + 1 := IntWalk.i64_in _ (by omega)
      clear e2 y34 zr zr0 zr1 y0 y1
      go_upto_region 25 with fail
      rw [← eW9]
      clear eW9 x34 xr x0 x1 xr0 xr1
      obtain ⟨bh, oh, eqh, hlh9⟩ : ∃ bh oh, qh = some ⟨bh, oh, none⟩ ∧ bh < w.heap.size := by
        obtain ⟨b, o, e, hl, -⟩ := HV.out.2.1.2 (by omega)
        exact ⟨b, o, e, hl⟩
      subst eqh
      have HH : Hid (Vw W9 (some ⟨bh, oh, none⟩) lh has ∧ base ≤ W9.heap.size) := by
        have k9 := E2.out.2.kp bh hlh9 (HV.out.2.2.2 _ rfl (by omega))
        exact ⟨vw_of HV.out.2.1 E2.out.2.bel.size fun ad e _ => by cases e; exact k9, Nat.le_trans E2.out.1.low (Nat.le_of_lt E2.out.1.lt)⟩
      have y1 : W9.cell? ⟨R, 1, none⟩ = some (.slice none 0 0) := E2.out.1.main.c1
      have zr1 := E2.out.1.main.fr 1
      have y33 := E2.out.1.main.cs
      have zr33 := E2.out.1.main.fr 33
      have hR9 := E2.out.1.lt
      have hll : lh = has.length := HV.out.2.1.1.symm
      have HLL : Hid (lh = has.length) := hll
      clear hll
      go_upto_region 26 with (at_builtin; refine wpList_append_lies _ rfl _ _ 28 rfl base 3 ii (.int .i64 0) 1 8 Tryd.underlying28 HJ.out.1 HJ.out.2.1 HJ.out.2.2.1 HJ.out.2.2.2 rfl (by decide) (.slice none 0 0) 0 [] rfl (by exact World.ownsRow_nil _ _ _ _) ⟨bh, oh, none⟩ lh ch (has.map (Value.int .i64)) rfl (by rw [List.length_map, HLL.out, Nat.mul_one]) (by exact news_of HH.out.1) (ints_one _) (by omega) (by unfold maxLen; omega) (by omega) (by exact HH.out.2) W9.heap.size rfl ?_; intro g6 c6 w6 hown hgrow hlie hg6; rw [Nat.zero_add, List.nil_append] at hown; rw [Nat.zero_add]; have HG6 : Hid (W9.grownBy w6 none) := hgrow; have H6 : Hid (w6.ownsRow base 3 1 (.slice (some ⟨g6, 0, none⟩) lh c6) lh (has.map (Value.int .i64)) ∧ W9.heap.size ≤ g6) := ⟨hown, by rcases hlie with z | z; exact absurd z (by simp [Value.ownBlock]); omega⟩; have x1 : w6.cell? ⟨R, 1, none⟩ = some (.slice none 0 0) := (HG6.out.cell_far ⟨R, 1, none⟩ hR9 (by simp)).trans y1; have xr1 : w6.frozen? ⟨R, 1, none⟩ = false := (HG6.out.frozen_far ⟨R, 1, none⟩ hR9 (by simp)).trans zr1; have x33 := (HG6.out.cell_far ⟨R, 33, none⟩ hR9 (by simp)).trans y33; have xr33 : w6.frozen? ⟨R, 33, none⟩ = false := (HG6.out.frozen_far ⟨R, 33, none⟩ hR9 (by simp)).trans zr33; clear hown hgrow hlie hg6)
      go_wp2
      go_ret
      have hat6 : ∀ b, (Value.slice (some ⟨g6, 0, none⟩) lh c6).ownBlock = some b → W9.heap.size ≤ b := by
        intro b hb
        have e : g6 = b := by simpa [Value.ownBlock] using hb
        rw [← e]
        exact H6.out.2
      have e3 := E2.out.1.end3 (f := f) (has := has) (v6 := .slice (some ⟨g6, 0, none⟩) lh c6) E2.out.2 HG6.out (by show World.ownsRow _ _ _ _ _ _ _; rw [← HLL.out]; exact H6.out.1) hat6
      have est := HC.out.2.2.2.2.2.2.1
      have e4 := RX.end4 (f := f) (has := has) (v6 := .slice (some ⟨g6, 0, none⟩) lh c6) (g' := g8) (cap' := c8) HC.out.2.1 (by rw [← est]; exact e3.1) (by exact e3.2)
      exact ⟨rfl, _, g8, c8, e4⟩
end Go.Proofs.YtgdmbnfdcbekaaiDoor.Flu
