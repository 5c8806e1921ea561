/-
  Contracts of the landed package view: Check, Next, Chain, Both.
-/
import Derived.Test.YtgdmbnfdcbekaaiDoorViwK
namespace Go.Proofs.YtgdmbnfdcbekaaiDoor.Viw
open Go.RowKit
open Go.Proofs.YtgdmbnfdcbekaaiDoor.Fif (ret_bool own_lt own_block own_form info_int new_int int_one own_vw)
open Go.Proofs.YtgdmbnfdcbekaaiDoor.Vec (Vw)
open Go.Proofs.YtgdmbnfdcbekaaiDoor.Ldr (errF errF_ok errF_no Sl)
set_option linter.unusedVariables false

set_option maxRecDepth 100000 in
theorem checkV (v : Vi) (u : Value) (w : World) (hv : Sl w u v.has) : Calls Tryd.prog 33 #[.agg #[.int .i64 v.n, u]] w fun x w' => x = .returned (errF (viewC v)) ∧ Below w.heap.size w w' := by
  have H : Hid (Sl w u v.has) := hv
  obtain ⟨n, en⟩ : ∃ n, n = v.n := ⟨_, rfl⟩
  have EN : Hid (n = v.n) := en
  have B1 : Hid (Below w.heap.size w (w.alloc (.cells #[.int .i64 n, u] 30))) := (Below.refl _ _).alloc (Nat.le_refl _) _
  rw [← en]
  clear hv en
  by_cases h1 : n < 0
  · have E : Hid (viewC v = 1) := by show viewC v = 1; unfold viewC; rw [← EN.out, if_pos (.inl h1)]
    go_enter Tryd.func33, Tryd.ntmps33
    go_wp2
    go_ret
    exact ⟨rtVP (by rw [E.out]; rfl), B1.out⟩
  · by_cases h2 : n > 1000000
    · have E : Hid (viewC v = 1) := by show viewC v = 1; unfold viewC; rw [← EN.out, if_pos (.inr h2)]
      go_enter Tryd.func33, Tryd.ntmps33
      go_wp2
      go_ret
      exact ⟨rtVP (by rw [E.out]; rfl), B1.out⟩
    · have E : Hid (viewC v = hasC v.has) := by show viewC v = _; unfold viewC; rw [← EN.out, if_neg (by omega)]
      go_enter Tryd.func33, Tryd.ntmps33
      go_wp2_with fail
      refine (members_any v.has u _ (H.out.later B1.out)).mono ?_
      rintro e w1 ⟨rfl, rfl⟩
      go_wp2
      go_ret
      exact ⟨rtVP (by rw [E.out]; rfl), B1.out⟩
/-- two views in variables of the call -/
structure B2 (w : World) (V : Nat) (v v' : Vi) (u u' : Value) (W : World) : Prop where
  a : Bv W V v u
  b : Bv W (V + 1) v' u'
  bel : Below w.heap.size w W
theorem B2.later {w W W' : World} {V : Nat} {v v' : Vi} {u u' : Value} (h : B2 w V v v' u u' W) (hb : Below W.heap.size W W') : B2 w V v v' u u' W' := ⟨h.a.later hb, h.b.later hb, h.bel.trans (hb.mono h.bel.size)⟩
theorem B2.made (w : World) {v v' : Vi} {u u' : Value} (hv : Sl w u v.has) (hv' : Sl w u' v'.has) : B2 w w.heap.size v v' u u' ((w.alloc (.cells #[.int .i64 v.n, u] 30)).alloc (.cells #[.int .i64 v'.n, u'] 30)) := by
  have b1 : Below w.heap.size w (w.alloc (.cells #[.int .i64 v.n, u] 30)) := (Below.refl _ _).alloc (Nat.le_refl _) _
  have b2 := Bv.made (w.alloc (.cells #[.int .i64 v.n, u] 30)) (hv'.later b1)
  have e : (w.alloc (.cells #[.int .i64 v.n, u] 30)).heap.size = w.heap.size + 1 := by simp
  rw [e] at b2
  exact ⟨(Bv.made w hv).later ((Below.refl _ _).alloc (Nat.le_refl _) _), b2, b1.alloc (by simp) _⟩
set_option maxRecDepth 100000 in
set_option maxHeartbeats 1000000 in
theorem bothV (v v' : Vi) (u u' : Value) (w : World) (hv : Sl w u v.has) (hv' : Sl w u' v'.has) : Calls Tryd.prog 23 #[.agg #[.int .i64 v.n, u], .agg #[.int .i64 v'.n, u']] w fun x w' => ∃ q c, x = .returned (.tuple #[.slice q (bothL v v').length c, errF (bothC v v')]) ∧ Sl w' (.slice q (bothL v v').length c) (bothL v v') ∧ Below w.heap.size w w' := by
  have P : Hid (B2 w w.heap.size v v' u u' ((w.alloc (.cells #[.int .i64 v.n, u] 30)).alloc (.cells #[.int .i64 v'.n, u'] 30))) := B2.made w hv hv'
  by_cases h1 : viewC v = 0
  · have EB : Hid (bothC v v' = viewC v') := if_pos h1
    have H1 : Hid (errF (viewC v) = .nilIface) := by show errF _ = _; rw [h1]; rfl
    by_cases h2 : viewC v' = 0
    · have H2 : Hid (errF (viewC v') = .nilIface) := by show errF _ = _; rw [h2]; rfl
      have HL : Hid (bothL v v' = shared v.has v'.has ∧ errF (bothC v v') = .nilIface ∧ v.has.length ≤ 5 ∧ v'.has.length ≤ 5) := ⟨if_pos (EB.out.trans h2), by rw [EB.out]; exact H2.out, has_le (view_ok h1).2, has_le (view_ok h2).2⟩
      rw [HL.out.1, HL.out.2.1]
      clear hv hv' h1 h2
      go_enter Tryd.func23, Tryd.ntmps23
      go_wp2_with fail
      refine (checkV v u _ (by exact P.out.a.sl)).mono ?_
      rintro e w1 ⟨rfl, hb⟩
      rw [H1.out]
      have P1 : Hid (B2 w w.heap.size v v' u u' w1) := P.out.later hb
      have c0 := P1.out.a.c0
      have c1 := P1.out.a.c1
      have d0 := P1.out.b.c0
      have d1 := P1.out.b.c1
      clear hb
      go_wp2_with fail
      refine (checkV v' u' _ (by exact P1.out.b.sl)).mono ?_
      rintro e w2 ⟨rfl, hb⟩
      rw [H2.out]
      have P2 : Hid (B2 w w.heap.size v v' u u' w2) := P1.out.later hb
      clear hb c0 c1 d0 d1
      have c1 := P2.out.a.c1
      have d1 := P2.out.b.c1
      go_wp2_with fail
      refine (inBoth_any v.has v'.has u u' _ (by exact P2.out.a.sl) (by exact P2.out.b.sl) (by have := HL.out.2.2.1; omega) (by have := HL.out.2.2.2; omega)).mono ?_
      rintro e w3 ⟨q, c, rfl, hs, hb⟩
      have P3 : Hid (Sl w3 (.slice q (shared v.has v'.has).length c) (shared v.has v'.has) ∧ Below w.heap.size w w3) := ⟨hs, (P2.out.later hb).bel⟩
      obtain ⟨ll, ell⟩ : ∃ ll, ll = (shared v.has v'.has).length := ⟨_, rfl⟩
      have EL : Hid (ll = (shared v.has v'.has).length) := ell
      rw [← ell]
      clear hs hb c1 d1 ell
      go_wp2
      go_ret2
      refine ⟨q, c, ?_, P3.out.1, P3.out.2⟩
      rw [← EL.out]
      rfl
    · have HL : Hid (bothL v v' = [] ∧ errF (bothC v v') = .iface 52 (.int .i64 (viewC v')) ∧ errF (viewC v') = .iface 52 (.int .i64 (viewC v'))) := ⟨if_neg (by rw [EB.out]; exact h2), by rw [EB.out]; exact errF_no h2, errF_no h2⟩
      rw [HL.out.1, HL.out.2.1]
      clear hv hv' h1 h2
      go_enter Tryd.func23, Tryd.ntmps23
      go_wp2_with fail
      refine (checkV v u _ (by exact P.out.a.sl)).mono ?_
      rintro e w1 ⟨rfl, hb⟩
      rw [H1.out]
      have P1 : Hid (B2 w w.heap.size v v' u u' w1) := P.out.later hb
      have d0 := P1.out.b.c0
      have d1 := P1.out.b.c1
      clear hb
      go_wp2_with fail
      refine (checkV v' u' _ (by exact P1.out.b.sl)).mono ?_
      rintro e w2 ⟨rfl, hb⟩
      rw [HL.out.2.2]
      have P2 : Hid (B2 w w.heap.size v v' u u' w2) := P1.out.later hb
      clear hb d0 d1
      go_wp2
      go_ret2
      exact ⟨none, 0, rfl, Sl.nil _, P2.out.bel⟩
  · have HL : Hid (bothL v v' = [] ∧ errF (bothC v v') = .iface 52 (.int .i64 (viewC v)) ∧ errF (viewC v) = .iface 52 (.int .i64 (viewC v))) := ⟨if_neg (by unfold bothC; rw [if_neg h1]; exact h1), by unfold bothC; rw [if_neg h1]; exact errF_no h1, errF_no h1⟩
    rw [HL.out.1, HL.out.2.1]
    clear hv hv' h1
    go_enter Tryd.func23, Tryd.ntmps23
    go_wp2_with fail
    refine (checkV v u _ (by exact P.out.a.sl)).mono ?_
    rintro e w1 ⟨rfl, hb⟩
    rw [HL.out.2.2]
    have P1 : Hid (B2 w w.heap.size v v' u u' w1) := P.out.later hb
    clear hb
    go_wp2
    go_ret2
    exact ⟨none, 0, rfl, Sl.nil _, P1.out.bel⟩
/-! Next -/
theorem int_emptyP (w : World) : (w.alloc (.cells #[] 3)).ownsRow w.heap.size 3 1 (.slice (some ⟨w.heap.size, 0, none⟩) 0 0) 0 [] := by
  refine ⟨rfl, .inr ⟨w.heap.size, 0, #[], rfl, Nat.le_refl _, ?_, Nat.le_refl _, by unfold maxLen; omega, rfl, rfl⟩⟩
  show (w.heap.push _)[w.heap.size]? = _
  simp
theorem int_onesP (l : List Int) : ∀ u ∈ l.map (Value.int .i64), u.oneCell' = true := by
  intro u hu
  obtain ⟨x, _, rfl⟩ := List.mem_map.1 hu
  rfl
set_option maxRecDepth 100000 in
theorem cloneP (u : Value) (l : List Int) (w : World) (g : Sl w u l) (h0 : 0 < l.length) (hl : l.length ≤ 1000) :
    Calls Tryd.prog 27 #[u] w fun x w' => ∃ v', x = .returned v' ∧ OwP w' w.heap.size v' l ∧ Below w.heap.size w w' := by
  obtain ⟨a, cap, rfl, hc, hm, hv⟩ := g
  obtain ⟨b, off, rfl, hlt, hcs⟩ := hv.2 h0
  obtain ⟨n, en⟩ : ∃ n, n = l.length := ⟨_, rfl⟩
  have HN : Hid (n = l.length) := en
  have HC : Hid (∀ j u, (l.map (Value.int .i64))[j]? = some u → (w.alloc (.cells #[] 3)).cell? ((⟨b, off, none⟩ : Addr).add j) = some u) := by
    intro j u hj
    have hjl : j < l.length := by
      have := (List.getElem?_eq_some_iff.1 hj).1
      rwa [List.length_map] at this
    rw [Addr.add_lit]
    refine (((Below.refl w.heap.size w).alloc (Nat.le_refl _) _).cell (p := ⟨b, off + j, none⟩) hlt).trans ?_
    rw [hcs j hjl, ← hj, List.getElem?_map, List.getElem?_eq_getElem hjl, getDP hjl]
    rfl
  obtain ⟨ie, hi, hz0, hz1, hz2⟩ := info_int
  have HI : Hid (Tryd.prog.info? 3 = some ie ∧ ie.zero = some (.int .i64 0) ∧ ie.size = 1 ∧ ie.bytes = 8) := ⟨hi, hz0, hz1, hz2⟩
  show Calls _ _ _ _ fun x w' => ∃ v', x = .returned v' ∧ w'.ownsRow w.heap.size 3 1 v' l.length (l.map (Value.int .i64)) ∧ Below w.heap.size w w'
  rw [← en] at hl h0 ⊢
  have hnil := fun W : World => Lib.run_eql_slice_nil (P := Tryd.prog) W 28 3 (some ⟨b, off, none⟩) n cap 0 0 Tryd.underlying28
  clear hv hcs hc hm hi hz0 hz1 hz2 en hlt
  go_enter Tryd.func27, Tryd.ntmps27
  go_wp2_with (at_builtin; refine wpList_append_own _ rfl _ _ 28 rfl w.heap.size 3 ie (.int .i64 0) 1 8 Tryd.underlying28 HI.out.1 HI.out.2.1 HI.out.2.2.1 HI.out.2.2.2 rfl (by decide) _ 0 _ rfl (int_emptyP w) ⟨b, off, none⟩ n cap (l.map (Value.int .i64)) rfl (by rw [List.length_map, HN.out, Nat.mul_one]) HC.out (int_onesP _) (by unfold maxLen; omega) (by omega) (by simp) ?_; intro v' wn hown hgrow _; rw [Nat.zero_add, List.nil_append] at hown; have HO : Hid (wn.ownsRow w.heap.size 3 1 v' n (l.map (Value.int .i64))) := hown; have HGr : Hid _ := hgrow; clear hown hgrow)
  go_ret
  exact ⟨_, rfl, HO.out, ((Below.refl w.heap.size w).alloc (Nat.le_refl _) _).grown HGr.out (by simp) (fun k e => (own_lt (int_emptyP w) k e).1)⟩
theorem ret2V {fn : Func} {tmps : Array Value} {w : World} {p u : Tmp} {B : Nat} {v0 v1 x : Value} (h : fn.results = #[.cell p 30, .tmp u]) (hp : tmps.getD p undef = .pointer (some ⟨B, 0, none⟩)) (hu : tmps.getD u undef = x)
    (y0 : w.cell? ⟨B, 0, none⟩ = some v0) (y1 : w.cell? ⟨B, 1, none⟩ = some v1) : (results fn tmps).run Tryd.prog w = .ok (.tuple #[.agg #[v0, v1], x]) w := by
  rw [results_cell_tmp h, hp, hu]
  simp [asAddr, go_sem, y0, y1]
theorem B2.setR {w W : World} {v v' : Vi} {u u' : Value} (h : B2 w w.heap.size v v' u u' W) (x0 x1 : Value) : ((W.setCell ⟨w.heap.size + 1, 0, none⟩ x0).setCell ⟨w.heap.size + 1, 1, none⟩ x1).cell? ⟨w.heap.size + 1, 0, none⟩ = some x0 ∧ ((W.setCell ⟨w.heap.size + 1, 0, none⟩ x0).setCell ⟨w.heap.size + 1, 1, none⟩ x1).cell? ⟨w.heap.size + 1, 1, none⟩ = some x1 ∧ Below w.heap.size w ((W.setCell ⟨w.heap.size + 1, 0, none⟩ x0).setCell ⟨w.heap.size + 1, 1, none⟩ x1) := by
  have r := (World.rowIs.set h.b.row 0 x0).set 1 x1
  have u0 := r.cell (i := 0) (by omega)
  have u1 := r.cell (i := 1) (by omega)
  simp at u0 u1
  exact ⟨u0, u1, (h.bel.setCell (p := ⟨w.heap.size + 1, 0, none⟩) (Nat.le_succ _) _).setCell (p := ⟨w.heap.size + 1, 1, none⟩) (Nat.le_succ _) _⟩
theorem two_other (w : World) (R : Nat) (x0 x1 : Value) {b : Nat} (h : b ≠ R) : ((w.setCell ⟨R, 0, none⟩ x0).setCell ⟨R, 1, none⟩ x1).heap[b]? = w.heap[b]? := (Deep.blk_setCell_other _ _ _ _ h).trans (Deep.blk_setCell_other _ _ _ _ h)
theorem sl_two {w : World} {q : Option Addr} {l : List Int} {c R : Nat} (h : Sl w (.slice q l.length c) l) (hn : ∀ ad, q = some ad → ad.block ≠ R) (x0 x1 : Value) : Sl ((w.setCell ⟨R, 0, none⟩ x0).setCell ⟨R, 1, none⟩ x1) (.slice q l.length c) l := by
  obtain ⟨a, cap, e, h1, h2, h3⟩ := h
  refine ⟨a, cap, e, h1, h2, h3.1, fun z => ?_⟩
  obtain ⟨b, off, ea, hlt, hc⟩ := h3.2 z
  injection e with e1
  have hb : b ≠ R := hn ⟨b, off, none⟩ (e1.trans ea)
  have hsz : w.heap.size ≤ ((w.setCell ⟨R, 0, none⟩ x0).setCell ⟨R, 1, none⟩ x1).heap.size := (((Below.refl 0 w).setCell (p := ⟨R, 0, none⟩) (Nat.zero_le _) x0).setCell (p := ⟨R, 1, none⟩) (Nat.zero_le _) x1).size
  exact ⟨b, off, ea, Nat.lt_of_lt_of_le hlt hsz, fun k hk => (World.cell?_of_block (a := ⟨b, off + k, none⟩) (two_other _ _ _ _ hb)).trans (hc k hk)⟩
theorem next_no {v : Vi} {has : List Int} (h : nextC v has ≠ 0) : nextV v has = ⟨0, []⟩ := if_neg h
set_option maxRecDepth 100000 in
set_option maxHeartbeats 2000000 in
theorem nextVw (v : Vi) (has : List Int) (u u' : Value) (w : World) (hv : Sl w u v.has) (hh : Sl w u' has) : Calls Tryd.prog 22 #[.agg #[.int .i64 v.n, u], u'] w fun x w' => ∃ q c, x = .returned (.tuple #[.agg #[.int .i64 (nextV v has).n, .slice q (nextV v has).has.length c], errF (nextC v has)]) ∧ Sl w' (.slice q (nextV v has).has.length c) (nextV v has).has ∧ (∀ ad, q = some ad → 0 < (nextV v has).has.length → w.heap.size ≤ ad.block) ∧ Below w.heap.size w w' := by
  have P : Hid (B2 w w.heap.size v noV u (.slice none 0 0) ((w.alloc (.cells #[.int .i64 v.n, u] 30)).alloc (.cells #[.int .i64 0, .slice none 0 0] 30))) := B2.made (v' := noV) w hv (Sl.nil w)
  have HH : Hid (Sl w u' has) := hh
  by_cases h1 : viewC v = 0
  · have H1 : Hid (errF (viewC v) = .nilIface) := by show errF _ = _; rw [h1]; rfl
    have e1 : nextC v has = nxC v has := if_pos h1
    have hn := (view_ok h1).1
    have H5 : Hid (v.has.length ≤ 5) := has_le (view_ok h1).2
    obtain ⟨n, en⟩ : ∃ n, n = v.n := ⟨_, rfl⟩
    have EN : Hid (n = v.n) := en
    by_cases h2 : n = 1000000
    · have e2 : nextC v has = 4 := by rw [e1]; exact if_pos (en ▸ h2)
      have HE : Hid (nextV v has = ⟨0, []⟩ ∧ errF (nextC v has) = .iface 52 (.int .i64 4)) := ⟨next_no (by rw [e2]; decide), by rw [e2]; rfl⟩
      have h2' : (n == 1000000) = true := by simp [h2]
      rw [HE.out.1, HE.out.2, ← en]
      rw [← en] at P
      clear hv hh h1 e1 e2 hn en h2
      go_enter Tryd.func22, Tryd.ntmps22
      go_wp2_with fail
      rw [EN.out] at P ⊢
      refine (checkV v u _ (by exact P.out.a.sl)).mono ?_
      rintro e w1 ⟨rfl, hb⟩
      rw [H1.out]
      have P1 : Hid (B2 w w.heap.size v noV u (.slice none 0 0) w1) := P.out.later hb
      rw [← EN.out]
      have c0 := P1.out.a.c0
      rw [← EN.out] at c0
      have t0 := P1.out.b.c0
      have t1 := P1.out.b.c1
      have f0 := World.rowIs.frozen P1.out.b.row 0
      have f1 := World.rowIs.frozen P1.out.b.row 1
      clear hb
      go_wp2
      obtain ⟨u0, u1, bb⟩ := P1.out.setR (.int .i64 0) (.slice none 0 0)
      refine bodyPost_ret (v := .tuple #[.agg #[.int .i64 0, .slice none 0 0], .iface 52 (.int .i64 4)]) (ret2V (B := w.heap.size + 1) rfl rfl rfl u0 u1) rfl ?_
      exact ⟨none, 0, rfl, Sl.nil _, fun ad q => (by cases q), bb⟩
    · have h2' : (n == 1000000) = false := by simp [h2]
      have e2 : nextC v has = if hasC has = 0 then (if few v.has has = true then 8 else 0) else hasC has := by rw [e1]; exact if_neg (en ▸ h2)
      by_cases h3 : hasC has = 0
      · have H3 : Hid (errF (hasC has) = .nilIface) := by show errF _ = _; rw [h3]; rfl
        have H6 : Hid (has.length ≤ 5 ∧ 0 < has.length) := ⟨has_le h3, (has_ok h3).1⟩
        cases hf : few v.has has with
        | true =>
          have e3 : nextC v has = 8 := by rw [e2, if_pos h3, if_pos hf]
          have HF : Hid (few v.has has = true) := hf
          have HE : Hid (nextV v has = ⟨0, []⟩ ∧ errF (nextC v has) = .iface 52 (.int .i64 8)) := ⟨next_no (by rw [e3]; decide), by rw [e3]; rfl⟩
          rw [HE.out.1, HE.out.2, ← en]
          rw [← en] at P
          clear hv hh h1 e1 e2 e3 h3 hf hn en h2 
          go_enter Tryd.func22, Tryd.ntmps22
          go_wp2_with fail
          rw [EN.out] at P ⊢
          refine (checkV v u _ (by exact P.out.a.sl)).mono ?_
          rintro e w1 ⟨rfl, hb⟩
          rw [H1.out]
          have P1 : Hid (B2 w w.heap.size v noV u (.slice none 0 0) w1) := P.out.later hb
          rw [← EN.out]
          have c0 := P1.out.a.c0
          rw [← EN.out] at c0
          clear hb
          go_wp2_with fail
          refine (members_any has u' _ (HH.out.later P1.out.bel)).mono ?_
          rintro e w1 ⟨rfl, rfl⟩
          rw [H3.out]
          have c1 := P1.out.a.c1
          go_wp2_with fail
          refine (most_any v.has has u u' _ (by exact P1.out.a.sl) (HH.out.later P1.out.bel) (by have := H5.out; omega) (by have := H6.out.1; omega)).mono ?_
          rintro e w2 ⟨rfl, hb⟩
          rw [HF.out]
          have P2 : Hid (B2 w w.heap.size v noV u (.slice none 0 0) w2) := P1.out.later hb
          clear hb c0 c1
          have t0 := P2.out.b.c0
          have t1 := P2.out.b.c1
          have f0 := World.rowIs.frozen P2.out.b.row 0
          have f1 := World.rowIs.frozen P2.out.b.row 1
          go_wp2
          obtain ⟨u0, u1, bb⟩ := P2.out.setR (.int .i64 0) (.slice none 0 0)
          refine bodyPost_ret (v := .tuple #[.agg #[.int .i64 0, .slice none 0 0], .iface 52 (.int .i64 8)]) (ret2V (B := w.heap.size + 1) rfl rfl rfl u0 u1) rfl ?_
          exact ⟨none, 0, rfl, Sl.nil _, fun ad q => (by cases q), bb⟩
        | false =>
          have e3 : nextC v has = 0 := by rw [e2, if_pos h3, if_neg (by rw [hf]; decide)]
          have HF : Hid (few v.has has = false) := hf
          have HE : Hid (nextV v has = ⟨v.n + 1, has⟩ ∧ errF (nextC v has) = .nilIface) := ⟨next_is e3, by rw [e3]; rfl⟩
          have hwr : IntKind.i64.wrap (n + 1) = n + 1 := IntWalk.i64_in _ (by omega)
          rw [HE.out.1, HE.out.2, ← en]
          rw [← en] at P
          clear hv hh h1 e1 e2 e3 h3 hf hn en h2 
          go_enter Tryd.func22, Tryd.ntmps22
          go_wp2_with fail
          rw [EN.out] at P ⊢
          refine (checkV v u _ (by exact P.out.a.sl)).mono ?_
          rintro e w1 ⟨rfl, hb⟩
          rw [H1.out]
          have P1 : Hid (B2 w w.heap.size v noV u (.slice none 0 0) w1) := P.out.later hb
          rw [← EN.out]
          have c0 := P1.out.a.c0
          rw [← EN.out] at c0
          clear hb
          go_wp2_with fail
          refine (members_any has u' _ (HH.out.later P1.out.bel)).mono ?_
          rintro e w1 ⟨rfl, rfl⟩
          rw [H3.out]
          have c1 := P1.out.a.c1
          go_wp2_with fail
          refine (most_any v.has has u u' _ (by exact P1.out.a.sl) (HH.out.later P1.out.bel) (by have := H5.out; omega) (by have := H6.out.1; omega)).mono ?_
          rintro e w2 ⟨rfl, hb⟩
          rw [HF.out]
          have P2 : Hid (B2 w w.heap.size v noV u (.slice none 0 0) w2) := P1.out.later hb
          clear hb c0 c1
          have HS : Hid (∀ X : World, (∀ b, b < w2.heap.size → X.heap[b]? = w2.heap[b]?) → X.cell? ⟨w.heap.size, 0, none⟩ = some (.int .i64 n)) := by
            intro X hX
            rw [EN.out]
            exact (World.cell?_of_block (a := ⟨w.heap.size, 0, none⟩) (hX _ P2.out.a.lt)).trans P2.out.a.c0
          go_wp2_with fail
          go_region_held3 (fun X => X.cell? ⟨w.heap.size, 0, none⟩ = some (.int .i64 n)) (first | exact HS.out _ (fun _ _ => rfl) | exact HS.out _ (fun b hb' => B4.out.block b hb') | exact HT.out _ _) (first
            | (go_at_call 27; refine (cloneP u' has _ (by have z := HH.out.later P2.out.bel; exact z) H6.out.2 (by have := H6.out.1; omega)).mono ?_; rintro e4 w4 ⟨v4, rfl, ho, hb⟩; obtain ⟨q4, c4, rfl, hsl, hnw⟩ := OwP.sl ho; have B4 : Hid (Below w2.heap.size w2 w4) := ⟨hb.os, hb.tape, hb.output, hb.size, fun k hk => hb.block k hk⟩; have P4 : Hid (B2 w w.heap.size v noV u (.slice none 0 0) w4) := P2.out.later B4.out; have HN : Hid (Sl w4 (.slice q4 has.length c4) has ∧ (∀ ad, q4 = some ad → w2.heap.size ≤ ad.block)) := ⟨hsl, fun ad e => by have := hnw ad e; simpa using this⟩; have t0 := P4.out.b.c0; have t1 := P4.out.b.c1; have f0 := World.rowIs.frozen P4.out.b.row 0; have f1 := World.rowIs.frozen P4.out.b.row 1; have HT : Hid (∀ x0 x1 : Value, ((w4.setCell ⟨w.heap.size + 1, 0, none⟩ x0).setCell ⟨w.heap.size + 1, 1, none⟩ x1).cell? ⟨w.heap.size, 0, none⟩ = some (.int .i64 n)) := (fun x0 x1 => by rw [EN.out]; exact (World.cell?_of_block (a := ⟨w.heap.size, 0, none⟩) (two_other _ _ _ _ (b := w.heap.size) (Nat.ne_of_lt (Nat.lt_succ_self _)))).trans P4.out.a.c0); clear ho hb hsl hnw))
          go_wp2
          obtain ⟨u0, u1, bb⟩ := P4.out.setR (.int .i64 (n + 1)) (.slice q4 has.length c4)
          refine bodyPost_ret (v := .tuple #[.agg #[.int .i64 (n + 1), .slice q4 has.length c4], .nilIface]) (ret2V (B := w.heap.size + 1) rfl rfl rfl u0 u1) rfl ?_
          have hR : w.heap.size + 1 < w2.heap.size := P2.out.b.lt
          exact ⟨q4, c4, by first | rfl | rw [EN.out], sl_two HN.out.1 (fun ad e => by have := HN.out.2 ad e; omega) _ _, fun ad e _ => by have := HN.out.2 ad e; omega, bb⟩
      · have HE : Hid (nextV v has = ⟨0, []⟩ ∧ errF (nextC v has) = .iface 52 (.int .i64 (hasC has)) ∧ errF (hasC has) = .iface 52 (.int .i64 (hasC has))) := by
          have e3 : nextC v has = hasC has := by rw [e2, if_neg h3]
          exact ⟨next_no (by rw [e3]; exact h3), by rw [e3]; exact errF_no h3, errF_no h3⟩
        rw [HE.out.1, HE.out.2.1, ← en]
        rw [← en] at P
        clear hv hh h1 e1 e2 h3 hn en h2 
        go_enter Tryd.func22, Tryd.ntmps22
        go_wp2_with fail
        rw [EN.out] at P ⊢
        refine (checkV v u _ (by exact P.out.a.sl)).mono ?_
        rintro e w1 ⟨rfl, hb⟩
        rw [H1.out]
        have P1 : Hid (B2 w w.heap.size v noV u (.slice none 0 0) w1) := P.out.later hb
        rw [← EN.out]
        have c0 := P1.out.a.c0
        rw [← EN.out] at c0
        clear hb
        go_wp2_with fail
        refine (members_any has u' _ (HH.out.later P1.out.bel)).mono ?_
        rintro e w1 ⟨rfl, rfl⟩
        rw [HE.out.2.2]
        have t0 := P1.out.b.c0
        have t1 := P1.out.b.c1
        have f0 := World.rowIs.frozen P1.out.b.row 0
        have f1 := World.rowIs.frozen P1.out.b.row 1
        go_wp2
        obtain ⟨u0, u1, bb⟩ := P1.out.setR (.int .i64 0) (.slice none 0 0)
        refine bodyPost_ret (v := .tuple #[.agg #[.int .i64 0, .slice none 0 0], .iface 52 (.int .i64 (hasC has))]) (ret2V (B := w.heap.size + 1) rfl rfl rfl u0 u1) rfl ?_
        exact ⟨none, 0, rfl, Sl.nil _, fun ad q => (by cases q), bb⟩
  · have e2 : nextC v has = viewC v := if_neg h1
    have HE : Hid (nextV v has = ⟨0, []⟩ ∧ errF (nextC v has) = .iface 52 (.int .i64 (viewC v)) ∧ errF (viewC v) = .iface 52 (.int .i64 (viewC v))) := ⟨next_no (by rw [e2]; exact h1), by rw [e2]; exact errF_no h1, errF_no h1⟩
    rw [HE.out.1, HE.out.2.1]
    clear hv hh h1 e2
    go_enter Tryd.func22, Tryd.ntmps22
    go_wp2_with fail
    refine (checkV v u _ (by exact P.out.a.sl)).mono ?_
    rintro e w1 ⟨rfl, hb⟩
    rw [HE.out.2.2]
    have P1 : Hid (B2 w w.heap.size v noV u (.slice none 0 0) w1) := P.out.later hb
    have t0 := P1.out.b.c0
    have t1 := P1.out.b.c1
    have f0 := World.rowIs.frozen P1.out.b.row 0
    have f1 := World.rowIs.frozen P1.out.b.row 1
    clear hb
    go_wp2
    obtain ⟨u0, u1, bb⟩ := P1.out.setR (.int .i64 0) (.slice none 0 0)
    refine bodyPost_ret (v := .tuple #[.agg #[.int .i64 0, .slice none 0 0], .iface 52 (.int .i64 (viewC v))]) (ret2V (B := w.heap.size + 1) rfl rfl rfl u0 u1) rfl ?_
    exact ⟨none, 0, rfl, Sl.nil _, fun ad q => (by cases q), bb⟩
end Go.Proofs.YtgdmbnfdcbekaaiDoor.Viw
