/-
  The program's group with a leader and the document's own, side by side; In; the document's own as it is made.
-/
import Derived.Test.YtcccheeeagphpagDoorLdqF
import Derived.Test.YtcccheeeagphpagDoorLdrP
import Derived.Test.YtcccheeeagphpagDoorRowsF
namespace Go.Proofs.YtcccheeeagphpagDoor.Ldr
open Go.RowKit
open Go.Proofs.YtcccheeeagphpagDoor.Fif (own_lt own_block own_form own_mono own_vw ret_bool)
open Go.Proofs.YtcccheeeagphpagDoor.Vec (Vw)
open Go.Proofs.YtcccheeeagphpagDoor.Sep (KpL NewL)
set_option linter.unusedVariables false

theorem refIn (a : Option Addr) (len cap : Nat) (l : List Int) (x : Int) (w : World) (hv : Vw w a len l) (hl : len ≤ 1000) : Calls Tryd.prog 6 #[.slice a len cap, .int .i64 x] w fun e w' => e = .returned (.bool (l.contains x)) ∧ w' = w := by
  have h1 := hv.1
  have H1 : Hid (l.length = len) := h1
  obtain ⟨-, gv⟩ := hv
  have G : Hid _ := gv
  clear gv h1
  go_enter Tryd.func6, Tryd.ntmps6
  go_wp2
  go_loopw [5] (fun i wr => ∃ k : Nat, k ≤ len ∧ i = .int .i64 k ∧ wr = w ∧ Hid (∀ j, j < k → l.getD j 0 ≠ x)) (fun i _ => len - (intOf i).toNat)
  case atStart => exact ⟨0, by omega, rfl, rfl, fun j hj => absurd hj (by omega)⟩
  case round =>
    obtain ⟨k, hk, rfl, rfl, hp⟩ := hrel
    by_cases hlt : k < len
    · obtain ⟨p, off, rfl, hpb, hc⟩ := G.out (by omega)
      have hx := hc k hlt
      obtain ⟨y, ey⟩ : ∃ y, y = l.getD k 0 := ⟨_, rfl⟩
      rw [← ey] at hx
      have EY : Hid _ := ey
      have hk0 : (0 : Int) ≤ (k : Int) := by omega
      have hkl : (k : Int) < (len : Int) := by omega
      clear hc ey
      by_cases hxy : y = x
      · have hne : (y == x) = true := by simp [hxy]
        have HXY : Hid (y = x) := hxy
        clear hxy
        go_wp2
        go_ret
        refine ⟨?_, rfl⟩
        have hm : x ∈ l := by
          rw [← HXY.out, EY.out, List.getD, List.getElem?_eq_getElem (by have := H1.out; omega)]
          exact List.getElem_mem _
        rw [List.contains_iff_mem.2 hm]
        rfl
      · have hne : (y == x) = false := by simp [hxy]
        have HXY : Hid (y ≠ x) := hxy
        clear hxy
        go_wp2
        go_roundw
        case rel => exact ⟨k + 1, by omega, by go_num, by first | rfl | trivial, fun j hj => if e : j < k then hp.out j e else by rw [show j = k by omega, ← EY.out]; exact HXY.out⟩
        case measure => simp [intOf]; omega
    · have hi : k = len := by omega
      subst hi
      go_wp2
      go_ret
      refine ⟨?_, rfl⟩
      have hm : x ∉ l := fun q => by
        obtain ⟨j, hj, e⟩ := List.getElem_of_mem q
        refine hp.out j (by have := H1.out; omega) ?_
        rw [List.getD, List.getElem?_eq_getElem hj]
        exact e
      have : l.contains x = false := by
        rw [Bool.eq_false_iff]
        intro q
        exact hm (List.contains_iff_mem.1 q)
      rw [this]
      rfl
/-- three numbers in a block -/
def V3 (w : World) (V : Nat) (k0 k1 k2 : Int) : Prop := w.cell? ⟨V, 0, none⟩ = some (.int .i64 k0) ∧ w.cell? ⟨V, 1, none⟩ = some (.int .i64 k1) ∧ w.cell? ⟨V, 2, none⟩ = some (.int .i64 k2)
theorem V3.of_block {w w' : World} {V : Nat} {k0 k1 k2 : Int} (h : V3 w V k0 k1 k2) (e : w'.heap[V]? = w.heap[V]?) : V3 w' V k0 k1 k2 := ⟨(World.cell?_of_block (a := ⟨V, 0, none⟩) e).trans h.1, (World.cell?_of_block (a := ⟨V, 1, none⟩) e).trans h.2.1, (World.cell?_of_block (a := ⟨V, 2, none⟩) e).trans h.2.2⟩
structure PS (w : World) (P Q V : Nat) (wr : World) (lp : L) (fp : List Nat) (lr : L) (v : Value) (k0 k1 k2 : Int) : Prop where
  ag : LS wr w.heap.size P lp fp
  ra : RL wr w.heap.size Q lr v
  dj : ∀ b, b ∈ fp → b ∉ rfp Q v
  tr : V3 wr V k0 k1 k2
  vl : V < wr.heap.size
  vf : V ∉ fp
  vr : V ∉ rfp Q v
  bel : Below w.heap.size w wr
  wf : (Lit.int .i64 k2).wf = true
variable {w wr w' : World} {P Q V : Nat} {lp lr : L} {fp : List Nat} {v : Value} {k0 k1 k2 : Int}
theorem PS.later (h : PS w P Q V wr lp fp lr v k0 k1 k2) (hb : Below wr.heap.size wr w') : PS w P Q V w' lp fp lr v k0 k1 k2 :=
  ⟨h.ag.of_blocks hb.size fun b hb' => hb.block b (h.ag.fp b hb').2, h.ra.later hb, h.dj, h.tr.of_block (hb.block V h.vl), Nat.lt_of_lt_of_le h.vl hb.size, h.vf, h.vr, h.bel.trans (hb.mono h.bel.size), h.wf⟩
/-- the document's own turns -/
theorem PS.ref {lr' : L} {v' : Value} (h : PS w P Q V wr lp fp lr v k0 k1 k2) (hr : RL w' w.heap.size Q lr' v') (hb : Below w.heap.size wr w') (hk : KpL wr w' (rfp Q v)) (hn : NewL wr (rfp Q v) (rfp Q v')) : PS w P Q V w' lp fp lr' v' k0 k1 k2 := by
  refine ⟨h.ag.of_blocks hk.1 fun b hb' => hk.2 b (h.ag.fp b hb').2 (h.dj b hb'), hr, fun b hb' q => ?_, h.tr.of_block (hk.2 V h.vl h.vr), Nat.lt_of_lt_of_le h.vl hk.1, h.vf, fun q => ?_, h.bel.trans hb, h.wf⟩
  · rcases hn b q with z | z
    · exact h.dj b hb' z
    · have := (h.ag.fp b hb').2; omega
  · rcases hn V q with z | z
    · exact h.vr z
    · have := h.vl; omega
/-- the program's turns -/
theorem PS.prog {lp' : L} {fp' : List Nat} (h : PS w P Q V wr lp fp lr v k0 k1 k2) (ha : LS w' w.heap.size P lp' fp') (hb : Below w.heap.size wr w') (hk : KpL wr w' fp) (hn : NewL wr fp fp') : PS w P Q V w' lp' fp' lr v k0 k1 k2 := by
  refine ⟨ha, h.ra.of_blocks fun b hb' => hk.2 b (h.ra.fp b hb').2 (fun q => h.dj b q hb'), fun b hb' q => ?_, h.tr.of_block (hk.2 V h.vl h.vf), Nat.lt_of_lt_of_le h.vl hk.1, fun q => ?_, h.vr, h.bel.trans hb, h.wf⟩
  · rcases hn b hb' with z | z
    · exact h.dj b z q
    · have := (h.ra.fp b q).2; omega
  · rcases hn V q with z | z
    · exact h.vf z
    · have := h.vl; omega

/-- a block aside turns -/
theorem PS.tmp {B : Nat} (h : PS w P Q V wr lp fp lr v k0 k1 k2) (hs : wr.heap.size ≤ w'.heap.size) (hk : ∀ b, b < wr.heap.size → b ≠ B → w'.heap[b]? = wr.heap[b]?) (h1 : B ∉ fp) (h2 : B ∉ rfp Q v) (h3 : B ≠ V) (hb : Below w.heap.size wr w') : PS w P Q V w' lp fp lr v k0 k1 k2 :=
  ⟨h.ag.of_blocks hs fun b hb' => hk b (h.ag.fp b hb').2 (fun e => h1 (e ▸ hb')), h.ra.of_blocks fun b hb' => hk b (h.ra.fp b hb').2 (fun e => h2 (e ▸ hb')), h.dj, h.tr.of_block (hk V h.vl (fun e => h3 e.symm)), Nat.lt_of_lt_of_le h.vl hs, h.vf, h.vr, h.bel.trans hb, h.wf⟩
theorem RL.added {w5 W2 : World} {base gg gc n : Nat} {x : Int} {l : L} (h : RL wr base Q l v) (hbw : base ≤ wr.heap.size) (hg : wr.grownBy w5 v.ownBlock) (ho : w5.ownsRow base 3 1 (.slice (some ⟨gg, 0, none⟩) (n + 1) gc) (n + 1) (l.ws.map (Value.int .i64) ++ [.int .i64 x])) (hn : n = l.ws.length) (hat : v.ownBlock = some gg ∨ wr.heap.size ≤ gg)
    (e1 : W2.heap = (w5.setCell ⟨Q, 1, none⟩ (.slice (some ⟨gg, 0, none⟩) (n + 1) gc)).heap) (e2 : W2.os = w5.os) (e3 : W2.tape = w5.tape) (e4 : W2.output = w5.output) :
    RL W2 base Q { l with ws := l.ws ++ [x] } (.slice (some ⟨gg, 0, none⟩) (n + 1) gc) ∧ Below base wr W2 ∧ KpL wr W2 (rfp Q v) ∧ NewL wr (rfp Q v) (rfp Q (.slice (some ⟨gg, 0, none⟩) (n + 1) gc)) := by
  have r := h.add hg ho hn hat
  have b1 : Below base wr (w5.setCell ⟨Q, 1, none⟩ (.slice (some ⟨gg, 0, none⟩) (n + 1) gc)) := ((Below.refl base wr).grown hg hbw (fun b hb => (own_lt h.own b hb).1)).setCell (p := ⟨Q, 1, none⟩) h.low _
  refine ⟨r.of_blocks fun b _ => by rw [e1], ⟨e2.trans b1.os, e3.trans b1.tape, e4.trans b1.output, by rw [e1]; exact b1.size, fun k hk => by rw [e1]; exact b1.block k hk⟩, ⟨by rw [e1]; exact b1.size, fun b hb hnb => ?_⟩, fun b hb => ?_⟩
  · rw [e1, Deep.blk_setCell_other _ _ _ _ (fun e => hnb (mem_rfp.2 (.inl e)))]
    exact hg.block b hb (fun e => hnb (mem_rfp.2 (.inr e.symm)))
  · rcases mem_rfp.1 hb with e | e
    · exact .inl (mem_rfp.2 (.inl e))
    · have e' : gg = b := by simpa [Value.ownBlock] using e
      rw [← e']
      rcases hat with z | z
      · exact .inl (mem_rfp.2 (.inr z))
      · exact .inr z
theorem RL.words {base : Nat} {l : L} (h : RL wr base Q l v) {q : Option Addr} {nn c : Nat} (ev : v = .slice q nn c) (en : nn = l.ws.length) : Vw wr q nn l.ws ∧ nn ≤ c ∧ c ≤ maxLen := by
  obtain ⟨a, c', e, h1, h2, h3⟩ := Sl.of_own h.own
  rw [ev] at e
  injection e with e1 e2 e3
  rw [e1, en, e3]
  exact ⟨h3, h1, h2⟩
/-- a part of the words -/
theorem sl_cut {W : World} {b off nn cv fr te : Nat} {ws : List Int} (h : Vw W (some ⟨b, off, none⟩) nn ws) (h1 : fr ≤ te) (h2 : te ≤ nn) (h3 : nn ≤ cv) (h4 : cv ≤ maxLen) : Sl W (.slice (some ⟨b, off + fr, none⟩) (te - fr) (cv - fr)) ((ws.take te).drop fr) := by
  have hl : ((ws.take te).drop fr).length = te - fr := by rw [List.length_drop, List.length_take, h.1]; omega
  refine ⟨some ⟨b, off + fr, none⟩, cv - fr, by rw [hl], by rw [hl]; omega, by omega, rfl, fun z => ?_⟩
  rw [hl] at z
  obtain ⟨b', off', e, hb, hc⟩ := h.2 (by omega)
  injection e with e
  injection e with e1 e2 e3
  subst e1 e2
  refine ⟨b, off + fr, rfl, hb, fun k hk => ?_⟩
  rw [hl] at hk
  have : ((ws.take te).drop fr).getD k 0 = ws.getD (fr + k) 0 := by
    simp [List.getD, List.getElem?_drop, List.getElem?_take_of_lt (show fr + k < te by omega)]
  rw [this, show off + fr + k = off + (fr + k) by omega]
  exact hc (fr + k) (by omega)
theorem sl_take {W : World} {q : Option Addr} {nn cv te : Nat} {ws : List Int} (h : Vw W q nn ws) (h2 : te ≤ nn) (h3 : nn ≤ cv) (h4 : cv ≤ maxLen) : Sl W (.slice q te cv) (ws.take te) := by
  have hl : (ws.take te).length = te := by rw [List.length_take, h.1]; omega
  refine ⟨q, cv, by rw [hl], by rw [hl]; omega, h4, rfl, fun z => ?_⟩
  rw [hl] at z
  obtain ⟨b, off, e, hb, hc⟩ := h.2 (by omega)
  refine ⟨b, off, e, hb, fun k hk => ?_⟩
  rw [hl] at hk
  have : (ws.take te).getD k 0 = ws.getD k 0 := by simp [List.getD, List.getElem?_take_of_lt hk]
  rw [this]
  exact hc k (by omega)
theorem sl_none (W : World) (q : Option Addr) (ws : List Int) (h : ws = []) : Sl W (.slice q 0 0) ws := by
  subst h
  exact ⟨q, 0, rfl, Nat.le_refl _, Nat.zero_le _, rfl, fun q => absurd q (by decide)⟩
theorem quiet_plus {P : Program} {f : FuncId} {args : Array Value} {w : World} {n m : Nat} {v : Value} (h : Calls P f args (w.drewN (n + m)) fun e w' => e = .returned v ∧ w' = w.drewN (n + m)) : Calls P f args (w.drewN (n + m)) fun e w'' => e = .returned v ∧ ∃ k, w'' = w.drewN (n + k) :=
  h.mono fun _ _ ⟨he, hm⟩ => ⟨he, m, hm⟩
/-- how both stand -/
def PA (w : World) (P Q n : Nat) (wr : World) : Prop := ∃ l fp v, LS wr w.heap.size P l fp ∧ RL wr w.heap.size Q l v ∧ (∀ b, b ∈ fp → b ∉ rfp Q v) ∧ Inv l ∧ l.n = n ∧ Below w.heap.size w wr
theorem PS.pa {n : Nat} (h : PS w P Q V wr lp fp lp v k0 k1 k2) (hi : Inv lp) (hn : lp.n = n) : PA w P Q n wr := ⟨lp, fp, v, h.ag, h.ra, h.dj, hi, hn, h.bel⟩
theorem wf_zero : (Lit.int .i64 0).wf = true := by decide
theorem wf_if {p : Prop} [Decidable p] {x y : Int} (hx : (Lit.int .i64 x).wf = true) (hy : (Lit.int .i64 y).wf = true) : (Lit.int .i64 (if p then x else y)).wf = true := by
  split
  · exact hx
  · exact hy
def R3q (wo wz : World) : Prop := ∃ f : Nat → Int, wz.rowIs wo.heap.size 35 3 (fun t => .int .i64 (f t)) ∧ Below wo.heap.size wo wz ∧ ∀ t, (Lit.int .i64 (f t)).wf = true
theorem drewsG {B : Nat} {a w : World} (h : Below B a w) (n : Nat) : Below B a (w.drewN n) := ⟨h.os, h.tape, h.output, h.size, h.block⟩
theorem RL.heap {base : Nat} {l : L} (h : RL wr base Q l v) (e : w'.heap = wr.heap) : RL w' base Q l v := h.of_blocks fun b _ => by rw [e]
theorem eqGp : Tryd.prog.eqGuardType Tryd.prog.depth 37 = false := by kernel_rfl
theorem eqPl (a b : Int) (w : World) : (Op.equalIn 10000 37 (.agg #[.int .i64 a, .int .i64 b]) (.agg #[.int .i64 a, .int .i64 b])).run Tryd.prog w = .ok true w := by
  have u3 := Tryd.underlying3
  have a3 := Tryd.isAgg3
  have z3 := Tryd.sizeOf3
  have hS : Tryd.prog.underlying 37 = some (.struct (Tryd.prog.fieldsOf 37)) := by kernel_rfl
  have hp : Tryd.prog.stoodInHeld 37 = false := by kernel_rfl
  rw [show (10000 : Nat) = 9999 + 1 from rfl, run_equalIn_agg w 9999 37 _ _ hS hp]
  simp only [Program.fieldsOf, Tryd.underlying37]
  go_simp
def sp (s : Int × Int) (j : Nat) : Value := if j = 0 then .int .i64 s.1 else .int .i64 s.2
theorem boxP (w : World) (a b : Int) : (w.alloc (.cells #[.int .i64 a, .int .i64 b] 37)).rowIs w.heap.size 37 2 (sp (a, b)) := World.rowIs_alloc w #[.int .i64 a, .int .i64 b] 37 _ fun i hi => by rcases i with _ | _ | i <;> first | rfl | (exfalso; have : _ < 2 := hi; omega)

/-! the document's own, as it is made -/
def zLd : Array Value := Array.ofFn fun i : Fin 157 => fl 0 (.slice none 0 0) (fun _ _ => false) i.val
set_option maxRecDepth 100000 in
theorem zero_ld (W : World) : (zeroValue 34).run Tryd.prog W = .ok (.agg zLd) W := by kernel_rfl
theorem zLd_size : zLd.size = 157 := by unfold zLd; simp
theorem zLd_ne : (zLd = #[]) = False := by
  apply propext
  constructor
  · intro h
    have := zLd_size
    rw [h] at this
    cases this
  · exact False.elim
theorem RL.made (w : World) (base n : Nat) (hb : base ≤ w.heap.size) : RL (w.alloc (.cells (zLd.setIfInBounds 0 (.int .i64 (n : Int))) 34)) base w.heap.size (start n) (.slice none 0 0) := by
  refine ⟨?_, hb, World.ownsRow_nil _ _ _ _, fun e => (by cases e)⟩
  have h := World.rowIs_alloc w (zLd.setIfInBounds 0 (.int .i64 (n : Int))) 34 (fl (n : Int) (.slice none 0 0) (start n).come) (fun i hi => by
    have hi' : i < 157 := by rw [Array.size_setIfInBounds, zLd_size] at hi; exact hi
    by_cases e : i = 0
    · subst e
      rw [Array.getElem?_setIfInBounds_self_of_lt (by rw [zLd_size]; omega)]
      rfl
    · rw [Array.getElem?_setIfInBounds_ne (fun q => e q.symm)]
      have : zLd[i]? = some (fl 0 (.slice none 0 0) (fun _ _ => false) i) := by
        unfold zLd
        rw [Array.getElem?_ofFn, dif_pos hi']
      rw [this]
      unfold fl
      rw [if_neg e, if_neg e]
      rfl)
  rw [Array.size_setIfInBounds, zLd_size] at h
  exact h
end Go.Proofs.YtcccheeeagphpagDoor.Ldr
