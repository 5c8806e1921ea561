/-
  The document's own group: Settle, where a stamp is learnt.
-/
import Derived.Test.YtcolcjnmdejfeafDoorAgrT
import Derived.Deep.CutRange
namespace Go.Proofs.YtcolcjnmdejfeafDoor.Agr
open Go.RowKit
open Go.Proofs.YtcolcjnmdejfeafDoor.Fif (own_lt own_block own_form own_mono own_vw ret_bool info_int lenOf new_int int_one)
open Go.Proofs.YtcolcjnmdejfeafDoor.Vec (Vw)
open Go.Proofs.YtcolcjnmdejfeafDoor.Sep (KpL NewL)
set_option linter.unusedVariables false
variable {w w' : World} {base P : Nat} {g : G} {hs : Nat → Value}

theorem own_pushG {w w' : World} {base : Nat} {ob : Obj} {t : TypeId} {s n : Nat} {v : Value} {xs : List Value} (o : w.ownsRow base t s v n xs) (e : w'.heap = w.heap.push ob) : w'.ownsRow base t s v n xs := own_block o fun k hk => by
  rw [e, Array.getElem?_push_lt (own_lt o k hk).2, Array.getElem?_eq_getElem (own_lt o k hk).2]
theorem new_pushG {w w' : World} {x : Int} {t : TypeId} (e : w'.heap = w.heap.push (.cells #[.int .i64 x] t)) : ∀ j u, [Value.int .i64 x][j]? = some u → w'.cell? ((⟨w.heap.size, 0, none⟩ : Addr).add j) = some u := by
  intro j u hj
  refine Eq.trans (World.cell?_of_block ?_) (new_int w _ rfl x t j u hj)
  rw [e]
  rfl
theorem grown_tmpG {w X w5 : World} {ob : Obj} {r : Option Nat} (hg : X.grownBy w5 r) (e : X.heap = w.heap.push ob) (e1 : X.os = w.os) (e2 : X.tape = w.tape) (e3 : X.output = w.output) : w.grownBy w5 r := by
  obtain ⟨a1, a2, a3, a4, a5⟩ := hg
  refine ⟨a1.trans e1, a2.trans e2, a3.trans e3, ?_, fun k hk hne => ?_⟩
  · rw [e, Array.size_push] at a4
    omega
  · rw [a5 k (by rw [e, Array.size_push]; omega) hne, e, Array.getElem?_push_lt hk, Array.getElem?_eq_getElem hk]
theorem RA.vw (h : RA w base P g hs) {m : Nat} (hm : m < 5) : ∃ q cap, hs m = .slice q (g.hd m).length cap ∧ Vw w q (g.hd m).length ((g.hd m).map fun x : Nat => (x : Int)) := by
  have o := h.own m hm
  rw [vals_int] at o
  exact own_vw o
theorem best_skip' {m v : Nat} (hv : 1 ≤ v) (h : wts g m v = false) : best g m v = best g m (v - 1) := by
  obtain ⟨j, rfl⟩ : ∃ j, v = j + 1 := ⟨v - 1, by omega⟩
  exact best_skip h
theorem best_step' {m v : Nat} (hv : 1 ≤ v) (h : wts g m v = true) : best g m v = if best g m (v - 1) = 0 ∨ les (ts g m v) (lst g m (v - 1)) = true then v else best g m (v - 1) := by
  obtain ⟨j, rfl⟩ : ∃ j, v = j + 1 := ⟨v - 1, by omega⟩
  exact best_step h
theorem lst_eq {m a b : Nat} (h : best g m a = best g m b) : lst g m a = lst g m b := by
  unfold lst
  rw [h]
/-- one more was heard: how the group stands then -/
structure Nx (w : World) (base P m : Nat) (hs : Nat → Value) (o : List Nat) (wo wr W : World) (g1 : G) (hs1 : Nat → Value) (b gg n c : Nat) : Prop where
  ra : RA W base P (hear g1 m b) (up1 hs1 m (.slice (some ⟨gg, 0, none⟩) n c))
  far : ∀ x, x < wr.heap.size → x ≠ P → some x ≠ (hs1 m).ownBlock → W.heap[x]? = wr.heap[x]?
  bel : Below base wr W
  was : RA wo base P g1 hs1
  up : Below wo.heap.size wo wr
  m5 : m < 5
  at_ : (hs1 m).ownBlock = some gg ∨ wr.heap.size ≤ gg
theorem Nx.size {o : List Nat} {wo wr W : World} {g1 : G} {hs1 : Nat → Value} {m b gg n c : Nat} (h : Nx w base P m hs o wo wr W g1 hs1 b gg n c) : wr.heap.size ≤ W.heap.size := h.bel.size
theorem Nx.of {o : List Nat} {wo wr w5 : World} {g1 : G} {hs1 : Nat → Value} {m b gg n c : Nat} (hR : RA wo base P g1 hs1) (hI : Below wo.heap.size wo wr) (hm : m < 5) (hg : wr.grownBy w5 (hs1 m).ownBlock) (ho : w5.ownsRow base 3 1 (.slice (some ⟨gg, 0, none⟩) (n + 1) c) (n + 1) (vals (g1.hd m) ++ [.int .i64 (b : Int)])) (hn : n = (g1.hd m).length) (hat : (hs1 m).ownBlock = some gg ∨ wr.heap.size ≤ gg) :
    Nx w base P m hs o wo wr (w5.setCell ⟨P, 657 + m, none⟩ (.slice (some ⟨gg, 0, none⟩) (n + 1) c)) g1 hs1 b gg (n + 1) c := by
  have hr := hR.later hI
  refine ⟨hr.hear hm hg ho hn hat, fun x hx hP hne => (Deep.blk_setCell_other _ _ _ _ hP).trans (hg.block x hx hne), ?_, hR, hI, hm, hat⟩
  have hb : base ≤ wr.heap.size := Nat.le_trans hr.low (Nat.le_of_lt hr.row.lt)
  exact ((Below.refl base wr).grown hg hb (fun k e => (own_lt (hr.own m hm) k e).1)).setCell (p := ⟨P, _, none⟩) hr.low _
theorem Nx.own {o : List Nat} {wo wr W : World} {g1 : G} {hs1 : Nat → Value} {m b gg n c : Nat} {v : Value} (h : Nx w base P m hs o wo wr W g1 hs1 b gg n c) (ho : wo.ownsRow w.heap.size 3 1 v o.length (vals o)) (hv : ∀ b, v.ownBlock = some b → b ∉ rfp P hs1) : W.ownsRow w.heap.size 3 1 v o.length (vals o) := by
  refine own_block ho fun k e => ?_
  have hk := (own_lt ho k e).2
  have hn := hv k e
  exact (h.far k (Nat.lt_of_lt_of_le hk h.up.size) (fun q => hn (mem_rfp.2 (.inl q))) (fun q => hn (mem_rfp.2 (.inr ⟨m, h.m5, q.symm⟩)))).trans (h.up.block k hk)
theorem Nx.next {o : List Nat} {wo wr W w7 : World} {g1 : G} {hs1 : Nat → Value} {m b gg n c lo g2 c2 : Nat} {v : Value} {fi : List Nat × G} (h : Nx w base P m hs o wo wr W g1 hs1 b gg n c) (hbw : base ≤ w.heap.size) (ho : wo.ownsRow w.heap.size 3 1 v o.length (vals o)) (hi : Inv0 g1) (hB : Below base w wo) (hK : KpL w wo (rfp P hs)) (hN : NewL w (rfp P hs) (rfp P hs1)) (hv : ∀ b, v.ownBlock = some b → b ∉ rfp P hs1) (hl : o.length ≤ (g1.hd m).length) (hb : b = best g1 m 30) (hb0 : b ≠ 0) (hk : g1.kn b m = true) (hf : (o ++ (run m g1).1, (run m g1).2) = fi)
    (hg : W.grownBy w7 v.ownBlock) (ho7 : w7.ownsRow w.heap.size 3 1 (.slice (some ⟨g2, 0, none⟩) (lo + 1) c2) (lo + 1) (vals o ++ [.int .i64 (b : Int)])) (hlo : lo = o.length) (hat : v.ownBlock = some g2 ∨ W.heap.size ≤ g2) :
    SMid w base P m hs fi w7 (.slice (some ⟨g2, 0, none⟩) (lo + 1) c2) true (hear g1 m b) (up1 hs1 m (.slice (some ⟨gg, 0, none⟩) n c)) := by
  have hu : ∀ x, x ∈ rfp P (up1 hs1 m (.slice (some ⟨gg, 0, none⟩) n c)) → x ∈ rfp P hs1 ∨ (wr.heap.size ≤ x ∧ x = gg) := by
    intro x hx
    rcases mem_rfp.1 hx with q | ⟨i, hi5, q⟩
    · exact .inl (mem_rfp.2 (.inl q))
    · unfold up1 at q
      by_cases e : i = m
      · rw [if_pos e] at q
        have eg : gg = x := by simpa [Value.ownBlock] using q
        rcases h.at_ with z | z
        · exact .inl (mem_rfp.2 (.inr ⟨m, h.m5, by rw [← eg]; exact z⟩))
        · exact .inr ⟨by omega, eg.symm⟩
      · rw [if_neg e] at q
        exact .inl (mem_rfp.2 (.inr ⟨i, hi5, q⟩))
  have hv2 : ∀ x, v.ownBlock = some x → x ∉ rfp P (up1 hs1 m (.slice (some ⟨gg, 0, none⟩) n c)) := by
    intro x e hx
    rcases hu x hx with q | q
    · exact hv x e q
    · have := (own_lt ho x e).2
      have := h.up.size
      omega
  have hb1 : best g1 m 30 ≠ 0 := by rw [← hb]; exact hb0
  have hk1 : g1.kn (best g1 m 30) m = true := by rw [← hb]; exact hk
  have hi1 : Inv0 (hear g1 m b) := by rw [hb]; exact hi.hear hb1 hk1
  refine ⟨o ++ [b], ?_, ?_, hi1, hi1.five, ?_, ?_, ⟨?_, fun x hx hnx => ?_⟩, fun x hx => ?_, fun x e hx => ?_, fun _ => ?_, fun e => by cases e⟩
  · exact h.ra.of_blocks fun x hx => hg.block x (h.ra.fp x hx).2 (fun e => hv2 x e.symm hx)
  · rw [List.length_append, vals_app, ← hlo]
    exact ho7
  · rw [List.length_append, hear_hd, if_pos rfl, List.length_append]
    exact Nat.add_le_add_right hl 1
  · have hbo : base ≤ wo.heap.size := Nat.le_trans h.was.low (Nat.le_of_lt h.was.row.lt)
    have h1 : Below base w W := (hB.trans (h.up.mono hbo)).trans h.bel
    exact h1.grown hg (Nat.le_trans hbo (Nat.le_trans h.up.size h.size)) (fun k e => Nat.le_trans hbw (own_lt ho k e).1)
  · exact Nat.le_trans hK.1 (Nat.le_trans h.up.size (Nat.le_trans h.size hg.size))
  · have hx1 : x ∉ rfp P hs1 := fun q => by
      rcases hN x q with z | z
      · exact hnx z
      · omega
    have hxo := Nat.lt_of_lt_of_le hx hK.1
    have hxr := Nat.lt_of_lt_of_le hxo h.up.size
    have e1 := h.far x hxr (fun q => hx1 (mem_rfp.2 (.inl q))) (fun q => hx1 (mem_rfp.2 (.inr ⟨m, h.m5, q.symm⟩)))
    have e2 := hg.block x (Nat.lt_of_lt_of_le hxr h.size) (fun e => by have := (own_lt ho x e.symm).1; omega)
    exact e2.trans (e1.trans ((h.up.block x hxo).trans (hK.2 x hx hnx)))
  · rcases hu x hx with q | q
    · exact hN x q
    · exact .inr (Nat.le_trans hB.size (Nat.le_trans h.up.size q.1))
  · have eg : g2 = x := by simpa [Value.ownBlock] using e
    rcases hat with q | q
    · exact hv2 x (by rw [← eg]; exact q) hx
    · have := (h.ra.fp x hx).2
      omega
  · rw [run_go hi hb1 hk1, ← hb] at hf
    rw [← hf]
    simp
set_option maxRecDepth 100000 in
set_option maxHeartbeats 2000000 in
theorem refSet_ok (m k : Nat) (w : World) (h : RA w base P g hs) (hi : Inv0 g) (hm : m < g.n) (hk : k < 31) (hc : chkC g (m : Int) (k : Int) = 0) (ha : allG g k = true) (hkn : g.kn k m = false) (hM : ∀ i, g.most i ≤ 100000) (hbw : base ≤ w.heap.size) : Calls Tryd.prog 23 #[.pointer (some ⟨P, 0, none⟩), .int .i64 (m : Int), .int .i64 (k : Int)] w fun x w' => ∃ vo hs', x = .returned (.tuple #[vo, .int .i64 0]) ∧ w'.ownsRow w.heap.size 3 1 vo (run m (know g m k)).1.length (vals (run m (know g m k)).1) ∧ RA w' base P (run m (know g m k)).2 hs' ∧ Below base w w' ∧ KpL w w' (rfp P hs) ∧ NewL w (rfp P hs) (rfp P hs') ∧ ∀ b, vo.ownBlock = some b → b ∉ rfp P hs' := by
  have hn := hi.five
  have HR : Hid (RA w base P g hs ∧ chkC g (m : Int) (k : Int) = 0 ∧ allG g k = true ∧ g.kn k m = false ∧ base ≤ w.heap.size ∧ Inv0 (know g m k)) := ⟨h, hc, ha, hkn, hbw, hi.know hm ha hkn⟩
  have m5 : m < 5 := by omega
  have hm0 : (0 : Int) ≤ (m : Int) := by omega
  have hm5 : (m : Int) < 5 := by omega
  have hfM : (fin g k).1 ≤ 100000 := by
    obtain ⟨i, hi', e, _⟩ := hi.fin_at ha
    rw [e]
    exact Nat.le_trans (hi.gvM k i) (hM i)
  have hx : g.most m ≤ 100000 := hM m
  obtain ⟨fi, efi⟩ : ∃ fi, fi = run m (know g m k) := ⟨_, rfl⟩
  rw [← efi]
  have EFI : Hid (fi = run m (know g m k)) := efi
  clear h hc ha hkn hi hM hbw efi
  go_enter Tryd.func23, Tryd.ntmps23
  go_wp2_with fail
  refine (refCheck P (ofG g hs) g hs (m : Int) (k : Int) _ HR.out.1.row hn).mono ?_
  rintro e w ⟨rfl, rfl⟩
  rw [HR.out.2.1]
  go_wp2_with fail
  refine (refFinal P g hs k w HR.out.1.row hn hk).mono ?_
  rintro e w1 ⟨⟨⟨f0, f1⟩, rfl, hfin⟩, hb⟩
  rw [HR.out.2.2.1]
  have EF : Hid ((f0, f1) = fin g k) := hfin HR.out.2.2.1
  have B1 : Hid (Below w.heap.size w w1) := hb
  have hf0 : f0 ≤ 100000 := by
    have := hfM
    rw [← EF.out] at this
    exact this
  have r1 := (HR.out.1.later hb).row
  have hP1 := r1.lt
  have cK := r1.cK (i := k) (j := m) hk m5
  have eK : (ofG g hs).K k m = false := HR.out.2.2.2.1
  rw [eK] at cK
  have zK := r1.fz (497 + k * 5 + m)
  obtain ⟨W3, eW3⟩ : ∃ W3, W3 = (w1.setCell ⟨P, 497 + k * 5 + m, none⟩ (.bool true)).alloc (.cells #[.int .i64 (f0 : Int), .int .i64 (f1 : Int)] 56) := ⟨_, rfl⟩
  have hsz : (w1.setCell ⟨P, 497 + k * 5 + m, none⟩ (.bool true)).heap.size = w1.heap.size := by simp [World.setCell]
  have R3 : Hid (Rb W3 P { ofG g hs with K := up2 (ofG g hs).K k m true } ∧ W3.rowIs w1.heap.size 56 2 (sv (f0, f1)) ∧ Below base w W3 ∧ ∀ b, b < w.heap.size → b ≠ P → W3.heap[b]? = w.heap[b]?) := by
    rw [eW3]
    refine ⟨(r1.setK hk m5 _).of_block (Below.heap_alloc _ _ _ (by rw [hsz]; exact hP1)), ?_, ((B1.out.mono HR.out.2.2.2.2.1).setCell (p := ⟨P, _, none⟩) HR.out.1.low _).alloc (by rw [hsz]; exact Nat.le_trans HR.out.2.2.2.2.1 B1.out.size) _, fun b hb' hne => ?_⟩
    · rw [← hsz]
      exact box2 _ f0 f1
    · rw [Below.heap_alloc _ _ _ (by rw [hsz]; exact Nat.lt_of_lt_of_le hb' B1.out.size)]
      exact (Deep.blk_setCell_other _ _ _ _ hne).trans (B1.out.block b hb')
  have s0 := (box_c0 R3.out.2.1).1
  have s1 := (box_c1 R3.out.2.1).1
  simp only at s0 s1
  have cM := R3.out.1.cM (i := m) m5
  have zM := R3.out.1.fz (652 + m)
  obtain ⟨x, ex⟩ : ∃ x, x = g.most m := ⟨_, rfl⟩
  have eM : ({ ofG g hs with K := up2 (ofG g hs).K k m true } : Fd).M m = (x : Int) := by rw [ex]; rfl
  rw [eM] at cM
  rw [← ex] at hx
  have EX : Hid (x = g.most m) := ex
  have hw1 : w.heap.size ≤ w1.heap.size := B1.out.size
  clear hb eM eK hfin ex hfM r1
  go_wp2_with fail
  rw [← eW3]
  clear eW3 cK zK hsz
  have hS : ∀ (f : Nat → Int) (X : World), Rb X P { ofG g hs with K := up2 (ofG g hs).K k m true, M := f } → (∀ i, i < 5 → f i = ((know g m k).most i : Int)) → (∀ b, b < w.heap.size → b ≠ P → X.heap[b]? = w.heap[b]?) → RA X base P (know g m k) hs := by
    intro f X hX hf hoth
    refine ⟨hX.congr (fv_ext rfl (fun _ _ => rfl) (fun _ _ _ _ => rfl) (fun _ _ _ _ => rfl) (fun _ _ _ _ => rfl) (fun v i _ _ => ?_) (fun i hi' => hf i hi') (fun _ _ => rfl)), HR.out.1.low, fun i hi' => own_block (HR.out.1.own i hi') fun b e => ?_, HR.out.1.ne, HR.out.1.one⟩
    · show up2 _ k m true v i = if v = k ∧ i = m then true else g.kn v i
      unfold up2
      rfl
    · exact hoth b (own_lt (HR.out.1.own i hi') b e).2 (fun q => HR.out.1.ne i hi' (by rw [← q]; exact e))
  have HS : Hid _ := hS
  clear hS
  go_quiet (fail)
  go_upto_if 57 with fail
  go_cut [58] from 57 to 64 (fun _ wc => Hid (RA wc base P (know g m k) hs ∧ Below base w wc ∧ ∀ b, b < w.heap.size → b ≠ P → wc.heap[b]? = w.heap[b]?))
  case first =>
    by_cases hlt : x < f0
    · have hq : (x : Int) < (f0 : Int) := by omega
      go_wp2_with fail
      go_region
      go_wp2
      go_meet
      refine ⟨HS.out _ _ ((R3.out.1.of_block (w' := W3.drewN (nq + 1)) rfl).setM m5 _) (fun i hi' => ?_) (fun b hb hne => ?_), (drewsG R3.out.2.2.1 _).setCell (p := ⟨P, _, none⟩) HR.out.1.low _, fun b hb hne => (Deep.blk_setCell_other _ _ _ _ hne).trans (R3.out.2.2.2 b hb hne)⟩
      · show up1 _ m (f0 : Int) i = (((if i = m then max (g.most m) (fin g k).1 else g.most i) : Nat) : Int)
        unfold up1
        by_cases e : i = m
        · rw [if_pos e, if_pos e, ← EX.out, ← EF.out]
          show (f0 : Int) = ((max x f0 : Nat) : Int)
          omega
        · rw [if_neg e, if_neg e]
          rfl
      · exact (Deep.blk_setCell_other _ _ _ _ hne).trans (R3.out.2.2.2 b hb hne)
    · have hq : ¬ (x : Int) < (f0 : Int) := by omega
      go_wp2
      go_meet
      refine ⟨HS.out (ofG g hs).M _ (R3.out.1.of_block rfl) (fun i hi' => ?_) (fun b hb hne => R3.out.2.2.2 b hb hne), drewsG R3.out.2.2.1 _, fun b hb hne => R3.out.2.2.2 b hb hne⟩
      show (g.most i : Int) = (((if i = m then max (g.most m) (fin g k).1 else g.most i) : Nat) : Int)
      by_cases e : i = m
      · rw [if_pos e, e, ← EX.out, ← EF.out]
        show (x : Int) = ((max x f0 : Nat) : Int)
        omega
      · rw [if_neg e]
  case rest =>
    obtain ⟨ii, hii, hz0, hz1, hz2⟩ := info_int
    have HJ : Hid (Tryd.prog.info? 3 = some ii ∧ ii.zero = some (.int .i64 0) ∧ ii.size = 1 ∧ ii.bytes = 8) := ⟨hii, hz0, hz1, hz2⟩
    have M0 : Hid (SMid w base P m hs fi wc (.slice none 0 0) true (know g m k) hs) := by
      refine ⟨[], hcut.out.1, World.ownsRow_nil _ _ _ _, HR.out.2.2.2.2.2, hn, Nat.zero_le _, hcut.out.2.1, ⟨hcut.out.2.1.size, fun b hb hnb => hcut.out.2.2 b hb (fun e => hnb (mem_rfp.2 (.inl e)))⟩, NewL.refl _ _, fun b e => (by cases e), fun _ => ?_, fun e => (by cases e)⟩
      rw [EFI.out]
      rfl
    clear hcut hii hz0 hz1 hz2 s0 s1 zM cM hx EX R3 HS hf0 EF B1 hP1 hw1
    go_wp2
    go_loopw [11, 12] (fun x y wr => ∃ b g1 hs1, y = .bool b ∧ Hid (SMid w base P m hs fi wr x b g1 hs1)) (fun x y _ => if tru y = true then 32 - lenOf x else 0)
    case atStart => exact ⟨true, _, _, rfl, M0⟩
    case round =>
      obtain ⟨ag, g1, hs1, rfl, hQ⟩ := hrel
      obtain ⟨wo, ewo⟩ : ∃ wo, wo = wr := ⟨_, rfl⟩
      subst ewo
      obtain ⟨o, q1, q2, q3, q4, q5, q6, q7, q8, q9, q10, q11⟩ := hQ.out
      obtain ⟨qo, co, rfl⟩ := own_form q2
      cases ag
      · have EF : Hid ((o, g1) = fi) := q11 rfl
        have QQ : Hid _ := And.intro q1 (And.intro q2 (And.intro q6 (And.intro q7 (And.intro q8 q9))))
        clear hQ q1 q2 q3 q4 q5 q6 q7 q8 q9 q10 q11
        go_wp2
        go_ret2
        rw [← EF.out]
        exact ⟨_, hs1, rfl, QQ.out.2.1, QQ.out.1, QQ.out.2.2.1, QQ.out.2.2.2.1, QQ.out.2.2.2.2.1, QQ.out.2.2.2.2.2⟩
      · have EF : Hid ((o ++ (run m g1).1, (run m g1).2) = fi) := q10 rfl
        have RO : Hid (RA wo base P g1 hs1 ∧ Inv0 g1 ∧ wo.ownsRow w.heap.size 3 1 (.slice qo o.length co) o.length (vals o) ∧ Below base w wo ∧ KpL w wo (rfp P hs) ∧ NewL w (rfp P hs) (rfp P hs1) ∧ (∀ b, (Value.slice qo o.length co).ownBlock = some b → b ∉ rfp P hs1) ∧ o.length ≤ (g1.hd m).length) := ⟨q1, q3, q2, q6, q7, q8, q9, q5⟩
        obtain ⟨lo, elo⟩ : ∃ lo, lo = o.length := ⟨_, rfl⟩
        have LO : Hid (lo = o.length) := elo
        rw [← elo]
        have hlo : lo ≤ 30 := by rw [elo]; exact Nat.le_trans q5 (q3.hd30 m)
        have I0 : Hid (Below wo.heap.size wo (wo.alloc (.cells #[.int .i64 0, .int .i64 0] 56)) ∧ (wo.alloc (.cells #[.int .i64 0, .int .i64 0] 56)).rowIs wo.heap.size 56 2 (sv (lst g1 m (1 - 1)))) := ⟨(Below.refl _ _).alloc (Nat.le_refl _) _, box2 wo 0 0⟩
        clear hQ q1 q2 q3 q4 q5 q6 q7 q8 q9 q10 q11 elo
        go_wp2
        go_loopw [13, 15] (fun xb xv wr => ∃ v : Nat, 1 ≤ v ∧ v ≤ 31 ∧ xv = .int .i64 (v : Int) ∧ xb = .int .i64 (best g1 m (v - 1) : Int) ∧ Hid (Below wo.heap.size wo wr ∧ wr.rowIs wo.heap.size 56 2 (sv (lst g1 m (v - 1))))) (fun _ xv _ => 31 - (intOf xv).toNat)
        case atStart => exact ⟨1, by omega, by omega, rfl, rfl, I0.out⟩
        case round =>
          obtain ⟨v, hv1, hv31', rfl, rfl, hI⟩ := hrel
          obtain ⟨bb, ebb⟩ : ∃ bb, bb = best g1 m (v - 1) := ⟨_, rfl⟩
          rw [← ebb]
          have EB : Hid (bb = best g1 m (v - 1)) := ebb
          have hbb : bb ≤ 30 := by rw [ebb]; exact Nat.le_trans (best_le _ _ _) (by omega)
          clear ebb
          by_cases hlt : v < 31
          · have hv0 : (0 : Int) ≤ (v : Int) := by omega
            have hv31 : (v : Int) < 31 := by omega
            have RI : Hid (RA wr base P g1 hs1) := RO.out.1.later hI.out.1
            obtain ⟨qh, ch, eh, hvw⟩ := RI.out.vw m5
            have cS := RI.out.row.cS (i := m) m5
            have eS : (ofG g1 hs1).S m = hs1 m := rfl
            rw [eS, eh] at cS
            obtain ⟨lh, elh⟩ : ∃ lh, lh = (g1.hd m).length := ⟨_, rfl⟩
            rw [← elh] at cS hvw
            have hlh : lh ≤ 1000 := by rw [elh]; have := RO.out.2.1.hd30 m; omega
            have cH := RI.out.row.cH (i := v) (j := m) (by omega) m5
            have eH : (ofG g1 hs1).H v m = decide (g1.gv v m ≠ 0) := rfl
            rw [eH] at cH
            have VW : Hid (Vw wr qh lh ((g1.hd m).map fun x : Nat => (x : Int))) := hvw
            have hin : Hid (((g1.hd m).map fun x : Nat => (x : Int)).contains (v : Int) = (g1.hd m).contains v) := has_nat (g1.hd m) v
            clear eS eH eh elh hvw
            by_cases hg : g1.gv v m = 0
            · have d : decide (g1.gv v m ≠ 0) = false := by simp [hg]
              rw [d] at cH
              have HW : Hid (wts g1 m v = false) := by unfold wts; rw [d]; rfl
              clear d hg
              go_wp2_with fail
              refine (refIn qh lh ch _ (v : Int) wr VW.out hlh).mono ?_
              rintro e wr ⟨rfl, rfl⟩
              rw [hin.out]
              go_wp2
              go_roundw
              case rel =>
                have e := best_skip' (m := m) hv1 HW.out
                exact ⟨v + 1, by omega, by omega, by go_num, by rw [show v + 1 - 1 = v by omega, e, EB.out], by rw [show v + 1 - 1 = v by omega, lst_eq e]; exact hI.out⟩
              case measure => simp [intOf]; omega
            · have d : decide (g1.gv v m ≠ 0) = true := by simp [hg]
              rw [d] at cH
              cases hcon : (g1.hd m).contains v
              · have HW : Hid (wts g1 m v = true) := by unfold wts; rw [d, hcon]; rfl
                have cA := RI.out.row.cA (i := v) (j := m) (by omega) m5
                have cB := RI.out.row.cB (i := v) (j := m) (by omega) m5
                have cK := RI.out.row.cK (i := v) (j := m) (by omega) m5
                have eA : (ofG g1 hs1).A v m = (g1.gv v m : Int) := rfl
                have eB : (ofG g1 hs1).B v m = (m : Int) := if_neg hg
                have eK : (ofG g1 hs1).K v m = g1.kn v m := rfl
                rw [eA] at cA
                rw [eB] at cB
                rw [eK] at cK
                obtain ⟨y, ey⟩ : ∃ y, y = g1.gv v m := ⟨_, rfl⟩
                rw [← ey] at cA
                have EY : Hid (y = g1.gv v m ∧ (g1.hd m).contains v = false) := ⟨ey, hcon⟩
                have hPr := RI.out.row.lt
                clear eA eB eK ey d hg hcon
                obtain ⟨l, el⟩ : ∃ l, l = lst g1 m (v - 1) := ⟨_, rfl⟩
                have hwl := hI.out.2
                rw [← el] at hwl
                have EL : Hid (l = lst g1 m (v - 1) ∧ wr.rowIs wo.heap.size 56 2 (sv l)) := ⟨el, hwl⟩
                have y0 := (box_c0 hwl).1
                have y1 := (box_c1 hwl).1
                have hwo : wo.heap.size < wr.heap.size := World.rowIs.lt hwl
                obtain ⟨W0, eW0⟩ : ∃ W0, W0 = wr.alloc (.cells #[.int .i64 (y : Int), .int .i64 (m : Int)] 56) := ⟨_, rfl⟩
                have T0 : Hid (Below wo.heap.size wo W0 ∧ W0.rowIs wr.heap.size 56 2 (sv (y, m)) ∧ W0.rowIs wo.heap.size 56 2 (sv l)) := by
                  rw [eW0]
                  exact ⟨hI.out.1.alloc hI.out.1.size _, box2 wr y m, World.rowIs.of_block hwl (Below.heap_alloc _ _ _ hwo)⟩
                clear el hwl
                cases hkn : g1.kn v m
                · rw [hkn] at cK
                  obtain ⟨t, et⟩ : ∃ t : St, t = (y, m) := ⟨_, rfl⟩
                  have ET : Hid (t = ts g1 m v ∧ l = lst g1 m (v - 1)) := ⟨by rw [et]; unfold ts; rw [hkn, if_neg (by decide), ← EY.out.1], EL.out.1⟩
                  have TT : Hid (Below wo.heap.size wo W0 ∧ W0.rowIs wr.heap.size 56 2 (sv t) ∧ W0.rowIs wo.heap.size 56 2 (sv l)) := by rw [et]; exact T0.out
                  have EQ : Hid (t = (y, m)) := et
                  clear hkn et
                  go_wp2_with fail
                  refine (refIn qh lh ch _ (v : Int) wr VW.out hlh).mono ?_
                  rintro e wr ⟨rfl, rfl⟩
                  rw [hin.out, EY.out.2]
                  go_wp2_with fail
                  rw [← eW0]
                  refine (refLess (y, m) l W0).mono ?_
                  rintro e w8 ⟨rfl, hb8⟩
                  obtain ⟨W, eW⟩ : ∃ W, W = W0 := ⟨_, rfl⟩
                  rw [← eW] at hb8 TT
                  rw [← EQ.out]
                  clear y0 y1 eW0
                  have B8 : Hid (Below W.heap.size W w8) := hb8
                  have T8 : Hid (Below wo.heap.size wo w8 ∧ w8.rowIs wr.heap.size 56 2 (sv t) ∧ w8.rowIs wo.heap.size 56 2 (sv l)) := ⟨TT.out.1.trans (hb8.mono TT.out.1.size), World.rowIs.of_block TT.out.2.1 (hb8.block _ (World.rowIs.lt TT.out.2.1)), World.rowIs.of_block TT.out.2.2 (hb8.block _ (World.rowIs.lt TT.out.2.2))⟩
                  clear hb8
                  have x0 := (box_c0 T8.out.2.1).1
                  have x1 := (box_c1 T8.out.2.1).1
                  have v0a := (box_c0 T8.out.2.2).1
                  have v0b := (box_c0 T8.out.2.2).2
                  have v1a := (box_c1 T8.out.2.2).1
                  have v1b := (box_c1 T8.out.2.2).2
                  have hstep := best_step' (m := m) hv1 HW.out
                  rw [← ET.out.1, ← ET.out.2, ← EB.out] at hstep
                  by_cases hq : bb = 0 ∨ les t l = true
                  · rw [if_pos hq] at hstep
                    have HST : Hid (best g1 m v = v ∧ lst g1 m v = t) := ⟨hstep, by unfold lst; rw [hstep, if_neg (by omega), ET.out.1]⟩
                    have FIN : Hid (∀ X : World, X = (w8.setCell ⟨wo.heap.size, 0, none⟩ (.int .i64 (t.1 : Int))).setCell ⟨wo.heap.size, 1, none⟩ (.int .i64 (t.2 : Int)) → Hid (Below wo.heap.size wo X ∧ X.rowIs wo.heap.size 56 2 (sv (lst g1 m (v + 1 - 1))))) := by
                      intro X hX
                      rw [show v + 1 - 1 = v by omega, HST.out.2, hX]
                      exact ⟨set2 T8.out.1 (Nat.le_refl _) _ _, box_set T8.out.2.2 t.1 t.2⟩
                    clear hstep
                    by_cases hb0 : bb = 0
                    · have d0 : ((bb : Int) == 0) = true := by simp [hb0]
                      clear hq hb0
                      go_wp2
                      go_roundw
                      case rel => exact ⟨v + 1, by omega, by omega, by go_num, by rw [show v + 1 - 1 = v by omega, HST.out.1], FIN.out _ rfl⟩
                      case measure => simp [intOf]; omega
                    · have d0 : ((bb : Int) == 0) = false := by simp [hb0]
                      have hl : les t l = true := hq.resolve_left hb0
                      clear hq hb0
                      go_wp2
                      go_roundw
                      case rel => exact ⟨v + 1, by omega, by omega, by go_num, by rw [show v + 1 - 1 = v by omega, HST.out.1], FIN.out _ rfl⟩
                      case measure => simp [intOf]; omega
                  · rw [if_neg hq] at hstep
                    have d0 : ((bb : Int) == 0) = false := by simp; exact fun e => hq (.inl e)
                    have hl : les t l = false := by rw [Bool.eq_false_iff]; exact fun e => hq (.inr e)
                    have HST : Hid (best g1 m v = bb ∧ lst g1 m v = l) := ⟨hstep, by
                      rw [ET.out.2]
                      exact lst_eq (hstep.trans EB.out)⟩
                    clear hq hstep
                    go_wp2
                    go_roundw
                    case rel => exact ⟨v + 1, by omega, by omega, by go_num, by rw [show v + 1 - 1 = v by omega, HST.out.1], by rw [show v + 1 - 1 = v by omega, HST.out.2]; exact ⟨T8.out.1, T8.out.2.2⟩⟩
                    case measure => simp [intOf]; omega
                · rw [hkn] at cK
                  have HK : Hid (g1.kn v m = true ∧ Rb W0 P (ofG g1 hs1)) := ⟨hkn, by rw [eW0]; exact RI.out.row.of_block (Below.heap_alloc _ _ _ hPr)⟩
                  clear hkn
                  go_wp2_with fail
                  refine (refIn qh lh ch _ (v : Int) wr VW.out hlh).mono ?_
                  rintro e wr ⟨rfl, rfl⟩
                  rw [hin.out, EY.out.2]
                  go_wp2_with fail
                  rw [← eW0]
                  refine (refFinal P g1 hs1 v W0 HK.out.2 RO.out.2.1.five (by omega)).mono ?_
                  rintro e w6 ⟨⟨⟨t0, t1⟩, rfl, hfin⟩, hb6⟩
                  have hal := (RO.out.2.1.kn v m HK.out.1).1
                  have hf := hfin hal
                  rw [hal]
                  have T6 : Hid (Below wo.heap.size wo w6 ∧ w6.rowIs wr.heap.size 56 2 (sv (y, m)) ∧ w6.rowIs wo.heap.size 56 2 (sv l)) := ⟨T0.out.1.trans (hb6.mono T0.out.1.size), World.rowIs.of_block T0.out.2.1 (hb6.block _ (World.rowIs.lt T0.out.2.1)), World.rowIs.of_block T0.out.2.2 (hb6.block _ (World.rowIs.lt T0.out.2.2))⟩
                  obtain ⟨t, et⟩ : ∃ t : St, t = (t0, t1) := ⟨_, rfl⟩
                  have ET : Hid (t = ts g1 m v ∧ l = lst g1 m (v - 1)) := ⟨by rw [et, hf]; unfold ts; rw [HK.out.1, if_pos rfl], EL.out.1⟩
                  have EQ : Hid (t = (t0, t1)) := et
                  have hne : wo.heap.size ≠ wr.heap.size := Nat.ne_of_lt hwo
                  obtain ⟨W, eW⟩ : ∃ W, W = (w6.setCell ⟨wr.heap.size, 0, none⟩ (.int .i64 (t0 : Int))).setCell ⟨wr.heap.size, 1, none⟩ (.int .i64 (t1 : Int)) := ⟨_, rfl⟩
                  have TT : Hid (Below wo.heap.size wo W ∧ W.rowIs wr.heap.size 56 2 (sv t) ∧ W.rowIs wo.heap.size 56 2 (sv l)) := by
                    rw [eW, et]
                    exact ⟨set2 T6.out.1 (Nat.le_of_lt hwo) _ _, box_set T6.out.2.1 t0 t1, World.rowIs.of_block T6.out.2.2 ((Deep.blk_setCell_other _ _ _ _ hne).trans (Deep.blk_setCell_other _ _ _ _ hne))⟩
                  have u0a := (box_c0 T6.out.2.1).1
                  have u0b := (box_c0 T6.out.2.1).2
                  have u1a := (box_c1 T6.out.2.1).1
                  have u1b := (box_c1 T6.out.2.1).2
                  have n0 := (box_c0 T6.out.2.2).1
                  have n1 := (box_c1 T6.out.2.2).1
                  clear y0 y1 eW0 et hf hfin hb6 hal
                  go_wp2_with fail
                  rw [← eW]
                  refine (refLess (t0, t1) l W).mono ?_
                  rintro e w8 ⟨rfl, hb8⟩
                  rw [← EQ.out]
                  clear eW u0a u0b u1a u1b n0 n1
                  have B8 : Hid (Below W.heap.size W w8) := hb8
                  have T8 : Hid (Below wo.heap.size wo w8 ∧ w8.rowIs wr.heap.size 56 2 (sv t) ∧ w8.rowIs wo.heap.size 56 2 (sv l)) := ⟨TT.out.1.trans (hb8.mono TT.out.1.size), World.rowIs.of_block TT.out.2.1 (hb8.block _ (World.rowIs.lt TT.out.2.1)), World.rowIs.of_block TT.out.2.2 (hb8.block _ (World.rowIs.lt TT.out.2.2))⟩
                  clear hb8
                  have x0 := (box_c0 T8.out.2.1).1
                  have x1 := (box_c1 T8.out.2.1).1
                  have v0a := (box_c0 T8.out.2.2).1
                  have v0b := (box_c0 T8.out.2.2).2
                  have v1a := (box_c1 T8.out.2.2).1
                  have v1b := (box_c1 T8.out.2.2).2
                  have hstep := best_step' (m := m) hv1 HW.out
                  rw [← ET.out.1, ← ET.out.2, ← EB.out] at hstep
                  by_cases hq : bb = 0 ∨ les t l = true
                  · rw [if_pos hq] at hstep
                    have HST : Hid (best g1 m v = v ∧ lst g1 m v = t) := ⟨hstep, by unfold lst; rw [hstep, if_neg (by omega), ET.out.1]⟩
                    have FIN : Hid (∀ X : World, X = (w8.setCell ⟨wo.heap.size, 0, none⟩ (.int .i64 (t.1 : Int))).setCell ⟨wo.heap.size, 1, none⟩ (.int .i64 (t.2 : Int)) → Hid (Below wo.heap.size wo X ∧ X.rowIs wo.heap.size 56 2 (sv (lst g1 m (v + 1 - 1))))) := by
                      intro X hX
                      rw [show v + 1 - 1 = v by omega, HST.out.2, hX]
                      exact ⟨set2 T8.out.1 (Nat.le_refl _) _ _, box_set T8.out.2.2 t.1 t.2⟩
                    clear hstep
                    by_cases hb0 : bb = 0
                    · have d0 : ((bb : Int) == 0) = true := by simp [hb0]
                      clear hq hb0
                      go_wp2
                      go_roundw
                      case rel => exact ⟨v + 1, by omega, by omega, by go_num, by rw [show v + 1 - 1 = v by omega, HST.out.1], FIN.out _ rfl⟩
                      case measure => simp [intOf]; omega
                    · have d0 : ((bb : Int) == 0) = false := by simp [hb0]
                      have hl : les t l = true := hq.resolve_left hb0
                      clear hq hb0
                      go_wp2
                      go_roundw
                      case rel => exact ⟨v + 1, by omega, by omega, by go_num, by rw [show v + 1 - 1 = v by omega, HST.out.1], FIN.out _ rfl⟩
                      case measure => simp [intOf]; omega
                  · rw [if_neg hq] at hstep
                    have d0 : ((bb : Int) == 0) = false := by simp; exact fun e => hq (.inl e)
                    have hl : les t l = false := by rw [Bool.eq_false_iff]; exact fun e => hq (.inr e)
                    have HST : Hid (best g1 m v = bb ∧ lst g1 m v = l) := ⟨hstep, by
                      rw [ET.out.2]
                      exact lst_eq (hstep.trans EB.out)⟩
                    clear hq hstep
                    go_wp2
                    go_roundw
                    case rel => exact ⟨v + 1, by omega, by omega, by go_num, by rw [show v + 1 - 1 = v by omega, HST.out.1], by rw [show v + 1 - 1 = v by omega, HST.out.2]; exact ⟨T8.out.1, T8.out.2.2⟩⟩
                    case measure => simp [intOf]; omega
              · have HW : Hid (wts g1 m v = false) := by show wts g1 m v = false; unfold wts; rw [hcon]; simp
                have EY : Hid ((g1.hd m).contains v = true) := hcon
                clear d hg hcon
                go_wp2_with fail
                refine (refIn qh lh ch _ (v : Int) wr VW.out hlh).mono ?_
                rintro e wr ⟨rfl, rfl⟩
                rw [hin.out, EY.out]
                go_wp2
                go_roundw
                case rel =>
                  have e := best_skip' (m := m) hv1 HW.out
                  exact ⟨v + 1, by omega, by omega, by go_num, by rw [show v + 1 - 1 = v by omega, e, EB.out], by rw [show v + 1 - 1 = v by omega, lst_eq e]; exact hI.out⟩
                case measure => simp [intOf]; omega
          · have hv : v = 31 := by omega
            subst hv
            have RI : Hid (RA wr base P g1 hs1) := RO.out.1.later hI.out.1
            have cK := RI.out.row.cK (i := bb) (j := m) (by omega) m5
            have eK : (ofG g1 hs1).K bb m = g1.kn bb m := rfl
            rw [eK] at cK
            have EB30 : Hid (bb = best g1 m 30) := EB.out
            have hb0i : (0 : Int) ≤ (bb : Int) := by omega
            have hb31 : (bb : Int) < 31 := by omega
            by_cases hsk : bb ≠ 0 ∧ g1.kn bb m = true
            · have HSK : Hid (bb ≠ 0 ∧ g1.kn bb m = true) := hsk
              have d0 : ((bb : Int) != 0) = true := by simp [hsk.1]
              rw [hsk.2] at cK
              obtain ⟨qh, ch, eh, hvw⟩ := RI.out.vw m5
              have cS := RI.out.row.cS (i := m) m5
              have zS := RI.out.row.fz (657 + m)
              have eS : (ofG g1 hs1).S m = hs1 m := rfl
              rw [eS, eh] at cS
              obtain ⟨lh, elh⟩ : ∃ lh, lh = (g1.hd m).length := ⟨_, rfl⟩
              rw [← elh] at cS
              have hlh : lh ≤ 1000 := by rw [elh]; have := RO.out.2.1.hd30 m; omega
              have OH : Hid (wr.ownsRow base 3 1 (.slice qh lh ch) lh (vals (g1.hd m)) ∧ hs1 m = .slice qh lh ch ∧ lh = (g1.hd m).length ∧ base ≤ wr.heap.size) := by
                have o := RI.out.own m m5
                rw [eh, ← elh] at o
                exact ⟨o, by rw [eh, elh], elh, Nat.le_trans RI.out.low (Nat.le_of_lt RI.out.row.lt)⟩
              have hPr := RI.out.row.lt
              have NP : Hid (some P ≠ (Value.slice qh lh ch).ownBlock) := fun e => RI.out.ne m m5 (by rw [OH.out.2.1]; exact e.symm)
              clear hsk eK eS eh hvw elh
              go_wp2_with fail
              go_region_law ((refine step_append_lies _ (by rfl) _ _ _ (by rfl) base 3 ii (.int .i64 0) 1 8 Tryd.underlying28 HJ.out.1 HJ.out.2.1 HJ.out.2.2.1 HJ.out.2.2.2 rfl (by omega) (.slice qh lh ch) lh (vals (g1.hd m)) (by rfl) (by exact own_pushG OH.out.1 rfl) ⟨wr.heap.size, 0, none⟩ 1 1 [.int .i64 (bb : Int)] (by rfl) (by rfl) (by exact new_pushG rfl) (int_one _) (by omega) (by unfold maxLen; omega) (by omega) (by have := OH.out.2.2.2; simp; omega) (wr.heap.size + 1) (by simp) ?_; intro gg gc w5 hown hgrow hat hlt5; have HG5 : Hid (wr.grownBy w5 (Value.slice qh lh ch).ownBlock) := grown_tmpG hgrow rfl rfl rfl rfl; have HO5 : Hid (w5.ownsRow base 3 1 (.slice (some ⟨gg, 0, none⟩) (lh + 1) gc) (lh + 1) (vals (g1.hd m) ++ [.int .i64 (bb : Int)])) := hown; have AT : Hid ((Value.slice qh lh ch).ownBlock = some gg ∨ wr.heap.size ≤ gg) := (hat.imp id (fun e => by omega)); have l5 : w5.cell? ⟨P, 657 + m, none⟩ = some (.slice qh lh ch) := (HG5.out.cell_far ⟨P, 657 + m, none⟩ hPr NP.out).trans cS; have m5' : w5.frozen? ⟨P, 657 + m, none⟩ = false := (HG5.out.frozen_far ⟨P, 657 + m, none⟩ hPr NP.out).trans zS; clear hown hgrow hat hlt5))
              all_goals
                obtain ⟨W6, eW6⟩ : ∃ W6, W6 = w5.setCell ⟨P, 657 + m, none⟩ (.slice (some ⟨gg, 0, none⟩) (lh + 1) gc) := ⟨_, rfl⟩
                rw [← eW6]
                have N6 : Hid (Nx w base P m hs o wo wr W6 g1 hs1 bb gg (lh + 1) gc) := by
                  rw [eW6]
                  exact Nx.of RO.out.1 hI.out.1 m5 (by rw [OH.out.2.1]; exact HG5.out) HO5.out OH.out.2.2.1 (by rw [OH.out.2.1]; exact AT.out)
                have O6 : Hid (W6.ownsRow w.heap.size 3 1 (.slice qo lo co) lo (vals o) ∧ w.heap.size ≤ W6.heap.size) := by
                  have q := N6.out.own RO.out.2.2.1 RO.out.2.2.2.2.2.2.1
                  rw [← LO.out] at q
                  exact ⟨q, Nat.le_trans RO.out.2.2.2.1.size (Nat.le_trans hI.out.1.size N6.out.size)⟩
                clear eW6 l5 m5' cS zS cK
                go_wp2_with (at_builtin; refine wpList_append_lies _ rfl _ _ 28 rfl w.heap.size 3 ii (.int .i64 0) 1 8 Tryd.underlying28 HJ.out.1 HJ.out.2.1 HJ.out.2.2.1 HJ.out.2.2.2 rfl (by decide) (.slice qo lo co) lo (vals o) rfl (by exact own_pushG O6.out.1 rfl) ⟨W6.heap.size, 0, none⟩ 1 1 [.int .i64 (bb : Int)] rfl rfl (by exact new_pushG rfl) (int_one _) (by omega) (by unfold maxLen; omega) (by omega) (by have := O6.out.2; simp; omega) (W6.heap.size + 1) (by simp) ?_; intro g2 c2 w7 hown hgrow hat _; have G7 : Hid (W6.grownBy w7 (Value.slice qo lo co).ownBlock) := grown_tmpG hgrow rfl rfl rfl rfl; have O7 : Hid (w7.ownsRow w.heap.size 3 1 (.slice (some ⟨g2, 0, none⟩) (lo + 1) c2) (lo + 1) (vals o ++ [.int .i64 (bb : Int)])) := hown; have A7 : Hid ((Value.slice qo lo co).ownBlock = some g2 ∨ W6.heap.size ≤ g2) := (hat.imp id (fun e => by omega)); clear hown hgrow hat)
                go_roundw
                case rel =>
                  refine ⟨true, hear g1 m bb, up1 hs1 m (.slice (some ⟨gg, 0, none⟩) (lh + 1) gc), rfl, ?_⟩
                  refine N6.out.next HR.out.2.2.2.2.1 RO.out.2.2.1 RO.out.2.1 RO.out.2.2.2.1 RO.out.2.2.2.2.1 RO.out.2.2.2.2.2.1 RO.out.2.2.2.2.2.2.1 RO.out.2.2.2.2.2.2.2 EB30.out HSK.out.1 HSK.out.2 EF.out ?_ ?_ LO.out ?_
                  · rw [← LO.out]; exact G7.out
                  · exact O7.out
                  · rw [← LO.out]; exact A7.out
                case measure => simp [tru, lenOf]; omega
            · have HSK : Hid (¬ (bb ≠ 0 ∧ g1.kn bb m = true)) := hsk
              have FIN : Hid (∀ X : World, X.heap = wr.heap → X.os = wr.os → X.tape = wr.tape → X.output = wr.output → SMid w base P m hs fi X (.slice qo lo co) false g1 hs1) := by
                intro X e0 e1 e2 e3
                have bX : Below wo.heap.size wo X := ⟨e1.trans hI.out.1.os, e2.trans hI.out.1.tape, e3.trans hI.out.1.output, by rw [e0]; exact hI.out.1.size, fun b hb => by rw [e0]; exact hI.out.1.block b hb⟩
                have hbo : base ≤ wo.heap.size := Nat.le_trans RO.out.1.low (Nat.le_of_lt RO.out.1.row.lt)
                have q2 := RO.out.2.2.1
                rw [← LO.out] at q2
                refine ⟨o, RO.out.1.later bX, ?_, RO.out.2.1, RO.out.2.1.five, RO.out.2.2.2.2.2.2.2, RO.out.2.2.2.1.trans (bX.mono hbo), ⟨Nat.le_trans RO.out.2.2.2.1.size bX.size, fun b hb hnb => (bX.block b (Nat.lt_of_lt_of_le hb RO.out.2.2.2.1.size)).trans (RO.out.2.2.2.2.1.2 b hb hnb)⟩, RO.out.2.2.2.2.2.1, ?_, fun e => (by cases e), fun _ => ?_⟩
                · rw [← LO.out]
                  exact own_block q2 fun b hb => bX.block b (own_lt q2 b hb).2
                · rw [LO.out]
                  exact RO.out.2.2.2.2.2.2.1
                · have e := EF.out
                  rw [run_stop (by rw [← EB30.out]; exact HSK.out)] at e
                  rw [← e]
                  simp
              by_cases hb0 : bb = 0
              · have d0 : ((bb : Int) != 0) = false := by simp [hb0]
                clear hsk hb0 cK
                go_wp2
                go_roundw
                case rel => exact ⟨false, g1, hs1, rfl, FIN.out _ rfl rfl rfl rfl⟩
                case measure => simp [tru, lenOf]; omega
              · have d0 : ((bb : Int) != 0) = true := by simp [hb0]
                have hk0 : g1.kn bb m = false := by rw [Bool.eq_false_iff]; exact fun e => hsk ⟨hb0, e⟩
                rw [hk0] at cK
                clear hsk hb0 hk0
                go_wp2
                go_roundw
                case rel => exact ⟨false, g1, hs1, rfl, FIN.out _ rfl rfl rfl rfl⟩
                case measure => simp [tru, lenOf]; omega
end Go.Proofs.YtcolcjnmdejfeafDoor.Agr
