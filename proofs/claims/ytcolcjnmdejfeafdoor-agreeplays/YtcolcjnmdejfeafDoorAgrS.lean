/-
  The document's own group: Propose.
-/
import Derived.Test.YtcolcjnmdejfeafDoorAgrR
namespace Go.Proofs.YtcolcjnmdejfeafDoor.Agr
open Go.RowKit
open Go.Proofs.YtcolcjnmdejfeafDoor.Fif (own_lt own_block own_form own_mono own_vw ret_bool)
open Go.Proofs.YtcolcjnmdejfeafDoor.Vec (Vw)
open Go.Proofs.YtcolcjnmdejfeafDoor.Sep (KpL NewL)
set_option linter.unusedVariables false
variable {w w' : World} {base P : Nat} {g : G} {hs : Nat → Value}

theorem drewsG {B : Nat} {a w : World} (h : Below B a w) (n : Nat) : Below B a (w.drewN n) := ⟨h.os, h.tape, h.output, h.size, h.block⟩
set_option maxRecDepth 100000 in
theorem refPro_chk (who word : Int) (h : RA w base P g hs) (hn : g.n ≤ 5) (hc : chkC g who word ≠ 0) : Calls Tryd.prog 22 #[.pointer (some ⟨P, 0, none⟩), .int .i64 who, .int .i64 word] w fun x w' => x = .returned (.tuple #[.agg #[.int .i64 0, .int .i64 0], .int .i64 (chkC g who word)]) ∧ Below w.heap.size w w' := by
  have HB : Hid (Below w.heap.size w (w.alloc (.cells #[.int .i64 0, .int .i64 0] 56))) := (Below.refl _ _).alloc (Nat.le_refl _) _
  have HR : Hid (RA w base P g hs) := h
  obtain ⟨c, ec⟩ : ∃ c, c = chkC g who word := ⟨_, rfl⟩
  have EC : Hid (c = chkC g who word) := ec
  have d : (c != 0) = true := by simp [ec, hc]
  rw [← ec]
  have bx : Hid ((w.alloc (.cells #[.int .i64 0, .int .i64 0] 56)).rowIs w.heap.size 56 2 (sv (0, 0))) := box2 w 0 0
  clear h hc ec
  go_enter Tryd.func22, Tryd.ntmps22
  go_wp2_with fail
  refine (refCheck P (ofG g hs) g hs who word _ (HR.out.later HB.out).row hn).mono ?_
  rintro e w1 ⟨rfl, e1⟩
  subst e1
  rw [← EC.out]
  go_wp2
  have y := bx.out
  refine bodyPost_ret (v := .tuple #[.agg #[.int .i64 0, .int .i64 0], .int .i64 c]) (ret2 (B := w.heap.size) rfl rfl rfl (box_c0 y).1 (box_c1 y).1) rfl ?_
  exact ⟨rfl, HB.out⟩
set_option maxRecDepth 100000 in
theorem refPro_had (m k : Nat) (h : RA w base P g hs) (hn : g.n ≤ 5) (hm : m < g.n) (hk : k < 31) (hc : chkC g (m : Int) (k : Int) = 0) (hg : g.gv k m ≠ 0) : Calls Tryd.prog 22 #[.pointer (some ⟨P, 0, none⟩), .int .i64 (m : Int), .int .i64 (k : Int)] w fun x w' => x = .returned (.tuple #[.agg #[.int .i64 0, .int .i64 0], .int .i64 7]) ∧ Below w.heap.size w w' := by
  have HB : Hid (Below w.heap.size w (w.alloc (.cells #[.int .i64 0, .int .i64 0] 56))) := (Below.refl _ _).alloc (Nat.le_refl _) _
  have HR : Hid (RA w base P g hs ∧ chkC g (m : Int) (k : Int) = 0) := ⟨h, hc⟩
  have m5 : m < 5 := by omega
  have bx : Hid ((w.alloc (.cells #[.int .i64 0, .int .i64 0] 56)).rowIs w.heap.size 56 2 (sv (0, 0))) := box2 w 0 0
  have cH := (h.later HB.out).row.cH (i := k) (j := m) hk m5
  have eH : (ofG g hs).H k m = true := by show decide (g.gv k m ≠ 0) = true; simp [hg]
  rw [eH] at cH
  clear h hc hg eH
  go_enter Tryd.func22, Tryd.ntmps22
  go_wp2_with fail
  refine (refCheck P (ofG g hs) g hs (m : Int) (k : Int) _ (HR.out.1.later HB.out).row hn).mono ?_
  rintro e w1 ⟨rfl, e1⟩
  subst e1
  rw [HR.out.2]
  go_wp2
  have y := bx.out
  refine bodyPost_ret (v := .tuple #[.agg #[.int .i64 0, .int .i64 0], .int .i64 7]) (ret2 (B := w.heap.size) rfl rfl rfl (box_c0 y).1 (box_c1 y).1) rfl ?_
  exact ⟨rfl, HB.out⟩
set_option maxRecDepth 100000 in
theorem refPro_ok (m k : Nat) (h : RA w base P g hs) (hn : g.n ≤ 5) (hm : m < g.n) (hk : k < 31) (hc : chkC g (m : Int) (k : Int) = 0) (hg : g.gv k m = 0) (hM : g.most m ≤ 100000) (hbw : base ≤ w.heap.size) : Calls Tryd.prog 22 #[.pointer (some ⟨P, 0, none⟩), .int .i64 (m : Int), .int .i64 (k : Int)] w fun x w' => x = .returned (.tuple #[.agg #[.int .i64 ((g.most m + 1 : Nat) : Int), .int .i64 (m : Int)], .int .i64 0]) ∧ RA w' base P (give g m k) hs ∧ Below base w w' ∧ KpL w w' (rfp P hs) := by
  obtain ⟨W1, eW1⟩ : ∃ W1, W1 = w.alloc (.cells #[.int .i64 0, .int .i64 0] 56) := ⟨_, rfl⟩
  have HB : Hid (Below w.heap.size w W1) := by rw [eW1]; exact (Below.refl _ _).alloc (Nat.le_refl _) _
  have HR : Hid (RA w base P g hs ∧ chkC g (m : Int) (k : Int) = 0) := ⟨h, hc⟩
  have m5 : m < 5 := by omega
  have bx : Hid (W1.rowIs w.heap.size 56 2 (sv (0, 0))) := by rw [eW1]; exact box2 w 0 0
  have h1 := (h.later HB.out).row
  have cH := h1.cH (i := k) (j := m) hk m5
  have eH : (ofG g hs).H k m = false := by show decide (g.gv k m ≠ 0) = false; simp [hg]
  rw [eH] at cH
  have cM := h1.cM (i := m) m5
  have zM := h1.fz (652 + m)
  obtain ⟨x, ex⟩ : ∃ x, x = g.most m := ⟨_, rfl⟩
  have eM : (ofG g hs).M m = (x : Int) := by rw [ex]; rfl
  rw [eM] at cM
  have R1 : Hid (Rb W1 P (ofG g hs)) := h1
  have EX : Hid (x = g.most m) := ex
  rw [← ex] at hM ⊢
  clear h hc hg eH eM h1 ex
  go_enter Tryd.func22, Tryd.ntmps22
  go_wp2_with fail
  rw [← eW1]
  refine (refCheck P (ofG g hs) g hs (m : Int) (k : Int) _ R1.out hn).mono ?_
  rintro e w1 ⟨rfl, e1⟩
  subst e1
  rw [HR.out.2]
  have EW1 : Hid (w1 = w.alloc (.cells #[.int .i64 0, .int .i64 0] 56)) := eW1
  clear eW1
  go_wp2_with fail
  go_region
  obtain ⟨W2, eW2⟩ : ∃ W2, W2 = (w1.setCell ⟨P, 652 + m, none⟩ (.int .i64 ((x : Int) + 1))).drew := ⟨_, rfl⟩
  rw [← eW2]
  have hPw : P ≠ w.heap.size := Nat.ne_of_lt HR.out.1.row.lt
  have sz2 : W2.heap.size = w.heap.size + 1 := by rw [eW2, EW1.out]; simp [World.drew, World.setCell]
  have R2 : Hid (Rb W2 P { ofG g hs with M := up1 (ofG g hs).M m ((x : Int) + 1) } ∧ W2.rowIs w.heap.size 56 2 (sv (0, 0)) ∧ ∀ b, b ≠ P → W2.heap[b]? = w1.heap[b]?) := by
    rw [eW2]
    exact ⟨(R1.out.setM m5 _).of_block rfl, World.rowIs.of_block bx.out (Deep.blk_setCell_other _ _ _ _ (fun e => hPw e.symm)), fun b hb => Deep.blk_setCell_other _ _ _ _ hb⟩
  have B2 : Hid (Below base w W2) := by
    rw [eW2]
    exact ((HB.out.mono hbw).setCell (p := ⟨P, 652 + m, none⟩) HR.out.1.low _).drew
  have c2 := R2.out.1.cM (i := m) m5
  have e2 : ({ ofG g hs with M := up1 (ofG g hs).M m ((x : Int) + 1) } : Fd).M m = (x : Int) + 1 := by simp [up1]
  rw [e2] at c2
  clear eW2 cH cM zM e2
  obtain ⟨W3, eW3⟩ : ∃ W3, W3 = W2.alloc (.cells #[.int .i64 ((x : Int) + 1), .int .i64 (m : Int)] 56) := ⟨_, rfl⟩
  have b3 : W3.rowIs (w.heap.size + 1) 56 2 (sv (x + 1, m)) := by
    rw [eW3, ← sz2]
    exact box2 W2 (x + 1) m
  have R3 : Hid (Rb W3 P { ofG g hs with M := up1 (ofG g hs).M m ((x : Int) + 1) } ∧ W3.rowIs w.heap.size 56 2 (sv (0, 0)) ∧ W3.rowIs (w.heap.size + 1) 56 2 (sv (x + 1, m)) ∧ Below base w W3 ∧ ∀ b, b < w.heap.size → b ≠ P → W3.heap[b]? = w.heap[b]?) := by
    refine ⟨?_, ?_, b3, ?_, fun b hb hne => ?_⟩
    · rw [eW3]
      exact R2.out.1.of_block (Below.heap_alloc _ _ _ R2.out.1.lt)
    · rw [eW3]
      exact World.rowIs.of_block R2.out.2.1 (Below.heap_alloc _ _ _ (World.rowIs.lt R2.out.2.1))
    · rw [eW3]
      exact B2.out.alloc (by omega) _
    · rw [eW3, Below.heap_alloc _ _ _ (by omega), R2.out.2.2 b hne]
      exact HB.out.block b hb
  have k0 := (box_c0 b3).1
  have k1 := (box_c1 b3).1
  simp only at k0 k1
  have cA := R3.out.1.cA (i := k) (j := m) hk m5
  have cB := R3.out.1.cB (i := k) (j := m) hk m5
  have zA := R3.out.1.fz (32 + k * 10 + m * 2)
  have zB := R3.out.1.fz (32 + k * 10 + m * 2 + 1)
  clear b3
  go_wp2_with fail
  rw [← eW3]
  clear eW3 sz2
  go_region
  obtain ⟨W4, eW4⟩ : ∃ W4, W4 = ((W3.setCell ⟨P, 32 + k * 10 + m * 2, none⟩ (.int .i64 ((x : Int) + 1))).setCell ⟨P, 32 + k * 10 + m * 2 + 1, none⟩ (.int .i64 (m : Int))).drew := ⟨_, rfl⟩
  rw [← eW4]
  have hPw1 : P ≠ w.heap.size + 1 := by have := HR.out.1.row.lt; omega
  have oth4 : ∀ b, b ≠ P → W4.heap[b]? = W3.heap[b]? := fun b hb => by
    rw [eW4]
    exact (Deep.blk_setCell_other _ _ _ _ hb).trans (Deep.blk_setCell_other _ _ _ _ hb)
  have R4 : Hid (Rb W4 P { ofG g hs with M := up1 (ofG g hs).M m ((x : Int) + 1), A := up2 (ofG g hs).A k m ((x : Int) + 1), B := up2 (ofG g hs).B k m (m : Int) } ∧ W4.rowIs w.heap.size 56 2 (sv (0, 0)) ∧ W4.rowIs (w.heap.size + 1) 56 2 (sv (x + 1, m)) ∧ Below base w W4 ∧ ∀ b, b < w.heap.size → b ≠ P → W4.heap[b]? = w.heap[b]?) := by
    refine ⟨?_, World.rowIs.of_block R3.out.2.1 (oth4 _ (fun e => hPw e.symm)), World.rowIs.of_block R3.out.2.2.1 (oth4 _ (fun e => hPw1 e.symm)), ?_, fun b hb hne => (oth4 b hne).trans (R3.out.2.2.2.2 b hb hne)⟩
    · rw [eW4]
      exact ((R3.out.1.setA hk m5 _).setB hk m5 _).of_block rfl
    · rw [eW4]
      exact ((R3.out.2.2.2.1.setCell (p := ⟨P, _, none⟩) HR.out.1.low _).setCell (p := ⟨P, _, none⟩) HR.out.1.low _).drew
  clear eW4 oth4 cA cB zA zB k0 k1 c2
  have cH := R4.out.1.cH (i := k) (j := m) hk m5
  have zH := R4.out.1.fz (342 + k * 5 + m)
  obtain ⟨W5, eW5⟩ : ∃ W5, W5 = W4.setCell ⟨P, 342 + k * 5 + m, none⟩ (.bool true) := ⟨_, rfl⟩
  have oth5 : ∀ b, b ≠ P → W5.heap[b]? = W4.heap[b]? := fun b hb => by
    rw [eW5]
    exact Deep.blk_setCell_other _ _ _ _ hb
  have R5 : Hid (Rb W5 P { ofG g hs with M := up1 (ofG g hs).M m ((x : Int) + 1), A := up2 (ofG g hs).A k m ((x : Int) + 1), B := up2 (ofG g hs).B k m (m : Int), H := up2 (ofG g hs).H k m true } ∧ W5.rowIs w.heap.size 56 2 (sv (0, 0)) ∧ W5.rowIs (w.heap.size + 1) 56 2 (sv (x + 1, m)) ∧ Below base w W5 ∧ ∀ b, b < w.heap.size → b ≠ P → W5.heap[b]? = w.heap[b]?) := by
    refine ⟨?_, World.rowIs.of_block R4.out.2.1 (oth5 _ (fun e => hPw e.symm)), World.rowIs.of_block R4.out.2.2.1 (oth5 _ (fun e => hPw1 e.symm)), ?_, fun b hb hne => (oth5 b hne).trans (R4.out.2.2.2.2 b hb hne)⟩
    · rw [eW5]
      exact R4.out.1.setH hk m5 _
    · rw [eW5]
      exact R4.out.2.2.2.1.setCell (p := ⟨P, _, none⟩) HR.out.1.low _
  have j0 := (box_c0 R5.out.2.2.1).1
  have j1 := (box_c1 R5.out.2.2.1).1
  simp only at j0 j1
  have i0 := (box_c0 R5.out.2.1)
  have i1 := (box_c1 R5.out.2.1)
  rw [eW5] at j0 j1 i0 i1
  have i0a := i0.1
  have i0b := i0.2
  have i1a := i1.1
  have i1b := i1.2
  have EW5 : Hid (W5 = W4.setCell ⟨P, 342 + k * 5 + m, none⟩ (.bool true)) := eW5
  clear i0 i1 oth5 eW5
  go_wp2
  rw [← EW5.out]
  have y := box_set R5.out.2.1 (x + 1) m
  have ec : ((x + 1 : Nat) : Int) = (x : Int) + 1 := by omega
  rw [ec] at y
  have y0 := (box_c0 y).1
  have y1 := (box_c1 y).1
  simp only at y0 y1
  rw [ec] at y0
  refine bodyPost_ret (v := .tuple #[.agg #[.int .i64 ((x : Int) + 1), .int .i64 (m : Int)], .int .i64 0]) (ret2 (B := w.heap.size) rfl rfl rfl y0 y1) rfl ?_
  have oth : ∀ b, b ≠ w.heap.size → ((W5.setCell ⟨w.heap.size, 0, none⟩ (.int .i64 ((x : Int) + 1))).setCell ⟨w.heap.size, 1, none⟩ (.int .i64 (m : Int))).heap[b]? = W5.heap[b]? := fun b hb => (Deep.blk_setCell_other _ _ _ _ hb).trans (Deep.blk_setCell_other _ _ _ _ hb)
  refine ⟨rfl, ⟨?_, HR.out.1.low, fun i hi => own_block (HR.out.1.own i hi) fun b e => ?_, HR.out.1.ne, HR.out.1.one⟩, set2 R5.out.2.2.2.1 hbw _ _, ⟨?_, fun b hb hn => ?_⟩⟩
  · refine (R5.out.1.of_block (oth P hPw)).congr (fv_ext rfl (fun _ _ => rfl) (fun v i _ _ => ?_) (fun v i _ _ => ?_) (fun v i _ _ => ?_) (fun _ _ _ _ => rfl) (fun i _ => ?_) (fun _ _ => rfl))
    · show up2 _ k m ((x : Int) + 1) v i = (((if v = k ∧ i = m then g.most m + 1 else g.gv v i) : Nat) : Int)
      unfold up2
      by_cases e : v = k ∧ i = m
      · rw [if_pos e, if_pos e, ← EX.out]; rfl
      · rw [if_neg e, if_neg e]; rfl
    · show up2 _ k m (m : Int) v i = if (if v = k ∧ i = m then g.most m + 1 else g.gv v i) = 0 then 0 else (i : Int)
      unfold up2
      by_cases e : v = k ∧ i = m
      · rw [if_pos e, if_pos e, if_neg (by omega), e.2]
      · rw [if_neg e, if_neg e]; rfl
    · show up2 _ k m true v i = decide ((if v = k ∧ i = m then g.most m + 1 else g.gv v i) ≠ 0)
      unfold up2
      by_cases e : v = k ∧ i = m
      · rw [if_pos e, if_pos e]; simp
      · rw [if_neg e, if_neg e]; rfl
    · show up1 _ m ((x : Int) + 1) i = (((if i = m then g.most m + 1 else g.most i) : Nat) : Int)
      unfold up1
      by_cases e : i = m
      · rw [if_pos e, if_pos e, ← EX.out]; rfl
      · rw [if_neg e, if_neg e]; rfl
  · have hb := (own_lt (HR.out.1.own i hi) b e).2
    exact (oth b (by omega)).trans (R5.out.2.2.2.2 b hb (fun q => HR.out.1.ne i hi (by rw [← q]; exact e)))
  · have := R5.out.2.2.2.1.size
    simpa [World.setCell] using this
  · exact (oth b (by omega)).trans (R5.out.2.2.2.2 b hb (fun q => hn (mem_rfp.2 (.inl q))))
theorem refPro (who word : Int) (w : World) (h : RA w base P g hs) (hi : Inv0 g) (hM : ∀ m, g.most m ≤ 100000) (hbw : base ≤ w.heap.size) : Calls Tryd.prog 22 #[.pointer (some ⟨P, 0, none⟩), .int .i64 who, .int .i64 word] w fun x w' => x = .returned (.tuple #[.agg #[.int .i64 ((proS g who word).1 : Int), .int .i64 ((proS g who word).2 : Int)], .int .i64 (proC g who word)]) ∧ RA w' base P (pro g who word) hs ∧ Below base w w' ∧ KpL w w' (rfp P hs) := by
  by_cases hc : chkC g who word = 0
  · have hr : (0 ≤ who ∧ who < (g.n : Int)) ∧ (1 ≤ word ∧ word ≤ 30) := by
      unfold chkC at hc
      split at hc <;> omega
    obtain ⟨m, rfl⟩ : ∃ m : Nat, who = (m : Int) := ⟨who.toNat, by omega⟩
    obtain ⟨k, rfl⟩ : ∃ k : Nat, word = (k : Int) := ⟨word.toNat, by omega⟩
    by_cases hg : g.gv k m = 0
    · have e1 : proC g (m : Int) (k : Int) = 0 := by
        unfold proC
        rw [if_neg (by rw [hc]; decide), if_neg]
        show ¬ g.gv k m ≠ 0
        omega
      have e2 : proS g (m : Int) (k : Int) = (g.most m + 1, m) := if_pos e1
      have e3 : pro g (m : Int) (k : Int) = give g m k := if_pos e1
      rw [e1, e2, e3]
      exact refPro_ok m k h hi.five (by omega) (by omega) hc hg (hM m) hbw
    · have e1 : proC g (m : Int) (k : Int) = 7 := by
        unfold proC
        rw [if_neg (by rw [hc]; decide), if_pos]
        exact hg
      have e2 : proS g (m : Int) (k : Int) = (0, 0) := if_neg (by rw [e1]; decide)
      have e3 : pro g (m : Int) (k : Int) = g := if_neg (by rw [e1]; decide)
      rw [e1, e2, e3]
      refine (refPro_had m k h hi.five (by omega) (by omega) hc hg).mono ?_
      rintro x w' ⟨rfl, hb⟩
      exact ⟨rfl, h.later hb, hb.mono hbw, KpL.below hb _⟩
  · have e1 : proC g who word = chkC g who word := if_pos hc
    have e2 : proS g who word = (0, 0) := if_neg (by rw [e1]; exact hc)
    have e3 : pro g who word = g := if_neg (by rw [e1]; exact hc)
    rw [e1, e2, e3]
    refine (refPro_chk who word h hi.five hc).mono ?_
    rintro x w' ⟨rfl, hb⟩
    exact ⟨rfl, h.later hb, hb.mono hbw, KpL.below hb _⟩
end Go.Proofs.YtcolcjnmdejfeafDoor.Agr
