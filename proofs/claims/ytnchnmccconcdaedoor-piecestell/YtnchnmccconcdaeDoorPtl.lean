/-
  PiecesTell: the walk.
-/
import Derived.Test.YtnchnmccconcdaeDoorPieP
import Derived.Test.YtnchnmccconcdaeDoorPieJ
import Derived.Test.YtnchnmccconcdaeDoorVecC
namespace Go.Proofs.YtnchnmccconcdaeDoor.Pie
open Go.RowKit
open Go.Proofs.YtnchnmccconcdaeDoor.Fif (own_lt own_block own_form own_mono own_vw Kp ret_bool)
open Go.Proofs.YtnchnmccconcdaeDoor.Vec (Vw)
open Go.Proofs.YtnchnmccconcdaeDoor.As (Laid)
set_option linter.unusedVariables false

theorem ints_same (a b : Option Addr) (len cap len' cap' : Nat) (xs : List Int) (w : World) (hv : Vw w a len xs) (hv' : Vw w b len' xs) (hm : len ≤ maxLen) :
    Calls Tryd.prog 17 #[.slice a len cap, .slice b len' cap'] w fun e w' => e = .returned (.bool true) ∧ ∃ n, w' = w.drewN n := by
  refine (Vec.ints_any a b len cap len' cap' xs xs w hv hv' hm).mono ?_
  rintro e w' ⟨rfl, hb⟩
  exact ⟨ret_bool (by simp), hb⟩
/-- how both stand: the program's joiner, and the document's own -/
structure TW (w wr : World) (B P Q : Nat) (j : J) (fp : List Nat) : Prop where
  js : JS wr B P j fp
  rj : RJ wr Q j
  inv : JInv j
  nq : Q ∉ fp
  bel : Below w.heap.size w wr
  low : w.heap.size ≤ B ∧ B ≤ wr.heap.size ∧ w.heap.size ≤ Q
variable {w wr w' : World} {B P Q : Nat} {j : J} {fp : List Nat}
theorem TW.later (h : TW w wr B P Q j fp) (hb : Below wr.heap.size wr w') : TW w w' B P Q j fp :=
  ⟨h.js.of_blocks hb.size fun b q => hb.block b (h.js.fp b q).2, h.rj.later hb, h.inv, h.nq, h.bel.trans (hb.mono h.bel.size), h.low.1, Nat.le_trans h.low.2.1 hb.size, h.low.2.2⟩
theorem TW.ref (h : TW w wr B P Q j fp) {w1 : World} (hb : Below Q wr w1) (hk : Kp wr w1 Q none) : JS w1 B P j fp ∧ Below w.heap.size w w1 ∧ B ≤ w1.heap.size :=
  ⟨h.js.of_blocks hk.1 fun b q => hk.2 b (h.js.fp b q).2 (fun e => h.nq (by rw [← e]; exact q)) (by simp), h.bel.trans (hb.mono h.low.2.2), Nat.le_trans h.low.2.1 hk.1⟩
theorem TW.prog (h : TW w wr B P Q j fp) {w1 w2 : World} {j' : J} {fp' : List Nat} (hb : Below Q wr w1) (hk : Kp wr w1 Q none) (hr : RJ w1 Q j') (hi : JInv j') (hj : JS w2 B P j' fp') (hb2 : Below B w1 w2) (hk2 : KpL w1 w2 fp) (hn : NewL w1 fp fp') : TW w w2 B P Q j' fp' := by
  obtain ⟨a1, a2, a3⟩ := h.ref hb hk
  have hlt := World.rowIs.lt hr
  exact ⟨hj, World.rowIs.of_block hr (hk2.2 Q hlt h.nq), hi, fun q => (hn Q q).elim h.nq (by omega), a2.trans (hb2.mono h.low.1), h.low.1, Nat.le_trans a3 hk2.1, h.low.2.2⟩
theorem textC_yes {j : J} (h : j.of = 0 ∨ (lacks j).length ≠ 0) : textC j = 5 ∧ textS j = .empty := by
  have e : textC j = 5 := by
    unfold textC
    rw [if_pos]
    refine h.imp id fun q z => q ?_
    unfold lacks
    rw [z]
    rfl
  exact ⟨e, by unfold textS; rw [e, if_neg (by decide)]⟩
theorem textC_no {j : J} (h0 : j.of ≠ 0) (h : (lacks j).length = 0) : textC j = 0 ∧ textS j = joined j j.of := by
  have e : textC j = 0 := by
    unfold textC
    rw [if_neg]
    rintro (q | q)
    · exact h0 q
    · exact q (List.eq_nil_of_length_eq_zero (by simpa [lacks] using h))
  exact ⟨e, by unfold textS; rw [e, if_pos rfl]⟩
set_option maxRecDepth 100000 in
set_option maxHeartbeats 8000000 in
theorem tell_long (t : ByteArray) (size : Int) (a : Option Addr) (len cap : Nat) (l : List Pc) (w : World) (hL : Laid w) (hl : Pw w a len l) (hlm : len ≤ maxLen) (h : 60 < t.size) :
    Calls Tryd.prog 4 #[.string t, .int .i64 size, .slice a len cap] w fun x w' => x = .returned (.bool true) ∧ Below w.heap.size w w' := by
  have H : Hid (Laid w ∧ Pw w a len l) := ⟨hL, hl⟩
  unfold maxLen at hlm
  have HC : Hid (splitC t size = 4) := by
    show splitC t size = 4
    unfold splitC
    rw [if_pos h]
  have k1 : (60 : Int) < (t.size : Int) := by omega
  clear hL hl
  go_enter Tryd.func4, Tryd.ntmps4
  go_wp2_with fail
  refine (splitP_any t size w).mono ?_
  rintro e wb ⟨vb, rfl, hob, hbb⟩
  have e0 : splitL t size = [] := by unfold splitL; rw [HC.out, if_neg (by decide)]
  rw [HC.out]
  rw [e0] at hob
  obtain ⟨qb, cb, rfl, _, hvb⟩ := hob.view
  have VB : Hid (Below w.heap.size w wb) := hbb
  clear hob hbb hvb e0
  simp only [List.length_nil]
  go_wp2_with fail
  refine (errF_same 4 wb (H.out.1.later VB.out)).mono ?_
  rintro e wc ⟨rfl, hbc⟩
  have VC : Hid (Below w.heap.size w wc) := VB.out.trans (hbc.mono VB.out.size)
  clear hbc
  go_wp2_with fail
  refine (pieces_same qb none cb 0 0 [] wc ⟨rfl, fun q => absurd q (by omega)⟩ ⟨rfl, fun q => absurd q (by omega)⟩ (by omega)).mono ?_
  rintro e w2 ⟨rfl, m2, rfl⟩
  have B2 : Hid (Below w.heap.size w (wc.drewN m2)) := drews VC.out m2
  obtain ⟨w2, ew2⟩ : ∃ w2, w2 = wc.drewN m2 := ⟨_, rfl⟩
  rw [← ew2] at B2 ⊢
  clear ew2
  go_wp2_with fail
  obtain ⟨B, eB⟩ : ∃ B, B = w2.heap.size := ⟨_, rfl⟩
  refine (newJ w2).mono ?_
  rintro e w3 ⟨P, fp, rfl, hj, hb3⟩
  have J3 : Hid (JS w3 w2.heap.size P start fp ∧ Below w2.heap.size w2 w3) := ⟨hj, hb3⟩
  clear hj hb3
  go_wp2_with fail
  obtain ⟨Q, eQ⟩ : ∃ Q, Q = w3.heap.size := ⟨_, rfl⟩
  obtain ⟨W, eW⟩ : ∃ W, W = w3.alloc (.cells Tryd.zeroCells74 74) := ⟨_, rfl⟩
  rw [← eW, ← eQ]
  have M0 : Hid (TW w W B P Q start fp) := by
    have hr := RJ.made w3
    have hb := (Below.refl w3.heap.size w3).alloc (Nat.le_refl _) (.cells Tryd.zeroCells74 74)
    rw [← eW] at hr hb
    rw [eQ, eB]
    have hs3 := J3.out.2.size
    have hs2 := B2.out.size
    exact ⟨J3.out.1.of_blocks hb.size fun b q => hb.block b (J3.out.1.fp b q).2, hr, JInv.start, fun q => by have := (J3.out.1.fp _ q).2; omega, (B2.out.trans (J3.out.2.mono hs2)).trans (hb.mono (Nat.le_trans hs2 hs3)), hs2, Nat.le_trans hs3 hb.size, Nat.le_trans hs2 hs3⟩
  clear eW eQ eB J3
  go_wp2_with fail
  go_loopw [14] (fun x wr => ∃ i : Nat, i ≤ len ∧ x = .int .i64 (i : Int) ∧ Hid (∃ j fp, TW w wr B P Q j fp)) (fun x _ => len - (intOf x).toNat)
  case atStart => exact ⟨0, by omega, rfl, start, fp, M0.out⟩
  case round =>
    clear M0
    obtain ⟨i, hil, rfl, hQ⟩ := hrel
    have hi0 : (0 : Int) ≤ (i : Int) := by omega
    by_cases hlt : i < len ∧ i < 60
    · have hilt : (i : Int) < (len : Int) := by omega
      have hi60 : (i : Int) < 60 := by omega
      have hin : i < len := hlt.1
      obtain ⟨j, fj, hT⟩ := hQ.out
      have T0 : Hid (TW w wr B P Q j fj) := hT
      obtain ⟨bl, ol, rfl, hbl, hcl⟩ := H.out.2.2 (by omega)
      obtain ⟨x0', x1', x2'⟩ := hcl i hlt.1
      obtain ⟨p, ep⟩ : ∃ p, p = pc l i := ⟨_, rfl⟩
      rw [← ep] at x0' x1' x2'
      obtain ⟨p0, p1, p2⟩ := p
      simp only at x0' x1' x2'
      have HX : Hid (∀ X : World, Below w.heap.size w X → X.cell? ⟨bl, ol + i * 3, none⟩ = some (.int .i64 p0) ∧ X.cell? ⟨bl, ol + i * 3 + 1, none⟩ = some (.int .i64 p1) ∧ X.cell? ⟨bl, ol + i * 3 + 2, none⟩ = some (.string p2)) := fun X hb => ⟨(hb.cell (p := ⟨bl, ol + i * 3, none⟩) hbl).trans x0', (hb.cell (p := ⟨bl, ol + i * 3 + 1, none⟩) hbl).trans x1', (hb.cell (p := ⟨bl, ol + i * 3 + 2, none⟩) hbl).trans x2'⟩
      obtain ⟨x0, x1, x2⟩ := HX.out wr hT.bel
      clear hT hQ hcl ep hlt x0' x1' x2'
      go_wp2_with fail
      refine (refTake (p0, p1, p2) Q j wr T0.out.rj T0.out.inv).mono ?_
      rintro e w1 ⟨rfl, hr1, hb1, hk1⟩
      have R1 : Hid (RJ w1 Q (takeJ j (p0, p1, p2)) ∧ Below Q wr w1 ∧ Kp wr w1 Q none) := ⟨hr1, hb1, hk1⟩
      have A1 : Hid (JS w1 B P j fj ∧ Below w.heap.size w w1 ∧ B ≤ w1.heap.size) := T0.out.ref hb1 hk1
      obtain ⟨y0, y1, y2⟩ := HX.out w1 A1.out.2.1
      clear hr1 hb1 hk1 x0 x1 x2
      go_wp2_with fail
      refine (takeP_any B P j fj (p0, p1, p2) w1 A1.out.1 T0.out.inv A1.out.2.2).mono ?_
      rintro e w2' ⟨fp1, rfl, hj2, hb2, hk2, hn2⟩
      obtain ⟨j1, ej1⟩ : ∃ j1, j1 = takeJ j (p0, p1, p2) := ⟨_, rfl⟩
      have W2 : Hid (TW w w2' B P Q j1 fp1) := by
        rw [ej1]
        exact T0.out.prog R1.out.2.1 R1.out.2.2 R1.out.1 (T0.out.inv.take _) hj2 hb2 hk2 hn2
      obtain ⟨tn, etn⟩ : ∃ tn, tn = takeN j (p0, p1, p2) := ⟨_, rfl⟩
      obtain ⟨tc, etc⟩ : ∃ tc, tc = takeC j (p0, p1, p2) := ⟨_, rfl⟩
      rw [← etn, ← etc]
      have dn : (tn == tn) = true := by simp
      clear hj2 hb2 hk2 hn2 y0 y1 y2 ej1 etn etc R1 A1
      go_wp2_with fail
      refine (errF_same tc w2' (H.out.1.later W2.out.bel)).mono ?_
      rintro e w3 ⟨rfl, hb3⟩
      have W3 : Hid (TW w w3 B P Q j1 fp1) := W2.out.later hb3
      clear hb3
      go_wp2_with fail
      refine (refLacks Q j1 w3 W3.out.rj W3.out.inv).mono ?_
      rintro e w4 ⟨v4, rfl, ho4, hb4⟩
      obtain ⟨ll, ell⟩ : ∃ ll, ll = (lacks j1).length := ⟨_, rfl⟩
      rw [← ell] at ho4
      obtain ⟨q4, c4, rfl⟩ := own_form ho4
      have W4 : Hid (TW w w4 B P Q j1 fp1) := W3.out.later hb4
      have V4 : Hid (w4.ownsRow w3.heap.size 3 1 (.slice q4 ll c4) ll ((lacks j1).map (Value.int .i64))) := ho4
      have LL : Hid (ll = (lacks j1).length ∧ ll ≤ 60) := ⟨ell, by
        rw [ell]
        have q := lackN_len j1 j1.of
        have q2 := W3.out.inv.of60
        rw [lacks_len]
        omega⟩
      have c0 := W4.out.rj.c0.1
      obtain ⟨o, eo⟩ : ∃ o, o = j1.of := ⟨_, rfl⟩
      rw [← eo] at c0
      have EO : Hid (o = j1.of) := eo
      clear ho4 hb4 ell eo
      by_cases h0 : j1.of = 0
      · have d0 : ((o : Int) == 0) = true := by have := EO.out; simp; omega
        obtain ⟨t1, t2⟩ := textC_yes (j := j1) (.inl h0)
        have T : Hid (textC j1 = 5 ∧ textS j1 = .empty) := ⟨t1, t2⟩
        clear t1 t2 h0
        go_wp2_with fail
        refine (textP_any B P j1 fp1 w4 W4.out.js W4.out.inv).mono ?_
        rintro e w6 ⟨rfl, hb6⟩
        rw [T.out.1, T.out.2]
        have W6 : Hid (TW w w6 B P Q j1 fp1) := W4.out.later hb6
        have V6 : Hid (w6.ownsRow w3.heap.size 3 1 (.slice q4 ll c4) ll ((lacks j1).map (Value.int .i64))) := own_block V4.out fun b hb => hb6.block b (own_lt V4.out b hb).2
        clear hb6
        go_wp2_with fail
        refine (errF_same 5 w6 (H.out.1.later W6.out.bel)).mono ?_
        rintro e w7 ⟨rfl, hb7⟩
        have W7 : Hid (TW w w7 B P Q j1 fp1) := W6.out.later hb7
        have V7 : Hid (w7.ownsRow w3.heap.size 3 1 (.slice q4 ll c4) ll ((lacks j1).map (Value.int .i64))) := own_block V6.out fun b hb => hb7.block b (own_lt V6.out b hb).2
        clear hb7
        have ds : (ByteArray.empty.toList == (⟨#[]⟩ : ByteArray).toList) = true := by rw [str_eq]; exact decide_eq_true rfl
        go_wp2_with fail
        refine (lacksP_any B P j1 fp1 w7 W7.out.js W7.out.inv).mono ?_
        rintro e w8 ⟨v8, rfl, ho8, hb8⟩
        have W8 : Hid (TW w w8 B P Q j1 fp1) := W7.out.later hb8
        have V8 : Hid (w8.ownsRow w3.heap.size 3 1 (.slice q4 ll c4) ll ((lacks j1).map (Value.int .i64))) := own_block V7.out fun b hb => hb8.block b (own_lt V7.out b hb).2
        obtain ⟨q8, c8, e8, hv8⟩ := own_vw ho8
        obtain ⟨q9, c9, e9, hv9⟩ := own_vw V8.out
        subst e8
        cases e9
        have V9 : Hid (Vw w8 q8 (lacks j1).length (lacks j1) ∧ Vw w8 q4 ll (lacks j1)) := ⟨hv8, hv9⟩
        clear ho8 hb8 hv8 hv9
        go_wp2_with fail
        refine (ints_same q8 q4 (lacks j1).length c8 ll c4 (lacks j1) w8 V9.out.1 V9.out.2 (by rw [← LL.out.1]; have := LL.out.2; unfold maxLen; omega)).mono ?_
        rintro e w9 ⟨rfl, m9, rfl⟩
        go_wp2
        go_roundw
        case rel => exact ⟨i + 1, by omega, by go_num, j1, fp1, W8.out.later ⟨rfl, rfl, rfl, Nat.le_refl _, fun _ _ => rfl⟩⟩
        case measure => simp [intOf]; omega
      · have d0 : ((o : Int) == 0) = false := by have := EO.out; simp; omega
        by_cases hll : (lacks j1).length ≠ 0
        · have d1 : (0 : Int) < (ll : Int) := by have := LL.out.1; omega
          obtain ⟨t1, t2⟩ := textC_yes (j := j1) (.inr hll)
          have T : Hid (textC j1 = 5 ∧ textS j1 = .empty) := ⟨t1, t2⟩
          clear t1 t2 hll h0
          go_wp2_with fail
          refine (textP_any B P j1 fp1 w4 W4.out.js W4.out.inv).mono ?_
          rintro e w6 ⟨rfl, hb6⟩
          rw [T.out.1, T.out.2]
          have W6 : Hid (TW w w6 B P Q j1 fp1) := W4.out.later hb6
          have V6 : Hid (w6.ownsRow w3.heap.size 3 1 (.slice q4 ll c4) ll ((lacks j1).map (Value.int .i64))) := own_block V4.out fun b hb => hb6.block b (own_lt V4.out b hb).2
          clear hb6
          go_wp2_with fail
          refine (errF_same 5 w6 (H.out.1.later W6.out.bel)).mono ?_
          rintro e w7 ⟨rfl, hb7⟩
          have W7 : Hid (TW w w7 B P Q j1 fp1) := W6.out.later hb7
          have V7 : Hid (w7.ownsRow w3.heap.size 3 1 (.slice q4 ll c4) ll ((lacks j1).map (Value.int .i64))) := own_block V6.out fun b hb => hb7.block b (own_lt V6.out b hb).2
          clear hb7
          have ds : (ByteArray.empty.toList == (⟨#[]⟩ : ByteArray).toList) = true := by rw [str_eq]; exact decide_eq_true rfl
          go_wp2_with fail
          refine (lacksP_any B P j1 fp1 w7 W7.out.js W7.out.inv).mono ?_
          rintro e w8 ⟨v8, rfl, ho8, hb8⟩
          have W8 : Hid (TW w w8 B P Q j1 fp1) := W7.out.later hb8
          have V8 : Hid (w8.ownsRow w3.heap.size 3 1 (.slice q4 ll c4) ll ((lacks j1).map (Value.int .i64))) := own_block V7.out fun b hb => hb8.block b (own_lt V7.out b hb).2
          obtain ⟨q8, c8, e8, hv8⟩ := own_vw ho8
          obtain ⟨q9, c9, e9, hv9⟩ := own_vw V8.out
          subst e8
          cases e9
          have V9 : Hid (Vw w8 q8 (lacks j1).length (lacks j1) ∧ Vw w8 q4 ll (lacks j1)) := ⟨hv8, hv9⟩
          clear ho8 hb8 hv8 hv9
          go_wp2_with fail
          refine (ints_same q8 q4 (lacks j1).length c8 ll c4 (lacks j1) w8 V9.out.1 V9.out.2 (by rw [← LL.out.1]; have := LL.out.2; unfold maxLen; omega)).mono ?_
          rintro e w9 ⟨rfl, m9, rfl⟩
          go_wp2
          go_roundw
          case rel => exact ⟨i + 1, by omega, by go_num, j1, fp1, W8.out.later ⟨rfl, rfl, rfl, Nat.le_refl _, fun _ _ => rfl⟩⟩
          case measure => simp [intOf]; omega
        · have hll : (lacks j1).length = 0 := Decidable.byContradiction hll
          have d1 : ¬ (0 : Int) < (ll : Int) := by have := LL.out.1; omega
          obtain ⟨t1, t2⟩ := textC_no h0 hll
          have T : Hid (textC j1 = 0 ∧ textS j1 = joined j1 j1.of) := ⟨t1, t2⟩
          clear t1 t2 hll h0
          go_wp2_with fail
          refine (refText Q j1 w4 W4.out.rj W4.out.inv).mono ?_
          rintro e w5 ⟨rfl, m5, rfl⟩
          have W5 : Hid (TW w (w4.drewN m5) B P Q j1 fp1) := W4.out.later ⟨rfl, rfl, rfl, Nat.le_refl _, fun _ _ => rfl⟩
          have V5 : Hid ((w4.drewN m5).ownsRow w3.heap.size 3 1 (.slice q4 ll c4) ll ((lacks j1).map (Value.int .i64))) := V4.out
          obtain ⟨w5, ew5⟩ : ∃ w5, w5 = w4.drewN m5 := ⟨_, rfl⟩
          rw [← ew5] at W5 V5 ⊢
          clear ew5
          go_wp2_with fail
          refine (textP_any B P j1 fp1 w5 W5.out.js W5.out.inv).mono ?_
          rintro e w6 ⟨rfl, hb6⟩
          rw [T.out.1, T.out.2]
          have W6 : Hid (TW w w6 B P Q j1 fp1) := W5.out.later hb6
          have V6 : Hid (w6.ownsRow w3.heap.size 3 1 (.slice q4 ll c4) ll ((lacks j1).map (Value.int .i64))) := own_block V5.out fun b hb => hb6.block b (own_lt V5.out b hb).2
          clear hb6
          go_wp2_with fail
          refine (errF_same 0 w6 (H.out.1.later W6.out.bel)).mono ?_
          rintro e w7 ⟨rfl, hb7⟩
          have W7 : Hid (TW w w7 B P Q j1 fp1) := W6.out.later hb7
          have V7 : Hid (w7.ownsRow w3.heap.size 3 1 (.slice q4 ll c4) ll ((lacks j1).map (Value.int .i64))) := own_block V6.out fun b hb => hb7.block b (own_lt V6.out b hb).2
          clear hb7
          have ds : ((joined j1 j1.of).toList == (joined j1 j1.of).toList) = true := by simp
          go_wp2_with fail
          refine (lacksP_any B P j1 fp1 w7 W7.out.js W7.out.inv).mono ?_
          rintro e w8 ⟨v8, rfl, ho8, hb8⟩
          have W8 : Hid (TW w w8 B P Q j1 fp1) := W7.out.later hb8
          have V8 : Hid (w8.ownsRow w3.heap.size 3 1 (.slice q4 ll c4) ll ((lacks j1).map (Value.int .i64))) := own_block V7.out fun b hb => hb8.block b (own_lt V7.out b hb).2
          obtain ⟨q8, c8, e8, hv8⟩ := own_vw ho8
          obtain ⟨q9, c9, e9, hv9⟩ := own_vw V8.out
          subst e8
          cases e9
          have V9 : Hid (Vw w8 q8 (lacks j1).length (lacks j1) ∧ Vw w8 q4 ll (lacks j1)) := ⟨hv8, hv9⟩
          clear ho8 hb8 hv8 hv9
          go_wp2_with fail
          refine (ints_same q8 q4 (lacks j1).length c8 ll c4 (lacks j1) w8 V9.out.1 V9.out.2 (by rw [← LL.out.1]; have := LL.out.2; unfold maxLen; omega)).mono ?_
          rintro e w9 ⟨rfl, m9, rfl⟩
          go_wp2
          go_roundw
          case rel => exact ⟨i + 1, by omega, by go_num, j1, fp1, W8.out.later ⟨rfl, rfl, rfl, Nat.le_refl _, fun _ _ => rfl⟩⟩
          case measure => simp [intOf]; omega
    · by_cases hlen : i < len
      · have h60 : ¬ (i : Int) < 60 := by omega
        have hilt : (i : Int) < (len : Int) := by omega
        go_wp2
        go_ret
        obtain ⟨j, fj, hT⟩ := hQ.out
        exact ⟨rfl, hT.bel⟩
      · have hilt : ¬ (i : Int) < (len : Int) := by omega
        go_wp2
        go_ret
        obtain ⟨j, fj, hT⟩ := hQ.out
        exact ⟨rfl, hT.bel⟩
set_option maxRecDepth 100000 in
set_option maxHeartbeats 8000000 in
theorem tell_low (t : ByteArray) (size : Int) (a : Option Addr) (len cap : Nat) (l : List Pc) (w : World) (hL : Laid w) (hl : Pw w a len l) (hlm : len ≤ maxLen) (h : ¬ 60 < t.size) (hs : size < 1) :
    Calls Tryd.prog 4 #[.string t, .int .i64 size, .slice a len cap] w fun x w' => x = .returned (.bool true) ∧ Below w.heap.size w w' := by
  have H : Hid (Laid w ∧ Pw w a len l) := ⟨hL, hl⟩
  unfold maxLen at hlm
  have HC : Hid (splitC t size = 1) := by
    show splitC t size = 1
    unfold splitC
    rw [if_neg h, if_pos (.inl hs)]
  have k1 : ¬ (60 : Int) < (t.size : Int) := by omega
  clear hL hl
  go_enter Tryd.func4, Tryd.ntmps4
  go_wp2_with fail
  refine (splitP_any t size w).mono ?_
  rintro e wb ⟨vb, rfl, hob, hbb⟩
  have e0 : splitL t size = [] := by unfold splitL; rw [HC.out, if_neg (by decide)]
  rw [HC.out]
  rw [e0] at hob
  obtain ⟨qb, cb, rfl, _, hvb⟩ := hob.view
  have VB : Hid (Below w.heap.size w wb) := hbb
  clear hob hbb hvb e0
  simp only [List.length_nil]
  go_wp2_with fail
  refine (errF_same 1 wb (H.out.1.later VB.out)).mono ?_
  rintro e wc ⟨rfl, hbc⟩
  have VC : Hid (Below w.heap.size w wc) := VB.out.trans (hbc.mono VB.out.size)
  clear hbc
  go_wp2_with fail
  refine (pieces_same qb none cb 0 0 [] wc ⟨rfl, fun q => absurd q (by omega)⟩ ⟨rfl, fun q => absurd q (by omega)⟩ (by omega)).mono ?_
  rintro e w2 ⟨rfl, m2, rfl⟩
  have B2 : Hid (Below w.heap.size w (wc.drewN m2)) := drews VC.out m2
  obtain ⟨w2, ew2⟩ : ∃ w2, w2 = wc.drewN m2 := ⟨_, rfl⟩
  rw [← ew2] at B2 ⊢
  clear ew2
  go_wp2_with fail
  obtain ⟨B, eB⟩ : ∃ B, B = w2.heap.size := ⟨_, rfl⟩
  refine (newJ w2).mono ?_
  rintro e w3 ⟨P, fp, rfl, hj, hb3⟩
  have J3 : Hid (JS w3 w2.heap.size P start fp ∧ Below w2.heap.size w2 w3) := ⟨hj, hb3⟩
  clear hj hb3
  go_wp2_with fail
  obtain ⟨Q, eQ⟩ : ∃ Q, Q = w3.heap.size := ⟨_, rfl⟩
  obtain ⟨W, eW⟩ : ∃ W, W = w3.alloc (.cells Tryd.zeroCells74 74) := ⟨_, rfl⟩
  rw [← eW, ← eQ]
  have M0 : Hid (TW w W B P Q start fp) := by
    have hr := RJ.made w3
    have hb := (Below.refl w3.heap.size w3).alloc (Nat.le_refl _) (.cells Tryd.zeroCells74 74)
    rw [← eW] at hr hb
    rw [eQ, eB]
    have hs3 := J3.out.2.size
    have hs2 := B2.out.size
    exact ⟨J3.out.1.of_blocks hb.size fun b q => hb.block b (J3.out.1.fp b q).2, hr, JInv.start, fun q => by have := (J3.out.1.fp _ q).2; omega, (B2.out.trans (J3.out.2.mono hs2)).trans (hb.mono (Nat.le_trans hs2 hs3)), hs2, Nat.le_trans hs3 hb.size, Nat.le_trans hs2 hs3⟩
  clear eW eQ eB J3
  go_wp2_with fail
  go_loopw [14] (fun x wr => ∃ i : Nat, i ≤ len ∧ x = .int .i64 (i : Int) ∧ Hid (∃ j fp, TW w wr B P Q j fp)) (fun x _ => len - (intOf x).toNat)
  case atStart => exact ⟨0, by omega, rfl, start, fp, M0.out⟩
  case round =>
    clear M0
    obtain ⟨i, hil, rfl, hQ⟩ := hrel
    have hi0 : (0 : Int) ≤ (i : Int) := by omega
    by_cases hlt : i < len ∧ i < 60
    · have hilt : (i : Int) < (len : Int) := by omega
      have hi60 : (i : Int) < 60 := by omega
      have hin : i < len := hlt.1
      obtain ⟨j, fj, hT⟩ := hQ.out
      have T0 : Hid (TW w wr B P Q j fj) := hT
      obtain ⟨bl, ol, rfl, hbl, hcl⟩ := H.out.2.2 (by omega)
      obtain ⟨x0', x1', x2'⟩ := hcl i hlt.1
      obtain ⟨p, ep⟩ : ∃ p, p = pc l i := ⟨_, rfl⟩
      rw [← ep] at x0' x1' x2'
      obtain ⟨p0, p1, p2⟩ := p
      simp only at x0' x1' x2'
      have HX : Hid (∀ X : World, Below w.heap.size w X → X.cell? ⟨bl, ol + i * 3, none⟩ = some (.int .i64 p0) ∧ X.cell? ⟨bl, ol + i * 3 + 1, none⟩ = some (.int .i64 p1) ∧ X.cell? ⟨bl, ol + i * 3 + 2, none⟩ = some (.string p2)) := fun X hb => ⟨(hb.cell (p := ⟨bl, ol + i * 3, none⟩) hbl).trans x0', (hb.cell (p := ⟨bl, ol + i * 3 + 1, none⟩) hbl).trans x1', (hb.cell (p := ⟨bl, ol + i * 3 + 2, none⟩) hbl).trans x2'⟩
      obtain ⟨x0, x1, x2⟩ := HX.out wr hT.bel
      clear hT hQ hcl ep hlt x0' x1' x2'
      go_wp2_with fail
      refine (refTake (p0, p1, p2) Q j wr T0.out.rj T0.out.inv).mono ?_
      rintro e w1 ⟨rfl, hr1, hb1, hk1⟩
      have R1 : Hid (RJ w1 Q (takeJ j (p0, p1, p2)) ∧ Below Q wr w1 ∧ Kp wr w1 Q none) := ⟨hr1, hb1, hk1⟩
      have A1 : Hid (JS w1 B P j fj ∧ Below w.heap.size w w1 ∧ B ≤ w1.heap.size) := T0.out.ref hb1 hk1
      obtain ⟨y0, y1, y2⟩ := HX.out w1 A1.out.2.1
      clear hr1 hb1 hk1 x0 x1 x2
      go_wp2_with fail
      refine (takeP_any B P j fj (p0, p1, p2) w1 A1.out.1 T0.out.inv A1.out.2.2).mono ?_
      rintro e w2' ⟨fp1, rfl, hj2, hb2, hk2, hn2⟩
      obtain ⟨j1, ej1⟩ : ∃ j1, j1 = takeJ j (p0, p1, p2) := ⟨_, rfl⟩
      have W2 : Hid (TW w w2' B P Q j1 fp1) := by
        rw [ej1]
        exact T0.out.prog R1.out.2.1 R1.out.2.2 R1.out.1 (T0.out.inv.take _) hj2 hb2 hk2 hn2
      obtain ⟨tn, etn⟩ : ∃ tn, tn = takeN j (p0, p1, p2) := ⟨_, rfl⟩
      obtain ⟨tc, etc⟩ : ∃ tc, tc = takeC j (p0, p1, p2) := ⟨_, rfl⟩
      rw [← etn, ← etc]
      have dn : (tn == tn) = true := by simp
      clear hj2 hb2 hk2 hn2 y0 y1 y2 ej1 etn etc R1 A1
      go_wp2_with fail
      refine (errF_same tc w2' (H.out.1.later W2.out.bel)).mono ?_
      rintro e w3 ⟨rfl, hb3⟩
      have W3 : Hid (TW w w3 B P Q j1 fp1) := W2.out.later hb3
      clear hb3
      go_wp2_with fail
      refine (refLacks Q j1 w3 W3.out.rj W3.out.inv).mono ?_
      rintro e w4 ⟨v4, rfl, ho4, hb4⟩
      obtain ⟨ll, ell⟩ : ∃ ll, ll = (lacks j1).length := ⟨_, rfl⟩
      rw [← ell] at ho4
      obtain ⟨q4, c4, rfl⟩ := own_form ho4
      have W4 : Hid (TW w w4 B P Q j1 fp1) := W3.out.later hb4
      have V4 : Hid (w4.ownsRow w3.heap.size 3 1 (.slice q4 ll c4) ll ((lacks j1).map (Value.int .i64))) := ho4
      have LL : Hid (ll = (lacks j1).length ∧ ll ≤ 60) := ⟨ell, by
        rw [ell]
        have q := lackN_len j1 j1.of
        have q2 := W3.out.inv.of60
        rw [lacks_len]
        omega⟩
      have c0 := W4.out.rj.c0.1
      obtain ⟨o, eo⟩ : ∃ o, o = j1.of := ⟨_, rfl⟩
      rw [← eo] at c0
      have EO : Hid (o = j1.of) := eo
      clear ho4 hb4 ell eo
      by_cases h0 : j1.of = 0
      · have d0 : ((o : Int) == 0) = true := by have := EO.out; simp; omega
        obtain ⟨t1, t2⟩ := textC_yes (j := j1) (.inl h0)
        have T : Hid (textC j1 = 5 ∧ textS j1 = .empty) := ⟨t1, t2⟩
        clear t1 t2 h0
        go_wp2_with fail
        refine (textP_any B P j1 fp1 w4 W4.out.js W4.out.inv).mono ?_
        rintro e w6 ⟨rfl, hb6⟩
        rw [T.out.1, T.out.2]
        have W6 : Hid (TW w w6 B P Q j1 fp1) := W4.out.later hb6
        have V6 : Hid (w6.ownsRow w3.heap.size 3 1 (.slice q4 ll c4) ll ((lacks j1).map (Value.int .i64))) := own_block V4.out fun b hb => hb6.block b (own_lt V4.out b hb).2
        clear hb6
        go_wp2_with fail
        refine (errF_same 5 w6 (H.out.1.later W6.out.bel)).mono ?_
        rintro e w7 ⟨rfl, hb7⟩
        have W7 : Hid (TW w w7 B P Q j1 fp1) := W6.out.later hb7
        have V7 : Hid (w7.ownsRow w3.heap.size 3 1 (.slice q4 ll c4) ll ((lacks j1).map (Value.int .i64))) := own_block V6.out fun b hb => hb7.block b (own_lt V6.out b hb).2
        clear hb7
        have ds : (ByteArray.empty.toList == (⟨#[]⟩ : ByteArray).toList) = true := by rw [str_eq]; exact decide_eq_true rfl
        go_wp2_with fail
        refine (lacksP_any B P j1 fp1 w7 W7.out.js W7.out.inv).mono ?_
        rintro e w8 ⟨v8, rfl, ho8, hb8⟩
        have W8 : Hid (TW w w8 B P Q j1 fp1) := W7.out.later hb8
        have V8 : Hid (w8.ownsRow w3.heap.size 3 1 (.slice q4 ll c4) ll ((lacks j1).map (Value.int .i64))) := own_block V7.out fun b hb => hb8.block b (own_lt V7.out b hb).2
        obtain ⟨q8, c8, e8, hv8⟩ := own_vw ho8
        obtain ⟨q9, c9, e9, hv9⟩ := own_vw V8.out
        subst e8
        cases e9
        have V9 : Hid (Vw w8 q8 (lacks j1).length (lacks j1) ∧ Vw w8 q4 ll (lacks j1)) := ⟨hv8, hv9⟩
        clear ho8 hb8 hv8 hv9
        go_wp2_with fail
        refine (ints_same q8 q4 (lacks j1).length c8 ll c4 (lacks j1) w8 V9.out.1 V9.out.2 (by rw [← LL.out.1]; have := LL.out.2; unfold maxLen; omega)).mono ?_
        rintro e w9 ⟨rfl, m9, rfl⟩
        go_wp2
        go_roundw
        case rel => exact ⟨i + 1, by omega, by go_num, j1, fp1, W8.out.later ⟨rfl, rfl, rfl, Nat.le_refl _, fun _ _ => rfl⟩⟩
        case measure => simp [intOf]; omega
      · have d0 : ((o : Int) == 0) = false := by have := EO.out; simp; omega
        by_cases hll : (lacks j1).length ≠ 0
        · have d1 : (0 : Int) < (ll : Int) := by have := LL.out.1; omega
          obtain ⟨t1, t2⟩ := textC_yes (j := j1) (.inr hll)
          have T : Hid (textC j1 = 5 ∧ textS j1 = .empty) := ⟨t1, t2⟩
          clear t1 t2 hll h0
          go_wp2_with fail
          refine (textP_any B P j1 fp1 w4 W4.out.js W4.out.inv).mono ?_
          rintro e w6 ⟨rfl, hb6⟩
          rw [T.out.1, T.out.2]
          have W6 : Hid (TW w w6 B P Q j1 fp1) := W4.out.later hb6
          have V6 : Hid (w6.ownsRow w3.heap.size 3 1 (.slice q4 ll c4) ll ((lacks j1).map (Value.int .i64))) := own_block V4.out fun b hb => hb6.block b (own_lt V4.out b hb).2
          clear hb6
          go_wp2_with fail
          refine (errF_same 5 w6 (H.out.1.later W6.out.bel)).mono ?_
          rintro e w7 ⟨rfl, hb7⟩
          have W7 : Hid (TW w w7 B P Q j1 fp1) := W6.out.later hb7
          have V7 : Hid (w7.ownsRow w3.heap.size 3 1 (.slice q4 ll c4) ll ((lacks j1).map (Value.int .i64))) := own_block V6.out fun b hb => hb7.block b (own_lt V6.out b hb).2
          clear hb7
          have ds : (ByteArray.empty.toList == (⟨#[]⟩ : ByteArray).toList) = true := by rw [str_eq]; exact decide_eq_true rfl
          go_wp2_with fail
          refine (lacksP_any B P j1 fp1 w7 W7.out.js W7.out.inv).mono ?_
          rintro e w8 ⟨v8, rfl, ho8, hb8⟩
          have W8 : Hid (TW w w8 B P Q j1 fp1) := W7.out.later hb8
          have V8 : Hid (w8.ownsRow w3.heap.size 3 1 (.slice q4 ll c4) ll ((lacks j1).map (Value.int .i64))) := own_block V7.out fun b hb => hb8.block b (own_lt V7.out b hb).2
          obtain ⟨q8, c8, e8, hv8⟩ := own_vw ho8
          obtain ⟨q9, c9, e9, hv9⟩ := own_vw V8.out
          subst e8
          cases e9
          have V9 : Hid (Vw w8 q8 (lacks j1).length (lacks j1) ∧ Vw w8 q4 ll (lacks j1)) := ⟨hv8, hv9⟩
          clear ho8 hb8 hv8 hv9
          go_wp2_with fail
          refine (ints_same q8 q4 (lacks j1).length c8 ll c4 (lacks j1) w8 V9.out.1 V9.out.2 (by rw [← LL.out.1]; have := LL.out.2; unfold maxLen; omega)).mono ?_
          rintro e w9 ⟨rfl, m9, rfl⟩
          go_wp2
          go_roundw
          case rel => exact ⟨i + 1, by omega, by go_num, j1, fp1, W8.out.later ⟨rfl, rfl, rfl, Nat.le_refl _, fun _ _ => rfl⟩⟩
          case measure => simp [intOf]; omega
        · have hll : (lacks j1).length = 0 := Decidable.byContradiction hll
          have d1 : ¬ (0 : Int) < (ll : Int) := by have := LL.out.1; omega
          obtain ⟨t1, t2⟩ := textC_no h0 hll
          have T : Hid (textC j1 = 0 ∧ textS j1 = joined j1 j1.of) := ⟨t1, t2⟩
          clear t1 t2 hll h0
          go_wp2_with fail
          refine (refText Q j1 w4 W4.out.rj W4.out.inv).mono ?_
          rintro e w5 ⟨rfl, m5, rfl⟩
          have W5 : Hid (TW w (w4.drewN m5) B P Q j1 fp1) := W4.out.later ⟨rfl, rfl, rfl, Nat.le_refl _, fun _ _ => rfl⟩
          have V5 : Hid ((w4.drewN m5).ownsRow w3.heap.size 3 1 (.slice q4 ll c4) ll ((lacks j1).map (Value.int .i64))) := V4.out
          obtain ⟨w5, ew5⟩ : ∃ w5, w5 = w4.drewN m5 := ⟨_, rfl⟩
          rw [← ew5] at W5 V5 ⊢
          clear ew5
          go_wp2_with fail
          refine (textP_any B P j1 fp1 w5 W5.out.js W5.out.inv).mono ?_
          rintro e w6 ⟨rfl, hb6⟩
          rw [T.out.1, T.out.2]
          have W6 : Hid (TW w w6 B P Q j1 fp1) := W5.out.later hb6
          have V6 : Hid (w6.ownsRow w3.heap.size 3 1 (.slice q4 ll c4) ll ((lacks j1).map (Value.int .i64))) := own_block V5.out fun b hb => hb6.block b (own_lt V5.out b hb).2
          clear hb6
          go_wp2_with fail
          refine (errF_same 0 w6 (H.out.1.later W6.out.bel)).mono ?_
          rintro e w7 ⟨rfl, hb7⟩
          have W7 : Hid (TW w w7 B P Q j1 fp1) := W6.out.later hb7
          have V7 : Hid (w7.ownsRow w3.heap.size 3 1 (.slice q4 ll c4) ll ((lacks j1).map (Value.int .i64))) := own_block V6.out fun b hb => hb7.block b (own_lt V6.out b hb).2
          clear hb7
          have ds : ((joined j1 j1.of).toList == (joined j1 j1.of).toList) = true := by simp
          go_wp2_with fail
          refine (lacksP_any B P j1 fp1 w7 W7.out.js W7.out.inv).mono ?_
          rintro e w8 ⟨v8, rfl, ho8, hb8⟩
          have W8 : Hid (TW w w8 B P Q j1 fp1) := W7.out.later hb8
          have V8 : Hid (w8.ownsRow w3.heap.size 3 1 (.slice q4 ll c4) ll ((lacks j1).map (Value.int .i64))) := own_block V7.out fun b hb => hb8.block b (own_lt V7.out b hb).2
          obtain ⟨q8, c8, e8, hv8⟩ := own_vw ho8
          obtain ⟨q9, c9, e9, hv9⟩ := own_vw V8.out
          subst e8
          cases e9
          have V9 : Hid (Vw w8 q8 (lacks j1).length (lacks j1) ∧ Vw w8 q4 ll (lacks j1)) := ⟨hv8, hv9⟩
          clear ho8 hb8 hv8 hv9
          go_wp2_with fail
          refine (ints_same q8 q4 (lacks j1).length c8 ll c4 (lacks j1) w8 V9.out.1 V9.out.2 (by rw [← LL.out.1]; have := LL.out.2; unfold maxLen; omega)).mono ?_
          rintro e w9 ⟨rfl, m9, rfl⟩
          go_wp2
          go_roundw
          case rel => exact ⟨i + 1, by omega, by go_num, j1, fp1, W8.out.later ⟨rfl, rfl, rfl, Nat.le_refl _, fun _ _ => rfl⟩⟩
          case measure => simp [intOf]; omega
    · by_cases hlen : i < len
      · have h60 : ¬ (i : Int) < 60 := by omega
        have hilt : (i : Int) < (len : Int) := by omega
        go_wp2
        go_ret
        obtain ⟨j, fj, hT⟩ := hQ.out
        exact ⟨rfl, hT.bel⟩
      · have hilt : ¬ (i : Int) < (len : Int) := by omega
        go_wp2
        go_ret
        obtain ⟨j, fj, hT⟩ := hQ.out
        exact ⟨rfl, hT.bel⟩
set_option maxRecDepth 100000 in
set_option maxHeartbeats 8000000 in
theorem tell_high (t : ByteArray) (size : Int) (a : Option Addr) (len cap : Nat) (l : List Pc) (w : World) (hL : Laid w) (hl : Pw w a len l) (hlm : len ≤ maxLen) (h : ¬ 60 < t.size) (hs : 12 < size) :
    Calls Tryd.prog 4 #[.string t, .int .i64 size, .slice a len cap] w fun x w' => x = .returned (.bool true) ∧ Below w.heap.size w w' := by
  have H : Hid (Laid w ∧ Pw w a len l) := ⟨hL, hl⟩
  unfold maxLen at hlm
  have HC : Hid (splitC t size = 1) := by
    show splitC t size = 1
    unfold splitC
    rw [if_neg h, if_pos (.inr hs)]
  have k1 : ¬ (60 : Int) < (t.size : Int) := by omega
  have k2 : ¬ size < 1 := by omega
  clear hL hl
  go_enter Tryd.func4, Tryd.ntmps4
  go_wp2_with fail
  refine (splitP_any t size w).mono ?_
  rintro e wb ⟨vb, rfl, hob, hbb⟩
  have e0 : splitL t size = [] := by unfold splitL; rw [HC.out, if_neg (by decide)]
  rw [HC.out]
  rw [e0] at hob
  obtain ⟨qb, cb, rfl, _, hvb⟩ := hob.view
  have VB : Hid (Below w.heap.size w wb) := hbb
  clear hob hbb hvb e0
  simp only [List.length_nil]
  go_wp2_with fail
  refine (errF_same 1 wb (H.out.1.later VB.out)).mono ?_
  rintro e wc ⟨rfl, hbc⟩
  have VC : Hid (Below w.heap.size w wc) := VB.out.trans (hbc.mono VB.out.size)
  clear hbc
  go_wp2_with fail
  refine (pieces_same qb none cb 0 0 [] wc ⟨rfl, fun q => absurd q (by omega)⟩ ⟨rfl, fun q => absurd q (by omega)⟩ (by omega)).mono ?_
  rintro e w2 ⟨rfl, m2, rfl⟩
  have B2 : Hid (Below w.heap.size w (wc.drewN m2)) := drews VC.out m2
  obtain ⟨w2, ew2⟩ : ∃ w2, w2 = wc.drewN m2 := ⟨_, rfl⟩
  rw [← ew2] at B2 ⊢
  clear ew2
  go_wp2_with fail
  obtain ⟨B, eB⟩ : ∃ B, B = w2.heap.size := ⟨_, rfl⟩
  refine (newJ w2).mono ?_
  rintro e w3 ⟨P, fp, rfl, hj, hb3⟩
  have J3 : Hid (JS w3 w2.heap.size P start fp ∧ Below w2.heap.size w2 w3) := ⟨hj, hb3⟩
  clear hj hb3
  go_wp2_with fail
  obtain ⟨Q, eQ⟩ : ∃ Q, Q = w3.heap.size := ⟨_, rfl⟩
  obtain ⟨W, eW⟩ : ∃ W, W = w3.alloc (.cells Tryd.zeroCells74 74) := ⟨_, rfl⟩
  rw [← eW, ← eQ]
  have M0 : Hid (TW w W B P Q start fp) := by
    have hr := RJ.made w3
    have hb := (Below.refl w3.heap.size w3).alloc (Nat.le_refl _) (.cells Tryd.zeroCells74 74)
    rw [← eW] at hr hb
    rw [eQ, eB]
    have hs3 := J3.out.2.size
    have hs2 := B2.out.size
    exact ⟨J3.out.1.of_blocks hb.size fun b q => hb.block b (J3.out.1.fp b q).2, hr, JInv.start, fun q => by have := (J3.out.1.fp _ q).2; omega, (B2.out.trans (J3.out.2.mono hs2)).trans (hb.mono (Nat.le_trans hs2 hs3)), hs2, Nat.le_trans hs3 hb.size, Nat.le_trans hs2 hs3⟩
  clear eW eQ eB J3
  go_wp2_with fail
  go_loopw [14] (fun x wr => ∃ i : Nat, i ≤ len ∧ x = .int .i64 (i : Int) ∧ Hid (∃ j fp, TW w wr B P Q j fp)) (fun x _ => len - (intOf x).toNat)
  case atStart => exact ⟨0, by omega, rfl, start, fp, M0.out⟩
  case round =>
    clear M0
    obtain ⟨i, hil, rfl, hQ⟩ := hrel
    have hi0 : (0 : Int) ≤ (i : Int) := by omega
    by_cases hlt : i < len ∧ i < 60
    · have hilt : (i : Int) < (len : Int) := by omega
      have hi60 : (i : Int) < 60 := by omega
      have hin : i < len := hlt.1
      obtain ⟨j, fj, hT⟩ := hQ.out
      have T0 : Hid (TW w wr B P Q j fj) := hT
      obtain ⟨bl, ol, rfl, hbl, hcl⟩ := H.out.2.2 (by omega)
      obtain ⟨x0', x1', x2'⟩ := hcl i hlt.1
      obtain ⟨p, ep⟩ : ∃ p, p = pc l i := ⟨_, rfl⟩
      rw [← ep] at x0' x1' x2'
      obtain ⟨p0, p1, p2⟩ := p
      simp only at x0' x1' x2'
      have HX : Hid (∀ X : World, Below w.heap.size w X → X.cell? ⟨bl, ol + i * 3, none⟩ = some (.int .i64 p0) ∧ X.cell? ⟨bl, ol + i * 3 + 1, none⟩ = some (.int .i64 p1) ∧ X.cell? ⟨bl, ol + i * 3 + 2, none⟩ = some (.string p2)) := fun X hb => ⟨(hb.cell (p := ⟨bl, ol + i * 3, none⟩) hbl).trans x0', (hb.cell (p := ⟨bl, ol + i * 3 + 1, none⟩) hbl).trans x1', (hb.cell (p := ⟨bl, ol + i * 3 + 2, none⟩) hbl).trans x2'⟩
      obtain ⟨x0, x1, x2⟩ := HX.out wr hT.bel
      clear hT hQ hcl ep hlt x0' x1' x2'
      go_wp2_with fail
      refine (refTake (p0, p1, p2) Q j wr T0.out.rj T0.out.inv).mono ?_
      rintro e w1 ⟨rfl, hr1, hb1, hk1⟩
      have R1 : Hid (RJ w1 Q (takeJ j (p0, p1, p2)) ∧ Below Q wr w1 ∧ Kp wr w1 Q none) := ⟨hr1, hb1, hk1⟩
      have A1 : Hid (JS w1 B P j fj ∧ Below w.heap.size w w1 ∧ B ≤ w1.heap.size) := T0.out.ref hb1 hk1
      obtain ⟨y0, y1, y2⟩ := HX.out w1 A1.out.2.1
      clear hr1 hb1 hk1 x0 x1 x2
      go_wp2_with fail
      refine (takeP_any B P j fj (p0, p1, p2) w1 A1.out.1 T0.out.inv A1.out.2.2).mono ?_
      rintro e w2' ⟨fp1, rfl, hj2, hb2, hk2, hn2⟩
      obtain ⟨j1, ej1⟩ : ∃ j1, j1 = takeJ j (p0, p1, p2) := ⟨_, rfl⟩
      have W2 : Hid (TW w w2' B P Q j1 fp1) := by
        rw [ej1]
        exact T0.out.prog R1.out.2.1 R1.out.2.2 R1.out.1 (T0.out.inv.take _) hj2 hb2 hk2 hn2
      obtain ⟨tn, etn⟩ : ∃ tn, tn = takeN j (p0, p1, p2) := ⟨_, rfl⟩
      obtain ⟨tc, etc⟩ : ∃ tc, tc = takeC j (p0, p1, p2) := ⟨_, rfl⟩
      rw [← etn, ← etc]
      have dn : (tn == tn) = true := by simp
      clear hj2 hb2 hk2 hn2 y0 y1 y2 ej1 etn etc R1 A1
      go_wp2_with fail
      refine (errF_same tc w2' (H.out.1.later W2.out.bel)).mono ?_
      rintro e w3 ⟨rfl, hb3⟩
      have W3 : Hid (TW w w3 B P Q j1 fp1) := W2.out.later hb3
      clear hb3
      go_wp2_with fail
      refine (refLacks Q j1 w3 W3.out.rj W3.out.inv).mono ?_
      rintro e w4 ⟨v4, rfl, ho4, hb4⟩
      obtain ⟨ll, ell⟩ : ∃ ll, ll = (lacks j1).length := ⟨_, rfl⟩
      rw [← ell] at ho4
      obtain ⟨q4, c4, rfl⟩ := own_form ho4
      have W4 : Hid (TW w w4 B P Q j1 fp1) := W3.out.later hb4
      have V4 : Hid (w4.ownsRow w3.heap.size 3 1 (.slice q4 ll c4) ll ((lacks j1).map (Value.int .i64))) := ho4
      have LL : Hid (ll = (lacks j1).length ∧ ll ≤ 60) := ⟨ell, by
        rw [ell]
        have q := lackN_len j1 j1.of
        have q2 := W3.out.inv.of60
        rw [lacks_len]
        omega⟩
      have c0 := W4.out.rj.c0.1
      obtain ⟨o, eo⟩ : ∃ o, o = j1.of := ⟨_, rfl⟩
      rw [← eo] at c0
      have EO : Hid (o = j1.of) := eo
      clear ho4 hb4 ell eo
      by_cases h0 : j1.of = 0
      · have d0 : ((o : Int) == 0) = true := by have := EO.out; simp; omega
        obtain ⟨t1, t2⟩ := textC_yes (j := j1) (.inl h0)
        have T : Hid (textC j1 = 5 ∧ textS j1 = .empty) := ⟨t1, t2⟩
        clear t1 t2 h0
        go_wp2_with fail
        refine (textP_any B P j1 fp1 w4 W4.out.js W4.out.inv).mono ?_
        rintro e w6 ⟨rfl, hb6⟩
        rw [T.out.1, T.out.2]
        have W6 : Hid (TW w w6 B P Q j1 fp1) := W4.out.later hb6
        have V6 : Hid (w6.ownsRow w3.heap.size 3 1 (.slice q4 ll c4) ll ((lacks j1).map (Value.int .i64))) := own_block V4.out fun b hb => hb6.block b (own_lt V4.out b hb).2
        clear hb6
        go_wp2_with fail
        refine (errF_same 5 w6 (H.out.1.later W6.out.bel)).mono ?_
        rintro e w7 ⟨rfl, hb7⟩
        have W7 : Hid (TW w w7 B P Q j1 fp1) := W6.out.later hb7
        have V7 : Hid (w7.ownsRow w3.heap.size 3 1 (.slice q4 ll c4) ll ((lacks j1).map (Value.int .i64))) := own_block V6.out fun b hb => hb7.block b (own_lt V6.out b hb).2
        clear hb7
        have ds : (ByteArray.empty.toList == (⟨#[]⟩ : ByteArray).toList) = true := by rw [str_eq]; exact decide_eq_true rfl
        go_wp2_with fail
        refine (lacksP_any B P j1 fp1 w7 W7.out.js W7.out.inv).mono ?_
        rintro e w8 ⟨v8, rfl, ho8, hb8⟩
        have W8 : Hid (TW w w8 B P Q j1 fp1) := W7.out.later hb8
        have V8 : Hid (w8.ownsRow w3.heap.size 3 1 (.slice q4 ll c4) ll ((lacks j1).map (Value.int .i64))) := own_block V7.out fun b hb => hb8.block b (own_lt V7.out b hb).2
        obtain ⟨q8, c8, e8, hv8⟩ := own_vw ho8
        obtain ⟨q9, c9, e9, hv9⟩ := own_vw V8.out
        subst e8
        cases e9
        have V9 : Hid (Vw w8 q8 (lacks j1).length (lacks j1) ∧ Vw w8 q4 ll (lacks j1)) := ⟨hv8, hv9⟩
        clear ho8 hb8 hv8 hv9
        go_wp2_with fail
        refine (ints_same q8 q4 (lacks j1).length c8 ll c4 (lacks j1) w8 V9.out.1 V9.out.2 (by rw [← LL.out.1]; have := LL.out.2; unfold maxLen; omega)).mono ?_
        rintro e w9 ⟨rfl, m9, rfl⟩
        go_wp2
        go_roundw
        case rel => exact ⟨i + 1, by omega, by go_num, j1, fp1, W8.out.later ⟨rfl, rfl, rfl, Nat.le_refl _, fun _ _ => rfl⟩⟩
        case measure => simp [intOf]; omega
      · have d0 : ((o : Int) == 0) = false := by have := EO.out; simp; omega
        by_cases hll : (lacks j1).length ≠ 0
        · have d1 : (0 : Int) < (ll : Int) := by have := LL.out.1; omega
          obtain ⟨t1, t2⟩ := textC_yes (j := j1) (.inr hll)
          have T : Hid (textC j1 = 5 ∧ textS j1 = .empty) := ⟨t1, t2⟩
          clear t1 t2 hll h0
          go_wp2_with fail
          refine (textP_any B P j1 fp1 w4 W4.out.js W4.out.inv).mono ?_
          rintro e w6 ⟨rfl, hb6⟩
          rw [T.out.1, T.out.2]
          have W6 : Hid (TW w w6 B P Q j1 fp1) := W4.out.later hb6
          have V6 : Hid (w6.ownsRow w3.heap.size 3 1 (.slice q4 ll c4) ll ((lacks j1).map (Value.int .i64))) := own_block V4.out fun b hb => hb6.block b (own_lt V4.out b hb).2
          clear hb6
          go_wp2_with fail
          refine (errF_same 5 w6 (H.out.1.later W6.out.bel)).mono ?_
          rintro e w7 ⟨rfl, hb7⟩
          have W7 : Hid (TW w w7 B P Q j1 fp1) := W6.out.later hb7
          have V7 : Hid (w7.ownsRow w3.heap.size 3 1 (.slice q4 ll c4) ll ((lacks j1).map (Value.int .i64))) := own_block V6.out fun b hb => hb7.block b (own_lt V6.out b hb).2
          clear hb7
          have ds : (ByteArray.empty.toList == (⟨#[]⟩ : ByteArray).toList) = true := by rw [str_eq]; exact decide_eq_true rfl
          go_wp2_with fail
          refine (lacksP_any B P j1 fp1 w7 W7.out.js W7.out.inv).mono ?_
          rintro e w8 ⟨v8, rfl, ho8, hb8⟩
          have W8 : Hid (TW w w8 B P Q j1 fp1) := W7.out.later hb8
          have V8 : Hid (w8.ownsRow w3.heap.size 3 1 (.slice q4 ll c4) ll ((lacks j1).map (Value.int .i64))) := own_block V7.out fun b hb => hb8.block b (own_lt V7.out b hb).2
          obtain ⟨q8, c8, e8, hv8⟩ := own_vw ho8
          obtain ⟨q9, c9, e9, hv9⟩ := own_vw V8.out
          subst e8
          cases e9
          have V9 : Hid (Vw w8 q8 (lacks j1).length (lacks j1) ∧ Vw w8 q4 ll (lacks j1)) := ⟨hv8, hv9⟩
          clear ho8 hb8 hv8 hv9
          go_wp2_with fail
          refine (ints_same q8 q4 (lacks j1).length c8 ll c4 (lacks j1) w8 V9.out.1 V9.out.2 (by rw [← LL.out.1]; have := LL.out.2; unfold maxLen; omega)).mono ?_
          rintro e w9 ⟨rfl, m9, rfl⟩
          go_wp2
          go_roundw
          case rel => exact ⟨i + 1, by omega, by go_num, j1, fp1, W8.out.later ⟨rfl, rfl, rfl, Nat.le_refl _, fun _ _ => rfl⟩⟩
          case measure => simp [intOf]; omega
        · have hll : (lacks j1).length = 0 := Decidable.byContradiction hll
          have d1 : ¬ (0 : Int) < (ll : Int) := by have := LL.out.1; omega
          obtain ⟨t1, t2⟩ := textC_no h0 hll
          have T : Hid (textC j1 = 0 ∧ textS j1 = joined j1 j1.of) := ⟨t1, t2⟩
          clear t1 t2 hll h0
          go_wp2_with fail
          refine (refText Q j1 w4 W4.out.rj W4.out.inv).mono ?_
          rintro e w5 ⟨rfl, m5, rfl⟩
          have W5 : Hid (TW w (w4.drewN m5) B P Q j1 fp1) := W4.out.later ⟨rfl, rfl, rfl, Nat.le_refl _, fun _ _ => rfl⟩
          have V5 : Hid ((w4.drewN m5).ownsRow w3.heap.size 3 1 (.slice q4 ll c4) ll ((lacks j1).map (Value.int .i64))) := V4.out
          obtain ⟨w5, ew5⟩ : ∃ w5, w5 = w4.drewN m5 := ⟨_, rfl⟩
          rw [← ew5] at W5 V5 ⊢
          clear ew5
          go_wp2_with fail
          refine (textP_any B P j1 fp1 w5 W5.out.js W5.out.inv).mono ?_
          rintro e w6 ⟨rfl, hb6⟩
          rw [T.out.1, T.out.2]
          have W6 : Hid (TW w w6 B P Q j1 fp1) := W5.out.later hb6
          have V6 : Hid (w6.ownsRow w3.heap.size 3 1 (.slice q4 ll c4) ll ((lacks j1).map (Value.int .i64))) := own_block V5.out fun b hb => hb6.block b (own_lt V5.out b hb).2
          clear hb6
          go_wp2_with fail
          refine (errF_same 0 w6 (H.out.1.later W6.out.bel)).mono ?_
          rintro e w7 ⟨rfl, hb7⟩
          have W7 : Hid (TW w w7 B P Q j1 fp1) := W6.out.later hb7
          have V7 : Hid (w7.ownsRow w3.heap.size 3 1 (.slice q4 ll c4) ll ((lacks j1).map (Value.int .i64))) := own_block V6.out fun b hb => hb7.block b (own_lt V6.out b hb).2
          clear hb7
          have ds : ((joined j1 j1.of).toList == (joined j1 j1.of).toList) = true := by simp
          go_wp2_with fail
          refine (lacksP_any B P j1 fp1 w7 W7.out.js W7.out.inv).mono ?_
          rintro e w8 ⟨v8, rfl, ho8, hb8⟩
          have W8 : Hid (TW w w8 B P Q j1 fp1) := W7.out.later hb8
          have V8 : Hid (w8.ownsRow w3.heap.size 3 1 (.slice q4 ll c4) ll ((lacks j1).map (Value.int .i64))) := own_block V7.out fun b hb => hb8.block b (own_lt V7.out b hb).2
          obtain ⟨q8, c8, e8, hv8⟩ := own_vw ho8
          obtain ⟨q9, c9, e9, hv9⟩ := own_vw V8.out
          subst e8
          cases e9
          have V9 : Hid (Vw w8 q8 (lacks j1).length (lacks j1) ∧ Vw w8 q4 ll (lacks j1)) := ⟨hv8, hv9⟩
          clear ho8 hb8 hv8 hv9
          go_wp2_with fail
          refine (ints_same q8 q4 (lacks j1).length c8 ll c4 (lacks j1) w8 V9.out.1 V9.out.2 (by rw [← LL.out.1]; have := LL.out.2; unfold maxLen; omega)).mono ?_
          rintro e w9 ⟨rfl, m9, rfl⟩
          go_wp2
          go_roundw
          case rel => exact ⟨i + 1, by omega, by go_num, j1, fp1, W8.out.later ⟨rfl, rfl, rfl, Nat.le_refl _, fun _ _ => rfl⟩⟩
          case measure => simp [intOf]; omega
    · by_cases hlen : i < len
      · have h60 : ¬ (i : Int) < 60 := by omega
        have hilt : (i : Int) < (len : Int) := by omega
        go_wp2
        go_ret
        obtain ⟨j, fj, hT⟩ := hQ.out
        exact ⟨rfl, hT.bel⟩
      · have hilt : ¬ (i : Int) < (len : Int) := by omega
        go_wp2
        go_ret
        obtain ⟨j, fj, hT⟩ := hQ.out
        exact ⟨rfl, hT.bel⟩
set_option maxRecDepth 100000 in
set_option maxHeartbeats 8000000 in
theorem tell_ok (t : ByteArray) (size : Nat) (a : Option Addr) (len cap : Nat) (l : List Pc) (w : World) (hL : Laid w) (hl : Pw w a len l) (hlm : len ≤ maxLen) (h1 : 1 ≤ size) (h12 : size ≤ 12) (h60 : t.size ≤ 60) :
    Calls Tryd.prog 4 #[.string t, .int .i64 (size : Int), .slice a len cap] w fun x w' => x = .returned (.bool true) ∧ Below w.heap.size w w' := by
  have H : Hid (Laid w ∧ Pw w a len l) := ⟨hL, hl⟩
  unfold maxLen at hlm
  have hc : splitC t (size : Int) = 0 := by
    unfold splitC
    rw [if_neg (by omega), if_neg (by omega)]
  have HS : Hid (splitC t (size : Int) = 0 ∧ 1 ≤ size ∧ size ≤ 12 ∧ t.size ≤ 60) := ⟨hc, h1, h12, h60⟩
  obtain ⟨n, en⟩ : ∃ n, n = many t.size size := ⟨_, rfl⟩
  have EN : Hid (n = many t.size size ∧ n ≤ 60) := ⟨en, by rw [en]; exact many_le h1 h60⟩
  have k1 : ¬ (60 : Int) < (t.size : Int) := by omega
  have k2 : ¬ (size : Int) < 1 := by omega
  have k3 : ¬ (12 : Int) < (size : Int) := by omega
  clear hL hl hc h1 h12 h60 en
  go_enter Tryd.func4, Tryd.ntmps4
  go_wp2_with fail
  refine (refSplit t size w HS.out.2.1 HS.out.2.2.1 HS.out.2.2.2).mono ?_
  rintro e wa ⟨va, rfl, hoa, hba⟩
  rw [← EN.out.1] at hoa
  have VA : Hid (Po wa w.heap.size va (pcs t size n) ∧ Below w.heap.size w wa) := ⟨hoa, hba⟩
  clear hoa hba
  go_wp2_with fail
  refine (splitP_any t (size : Int) wa).mono ?_
  rintro e wb ⟨vb, rfl, hob, hbb⟩
  rw [HS.out.1]
  rw [split_zero HS.out.1, Int.toNat_natCast, ← EN.out.1] at hob
  obtain ⟨qb, cb, rfl, _, hvb⟩ := hob.view
  obtain ⟨qa, ca, ea, _, hva⟩ := (VA.out.1.later hbb).view
  subst ea
  rw [pcs_len] at hvb hva ⊢
  have VB : Hid (Pw wb qb n (pcs t size n) ∧ Pw wb qa n (pcs t size n) ∧ Below w.heap.size w wb) := ⟨hvb, hva, VA.out.2.trans (hbb.mono VA.out.2.size)⟩
  clear hob hbb hvb hva VA
  go_wp2_with fail
  refine (errF_same 0 wb (H.out.1.later VB.out.2.2)).mono ?_
  rintro e wc ⟨rfl, hbc⟩
  have VC : Hid (Pw wc qb n (pcs t size n) ∧ Pw wc qa n (pcs t size n) ∧ Below w.heap.size w wc) := ⟨VB.out.1.later hbc, VB.out.2.1.later hbc, VB.out.2.2.trans (hbc.mono VB.out.2.2.size)⟩
  clear hbc
  go_wp2_with fail
  refine (pieces_same qb qa cb ca n (pcs t size n) wc VC.out.1 VC.out.2.1 (by have := EN.out.2; omega)).mono ?_
  rintro e w2 ⟨rfl, m2, rfl⟩
  have B2 : Hid (Below w.heap.size w (wc.drewN m2)) := drews VC.out.2.2 m2
  obtain ⟨w2, ew2⟩ : ∃ w2, w2 = wc.drewN m2 := ⟨_, rfl⟩
  rw [← ew2] at B2 ⊢
  clear ew2
  go_wp2_with fail
  obtain ⟨B, eB⟩ : ∃ B, B = w2.heap.size := ⟨_, rfl⟩
  refine (newJ w2).mono ?_
  rintro e w3 ⟨P, fp, rfl, hj, hb3⟩
  have J3 : Hid (JS w3 w2.heap.size P start fp ∧ Below w2.heap.size w2 w3) := ⟨hj, hb3⟩
  clear hj hb3
  go_wp2_with fail
  obtain ⟨Q, eQ⟩ : ∃ Q, Q = w3.heap.size := ⟨_, rfl⟩
  obtain ⟨W, eW⟩ : ∃ W, W = w3.alloc (.cells Tryd.zeroCells74 74) := ⟨_, rfl⟩
  rw [← eW, ← eQ]
  have M0 : Hid (TW w W B P Q start fp) := by
    have hr := RJ.made w3
    have hb := (Below.refl w3.heap.size w3).alloc (Nat.le_refl _) (.cells Tryd.zeroCells74 74)
    rw [← eW] at hr hb
    rw [eQ, eB]
    have hs3 := J3.out.2.size
    have hs2 := B2.out.size
    exact ⟨J3.out.1.of_blocks hb.size fun b q => hb.block b (J3.out.1.fp b q).2, hr, JInv.start, fun q => by have := (J3.out.1.fp _ q).2; omega, (B2.out.trans (J3.out.2.mono hs2)).trans (hb.mono (Nat.le_trans hs2 hs3)), hs2, Nat.le_trans hs3 hb.size, Nat.le_trans hs2 hs3⟩
  clear eW eQ eB J3
  go_wp2_with fail
  go_loopw [14] (fun x wr => ∃ i : Nat, i ≤ len ∧ x = .int .i64 (i : Int) ∧ Hid (∃ j fp, TW w wr B P Q j fp)) (fun x _ => len - (intOf x).toNat)
  case atStart => exact ⟨0, by omega, rfl, start, fp, M0.out⟩
  case round =>
    clear M0
    obtain ⟨i, hil, rfl, hQ⟩ := hrel
    have hi0 : (0 : Int) ≤ (i : Int) := by omega
    by_cases hlt : i < len ∧ i < 60
    · have hilt : (i : Int) < (len : Int) := by omega
      have hi60 : (i : Int) < 60 := by omega
      have hin : i < len := hlt.1
      obtain ⟨j, fj, hT⟩ := hQ.out
      have T0 : Hid (TW w wr B P Q j fj) := hT
      obtain ⟨bl, ol, rfl, hbl, hcl⟩ := H.out.2.2 (by omega)
      obtain ⟨x0', x1', x2'⟩ := hcl i hlt.1
      obtain ⟨p, ep⟩ : ∃ p, p = pc l i := ⟨_, rfl⟩
      rw [← ep] at x0' x1' x2'
      obtain ⟨p0, p1, p2⟩ := p
      simp only at x0' x1' x2'
      have HX : Hid (∀ X : World, Below w.heap.size w X → X.cell? ⟨bl, ol + i * 3, none⟩ = some (.int .i64 p0) ∧ X.cell? ⟨bl, ol + i * 3 + 1, none⟩ = some (.int .i64 p1) ∧ X.cell? ⟨bl, ol + i * 3 + 2, none⟩ = some (.string p2)) := fun X hb => ⟨(hb.cell (p := ⟨bl, ol + i * 3, none⟩) hbl).trans x0', (hb.cell (p := ⟨bl, ol + i * 3 + 1, none⟩) hbl).trans x1', (hb.cell (p := ⟨bl, ol + i * 3 + 2, none⟩) hbl).trans x2'⟩
      obtain ⟨x0, x1, x2⟩ := HX.out wr hT.bel
      clear hT hQ hcl ep hlt x0' x1' x2'
      go_wp2_with fail
      refine (refTake (p0, p1, p2) Q j wr T0.out.rj T0.out.inv).mono ?_
      rintro e w1 ⟨rfl, hr1, hb1, hk1⟩
      have R1 : Hid (RJ w1 Q (takeJ j (p0, p1, p2)) ∧ Below Q wr w1 ∧ Kp wr w1 Q none) := ⟨hr1, hb1, hk1⟩
      have A1 : Hid (JS w1 B P j fj ∧ Below w.heap.size w w1 ∧ B ≤ w1.heap.size) := T0.out.ref hb1 hk1
      obtain ⟨y0, y1, y2⟩ := HX.out w1 A1.out.2.1
      clear hr1 hb1 hk1 x0 x1 x2
      go_wp2_with fail
      refine (takeP_any B P j fj (p0, p1, p2) w1 A1.out.1 T0.out.inv A1.out.2.2).mono ?_
      rintro e w2' ⟨fp1, rfl, hj2, hb2, hk2, hn2⟩
      obtain ⟨j1, ej1⟩ : ∃ j1, j1 = takeJ j (p0, p1, p2) := ⟨_, rfl⟩
      have W2 : Hid (TW w w2' B P Q j1 fp1) := by
        rw [ej1]
        exact T0.out.prog R1.out.2.1 R1.out.2.2 R1.out.1 (T0.out.inv.take _) hj2 hb2 hk2 hn2
      obtain ⟨tn, etn⟩ : ∃ tn, tn = takeN j (p0, p1, p2) := ⟨_, rfl⟩
      obtain ⟨tc, etc⟩ : ∃ tc, tc = takeC j (p0, p1, p2) := ⟨_, rfl⟩
      rw [← etn, ← etc]
      have dn : (tn == tn) = true := by simp
      clear hj2 hb2 hk2 hn2 y0 y1 y2 ej1 etn etc R1 A1
      go_wp2_with fail
      refine (errF_same tc w2' (H.out.1.later W2.out.bel)).mono ?_
      rintro e w3 ⟨rfl, hb3⟩
      have W3 : Hid (TW w w3 B P Q j1 fp1) := W2.out.later hb3
      clear hb3
      go_wp2_with fail
      refine (refLacks Q j1 w3 W3.out.rj W3.out.inv).mono ?_
      rintro e w4 ⟨v4, rfl, ho4, hb4⟩
      obtain ⟨ll, ell⟩ : ∃ ll, ll = (lacks j1).length := ⟨_, rfl⟩
      rw [← ell] at ho4
      obtain ⟨q4, c4, rfl⟩ := own_form ho4
      have W4 : Hid (TW w w4 B P Q j1 fp1) := W3.out.later hb4
      have V4 : Hid (w4.ownsRow w3.heap.size 3 1 (.slice q4 ll c4) ll ((lacks j1).map (Value.int .i64))) := ho4
      have LL : Hid (ll = (lacks j1).length ∧ ll ≤ 60) := ⟨ell, by
        rw [ell]
        have q := lackN_len j1 j1.of
        have q2 := W3.out.inv.of60
        rw [lacks_len]
        omega⟩
      have c0 := W4.out.rj.c0.1
      obtain ⟨o, eo⟩ : ∃ o, o = j1.of := ⟨_, rfl⟩
      rw [← eo] at c0
      have EO : Hid (o = j1.of) := eo
      clear ho4 hb4 ell eo
      by_cases h0 : j1.of = 0
      · have d0 : ((o : Int) == 0) = true := by have := EO.out; simp; omega
        obtain ⟨t1, t2⟩ := textC_yes (j := j1) (.inl h0)
        have T : Hid (textC j1 = 5 ∧ textS j1 = .empty) := ⟨t1, t2⟩
        clear t1 t2 h0
        go_wp2_with fail
        refine (textP_any B P j1 fp1 w4 W4.out.js W4.out.inv).mono ?_
        rintro e w6 ⟨rfl, hb6⟩
        rw [T.out.1, T.out.2]
        have W6 : Hid (TW w w6 B P Q j1 fp1) := W4.out.later hb6
        have V6 : Hid (w6.ownsRow w3.heap.size 3 1 (.slice q4 ll c4) ll ((lacks j1).map (Value.int .i64))) := own_block V4.out fun b hb => hb6.block b (own_lt V4.out b hb).2
        clear hb6
        go_wp2_with fail
        refine (errF_same 5 w6 (H.out.1.later W6.out.bel)).mono ?_
        rintro e w7 ⟨rfl, hb7⟩
        have W7 : Hid (TW w w7 B P Q j1 fp1) := W6.out.later hb7
        have V7 : Hid (w7.ownsRow w3.heap.size 3 1 (.slice q4 ll c4) ll ((lacks j1).map (Value.int .i64))) := own_block V6.out fun b hb => hb7.block b (own_lt V6.out b hb).2
        clear hb7
        have ds : (ByteArray.empty.toList == (⟨#[]⟩ : ByteArray).toList) = true := by rw [str_eq]; exact decide_eq_true rfl
        go_wp2_with fail
        refine (lacksP_any B P j1 fp1 w7 W7.out.js W7.out.inv).mono ?_
        rintro e w8 ⟨v8, rfl, ho8, hb8⟩
        have W8 : Hid (TW w w8 B P Q j1 fp1) := W7.out.later hb8
        have V8 : Hid (w8.ownsRow w3.heap.size 3 1 (.slice q4 ll c4) ll ((lacks j1).map (Value.int .i64))) := own_block V7.out fun b hb => hb8.block b (own_lt V7.out b hb).2
        obtain ⟨q8, c8, e8, hv8⟩ := own_vw ho8
        obtain ⟨q9, c9, e9, hv9⟩ := own_vw V8.out
        subst e8
        cases e9
        have V9 : Hid (Vw w8 q8 (lacks j1).length (lacks j1) ∧ Vw w8 q4 ll (lacks j1)) := ⟨hv8, hv9⟩
        clear ho8 hb8 hv8 hv9
        go_wp2_with fail
        refine (ints_same q8 q4 (lacks j1).length c8 ll c4 (lacks j1) w8 V9.out.1 V9.out.2 (by rw [← LL.out.1]; have := LL.out.2; unfold maxLen; omega)).mono ?_
        rintro e w9 ⟨rfl, m9, rfl⟩
        go_wp2
        go_roundw
        case rel => exact ⟨i + 1, by omega, by go_num, j1, fp1, W8.out.later ⟨rfl, rfl, rfl, Nat.le_refl _, fun _ _ => rfl⟩⟩
        case measure => simp [intOf]; omega
      · have d0 : ((o : Int) == 0) = false := by have := EO.out; simp; omega
        by_cases hll : (lacks j1).length ≠ 0
        · have d1 : (0 : Int) < (ll : Int) := by have := LL.out.1; omega
          obtain ⟨t1, t2⟩ := textC_yes (j := j1) (.inr hll)
          have T : Hid (textC j1 = 5 ∧ textS j1 = .empty) := ⟨t1, t2⟩
          clear t1 t2 hll h0
          go_wp2_with fail
          refine (textP_any B P j1 fp1 w4 W4.out.js W4.out.inv).mono ?_
          rintro e w6 ⟨rfl, hb6⟩
          rw [T.out.1, T.out.2]
          have W6 : Hid (TW w w6 B P Q j1 fp1) := W4.out.later hb6
          have V6 : Hid (w6.ownsRow w3.heap.size 3 1 (.slice q4 ll c4) ll ((lacks j1).map (Value.int .i64))) := own_block V4.out fun b hb => hb6.block b (own_lt V4.out b hb).2
          clear hb6
          go_wp2_with fail
          refine (errF_same 5 w6 (H.out.1.later W6.out.bel)).mono ?_
          rintro e w7 ⟨rfl, hb7⟩
          have W7 : Hid (TW w w7 B P Q j1 fp1) := W6.out.later hb7
          have V7 : Hid (w7.ownsRow w3.heap.size 3 1 (.slice q4 ll c4) ll ((lacks j1).map (Value.int .i64))) := own_block V6.out fun b hb => hb7.block b (own_lt V6.out b hb).2
          clear hb7
          have ds : (ByteArray.empty.toList == (⟨#[]⟩ : ByteArray).toList) = true := by rw [str_eq]; exact decide_eq_true rfl
          go_wp2_with fail
          refine (lacksP_any B P j1 fp1 w7 W7.out.js W7.out.inv).mono ?_
          rintro e w8 ⟨v8, rfl, ho8, hb8⟩
          have W8 : Hid (TW w w8 B P Q j1 fp1) := W7.out.later hb8
          have V8 : Hid (w8.ownsRow w3.heap.size 3 1 (.slice q4 ll c4) ll ((lacks j1).map (Value.int .i64))) := own_block V7.out fun b hb => hb8.block b (own_lt V7.out b hb).2
          obtain ⟨q8, c8, e8, hv8⟩ := own_vw ho8
          obtain ⟨q9, c9, e9, hv9⟩ := own_vw V8.out
          subst e8
          cases e9
          have V9 : Hid (Vw w8 q8 (lacks j1).length (lacks j1) ∧ Vw w8 q4 ll (lacks j1)) := ⟨hv8, hv9⟩
          clear ho8 hb8 hv8 hv9
          go_wp2_with fail
          refine (ints_same q8 q4 (lacks j1).length c8 ll c4 (lacks j1) w8 V9.out.1 V9.out.2 (by rw [← LL.out.1]; have := LL.out.2; unfold maxLen; omega)).mono ?_
          rintro e w9 ⟨rfl, m9, rfl⟩
          go_wp2
          go_roundw
          case rel => exact ⟨i + 1, by omega, by go_num, j1, fp1, W8.out.later ⟨rfl, rfl, rfl, Nat.le_refl _, fun _ _ => rfl⟩⟩
          case measure => simp [intOf]; omega
        · have hll : (lacks j1).length = 0 := Decidable.byContradiction hll
          have d1 : ¬ (0 : Int) < (ll : Int) := by have := LL.out.1; omega
          obtain ⟨t1, t2⟩ := textC_no h0 hll
          have T : Hid (textC j1 = 0 ∧ textS j1 = joined j1 j1.of) := ⟨t1, t2⟩
          clear t1 t2 hll h0
          go_wp2_with fail
          refine (refText Q j1 w4 W4.out.rj W4.out.inv).mono ?_
          rintro e w5 ⟨rfl, m5, rfl⟩
          have W5 : Hid (TW w (w4.drewN m5) B P Q j1 fp1) := W4.out.later ⟨rfl, rfl, rfl, Nat.le_refl _, fun _ _ => rfl⟩
          have V5 : Hid ((w4.drewN m5).ownsRow w3.heap.size 3 1 (.slice q4 ll c4) ll ((lacks j1).map (Value.int .i64))) := V4.out
          obtain ⟨w5, ew5⟩ : ∃ w5, w5 = w4.drewN m5 := ⟨_, rfl⟩
          rw [← ew5] at W5 V5 ⊢
          clear ew5
          go_wp2_with fail
          refine (textP_any B P j1 fp1 w5 W5.out.js W5.out.inv).mono ?_
          rintro e w6 ⟨rfl, hb6⟩
          rw [T.out.1, T.out.2]
          have W6 : Hid (TW w w6 B P Q j1 fp1) := W5.out.later hb6
          have V6 : Hid (w6.ownsRow w3.heap.size 3 1 (.slice q4 ll c4) ll ((lacks j1).map (Value.int .i64))) := own_block V5.out fun b hb => hb6.block b (own_lt V5.out b hb).2
          clear hb6
          go_wp2_with fail
          refine (errF_same 0 w6 (H.out.1.later W6.out.bel)).mono ?_
          rintro e w7 ⟨rfl, hb7⟩
          have W7 : Hid (TW w w7 B P Q j1 fp1) := W6.out.later hb7
          have V7 : Hid (w7.ownsRow w3.heap.size 3 1 (.slice q4 ll c4) ll ((lacks j1).map (Value.int .i64))) := own_block V6.out fun b hb => hb7.block b (own_lt V6.out b hb).2
          clear hb7
          have ds : ((joined j1 j1.of).toList == (joined j1 j1.of).toList) = true := by simp
          go_wp2_with fail
          refine (lacksP_any B P j1 fp1 w7 W7.out.js W7.out.inv).mono ?_
          rintro e w8 ⟨v8, rfl, ho8, hb8⟩
          have W8 : Hid (TW w w8 B P Q j1 fp1) := W7.out.later hb8
          have V8 : Hid (w8.ownsRow w3.heap.size 3 1 (.slice q4 ll c4) ll ((lacks j1).map (Value.int .i64))) := own_block V7.out fun b hb => hb8.block b (own_lt V7.out b hb).2
          obtain ⟨q8, c8, e8, hv8⟩ := own_vw ho8
          obtain ⟨q9, c9, e9, hv9⟩ := own_vw V8.out
          subst e8
          cases e9
          have V9 : Hid (Vw w8 q8 (lacks j1).length (lacks j1) ∧ Vw w8 q4 ll (lacks j1)) := ⟨hv8, hv9⟩
          clear ho8 hb8 hv8 hv9
          go_wp2_with fail
          refine (ints_same q8 q4 (lacks j1).length c8 ll c4 (lacks j1) w8 V9.out.1 V9.out.2 (by rw [← LL.out.1]; have := LL.out.2; unfold maxLen; omega)).mono ?_
          rintro e w9 ⟨rfl, m9, rfl⟩
          go_wp2
          go_roundw
          case rel => exact ⟨i + 1, by omega, by go_num, j1, fp1, W8.out.later ⟨rfl, rfl, rfl, Nat.le_refl _, fun _ _ => rfl⟩⟩
          case measure => simp [intOf]; omega
    · by_cases hlen : i < len
      · have h60 : ¬ (i : Int) < 60 := by omega
        have hilt : (i : Int) < (len : Int) := by omega
        go_wp2
        go_ret
        obtain ⟨j, fj, hT⟩ := hQ.out
        exact ⟨rfl, hT.bel⟩
      · have hilt : ¬ (i : Int) < (len : Int) := by omega
        go_wp2
        go_ret
        obtain ⟨j, fj, hT⟩ := hQ.out
        exact ⟨rfl, hT.bel⟩
theorem tell_any (t : ByteArray) (size : Int) (a : Option Addr) (len cap : Nat) (l : List Pc) (w : World) (hL : Laid w) (hl : Pw w a len l) (hlm : len ≤ maxLen) :
    Calls Tryd.prog 4 #[.string t, .int .i64 size, .slice a len cap] w fun x w' => x = .returned (.bool true) ∧ Below w.heap.size w w' := by
  by_cases h : 60 < t.size
  · exact tell_long t size a len cap l w hL hl hlm h
  · by_cases h1 : size < 1
    · exact tell_low t size a len cap l w hL hl hlm h h1
    · by_cases h2 : 12 < size
      · exact tell_high t size a len cap l w hL hl hlm h h2
      · obtain ⟨s, rfl⟩ : ∃ s : Nat, size = (s : Int) := ⟨size.toNat, by omega⟩
        exact tell_ok t s a len cap l w hL hl hlm (by omega) (by omega) (by omega)
end Go.Proofs.YtnchnmccconcdaeDoor.Pie
