/-
  The walk of CausePlays: any words that one says, and that come of others: what is refused, what is heard, the clock, what waits, are what the document tells.
-/
import Derived.Test.YtndjejbnappmeadDoorCauP
import Derived.Test.YtndjejbnappmeadDoorCauX
import Derived.Test.YtndjejbnappmeadDoorSaidF
namespace Go.Proofs.YtndjejbnappmeadDoor.Cau
open Go.RowKit
open Go.Proofs.YtndjejbnappmeadDoor.Vec (Vw)
open Go.Proofs.YtndjejbnappmeadDoor.As (Laid)
open Go.Proofs.YtndjejbnappmeadDoor.Fif (own_lt own_block own_form own_vw own_mono row_grown Kp ret_bool)
set_option linter.unusedVariables false

theorem below_from {w w1 w2 : World} (h : Below w1.heap.size w1 w2) (e : w1.heap = w.heap) (e1 : w1.os = w.os) (e2 : w1.tape = w.tape) (e3 : w1.output = w.output) : Below w.heap.size w w2 := below_same h e e1 e2 e3
theorem cs_later {w w' : World} {base P : Nat} {me : Int} {K : List Int} {ws : List Sd} {fp : List Nat} (g : CS w base P me K ws fp) (hb : Below w.heap.size w w') : CS w' base P me K ws fp := g.of_blocks hb.size (fun b h => hb.block b (g.fp b h).2)
theorem cs_kp {w w' : World} {base P Q : Nat} {me : Int} {K : List Int} {ws : List Sd} {fp : List Nat} {r : Option Nat} (g : CS w base P me K ws fp) (hk : Kp w w' Q r) (sep : ∀ b ∈ fp, b ≠ Q ∧ r ≠ some b) : CS w' base P me K ws fp :=
  g.of_blocks hk.1 (fun b hb => hk.2 b (g.fp b hb).2 (sep b hb).1 (fun e => (sep b hb).2 e.symm))
theorem rc_kpl {w w' : World} {base Q : Nat} {me : Int} {K : List Int} {es : List Es} {v : Value} {fp : List Nat} (g : RC w base Q me K es v) (hB : Below base w w') (hk : KpL w w' fp) (sep : ∀ b ∈ fp, b ≠ Q ∧ v.ownBlock ≠ some b) : RC w' base Q me K es v :=
  g.of_blocks hB (hk.2 Q (World.rowIs.lt g.row) (fun h => (sep Q h).1 rfl)) (fun k hk' => hk.2 k (own_lt g.own k hk').2 (fun h => (sep k h).2 hk'))
theorem own_kpl {w w' : World} {b0 : Nat} {t : TypeId} {s n : Nat} {v : Value} {xs : List Value} {fp : List Nat} (o : w.ownsRow b0 t s v n xs) (hk : KpL w w' fp) (hf : ∀ b ∈ fp, b < b0) : w'.ownsRow b0 t s v n xs :=
  own_block o (fun k h => hk.2 k (own_lt o k h).2 (fun q => by have := hf k q; have := (own_lt o k h).1; omega))
theorem CInv.sayK {me : Int} {K : List Int} {ws : List Sd} (g : CInv me K ws) (word : Int) : CInv me (sayK me K word) ws := by
  unfold Cau.sayK
  by_cases h : sayC me K word = 0
  · rw [if_pos h]
    refine g.say fun e => ?_
    unfold sayC at h
    split at h
    · omega
    · first | omega | (rw [if_pos e] at h; omega)
  · rw [if_neg h]
    exact g
theorem vw_old {w wt : World} {q : Option Addr} {n : Nat} {clk : List Int} (hv : Vw w q n clk) (hb : Below w.heap.size w wt) : n = 5 → Old wt w.heap.size q clk := by
  intro h5
  subst h5
  obtain ⟨b, off, e, h1, h2⟩ := hv.2 (by omega)
  exact ⟨b, off, e, h1, hv.1, fun k hk => (hb.cell (p := ⟨b, off + k, none⟩) h1).trans (h2 k hk)⟩
/-- how both stand at any time -/
def PL (w : World) (P Q : Nat) (me : Int) (wr : World) : Prop := ∃ K es v fp, CS wr w.heap.size P me K (es.map toSd) fp ∧ RC wr w.heap.size Q me K es v ∧ CInv me K (es.map toSd) ∧ (∀ b ∈ fp, b ≠ Q ∧ v.ownBlock ≠ some b) ∧ Below w.heap.size w wr
theorem pl_end {w : World} {P Q : Nat} {me : Int} {w9 wx wf : World} {K : List Int} {es : List Es} {v : Value} {fp : List Nat} (g : CS w9 w.heap.size P me K (es.map toSd) fp ∧ RC w9 w.heap.size Q me K es v ∧ CInv me K (es.map toSd) ∧ (∀ b ∈ fp, b ≠ Q ∧ v.ownBlock ≠ some b) ∧ Below w.heap.size w w9)
    (D : Below w9.heap.size w9 wx) (e : wf.heap = wx.heap) (e1 : wf.os = wx.os) (e2 : wf.tape = wx.tape) (e3 : wf.output = wx.output) : PL w P Q me wf := by
  have D' : Below w9.heap.size w9 wf := below_heap2 D e e1 e2 e3
  exact ⟨K, es, v, fp, cs_later g.1 D', g.2.1.later D', g.2.2.1, g.2.2.2.1, g.2.2.2.2.trans (D'.mono g.2.2.2.2.size)⟩

set_option maxRecDepth 100000 in
theorem cplays_no (me : Int) (a1 : Option Addr) (n1 c1 : Nat) (a2 : Option Addr) (n2 c2 : Nat) (w : World) (hL : Laid w) (h : me < 0 ∨ 4 < me) :
    Calls Tryd.prog 3 #[.int .i64 me, .slice a1 n1 c1, .slice a2 n2 c2] w fun e w' => e = .returned (.bool true) ∧ Below w.heap.size w w' := by
  have HL : Hid (Laid w ∧ (me < 0 ∨ 4 < me)) := ⟨hL, h⟩
  rcases (show me < 0 ∨ (0 ≤ me ∧ 4 < me) by omega) with h1 | ⟨h1, h2⟩
  all_goals
    clear hL h
    go_enter Tryd.func3, Tryd.ntmps3
    go_wp2_with fail
    refine (newC_no me w HL.out.2).mono ?_
    rintro e w1 ⟨v, rfl, hb⟩
    have B1 : Hid (Below w.heap.size w w1) := hb
    clear hb
    go_wp2_with fail
    refine (errF_same 1 w1 (HL.out.1.later B1.out)).mono ?_
    rintro e w2 ⟨rfl, hb⟩
    have B2 : Hid (Below w.heap.size w w2) := B1.out.trans (hb.mono B1.out.size)
    clear hb
    go_wp2
    go_ret
    exact ⟨rfl, B2.out⟩

set_option maxRecDepth 100000 in
set_option maxHeartbeats 4000000 in
theorem cplays_yes (m : Nat) (a1 : Option Addr) (n1 c1 : Nat) (xs : List Int) (a2 : Option Addr) (n2 c2 : Nat) (ss : List Sd) (w : World) (hL : Laid w) (hm : m < 5) (hv1 : Vw w a1 n1 xs) (hm1 : n1 ≤ maxLen) (hv2 : Sw w a2 n2 ss) :
    Calls Tryd.prog 3 #[.int .i64 (m : Int), .slice a1 n1 c1, .slice a2 n2 c2] w fun e w' => e = .returned (.bool true) ∧ Below w.heap.size w w' := by
  have HL : Hid (Laid w ∧ Vw w a1 n1 xs ∧ Sw w a2 n2 ss) := ⟨hL, hv1, hv2⟩
  have hm2 := hv2.2.1
  unfold maxLen at hm1 hm2
  have hm0 : (0 : Int) ≤ (m : Int) := by omega
  have hm4 : (m : Int) ≤ 4 := by omega
  have d1 : decide ((m : Int) < 0) = false := by simp
  have d2 : decide (4 < (m : Int)) = false := by simp; omega
  clear hL hv1 hv2
  go_enter Tryd.func3, Tryd.ntmps3
  go_wp2_with fail
  refine (newC_ok (m : Int) w ⟨hm0, hm4⟩).mono ?_
  rintro e w1 ⟨P, fp, rfl, hC, hB⟩
  have S1 : Hid (CS w1 w.heap.size P (m : Int) [0, 0, 0, 0, 0] [] fp ∧ Below w.heap.size w w1) := ⟨hC, hB⟩
  clear hC hB
  go_wp2_with fail
  refine (errF_same 0 w1 (HL.out.1.later S1.out.2)).mono ?_
  rintro e w2 ⟨rfl, hb⟩
  have S2 : Hid (CS w2 w.heap.size P (m : Int) [0, 0, 0, 0, 0] [] fp ∧ Below w.heap.size w w2) := ⟨cs_later S1.out.1 hb, S1.out.2.trans (hb.mono S1.out.2.size)⟩
  clear hb S1
  go_wp2
  obtain ⟨W1, eW1⟩ : ∃ W1, W1 = w2.alloc (.cells #[.int .i64 (m : Int), .int .i64 0, .int .i64 0, .int .i64 0, .int .i64 0, .int .i64 0, .slice none 0 0] 33) := ⟨_, rfl⟩
  rw [← eW1]
  have P1 : Hid (PL w P w2.heap.size (m : Int) W1) := by
    refine ⟨[0, 0, 0, 0, 0], [], .slice none 0 0, fp, ?_, ⟨?_, World.ownsRow_nil _ _ _ _, fun e he => absurd he List.not_mem_nil, rfl, S2.out.2.size⟩, CInv.start ⟨hm0, hm4⟩, fun b hb => ⟨Nat.ne_of_lt (S2.out.1.fp b hb).2, by simp [Value.ownBlock]⟩, ?_⟩
    · rw [eW1]; exact cs_later S2.out.1 ((Below.refl _ _).alloc (Nat.le_refl _) _)
    · rw [eW1]
      exact World.rowIs_alloc w2 _ 33 (rcv (m : Int) [0, 0, 0, 0, 0] (.slice none 0 0)) (fun i hi => by
        rcases i with _ | _ | _ | _ | _ | _ | _ | i <;> first | rfl | (exfalso; have : _ < 7 := hi; omega))
    · rw [eW1]; exact S2.out.2.alloc S2.out.2.size _
  clear eW1
  obtain ⟨Q, eQ⟩ : ∃ Q, Q = w2.heap.size := ⟨_, rfl⟩
  rw [← eQ] at P1 ⊢
  clear eQ S2
  go_loopw [12] (fun x wr => ∃ i : Nat, i ≤ n2 ∧ x = .int .i64 (i : Int) ∧ Hid (PL w P Q (m : Int) wr)) (fun x _ => n2 - (intOf x).toNat)
  case atStart => exact ⟨0, by omega, rfl, P1⟩
  case round =>
    obtain ⟨i, hi, rfl, hR⟩ := hrel
    by_cases hlt : i < n2
    · have hi0 : (0 : Int) ≤ (i : Int) := by omega
      have hil : (i : Int) < (n2 : Int) := by omega
      by_cases h80 : (i : Int) < 80
      · obtain ⟨wo, ewo⟩ : ∃ wo, wo = wr := ⟨_, rfl⟩
        subst ewo
        obtain ⟨K, es, v, fp2, q1, q2, q3, q4, q5⟩ := hR.out
        have R : Hid (CS wo w.heap.size P (m : Int) K (es.map toSd) fp2 ∧ RC wo w.heap.size Q (m : Int) K es v ∧ CInv (m : Int) K (es.map toSd) ∧ (∀ b ∈ fp2, b ≠ Q ∧ v.ownBlock ≠ some b) ∧ Below w.heap.size w wo) := ⟨q1, q2, q3, q4, q5⟩
        clear q1 q2 q3 q4 q5 hR
        obtain ⟨b, off, rfl, hbl, hcs⟩ := HL.out.2.2.2.2 (by omega)
        obtain ⟨qi, ci, y0, y1, y2, hvi, hmi⟩ := hcs i hlt
        obtain ⟨s, es0⟩ : ∃ s, s = sd ss i := ⟨_, rfl⟩
        rw [← es0] at y0 y1 y2 hvi hmi
        obtain ⟨sw, sx, clk⟩ := s
        simp only at y0 y1 y2 hvi hmi
        obtain ⟨lc, elc⟩ : ∃ lc, lc = clk.length := ⟨_, rfl⟩
        rw [← elc] at y2 hvi
        have YS : Hid (w.cell? ⟨b, off + i * 3, none⟩ = some (.int .i64 sw) ∧ w.cell? ⟨b, off + i * 3 + 1, none⟩ = some (.int .i64 sx) ∧ w.cell? ⟨b, off + i * 3 + 2, none⟩ = some (.slice qi lc ci) ∧ b < w.heap.size ∧ Vw w qi lc clk) := ⟨y0, y1, y2, hbl, hvi⟩
        clear y0 y1 y2 hvi hbl hcs es0 elc hmi
        by_cases hs : (i : Int) < (n1 : Int)
        · obtain ⟨b1, o1, rfl, hl1, hc1⟩ := HL.out.2.1.2 (by omega)
          have x0 := (R.out.2.2.2.2.cell (p := ⟨b1, o1 + i, none⟩) hl1).trans (hc1 i (by omega))
          have X1 : Hid (w.cell? ⟨b1, o1 + i, none⟩ = some (.int .i64 (xs.getD i 0)) ∧ b1 < w.heap.size) := ⟨hc1 i (by omega), hl1⟩
          obtain ⟨x, ex⟩ : ∃ x, x = xs.getD i 0 := ⟨_, rfl⟩
          rw [← ex] at x0 X1
          clear hc1 hl1 ex
          by_cases hx : x = 0
          · have hx' : (x != 0) = false := by simp [hx]
            clear hx
            have RT : Hid (CS wo w.heap.size P (m : Int) K (es.map toSd) fp2 ∧ RC wo w.heap.size Q (m : Int) K es v ∧ CInv (m : Int) K (es.map toSd) ∧ (∀ b ∈ fp2, b ≠ Q ∧ v.ownBlock ≠ some b) ∧ Below w.heap.size w wo) := R
            have y0 := (RT.out.2.2.2.2.cell (p := ⟨b, off + i * 3, none⟩) YS.out.2.2.2.1).trans YS.out.1
            have y1 := (RT.out.2.2.2.2.cell (p := ⟨b, off + i * 3 + 1, none⟩) YS.out.2.2.2.1).trans YS.out.2.1
            have y2 := (RT.out.2.2.2.2.cell (p := ⟨b, off + i * 3 + 2, none⟩) YS.out.2.2.2.1).trans YS.out.2.2.1
            go_wp2_with fail
            refine (refTakeC w.heap.size Q (m : Int) K es v sw sx qi lc ci clk wo RT.out.2.1 RT.out.2.2.1 RT.out.2.2.2.2.size (YS.out.2.2.2.2.later RT.out.2.2.2.2) (vw_old YS.out.2.2.2.2 RT.out.2.2.2.2)).mono ?_
            rintro e w6 ⟨vo, v6, es6, rfl, hR6, hE6, hO6, hB6, hK6, hV6⟩
            obtain ⟨qo, co, rfl⟩ := own_form hO6
            have sep6 : ∀ b ∈ fp2, b ≠ Q ∧ v6.ownBlock ≠ some b := fun b hb => ⟨(RT.out.2.2.2.1 b hb).1, fun e => by
              rcases hV6 b e with a | a
              · exact (RT.out.2.2.2.1 b hb).2 a
              · have := (RT.out.1.fp b hb).2; omega⟩
            obtain ⟨lo, elo⟩ : ∃ lo, lo = (ctk (m : Int) K (es.map toSd) (sw, sx, clk)).1.length := ⟨_, rfl⟩
            rw [← elo] at hO6
            obtain ⟨ec, eec⟩ : ∃ ec, ec = ckC (m : Int) K (es.map toSd) (sw, sx, clk) := ⟨_, rfl⟩
            rw [← eec, ← elo]
            have BB6 : Below w.heap.size w w6 := RT.out.2.2.2.2.trans hB6
            have y0 := (BB6.cell (p := ⟨b, off + i * 3, none⟩) YS.out.2.2.2.1).trans YS.out.1
            have y1 := (BB6.cell (p := ⟨b, off + i * 3 + 1, none⟩) YS.out.2.2.2.1).trans YS.out.2.1
            have y2 := (BB6.cell (p := ⟨b, off + i * 3 + 2, none⟩) YS.out.2.2.2.1).trans YS.out.2.2.1
            have G6 : Hid (CS w6 w.heap.size P (m : Int) K (es.map toSd) fp2 ∧ RC w6 w.heap.size Q (m : Int) (ctk (m : Int) K (es.map toSd) (sw, sx, clk)).2.1 es6 v6 ∧ es6.map toSd = (ctk (m : Int) K (es.map toSd) (sw, sx, clk)).2.2 ∧ w6.ownsRow wo.heap.size 3 1 (.slice qo lo co) lo ((ctk (m : Int) K (es.map toSd) (sw, sx, clk)).1.map (Value.int .i64)) ∧ (∀ b ∈ fp2, b ≠ Q ∧ v6.ownBlock ≠ some b) ∧ Below w.heap.size w w6 ∧ lo = (ctk (m : Int) K (es.map toSd) (sw, sx, clk)).1.length ∧ ec = ckC (m : Int) K (es.map toSd) (sw, sx, clk) ∧ wo.heap.size ≤ w6.heap.size) := ⟨cs_kp RT.out.1 hK6 RT.out.2.2.2.1, hR6, hE6, hO6, sep6, BB6, elo, eec, hB6.size⟩
            clear hR6 hE6 hO6 hB6 hK6 hV6 sep6 elo eec BB6
            go_wp2_with fail
            refine (takeP_any w.heap.size P (m : Int) K (es.map toSd) fp2 sw sx qi lc ci clk w6 G6.out.1 RT.out.2.2.1 G6.out.2.2.2.2.2.1.size (YS.out.2.2.2.2.later G6.out.2.2.2.2.2.1)).mono ?_
            rintro e w7 ⟨vl, fp7, rfl, hC7, hO7, hB7, hK7, hN7, -⟩
            rw [← G6.out.2.2.2.2.2.2.2.1]
            rw [← G6.out.2.2.2.2.2.2.1] at hO7
            obtain ⟨ql, cl, rfl⟩ := own_form hO7
            have r7 := rc_kpl G6.out.2.1 hB7 hK7 G6.out.2.2.2.2.1
            have o7 := own_kpl G6.out.2.2.2.1 hK7 (fun b hb => (RT.out.1.fp b hb).2)
            obtain ⟨H', eH'⟩ : ∃ H', H' = (ctk (m : Int) K (es.map toSd) (sw, sx, clk)).2.1 := ⟨_, rfl⟩
            have i7 : CInv (m : Int) H' (es6.map toSd) := by rw [eH', G6.out.2.2.1]; exact RT.out.2.2.1.take _
            rw [← G6.out.2.2.1, ← eH'] at hC7
            rw [← eH'] at r7
            have sep7 : ∀ b ∈ fp7, b ≠ Q ∧ v6.ownBlock ≠ some b := fun b hb => by
              rcases hN7 b hb with a | a
              · exact G6.out.2.2.2.2.1 b a
              · refine ⟨fun e => ?_, fun e => ?_⟩
                · have := World.rowIs.lt G6.out.2.1.row; omega
                · have := (own_lt G6.out.2.1.own b e).2; omega
            have G7 : Hid (CS w7 w.heap.size P (m : Int) H' (es6.map toSd) fp7 ∧ RC w7 w.heap.size Q (m : Int) H' es6 v6 ∧ CInv (m : Int) H' (es6.map toSd) ∧ (∀ b ∈ fp7, b ≠ Q ∧ v6.ownBlock ≠ some b) ∧ Below w.heap.size w w7 ∧ Vw w7 qo lo (ctk (m : Int) K (es.map toSd) (sw, sx, clk)).1 ∧ Vw w7 ql lo (ctk (m : Int) K (es.map toSd) (sw, sx, clk)).1 ∧ lo ≤ maxLen) := by
              obtain ⟨_, _, e1, hv1⟩ := own_vw o7
              obtain ⟨_, _, e2, hv2⟩ := own_vw hO7
              cases e1
              cases e2
              exact ⟨hC7, r7, i7, sep7, G6.out.2.2.2.2.2.1.trans hB7, hv1, hv2, own_max o7⟩
            clear hC7 hO7 hB7 hK7 hN7 r7 o7 i7 sep7 G6 eH' y0 y1 y2
            go_wp2_with fail
            refine (errF_same ec w7 (HL.out.1.later G7.out.2.2.2.2.1)).mono ?_
            rintro e w8 ⟨rfl, hb8⟩
            have G8 : Hid (CS w8 w.heap.size P (m : Int) H' (es6.map toSd) fp7 ∧ RC w8 w.heap.size Q (m : Int) H' es6 v6 ∧ CInv (m : Int) H' (es6.map toSd) ∧ (∀ b ∈ fp7, b ≠ Q ∧ v6.ownBlock ≠ some b) ∧ Below w.heap.size w w8 ∧ Vw w8 qo lo (ctk (m : Int) K (es.map toSd) (sw, sx, clk)).1 ∧ Vw w8 ql lo (ctk (m : Int) K (es.map toSd) (sw, sx, clk)).1 ∧ lo ≤ maxLen) := ⟨cs_later G7.out.1 hb8, G7.out.2.1.later hb8, G7.out.2.2.1, G7.out.2.2.2.1, G7.out.2.2.2.2.1.trans (hb8.mono G7.out.2.2.2.2.1.size), G7.out.2.2.2.2.2.1.later hb8, G7.out.2.2.2.2.2.2.1.later hb8, G7.out.2.2.2.2.2.2.2⟩
            clear hb8 G7
            go_wp2_with fail
            refine (ints_same ql qo lo cl lo co _ w8 G8.out.2.2.2.2.2.2.1 G8.out.2.2.2.2.2.1 G8.out.2.2.2.2.2.2.2).mono ?_
            rintro e w9 ⟨rfl, n9, e9⟩
            have G9 : Hid (CS w9 w.heap.size P (m : Int) H' (es6.map toSd) fp7 ∧ RC w9 w.heap.size Q (m : Int) H' es6 v6 ∧ CInv (m : Int) H' (es6.map toSd) ∧ (∀ b ∈ fp7, b ≠ Q ∧ v6.ownBlock ≠ some b) ∧ Below w.heap.size w w9) := by
              rw [e9]
              exact ⟨G8.out.1.of_blocks (Nat.le_refl _) (fun _ _ => rfl), G8.out.2.1.later (below_drews (Below.refl _ _) _), G8.out.2.2.1, G8.out.2.2.2.1, below_drews G8.out.2.2.2.2.1 _⟩
            clear e9 G8
            obtain ⟨qv, cv, rfl, -⟩ := G9.out.2.1.form
            have c6 := G9.out.2.1.wait.1
            have PQ : Hid (Q < w9.heap.size) := World.rowIs.lt G9.out.2.1.row
            have hne : ((es6.length : Int) != (es6.length : Int)) = false := by simp
            go_wp2_with fail
            go_region_held3 (fun w' => w'.cell? ⟨Q, 6, none⟩ = some (.slice qv es6.length cv)) (first | exact cB | exact cA | exact c6 | go_keep) (first
              | (go_at_call 12; refine (clockP_any w.heap.size P (m : Int) H' (es6.map toSd) fp7 _ (by first | exact cs_later G9.out.1 DL.out | exact G9.out.1.of_blocks (Nat.le_refl _) (fun _ _ => rfl))).mono ?_; rintro e wc ⟨vx, rfl, hOc, hBc⟩; obtain ⟨qx, cx, rfl, hvc⟩ := own_vw hOc; have DC : Hid (Below w9.heap.size w9 wc) := (by first | exact below_from hBc rfl rfl rfl rfl | exact DL.out.trans ((below_from hBc rfl rfl rfl rfl).mono DL.out.size)); have cA : wc.cell? ⟨Q, 6, none⟩ = some (.slice qv es6.length cv) := ((DC.out.cell (p := ⟨Q, 6, none⟩) PQ.out).trans c6); have VC : Hid (Vw wc qx 5 H') := hvc; clear hOc hvc)
              | (go_at_call 13; refine (list_any Q H' _ G9.out.2.1.five (by first | exact PQ.out | exact Nat.lt_of_lt_of_le PQ.out DC.out.size) (by first | exact k5_heap G9.out.2.1.k5 rfl | exact k5_heap (G9.out.2.1.later DC.out).k5 rfl)).mono ?_; rintro e wl ⟨vy, rfl, hOl, hBl⟩; obtain ⟨qy, cy, rfl, hvl⟩ := own_vw hOl; have DL : Hid (Below w9.heap.size w9 wl) := (by first | exact below_from hBl rfl rfl rfl rfl | exact DC.out.trans ((below_from hBl rfl rfl rfl rfl).mono DC.out.size)); have cB : wl.cell? ⟨Q, 6, none⟩ = some (.slice qv es6.length cv) := ((DL.out.cell (p := ⟨Q, 6, none⟩) PQ.out).trans c6); have VL : Hid (Vw wl qy 5 H') := hvl; clear hOl hvl)
              | (go_at_call 11; refine (ints_same qx qy 5 cx 5 cy H' _ (by first | exact vw_heap VC.out rfl | exact vw_heap (VC.out.later (below_from hBl rfl rfl rfl rfl)) rfl) (by first | exact vw_heap VL.out rfl | exact vw_heap (VL.out.later (below_from hBc rfl rfl rfl rfl)) rfl) (by unfold maxLen; omega)).mono ?_; rintro e w10 ⟨rfl, n10, rfl⟩)
              | (go_at_call 14; refine (waitsP_any w.heap.size P (m : Int) H' (es6.map toSd) fp7 _ (by first | exact (cs_later G9.out.1 DL.out).of_blocks (Nat.le_refl _) (fun _ _ => rfl) | exact (cs_later G9.out.1 DC.out).of_blocks (Nat.le_refl _) (fun _ _ => rfl))).mono ?_; rintro e w11 ⟨rfl, n11, rfl⟩; rw [List.length_map]))
            all_goals
              go_wp2
              go_roundw
              case rel => exact ⟨i + 1, by omega, by go_num, by first | exact pl_end G9.out DL.out rfl rfl rfl rfl | exact pl_end G9.out DC.out rfl rfl rfl rfl⟩
              case measure => simp [intOf]; omega
          · have hx' : (x != 0) = true := by simp [hx]
            clear hx
            go_wp2_with fail
            refine (refSay w.heap.size Q (m : Int) K es v x wo R.out.2.1 R.out.2.2.1 R.out.2.2.2.2.size).mono ?_
            rintro e w3 ⟨s0, s1, vc, rfl, hR3, hS3, hB3, hK3⟩
            obtain ⟨qc, cc, rfl⟩ := own_form hS3.2.2
            obtain ⟨sl, esl⟩ : ∃ sl, sl = (sayL (m : Int) K x).length := ⟨_, rfl⟩
            obtain ⟨sc, esc⟩ : ∃ sc, sc = sayC (m : Int) K x := ⟨_, rfl⟩
            rw [← esl, ← esc]
            have B3 : Below w.heap.size w w3 := R.out.2.2.2.2.trans hB3
            have x3 := (B3.cell (p := ⟨b1, o1 + i, none⟩) X1.out.2).trans X1.out.1
            have hb3 : b1 < w3.heap.size := Nat.lt_of_lt_of_le X1.out.2 B3.size
            obtain ⟨W3, eW3⟩ : ∃ W3, W3 = w3.alloc (.cells #[.int .i64 s0, .int .i64 s1, .slice qc sl cc] 35) := ⟨_, rfl⟩
            have BW3 : Below w3.heap.size w3 W3 := by rw [eW3]; exact (Below.refl _ _).alloc (Nat.le_refl _) _
            have G3 : Hid (CS W3 w.heap.size P (m : Int) K (es.map toSd) fp2 ∧ RC W3 w.heap.size Q (m : Int) (sayK (m : Int) K x) es v ∧ W3.ownsRow wo.heap.size 3 1 (.slice qc sl cc) sl ((sayL (m : Int) K x).map (Value.int .i64)) ∧ Below w.heap.size w W3 ∧ wo.heap.size ≤ w3.heap.size ∧ W3.heap.size = w3.heap.size + 1 ∧ s0 = (if sayC (m : Int) K x = 0 then (m : Int) else 0) ∧ s1 = (if sayC (m : Int) K x = 0 then x else 0) ∧ sl = (sayL (m : Int) K x).length ∧ sc = sayC (m : Int) K x) := by
              have o3 := hS3.2.2
              rw [← esl] at o3
              exact ⟨cs_later (cs_kp R.out.1 hK3 (fun b hb => ⟨(R.out.2.2.2.1 b hb).1, by simp⟩)) BW3, hR3.later BW3, own_later0 o3 BW3, B3.trans (BW3.mono B3.size), hB3.size, by rw [eW3]; simp, hS3.1, hS3.2.1, esl, esc⟩
            have C3 : Hid (W3.cell? ⟨w3.heap.size, 0, none⟩ = some (.int .i64 s0) ∧ W3.cell? ⟨w3.heap.size, 1, none⟩ = some (.int .i64 s1) ∧ W3.cell? ⟨w3.heap.size, 2, none⟩ = some (.slice qc sl cc)) := by
              rw [eW3]
              exact ⟨by go_cell, by go_cell, by go_cell⟩
            clear hR3 hS3 hB3 hK3 B3 BW3 esl esc x0
            go_wp2_with fail
            rw [← eW3]
            refine (sayP_any w.heap.size P (m : Int) K (es.map toSd) fp2 x W3 G3.out.1 R.out.2.2.1 G3.out.2.2.2.1.size).mono ?_
            rintro e w4 ⟨t0, t1, vd, fp4, rfl, hC4, hS4, hB4, hK4, hN4, -⟩
            obtain ⟨f0, f1, o4⟩ := hS4
            rw [← G3.out.2.2.2.2.2.2.2.2.1] at o4
            rw [← G3.out.2.2.2.2.2.2.2.2.2]
            obtain ⟨qd, cd, rfl⟩ := own_form o4
            have e0 : t0 = s0 := f0.trans G3.out.2.2.2.2.2.2.1.symm
            have e1 : t1 = s1 := f1.trans G3.out.2.2.2.2.2.2.2.1.symm
            clear f0 f1
            subst e0 e1
            obtain ⟨W4, eW4⟩ : ∃ W4, W4 = w4.alloc (.cells #[.int .i64 t0, .int .i64 t1, .slice qd sl cd] 35) := ⟨_, rfl⟩
            have BW4 : Below w4.heap.size w4 W4 := by rw [eW4]; exact (Below.refl _ _).alloc (Nat.le_refl _) _
            have fpl : ∀ b ∈ fp2, b < wo.heap.size := fun b hb => (R.out.1.fp b hb).2
            have hs3 : w4.heap[w3.heap.size]? = W3.heap[w3.heap.size]? := hK4.2 _ (by have := G3.out.2.2.2.2.2.1; omega) (fun q => by have := fpl _ q; have := G3.out.2.2.2.2.1; omega)
            have hsz4 : w3.heap.size < w4.heap.size := by have := G3.out.2.2.2.2.2.1; have := hK4.1; omega
            have sep4 : ∀ b ∈ fp4, b ≠ Q ∧ v.ownBlock ≠ some b := fun b hb => by
              rcases hN4 b hb with a | a
              · exact R.out.2.2.2.1 b a
              · have h1 := G3.out.2.2.2.2.1
                have h2 := G3.out.2.2.2.2.2.1
                refine ⟨fun e => ?_, fun e => ?_⟩
                · have := World.rowIs.lt R.out.2.1.row; omega
                · have := (own_lt R.out.2.1.own b e).2; omega
            have G4 : Hid (CS W4 w.heap.size P (m : Int) (sayK (m : Int) K x) (es.map toSd) fp4 ∧ RC W4 w.heap.size Q (m : Int) (sayK (m : Int) K x) es v ∧ (∀ b ∈ fp4, b ≠ Q ∧ v.ownBlock ≠ some b) ∧ Below w.heap.size w W4 ∧ Vw W4 qc sl (sayL (m : Int) K x) ∧ Vw W4 qd sl (sayL (m : Int) K x) ∧ sl ≤ maxLen ∧ w3.heap.size < w4.heap.size ∧ w4.heap.size < W4.heap.size) := by
              have oc := own_later0 (own_kpl G3.out.2.2.1 hK4 fpl) BW4
              have od := own_later0 o4 BW4
              obtain ⟨_, _, q1, hv1⟩ := own_vw oc
              obtain ⟨_, _, q2, hv2⟩ := own_vw od
              cases q1
              cases q2
              have b4 := G3.out.2.2.2.1.trans hB4
              exact ⟨cs_later hC4 BW4, (rc_kpl G3.out.2.1 hB4 hK4 R.out.2.2.2.1).later BW4, sep4, b4.trans (BW4.mono b4.size), hv1, hv2, own_max oc, hsz4, by rw [eW4]; simp⟩
            have C4 : Hid ((W4.cell? ⟨w3.heap.size, 0, none⟩ = some (.int .i64 t0) ∧ W4.cell? ⟨w3.heap.size, 1, none⟩ = some (.int .i64 t1) ∧ W4.cell? ⟨w3.heap.size, 2, none⟩ = some (.slice qc sl cc)) ∧ (W4.cell? ⟨w4.heap.size, 0, none⟩ = some (.int .i64 t0) ∧ W4.cell? ⟨w4.heap.size, 1, none⟩ = some (.int .i64 t1) ∧ W4.cell? ⟨w4.heap.size, 2, none⟩ = some (.slice qd sl cd))) := by
              refine ⟨⟨?_, ?_, ?_⟩, ?_⟩
              · exact ((BW4.cell (p := ⟨w3.heap.size, 0, none⟩) hsz4).trans (World.cell?_of_block (a := ⟨w3.heap.size, 0, none⟩) hs3)).trans C3.out.1
              · exact ((BW4.cell (p := ⟨w3.heap.size, 1, none⟩) hsz4).trans (World.cell?_of_block (a := ⟨w3.heap.size, 1, none⟩) hs3)).trans C3.out.2.1
              · exact ((BW4.cell (p := ⟨w3.heap.size, 2, none⟩) hsz4).trans (World.cell?_of_block (a := ⟨w3.heap.size, 2, none⟩) hs3)).trans C3.out.2.2
              · rw [eW4]
                exact ⟨by go_cell, by go_cell, by go_cell⟩
            clear hC4 o4 hB4 hK4 hN4 BW4 fpl hs3 sep4 hsz4 eW3 C3 x3 hb3
            go_wp2_with fail
            rw [← eW4]
            clear eW4
            refine (errF_same sc W4 (HL.out.1.later G4.out.2.2.2.1)).mono ?_
            rintro e w5 ⟨rfl, hb5⟩
            have D5 : Hid (Below W4.heap.size W4 w5 ∧ w3.heap.size < W4.heap.size ∧ w4.heap.size < W4.heap.size) := ⟨hb5, by have := G4.out.2.2.2.2.2.2.2; omega, G4.out.2.2.2.2.2.2.2.2⟩
            have k0 := (hb5.cell (p := ⟨w3.heap.size, 0, none⟩) D5.out.2.1).trans C4.out.1.1
            have k1 := (hb5.cell (p := ⟨w3.heap.size, 1, none⟩) D5.out.2.1).trans C4.out.1.2.1
            have k2 := (hb5.cell (p := ⟨w3.heap.size, 2, none⟩) D5.out.2.1).trans C4.out.1.2.2
            have j0 := (hb5.cell (p := ⟨w4.heap.size, 0, none⟩) D5.out.2.2).trans C4.out.2.1
            have j1 := (hb5.cell (p := ⟨w4.heap.size, 1, none⟩) D5.out.2.2).trans C4.out.2.2.1
            have j2 := (hb5.cell (p := ⟨w4.heap.size, 2, none⟩) D5.out.2.2).trans C4.out.2.2.2
            clear hb5
            go_wp2_with fail
            refine (said_same t0 t1 qd qc sl cd cc (sayL (m : Int) K x) w5 (G4.out.2.2.2.2.2.1.later D5.out.1) (G4.out.2.2.2.2.1.later D5.out.1) G4.out.2.2.2.2.2.2.1).mono ?_
            rintro e w5b ⟨rfl, hb5⟩
            have RT : Hid (CS w5b w.heap.size P (m : Int) (sayK (m : Int) K x) (es.map toSd) fp4 ∧ RC w5b w.heap.size Q (m : Int) (sayK (m : Int) K x) es v ∧ CInv (m : Int) (sayK (m : Int) K x) (es.map toSd) ∧ (∀ b ∈ fp4, b ≠ Q ∧ v.ownBlock ≠ some b) ∧ Below w.heap.size w w5b) := by
              have D : Below W4.heap.size W4 w5b := D5.out.1.trans (hb5.mono D5.out.1.size)
              exact ⟨cs_later G4.out.1 D, G4.out.2.1.later D, R.out.2.2.1.sayK x, G4.out.2.2.1, G4.out.2.2.2.1.trans (D.mono G4.out.2.2.2.1.size)⟩
            clear hb5 k0 k1 k2 j0 j1 j2 C4 D5 G3
            have y0 := (RT.out.2.2.2.2.cell (p := ⟨b, off + i * 3, none⟩) YS.out.2.2.2.1).trans YS.out.1
            have y1 := (RT.out.2.2.2.2.cell (p := ⟨b, off + i * 3 + 1, none⟩) YS.out.2.2.2.1).trans YS.out.2.1
            have y2 := (RT.out.2.2.2.2.cell (p := ⟨b, off + i * 3 + 2, none⟩) YS.out.2.2.2.1).trans YS.out.2.2.1
            go_wp2_with fail
            refine (refTakeC w.heap.size Q (m : Int) (sayK (m : Int) K x) es v sw sx qi lc ci clk w5b RT.out.2.1 RT.out.2.2.1 RT.out.2.2.2.2.size (YS.out.2.2.2.2.later RT.out.2.2.2.2) (vw_old YS.out.2.2.2.2 RT.out.2.2.2.2)).mono ?_
            rintro e w6 ⟨vo, v6, es6, rfl, hR6, hE6, hO6, hB6, hK6, hV6⟩
            obtain ⟨qo, co, rfl⟩ := own_form hO6
            have sep6 : ∀ b ∈ fp4, b ≠ Q ∧ v6.ownBlock ≠ some b := fun b hb => ⟨(RT.out.2.2.2.1 b hb).1, fun e => by
              rcases hV6 b e with a | a
              · exact (RT.out.2.2.2.1 b hb).2 a
              · have := (RT.out.1.fp b hb).2; omega⟩
            obtain ⟨lo, elo⟩ : ∃ lo, lo = (ctk (m : Int) (sayK (m : Int) K x) (es.map toSd) (sw, sx, clk)).1.length := ⟨_, rfl⟩
            rw [← elo] at hO6
            obtain ⟨ec, eec⟩ : ∃ ec, ec = ckC (m : Int) (sayK (m : Int) K x) (es.map toSd) (sw, sx, clk) := ⟨_, rfl⟩
            rw [← eec, ← elo]
            have BB6 : Below w.heap.size w w6 := RT.out.2.2.2.2.trans hB6
            have y0 := (BB6.cell (p := ⟨b, off + i * 3, none⟩) YS.out.2.2.2.1).trans YS.out.1
            have y1 := (BB6.cell (p := ⟨b, off + i * 3 + 1, none⟩) YS.out.2.2.2.1).trans YS.out.2.1
            have y2 := (BB6.cell (p := ⟨b, off + i * 3 + 2, none⟩) YS.out.2.2.2.1).trans YS.out.2.2.1
            have G6 : Hid (CS w6 w.heap.size P (m : Int) (sayK (m : Int) K x) (es.map toSd) fp4 ∧ RC w6 w.heap.size Q (m : Int) (ctk (m : Int) (sayK (m : Int) K x) (es.map toSd) (sw, sx, clk)).2.1 es6 v6 ∧ es6.map toSd = (ctk (m : Int) (sayK (m : Int) K x) (es.map toSd) (sw, sx, clk)).2.2 ∧ w6.ownsRow w5b.heap.size 3 1 (.slice qo lo co) lo ((ctk (m : Int) (sayK (m : Int) K x) (es.map toSd) (sw, sx, clk)).1.map (Value.int .i64)) ∧ (∀ b ∈ fp4, b ≠ Q ∧ v6.ownBlock ≠ some b) ∧ Below w.heap.size w w6 ∧ lo = (ctk (m : Int) (sayK (m : Int) K x) (es.map toSd) (sw, sx, clk)).1.length ∧ ec = ckC (m : Int) (sayK (m : Int) K x) (es.map toSd) (sw, sx, clk) ∧ w5b.heap.size ≤ w6.heap.size) := ⟨cs_kp RT.out.1 hK6 RT.out.2.2.2.1, hR6, hE6, hO6, sep6, BB6, elo, eec, hB6.size⟩
            clear hR6 hE6 hO6 hB6 hK6 hV6 sep6 elo eec BB6
            go_wp2_with fail
            refine (takeP_any w.heap.size P (m : Int) (sayK (m : Int) K x) (es.map toSd) fp4 sw sx qi lc ci clk w6 G6.out.1 RT.out.2.2.1 G6.out.2.2.2.2.2.1.size (YS.out.2.2.2.2.later G6.out.2.2.2.2.2.1)).mono ?_
            rintro e w7 ⟨vl, fp7, rfl, hC7, hO7, hB7, hK7, hN7, -⟩
            rw [← G6.out.2.2.2.2.2.2.2.1]
            rw [← G6.out.2.2.2.2.2.2.1] at hO7
            obtain ⟨ql, cl, rfl⟩ := own_form hO7
            have r7 := rc_kpl G6.out.2.1 hB7 hK7 G6.out.2.2.2.2.1
            have o7 := own_kpl G6.out.2.2.2.1 hK7 (fun b hb => (RT.out.1.fp b hb).2)
            obtain ⟨H', eH'⟩ : ∃ H', H' = (ctk (m : Int) (sayK (m : Int) K x) (es.map toSd) (sw, sx, clk)).2.1 := ⟨_, rfl⟩
            have i7 : CInv (m : Int) H' (es6.map toSd) := by rw [eH', G6.out.2.2.1]; exact RT.out.2.2.1.take _
            rw [← G6.out.2.2.1, ← eH'] at hC7
            rw [← eH'] at r7
            have sep7 : ∀ b ∈ fp7, b ≠ Q ∧ v6.ownBlock ≠ some b := fun b hb => by
              rcases hN7 b hb with a | a
              · exact G6.out.2.2.2.2.1 b a
              · refine ⟨fun e => ?_, fun e => ?_⟩
                · have := World.rowIs.lt G6.out.2.1.row; omega
                · have := (own_lt G6.out.2.1.own b e).2; omega
            have G7 : Hid (CS w7 w.heap.size P (m : Int) H' (es6.map toSd) fp7 ∧ RC w7 w.heap.size Q (m : Int) H' es6 v6 ∧ CInv (m : Int) H' (es6.map toSd) ∧ (∀ b ∈ fp7, b ≠ Q ∧ v6.ownBlock ≠ some b) ∧ Below w.heap.size w w7 ∧ Vw w7 qo lo (ctk (m : Int) (sayK (m : Int) K x) (es.map toSd) (sw, sx, clk)).1 ∧ Vw w7 ql lo (ctk (m : Int) (sayK (m : Int) K x) (es.map toSd) (sw, sx, clk)).1 ∧ lo ≤ maxLen) := by
              obtain ⟨_, _, e1, hv1⟩ := own_vw o7
              obtain ⟨_, _, e2, hv2⟩ := own_vw hO7
              cases e1
              cases e2
              exact ⟨hC7, r7, i7, sep7, G6.out.2.2.2.2.2.1.trans hB7, hv1, hv2, own_max o7⟩
            clear hC7 hO7 hB7 hK7 hN7 r7 o7 i7 sep7 G6 eH' y0 y1 y2
            go_wp2_with fail
            refine (errF_same ec w7 (HL.out.1.later G7.out.2.2.2.2.1)).mono ?_
            rintro e w8 ⟨rfl, hb8⟩
            have G8 : Hid (CS w8 w.heap.size P (m : Int) H' (es6.map toSd) fp7 ∧ RC w8 w.heap.size Q (m : Int) H' es6 v6 ∧ CInv (m : Int) H' (es6.map toSd) ∧ (∀ b ∈ fp7, b ≠ Q ∧ v6.ownBlock ≠ some b) ∧ Below w.heap.size w w8 ∧ Vw w8 qo lo (ctk (m : Int) (sayK (m : Int) K x) (es.map toSd) (sw, sx, clk)).1 ∧ Vw w8 ql lo (ctk (m : Int) (sayK (m : Int) K x) (es.map toSd) (sw, sx, clk)).1 ∧ lo ≤ maxLen) := ⟨cs_later G7.out.1 hb8, G7.out.2.1.later hb8, G7.out.2.2.1, G7.out.2.2.2.1, G7.out.2.2.2.2.1.trans (hb8.mono G7.out.2.2.2.2.1.size), G7.out.2.2.2.2.2.1.later hb8, G7.out.2.2.2.2.2.2.1.later hb8, G7.out.2.2.2.2.2.2.2⟩
            clear hb8 G7
            go_wp2_with fail
            refine (ints_same ql qo lo cl lo co _ w8 G8.out.2.2.2.2.2.2.1 G8.out.2.2.2.2.2.1 G8.out.2.2.2.2.2.2.2).mono ?_
            rintro e w9 ⟨rfl, n9, e9⟩
            have G9 : Hid (CS w9 w.heap.size P (m : Int) H' (es6.map toSd) fp7 ∧ RC w9 w.heap.size Q (m : Int) H' es6 v6 ∧ CInv (m : Int) H' (es6.map toSd) ∧ (∀ b ∈ fp7, b ≠ Q ∧ v6.ownBlock ≠ some b) ∧ Below w.heap.size w w9) := by
              rw [e9]
              exact ⟨G8.out.1.of_blocks (Nat.le_refl _) (fun _ _ => rfl), G8.out.2.1.later (below_drews (Below.refl _ _) _), G8.out.2.2.1, G8.out.2.2.2.1, below_drews G8.out.2.2.2.2.1 _⟩
            clear e9 G8
            obtain ⟨qv, cv, rfl, -⟩ := G9.out.2.1.form
            have c6 := G9.out.2.1.wait.1
            have PQ : Hid (Q < w9.heap.size) := World.rowIs.lt G9.out.2.1.row
            have hne : ((es6.length : Int) != (es6.length : Int)) = false := by simp
            go_wp2_with fail
            go_region_held3 (fun w' => w'.cell? ⟨Q, 6, none⟩ = some (.slice qv es6.length cv)) (first | exact cB | exact cA | exact c6 | go_keep) (first
              | (go_at_call 12; refine (clockP_any w.heap.size P (m : Int) H' (es6.map toSd) fp7 _ (by first | exact cs_later G9.out.1 DL.out | exact G9.out.1.of_blocks (Nat.le_refl _) (fun _ _ => rfl))).mono ?_; rintro e wc ⟨vx, rfl, hOc, hBc⟩; obtain ⟨qx, cx, rfl, hvc⟩ := own_vw hOc; have DC : Hid (Below w9.heap.size w9 wc) := (by first | exact below_from hBc rfl rfl rfl rfl | exact DL.out.trans ((below_from hBc rfl rfl rfl rfl).mono DL.out.size)); have cA : wc.cell? ⟨Q, 6, none⟩ = some (.slice qv es6.length cv) := ((DC.out.cell (p := ⟨Q, 6, none⟩) PQ.out).trans c6); have VC : Hid (Vw wc qx 5 H') := hvc; clear hOc hvc)
              | (go_at_call 13; refine (list_any Q H' _ G9.out.2.1.five (by first | exact PQ.out | exact Nat.lt_of_lt_of_le PQ.out DC.out.size) (by first | exact k5_heap G9.out.2.1.k5 rfl | exact k5_heap (G9.out.2.1.later DC.out).k5 rfl)).mono ?_; rintro e wl ⟨vy, rfl, hOl, hBl⟩; obtain ⟨qy, cy, rfl, hvl⟩ := own_vw hOl; have DL : Hid (Below w9.heap.size w9 wl) := (by first | exact below_from hBl rfl rfl rfl rfl | exact DC.out.trans ((below_from hBl rfl rfl rfl rfl).mono DC.out.size)); have cB : wl.cell? ⟨Q, 6, none⟩ = some (.slice qv es6.length cv) := ((DL.out.cell (p := ⟨Q, 6, none⟩) PQ.out).trans c6); have VL : Hid (Vw wl qy 5 H') := hvl; clear hOl hvl)
              | (go_at_call 11; refine (ints_same qx qy 5 cx 5 cy H' _ (by first | exact vw_heap VC.out rfl | exact vw_heap (VC.out.later (below_from hBl rfl rfl rfl rfl)) rfl) (by first | exact vw_heap VL.out rfl | exact vw_heap (VL.out.later (below_from hBc rfl rfl rfl rfl)) rfl) (by unfold maxLen; omega)).mono ?_; rintro e w10 ⟨rfl, n10, rfl⟩)
              | (go_at_call 14; refine (waitsP_any w.heap.size P (m : Int) H' (es6.map toSd) fp7 _ (by first | exact (cs_later G9.out.1 DL.out).of_blocks (Nat.le_refl _) (fun _ _ => rfl) | exact (cs_later G9.out.1 DC.out).of_blocks (Nat.le_refl _) (fun _ _ => rfl))).mono ?_; rintro e w11 ⟨rfl, n11, rfl⟩; rw [List.length_map]))
            all_goals
              go_wp2
              go_roundw
              case rel => exact ⟨i + 1, by omega, by go_num, by first | exact pl_end G9.out DL.out rfl rfl rfl rfl | exact pl_end G9.out DC.out rfl rfl rfl rfl⟩
              case measure => simp [intOf]; omega
        · have ds : decide ((i : Int) < (n1 : Int)) = false := by simp; omega
          have RT : Hid (CS wo w.heap.size P (m : Int) K (es.map toSd) fp2 ∧ RC wo w.heap.size Q (m : Int) K es v ∧ CInv (m : Int) K (es.map toSd) ∧ (∀ b ∈ fp2, b ≠ Q ∧ v.ownBlock ≠ some b) ∧ Below w.heap.size w wo) := R
          have y0 := (RT.out.2.2.2.2.cell (p := ⟨b, off + i * 3, none⟩) YS.out.2.2.2.1).trans YS.out.1
          have y1 := (RT.out.2.2.2.2.cell (p := ⟨b, off + i * 3 + 1, none⟩) YS.out.2.2.2.1).trans YS.out.2.1
          have y2 := (RT.out.2.2.2.2.cell (p := ⟨b, off + i * 3 + 2, none⟩) YS.out.2.2.2.1).trans YS.out.2.2.1
          go_wp2_with fail
          refine (refTakeC w.heap.size Q (m : Int) K es v sw sx qi lc ci clk wo RT.out.2.1 RT.out.2.2.1 RT.out.2.2.2.2.size (YS.out.2.2.2.2.later RT.out.2.2.2.2) (vw_old YS.out.2.2.2.2 RT.out.2.2.2.2)).mono ?_
          rintro e w6 ⟨vo, v6, es6, rfl, hR6, hE6, hO6, hB6, hK6, hV6⟩
          obtain ⟨qo, co, rfl⟩ := own_form hO6
          have sep6 : ∀ b ∈ fp2, b ≠ Q ∧ v6.ownBlock ≠ some b := fun b hb => ⟨(RT.out.2.2.2.1 b hb).1, fun e => by
            rcases hV6 b e with a | a
            · exact (RT.out.2.2.2.1 b hb).2 a
            · have := (RT.out.1.fp b hb).2; omega⟩
          obtain ⟨lo, elo⟩ : ∃ lo, lo = (ctk (m : Int) K (es.map toSd) (sw, sx, clk)).1.length := ⟨_, rfl⟩
          rw [← elo] at hO6
          obtain ⟨ec, eec⟩ : ∃ ec, ec = ckC (m : Int) K (es.map toSd) (sw, sx, clk) := ⟨_, rfl⟩
          rw [← eec, ← elo]
          have BB6 : Below w.heap.size w w6 := RT.out.2.2.2.2.trans hB6
          have y0 := (BB6.cell (p := ⟨b, off + i * 3, none⟩) YS.out.2.2.2.1).trans YS.out.1
          have y1 := (BB6.cell (p := ⟨b, off + i * 3 + 1, none⟩) YS.out.2.2.2.1).trans YS.out.2.1
          have y2 := (BB6.cell (p := ⟨b, off + i * 3 + 2, none⟩) YS.out.2.2.2.1).trans YS.out.2.2.1
          have G6 : Hid (CS w6 w.heap.size P (m : Int) K (es.map toSd) fp2 ∧ RC w6 w.heap.size Q (m : Int) (ctk (m : Int) K (es.map toSd) (sw, sx, clk)).2.1 es6 v6 ∧ es6.map toSd = (ctk (m : Int) K (es.map toSd) (sw, sx, clk)).2.2 ∧ w6.ownsRow wo.heap.size 3 1 (.slice qo lo co) lo ((ctk (m : Int) K (es.map toSd) (sw, sx, clk)).1.map (Value.int .i64)) ∧ (∀ b ∈ fp2, b ≠ Q ∧ v6.ownBlock ≠ some b) ∧ Below w.heap.size w w6 ∧ lo = (ctk (m : Int) K (es.map toSd) (sw, sx, clk)).1.length ∧ ec = ckC (m : Int) K (es.map toSd) (sw, sx, clk) ∧ wo.heap.size ≤ w6.heap.size) := ⟨cs_kp RT.out.1 hK6 RT.out.2.2.2.1, hR6, hE6, hO6, sep6, BB6, elo, eec, hB6.size⟩
          clear hR6 hE6 hO6 hB6 hK6 hV6 sep6 elo eec BB6
          go_wp2_with fail
          refine (takeP_any w.heap.size P (m : Int) K (es.map toSd) fp2 sw sx qi lc ci clk w6 G6.out.1 RT.out.2.2.1 G6.out.2.2.2.2.2.1.size (YS.out.2.2.2.2.later G6.out.2.2.2.2.2.1)).mono ?_
          rintro e w7 ⟨vl, fp7, rfl, hC7, hO7, hB7, hK7, hN7, -⟩
          rw [← G6.out.2.2.2.2.2.2.2.1]
          rw [← G6.out.2.2.2.2.2.2.1] at hO7
          obtain ⟨ql, cl, rfl⟩ := own_form hO7
          have r7 := rc_kpl G6.out.2.1 hB7 hK7 G6.out.2.2.2.2.1
          have o7 := own_kpl G6.out.2.2.2.1 hK7 (fun b hb => (RT.out.1.fp b hb).2)
          obtain ⟨H', eH'⟩ : ∃ H', H' = (ctk (m : Int) K (es.map toSd) (sw, sx, clk)).2.1 := ⟨_, rfl⟩
          have i7 : CInv (m : Int) H' (es6.map toSd) := by rw [eH', G6.out.2.2.1]; exact RT.out.2.2.1.take _
          rw [← G6.out.2.2.1, ← eH'] at hC7
          rw [← eH'] at r7
          have sep7 : ∀ b ∈ fp7, b ≠ Q ∧ v6.ownBlock ≠ some b := fun b hb => by
            rcases hN7 b hb with a | a
            · exact G6.out.2.2.2.2.1 b a
            · refine ⟨fun e => ?_, fun e => ?_⟩
              · have := World.rowIs.lt G6.out.2.1.row; omega
              · have := (own_lt G6.out.2.1.own b e).2; omega
          have G7 : Hid (CS w7 w.heap.size P (m : Int) H' (es6.map toSd) fp7 ∧ RC w7 w.heap.size Q (m : Int) H' es6 v6 ∧ CInv (m : Int) H' (es6.map toSd) ∧ (∀ b ∈ fp7, b ≠ Q ∧ v6.ownBlock ≠ some b) ∧ Below w.heap.size w w7 ∧ Vw w7 qo lo (ctk (m : Int) K (es.map toSd) (sw, sx, clk)).1 ∧ Vw w7 ql lo (ctk (m : Int) K (es.map toSd) (sw, sx, clk)).1 ∧ lo ≤ maxLen) := by
            obtain ⟨_, _, e1, hv1⟩ := own_vw o7
            obtain ⟨_, _, e2, hv2⟩ := own_vw hO7
            cases e1
            cases e2
            exact ⟨hC7, r7, i7, sep7, G6.out.2.2.2.2.2.1.trans hB7, hv1, hv2, own_max o7⟩
          clear hC7 hO7 hB7 hK7 hN7 r7 o7 i7 sep7 G6 eH' y0 y1 y2
          go_wp2_with fail
          refine (errF_same ec w7 (HL.out.1.later G7.out.2.2.2.2.1)).mono ?_
          rintro e w8 ⟨rfl, hb8⟩
          have G8 : Hid (CS w8 w.heap.size P (m : Int) H' (es6.map toSd) fp7 ∧ RC w8 w.heap.size Q (m : Int) H' es6 v6 ∧ CInv (m : Int) H' (es6.map toSd) ∧ (∀ b ∈ fp7, b ≠ Q ∧ v6.ownBlock ≠ some b) ∧ Below w.heap.size w w8 ∧ Vw w8 qo lo (ctk (m : Int) K (es.map toSd) (sw, sx, clk)).1 ∧ Vw w8 ql lo (ctk (m : Int) K (es.map toSd) (sw, sx, clk)).1 ∧ lo ≤ maxLen) := ⟨cs_later G7.out.1 hb8, G7.out.2.1.later hb8, G7.out.2.2.1, G7.out.2.2.2.1, G7.out.2.2.2.2.1.trans (hb8.mono G7.out.2.2.2.2.1.size), G7.out.2.2.2.2.2.1.later hb8, G7.out.2.2.2.2.2.2.1.later hb8, G7.out.2.2.2.2.2.2.2⟩
          clear hb8 G7
          go_wp2_with fail
          refine (ints_same ql qo lo cl lo co _ w8 G8.out.2.2.2.2.2.2.1 G8.out.2.2.2.2.2.1 G8.out.2.2.2.2.2.2.2).mono ?_
          rintro e w9 ⟨rfl, n9, e9⟩
          have G9 : Hid (CS w9 w.heap.size P (m : Int) H' (es6.map toSd) fp7 ∧ RC w9 w.heap.size Q (m : Int) H' es6 v6 ∧ CInv (m : Int) H' (es6.map toSd) ∧ (∀ b ∈ fp7, b ≠ Q ∧ v6.ownBlock ≠ some b) ∧ Below w.heap.size w w9) := by
            rw [e9]
            exact ⟨G8.out.1.of_blocks (Nat.le_refl _) (fun _ _ => rfl), G8.out.2.1.later (below_drews (Below.refl _ _) _), G8.out.2.2.1, G8.out.2.2.2.1, below_drews G8.out.2.2.2.2.1 _⟩
          clear e9 G8
          obtain ⟨qv, cv, rfl, -⟩ := G9.out.2.1.form
          have c6 := G9.out.2.1.wait.1
          have PQ : Hid (Q < w9.heap.size) := World.rowIs.lt G9.out.2.1.row
          have hne : ((es6.length : Int) != (es6.length : Int)) = false := by simp
          go_wp2_with fail
          go_region_held3 (fun w' => w'.cell? ⟨Q, 6, none⟩ = some (.slice qv es6.length cv)) (first | exact cB | exact cA | exact c6 | go_keep) (first
            | (go_at_call 12; refine (clockP_any w.heap.size P (m : Int) H' (es6.map toSd) fp7 _ (by first | exact cs_later G9.out.1 DL.out | exact G9.out.1.of_blocks (Nat.le_refl _) (fun _ _ => rfl))).mono ?_; rintro e wc ⟨vx, rfl, hOc, hBc⟩; obtain ⟨qx, cx, rfl, hvc⟩ := own_vw hOc; have DC : Hid (Below w9.heap.size w9 wc) := (by first | exact below_from hBc rfl rfl rfl rfl | exact DL.out.trans ((below_from hBc rfl rfl rfl rfl).mono DL.out.size)); have cA : wc.cell? ⟨Q, 6, none⟩ = some (.slice qv es6.length cv) := ((DC.out.cell (p := ⟨Q, 6, none⟩) PQ.out).trans c6); have VC : Hid (Vw wc qx 5 H') := hvc; clear hOc hvc)
            | (go_at_call 13; refine (list_any Q H' _ G9.out.2.1.five (by first | exact PQ.out | exact Nat.lt_of_lt_of_le PQ.out DC.out.size) (by first | exact k5_heap G9.out.2.1.k5 rfl | exact k5_heap (G9.out.2.1.later DC.out).k5 rfl)).mono ?_; rintro e wl ⟨vy, rfl, hOl, hBl⟩; obtain ⟨qy, cy, rfl, hvl⟩ := own_vw hOl; have DL : Hid (Below w9.heap.size w9 wl) := (by first | exact below_from hBl rfl rfl rfl rfl | exact DC.out.trans ((below_from hBl rfl rfl rfl rfl).mono DC.out.size)); have cB : wl.cell? ⟨Q, 6, none⟩ = some (.slice qv es6.length cv) := ((DL.out.cell (p := ⟨Q, 6, none⟩) PQ.out).trans c6); have VL : Hid (Vw wl qy 5 H') := hvl; clear hOl hvl)
            | (go_at_call 11; refine (ints_same qx qy 5 cx 5 cy H' _ (by first | exact vw_heap VC.out rfl | exact vw_heap (VC.out.later (below_from hBl rfl rfl rfl rfl)) rfl) (by first | exact vw_heap VL.out rfl | exact vw_heap (VL.out.later (below_from hBc rfl rfl rfl rfl)) rfl) (by unfold maxLen; omega)).mono ?_; rintro e w10 ⟨rfl, n10, rfl⟩)
            | (go_at_call 14; refine (waitsP_any w.heap.size P (m : Int) H' (es6.map toSd) fp7 _ (by first | exact (cs_later G9.out.1 DL.out).of_blocks (Nat.le_refl _) (fun _ _ => rfl) | exact (cs_later G9.out.1 DC.out).of_blocks (Nat.le_refl _) (fun _ _ => rfl))).mono ?_; rintro e w11 ⟨rfl, n11, rfl⟩; rw [List.length_map]))
          all_goals
            go_wp2
            go_roundw
            case rel => exact ⟨i + 1, by omega, by go_num, by first | exact pl_end G9.out DL.out rfl rfl rfl rfl | exact pl_end G9.out DC.out rfl rfl rfl rfl⟩
            case measure => simp [intOf]; omega
      · have d80 : decide ((i : Int) < 80) = false := by simp; omega
        go_wp2
        go_ret
        obtain ⟨K, es, v, fp2, q1, q2, q3, q4, q5⟩ := hR.out
        exact ⟨rfl, q5⟩
    · have dl : decide ((i : Int) < (n2 : Int)) = false := by simp; omega
      go_wp2
      go_ret
      obtain ⟨K, es, v, fp2, q1, q2, q3, q4, q5⟩ := hR.out
      exact ⟨rfl, q5⟩
theorem cplays_walk (me : Int) (a1 : Option Addr) (n1 c1 : Nat) (xs : List Int) (a2 : Option Addr) (n2 c2 : Nat) (ss : List Sd) (w : World) (hL : Laid w) (hv1 : Vw w a1 n1 xs) (hm1 : n1 ≤ maxLen) (hv2 : Sw w a2 n2 ss) :
    Calls Tryd.prog 3 #[.int .i64 me, .slice a1 n1 c1, .slice a2 n2 c2] w fun e w' => e = .returned (.bool true) ∧ Below w.heap.size w w' := by
  by_cases h : 0 ≤ me ∧ me ≤ 4
  · obtain ⟨m, rfl⟩ : ∃ m : Nat, me = (m : Int) := ⟨me.toNat, by omega⟩
    exact cplays_yes m a1 n1 c1 xs a2 n2 c2 ss w hL (by omega) hv1 hm1 hv2
  · exact cplays_no me a1 n1 c1 a2 n2 c2 w hL (by omega)
end Go.Proofs.YtndjejbnappmeadDoor.Cau
