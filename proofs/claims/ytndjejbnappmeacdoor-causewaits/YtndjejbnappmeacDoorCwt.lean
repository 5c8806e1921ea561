/-
  The walk of CauseWaits: of a question, and an answer of who heard it, who gets the answer first hears it behind the question.
-/
import Derived.Test.YtndjejbnappmeacDoorCwtM
import Derived.Test.YtndjejbnappmeacDoorVecB
import Derived.Handy
namespace Go.Proofs.YtndjejbnappmeacDoor.Cau
open Go.RowKit
open Go.Proofs.YtndjejbnappmeacDoor.Vec (Vw code gt leq_ok)
open Go.Proofs.YtndjejbnappmeacDoor.As (Laid)
open Go.Proofs.YtndjejbnappmeacDoor.Fif (own_lt own_block own_form own_vw ret_bool)
set_option linter.unusedVariables false

theorem new_anyW (me : Int) (w : World) : Calls Tryd.prog 13 #[.int .i64 me] w fun x w' => ∃ v e, x = .returned (.tuple #[v, e]) ∧ (0 ≤ me ∧ me ≤ 4 → e = .nilIface) ∧ (¬ (0 ≤ me ∧ me ≤ 4) → e = .iface 63 (.int .i64 1)) ∧ Below w.heap.size w w' := by
  by_cases h : 0 ≤ me ∧ me ≤ 4
  · refine (newC_ok me w h).mono ?_
    rintro x w' ⟨P, fp, rfl, _, hb⟩
    exact ⟨_, _, rfl, fun _ => rfl, fun q => absurd h q, hb⟩
  · refine (newC_no me w (by omega)).mono ?_
    rintro x w' ⟨v, rfl, hb⟩
    exact ⟨_, _, rfl, fun q => absurd q h, fun _ => errF_no (by decide), hb⟩
/-- a list of numbers, its block kept -/
theorem vw_block {w w' : World} {g : Nat} {n : Nat} {xs : List Int} (h : Vw w (some ⟨g, 0, none⟩) n xs) (hb : w'.heap[g]? = w.heap[g]?) (hl : g < w'.heap.size) : Vw w' (some ⟨g, 0, none⟩) n xs :=
  ⟨h.1, fun hn => by
    obtain ⟨b, off, e, _, hc⟩ := h.2 hn
    cases e
    exact ⟨g, 0, rfl, hl, fun k hk => (World.cell?_of_block (a := ⟨g, 0 + k, none⟩) hb).trans (hc k hk)⟩⟩
theorem own_pos {w : World} {base : Nat} {t : TypeId} {v : Value} {n : Nat} {xs : List Int} (hn : 0 < n) (o : w.ownsRow base t 1 v n (xs.map (Value.int .i64))) : ∃ g c, v = .slice (some ⟨g, 0, none⟩) n c ∧ base ≤ g ∧ g < w.heap.size ∧ Vw w (some ⟨g, 0, none⟩) n xs := by
  obtain ⟨q, c, rfl, hv⟩ := own_vw o
  rcases o.2 with ⟨h2, h3⟩ | ⟨g, cap, cur, e, hb, hh, _⟩
  · omega
  · cases e
    refine ⟨g, c, rfl, hb, ?_, hv⟩
    rcases Nat.lt_or_ge g w.heap.size with hlt | hge
    · exact hlt
    · rw [Array.getElem?_eq_none hge] at hh; cases hh
/-- a word that was said, as it lies -/
def C3s (w : World) (S : Nat) (p q : Int) (g c : Nat) : Prop := w.cell? ⟨S, 0, none⟩ = some (.int .i64 p) ∧ w.cell? ⟨S, 1, none⟩ = some (.int .i64 q) ∧ w.cell? ⟨S, 2, none⟩ = some (.slice (some ⟨g, 0, none⟩) 5 c)
theorem C3s.keep {w w' : World} {S : Nat} {p q : Int} {g c : Nat} (h : C3s w S p q g c) (e : w'.heap[S]? = w.heap[S]?) : C3s w' S p q g c :=
  ⟨(World.cell?_of_block (a := ⟨S, 0, none⟩) e).trans h.1, (World.cell?_of_block (a := ⟨S, 1, none⟩) e).trans h.2.1, (World.cell?_of_block (a := ⟨S, 2, none⟩) e).trans h.2.2⟩
theorem kab_gt {a b : Nat} (ha : a < 5) (hb : b < 5) (hab : a ≠ b) : gt (Ka a 1) (Kb a b) = false := Vec.anyP_false fun j hj => by
  show decide ((Kb a b).getD j 0 < (Ka a 1).getD j 0) = false
  rw [Kb_get ha hb, Ka_get ha]
  simp only [decide_eq_false_iff_not]
  split
  · split <;> omega
  · split <;> omega
theorem own_five {w : World} {base : Nat} {t : TypeId} {v : Value} {xs : List Int} (o : w.ownsRow base t 1 v 5 (xs.map (Value.int .i64))) : ∃ g c, v = .slice (some ⟨g, 0, none⟩) 5 c ∧ base ≤ g ∧ g < w.heap.size ∧ Vw w (some ⟨g, 0, none⟩) 5 xs := by
  obtain ⟨q, c, rfl, hv⟩ := own_vw o
  rcases o.2 with ⟨h2, _⟩ | ⟨g, cap, cur, e, hb, hh, _⟩
  · cases h2
  · cases e
    refine ⟨g, c, rfl, hb, ?_, hv⟩
    rcases Nat.lt_or_ge g w.heap.size with hlt | hge
    · exact hlt
    · rw [Array.getElem?_eq_none hge] at hh; cases hh

set_option maxRecDepth 100000 in
set_option maxHeartbeats 1000000 in
theorem cwaits_no (a b c x y : Int) (w : World) (hL : Laid w) (h : ¬ ((0 ≤ a ∧ a ≤ 4) ∧ (0 ≤ b ∧ b ≤ 4) ∧ (0 ≤ c ∧ c ≤ 4) ∧ a ≠ b ∧ b ≠ c ∧ a ≠ c)) :
    Calls Tryd.prog 5 #[.int .i64 a, .int .i64 b, .int .i64 c, .int .i64 x, .int .i64 y] w fun e w' => e = .returned (.bool true) ∧ Below w.heap.size w w' := by
  have HH : Hid (Laid w ∧ ¬ ((0 ≤ a ∧ a ≤ 4) ∧ (0 ≤ b ∧ b ≤ 4) ∧ (0 ≤ c ∧ c ≤ 4) ∧ a ≠ b ∧ b ≠ c ∧ a ≠ c)) := ⟨hL, h⟩
  clear h hL
  go_enter Tryd.func5, Tryd.ntmps5
  go_wp2_with fail
  refine (new_anyW a w).mono ?_
  rintro e w1 ⟨v1, e1, rfl, ha1, ha2, hb⟩
  have B1 : Hid (Below w.heap.size w w1) := hb
  have HA : Hid ((0 ≤ a ∧ a ≤ 4 → e1 = .nilIface) ∧ (¬ (0 ≤ a ∧ a ≤ 4) → e1 = .iface 63 (.int .i64 1))) := ⟨ha1, ha2⟩
  clear hb ha1 ha2
  go_wp2_with fail
  refine (new_anyW b w1).mono ?_
  rintro e w2 ⟨v2, e2, rfl, ha1, ha2, hb⟩
  have B2 : Hid (Below w.heap.size w w2) := B1.out.trans (hb.mono B1.out.size)
  have HB : Hid ((0 ≤ b ∧ b ≤ 4 → e2 = .nilIface) ∧ (¬ (0 ≤ b ∧ b ≤ 4) → e2 = .iface 63 (.int .i64 1))) := ⟨ha1, ha2⟩
  clear hb ha1 ha2
  go_wp2_with fail
  refine (new_anyW c w2).mono ?_
  rintro e w3 ⟨v3, e3, rfl, ha1, ha2, hb⟩
  have B3 : Hid (Below w.heap.size w w3) := B2.out.trans (hb.mono B2.out.size)
  have HC : Hid ((0 ≤ c ∧ c ≤ 4 → e3 = .nilIface) ∧ (¬ (0 ≤ c ∧ c ≤ 4) → e3 = .iface 63 (.int .i64 1))) := ⟨ha1, ha2⟩
  clear hb ha1 ha2
  have FIN : Hid (Calls Tryd.prog 13 #[.int .i64 5] w3 fun x w' => ∃ v, x = .returned (.tuple #[v, errF 1]) ∧ Below w3.heap.size w3 w') := newC_no 5 w3 (by omega)
  by_cases pa : 0 ≤ a ∧ a ≤ 4
  · obtain rfl := HA.out.1 pa
    by_cases pb : 0 ≤ b ∧ b ≤ 4
    · obtain rfl := HB.out.1 pb
      by_cases pc : 0 ≤ c ∧ c ≤ 4
      · obtain rfl := HC.out.1 pc
        have hq : a = b ∨ (a ≠ b ∧ b = c) ∨ (a ≠ b ∧ b ≠ c ∧ a = c) := by have := HH.out.2; omega
        clear HA HB HC
        rcases hq with q | ⟨q, r⟩ | ⟨q, r, t⟩
        · have q' : (a == b) = true := by simp [q]
          clear q
          go_wp2_with fail
          refine FIN.out.mono ?_
          rintro e w4 ⟨v4, rfl, hb⟩
          have B4 : Hid (Below w.heap.size w w4) := B3.out.trans (hb.mono B3.out.size)
          clear hb
          go_wp2_with fail
          refine (errF_same 1 w4 (HH.out.1.later B4.out)).mono ?_
          rintro e w5 ⟨rfl, hb⟩
          have B5 : Hid (Below w.heap.size w w5) := B4.out.trans (hb.mono B4.out.size)
          clear hb
          go_wp2
          go_ret
          exact ⟨rfl, B5.out⟩
        · have q' : (a == b) = false := by simp [q]
          have r' : (b == c) = true := by simp [r]
          clear q r
          go_wp2_with fail
          refine FIN.out.mono ?_
          rintro e w4 ⟨v4, rfl, hb⟩
          have B4 : Hid (Below w.heap.size w w4) := B3.out.trans (hb.mono B3.out.size)
          clear hb
          go_wp2_with fail
          refine (errF_same 1 w4 (HH.out.1.later B4.out)).mono ?_
          rintro e w5 ⟨rfl, hb⟩
          have B5 : Hid (Below w.heap.size w w5) := B4.out.trans (hb.mono B4.out.size)
          clear hb
          go_wp2
          go_ret
          exact ⟨rfl, B5.out⟩
        · have q' : (a == b) = false := by simp [q]
          have r' : (b == c) = false := by simp [r]
          have t' : (a == c) = true := by simp [t]
          clear q r t
          go_wp2_with fail
          refine FIN.out.mono ?_
          rintro e w4 ⟨v4, rfl, hb⟩
          have B4 : Hid (Below w.heap.size w w4) := B3.out.trans (hb.mono B3.out.size)
          clear hb
          go_wp2_with fail
          refine (errF_same 1 w4 (HH.out.1.later B4.out)).mono ?_
          rintro e w5 ⟨rfl, hb⟩
          have B5 : Hid (Below w.heap.size w w5) := B4.out.trans (hb.mono B4.out.size)
          clear hb
          go_wp2
          go_ret
          exact ⟨rfl, B5.out⟩
      · obtain rfl := HC.out.2 pc
        clear HA HB HC
        go_wp2_with fail
        refine FIN.out.mono ?_
        rintro e w4 ⟨v4, rfl, hb⟩
        have B4 : Hid (Below w.heap.size w w4) := B3.out.trans (hb.mono B3.out.size)
        clear hb
        go_wp2_with fail
        refine (errF_same 1 w4 (HH.out.1.later B4.out)).mono ?_
        rintro e w5 ⟨rfl, hb⟩
        have B5 : Hid (Below w.heap.size w w5) := B4.out.trans (hb.mono B4.out.size)
        clear hb
        go_wp2
        go_ret
        exact ⟨rfl, B5.out⟩
    · obtain rfl := HB.out.2 pb
      clear HA HB HC
      go_wp2_with fail
      refine FIN.out.mono ?_
      rintro e w4 ⟨v4, rfl, hb⟩
      have B4 : Hid (Below w.heap.size w w4) := B3.out.trans (hb.mono B3.out.size)
      clear hb
      go_wp2_with fail
      refine (errF_same 1 w4 (HH.out.1.later B4.out)).mono ?_
      rintro e w5 ⟨rfl, hb⟩
      have B5 : Hid (Below w.heap.size w w5) := B4.out.trans (hb.mono B4.out.size)
      clear hb
      go_wp2
      go_ret
      exact ⟨rfl, B5.out⟩
  · obtain rfl := HA.out.2 pa
    clear HA HB HC
    go_wp2_with fail
    refine FIN.out.mono ?_
    rintro e w4 ⟨v4, rfl, hb⟩
    have B4 : Hid (Below w.heap.size w w4) := B3.out.trans (hb.mono B3.out.size)
    clear hb
    go_wp2_with fail
    refine (errF_same 1 w4 (HH.out.1.later B4.out)).mono ?_
    rintro e w5 ⟨rfl, hb⟩
    have B5 : Hid (Below w.heap.size w w5) := B4.out.trans (hb.mono B4.out.size)
    clear hb
    go_wp2
    go_ret
    exact ⟨rfl, B5.out⟩

set_option maxRecDepth 100000 in
set_option maxHeartbeats 4000000 in
theorem cwaits_yes (a b c : Nat) (x y : Int) (w : World) (hL : Laid w) (ha : a < 5) (hb : b < 5) (hc : c < 5) (hab : a ≠ b) (hbc : b ≠ c) (hac : a ≠ c) :
    Calls Tryd.prog 5 #[.int .i64 (a : Int), .int .i64 (b : Int), .int .i64 (c : Int), .int .i64 x, .int .i64 y] w fun e w' => e = .returned (.bool true) ∧ Below w.heap.size w w' := by
  have HL : Hid (Laid w) := hL
  have d1 : ((a : Int) == (b : Int)) = false := by simp; omega
  have d2 : ((b : Int) == (c : Int)) = false := by simp; omega
  have d3 : ((a : Int) == (c : Int)) = false := by simp; omega
  have HN : Hid (a < 5 ∧ b < 5 ∧ c < 5 ∧ a ≠ b ∧ b ≠ c ∧ a ≠ c) := ⟨ha, hb, hc, hab, hbc, hac⟩
  have Z5 : Hid (∀ me : Int, 0 ≤ me ∧ me ≤ 4 → CInv me [0, 0, 0, 0, 0] []) := fun me h => CInv.start h
  clear hL
  go_enter Tryd.func5, Tryd.ntmps5
  go_wp2_with fail
  refine (newC_ok (a : Int) w (by omega)).mono ?_
  rintro e w1 ⟨PX, fx, rfl, hC1, hB1⟩
  have S1 : Hid (CS w1 w.heap.size PX (a : Int) [0, 0, 0, 0, 0] [] fx ∧ Below w.heap.size w w1) := ⟨hC1, hB1⟩
  clear hC1 hB1
  go_wp2_with fail
  refine (newC_ok (b : Int) w1 (by omega)).mono ?_
  rintro e w2 ⟨PY, fy, rfl, hC2, hB2⟩
  have S2 : Hid (CS w2 w.heap.size PX (a : Int) [0, 0, 0, 0, 0] [] fx ∧ CS w2 w.heap.size PY (b : Int) [0, 0, 0, 0, 0] [] fy ∧ (∀ k ∈ fx, k ∉ fy) ∧ Below w.heap.size w w2) := ⟨S1.out.1.of_blocks hB2.size (fun k h => hB2.block k (S1.out.1.fp k h).2), hC2.low S1.out.2.size, fun k h q => by have := (S1.out.1.fp k h).2; have := (hC2.fp k q).1; omega, S1.out.2.trans (hB2.mono S1.out.2.size)⟩
  clear hC2 hB2 S1
  go_wp2_with fail
  refine (newC_ok (c : Int) w2 (by omega)).mono ?_
  rintro e w3 ⟨PZ, fz, rfl, hC3, hB3⟩
  have T0 : Hid (T3 w PX PY PZ (a : Int) (b : Int) (c : Int) [0, 0, 0, 0, 0] [] [0, 0, 0, 0, 0] [] [0, 0, 0, 0, 0] [] [] w3 fx fy fz) :=
    ⟨S2.out.1.of_blocks hB3.size (fun k h => hB3.block k (S2.out.1.fp k h).2), S2.out.2.1.of_blocks hB3.size (fun k h => hB3.block k (S2.out.2.1.fp k h).2), hC3.low S2.out.2.2.2.size, S2.out.2.2.1, fun k h q => by have := (S2.out.1.fp k h).2; have := (hC3.fp k q).1; omega, fun k h q => by have := (S2.out.2.1.fp k h).2; have := (hC3.fp k q).1; omega, fun p hp => absurd hp List.not_mem_nil, S2.out.2.2.2.trans (hB3.mono S2.out.2.2.2.size)⟩
  clear hC3 hB3 S2
  go_wp2_with fail
  refine (sayP_any w.heap.size PX (a : Int) [0, 0, 0, 0, 0] [] fx x w3 T0.out.x (Z5.out _ (by omega)) T0.out.be.size).mono ?_
  rintro e w4 ⟨s0, s1, vc, fx4, rfl, hC4, hS4, hB4, hK4, hN4, hV4⟩
  by_cases hx : x < 1 ∨ 30 < x
  · have ec : sayC (a : Int) [0, 0, 0, 0, 0] x = 1 := if_pos hx
    rw [ec, errF_no (by decide)]
    obtain ⟨-, -, o4⟩ := hS4
    obtain ⟨qc, cc, rfl⟩ := own_form o4
    have B4 : Hid (Below w.heap.size w w4) := T0.out.be.trans hB4
    have hxx : (decide (x < 1) || decide (30 < x)) = true := by simp; omega
    clear hC4 o4 hB4 hK4 hN4 hV4 ec
    rcases (show x < 1 ∨ (1 ≤ x ∧ 30 < x) by omega) with g1 | ⟨g1, g2⟩
    all_goals
      clear hx
      go_wp2
      go_ret
      exact ⟨by first | rfl | (rw [hxx]), B4.out.alloc B4.out.size _⟩
  · have x1 : 1 ≤ x := by omega
    have x2 : x ≤ 30 := by omega
    have ec : sayC (a : Int) [0, 0, 0, 0, 0] x = 0 := by rw [sayC, if_neg hx, Int.toNat_natCast, if_neg (by rw [z5]; decide)]
    have ei : inc [0, 0, 0, 0, 0] (a : Int) = Ka a 1 := by rw [← Ka_start a ha]; exact Ka_inc ha 0
    obtain ⟨f0, f1, o4⟩ := hS4
    rw [if_pos ec] at f0 f1
    subst f0 f1
    rw [sayL, if_pos ec, ei, Ka_len] at o4
    rw [sayK, if_pos ec, ei] at hC4
    rw [ec, errF_ok]
    obtain ⟨gc, cc, rfl, hg1, hg2, hvc⟩ := own_five o4
    obtain ⟨W4, eW4⟩ : ∃ W, W = w4.alloc (.cells #[.int .i64 (a : Int), .int .i64 s1, .slice (some ⟨gc, 0, none⟩) 5 cc] 49) := ⟨_, rfl⟩
    have T4 : Hid (T3 w PX PY PZ (a : Int) (b : Int) (c : Int) (Ka a 1) [] [0, 0, 0, 0, 0] [] [0, 0, 0, 0, 0] [] [w4.heap.size, gc] W4 fx4 fy fz ∧ Vw W4 (some ⟨gc, 0, none⟩) 5 (Ka a 1)) := by
      have bW : Below w4.heap.size w4 W4 := by rw [eW4]; exact (Below.refl _ _).alloc (Nat.le_refl _) _
      have t := (T0.out.opX hC4 hK4 hN4 hB4).1
      have hyz : ∀ k, w3.heap.size ≤ k → k ∉ fy ∧ k ∉ fz := fun k hk => ⟨fun q => by have := (T0.out.y.fp k q).2; omega, fun q => by have := (T0.out.z.fp k q).2; omega⟩
      have t1 := (t.add hg2 (hV4 gc rfl) (hyz gc hg1).1 (hyz gc hg1).2).later bW
      have hsz : W4.heap.size = w4.heap.size + 1 := by rw [eW4]; simp
      refine ⟨t1.1.add (by omega) (fun q => by have := (t.x.fp _ q).2; omega) (fun q => by have := (t.y.fp _ q).2; omega) (fun q => by have := (t.z.fp _ q).2; omega), hvc.later bW⟩
    have C4 : Hid (C3s W4 w4.heap.size (a : Int) s1 gc cc) := by
      rw [eW4]
      exact ⟨by go_cell, by go_cell, by go_cell⟩
    obtain ⟨SB, eSB⟩ : ∃ SB, SB = w4.heap.size := ⟨_, rfl⟩
    rw [← eSB] at T4 C4
    clear hC4 o4 hB4 hK4 hN4 hV4 ec ei hg1 hg2 hvc T0 hx
    go_wp2_with fail
    rw [← eW4, ← eSB]
    clear eW4 eSB
    have QT := q_take ha hb hc hab hbc hac x1 x2 x1 x2
    refine (takeP_any w.heap.size PY (b : Int) [0, 0, 0, 0, 0] [] fy (a : Int) s1 (some ⟨gc, 0, none⟩) 5 cc (Ka a 1) W4 T4.out.1.y (Z5.out _ (by omega)) T4.out.1.be.size T4.out.2).mono ?_
    rintro e w5 ⟨vo5, fy5, rfl, hC5, hO5, hB5, hK5, hN5, hV5⟩
    rw [QT.2] at hC5 hO5
    rw [QT.1, errF_ok]
    obtain ⟨q5, c5, rfl⟩ := own_form hO5
    have T5 : Hid (T3 w PX PY PZ (a : Int) (b : Int) (c : Int) (Ka a 1) [] (Ka a 1) [] [0, 0, 0, 0, 0] [] [SB, gc] w5 fx4 fy5 fz ∧ Vw w5 (some ⟨gc, 0, none⟩) 5 (Ka a 1) ∧ C3s w5 SB (a : Int) s1 gc cc) := by
      obtain ⟨t, k⟩ := T4.out.1.opY hC5 hK5 hN5 hB5
      exact ⟨t, vw_block T4.out.2 (k gc (by simp)) (t.pr gc (by simp)).1, C4.out.keep (k SB (by simp))⟩
    clear hC5 hO5 hB5 hK5 hN5 hV5 T4 C4 QT
    go_wp2_with fail
    refine (sayP_any w.heap.size PY (b : Int) (Ka a 1) [] fy5 y w5 T5.out.1.y (Ka_inv ha (by omega) (by omega) (by omega)) T5.out.1.be.size).mono ?_
    rintro e w6 ⟨t0, t1, vd, fy6, rfl, hC6, hS6, hB6, hK6, hN6, hV6⟩
    by_cases hy : y < 1 ∨ 30 < y
    · have ec : sayC (b : Int) (Ka a 1) y = 1 := if_pos hy
      rw [ec, errF_no (by decide)]
      obtain ⟨-, -, o6⟩ := hS6
      obtain ⟨qd, cd, rfl⟩ := own_form o6
      have B6 : Hid (Below w.heap.size w w6) := T5.out.1.be.trans hB6
      have hyy : (decide (y < 1) || decide (30 < y)) = true := by simp; omega
      clear hC6 o6 hB6 hK6 hN6 hV6 ec
      rcases (show y < 1 ∨ (1 ≤ y ∧ 30 < y) by omega) with g1 | ⟨g1, g2⟩
      all_goals
        clear hy
        go_wp2
        go_ret
        exact ⟨by first | rfl | (rw [hyy]), B6.out.alloc B6.out.size _⟩
    · have y1 : 1 ≤ y := by omega
      have y2 : y ≤ 30 := by omega
      have ec : sayC (b : Int) (Ka a 1) y = 0 := by rw [sayC, if_neg hy, Int.toNat_natCast, if_neg (by rw [Ka_get ha, if_neg (Ne.symm hab)]; decide)]
      have ei : inc (Ka a 1) (b : Int) = Kb a b := Kb_inc ha hab
      obtain ⟨f0, f1, o6⟩ := hS6
      rw [if_pos ec] at f0 f1
      subst f0 f1
      rw [sayL, if_pos ec, ei, Kb_len] at o6
      rw [sayK, if_pos ec, ei] at hC6
      rw [ec, errF_ok]
      obtain ⟨gd, cd, rfl, hg1, hg2, hvd⟩ := own_five o6
      obtain ⟨W6, eW6⟩ : ∃ W, W = w6.alloc (.cells #[.int .i64 (b : Int), .int .i64 t1, .slice (some ⟨gd, 0, none⟩) 5 cd] 49) := ⟨_, rfl⟩
      have T6 : Hid (T3 w PX PY PZ (a : Int) (b : Int) (c : Int) (Ka a 1) [] (Kb a b) [] [0, 0, 0, 0, 0] [] [w6.heap.size, gd, SB, gc] W6 fx4 fy6 fz ∧ Vw W6 (some ⟨gd, 0, none⟩) 5 (Kb a b) ∧ Vw W6 (some ⟨gc, 0, none⟩) 5 (Ka a 1) ∧ C3s W6 SB (a : Int) s1 gc cc ∧ C3s W6 w6.heap.size (b : Int) t1 gd cd) := by
        have bW : Below w6.heap.size w6 W6 := by rw [eW6]; exact (Below.refl _ _).alloc (Nat.le_refl _) _
        obtain ⟨t, k⟩ := T5.out.1.opY hC6 hK6 hN6 hB6
        have hxz : ∀ k, w5.heap.size ≤ k → k ∉ fx4 ∧ k ∉ fz := fun k hk => ⟨fun q => by have := (T5.out.1.x.fp k q).2; omega, fun q => by have := (T5.out.1.z.fp k q).2; omega⟩
        have t1 := (t.add hg2 (hxz gd hg1).1 (hV6 gd rfl) (hxz gd hg1).2).later bW
        have hsz : W6.heap.size = w6.heap.size + 1 := by rw [eW6]; simp
        refine ⟨t1.1.add (by omega) (fun q => by have := (t.x.fp _ q).2; omega) (fun q => by have := (t.y.fp _ q).2; omega) (fun q => by have := (t.z.fp _ q).2; omega), hvd.later bW, (vw_block T5.out.2.1 (k gc (by simp)) (t.pr gc (by simp)).1).later bW, (T5.out.2.2.keep (k SB (by simp))).keep (bW.block SB (t.pr SB (by simp)).1), ?_⟩
        rw [eW6]
        exact ⟨by go_cell, by go_cell, by go_cell⟩
      obtain ⟨TB, eTB⟩ : ∃ TB, TB = w6.heap.size := ⟨_, rfl⟩
      rw [← eTB] at T6
      clear hC6 o6 hB6 hK6 hN6 hV6 ec ei hg1 hg2 hvd T5 hy
      go_wp2_with fail
      rw [← eW6, ← eTB]
      clear eW6 eTB
      have TW := t_waits ha hb hc hab hbc hac x1 x2 y1 y2
      refine (takeP_any w.heap.size PZ (c : Int) [0, 0, 0, 0, 0] [] fz (b : Int) t1 (some ⟨gd, 0, none⟩) 5 cd (Kb a b) W6 T6.out.1.z (Z5.out _ (by omega)) T6.out.1.be.size T6.out.2.1).mono ?_
      rintro e w7 ⟨vo7, fz7, rfl, hC7, hO7, hB7, hK7, hN7, hV7⟩
      rw [TW.2] at hC7 hO7
      rw [TW.1, errF_ok]
      obtain ⟨q7, c7, rfl⟩ := own_form hO7
      have T7 : Hid (T3 w PX PY PZ (a : Int) (b : Int) (c : Int) (Ka a 1) [] (Kb a b) [] [0, 0, 0, 0, 0] [((b : Int), t1, Kb a b)] [TB, gd, SB, gc] w7 fx4 fy6 fz7 ∧ Vw w7 (some ⟨gd, 0, none⟩) 5 (Kb a b) ∧ Vw w7 (some ⟨gc, 0, none⟩) 5 (Ka a 1) ∧ C3s w7 SB (a : Int) s1 gc cc ∧ C3s w7 TB (b : Int) t1 gd cd) := by
        obtain ⟨t, k⟩ := T6.out.1.opZ hC7 hK7 hN7 hB7
        exact ⟨t, vw_block T6.out.2.1 (k gd (by simp)) (t.pr gd (by simp)).1, vw_block T6.out.2.2.1 (k gc (by simp)) (t.pr gc (by simp)).1, T6.out.2.2.2.1.keep (k SB (by simp)), T6.out.2.2.2.2.keep (k TB (by simp))⟩
      clear hC7 hO7 hB7 hK7 hN7 hV7 T6 TW
      go_wp2_with fail
      refine (waitsP_any w.heap.size PZ (c : Int) [0, 0, 0, 0, 0] [((b : Int), t1, Kb a b)] fz7 w7 T7.out.1.z).mono ?_
      rintro e w8 ⟨rfl, n8, e8⟩
      have T8 : Hid (T3 w PX PY PZ (a : Int) (b : Int) (c : Int) (Ka a 1) [] (Kb a b) [] [0, 0, 0, 0, 0] [((b : Int), t1, Kb a b)] [TB, gd, SB, gc] w8 fx4 fy6 fz7 ∧ Vw w8 (some ⟨gd, 0, none⟩) 5 (Kb a b) ∧ Vw w8 (some ⟨gc, 0, none⟩) 5 (Ka a 1) ∧ C3s w8 SB (a : Int) s1 gc cc ∧ C3s w8 TB (b : Int) t1 gd cd) := by
        have bW : Below w7.heap.size w7 w8 := by rw [e8]; exact below_heap2 (Below.refl _ _) rfl rfl rfl rfl
        obtain ⟨t, k⟩ := T7.out.1.later bW
        exact ⟨t, T7.out.2.1.later bW, T7.out.2.2.1.later bW, T7.out.2.2.2.1.keep (k SB (by simp)), T7.out.2.2.2.2.keep (k TB (by simp))⟩
      clear e8 T7
      obtain ⟨u0, u1, u2⟩ := T8.out.2.2.2.1
      go_wp2_with fail
      have QB := q_both ha hb hc hab hbc hac x1 x2 y1 y2
      refine (takeP_any w.heap.size PZ (c : Int) [0, 0, 0, 0, 0] [((b : Int), t1, Kb a b)] fz7 (a : Int) s1 (some ⟨gc, 0, none⟩) 5 cc (Ka a 1) w8 T8.out.1.z (c_inv1 ha hb hc hab hbc hac x1 x2 y1 y2) T8.out.1.be.size T8.out.2.2.1).mono ?_
      rintro e w9 ⟨vo9, fz9, rfl, hC9, hO9, hB9, hK9, hN9, hV9⟩
      rw [QB.2] at hC9 hO9
      rw [QB.1, errF_ok]
      obtain ⟨g9, c9, rfl, hg1, hg2, hv9⟩ := own_pos (show 0 < 2 by omega) hO9
      have T9 : Hid (T3 w PX PY PZ (a : Int) (b : Int) (c : Int) (Ka a 1) [] (Kb a b) [] (Kb a b) [] [g9, TB, gd, SB, gc] w9 fx4 fy6 fz9 ∧ Vw w9 (some ⟨gd, 0, none⟩) 5 (Kb a b) ∧ Vw w9 (some ⟨gc, 0, none⟩) 5 (Ka a 1) ∧ C3s w9 SB (a : Int) s1 gc cc ∧ C3s w9 TB (b : Int) t1 gd cd ∧ Vw w9 (some ⟨g9, 0, none⟩) 2 [s1, t1]) := by
        obtain ⟨t, k⟩ := T8.out.1.opZ hC9 hK9 hN9 hB9
        exact ⟨t.add hg2 (fun q => by have := (T8.out.1.x.fp _ q).2; omega) (fun q => by have := (T8.out.1.y.fp _ q).2; omega) (hV9 g9 rfl), vw_block T8.out.2.1 (k gd (by simp)) (t.pr gd (by simp)).1, vw_block T8.out.2.2.1 (k gc (by simp)) (t.pr gc (by simp)).1, T8.out.2.2.2.1.keep (k SB (by simp)), T8.out.2.2.2.2.keep (k TB (by simp)), hv9⟩
      clear hC9 hO9 hB9 hK9 hN9 hV9 T8 QB hg1 hg2 hv9 u0 u1 u2
      obtain ⟨u0, u1, u2⟩ := T9.out.2.2.2.1
      go_wp2_with fail
      have QO := q_old ha hb hc hab hbc hac x1 x2 y1 y2
      refine (takeP_any w.heap.size PZ (c : Int) (Kb a b) [] fz9 (a : Int) s1 (some ⟨gc, 0, none⟩) 5 cc (Ka a 1) w9 T9.out.1.z (c_inv2 ha hb hc hab hbc hac x1 x2 y1 y2) T9.out.1.be.size T9.out.2.2.1).mono ?_
      rintro e w10 ⟨vo10, fz10, rfl, hC10, hO10, hB10, hK10, hN10, hV10⟩
      have ct : ctk (c : Int) (Kb a b) [] ((a : Int), s1, Ka a 1) = ([], Kb a b, []) := if_neg (by rw [QO]; decide)
      rw [ct] at hC10 hO10
      rw [QO]
      obtain ⟨q10, c10, rfl⟩ := own_form hO10
      have T10 : Hid (T3 w PX PY PZ (a : Int) (b : Int) (c : Int) (Ka a 1) [] (Kb a b) [] (Kb a b) [] [g9, TB, gd, SB, gc] w10 fx4 fy6 fz10 ∧ Vw w10 (some ⟨gd, 0, none⟩) 5 (Kb a b) ∧ Vw w10 (some ⟨gc, 0, none⟩) 5 (Ka a 1) ∧ C3s w10 SB (a : Int) s1 gc cc ∧ C3s w10 TB (b : Int) t1 gd cd ∧ Vw w10 (some ⟨g9, 0, none⟩) 2 [s1, t1]) := by
        obtain ⟨t, k⟩ := T9.out.1.opZ hC10 hK10 hN10 hB10
        exact ⟨t, vw_block T9.out.2.1 (k gd (by simp)) (t.pr gd (by simp)).1, vw_block T9.out.2.2.1 (k gc (by simp)) (t.pr gc (by simp)).1, T9.out.2.2.2.1.keep (k SB (by simp)), T9.out.2.2.2.2.1.keep (k TB (by simp)), vw_block T9.out.2.2.2.2.2 (k g9 (by simp)) (t.pr g9 (by simp)).1⟩
      clear hC10 hO10 hB10 hK10 hN10 hV10 T9 QO ct u0 u1 u2
      obtain ⟨u0, u1, u2⟩ := T10.out.2.2.2.2.1
      go_wp2_with fail
      have TO := t_old ha hb hc hab hbc hac x1 x2 y1 y2
      refine (takeP_any w.heap.size PZ (c : Int) (Kb a b) [] fz10 (b : Int) t1 (some ⟨gd, 0, none⟩) 5 cd (Kb a b) w10 T10.out.1.z (c_inv2 ha hb hc hab hbc hac x1 x2 y1 y2) T10.out.1.be.size T10.out.2.1).mono ?_
      rintro e w11 ⟨vo11, fz11, rfl, hC11, hO11, hB11, hK11, hN11, hV11⟩
      have ct : ctk (c : Int) (Kb a b) [] ((b : Int), t1, Kb a b) = ([], Kb a b, []) := if_neg (by rw [TO]; decide)
      rw [ct] at hC11 hO11
      rw [TO]
      obtain ⟨q11, c11, rfl⟩ := own_form hO11
      have T11 : Hid (T3 w PX PY PZ (a : Int) (b : Int) (c : Int) (Ka a 1) [] (Kb a b) [] (Kb a b) [] [g9, TB, gd, SB, gc] w11 fx4 fy6 fz11 ∧ Vw w11 (some ⟨gd, 0, none⟩) 5 (Kb a b) ∧ Vw w11 (some ⟨gc, 0, none⟩) 5 (Ka a 1) ∧ C3s w11 SB (a : Int) s1 gc cc ∧ C3s w11 TB (b : Int) t1 gd cd ∧ Vw w11 (some ⟨g9, 0, none⟩) 2 [s1, t1]) := by
        obtain ⟨t, k⟩ := T10.out.1.opZ hC11 hK11 hN11 hB11
        exact ⟨t, vw_block T10.out.2.1 (k gd (by simp)) (t.pr gd (by simp)).1, vw_block T10.out.2.2.1 (k gc (by simp)) (t.pr gc (by simp)).1, T10.out.2.2.2.1.keep (k SB (by simp)), T10.out.2.2.2.2.1.keep (k TB (by simp)), vw_block T10.out.2.2.2.2.2 (k g9 (by simp)) (t.pr g9 (by simp)).1⟩
      clear hC11 hO11 hB11 hK11 hN11 hV11 T10 TO ct u0 u1 u2
      have u2 := T11.out.2.2.2.1.2.2
      have r2 := T11.out.2.2.2.2.1.2.2
      obtain ⟨_, _, e9, -, hc9⟩ := T11.out.2.2.2.2.2.2 (by omega)
      cases e9
      have m0 : w11.cell? ⟨g9, 0, none⟩ = some (.int .i64 s1) := hc9 0 (by omega)
      have m1 : w11.cell? ⟨g9, 1, none⟩ = some (.int .i64 t1) := hc9 1 (by omega)
      have n0 : (s1 != s1) = false := by simp
      have n1 : (t1 != t1) = false := by simp
      clear hc9
      go_wp2_with fail
      refine (leq_ok (some ⟨gc, 0, none⟩) (some ⟨gd, 0, none⟩) 5 cc 5 cd (Ka a 1) (Kb a b) w11 T11.out.2.2.1 T11.out.2.1 (Ka_code ha (by omega) (by omega)) (Kb_code ha hb)).mono ?_
      rintro e w12 ⟨rfl, hb12⟩
      rw [kab_gt ha hb hab]
      have T12 : Hid (T3 w PX PY PZ (a : Int) (b : Int) (c : Int) (Ka a 1) [] (Kb a b) [] (Kb a b) [] [g9, TB, gd, SB, gc] w12 fx4 fy6 fz11) := (T11.out.1.later hb12).1
      clear hb12 T11 u2 r2 m0 m1
      go_wp2_with fail
      refine (errF_same 7 w12 (HL.out.later T12.out.be)).mono ?_
      rintro e w13 ⟨rfl, hb13⟩
      have T13 : Hid (T3 w PX PY PZ (a : Int) (b : Int) (c : Int) (Ka a 1) [] (Kb a b) [] (Kb a b) [] [g9, TB, gd, SB, gc] w13 fx4 fy6 fz11) := (T12.out.later hb13).1
      clear hb13 T12
      go_wp2_with fail
      refine (errF_same 7 w13 (HL.out.later T13.out.be)).mono ?_
      rintro e w14 ⟨rfl, hb14⟩
      have T14 : Hid (T3 w PX PY PZ (a : Int) (b : Int) (c : Int) (Ka a 1) [] (Kb a b) [] (Kb a b) [] [g9, TB, gd, SB, gc] w14 fx4 fy6 fz11) := (T13.out.later hb14).1
      clear hb14 T13
      go_wp2_with fail
      refine (waitsP_any w.heap.size PZ (c : Int) (Kb a b) [] fz11 w14 T14.out.z).mono ?_
      rintro e w15 ⟨rfl, n15, e15⟩
      have B15 : Hid (Below w.heap.size w w15) := by rw [e15]; exact below_heap2 T14.out.be rfl rfl rfl rfl
      clear e15
      go_wp2
      go_ret
      exact ⟨rfl, B15.out⟩
theorem cwaits_walk (a b c x y : Int) (w : World) (hL : Laid w) :
    Calls Tryd.prog 5 #[.int .i64 a, .int .i64 b, .int .i64 c, .int .i64 x, .int .i64 y] w fun e w' => e = .returned (.bool true) ∧ Below w.heap.size w w' := by
  by_cases h : (0 ≤ a ∧ a ≤ 4) ∧ (0 ≤ b ∧ b ≤ 4) ∧ (0 ≤ c ∧ c ≤ 4) ∧ a ≠ b ∧ b ≠ c ∧ a ≠ c
  · obtain ⟨p, rfl⟩ : ∃ p : Nat, a = (p : Int) := ⟨a.toNat, by omega⟩
    obtain ⟨q, rfl⟩ : ∃ q : Nat, b = (q : Int) := ⟨b.toNat, by omega⟩
    obtain ⟨r, rfl⟩ : ∃ r : Nat, c = (r : Int) := ⟨c.toNat, by omega⟩
    exact cwaits_yes p q r x y w hL (by omega) (by omega) (by omega) (by omega) (by omega) (by omega)
  · exact cwaits_no a b c x y w hL h
end Go.Proofs.YtndjejbnappmeacDoor.Cau
