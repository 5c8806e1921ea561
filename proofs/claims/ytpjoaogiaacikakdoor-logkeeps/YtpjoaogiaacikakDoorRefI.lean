/-
  Contract of the document's own History: it tells the same event and the same fault as package history's Check.
-/
import Derived.Test.YtpjoaogiaacikakDoorRefH
namespace Go.Proofs.YtpjoaogiaacikakDoor.His
open Go.RowKit

set_option maxRecDepth 100000 in
set_option maxHeartbeats 8000000 in
theorem refHistory (a : Option Addr) (len cap : Nat) (h : List Ev) (w : World) (hv : Ew w a len h) :
    Calls Tryd.prog 22 #[.slice a len cap] w fun x w' => x = .returned (.tuple #[.int .i64 (chkAt h), .int .i64 (chkC h)]) ∧ Below w.heap.size w w' := by
  have HL : Hid (h.length = len) := hv.1
  by_cases h60 : 60 < len
  · have h60' : (60 : Int) < (len : Int) := by omega
    have E := chk_full (h := h) (by rw [HL.out]; exact h60)
    rw [E.1, E.2]
    clear E hv
    go_enter Tryd.func22, Tryd.ntmps22
    go_wp2
    go_ret2
    exact ⟨rfl, Below.refl _ _⟩
  · have h60' : (len : Int) ≤ 60 := by omega
    have G : Hid (Ew w a len h) := hv
    clear hv
    go_enter Tryd.func22, Tryd.ntmps22
    go_wp2
    go_loopw [4] (fun x wr => ∃ i : Nat, i ≤ len ∧ x = .int .i64 i ∧ Hid (Below w.heap.size w wr) ∧ Hid (Good h i)) (fun x _ => len - (intOf x).toNat)
    case atStart => exact ⟨0, by omega, rfl, Below.refl _ _, fun j hj => absurd hj (by omega)⟩
    case round =>
      obtain ⟨i, hi, rfl, hbel, hg⟩ := hrel
      by_cases hlt : i < len
      · obtain ⟨b, off, rfl, hpb, hcs⟩ := (G.out.later hbel.out).2 (by omega)
        have HCS : Hid (∀ k, k < len → wr.cell? ⟨b, off + k * 3, none⟩ = some (.int .i64 (ev h k).1) ∧ wr.cell? ⟨b, off + k * 3 + 1, none⟩ = some (.int .i64 (ev h k).2.1) ∧ wr.cell? ⟨b, off + k * 3 + 2, none⟩ = some (.int .i64 (ev h k).2.2)) := hcs
        obtain ⟨c0, c1, c2⟩ := hcs i hlt
        obtain ⟨q, eq⟩ : ∃ q, q = ev h i := ⟨_, rfl⟩
        rw [← eq] at c0 c1 c2
        obtain ⟨q0, q1, q2⟩ := q
        have EQ : Hid (ev h i = (q0, q1, q2)) := eq.symm
        have hi0 : (0 : Int) ≤ (i : Int) := by omega
        have hil : (i : Int) < (len : Int) := by omega
        have BQ : Hid (Below w.heap.size w (wr.alloc (.cells #[.int .i64 q0, .int .i64 q1, .int .i64 q2] 28))) := hbel.out.alloc hbel.out.size _
        have LT : Hid (i < len) := hlt
        have LH : Hid (i ≤ h.length) := by show i ≤ h.length; rw [HL.out]; omega
        have BAD : Hid (∀ c : Int, next (h.take i) (q0, q1, q2) = c → c ≠ 0 → chkC h = c ∧ chkAt h = (i : Int)) := by
          intro c hc h0
          have := chk_bad (h := h) (i := i) (by rw [HL.out]; omega) (by rw [HL.out]; exact hlt) hg.out (by rw [EQ.out, hc]; exact h0)
          rw [EQ.out, hc] at this
          exact this
        have GO : Hid (next (h.take i) (q0, q1, q2) = 0 → Good h (i + 1)) := by
          intro h0 j hj
          rcases Nat.lt_succ_iff_lt_or_eq.1 hj with a | rfl
          · exact hg.out j a
          · rw [EQ.out]; exact h0
        clear hcs eq
        have NC := next_cases (h.take i) (q0, q1, q2)
        cases h1 : isOne (q0, q1, q2)
        · have N1 : Hid (next (h.take i) (q0, q1, q2) = 1) := by
            rcases NC with ⟨_, e⟩ | ⟨e, _⟩ | ⟨e, _⟩ | ⟨e, _⟩ | ⟨e, _⟩ | ⟨e, _⟩ | ⟨e, _⟩ | ⟨e, _⟩
            · exact e
            all_goals (rw [h1] at e; cases e)
          have hw : q0 < 0 ∨ 4 < q0 ∨ ((0 ≤ q0 ∧ q0 ≤ 4) ∧ (q1 < 1 ∨ 3 < q1)) ∨ ((0 ≤ q0 ∧ q0 ≤ 4) ∧ q1 = 1 ∧ q2 ≠ 0) ∨ ((0 ≤ q0 ∧ q0 ≤ 4) ∧ (q1 = 2 ∨ q1 = 3) ∧ (q2 < 1 ∨ 30 < q2)) := by
            simp [isOne] at h1
            omega
          clear NC h1
          rcases hw with ha | ha | ⟨⟨ha, hb⟩, hc | hc⟩ | ⟨⟨ha, hb⟩, rfl, hc⟩ | ⟨⟨ha, hb⟩, rfl | rfl, hd | hd⟩
          · go_wp2
            go_ret2
            have E := BAD.out 1 N1.out (by decide)
            refine ⟨?_, BQ.out⟩
            rw [E.1, E.2]
            rfl
          · go_wp2
            go_ret2
            have E := BAD.out 1 N1.out (by decide)
            refine ⟨?_, BQ.out⟩
            rw [E.1, E.2]
            rfl
          · go_wp2
            go_ret2
            have E := BAD.out 1 N1.out (by decide)
            refine ⟨?_, BQ.out⟩
            rw [E.1, E.2]
            rfl
          · go_wp2
            go_ret2
            have E := BAD.out 1 N1.out (by decide)
            refine ⟨?_, BQ.out⟩
            rw [E.1, E.2]
            rfl
          · have hc' : (q2 != 0) = true := by simp [hc]
            go_wp2
            go_ret2
            have E := BAD.out 1 N1.out (by decide)
            refine ⟨?_, BQ.out⟩
            rw [E.1, E.2]
            rfl
          · go_wp2
            go_ret2
            have E := BAD.out 1 N1.out (by decide)
            refine ⟨?_, BQ.out⟩
            rw [E.1, E.2]
            rfl
          · go_wp2
            go_ret2
            have E := BAD.out 1 N1.out (by decide)
            refine ⟨?_, BQ.out⟩
            rw [E.1, E.2]
            rfl
          · go_wp2
            go_ret2
            have E := BAD.out 1 N1.out (by decide)
            refine ⟨?_, BQ.out⟩
            rw [E.1, E.2]
            rfl
          · go_wp2
            go_ret2
            have E := BAD.out 1 N1.out (by decide)
            refine ⟨?_, BQ.out⟩
            rw [E.1, E.2]
            rfl
        · have hone := isOne_who h1
          have hwhat := isOne_what h1
          obtain ⟨ha, hb5⟩ := hone
          have hb : q0 ≤ 4 := by simp at hb5; omega
          simp only at ha
          clear hb5
          rcases hwhat with ⟨e1, e2⟩ | ⟨e1 | e1, hw1, hw2⟩
          · simp only at e1 e2
            subst e1 e2
            have N0 : Hid (next (h.take i) (q0, 1, 0) = 0) := by
              rcases NC with ⟨e, _⟩ | ⟨_, e, _⟩ | ⟨_, e, _⟩ | ⟨_, _, e⟩ | ⟨_, e, _⟩ | ⟨_, e, _⟩ | ⟨_, e, _⟩ | ⟨_, e, _⟩
              · rw [h1] at e; cases e
              · simp at e
              · simp at e
              · exact e
              all_goals simp at e
            clear NC h1
            go_wp2
            go_roundw
            case rel => exact ⟨i + 1, by omega, by go_num, BQ.out, GO.out N0.out⟩
            case measure => simp [intOf]; omega
          · simp only at e1 hw1 hw2
            subst e1
            have SAID : Hid ((h.take i).any (says q2) = decide (0 ≤ byOf h q2 i)) := by_said LH.out hg.out
            have N2 : Hid ((0 ≤ byOf h q2 i → next (h.take i) (q0, 2, q2) = 7) ∧ (¬ 0 ≤ byOf h q2 i → next (h.take i) (q0, 2, q2) = 0)) := by
              have sd := SAID.out
              rcases NC with ⟨e, _⟩ | ⟨_, _, e, e'⟩ | ⟨_, _, e, e'⟩ | ⟨_, e, _⟩ | ⟨_, e, _⟩ | ⟨_, e, _⟩ | ⟨_, e, _⟩ | ⟨_, e, _⟩
              · rw [h1] at e; cases e
              · rw [show (h.take i).any (says (q0, 2, q2).2.2) = (h.take i).any (says q2) from rfl, sd] at e
                exact ⟨fun _ => e', fun q => absurd (of_decide_eq_true e) q⟩
              · rw [show (h.take i).any (says (q0, 2, q2).2.2) = (h.take i).any (says q2) from rfl, sd] at e
                exact ⟨fun q => absurd q (of_decide_eq_false e), fun _ => e'⟩
              all_goals simp at e
            clear NC h1
            go_wp2
            go_loopw [6, 7] (fun y x wi => ∃ k : Nat, k ≤ i ∧ x = .int .i64 k ∧ y = .int .i64 (byOf h q2 k) ∧ (∃ n, wi = (wr.alloc (.cells #[.int .i64 q0, .int .i64 2, .int .i64 q2] 28)).drewN n)) (fun _ x _ => i - (intOf x).toNat)
            case atStart => exact ⟨0, by omega, rfl, rfl, 0, rfl⟩
            case round =>
              obtain ⟨k, hk, rfl, rfl, ⟨n, rfl⟩⟩ := hrel
              obtain ⟨y, ey⟩ : ∃ y, y = byOf h q2 k := ⟨_, rfl⟩
              have EY : Hid (y = byOf h q2 k) := ey
              rw [← ey]
              clear ey
              by_cases hki : k < i
              · have hk0 : (0 : Int) ≤ (k : Int) := by omega
                have hkl : (k : Int) < (len : Int) := by omega
                have hki' : (k : Int) < (i : Int) := by omega
                obtain ⟨x0, x1, x2⟩ := HCS.out k (by omega)
                obtain ⟨s, es⟩ : ∃ s, s = ev h k := ⟨_, rfl⟩
                rw [← es] at x0 x1 x2
                obtain ⟨s0, s1, s2⟩ := s
                have ES : Hid (ev h k = (s0, s1, s2)) := es.symm
                clear es
                by_cases g1 : s1 = 2
                · subst g1
                  by_cases g2 : s2 = q2
                  · subst g2
                    go_wp2
                    go_quiet (fail)
                    go_wp2
                    go_quiet (fail)
                    go_wp2
                    go_roundw
                    case rel => exact ⟨k + 1, by omega, by go_num, by rw [byOf_step, ES.out, if_pos (by simp [says])], _, rfl⟩
                    case measure => simp [intOf]; omega
                  · have g2' : (s2 == q2) = false := by simp [g2]
                    go_wp2
                    go_quiet (fail)
                    go_wp2
                    go_quiet (fail)
                    go_wp2
                    go_roundw
                    case rel => exact ⟨k + 1, by omega, by go_num, by rw [byOf_step, ES.out, if_neg (by simp [says, g2]), EY.out], _, rfl⟩
                    case measure => simp [intOf]; omega
                · have g1' : (s1 == 2) = false := by simp [g1]
                  go_wp2
                  go_quiet (fail)
                  go_wp2
                  go_quiet (fail)
                  go_wp2
                  go_roundw
                  case rel => exact ⟨k + 1, by omega, by go_num, by rw [byOf_step, ES.out, if_neg (by simp [says, g1]), EY.out], _, rfl⟩
                  case measure => simp [intOf]; omega
              · have : k = i := by omega
                subst this
                by_cases hy : 0 ≤ y
                · have E := BAD.out 7 (N2.out.1 (by rw [← EY.out]; exact hy)) (by decide)
                  have EE : Hid _ := E
                  clear E
                  go_wp2
                  go_ret2
                  refine ⟨?_, below_drewN BQ.out _⟩
                  rw [EE.out.1, EE.out.2]
                  rfl
                · have N0 : Hid (next (h.take k) (q0, 2, q2) = 0) := N2.out.2 (by rw [← EY.out]; omega)
                  have hy' : y < 0 := by omega
                  go_wp2
                  go_roundw
                  case rel => exact ⟨k + 1, by have := LT.out; omega, by go_num, below_drewN BQ.out _, GO.out N0.out⟩
                  case measure => simp [intOf]; omega
          · simp only at e1 hw1 hw2
            subst e1
            have SAID : Hid ((h.take i).any (says q2) = decide (0 ≤ byOf h q2 i)) := by_said LH.out hg.out
            have WHO : Hid ((h.take i).any (fun y => y == (q0, 2, q2)) = decide (byOf h q2 i = q0)) := by_who LH.out hg.out ha
            have N3 : Hid (((h.take i).any (fun y => y == (q0, 3, q2)) = true → next (h.take i) (q0, 3, q2) = 7) ∧ ((h.take i).any (fun y => y == (q0, 3, q2)) = false → byOf h q2 i < 0 → next (h.take i) (q0, 3, q2) = 5) ∧
                ((h.take i).any (fun y => y == (q0, 3, q2)) = false → 0 ≤ byOf h q2 i → byOf h q2 i = q0 → next (h.take i) (q0, 3, q2) = 3) ∧ ((h.take i).any (fun y => y == (q0, 3, q2)) = false → 0 ≤ byOf h q2 i → byOf h q2 i ≠ q0 → next (h.take i) (q0, 3, q2) = 0)) := by
              have sd := SAID.out
              have wh := WHO.out
              have r1 : (h.take i).any (says (q0, (3 : Int), q2).2.2) = (h.take i).any (says q2) := rfl
              have r2 : (h.take i).any (fun y => y == ((q0, (3 : Int), q2).1, 2, (q0, (3 : Int), q2).2.2)) = (h.take i).any (fun y => y == (q0, 2, q2)) := rfl
              rw [r1, r2, sd, wh] at NC
              rcases NC with ⟨e, _⟩ | ⟨_, e, _⟩ | ⟨_, e, _⟩ | ⟨_, e, _⟩ | ⟨_, _, e, e'⟩ | ⟨_, _, e, f, e'⟩ | ⟨_, _, e, f, g, e'⟩ | ⟨_, _, e, f, g, e'⟩
              · rw [h1] at e; cases e
              · simp at e
              · simp at e
              · simp at e
              · rw [e]
                exact ⟨fun _ => e', fun q => absurd q (by decide), fun q => absurd q (by decide), fun q => absurd q (by decide)⟩
              · have := of_decide_eq_false f
                rw [e]
                exact ⟨fun q => absurd q (by decide), fun _ _ => e', fun _ q => absurd q this, fun _ q => absurd q this⟩
              · have f' := of_decide_eq_true f
                have g' := of_decide_eq_true g
                rw [e]
                exact ⟨fun q => absurd q (by decide), fun _ q => absurd f' (by omega), fun _ _ _ => e', fun _ _ q => absurd g' q⟩
              · have f' := of_decide_eq_true f
                have g' := of_decide_eq_false g
                rw [e]
                exact ⟨fun q => absurd q (by decide), fun _ q => absurd f' (by omega), fun _ _ q => absurd q g', fun _ _ _ => e'⟩
            obtain ⟨n7, n5, n3, n0⟩ := N3.out
            have N7 : Hid _ := n7
            have N5 : Hid _ := n5
            have N3' : Hid _ := n3
            have N0' : Hid _ := n0
            clear NC h1 n7 n5 n3 n0 N3
            have ANY0 : Hid ((∀ j, j < i → (ev h j == (q0, 3, q2)) = false) → (h.take i).any (fun y => y == (q0, 3, q2)) = false) := by
              intro hj
              cases ha : (h.take i).any (fun y => y == (q0, 3, q2)) with
              | false => rfl
              | true =>
                obtain ⟨j, h1, h2⟩ := (any_take LH.out).1 ha
                rw [hj j h1] at h2
                cases h2
            have ANY1 : Hid (∀ j, j < i → (ev h j == (q0, 3, q2)) = true → (h.take i).any (fun y => y == (q0, 3, q2)) = true) := fun j hj hp => (any_take LH.out).2 ⟨j, hj, hp⟩
            have hgd := eqGd
            go_wp2
            go_loopw [6, 7] (fun y x wi => ∃ k : Nat, k ≤ i ∧ x = .int .i64 k ∧ y = .int .i64 (byOf h q2 k) ∧ (∃ n, wi = (wr.alloc (.cells #[.int .i64 q0, .int .i64 3, .int .i64 q2] 28)).drewN n) ∧ Hid (∀ j, j < k → (ev h j == (q0, 3, q2)) = false)) (fun _ x _ => i - (intOf x).toNat)
            case atStart => exact ⟨0, by omega, rfl, rfl, ⟨0, rfl⟩, fun j hj => absurd hj (by omega)⟩
            case round =>
              obtain ⟨k, hk, rfl, rfl, ⟨n, rfl⟩, hne⟩ := hrel
              obtain ⟨y, ey⟩ : ∃ y, y = byOf h q2 k := ⟨_, rfl⟩
              have EY : Hid (y = byOf h q2 k) := ey
              rw [← ey]
              clear ey
              by_cases hki : k < i
              · have hk0 : (0 : Int) ≤ (k : Int) := by omega
                have hkl : (k : Int) < (len : Int) := by omega
                have hki' : (k : Int) < (i : Int) := by omega
                obtain ⟨x0, x1, x2⟩ := HCS.out k (by omega)
                obtain ⟨s, es⟩ : ∃ s, s = ev h k := ⟨_, rfl⟩
                rw [← es] at x0 x1 x2
                obtain ⟨s0, s1, s2⟩ := s
                have ES : Hid (ev h k = (s0, s1, s2)) := es.symm
                clear es
                have hev := eqEv s0 s1 s2 q0 3 q2
                by_cases g1 : s1 = 2
                · subst g1
                  have hr : (((q0, (3 : Int), q2) : Ev) == (s0, 2, s2)) = false := beq_eq_false_iff_ne.2 (fun q => by simp at q)
                  rw [hr] at hev
                  have HR : Hid ((ev h k == (q0, 3, q2)) = false) := by rw [ES.out]; exact beq_eq_false_iff_ne.2 (fun q => by simp at q)
                  clear hr
                  by_cases g2 : s2 = q2
                  · subst g2
                    go_wp2
                    go_quiet (fail)
                    go_wp2
                    go_quiet (fail)
                    go_wp2
                    go_roundw
                    case rel => exact ⟨k + 1, by omega, by go_num, by rw [byOf_step, ES.out, if_pos (by simp [says])], ⟨_, rfl⟩, fun j hj => if e : j < k then hne.out j e else by rw [show j = k by omega]; exact HR.out⟩
                    case measure => simp [intOf]; omega
                  · have g2' : (s2 == q2) = false := by simp [g2]
                    go_wp2
                    go_quiet (fail)
                    go_wp2
                    go_quiet (fail)
                    go_wp2
                    go_roundw
                    case rel => exact ⟨k + 1, by omega, by go_num, by rw [byOf_step, ES.out, if_neg (by simp [says, g2]), EY.out], ⟨_, rfl⟩, fun j hj => if e : j < k then hne.out j e else by rw [show j = k by omega]; exact HR.out⟩
                    case measure => simp [intOf]; omega
                · have g1' : (s1 == 2) = false := by simp [g1]
                  obtain ⟨r, er⟩ : ∃ r : Bool, r = (((q0, (3 : Int), q2) : Ev) == (s0, s1, s2)) := ⟨_, rfl⟩
                  rw [← er] at hev
                  have ER : Hid (r = (ev h k == (q0, 3, q2))) := by rw [ES.out, er]; exact BEq.comm
                  clear er
                  cases r
                  · go_wp2
                    go_quiet (fail)
                    go_wp2
                    go_quiet (fail)
                    go_wp2
                    go_roundw
                    case rel => exact ⟨k + 1, by omega, by go_num, by rw [byOf_step, ES.out, if_neg (by simp [says, g1]), EY.out], ⟨_, rfl⟩, fun j hj => if e : j < k then hne.out j e else by rw [show j = k by omega]; exact ER.out.symm⟩
                    case measure => simp [intOf]; omega
                  · have E := BAD.out 7 (N7.out (ANY1.out k hki ER.out.symm)) (by decide)
                    have EE : Hid _ := E
                    clear E
                    go_wp2
                    go_quiet (fail)
                    go_wp2
                    go_quiet (fail)
                    go_wp2
                    go_ret2
                    refine ⟨?_, by repeat (first | exact BQ.out | refine below_drewN ?_ _)⟩
                    rw [EE.out.1, EE.out.2]
                    rfl
              · have : k = i := by omega
                subst this
                have A0 := ANY0.out hne.out
                by_cases hy : y < 0
                · have EE : Hid _ := BAD.out 5 (N5.out A0 (by rw [← EY.out]; exact hy)) (by decide)
                  clear A0
                  go_wp2
                  go_ret2
                  refine ⟨?_, below_drewN BQ.out _⟩
                  rw [EE.out.1, EE.out.2]
                  rfl
                · have hy' : 0 ≤ y := by omega
                  by_cases hq : y = q0
                  · have EE : Hid _ := BAD.out 3 (N3'.out A0 (by rw [← EY.out]; omega) (by rw [← EY.out]; exact hq)) (by decide)
                    subst hq
                    clear A0
                    go_wp2
                    go_ret2
                    refine ⟨?_, below_drewN BQ.out _⟩
                    rw [EE.out.1, EE.out.2]
                    rfl
                  · have NN : Hid (next (h.take k) (q0, 3, q2) = 0) := N0'.out A0 (by rw [← EY.out]; omega) (by rw [← EY.out]; exact hq)
                    have hq' : (y == q0) = false := by simp [hq]
                    clear A0
                    go_wp2
                    go_roundw
                    case rel => exact ⟨k + 1, by have := LT.out; omega, by go_num, below_drewN BQ.out _, GO.out NN.out⟩
                    case measure => simp [intOf]; omega
      · have hil : i = len := by omega
        subst hil
        have E : Hid _ := chk_ok (h := h) (by rw [HL.out]; omega) (by rw [HL.out]; exact hg.out)
        go_wp2
        go_ret2
        refine ⟨?_, hbel.out⟩
        rw [E.out.1, E.out.2]
        rfl
end Go.Proofs.YtpjoaogiaacikakDoor.His
