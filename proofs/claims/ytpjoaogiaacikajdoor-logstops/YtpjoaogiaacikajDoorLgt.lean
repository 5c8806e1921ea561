/-
  LogStops: the walk.
-/
import Derived.Test.YtpjoaogiaacikajDoorLgsW
import Derived.Test.YtpjoaogiaacikajDoorLgtM
import Derived.Deep.CutBlock
import Derived.Deep.CutRange
namespace Go.Proofs.YtpjoaogiaacikajDoor.Lgs
open Go.RowKit
open Go.Proofs.YtpjoaogiaacikajDoor.Fif (own_lt own_block own_form own_mono)
open Go.Proofs.YtpjoaogiaacikajDoor.His (Ev ev errV errV_ok errV_no Eo Ew chkC chkAt chk_ok check_any flat_get)
open Go.Proofs.YtpjoaogiaacikajDoor.Sep (KpL NewL)
open Go.Proofs.YtpjoaogiaacikajDoor.As (Laid)
set_option linter.unusedVariables false

set_option maxRecDepth 100000 in
set_option maxHeartbeats 2000000 in
theorem stops_out (after many keep : Int) (w : World) (h : after < 0 ∨ 20 < after ∨ many < 0 ∨ 20 < many) : Calls Tryd.prog 7 #[.int .i64 after, .int .i64 many, .int .i64 keep] w fun x w' => x = .returned (.bool true) ∧ Below w.heap.size w w' := by
  cases d0 : decide (after < 0)
  · cases d1 : decide (after > 20)
    · cases d2 : decide (many < 0)
      · cases d3 : decide (many > 20)
        · exfalso
          simp at d0 d1 d2 d3
          omega
        · clear h
          go_enter Tryd.func7, Tryd.ntmps7
          go_wp2_with fail
          refine (LW.new w).mono ?_
          rintro e w1 ⟨P, rfl, hl⟩
          have L1 : Hid (LW w w1 w.heap.size P new) := hl
          clear hl
          go_wp2_with fail
          refine L1.out.bytes.mono ?_
          rintro e w2 ⟨rfl, hl⟩
          have L2 : Hid (LW w w2 w.heap.size P new) := hl
          clear hl
          rw [show bytes new = 0 from rfl]
          go_wp2_with fail
          refine L2.out.all.mono ?_
          rintro e w3 ⟨v, rfl, ho, hl, _⟩
          have L3 : Hid (LW w w3 w.heap.size P new) := hl
          obtain ⟨q, c, rfl⟩ := own_form ho
          rw [show new.es.length = 0 from rfl]
          clear hl ho
          go_wp2
          go_ret
          exact ⟨rfl, L3.out.bel⟩
      · clear h
        go_enter Tryd.func7, Tryd.ntmps7
        go_wp2_with fail
        refine (LW.new w).mono ?_
        rintro e w1 ⟨P, rfl, hl⟩
        have L1 : Hid (LW w w1 w.heap.size P new) := hl
        clear hl
        go_wp2_with fail
        refine L1.out.bytes.mono ?_
        rintro e w2 ⟨rfl, hl⟩
        have L2 : Hid (LW w w2 w.heap.size P new) := hl
        clear hl
        rw [show bytes new = 0 from rfl]
        go_wp2_with fail
        refine L2.out.all.mono ?_
        rintro e w3 ⟨v, rfl, ho, hl, _⟩
        have L3 : Hid (LW w w3 w.heap.size P new) := hl
        obtain ⟨q, c, rfl⟩ := own_form ho
        rw [show new.es.length = 0 from rfl]
        clear hl ho
        go_wp2
        go_ret
        exact ⟨rfl, L3.out.bel⟩
    · clear h
      go_enter Tryd.func7, Tryd.ntmps7
      go_wp2_with fail
      refine (LW.new w).mono ?_
      rintro e w1 ⟨P, rfl, hl⟩
      have L1 : Hid (LW w w1 w.heap.size P new) := hl
      clear hl
      go_wp2_with fail
      refine L1.out.bytes.mono ?_
      rintro e w2 ⟨rfl, hl⟩
      have L2 : Hid (LW w w2 w.heap.size P new) := hl
      clear hl
      rw [show bytes new = 0 from rfl]
      go_wp2_with fail
      refine L2.out.all.mono ?_
      rintro e w3 ⟨v, rfl, ho, hl, _⟩
      have L3 : Hid (LW w w3 w.heap.size P new) := hl
      obtain ⟨q, c, rfl⟩ := own_form ho
      rw [show new.es.length = 0 from rfl]
      clear hl ho
      go_wp2
      go_ret
      exact ⟨rfl, L3.out.bel⟩
  · clear h
    go_enter Tryd.func7, Tryd.ntmps7
    go_wp2_with fail
    refine (LW.new w).mono ?_
    rintro e w1 ⟨P, rfl, hl⟩
    have L1 : Hid (LW w w1 w.heap.size P new) := hl
    clear hl
    go_wp2_with fail
    refine L1.out.bytes.mono ?_
    rintro e w2 ⟨rfl, hl⟩
    have L2 : Hid (LW w w2 w.heap.size P new) := hl
    clear hl
    rw [show bytes new = 0 from rfl]
    go_wp2_with fail
    refine L2.out.all.mono ?_
    rintro e w3 ⟨v, rfl, ho, hl, _⟩
    have L3 : Hid (LW w w3 w.heap.size P new) := hl
    obtain ⟨q, c, rfl⟩ := own_form ho
    rw [show new.es.length = 0 from rfl]
    clear hl ho
    go_wp2
    go_ret
    exact ⟨rfl, L3.out.bel⟩
/-- a list of events that the call owns, seen -/
theorem eo_see {w : World} {base : Nat} {v : Value} {h : List Ev} (o : Eo w base v h) (hp : 0 < h.length) : ∃ g c, v = .slice (some ⟨g, 0, none⟩) h.length c ∧ Ew w (some ⟨g, 0, none⟩) h.length h ∧ h.length ≤ c ∧ c ≤ maxLen := by
  have o' := o
  obtain ⟨q, c, rfl⟩ := own_form o
  rcases o.2 with ⟨h2, h3⟩ | ⟨g, cap, cur, hv, _⟩
  · omega
  · injection hv with e1 e2 e3
    subst e1
    obtain ⟨_, e, h4, h5, _⟩ := o'.ew
    exact ⟨g, c, rfl, e, h4, h5⟩
set_option maxRecDepth 100000 in
set_option maxHeartbeats 8000000 in
theorem stops_in (a n : Nat) (keep : Int) (w : World) (hL : Laid w) (ha : a ≤ 20) (hn : n ≤ 20) : Calls Tryd.prog 7 #[.int .i64 (a : Int), .int .i64 (n : Int), .int .i64 keep] w fun x w' => x = .returned (.bool true) ∧ Below w.heap.size w w' := by
  have HL : Hid (Laid w) := hL
  have d0 : decide ((a : Int) < 0) = false := decide_eq_false (by omega)
  have d1 : decide ((a : Int) > 20) = false := decide_eq_false (by omega)
  have d2 : decide ((n : Int) < 0) = false := decide_eq_false (by omega)
  have d3 : decide ((n : Int) > 20) = false := decide_eq_false (by omega)
  have ha' : (a : Int) ≤ 20 := by omega
  have hn' : (n : Int) ≤ 20 := by omega
  clear hL
  go_enter Tryd.func7, Tryd.ntmps7
  go_wp2_with fail
  refine (LW.new w).mono ?_
  rintro e w1 ⟨P, rfl, hl⟩
  have L1 : Hid (LW w w1 w.heap.size P new) := hl
  clear hl
  go_wp2_with fail
  refine (L1.out.fail (a : Int) (by omega)).mono ?_
  rintro e w2 ⟨rfl, hl⟩
  have L2 : Hid (LW w w2 w.heap.size P (failL new (a : Int))) := hl
  clear hl d0 d1 d2 d3
  go_wp2_with fail
  go_loopw [8, 9] (fun x y wr => ∃ i : Nat, i ≤ n ∧ x = .int .i64 (i : Int) ∧ y = .int .i64 (i : Int) ∧ ∃ l, Hid (LW w wr w.heap.size P l) ∧ Hid (TS a i l)) (fun _ y _ => n - (intOf y).toNat)
  case atStart => exact ⟨0, by omega, rfl, rfl, _, L2.out, TS.start⟩
  case round =>
    clear L2
    obtain ⟨i, hin, rfl, rfl, l, hl, hT⟩ := hrel
    have TL : Hid (LW w wr w.heap.size P l ∧ TS a i l) := ⟨hl.out, hT.out⟩
    clear hl hT
    have hi0 : (0 : Int) ≤ (i : Int) := by omega
    by_cases hlt : i < n
    · have hin' : (i : Int) < (n : Int) := by omega
      rcases Nat.lt_trichotomy i a with q | q | q
      · skip
        have f1 : decide ((i : Int) > (a : Int)) = false := decide_eq_false (by omega)
        have f2 : decide ((i : Int) ≤ (a : Int)) = true := decide_eq_true (by omega)
        have f3 : ((i : Int) == (a : Int)) = false := by simp; omega
        have f4 : decide ((i : Int) < (a : Int)) = true := decide_eq_true (by omega)
        have hC1 : doC l wrong = 1 := by rw [TL.out.2.wrongC]; simp; try omega
        have hC2 : doC l think = 0 := by rw [TL.out.2.thinkC]; simp; try omega
        have HC : Hid (doC l wrong = 1 ∧ doC l think = 0) := ⟨hC1, hC2⟩
        clear hC1 hC2
        go_wp2_with fail
        refine (TL.out.1.do wrong).mono ?_
        rintro e w2 ⟨k2, rfl, _, hl⟩
        rw [TL.out.2.wrongL] at hl
        rw [HC.out.1]
        have L2 : Hid (LW w w2 w.heap.size P l) := hl
        clear hl
        go_wp2_with fail
        refine (L2.out.do think).mono ?_
        rintro e w3 ⟨k3, rfl, _, hl⟩
        rw [HC.out.2, errV_ok]
        have L3 : Hid (LW w w3 w.heap.size P (doL l think k3) ∧ TS a (i + 1) (doL l think k3)) := ⟨hl, TL.out.2.think k3 (by omega)⟩
        clear hl
        go_wp2_with fail
        refine (errV_same 1 6 w3 (HL.out.later L3.out.1.bel)).mono ?_
        rintro e w4 ⟨rfl, hb⟩
        have L4 : Hid (LW w w4 w.heap.size P (doL l think k3)) := L3.out.1.later hb
        clear hb
        go_wp2_with fail
        refine (errV_same 1 1 w4 (HL.out.later L4.out.bel)).mono ?_
        rintro e w5 ⟨rfl, hb⟩
        have L5 : Hid (LW w w5 w.heap.size P (doL l think k3)) := L4.out.later hb
        clear hb
        go_wp2_with fail
        refine (errV_same 0 6 w5 (HL.out.later L5.out.bel)).mono ?_
        rintro e w6 ⟨rfl, hb⟩
        have L6 : Hid (LW w w6 w.heap.size P (doL l think k3)) := L5.out.later hb
        clear hb
        go_wp2
        go_roundw
        case rel => exact ⟨i + 1, by omega, by go_num, by go_num, _, L6.out, L3.out.2⟩
        case measure => simp [intOf]; omega
      · skip
        have f1 : decide ((i : Int) > (a : Int)) = false := decide_eq_false (by omega)
        have f2 : decide ((i : Int) ≤ (a : Int)) = true := decide_eq_true (by omega)
        have f3 : ((i : Int) == (a : Int)) = true := by simp; omega
        have f4 : decide ((i : Int) < (a : Int)) = false := decide_eq_false (by omega)
        have hC1 : doC l wrong = 1 := by rw [TL.out.2.wrongC]; simp; try omega
        have hC2 : doC l think = 6 := by rw [TL.out.2.thinkC]; simp; try omega
        have HC : Hid (doC l wrong = 1 ∧ doC l think = 6) := ⟨hC1, hC2⟩
        clear hC1 hC2
        go_wp2_with fail
        refine (TL.out.1.do wrong).mono ?_
        rintro e w2 ⟨k2, rfl, _, hl⟩
        rw [TL.out.2.wrongL] at hl
        rw [HC.out.1]
        have L2 : Hid (LW w w2 w.heap.size P l) := hl
        clear hl
        go_wp2_with fail
        refine (L2.out.do think).mono ?_
        rintro e w3 ⟨k3, rfl, _, hl⟩
        rw [HC.out.2]
        have L3 : Hid (LW w w3 w.heap.size P (doL l think k3) ∧ TS a (i + 1) (doL l think k3)) := ⟨hl, TL.out.2.think k3 (by omega)⟩
        clear hl
        go_wp2_with fail
        refine (errV_same 1 6 w3 (HL.out.later L3.out.1.bel)).mono ?_
        rintro e w4 ⟨rfl, hb⟩
        have L4 : Hid (LW w w4 w.heap.size P (doL l think k3)) := L3.out.1.later hb
        clear hb
        go_wp2_with fail
        refine (errV_same 1 1 w4 (HL.out.later L4.out.bel)).mono ?_
        rintro e w5 ⟨rfl, hb⟩
        have L5 : Hid (LW w w5 w.heap.size P (doL l think k3)) := L4.out.later hb
        clear hb
        go_wp2_with fail
        refine (errV_same 6 6 w5 (HL.out.later L5.out.bel)).mono ?_
        rintro e w6 ⟨rfl, hb⟩
        have L6 : Hid (LW w w6 w.heap.size P (doL l think k3)) := L5.out.later hb
        clear hb
        go_wp2
        go_roundw
        case rel => exact ⟨i + 1, by omega, by go_num, by go_num, _, L6.out, L3.out.2⟩
        case measure => simp [intOf]; omega
      · skip
        have f1 : decide ((i : Int) > (a : Int)) = true := decide_eq_true (by omega)
        have f2 : decide ((i : Int) ≤ (a : Int)) = false := decide_eq_false (by omega)
        have f3 : ((i : Int) == (a : Int)) = false := by simp; omega
        have f4 : decide ((i : Int) < (a : Int)) = false := decide_eq_false (by omega)
        have hC1 : doC l wrong = 6 := by rw [TL.out.2.wrongC]; simp; try omega
        have hC2 : doC l think = 6 := by rw [TL.out.2.thinkC]; simp; try omega
        have HC : Hid (doC l wrong = 6 ∧ doC l think = 6) := ⟨hC1, hC2⟩
        clear hC1 hC2
        go_wp2_with fail
        refine (TL.out.1.do wrong).mono ?_
        rintro e w2 ⟨k2, rfl, _, hl⟩
        rw [TL.out.2.wrongL] at hl
        rw [HC.out.1]
        have L2 : Hid (LW w w2 w.heap.size P l) := hl
        clear hl
        go_wp2_with fail
        refine (L2.out.do think).mono ?_
        rintro e w3 ⟨k3, rfl, _, hl⟩
        rw [HC.out.2]
        have L3 : Hid (LW w w3 w.heap.size P (doL l think k3) ∧ TS a (i + 1) (doL l think k3)) := ⟨hl, TL.out.2.think k3 (by omega)⟩
        clear hl
        go_wp2_with fail
        refine (errV_same 6 6 w3 (HL.out.later L3.out.1.bel)).mono ?_
        rintro e w4 ⟨rfl, hb⟩
        have L4 : Hid (LW w w4 w.heap.size P (doL l think k3)) := L3.out.1.later hb
        clear hb
        go_wp2_with fail
        refine (errV_same 6 1 w4 (HL.out.later L4.out.bel)).mono ?_
        rintro e w5 ⟨rfl, hb⟩
        have L5 : Hid (LW w w5 w.heap.size P (doL l think k3)) := L4.out.later hb
        clear hb
        go_wp2_with fail
        refine (errV_same 6 6 w5 (HL.out.later L5.out.bel)).mono ?_
        rintro e w6 ⟨rfl, hb⟩
        have L6 : Hid (LW w w6 w.heap.size P (doL l think k3)) := L5.out.later hb
        clear hb
        go_wp2
        go_roundw
        case rel => exact ⟨i + 1, by omega, by go_num, by go_num, _, L6.out, L3.out.2⟩
        case measure => simp [intOf]; omega
    · have hin' : ¬ (i : Int) < (n : Int) := by omega
      go_wp2_with fail
      go_loopw [8] (fun x wr => ∃ s : Nat, s ≤ 21 ∧ x = .int .i64 (s : Int) ∧ ∃ l, Hid (LW w wr w.heap.size P l) ∧ Hid (TS a s l)) (fun x _ => 21 - (intOf x).toNat)
      case atStart => exact ⟨i, by omega, rfl, l, TL.out.1, TL.out.2⟩
      case round =>
        clear TL hin' hlt
        obtain ⟨s, hs, rfl, l, hl, hT⟩ := hrel
        have TL : Hid (LW w wr w.heap.size P l ∧ TS a s l) := ⟨hl.out, hT.out⟩
        clear hl hT
        have hs0 : (0 : Int) ≤ (s : Int) := by omega
        by_cases hle : s ≤ a
        · have hle' : decide ((s : Int) ≤ (a : Int)) = true := decide_eq_true (by omega)
          by_cases hlt2 : s < a
          · have f3 : ((s : Int) == (a : Int)) = false := by simp; omega
            have hC : syncC l = 0 := by rw [TL.out.2.syncC, if_pos hlt2]
            go_wp2_with fail
            refine TL.out.1.sync.mono ?_
            rintro e w2 ⟨rfl, hl⟩
            rw [hC, errV_ok]
            have L2 : Hid (LW w w2 w.heap.size P (syncL l)) := hl
            clear hl
            go_wp2
            go_roundw
            case rel => exact ⟨s + 1, by omega, by go_num, _, L2.out, TL.out.2.sync⟩
            case measure => simp [intOf]; omega
          · have f3 : ((s : Int) == (a : Int)) = true := by simp; omega
            have hC : syncC l = 6 := by rw [TL.out.2.syncC, if_neg hlt2]
            go_wp2_with fail
            refine TL.out.1.sync.mono ?_
            rintro e w2 ⟨rfl, hl⟩
            rw [hC, errV_no (by decide)]
            have L2 : Hid (LW w w2 w.heap.size P (syncL l)) := hl
            clear hl
            go_wp2
            go_roundw
            case rel => exact ⟨s + 1, by omega, by go_num, _, L2.out, TL.out.2.sync⟩
            case measure => simp [intOf]; omega
        · have hle' : decide ((s : Int) ≤ (a : Int)) = false := decide_eq_false (by omega)
          obtain ⟨z1, z2, z3, z4⟩ := TL.out.2.stopped (by omega) think
          obtain ⟨y1, _, _, y4⟩ := TL.out.2.stopped (by omega) (1, 1, 0)
          have Z : Hid (syncC l = 6 ∧ syncL l = l ∧ doC l (1, 1, 0) = 6 ∧ ∀ k, doL l (1, 1, 0) k = l) := ⟨z2, z3, y1, y4⟩
          obtain ⟨m, m1, m2, m3, m4⟩ := TL.out.2.crash keep
          have M : Hid (m ≤ 20 ∧ (crashL l keep).es = List.replicate m think ∧ (crashL l keep).stop = false ∧ (crashL l keep).left = -1) := ⟨m1, m2, m3, m4⟩
          clear z1 z2 z3 z4 y1 y4 m1 m2 m3 m4
          go_wp2_with fail
          refine TL.out.1.sync.mono ?_
          rintro e w2 ⟨rfl, hl⟩
          rw [Z.out.1]
          rw [Z.out.2.1] at hl
          have L2 : Hid (LW w w2 w.heap.size P l) := hl
          clear hl
          go_wp2_with fail
          refine (L2.out.do (1, 1, 0)).mono ?_
          rintro e w3 ⟨k3, rfl, _, hl⟩
          rw [Z.out.2.2.2] at hl
          rw [Z.out.2.2.1]
          have L3 : Hid (LW w w3 w.heap.size P l) := hl
          clear hl
          go_wp2_with fail
          refine (errV_same 6 6 w3 (HL.out.later L3.out.bel)).mono ?_
          rintro e w4 ⟨rfl, hb⟩
          have L4 : Hid (LW w w4 w.heap.size P l) := L3.out.later hb
          clear hb
          go_wp2_with fail
          refine (errV_same 6 6 w4 (HL.out.later L4.out.bel)).mono ?_
          rintro e w5 ⟨rfl, hb⟩
          have L5 : Hid (LW w w5 w.heap.size P l) := L4.out.later hb
          clear hb
          go_wp2_with fail
          refine (L5.out.crash keep).mono ?_
          rintro e w6 ⟨rfl, hl⟩
          obtain ⟨lc, elc⟩ : ∃ lc, lc = crashL l keep := ⟨_, rfl⟩
          rw [← elc] at hl M
          have L6 : Hid (LW w w6 w.heap.size P lc) := hl
          clear hl elc
          go_wp2_with fail
          refine L6.out.all.mono ?_
          rintro e w7 ⟨u, rfl, ho, hl, _⟩
          have L7 : Hid (LW w w7 w.heap.size P lc) := hl
          obtain ⟨q7, c7, rfl⟩ := own_form ho
          rw [M.out.2.1, List.length_replicate]
          clear hl ho
          have hm' : (m : Int) ≤ 20 := by have := M.out.1; omega
          go_wp2_with fail
          refine (L7.out.do word4).mono ?_
          rintro e w8 ⟨k8, rfl, _, hl⟩
          obtain ⟨g1, g2, g3, g4⟩ := goes_on M.out.1 M.out.2.1 M.out.2.2.1 M.out.2.2.2 k8
          rw [g1, errV_ok]
          have L8 : Hid (LW w w8 w.heap.size P (doL lc word4 k8) ∧ syncC (doL lc word4 k8) = 0 ∧ (syncL (doL lc word4 k8)).es = List.replicate m think ++ [word4]) := ⟨hl, g3, g4⟩
          clear hl g1 g2 g3 g4
          go_wp2_with fail
          refine L8.out.1.sync.mono ?_
          rintro e w9 ⟨rfl, hl⟩
          rw [L8.out.2.1, errV_ok]
          have L9 : Hid (LW w w9 w.heap.size P (syncL (doL lc word4 k8))) := hl
          clear hl
          go_wp2_with fail
          refine L9.out.all.mono ?_
          rintro e w10 ⟨u, rfl, ho, hl, _⟩
          have L10 : Hid (LW w w10 w.heap.size P (syncL (doL lc word4 k8))) := hl
          rw [L8.out.2.2] at ho
          have hlen : (List.replicate m think ++ [word4]).length = m + 1 := by simp
          obtain ⟨g, c, rfl, hw, hc1, hc2⟩ := eo_see ho (by rw [hlen]; omega)
          rw [hlen] at hw hc1 ⊢
          have W10 : Hid (Ew w10 (some ⟨g, 0, none⟩) (m + 1) (List.replicate m think ++ [word4]) ∧ m + 1 ≤ c ∧ c ≤ maxLen) := ⟨hw, hc1, hc2⟩
          clear ho hl hw hc1 hc2 hlen
          go_wp2_with fail
          refine (check_any (some ⟨g, 0, none⟩) (m + 1) c (List.replicate m think ++ [word4]) w10 W10.out.2.1 W10.out.2.2 W10.out.1).mono ?_
          rintro e w11 ⟨rfl, hb⟩
          rw [chk_word (by have := M.out.1; omega), errV_ok]
          have B11 : Hid (Below w.heap.size w w11) := L10.out.bel.trans (hb.mono L10.out.bel.size)
          obtain ⟨b, off, eb, hlt9, hcell⟩ := (W10.out.1.later hb).2 (by omega)
          simp only [Option.some.injEq, Addr.mk.injEq] at eb
          obtain ⟨rfl, rfl, _⟩ := eb
          have c4 := (hcell m (by omega)).2.2
          rw [show (ev (List.replicate m think ++ [word4]) m).2.2 = 4 by simp [ev, List.getD, word4]] at c4
          rw [Nat.zero_add] at c4
          have dm : ((m : Int) + 1 == (m : Int) + 1) = true := by simp
          clear hb hcell
          go_wp2
          go_ret
          exact ⟨rfl, B11.out⟩
theorem stops_any (after many keep : Int) (w : World) (hL : Laid w) : Calls Tryd.prog 7 #[.int .i64 after, .int .i64 many, .int .i64 keep] w fun x w' => x = .returned (.bool true) ∧ Below w.heap.size w w' := by
  by_cases h : after < 0 ∨ 20 < after ∨ many < 0 ∨ 20 < many
  · exact stops_out after many keep w h
  · obtain ⟨a, rfl⟩ : ∃ a : Nat, after = (a : Int) := ⟨after.toNat, by omega⟩
    obtain ⟨n, rfl⟩ : ∃ n : Nat, many = (n : Int) := ⟨many.toNat, by omega⟩
    exact stops_in a n keep w hL (by omega) (by omega)
end Go.Proofs.YtpjoaogiaacikajDoor.Lgs
