/-
  The walk of CastCausal: whatever comes late, twice, or never, a group's history is right, causal and fifo; and when all that is on its way has come, and nothing was dropped, all heard all.
-/
import Derived.Test.YtdhlfbpflngmbadGreatDoorMgQ
import Derived.Test.YtdhlfbpflngmbadGreatDoorFacF
import Derived.Test.YtdhlfbpflngmbadGreatDoorRowsF
import Derived.Laws.ResultCell
import Derived.Deep.CutRange
namespace Go.Proofs.YtdhlfbpflngmbadGreatDoor.Cas
open Go.RowKit
open Go.Proofs.YtdhlfbpflngmbadGreatDoor.Net (Pk pk Po errF errF_ok errF_no KpL NewL dropC twC C3 c3_of isIn)
open Go.Proofs.YtdhlfbpflngmbadGreatDoor.As (Laid)
open Go.Proofs.YtdhlfbpflngmbadGreatDoor.Fif (own_lt own_block own_form own_mono Kp ret_bool)
open Go.Proofs.YtdhlfbpflngmbadGreatDoor.Vec (Vw Rw)
open Go.Proofs.YtdhlfbpflngmbadGreatDoor.His (Ev Ew ev nS nH fifoB causB totB)
set_option linter.unusedVariables false

theorem ev_view {w : World} {base : Nat} {v : Value} {H : List Ev} (o : w.ownsRow base 43 3 v H.length (Net.flat H)) : ∃ q c, v = .slice q H.length c ∧ H.length ≤ c ∧ c ≤ maxLen ∧ Ew w q H.length H := by
  rcases o.2 with ⟨h2, h3⟩ | ⟨g, cap, cur, hv, hb, hh, hc, hm, hsz, ht⟩
  · exact ⟨none, 0, by rw [h3]; exact h2, by omega, by unfold maxLen; omega, rfl, fun q => absurd q (by omega)⟩
  · refine ⟨_, cap, hv, hc, hm, rfl, fun _ => ⟨g, 0, rfl, ?_, fun k hk => ?_⟩⟩
    · rcases Nat.lt_or_ge g w.heap.size with q | q
      · exact q
      · rw [Array.getElem?_eq_none q] at hh; cases hh
    · have key : ∀ j u, j < H.length * 3 → (Net.flat H)[j]? = some u → w.cell? ⟨g, j, none⟩ = some u := by
        intro j u hj hu
        rw [← ht, List.getElem?_take_of_lt hj] at hu
        simp only [World.cell?, hh]
        simpa using hu
      obtain ⟨a, b, c⟩ := Net.flat_get H k hk
      rw [Nat.zero_add]
      exact ⟨key _ _ (by omega) a, key _ _ (by omega) b, key _ _ (by omega) c⟩
theorem ca_lat {w w' : World} {base P : Nat} {g : G} {fp : List Nat} (h : CA w base P g fp) (hb : Below w.heap.size w w') : CA w' base P g fp := h.of_blocks hb.size fun b q => hb.block b (h.fp b q).2
/-- how the group stands at any time -/
def CI (x wr : World) (P n : Nat) (drops : Bool) : Prop := ∃ g fp, CA wr x.heap.size P g fp ∧ GI g ∧ g.n = n ∧ (drops = false → ND g) ∧ Below x.heap.size x wr
theorem CI.later {x wr w' : World} {P n : Nat} {drops : Bool} (h : CI x wr P n drops) (hb : Below wr.heap.size wr w') : CI x w' P n drops := by
  obtain ⟨g, fp, h1, h2, h3, h4, h5⟩ := h
  exact ⟨g, fp, ca_lat h1 hb, h2, h3, h4, h5.trans (hb.mono h5.size)⟩
theorem CI.bel {x wr : World} {P n : Nat} {drops : Bool} (h : CI x wr P n drops) : Below x.heap.size x wr := by
  obtain ⟨g, fp, h1, h2, h3, h4, h5⟩ := h
  exact h5
theorem say_n (g : G) (a b : Int) : (say g a b).n = g.n := by unfold say; split <;> rfl
theorem give_n (g : G) (i : Int) : (give g i).n = g.n := by unfold give; split <;> rfl
theorem drop_n (g : G) (i : Int) : (drop g i).n = g.n := rfl
theorem twice_n (g : G) (i : Int) : (twice g i).n = g.n := rfl
theorem sayW {x wr : World} {P n : Nat} {drops : Bool} (h : CI x wr P n drops) (hL : Laid wr) (a b : Int) : Calls Tryz.prog 5 #[.pointer (some ⟨P, 0, none⟩), .int .i64 a, .int .i64 b] wr fun e w' => ∃ v, e = .returned v ∧ CI x w' P n drops := by
  obtain ⟨g, fp, h1, h2, h3, h4, h5⟩ := h
  refine (sayC_any x.heap.size P g fp a b wr h1 h2 h5.size hL).mono ?_
  rintro e w' ⟨fp', rfl, q1, q2, _⟩
  exact ⟨_, rfl, _, _, q1, say_gi h2 _ _, by rw [say_n]; exact h3, fun q => say_nd h2 (h4 q) _ _, h5.trans q2⟩
theorem giveW' {x wr : World} {P n : Nat} {drops : Bool} (h : CI x wr P n drops) (hL : Laid wr) (i : Int) : Calls Tryz.prog 6 #[.pointer (some ⟨P, 0, none⟩), .int .i64 i] wr fun e w' => ∃ v, e = .returned v ∧ CI x w' P n drops := by
  obtain ⟨g, fp, h1, h2, h3, h4, h5⟩ := h
  refine (giveC_any x.heap.size P g fp i wr h1 h2 h5.size hL).mono ?_
  rintro e w' ⟨fp', vo, rfl, q1, _, q2, _⟩
  exact ⟨_, rfl, _, _, q1, give_gi h2 _, by rw [give_n]; exact h3, fun q => give_nd h2 (h4 q) _, h5.trans q2⟩
theorem dropW {x wr : World} {P n : Nat} (h : CI x wr P n true) (hL : Laid wr) (i : Int) : Calls Tryz.prog 7 #[.pointer (some ⟨P, 0, none⟩), .int .i64 i] wr fun e w' => ∃ v, e = .returned v ∧ CI x w' P n true := by
  obtain ⟨g, fp, h1, h2, h3, h4, h5⟩ := h
  refine (dropC_any x.heap.size P g fp i wr h1 h2 h5.size hL).mono ?_
  rintro e w' ⟨fp', rfl, q1, q2, _⟩
  exact ⟨_, rfl, _, _, q1, drop_gi h2 _, h3, fun q => (by cases q), h5.trans q2⟩
theorem twiceW {x wr : World} {P n : Nat} {drops : Bool} (h : CI x wr P n drops) (hL : Laid wr) (i : Int) : Calls Tryz.prog 8 #[.pointer (some ⟨P, 0, none⟩), .int .i64 i] wr fun e w' => ∃ v, e = .returned v ∧ CI x w' P n drops := by
  obtain ⟨g, fp, h1, h2, h3, h4, h5⟩ := h
  refine (twiceC_any x.heap.size P g fp i wr h1 h2 h5.size hL).mono ?_
  rintro e w' ⟨fp', rfl, q1, q2, _⟩
  exact ⟨_, rfl, _, _, q1, twice_gi h2 _, h3, fun q => twice_nd (h4 q) _, h5.trans q2⟩
theorem give_len {g : G} {i : Int} (h : isIn g.l i = true) : (give g i).l.length + 1 = g.l.length := by
  obtain ⟨k, rfl, hk⟩ := Net.isIn_yes h
  unfold give
  rw [if_pos h]
  show (g.l.eraseIdx (k : Int).toNat).length + 1 = _
  rw [Int.toNat_natCast, List.length_eraseIdx, if_pos hk]
  omega
theorem nS_bd (h : List Ev) : ∀ n, 0 ≤ nS h n ∧ nS h n ≤ n ∧ 0 ≤ nH h n ∧ nH h n ≤ n := by
  intro n
  induction n with
  | zero => exact ⟨Int.le_refl _, Int.le_refl _, Int.le_refl _, Int.le_refl _⟩
  | succ n ih =>
    show 0 ≤ nS h n + _ ∧ nS h n + _ ≤ _ ∧ 0 ≤ nH h n + _ ∧ nH h n + _ ≤ _
    by_cases a : (ev h n).2.1 = 2
    · rw [if_pos a, if_neg (by omega)]; omega
    · by_cases b : (ev h n).2.1 = 3
      · rw [if_neg a, if_pos b]; omega
      · rw [if_neg a, if_neg b]; omega
theorem first0 : sayC (start 2) 0 7 = 0 := by decide
theorem first1 : giveC (say (start 2) 0 7) 0 = 0 := by kernel_rfl
theorem first2 : giveW (say (start 2) 0 7) 0 = [7] := by kernel_rfl
/-- three numbers in a variable of the round's own -/
def R3 (wo wz : World) : Prop := ∃ f : Nat → Int, wz.rowIs wo.heap.size 32 3 (fun t => .int .i64 (f t)) ∧ Below wo.heap.size wo wz
/-- the group of two that stands ahead of all -/
theorem fact_view {w : World} {base : Nat} {v : Value} (o : w.ownsRow base 3 1 v [(7 : Int)].length ([(7 : Int)].map (Value.int .i64))) : ∃ b c, v = .slice (some ⟨b, 0, none⟩) 1 c ∧ w.cell? ⟨b, 0, none⟩ = some (.int .i64 7) := by
  rcases o.2 with ⟨_, h3⟩ | ⟨g, cap, cur, hv, hb, hh, hc, hm, hsz, ht⟩
  · simp at h3
  · refine ⟨g, cap, hv, ?_⟩
    have q : ([(7 : Int)].map (Value.int .i64))[0]? = some (.int .i64 7) := rfl
    rw [← ht] at q
    simp only [List.length_cons, List.length_nil, List.getElem?_take_of_lt (show 0 < (0 + 1) * 1 by omega)] at q
    simp only [World.cell?, hh]
    simpa using q
set_option maxRecDepth 100000 in
set_option maxHeartbeats 4000000 in
theorem ccs_bad (n : Int) (a : Option Addr) (len cap : Nat) (drops : Bool) (w : World) (hL : Laid w) (h : n < 2 ∨ 5 < n) :
    Calls Tryz.prog 3 #[.int .i64 n, .slice a len cap, .bool drops] w fun e w' => e = .returned (.bool true) ∧ Below w.heap.size w w' := by
  have HL : Hid (Laid w) := hL
  clear hL
  go_enter Tryz.func3, Tryz.ntmps3
  go_wp2_with fail
  refine (newC_ok 2 w (by omega) (by omega) HL.out).mono ?_
  rintro e x1 ⟨P1, fp1, rfl, hA, hb⟩
  have A1 : Hid (CA x1 w.heap.size P1 (start 2) fp1 ∧ Below w.heap.size w x1) := ⟨hA, hb⟩
  clear hA hb
  go_wp2_with fail
  refine (sayC_any w.heap.size P1 (start 2) fp1 0 7 x1 A1.out.1 (start_gi (by omega) (by omega)).1 A1.out.2.size (HL.out.later A1.out.2)).mono ?_
  rintro e x2 ⟨fp2, rfl, hA, hb, _, _⟩
  rw [first0, errF_ok]
  have A2 : Hid (CA x2 w.heap.size P1 (say (start 2) 0 7) fp2 ∧ Below w.heap.size w x2) := ⟨hA, A1.out.2.trans hb⟩
  clear hA hb
  go_wp2_with fail
  refine (giveC_any w.heap.size P1 (say (start 2) 0 7) fp2 0 x2 A2.out.1 (say_gi (start_gi (by omega) (by omega)).1 _ _) A2.out.2.size (HL.out.later A2.out.2)).mono ?_
  rintro e x3 ⟨fp3, vo, rfl, _, ho, hb, _, _, _⟩
  rw [first1, errF_ok]
  rw [first2] at ho
  obtain ⟨bo, co, rfl, cvo⟩ := fact_view ho
  have B3 : Hid (Below w.heap.size w x3) := A2.out.2.trans hb
  clear ho hb
  go_wp2_with fail
  clear cvo
  refine (newC_no n x3 h).mono ?_
  rintro e x4 ⟨v, rfl, hb⟩
  rw [errF_no (by decide)]
  have B4 : Hid (Below w.heap.size w x4) := B3.out.trans (hb.mono B3.out.size)
  clear hb
  go_wp2
  go_ret
  exact ⟨rfl, B4.out⟩
set_option maxRecDepth 100000 in
set_option maxHeartbeats 8000000 in
theorem ccs_ok (n : Nat) (a : Option Addr) (len cap : Nat) (ls : List (List Int)) (drops : Bool) (w : World) (hL : Laid w) (hR : Rw w a len ls) (h2 : 2 ≤ n) (h5 : n ≤ 5) :
    Calls Tryz.prog 3 #[.int .i64 (n : Int), .slice a len cap, .bool drops] w fun e w' => e = .returned (.bool true) ∧ Below w.heap.size w w' := by
  have HL : Hid (Laid w ∧ Rw w a len ls) := ⟨hL, hR⟩
  have hlm : len ≤ maxLen := hR.2.1
  have hn2 : (2 : Int) ≤ (n : Int) := by omega
  have hn5 : (n : Int) ≤ 5 := by omega
  clear hL hR
  go_enter Tryz.func3, Tryz.ntmps3
  go_wp2_with fail
  refine (newC_ok 2 w (by omega) (by omega) HL.out.1).mono ?_
  rintro e x1 ⟨P1, fp1, rfl, hA, hb⟩
  have A1 : Hid (CA x1 w.heap.size P1 (start 2) fp1 ∧ Below w.heap.size w x1) := ⟨hA, hb⟩
  clear hA hb
  go_wp2_with fail
  refine (sayC_any w.heap.size P1 (start 2) fp1 0 7 x1 A1.out.1 (start_gi (by omega) (by omega)).1 A1.out.2.size (HL.out.1.later A1.out.2)).mono ?_
  rintro e x2 ⟨fp2, rfl, hA, hb, _, _⟩
  rw [first0, errF_ok]
  have A2 : Hid (CA x2 w.heap.size P1 (say (start 2) 0 7) fp2 ∧ Below w.heap.size w x2) := ⟨hA, A1.out.2.trans hb⟩
  clear hA hb
  go_wp2_with fail
  refine (giveC_any w.heap.size P1 (say (start 2) 0 7) fp2 0 x2 A2.out.1 (say_gi (start_gi (by omega) (by omega)).1 _ _) A2.out.2.size (HL.out.1.later A2.out.2)).mono ?_
  rintro e x3 ⟨fp3, vo, rfl, _, ho, hb, _, _, _⟩
  rw [first1, errF_ok]
  rw [first2] at ho
  obtain ⟨bo, co, rfl, cvo⟩ := fact_view ho
  have B3 : Hid (Below w.heap.size w x3) := A2.out.2.trans hb
  clear ho hb
  go_wp2_with fail
  clear cvo
  refine (newC_ok n x3 h2 h5 (HL.out.1.later B3.out)).mono ?_
  rintro e x4 ⟨P, fp4, rfl, hA, hb⟩
  have C4 : Hid (CI x3 x4 P n drops ∧ Below w.heap.size w x3) := by
    refine ⟨⟨start n, fp4, hA, (start_gi h2 h5).1, rfl, fun _ => (start_gi h2 h5).2, hb⟩, B3.out⟩
  clear hA hb
  go_wp2
  go_loopw [12] (fun y wr => ∃ i : Nat, i ≤ len ∧ y = .int .i64 (i : Int) ∧ Hid (CI x3 wr P n drops)) (fun y _ => len - (intOf y).toNat)
  case atStart => exact ⟨0, by omega, rfl, C4.out.1⟩
  case round =>
    obtain ⟨i, hi, rfl, hC⟩ := hrel
    by_cases hgo : (i : Int) < (len : Int) ∧ (i : Int) < 120
    · obtain ⟨hil, hi120⟩ := hgo
      obtain ⟨wo, ewo⟩ : ∃ wo, wo = wr := ⟨_, rfl⟩
      subst ewo
      have hi0 : (0 : Int) ≤ (i : Int) := by omega
      have BO : Hid (Below w.heap.size w wo ∧ Laid wo) := by
        have b := C4.out.2.trans (hC.out.bel.mono C4.out.2.size)
        exact ⟨b, HL.out.1.later b⟩
      obtain ⟨rb, ro, rfl, hrb, hrc⟩ := (HL.out.2.later BO.out.1).2.2 (by omega)
      obtain ⟨qi, ci, g0, hvi, hmi⟩ := hrc i (by omega)
      obtain ⟨li, eli⟩ : ∃ li, li = (ls.getD i []).length := ⟨_, rfl⟩
      rw [← eli] at g0 hvi hmi
      have XV : Hid (wo.cell? ⟨rb, ro + i, none⟩ = some (.slice qi li ci) ∧ rb < wo.heap.size ∧ Vw wo qi li (ls.getD i [])) := ⟨g0, hrb, hvi⟩
      have hmi2 : (li : Int) ≤ 9223372036854775807 := by unfold maxLen at hmi; omega
      clear hrc g0 hrb hvi hmi eli
      have A1 : Hid (R3 wo (wo.alloc (.cells #[.int .i64 0, .int .i64 0, .int .i64 0] 32))) := by
        refine ⟨fun _ => 0, ?_, (Below.refl _ _).alloc (Nat.le_refl _) _⟩
        exact World.rowIs_alloc wo #[.int .i64 0, .int .i64 0, .int .i64 0] 32 _ (fun t ht => by rcases t with _ | _ | _ | t <;> first | rfl | (exfalso; have : _ < 3 := ht; omega))
      go_wp2_with fail
      go_loopw [14] (fun y wz => ∃ j : Nat, j ≤ 3 ∧ y = .int .i64 (j : Int) ∧ Hid (R3 wo wz)) (fun y _ => 3 - (intOf y).toNat)
      case atStart => exact ⟨0, by omega, rfl, A1⟩
      case round =>
        obtain ⟨j, hj, rfl, hA⟩ := hrel
        have x0 : wr.cell? ⟨rb, ro + i, none⟩ = some (.slice qi li ci) := by
          obtain ⟨f, _, hb⟩ := hA.out
          exact (hb.cell (p := ⟨rb, ro + i, none⟩) XV.out.2.1).trans XV.out.1
        have hj0 : (0 : Int) ≤ (j : Int) := by omega
        by_cases hjl : (j : Int) < (li : Int) ∧ (j : Int) < 3
        · obtain ⟨hjl, hj3⟩ := hjl
          obtain ⟨f, hf, hb⟩ := hA.out
          obtain ⟨bi, oi, rfl, hlti, hci⟩ := XV.out.2.2.2 (by omega)
          have y0 := (hb.cell (p := ⟨bi, oi + j, none⟩) hlti).trans (hci j (by omega))
          have c0 := World.rowIs.cell hf (i := j) (by omega)
          have z0 := World.rowIs.frozen hf j
          obtain ⟨yv, ey⟩ : ∃ yv, yv = (ls.getD i []).getD j 0 := ⟨_, rfl⟩
          rw [← ey] at y0
          have FB : Hid (wr.rowIs wo.heap.size 32 3 (fun t => .int .i64 (f t)) ∧ Below wo.heap.size wo wr) := ⟨hf, hb⟩
          clear hf hb hci hlti ey hA
          go_wp2
          go_roundw
          case rel =>
            refine ⟨j + 1, by omega, by go_num, fun t => if t = j then yv else f t, (World.rowIs.set FB.out.1 j _).congr fun t ht => ?_, FB.out.2.setCell (p := ⟨wo.heap.size, j, none⟩) (Nat.le_refl _) _⟩
            by_cases e : t = j
            · rw [if_pos e]; simp [e]
            · rw [if_neg e]; simp [e]
          case measure => simp [intOf]; omega
        · obtain ⟨f, hf, hb⟩ := hA.out
          have c0 := World.rowIs.cell hf (i := 0) (by omega)
          have c1 := World.rowIs.cell hf (i := 1) (by omega)
          have c2 := World.rowIs.cell hf (i := 2) (by omega)
          obtain ⟨k0, ek0⟩ : ∃ k, k = f 0 := ⟨_, rfl⟩
          obtain ⟨k1, ek1⟩ : ∃ k, k = f 1 := ⟨_, rfl⟩
          obtain ⟨k2, ek2⟩ : ∃ k, k = f 2 := ⟨_, rfl⟩
          rw [← ek0] at c0
          rw [← ek1] at c1
          rw [← ek2] at c2
          have CZ : Hid (CI x3 wr P n drops ∧ Laid wr) := ⟨hC.out.later hb, BO.out.2.later hb⟩
          have hex : ((j : Int) < (li : Int) ∧ ¬ (j : Int) < 3) ∨ ¬ (j : Int) < (li : Int) := by omega
          clear hf hb ek0 ek1 ek2 hA A1
          have hwi : (j : Int) < (li : Int) → (j : Int) < 3 → False := fun q1 q2 => hjl ⟨q1, q2⟩
          clear hjl
          rcases hex with ⟨e1, e2⟩ | e1
          all_goals
            clear hwi
            by_cases q0 : k0 = 0
            · subst q0
              go_wp2_with fail
              refine (sayW CZ.out.1 CZ.out.2 k1 k2).mono ?_
              rintro e w7 ⟨vr, rfl, hc7⟩
              have C7 : Hid (CI x3 w7 P n drops) := hc7
              clear hc7
              go_wp2
              go_roundw
              case rel => exact ⟨i + 1, by omega, by go_num, C7.out⟩
              case measure => simp [intOf]; omega
            · have q0' : (k0 == 0) = false := by simp [q0]
              by_cases q1 : k0 = 1
              · subst q1
                go_wp2_with fail
                refine (sayW CZ.out.1 CZ.out.2 k1 k2).mono ?_
                rintro e w7 ⟨vr, rfl, hc7⟩
                have C7 : Hid (CI x3 w7 P n drops) := hc7
                clear hc7
                go_wp2
                go_roundw
                case rel => exact ⟨i + 1, by omega, by go_num, C7.out⟩
                case measure => simp [intOf]; omega
              · have q1' : (k0 == 1) = false := by simp [q1]
                by_cases q2 : k0 = 2
                · subst q2
                  cases drops
                  · go_wp2
                    go_roundw
                    case rel => exact ⟨i + 1, by omega, by go_num, CZ.out.1⟩
                    case measure => simp [intOf]; omega
                  · go_wp2_with fail
                    refine (dropW CZ.out.1 CZ.out.2 k1).mono ?_
                    rintro e w7 ⟨vr, rfl, hc7⟩
                    have C7 : Hid (CI x3 w7 P n true) := hc7
                    clear hc7
                    go_wp2
                    go_roundw
                    case rel => exact ⟨i + 1, by omega, by go_num, C7.out⟩
                    case measure => simp [intOf]; omega
                · have q2' : (k0 == 2) = false := by simp [q2]
                  by_cases q3 : k0 = 3
                  · subst q3
                    go_wp2_with fail
                    refine (twiceW CZ.out.1 CZ.out.2 k1).mono ?_
                    rintro e w7 ⟨vr, rfl, hc7⟩
                    have C7 : Hid (CI x3 w7 P n drops) := hc7
                    clear hc7
                    go_wp2
                    go_roundw
                    case rel => exact ⟨i + 1, by omega, by go_num, C7.out⟩
                    case measure => simp [intOf]; omega
                  · have q3' : (k0 == 3) = false := by simp [q3]
                    go_wp2_with fail
                    refine (giveW' CZ.out.1 CZ.out.2 k1).mono ?_
                    rintro e w7 ⟨vr, rfl, hc7⟩
                    have C7 : Hid (CI x3 w7 P n drops) := hc7
                    clear hc7
                    go_wp2
                    go_roundw
                    case rel => exact ⟨i + 1, by omega, by go_num, C7.out⟩
                    case measure => simp [intOf]; omega
    · rcases (show ((i : Int) < (len : Int) ∧ ¬ (i : Int) < 120) ∨ ¬ (i : Int) < (len : Int) by omega) with ⟨e1, e2⟩ | e1
      all_goals
        obtain ⟨g5, fp5, hA5, hG5, hn5', hN5, hB5⟩ := hC.out
        have C5 : Hid (CA wr x3.heap.size P g5 fp5 ∧ GI g5 ∧ g5.n = n ∧ (drops = false → ND g5) ∧ Below w.heap.size w wr ∧ x3.heap.size ≤ wr.heap.size) := ⟨hA5, hG5, hn5', hN5, C4.out.2.trans (hB5.mono C4.out.2.size), hB5.size⟩
        clear hA5 hG5 hn5' hN5 hB5 hC hgo
        go_wp2_with fail
        refine (histC_any x3.heap.size P g5 fp5 wr C5.out.1 C5.out.2.1).mono ?_
        rintro e w5 ⟨v5, rfl, ho5, hb5⟩
        obtain ⟨q5, c5, rfl, hc5, hm5, hew5⟩ := ev_view ho5
        have S5' : Hid (Ew w5 q5 g5.H.length g5.H ∧ Below wr.heap.size wr w5 ∧ g5.H.length ≤ c5 ∧ c5 ≤ maxLen) := ⟨hew5, hb5, hc5, hm5⟩
        clear ho5 hb5 hc5 hm5 hew5
        go_wp2_with fail
        refine (His.of_ok q5 g5.H.length c5 g5.H w5 S5'.out.2.2.1 S5'.out.2.2.2 S5'.out.1 (His.chk_ok (len60 C5.out.2.1) (faces_ok C5.out.2.1).1).1).mono ?_
        rintro e w6 ⟨rfl, hb6⟩
        rw [(faces_ok C5.out.2.1).2.1, (faces_ok C5.out.2.1).2.2]
        have B6 : Hid (Below wr.heap.size wr w6) := S5'.out.2.1.trans (hb6.mono S5'.out.2.1.size)
        clear hb6
        go_wp2_with fail
        obtain ⟨W6, eW6⟩ : ∃ W6, W6 = w6.alloc (.cells #[.bool true, .bool true, .bool (totB g5.H)] 35) := ⟨_, rfl⟩
        rw [← eW6]
        obtain ⟨BF, eBF⟩ : ∃ BF, BF = w6.heap.size := ⟨_, rfl⟩
        have L0 : Hid (∃ g6 fp6 fbl, CA W6 x3.heap.size P g6 fp6 ∧ GI g6 ∧ g6.n = n ∧ (drops = false → ND g6) ∧ Below w.heap.size w W6 ∧ g6.l.length + 0 ≤ 40 ∧ W6.rowIs BF 35 3 fbl ∧ BF ∉ fp6 ∧ w.heap.size ≤ BF ∧ x3.heap.size ≤ W6.heap.size) := by
          have b6 : Below wr.heap.size wr W6 := by rw [eW6]; exact B6.out.alloc B6.out.size _
          refine ⟨g5, fp5, fun t => if t = 2 then .bool (totB g5.H) else .bool true, ca_lat C5.out.1 b6, C5.out.2.1, C5.out.2.2.1, C5.out.2.2.2.1, C5.out.2.2.2.2.1.trans (b6.mono C5.out.2.2.2.2.1.size), C5.out.2.1.net.len, ?_, fun q => ?_, ?_, ?_⟩
          · rw [eW6, eBF]
            exact World.rowIs_alloc w6 #[.bool true, .bool true, .bool (totB g5.H)] 35 _ (fun t ht => by rcases t with _ | _ | _ | t <;> first | rfl | (exfalso; have : _ < 3 := ht; omega))
          · have q1 := (C5.out.1.fp BF q).2
            have q2 := B6.out.size
            omega
          · have q2 := B6.out.size
            have q3 := C5.out.2.2.2.2.1.size
            omega
          · exact Nat.le_trans C5.out.2.2.2.2.2 b6.size
        rw [← eBF]
        clear eW6 eBF
        go_loopw [17] (fun y wr => ∃ i : Nat, i ≤ 40 ∧ y = .int .i64 (i : Int) ∧ Hid (∃ g6 fp6 fbl, CA wr x3.heap.size P g6 fp6 ∧ GI g6 ∧ g6.n = n ∧ (drops = false → ND g6) ∧ Below w.heap.size w wr ∧ g6.l.length + i ≤ 40 ∧ wr.rowIs BF 35 3 fbl ∧ BF ∉ fp6 ∧ w.heap.size ≤ BF ∧ x3.heap.size ≤ wr.heap.size)) (fun y _ => 40 - (intOf y).toNat)
        case atStart => exact ⟨0, by omega, rfl, L0.out⟩
        case round =>
          clear L0
          obtain ⟨i3, hi3, rfl, hQ⟩ := hrel
          obtain ⟨g6, fp6, fbl, hA6, hG6, hn6, hN6, hB6, hl6, hrow, hBf6, hwB, hx6⟩ := hQ.out
          clear hQ
          have hi30 : (0 : Int) ≤ (i3 : Int) := by omega
          by_cases h40 : (i3 : Int) < 40
          · have K6 : Hid (CA wr x3.heap.size P g6 fp6 ∧ GI g6 ∧ g6.n = n ∧ (drops = false → ND g6) ∧ Below w.heap.size w wr ∧ g6.l.length + i3 ≤ 40 ∧ wr.rowIs BF 35 3 fbl ∧ BF ∉ fp6 ∧ w.heap.size ≤ BF ∧ x3.heap.size ≤ wr.heap.size) := ⟨hA6, hG6, hn6, hN6, hB6, hl6, hrow, hBf6, hwB, hx6⟩
            clear hA6 hG6 hn6 hN6 hB6 hl6 hrow hBf6 hwB hx6
            go_wp2_with fail
            refine (onwayC_any x3.heap.size P g6 fp6 wr K6.out.1 K6.out.2.1).mono ?_
            rintro e w7 ⟨v7, rfl, ho7, hb7⟩
            obtain ⟨q7, c7, rfl⟩ := own_form ho7
            have B7 : Hid (Below wr.heap.size wr w7) := hb7
            clear ho7 hb7
            obtain ⟨ll, ell⟩ : ∃ ll, ll = g6.l.length := ⟨_, rfl⟩
            have LL : Hid (ll = g6.l.length) := ell
            rw [← ell]
            clear ell
            by_cases hpos : (0 : Int) < (ll : Int)
            · go_wp2_with fail
              have hin : isIn g6.l 0 = true := by
                have := LL.out
                exact Net.isIn_of (k := 0) (by omega)
              refine (giveC_any x3.heap.size P g6 fp6 0 w7 (ca_lat K6.out.1 B7.out) K6.out.2.1 (Nat.le_trans K6.out.2.2.2.2.2.2.2.2.2 B7.out.size) (HL.out.1.later (K6.out.2.2.2.2.1.trans (B7.out.mono K6.out.2.2.2.2.1.size)))).mono ?_
              rintro e w8 ⟨fp8, vo8, rfl, hA8, _, hb8, hk8, hn8, _⟩
              have eg : giveC g6 0 = 0 := by unfold giveC; rw [if_pos hin]
              rw [eg, errF_ok]
              have L8 : Hid (∃ g6 fp6 fbl, CA w8 x3.heap.size P g6 fp6 ∧ GI g6 ∧ g6.n = n ∧ (drops = false → ND g6) ∧ Below w.heap.size w w8 ∧ g6.l.length + (i3 + 1) ≤ 40 ∧ w8.rowIs BF 35 3 fbl ∧ BF ∉ fp6 ∧ w.heap.size ≤ BF ∧ x3.heap.size ≤ w8.heap.size) := by
                have hB7 : BF < w7.heap.size := Nat.lt_of_lt_of_le (World.rowIs.lt K6.out.2.2.2.2.2.2.1) B7.out.size
                refine ⟨give g6 0, fp8, fbl, hA8, give_gi K6.out.2.1 _, by rw [give_n]; exact K6.out.2.2.1, fun q => give_nd K6.out.2.1 (K6.out.2.2.2.1 q) _, (K6.out.2.2.2.2.1.trans (B7.out.mono K6.out.2.2.2.2.1.size)).trans (hb8.mono C4.out.2.size), ?_, World.rowIs.of_block (World.rowIs.of_block K6.out.2.2.2.2.2.2.1 (B7.out.block BF (World.rowIs.lt K6.out.2.2.2.2.2.2.1))) (hk8.2 BF hB7 K6.out.2.2.2.2.2.2.2.1), fun q => ?_, K6.out.2.2.2.2.2.2.2.2.1, Nat.le_trans K6.out.2.2.2.2.2.2.2.2.2 (Nat.le_trans B7.out.size hk8.1)⟩
                · have q := give_len hin
                  have := LL.out
                  have := K6.out.2.2.2.2.2.1
                  omega
                · rcases hn8 BF q with a | a
                  · exact K6.out.2.2.2.2.2.2.2.1 a
                  · omega
              clear hA8 hb8 hk8 hn8
              go_wp2
              go_roundw
              case rel => exact ⟨i3 + 1, by omega, by go_num, L8.out⟩
              case measure => simp [intOf]; omega
            · have hl0 : ll = 0 := by omega
              have hrow : w7.rowIs BF 35 3 fbl := World.rowIs.of_block K6.out.2.2.2.2.2.2.1 (B7.out.block BF (World.rowIs.lt K6.out.2.2.2.2.2.2.1))
              have hA6 := ca_lat K6.out.1 B7.out
              have hG6 := K6.out.2.1
              have hn6 := K6.out.2.2.1
              have hN6 := K6.out.2.2.2.1
              have hB6 := K6.out.2.2.2.2.1.trans (B7.out.mono K6.out.2.2.2.2.1.size)
              have hl6 : g6.l = [] := List.eq_nil_of_length_eq_zero (by rw [← LL.out]; exact hl0)
              have hBf6 := K6.out.2.2.2.2.2.2.2.1
              have hwB := K6.out.2.2.2.2.2.2.2.2.1
              have R6 : Hid (w7.rowIs BF 35 3 fbl ∧ CA w7 x3.heap.size P g6 fp6 ∧ GI g6 ∧ g6.n = n ∧ (drops = false → ND g6) ∧ Below w.heap.size w w7 ∧ g6.l = [] ∧ BF ∉ fp6 ∧ w.heap.size ≤ BF) := ⟨hrow, hA6, hG6, hn6, hN6, hB6, hl6, hBf6, hwB⟩
              clear hrow hA6 hG6 hn6 hN6 hB6 hl6 hBf6 hwB
              go_wp2_with fail
              refine (histC_any x3.heap.size P g6 fp6 w7 R6.out.2.1 R6.out.2.2.1).mono ?_
              rintro e w8 ⟨v8, rfl, ho8, hb8⟩
              obtain ⟨q8, c8, rfl, hc8, hm8, hew8⟩ := ev_view ho8
              have HB8 : Hid (∀ b8 o8, q8 = some ⟨b8, o8, none⟩ → b8 ≠ BF) := by
                intro b8 o8 e e2
                have q1 := (own_lt ho8 b8 (by rw [e]; rfl)).1
                have q2 := World.rowIs.lt R6.out.1
                omega
              have S8 : Hid (Ew w8 q8 g6.H.length g6.H ∧ Below w7.heap.size w7 w8 ∧ g6.H.length ≤ c8 ∧ c8 ≤ maxLen) := ⟨hew8, hb8, hc8, hm8⟩
              clear ho8 hb8 hc8 hm8 hew8
              go_wp2_with fail
              refine (His.of_ok q8 g6.H.length c8 g6.H w8 S8.out.2.2.1 S8.out.2.2.2 S8.out.1 (His.chk_ok (len60 R6.out.2.2.1) (faces_ok R6.out.2.2.1).1).1).mono ?_
              rintro e w9 ⟨rfl, hb9⟩
              rw [(faces_ok R6.out.2.2.1).2.1, (faces_ok R6.out.2.2.1).2.2]
              have S9 : Hid (Ew w9 q8 g6.H.length g6.H ∧ Below w7.heap.size w7 w9 ∧ w9.rowIs BF 35 3 fbl) := by
                have b := S8.out.2.1.trans (hb9.mono S8.out.2.1.size)
                exact ⟨S8.out.1.later hb9, b, World.rowIs.of_block R6.out.1 (b.block BF (World.rowIs.lt R6.out.1))⟩
              have t0 := World.rowIs.cell S9.out.2.2 (i := 0) (by omega)
              have t1 := World.rowIs.cell S9.out.2.2 (i := 1) (by omega)
              have t2 := World.rowIs.cell S9.out.2.2 (i := 2) (by omega)
              have u0 := World.rowIs.frozen S9.out.2.2 0
              have u1 := World.rowIs.frozen S9.out.2.2 1
              have u2 := World.rowIs.frozen S9.out.2.2 2
              clear hb9
              go_wp2_with fail
              obtain ⟨W10, eW10⟩ : ∃ W10, W10 = ((w9.setCell ⟨BF, 0, none⟩ (.bool true)).setCell ⟨BF, 1, none⟩ (.bool true)).setCell ⟨BF, 2, none⟩ (.bool (totB g6.H)) := ⟨_, rfl⟩
              rw [← eW10]
              have r10 := ((World.rowIs.set S9.out.2.2 0 (.bool true)).set 1 (.bool true)).set 2 (.bool (totB g6.H))
              rw [← eW10] at r10
              have S10 : Hid (Ew W10 q8 g6.H.length g6.H ∧ Below w.heap.size w W10 ∧ CA W10 x3.heap.size P g6 fp6 ∧ W10.rowIs BF 35 3 (fun j => if j = 2 then .bool (totB g6.H) else if j = 1 then .bool true else if j = 0 then .bool true else fbl j)) := by
                have hne : ∀ k, k ≠ BF → W10.heap[k]? = w9.heap[k]? := fun k q => by
                  rw [eW10]
                  exact ((Deep.blk_setCell_other _ _ _ _ q).trans (Deep.blk_setCell_other _ _ _ _ q)).trans (Deep.blk_setCell_other _ _ _ _ q)
                have hsz : W10.heap.size = w9.heap.size := by rw [eW10]; simp [World.setCell]
                have hB9 : BF < w7.heap.size := World.rowIs.lt R6.out.1
                refine ⟨?_, ?_, ?_, r10⟩
                · refine ⟨rfl, fun q => ?_⟩
                  obtain ⟨b8, o8, e8, hl8, hc8⟩ := S9.out.1.2 q
                  have hb8 : b8 ≠ BF := fun e => HB8.out b8 o8 e8 e
                  refine ⟨b8, o8, e8, by rw [hsz]; exact hl8, fun k hk => ?_⟩
                  obtain ⟨y0, y1, y2⟩ := hc8 k hk
                  exact ⟨(World.cell?_of_block (a := ⟨b8, o8 + k * 3, none⟩) (hne b8 hb8)).trans y0, (World.cell?_of_block (a := ⟨b8, o8 + k * 3 + 1, none⟩) (hne b8 hb8)).trans y1, (World.cell?_of_block (a := ⟨b8, o8 + k * 3 + 2, none⟩) (hne b8 hb8)).trans y2⟩
                · rw [eW10]
                  exact (((R6.out.2.2.2.2.2.1.trans (S9.out.2.1.mono R6.out.2.2.2.2.2.1.size)).setCell (p := ⟨BF, 0, none⟩) R6.out.2.2.2.2.2.2.2.2 _).setCell (p := ⟨BF, 1, none⟩) R6.out.2.2.2.2.2.2.2.2 _).setCell (p := ⟨BF, 2, none⟩) R6.out.2.2.2.2.2.2.2.2 _
                · exact R6.out.2.1.of_blocks (by rw [hsz]; exact S9.out.2.1.size) fun b hb => (hne b (fun e => R6.out.2.2.2.2.2.2.2.1 (by rw [← e]; exact hb))).trans (S9.out.2.1.block b (R6.out.2.1.fp b hb).2)
              have o0 := World.rowIs.cell S10.out.2.2.2 (i := 0) (by omega)
              have o1 := World.rowIs.cell S10.out.2.2.2 (i := 1) (by omega)
              simp at o0 o1
              clear eW10 r10 t0 t1 t2 u0 u1 u2
              go_wp2_with fail
              refine (onwayC_any x3.heap.size P g6 fp6 W10 S10.out.2.2.1 R6.out.2.2.1).mono ?_
              rintro e w11 ⟨v11, rfl, ho11, hb11⟩
              rw [R6.out.2.2.2.2.2.2.1] at ho11
              obtain ⟨q11, c11, rfl⟩ := own_form ho11
              have S11 : Hid (Ew w11 q8 g6.H.length g6.H ∧ Below w.heap.size w w11) := ⟨S10.out.1.later hb11, S10.out.2.1.trans (hb11.mono S10.out.2.1.size)⟩
              obtain ⟨lh, elh⟩ : ∃ lh, lh = g6.H.length := ⟨_, rfl⟩
              have HF : Hid (lh = g6.H.length ∧ lh ≤ 60 ∧ nH g6.H g6.H.length ≤ nS g6.H g6.H.length * ((n : Int) - 1) ∧ (drops = false → nH g6.H g6.H.length = nS g6.H g6.H.length * ((n : Int) - 1))) := by
                refine ⟨elh, by rw [elh]; exact len60 R6.out.2.2.1, ?_, fun q => ?_⟩
                · rw [← R6.out.2.2.2.1]; exact most_heard R6.out.2.2.1
                · rw [← R6.out.2.2.2.1]; exact all_heard R6.out.2.2.1 (R6.out.2.2.2.2.1 q) R6.out.2.2.2.2.2.2.1
              rw [← elh] at S11 ⊢
              clear elh ho11 hb11
              go_wp2
              go_loopw [21, 22, 23] (fun y21 y22 y23 wr => ∃ i : Nat, i ≤ lh ∧ y23 = .int .i64 (i : Int) ∧ y21 = .int .i64 (nS g6.H i) ∧ y22 = .int .i64 (nH g6.H i) ∧ wr = w11) (fun _ _ y _ => lh - (intOf y).toNat)
              case atStart => exact ⟨0, by omega, rfl, rfl, rfl, rfl⟩
              case round =>
                obtain ⟨i4, hi4, rfl, rfl, rfl, rfl⟩ := hrel
                have bd := nS_bd g6.H i4
                have h60 := HF.out.2.1
                obtain ⟨sS, eS⟩ : ∃ sS, sS = nS g6.H i4 := ⟨_, rfl⟩
                obtain ⟨sH, eH⟩ : ∃ sH, sH = nH g6.H i4 := ⟨_, rfl⟩
                rw [← eS, ← eH] at bd ⊢
                have ES : Hid (sS = nS g6.H i4 ∧ sH = nH g6.H i4) := ⟨eS, eH⟩
                clear eS eH
                by_cases hlt : i4 < lh
                · obtain ⟨b8, o8, rfl, _, hc8⟩ := S11.out.1.2 (by omega)
                  obtain ⟨_, y1, _⟩ := hc8 i4 hlt
                  obtain ⟨kk, ek⟩ : ∃ kk, kk = (ev g6.H i4).2.1 := ⟨_, rfl⟩
                  rw [← ek] at y1
                  have EK : Hid (kk = (ev g6.H i4).2.1) := ek
                  have hlti : (i4 : Int) < (lh : Int) := by omega
                  have hi40 : (0 : Int) ≤ (i4 : Int) := by omega
                  clear hc8 ek
                  by_cases k2 : kk = 2
                  · subst k2
                    go_wp2
                    go_roundw
                    case rel =>
                      have e1 : nS g6.H (i4 + 1) = nS g6.H i4 + 1 := by show nS g6.H i4 + _ = _; rw [if_pos EK.out.symm]
                      have e2 : nH g6.H (i4 + 1) = nH g6.H i4 := by show nH g6.H i4 + _ = _; rw [if_neg (by rw [← EK.out]; decide), Int.add_zero]
                      refine ⟨i4 + 1, by omega, by go_num, ?_, ?_, by first | rfl | trivial⟩
                      · rw [e1, ← ES.out.1]
                      · rw [e2, ← ES.out.2]
                    case measure => simp [intOf]; omega
                  · have k2' : (kk == 2) = false := by simp [k2]
                    by_cases k3 : kk = 3
                    · subst k3
                      go_wp2
                      go_roundw
                      case rel =>
                        have e1 : nS g6.H (i4 + 1) = nS g6.H i4 := by show nS g6.H i4 + _ = _; rw [if_neg (by rw [← EK.out]; decide), Int.add_zero]
                        have e2 : nH g6.H (i4 + 1) = nH g6.H i4 + 1 := by show nH g6.H i4 + _ = _; rw [if_pos EK.out.symm]
                        refine ⟨i4 + 1, by omega, by go_num, ?_, ?_, by first | rfl | trivial⟩
                        · rw [e1, ← ES.out.1]
                        · rw [e2, ← ES.out.2]
                      case measure => simp [intOf]; omega
                    · have k3' : (kk == 3) = false := by simp [k3]
                      go_wp2
                      go_roundw
                      case rel =>
                        have e1 : nS g6.H (i4 + 1) = nS g6.H i4 := by show nS g6.H i4 + _ = _; rw [if_neg (by rw [← EK.out]; exact k2), Int.add_zero]
                        have e2 : nH g6.H (i4 + 1) = nH g6.H i4 := by show nH g6.H i4 + _ = _; rw [if_neg (by rw [← EK.out]; exact k3), Int.add_zero]
                        refine ⟨i4 + 1, by omega, by go_num, ?_, ?_, by first | rfl | trivial⟩
                        · rw [e1, ← ES.out.1]
                        · rw [e2, ← ES.out.2]
                      case measure => simp [intOf]; omega
                · have hi : i4 = lh := by omega
                  subst hi
                  have f1 : sH ≤ sS * ((n : Int) - 1) := by rw [ES.out.1, ES.out.2, HF.out.1]; exact HF.out.2.2.1
                  have f2 : drops = false → sH = sS * ((n : Int) - 1) := fun q => by rw [ES.out.1, ES.out.2, HF.out.1]; exact HF.out.2.2.2 q
                  have f3 : 0 ≤ sS * ((n : Int) - 1) ∧ sS * ((n : Int) - 1) ≤ 1000 := by
                    have hn : n = 2 ∨ n = 3 ∨ n = 4 ∨ n = 5 := by omega
                    rcases hn with rfl | rfl | rfl | rfl <;> omega
                  cases drops
                  · have f4 := f2 rfl
                    have f5 : (sH == sS * ((n : Int) - 1)) = true := by simp [f4]
                    clear f2
                    go_wp2
                    go_ret
                    refine ⟨?_, S11.out.2⟩
                    first | rfl | exact ret_bool (by simp [f1]) | exact ret_bool (by simp [f4])
                  · clear f2
                    go_wp2
                    go_ret
                    refine ⟨?_, S11.out.2⟩
                    first | rfl | exact ret_bool (by simp [f1]) | exact ret_bool (by simp [f4])
          · skip
            have hl6' : g6.l = [] := List.eq_nil_of_length_eq_zero (by omega)
            have R6 : Hid (wr.rowIs BF 35 3 fbl ∧ CA wr x3.heap.size P g6 fp6 ∧ GI g6 ∧ g6.n = n ∧ (drops = false → ND g6) ∧ Below w.heap.size w wr ∧ g6.l = [] ∧ BF ∉ fp6 ∧ w.heap.size ≤ BF) := ⟨hrow, hA6, hG6, hn6, hN6, hB6, hl6', hBf6, hwB⟩
            clear hrow hA6 hG6 hn6 hN6 hB6 hl6' hBf6 hwB
            go_wp2_with fail
            refine (histC_any x3.heap.size P g6 fp6 wr R6.out.2.1 R6.out.2.2.1).mono ?_
            rintro e w8 ⟨v8, rfl, ho8, hb8⟩
            obtain ⟨q8, c8, rfl, hc8, hm8, hew8⟩ := ev_view ho8
            have HB8 : Hid (∀ b8 o8, q8 = some ⟨b8, o8, none⟩ → b8 ≠ BF) := by
              intro b8 o8 e e2
              have q1 := (own_lt ho8 b8 (by rw [e]; rfl)).1
              have q2 := World.rowIs.lt R6.out.1
              omega
            have S8 : Hid (Ew w8 q8 g6.H.length g6.H ∧ Below wr.heap.size wr w8 ∧ g6.H.length ≤ c8 ∧ c8 ≤ maxLen) := ⟨hew8, hb8, hc8, hm8⟩
            clear ho8 hb8 hc8 hm8 hew8
            go_wp2_with fail
            refine (His.of_ok q8 g6.H.length c8 g6.H w8 S8.out.2.2.1 S8.out.2.2.2 S8.out.1 (His.chk_ok (len60 R6.out.2.2.1) (faces_ok R6.out.2.2.1).1).1).mono ?_
            rintro e w9 ⟨rfl, hb9⟩
            rw [(faces_ok R6.out.2.2.1).2.1, (faces_ok R6.out.2.2.1).2.2]
            have S9 : Hid (Ew w9 q8 g6.H.length g6.H ∧ Below wr.heap.size wr w9 ∧ w9.rowIs BF 35 3 fbl) := by
              have b := S8.out.2.1.trans (hb9.mono S8.out.2.1.size)
              exact ⟨S8.out.1.later hb9, b, World.rowIs.of_block R6.out.1 (b.block BF (World.rowIs.lt R6.out.1))⟩
            have t0 := World.rowIs.cell S9.out.2.2 (i := 0) (by omega)
            have t1 := World.rowIs.cell S9.out.2.2 (i := 1) (by omega)
            have t2 := World.rowIs.cell S9.out.2.2 (i := 2) (by omega)
            have u0 := World.rowIs.frozen S9.out.2.2 0
            have u1 := World.rowIs.frozen S9.out.2.2 1
            have u2 := World.rowIs.frozen S9.out.2.2 2
            clear hb9
            go_wp2_with fail
            obtain ⟨W10, eW10⟩ : ∃ W10, W10 = ((w9.setCell ⟨BF, 0, none⟩ (.bool true)).setCell ⟨BF, 1, none⟩ (.bool true)).setCell ⟨BF, 2, none⟩ (.bool (totB g6.H)) := ⟨_, rfl⟩
            rw [← eW10]
            have r10 := ((World.rowIs.set S9.out.2.2 0 (.bool true)).set 1 (.bool true)).set 2 (.bool (totB g6.H))
            rw [← eW10] at r10
            have S10 : Hid (Ew W10 q8 g6.H.length g6.H ∧ Below w.heap.size w W10 ∧ CA W10 x3.heap.size P g6 fp6 ∧ W10.rowIs BF 35 3 (fun j => if j = 2 then .bool (totB g6.H) else if j = 1 then .bool true else if j = 0 then .bool true else fbl j)) := by
              have hne : ∀ k, k ≠ BF → W10.heap[k]? = w9.heap[k]? := fun k q => by
                rw [eW10]
                exact ((Deep.blk_setCell_other _ _ _ _ q).trans (Deep.blk_setCell_other _ _ _ _ q)).trans (Deep.blk_setCell_other _ _ _ _ q)
              have hsz : W10.heap.size = w9.heap.size := by rw [eW10]; simp [World.setCell]
              have hB9 : BF < wr.heap.size := World.rowIs.lt R6.out.1
              refine ⟨?_, ?_, ?_, r10⟩
              · refine ⟨rfl, fun q => ?_⟩
                obtain ⟨b8, o8, e8, hl8, hc8⟩ := S9.out.1.2 q
                have hb8 : b8 ≠ BF := fun e => HB8.out b8 o8 e8 e
                refine ⟨b8, o8, e8, by rw [hsz]; exact hl8, fun k hk => ?_⟩
                obtain ⟨y0, y1, y2⟩ := hc8 k hk
                exact ⟨(World.cell?_of_block (a := ⟨b8, o8 + k * 3, none⟩) (hne b8 hb8)).trans y0, (World.cell?_of_block (a := ⟨b8, o8 + k * 3 + 1, none⟩) (hne b8 hb8)).trans y1, (World.cell?_of_block (a := ⟨b8, o8 + k * 3 + 2, none⟩) (hne b8 hb8)).trans y2⟩
              · rw [eW10]
                exact (((R6.out.2.2.2.2.2.1.trans (S9.out.2.1.mono R6.out.2.2.2.2.2.1.size)).setCell (p := ⟨BF, 0, none⟩) R6.out.2.2.2.2.2.2.2.2 _).setCell (p := ⟨BF, 1, none⟩) R6.out.2.2.2.2.2.2.2.2 _).setCell (p := ⟨BF, 2, none⟩) R6.out.2.2.2.2.2.2.2.2 _
              · exact R6.out.2.1.of_blocks (by rw [hsz]; exact S9.out.2.1.size) fun b hb => (hne b (fun e => R6.out.2.2.2.2.2.2.2.1 (by rw [← e]; exact hb))).trans (S9.out.2.1.block b (R6.out.2.1.fp b hb).2)
            have o0 := World.rowIs.cell S10.out.2.2.2 (i := 0) (by omega)
            have o1 := World.rowIs.cell S10.out.2.2.2 (i := 1) (by omega)
            simp at o0 o1
            clear eW10 r10 t0 t1 t2 u0 u1 u2
            go_wp2_with fail
            refine (onwayC_any x3.heap.size P g6 fp6 W10 S10.out.2.2.1 R6.out.2.2.1).mono ?_
            rintro e w11 ⟨v11, rfl, ho11, hb11⟩
            rw [R6.out.2.2.2.2.2.2.1] at ho11
            obtain ⟨q11, c11, rfl⟩ := own_form ho11
            have S11 : Hid (Ew w11 q8 g6.H.length g6.H ∧ Below w.heap.size w w11) := ⟨S10.out.1.later hb11, S10.out.2.1.trans (hb11.mono S10.out.2.1.size)⟩
            obtain ⟨lh, elh⟩ : ∃ lh, lh = g6.H.length := ⟨_, rfl⟩
            have HF : Hid (lh = g6.H.length ∧ lh ≤ 60 ∧ nH g6.H g6.H.length ≤ nS g6.H g6.H.length * ((n : Int) - 1) ∧ (drops = false → nH g6.H g6.H.length = nS g6.H g6.H.length * ((n : Int) - 1))) := by
              refine ⟨elh, by rw [elh]; exact len60 R6.out.2.2.1, ?_, fun q => ?_⟩
              · rw [← R6.out.2.2.2.1]; exact most_heard R6.out.2.2.1
              · rw [← R6.out.2.2.2.1]; exact all_heard R6.out.2.2.1 (R6.out.2.2.2.2.1 q) R6.out.2.2.2.2.2.2.1
            rw [← elh] at S11 ⊢
            clear elh ho11 hb11
            go_wp2
            go_loopw [21, 22, 23] (fun y21 y22 y23 wr => ∃ i : Nat, i ≤ lh ∧ y23 = .int .i64 (i : Int) ∧ y21 = .int .i64 (nS g6.H i) ∧ y22 = .int .i64 (nH g6.H i) ∧ wr = w11) (fun _ _ y _ => lh - (intOf y).toNat)
            case atStart => exact ⟨0, by omega, rfl, rfl, rfl, rfl⟩
            case round =>
              obtain ⟨i4, hi4, rfl, rfl, rfl, rfl⟩ := hrel
              have bd := nS_bd g6.H i4
              have h60 := HF.out.2.1
              obtain ⟨sS, eS⟩ : ∃ sS, sS = nS g6.H i4 := ⟨_, rfl⟩
              obtain ⟨sH, eH⟩ : ∃ sH, sH = nH g6.H i4 := ⟨_, rfl⟩
              rw [← eS, ← eH] at bd ⊢
              have ES : Hid (sS = nS g6.H i4 ∧ sH = nH g6.H i4) := ⟨eS, eH⟩
              clear eS eH
              by_cases hlt : i4 < lh
              · obtain ⟨b8, o8, rfl, _, hc8⟩ := S11.out.1.2 (by omega)
                obtain ⟨_, y1, _⟩ := hc8 i4 hlt
                obtain ⟨kk, ek⟩ : ∃ kk, kk = (ev g6.H i4).2.1 := ⟨_, rfl⟩
                rw [← ek] at y1
                have EK : Hid (kk = (ev g6.H i4).2.1) := ek
                have hlti : (i4 : Int) < (lh : Int) := by omega
                have hi40 : (0 : Int) ≤ (i4 : Int) := by omega
                clear hc8 ek
                by_cases k2 : kk = 2
                · subst k2
                  go_wp2
                  go_roundw
                  case rel =>
                    have e1 : nS g6.H (i4 + 1) = nS g6.H i4 + 1 := by show nS g6.H i4 + _ = _; rw [if_pos EK.out.symm]
                    have e2 : nH g6.H (i4 + 1) = nH g6.H i4 := by show nH g6.H i4 + _ = _; rw [if_neg (by rw [← EK.out]; decide), Int.add_zero]
                    refine ⟨i4 + 1, by omega, by go_num, ?_, ?_, by first | rfl | trivial⟩
                    · rw [e1, ← ES.out.1]
                    · rw [e2, ← ES.out.2]
                  case measure => simp [intOf]; omega
                · have k2' : (kk == 2) = false := by simp [k2]
                  by_cases k3 : kk = 3
                  · subst k3
                    go_wp2
                    go_roundw
                    case rel =>
                      have e1 : nS g6.H (i4 + 1) = nS g6.H i4 := by show nS g6.H i4 + _ = _; rw [if_neg (by rw [← EK.out]; decide), Int.add_zero]
                      have e2 : nH g6.H (i4 + 1) = nH g6.H i4 + 1 := by show nH g6.H i4 + _ = _; rw [if_pos EK.out.symm]
                      refine ⟨i4 + 1, by omega, by go_num, ?_, ?_, by first | rfl | trivial⟩
                      · rw [e1, ← ES.out.1]
                      · rw [e2, ← ES.out.2]
                    case measure => simp [intOf]; omega
                  · have k3' : (kk == 3) = false := by simp [k3]
                    go_wp2
                    go_roundw
                    case rel =>
                      have e1 : nS g6.H (i4 + 1) = nS g6.H i4 := by show nS g6.H i4 + _ = _; rw [if_neg (by rw [← EK.out]; exact k2), Int.add_zero]
                      have e2 : nH g6.H (i4 + 1) = nH g6.H i4 := by show nH g6.H i4 + _ = _; rw [if_neg (by rw [← EK.out]; exact k3), Int.add_zero]
                      refine ⟨i4 + 1, by omega, by go_num, ?_, ?_, by first | rfl | trivial⟩
                      · rw [e1, ← ES.out.1]
                      · rw [e2, ← ES.out.2]
                    case measure => simp [intOf]; omega
              · have hi : i4 = lh := by omega
                subst hi
                have f1 : sH ≤ sS * ((n : Int) - 1) := by rw [ES.out.1, ES.out.2, HF.out.1]; exact HF.out.2.2.1
                have f2 : drops = false → sH = sS * ((n : Int) - 1) := fun q => by rw [ES.out.1, ES.out.2, HF.out.1]; exact HF.out.2.2.2 q
                have f3 : 0 ≤ sS * ((n : Int) - 1) ∧ sS * ((n : Int) - 1) ≤ 1000 := by
                  have hn : n = 2 ∨ n = 3 ∨ n = 4 ∨ n = 5 := by omega
                  rcases hn with rfl | rfl | rfl | rfl <;> omega
                cases drops
                · have f4 := f2 rfl
                  have f5 : (sH == sS * ((n : Int) - 1)) = true := by simp [f4]
                  clear f2
                  go_wp2
                  go_ret
                  refine ⟨?_, S11.out.2⟩
                  first | rfl | exact ret_bool (by simp [f1]) | exact ret_bool (by simp [f4])
                · clear f2
                  go_wp2
                  go_ret
                  refine ⟨?_, S11.out.2⟩
                  first | rfl | exact ret_bool (by simp [f1]) | exact ret_bool (by simp [f4])
theorem ccs_any (n : Int) (a : Option Addr) (len cap : Nat) (ls : List (List Int)) (drops : Bool) (w : World) (hL : Laid w) (hR : Rw w a len ls) :
    Calls Tryz.prog 3 #[.int .i64 n, .slice a len cap, .bool drops] w fun e w' => e = .returned (.bool true) ∧ Below w.heap.size w w' := by
  by_cases h : n < 2 ∨ 5 < n
  · exact ccs_bad n a len cap drops w hL h
  · obtain ⟨m, rfl⟩ : ∃ m : Nat, n = (m : Int) := ⟨n.toNat, by omega⟩
    exact ccs_ok m a len cap ls drops w hL hR (by omega) (by omega)
end Go.Proofs.YtdhlfbpflngmbadGreatDoor.Cas
