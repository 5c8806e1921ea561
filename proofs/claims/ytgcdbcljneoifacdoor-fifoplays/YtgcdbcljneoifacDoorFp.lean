/-
  The walk of FifoPlays: any words that come, in any order: what is refused, what is heard, what waits, are what the document tells.
-/
import Derived.Test.YtgcdbcljneoifacDoorFifH
import Derived.Test.YtgcdbcljneoifacDoorFifS
import Derived.Test.YtgcdbcljneoifacDoorFw
import Derived.Test.YtgcdbcljneoifacDoorRowsF
namespace Go.Proofs.YtgcdbcljneoifacDoor.Fif
open Go.RowKit
open Go.Proofs.YtgcdbcljneoifacDoor.Vec (Vw Rw ints_any)
open Go.Proofs.YtgcdbcljneoifacDoor.As (Laid error_errno error_nil)
set_option linter.unusedVariables false

theorem ints_same (a b : Option Addr) (len cap len' cap' : Nat) (xs : List Int) (w : World) (hv : Vw w a len xs) (hv' : Vw w b len' xs) (hm : len ≤ maxLen) :
    Calls Tryd.prog 11 #[.slice a len cap, .slice b len' cap'] w fun e w' => e = .returned (.bool true) ∧ ∃ n, w' = w.drewN n := by
  refine (ints_any a b len cap len' cap' xs xs w hv hv' hm).mono ?_
  rintro e w' ⟨rfl, hb⟩
  exact ⟨ret_bool (by simp), hb⟩
theorem own_max {w : World} {base : Nat} {t : TypeId} {s : Nat} {v : Value} {n : Nat} {xs : List Value} (o : w.ownsRow base t s v n xs) : n ≤ maxLen := by
  rcases o.2 with ⟨_, h3⟩ | ⟨g', cap', cur, hv, _, _, h1, h2, _⟩
  · unfold maxLen; omega
  · omega
theorem RS.of_blocks {w w' : World} {base P : Nat} {H : List Int} {ws : List Cm} {v : Value} (g : RS w base P H ws v) (h1 : w'.heap[P]? = w.heap[P]?) (h2 : ∀ k, v.ownBlock = some k → w'.heap[k]? = w.heap[k]?) : RS w' base P H ws v :=
  ⟨World.rowIs.of_block g.1 h1, own_block g.2.1 h2, g.2.2.1, g.2.2.2⟩
theorem RS.later {w w' : World} {base P : Nat} {H : List Int} {ws : List Cm} {v : Value} (g : RS w base P H ws v) (hb : Below w.heap.size w w') : RS w' base P H ws v :=
  g.of_blocks (hb.block P (World.rowIs.lt g.1)) (fun k hk => hb.block k (own_lt g.2.1 k hk).2)
theorem rs_kp {w w' : World} {base P mb Q : Nat} {H : List Int} {ws : List Cm} {b2 : Nat} {H2 : List Int} {ws2 : List Cm} {v : Value} (g : RS w base Q H ws v) (f : FoM w b2 P mb H2 ws2) (hk : Kp w w' P (some mb)) : RS w' base Q H ws v := by
  have a := f.row_apart g.1 (by decide)
  have c := f.own_apart g.2.1 (by decide)
  exact g.of_blocks (hk.2 Q (World.rowIs.lt g.1) a.1 a.2) (fun k h => hk.2 k (own_lt g.2.1 k h).2 (fun e => c.1 (by rw [h, e])) (fun e => c.2 (by rw [h, e])))
theorem fs_kp {w w' : World} {base P mb Q : Nat} {H : List Int} {ws : List Cm} {b2 : Nat} {H2 : List Int} {ws2 : List Cm} {v : Value} (g : RS w base Q H ws v) (f : FoM w b2 P mb H2 ws2) (hk : Kp w w' Q v.ownBlock) : FoM w' b2 P mb H2 ws2 := by
  have a := f.row_apart g.1 (by decide)
  have c := f.own_apart g.2.1 (by decide)
  exact f.kp hk (Ne.symm a.1) (fun e => a.2 (by rw [e])) c.1 c.2
theorem rows_apart {w : World} {I J : Nat} {t t' : TypeId} {n n' : Nat} {f f' : Nat → Value} (h : w.rowIs I t n f) (h' : w.rowIs J t' n' f') (ht : t ≠ t') : I ≠ J := by
  intro e
  obtain ⟨c, hc, _⟩ := h
  obtain ⟨c', hc', _⟩ := h'
  rw [e, hc'] at hc
  injection hc with q
  injection q with _ q _
  exact ht q.symm
theorem vw_heap {w w' : World} {a : Option Addr} {n : Nat} {xs : List Int} (h : Vw w a n xs) (e : w'.heap = w.heap) : Vw w' a n xs :=
  ⟨h.1, fun hn => by
    obtain ⟨b, off, e1, h1, h2⟩ := h.2 hn
    exact ⟨b, off, e1, by rw [e]; exact h1, fun k hk => (World.cell?_of_block (w := w) (by rw [e])).trans (h2 k hk)⟩⟩
theorem below_from {w w1 w2 : World} (h : Below w1.heap.size w1 w2) (e : w1.heap = w.heap) (e1 : w1.os = w.os) (e2 : w1.tape = w.tape) (e3 : w1.output = w.output) : Below w.heap.size w w2 := by
  rw [e] at h
  exact ⟨h.os.trans e1, h.tape.trans e2, h.output.trans e3, by have := h.size; rw [e] at this; exact this, fun k hk => by rw [h.block k hk, e]⟩
theorem below_heap2 {B : Nat} {w w1 w2 : World} (h : Below B w w1) (e : w2.heap = w1.heap) (e1 : w2.os = w1.os) (e2 : w2.tape = w1.tape) (e3 : w2.output = w1.output) : Below B w w2 :=
  ⟨e1.trans h.os, e2.trans h.tape, e3.trans h.output, by rw [e]; exact h.size, fun k hk => by rw [e]; exact h.block k hk⟩
/-- how both stand at any time -/
def PL (w : World) (P mb Q : Nat) (wr : World) : Prop := ∃ H ws v, FoM wr w.heap.size P mb H ws ∧ RS wr w.heap.size Q H ws v ∧ Inv H ws ∧ Below w.heap.size w wr
theorem up_get (H : List Int) {k : Nat} (hk : k < 5) : (up H).take (k + 1) = (up H).take k ++ [H.getD k 0 + 1] := by
  rw [List.take_add_one]
  simp [up, hk]

set_option maxRecDepth 100000 in
set_option maxHeartbeats 4000000 in
theorem plays_walk (a : Option Addr) (len cap : Nat) (ls : List (List Int)) (w : World) (hL : Laid w) (hv : Rw w a len ls) :
    Calls Tryd.prog 4 #[.slice a len cap] w fun e w' => e = .returned (.bool true) ∧ Below w.heap.size w w' := by
  have HL : Hid (Laid w ∧ Rw w a len ls) := ⟨hL, hv⟩
  have hmx := hv.2.1
  unfold maxLen at hmx
  clear hL hv
  go_enter Tryd.func4, Tryd.ntmps4
  go_wp2_with fail
  refine (new_any w).mono ?_
  rintro e w1 ⟨P, mb, rfl, hF, hB⟩
  have S1 : Hid (FoM w1 w.heap.size P mb [0, 0, 0, 0, 0] [] ∧ Below w.heap.size w w1) := ⟨hF, hB⟩
  clear hF hB
  go_wp2
  obtain ⟨W1, eW1⟩ : ∃ W1, W1 = w1.alloc (.cells #[.int .i64 0, .int .i64 0, .int .i64 0, .int .i64 0, .int .i64 0, .slice none 0 0] 38) := ⟨_, rfl⟩
  rw [← eW1]
  have P1 : Hid (PL w P mb w1.heap.size W1) := by
    refine ⟨[0, 0, 0, 0, 0], [], .slice none 0 0, ?_, ⟨?_, World.ownsRow_nil _ _ _ _, rfl, S1.out.2.size⟩, Inv.start, ?_⟩
    · rw [eW1]; exact S1.out.1.later ((Below.refl _ _).alloc (Nat.le_refl _) _)
    · rw [eW1]
      exact World.rowIs_alloc w1 _ 38 (rsv [0, 0, 0, 0, 0] (.slice none 0 0)) (fun i hi => by
        rcases i with _ | _ | _ | _ | _ | _ | i <;> first | rfl | (exfalso; have : _ < 6 := hi; omega))
    · rw [eW1]; exact S1.out.2.alloc S1.out.2.size _
  clear eW1
  obtain ⟨Q, eQ⟩ : ∃ Q, Q = w1.heap.size := ⟨_, rfl⟩
  rw [← eQ] at P1 ⊢
  clear eQ S1
  go_loopw [5] (fun x wr => ∃ i : Nat, i ≤ len ∧ x = .int .i64 (i : Int) ∧ Hid (PL w P mb Q wr)) (fun x _ => len - (intOf x).toNat)
  case atStart => exact ⟨0, by omega, rfl, P1⟩
  case round =>
    obtain ⟨i, hi, rfl, hR⟩ := hrel
    by_cases hlt : i < len
    · have hi0 : (0 : Int) ≤ (i : Int) := by omega
      have hil : (i : Int) < (len : Int) := by omega
      by_cases h120 : (i : Int) < 120
      · obtain ⟨wo, ewo⟩ : ∃ wo, wo = wr := ⟨_, rfl⟩
        subst ewo
        obtain ⟨H, ws, v, q1, q2, q3, q4⟩ := hR.out
        have R : Hid (FoM wo w.heap.size P mb H ws ∧ RS wo w.heap.size Q H ws v ∧ Inv H ws ∧ Below w.heap.size w wo) := ⟨q1, q2, q3, q4⟩
        clear q1 q2 q3 q4 hR
        have hRw := HL.out.2.later R.out.2.2.2
        obtain ⟨b, off, rfl, hbl, hcs⟩ := hRw.2.2 (by omega)
        obtain ⟨qi, ci, x0, hvi, hmi⟩ := hcs i hlt
        obtain ⟨li, eli⟩ : ∃ li, li = (ls.getD i []).length := ⟨_, rfl⟩
        rw [← eli] at x0 hvi hmi
        have XV : Hid (wo.cell? ⟨b, off + i, none⟩ = some (.slice qi li ci) ∧ b < wo.heap.size ∧ Vw wo qi li (ls.getD i [])) := ⟨x0, hbl, hvi⟩
        unfold maxLen at hmi
        clear hRw hcs hvi eli hbl
        go_wp2
        obtain ⟨W1, eW1⟩ : ∃ W1, W1 = wo.alloc (.cells #[.int .i64 0, .int .i64 0, .int .i64 0] 39) := ⟨_, rfl⟩
        rw [← eW1]
        have A1 : Hid (∃ f : Nat → Int, W1.rowIs wo.heap.size 39 3 (fun t => .int .i64 (f t)) ∧ Below wo.heap.size wo W1) := by
          refine ⟨fun _ => 0, ?_, ?_⟩
          · rw [eW1]
            exact World.rowIs_alloc wo _ 39 (fun _ => .int .i64 0) (fun i hi => by
              rcases i with _ | _ | _ | i <;> first | rfl | (exfalso; have : _ < 3 := hi; omega))
          · rw [eW1]; exact (Below.refl _ _).alloc (Nat.le_refl _) _
        clear eW1 x0
        go_loopw [7] (fun x wi => ∃ j : Nat, j ≤ 3 ∧ x = .int .i64 (j : Int) ∧ Hid (∃ f : Nat → Int, wi.rowIs wo.heap.size 39 3 (fun t => .int .i64 (f t)) ∧ Below wo.heap.size wo wi)) (fun x _ => 3 - (intOf x).toNat)
        case atStart => exact ⟨0, by omega, rfl, A1⟩
        case round =>
          obtain ⟨j, hj, rfl, hA⟩ := hrel
          have x0 : wr.cell? ⟨b, off + i, none⟩ = some (.slice qi li ci) := by
            obtain ⟨f, _, hb⟩ := hA.out
            exact (hb.cell (p := ⟨b, off + i, none⟩) XV.out.2.1).trans XV.out.1
          have hj0 : (0 : Int) ≤ (j : Int) := by omega
          by_cases hjl : (j : Int) < (li : Int)
          · by_cases hj3 : (j : Int) < 3
            · obtain ⟨f, hf, hb⟩ := hA.out
              obtain ⟨bi, oi, rfl, hlti, hci⟩ := XV.out.2.2.2 (by omega)
              have y0 := (hb.cell (p := ⟨bi, oi + j, none⟩) hlti).trans (hci j (by omega))
              have c0 := World.rowIs.cell hf (i := j) (by omega)
              have z0 := World.rowIs.frozen hf j
              obtain ⟨yv, ey⟩ : ∃ yv, yv = (ls.getD i []).getD j 0 := ⟨_, rfl⟩
              rw [← ey] at y0
              have FB : Hid (wr.rowIs wo.heap.size 39 3 (fun t => .int .i64 (f t)) ∧ Below wo.heap.size wo wr) := ⟨hf, hb⟩
              clear hf hb hci hlti ey hA
              go_wp2
              go_roundw
              case rel =>
                refine ⟨j + 1, by omega, by go_num, fun t => if t = j then yv else f t, (World.rowIs.set FB.out.1 j _).congr fun t ht => ?_, FB.out.2.setCell (p := ⟨wo.heap.size, j, none⟩) (Nat.le_refl _) _⟩
                by_cases e : t = j
                · rw [if_pos e]; simp [e]
                · rw [if_neg e]; simp [e]
              case measure => simp [intOf]; omega
            · have d3 : decide ((j : Int) < 3) = false := by simp; omega
              obtain ⟨f, hf, hb⟩ := hA.out
              have y0 := World.rowIs.cell hf (i := 0) (by omega)
              have y1 := World.rowIs.cell hf (i := 1) (by omega)
              have y2 := World.rowIs.cell hf (i := 2) (by omega)
              obtain ⟨k0, e0⟩ : ∃ k, k = f 0 := ⟨_, rfl⟩
              obtain ⟨k1, e1⟩ : ∃ k, k = f 1 := ⟨_, rfl⟩
              obtain ⟨k2, e2⟩ : ∃ k, k = f 2 := ⟨_, rfl⟩
              rw [← e0] at y0
              rw [← e1] at y1
              rw [← e2] at y2
              obtain ⟨w3, ew3⟩ : ∃ w3, w3 = wr := ⟨_, rfl⟩
              subst ew3
              have G3 : Hid (FoM w3 w.heap.size P mb H ws ∧ RS w3 w.heap.size Q H ws v ∧ Inv H ws ∧ Below w.heap.size w w3 ∧ w3.rowIs wo.heap.size 39 3 (fun t => .int .i64 (f t)) ∧ f 0 = k0 ∧ f 1 = k1 ∧ f 2 = k2) := ⟨R.out.1.later hb, R.out.2.1.later hb, R.out.2.2.1, R.out.2.2.2.trans (hb.mono R.out.2.2.2.size), hf, e0.symm, e1.symm, e2.symm⟩
              clear hA hf hb e0 e1 e2
              go_wp2_with fail
              refine (refTake w.heap.size Q H ws v k0 k1 k2 w3 G3.out.2.1 G3.out.2.2.1 G3.out.2.2.2.1.size).mono ?_
              rintro e w4 ⟨vo, v', rfl, hR4, hO4, hB4, hK4⟩
              obtain ⟨qo, co, rfl⟩ := own_form hO4
              have r4 : w4.rowIs wo.heap.size 39 3 (fun t => .int .i64 (f t)) := row_other G3.out.2.2.2.2.1 hK4 (rows_apart G3.out.2.2.2.2.1 G3.out.2.1.1 (by decide)) (row_own_apart G3.out.2.2.2.2.1 G3.out.2.1.2.1 (by decide))
              have y0 : w4.cell? ⟨wo.heap.size, 0, none⟩ = some (.int .i64 k0) := (World.rowIs.cell r4 (i := 0) (by omega)).trans (by rw [G3.out.2.2.2.2.2.1])
              have y1 : w4.cell? ⟨wo.heap.size, 1, none⟩ = some (.int .i64 k1) := (World.rowIs.cell r4 (i := 1) (by omega)).trans (by rw [G3.out.2.2.2.2.2.2.1])
              have y2 : w4.cell? ⟨wo.heap.size, 2, none⟩ = some (.int .i64 k2) := (World.rowIs.cell r4 (i := 2) (by omega)).trans (by rw [G3.out.2.2.2.2.2.2.2])
              obtain ⟨lo, elo⟩ : ∃ lo, lo = (tk H ws k0 k1 k2).1.length := ⟨_, rfl⟩
              rw [← elo] at hO4
              obtain ⟨ec, eec⟩ : ∃ ec, ec = tkC (H.getD k0.toNat 0) ws k0 k1 k2 := ⟨_, rfl⟩
              rw [← eec, ← elo]
              have G4 : Hid (FoM w4 w.heap.size P mb H ws ∧ RS w4 w.heap.size Q (tk H ws k0 k1 k2).2.1 (tk H ws k0 k1 k2).2.2 v' ∧ Below w.heap.size w w4 ∧ w4.ownsRow w3.heap.size 3 1 (.slice qo lo co) lo ((tk H ws k0 k1 k2).1.map (Value.int .i64)) ∧ lo = (tk H ws k0 k1 k2).1.length ∧ ec = tkC (H.getD k0.toNat 0) ws k0 k1 k2) := ⟨fs_kp G3.out.2.1 G3.out.1 hK4, hR4, G3.out.2.2.2.1.trans hB4, hO4, elo, eec⟩
              clear hR4 hO4 hB4 hK4 r4 elo eec
              go_wp2_with fail
              refine (take_any w.heap.size P mb H ws k0 k1 k2 w4 G4.out.1 G3.out.2.2.1 G4.out.2.2.1.size).mono ?_
              rintro e w5 ⟨vl, rfl, hF5, hO5, hB5, hK5⟩
              rw [← G4.out.2.2.2.2.2]
              rw [← G4.out.2.2.2.2.1] at hO5
              obtain ⟨ql, cl, rfl⟩ := own_form hO5
              obtain ⟨H', eH'⟩ : ∃ H', H' = (tk H ws k0 k1 k2).2.1 := ⟨_, rfl⟩
              obtain ⟨ws', ews'⟩ : ∃ ws', ws' = (tk H ws k0 k1 k2).2.2 := ⟨_, rfl⟩
              have i5 : Inv H' ws' := by rw [eH', ews']; exact G3.out.2.2.1.take k0 k1 k2
              have r5 := rs_kp G4.out.2.1 G4.out.1 hK5
              rw [← eH', ← ews'] at hF5 r5
              have o5 : w5.ownsRow w3.heap.size 3 1 (.slice qo lo co) lo ((tk H ws k0 k1 k2).1.map (Value.int .i64)) := by
                have c := G4.out.1.own_apart G4.out.2.2.2.1 (by decide)
                exact own_block G4.out.2.2.2.1 (fun k h => hK5.2 k (own_lt G4.out.2.2.2.1 k h).2 (fun e => c.1 (by rw [h, e])) (fun e => c.2 (by rw [h, e])))
              have G5 : Hid (FoM w5 w.heap.size P mb H' ws' ∧ RS w5 w.heap.size Q H' ws' v' ∧ Inv H' ws' ∧ Below w.heap.size w w5 ∧ Vw w5 qo lo (tk H ws k0 k1 k2).1 ∧ Vw w5 ql lo (tk H ws k0 k1 k2).1 ∧ lo ≤ maxLen) := by
                obtain ⟨a1, c1, e1, hv1⟩ := own_vw o5
                obtain ⟨a2, c2, e2, hv2⟩ := own_vw hO5
                cases e1
                cases e2
                exact ⟨hF5, r5, i5, G4.out.2.2.1.trans hB5, hv1, hv2, own_max o5⟩
              clear hF5 hO5 hB5 hK5 r5 o5 i5 G4 eH' ews' y0 y1 y2 x0
              go_wp2_with fail
              refine (errF_same ec w5 (HL.out.1.later G5.out.2.2.2.1)).mono ?_
              rintro e w6 ⟨rfl, hb6⟩
              have G6 : Hid (FoM w6 w.heap.size P mb H' ws' ∧ RS w6 w.heap.size Q H' ws' v' ∧ Inv H' ws' ∧ Below w.heap.size w w6 ∧ Vw w6 qo lo (tk H ws k0 k1 k2).1 ∧ Vw w6 ql lo (tk H ws k0 k1 k2).1 ∧ lo ≤ maxLen) := ⟨G5.out.1.later hb6, G5.out.2.1.later hb6, G5.out.2.2.1, G5.out.2.2.2.1.trans (hb6.mono G5.out.2.2.2.1.size), G5.out.2.2.2.2.1.later hb6, G5.out.2.2.2.2.2.1.later hb6, G5.out.2.2.2.2.2.2⟩
              clear hb6 G5
              go_wp2_with fail
              refine (ints_same ql qo lo cl lo co _ w6 G6.out.2.2.2.2.2.1 G6.out.2.2.2.2.1 G6.out.2.2.2.2.2.2).mono ?_
              rintro e w7 ⟨rfl, n7, e7⟩
              have G7 : Hid (FoM w7 w.heap.size P mb H' ws' ∧ RS w7 w.heap.size Q H' ws' v' ∧ Inv H' ws' ∧ Below w.heap.size w w7) := by
                rw [e7]
                exact ⟨G6.out.1.of_blocks rfl rfl, G6.out.2.1.of_blocks rfl (fun _ _ => rfl), G6.out.2.2.1, below_drews G6.out.2.2.2.1 _⟩
              clear e7 G6
              have N7 : Hid (w7.ownsRow w7.heap.size 3 1 (.slice none 0 0) 0 (((up H').take 0).map (Value.int .i64)) ∧ Below w7.heap.size w7 w7) := ⟨World.ownsRow_nil _ _ _ _, Below.refl _ _⟩
              obtain ⟨ii, hi', hz0, hz1, hz2⟩ := info_int
              have HJ : Hid (Tryd.prog.info? 3 = some ii ∧ ii.zero = some (.int .i64 0) ∧ ii.size = 1 ∧ ii.bytes = 8) := ⟨hi', hz0, hz1, hz2⟩
              clear hi' hz0 hz1 hz2
              go_wp2
              go_loopw [13, 14] (fun vn x wk => ∃ k : Nat, k ≤ 5 ∧ x = .int .i64 (k : Int) ∧ Hid (wk.ownsRow w7.heap.size 3 1 vn k (((up H').take k).map (Value.int .i64)) ∧ Below w7.heap.size w7 wk)) (fun vn x _ => 5 - (intOf x).toNat)
              case atStart => exact ⟨0, by omega, rfl, N7⟩
              case round =>
                obtain ⟨k, hk, rfl, hN⟩ := hrel
                obtain ⟨wk, ewk⟩ : ∃ wk, wk = wr := ⟨_, rfl⟩
                subst ewk
                obtain ⟨qn, cn, rfl⟩ := own_form hN.out.1
                by_cases hk5 : k < 5
                · have hk0 : (0 : Int) ≤ (k : Int) := by omega
                  have hk5' : (k : Int) < 5 := by omega
                  have rk := G7.out.2.1.later hN.out.2
                  obtain ⟨ck, zk⟩ := rk.num hk5
                  have hnum := G7.out.2.2.1.num k hk5
                  obtain ⟨y, ey⟩ : ∃ y, y = H'.getD k 0 := ⟨_, rfl⟩
                  rw [← ey] at ck hnum
                  have EY : Hid (y = H'.getD k 0 ∧ w7.heap.size ≤ wk.heap.size) := ⟨ey, hN.out.2.size⟩
                  clear ey rk
                  go_wp2_with (at_builtin; refine wpList_append_own _ rfl _ _ 22 rfl w7.heap.size 3 ii (.int .i64 0) 1 8 Tryd.underlying22 HJ.out.1 HJ.out.2.1 HJ.out.2.2.1 HJ.out.2.2.2 rfl (by decide) (.slice qn k cn) k (((up H').take k).map (Value.int .i64)) rfl (by exact own_later0 hN.out.1 ((Below.refl wk.heap.size wk).alloc (Nat.le_refl _) _)) ⟨wk.heap.size, 0, none⟩ 1 1 [.int .i64 (y + 1)] rfl rfl (by exact new_int wk _ rfl (y + 1) 3) (int_one _) (by unfold maxLen; omega) (by omega) (by have := EY.out.2; simp; omega) ?_; intro v1 w8 hown hgrow _; obtain ⟨q1, k1', rfl⟩ := own_form hown; have HO1 : Hid (w8.ownsRow w7.heap.size 3 1 (.slice q1 (k + 1) k1') (k + 1) (((up H').take k).map (Value.int .i64) ++ [.int .i64 (y + 1)])) := hown; have HG1 : Hid _ := hgrow; clear hown hgrow)
                  go_roundw
                  case rel =>
                    refine ⟨k + 1, by omega, by go_num, ?_, ((hN.out.2.alloc EY.out.2 _).grown HG1.out (by have := EY.out.2; simp; omega) (fun b hb => (own_lt hN.out.1 b hb).1))⟩
                    rw [up_get H' hk5, List.map_append, ← EY.out.1]
                    exact HO1.out
                  case measure => simp [intOf]; omega
                · have hk5 : k = 5 := by omega
                  subst hk5
                  have G8 : Hid (FoM wk w.heap.size P mb H' ws' ∧ RS wk w.heap.size Q H' ws' v' ∧ Inv H' ws' ∧ Below w.heap.size w wk ∧ Vw wk qn 5 (up H')) := by
                    obtain ⟨a1, c1, e1, hv1⟩ := own_vw hN.out.1
                    cases e1
                    rw [show (up H').take 5 = up H' from List.take_of_length_le (by simp [up])] at hv1
                    exact ⟨G7.out.1.later hN.out.2, G7.out.2.1.later hN.out.2, G7.out.2.2.1, G7.out.2.2.2.trans (hN.out.2.mono G7.out.2.2.2.size), hv1⟩
                  obtain ⟨qv, cv, rfl⟩ := own_form G8.out.2.1.2.1
                  have c5 : wk.cell? ⟨Q, 5, none⟩ = some (.slice qv ws'.length cv) := G8.out.2.1.wait.1
                  have hne : ((ws'.length : Int) != (ws'.length : Int)) = false := by simp
                  clear G7 hN
                  go_wp2_with fail
                  go_region_held3 (fun w' => w'.cell? ⟨Q, 5, none⟩ = some (.slice qv ws'.length cv)) (first | exact c9 | exact c5 | go_keep) (first
                    | (go_at_call 12; refine (next_any w.heap.size P mb H' ws' _ (by exact G8.out.1.of_blocks rfl rfl)).mono ?_; rintro e w9 ⟨vx, rfl, hO9, hB9⟩; obtain ⟨qx, cx, rfl, hv9⟩ := own_vw hO9; have D9 : Hid (Below wk.heap.size wk w9) := (below_from hB9 rfl rfl rfl rfl); have c9 : w9.cell? ⟨Q, 5, none⟩ = some (.slice qv ws'.length cv) := ((D9.out.cell (p := ⟨Q, 5, none⟩) (World.rowIs.lt G8.out.2.1.1)).trans c5); have V9 : Hid (Vw w9 qx 5 (up H') ∧ Vw w9 qn 5 (up H') ∧ FoM w9 w.heap.size P mb H' ws' ∧ RS w9 w.heap.size Q H' ws' (.slice qv ws'.length cv) ∧ Below w.heap.size w w9) := ⟨hv9, G8.out.2.2.2.2.later D9.out, G8.out.1.later D9.out, G8.out.2.1.later D9.out, G8.out.2.2.2.1.trans (D9.out.mono G8.out.2.2.2.1.size)⟩; clear hO9 hB9 hv9)
                    | (go_at_call 11; refine (ints_same qx qn 5 cx 5 cn (up H') _ (by exact vw_heap V9.out.1 rfl) (by exact vw_heap V9.out.2.1 rfl) (by unfold maxLen; omega)).mono ?_; rintro e w10 ⟨rfl, n10, rfl⟩)
                    | (go_at_call 9; refine (waits_any w.heap.size P mb H' ws' _ (by exact V9.out.2.2.1.of_blocks rfl rfl)).mono ?_; rintro e w11 ⟨rfl, rfl⟩))
                  all_goals
                    go_wp2
                    go_roundw
                    case rel => exact ⟨i + 1, by omega, by go_num, _, _, _, V9.out.2.2.1.of_blocks rfl rfl, V9.out.2.2.2.1.of_blocks rfl (fun _ _ => rfl), G8.out.2.2.1, below_heap2 V9.out.2.2.2.2 rfl rfl rfl rfl⟩
                    case measure => simp [intOf]; omega
          · have dl : decide ((j : Int) < (li : Int)) = false := by simp; omega
            obtain ⟨f, hf, hb⟩ := hA.out
            have y0 := World.rowIs.cell hf (i := 0) (by omega)
            have y1 := World.rowIs.cell hf (i := 1) (by omega)
            have y2 := World.rowIs.cell hf (i := 2) (by omega)
            obtain ⟨k0, e0⟩ : ∃ k, k = f 0 := ⟨_, rfl⟩
            obtain ⟨k1, e1⟩ : ∃ k, k = f 1 := ⟨_, rfl⟩
            obtain ⟨k2, e2⟩ : ∃ k, k = f 2 := ⟨_, rfl⟩
            rw [← e0] at y0
            rw [← e1] at y1
            rw [← e2] at y2
            obtain ⟨w3, ew3⟩ : ∃ w3, w3 = wr := ⟨_, rfl⟩
            subst ew3
            have G3 : Hid (FoM w3 w.heap.size P mb H ws ∧ RS w3 w.heap.size Q H ws v ∧ Inv H ws ∧ Below w.heap.size w w3 ∧ w3.rowIs wo.heap.size 39 3 (fun t => .int .i64 (f t)) ∧ f 0 = k0 ∧ f 1 = k1 ∧ f 2 = k2) := ⟨R.out.1.later hb, R.out.2.1.later hb, R.out.2.2.1, R.out.2.2.2.trans (hb.mono R.out.2.2.2.size), hf, e0.symm, e1.symm, e2.symm⟩
            clear hA hf hb e0 e1 e2
            go_wp2_with fail
            refine (refTake w.heap.size Q H ws v k0 k1 k2 w3 G3.out.2.1 G3.out.2.2.1 G3.out.2.2.2.1.size).mono ?_
            rintro e w4 ⟨vo, v', rfl, hR4, hO4, hB4, hK4⟩
            obtain ⟨qo, co, rfl⟩ := own_form hO4
            have r4 : w4.rowIs wo.heap.size 39 3 (fun t => .int .i64 (f t)) := row_other G3.out.2.2.2.2.1 hK4 (rows_apart G3.out.2.2.2.2.1 G3.out.2.1.1 (by decide)) (row_own_apart G3.out.2.2.2.2.1 G3.out.2.1.2.1 (by decide))
            have y0 : w4.cell? ⟨wo.heap.size, 0, none⟩ = some (.int .i64 k0) := (World.rowIs.cell r4 (i := 0) (by omega)).trans (by rw [G3.out.2.2.2.2.2.1])
            have y1 : w4.cell? ⟨wo.heap.size, 1, none⟩ = some (.int .i64 k1) := (World.rowIs.cell r4 (i := 1) (by omega)).trans (by rw [G3.out.2.2.2.2.2.2.1])
            have y2 : w4.cell? ⟨wo.heap.size, 2, none⟩ = some (.int .i64 k2) := (World.rowIs.cell r4 (i := 2) (by omega)).trans (by rw [G3.out.2.2.2.2.2.2.2])
            obtain ⟨lo, elo⟩ : ∃ lo, lo = (tk H ws k0 k1 k2).1.length := ⟨_, rfl⟩
            rw [← elo] at hO4
            obtain ⟨ec, eec⟩ : ∃ ec, ec = tkC (H.getD k0.toNat 0) ws k0 k1 k2 := ⟨_, rfl⟩
            rw [← eec, ← elo]
            have G4 : Hid (FoM w4 w.heap.size P mb H ws ∧ RS w4 w.heap.size Q (tk H ws k0 k1 k2).2.1 (tk H ws k0 k1 k2).2.2 v' ∧ Below w.heap.size w w4 ∧ w4.ownsRow w3.heap.size 3 1 (.slice qo lo co) lo ((tk H ws k0 k1 k2).1.map (Value.int .i64)) ∧ lo = (tk H ws k0 k1 k2).1.length ∧ ec = tkC (H.getD k0.toNat 0) ws k0 k1 k2) := ⟨fs_kp G3.out.2.1 G3.out.1 hK4, hR4, G3.out.2.2.2.1.trans hB4, hO4, elo, eec⟩
            clear hR4 hO4 hB4 hK4 r4 elo eec
            go_wp2_with fail
            refine (take_any w.heap.size P mb H ws k0 k1 k2 w4 G4.out.1 G3.out.2.2.1 G4.out.2.2.1.size).mono ?_
            rintro e w5 ⟨vl, rfl, hF5, hO5, hB5, hK5⟩
            rw [← G4.out.2.2.2.2.2]
            rw [← G4.out.2.2.2.2.1] at hO5
            obtain ⟨ql, cl, rfl⟩ := own_form hO5
            obtain ⟨H', eH'⟩ : ∃ H', H' = (tk H ws k0 k1 k2).2.1 := ⟨_, rfl⟩
            obtain ⟨ws', ews'⟩ : ∃ ws', ws' = (tk H ws k0 k1 k2).2.2 := ⟨_, rfl⟩
            have i5 : Inv H' ws' := by rw [eH', ews']; exact G3.out.2.2.1.take k0 k1 k2
            have r5 := rs_kp G4.out.2.1 G4.out.1 hK5
            rw [← eH', ← ews'] at hF5 r5
            have o5 : w5.ownsRow w3.heap.size 3 1 (.slice qo lo co) lo ((tk H ws k0 k1 k2).1.map (Value.int .i64)) := by
              have c := G4.out.1.own_apart G4.out.2.2.2.1 (by decide)
              exact own_block G4.out.2.2.2.1 (fun k h => hK5.2 k (own_lt G4.out.2.2.2.1 k h).2 (fun e => c.1 (by rw [h, e])) (fun e => c.2 (by rw [h, e])))
            have G5 : Hid (FoM w5 w.heap.size P mb H' ws' ∧ RS w5 w.heap.size Q H' ws' v' ∧ Inv H' ws' ∧ Below w.heap.size w w5 ∧ Vw w5 qo lo (tk H ws k0 k1 k2).1 ∧ Vw w5 ql lo (tk H ws k0 k1 k2).1 ∧ lo ≤ maxLen) := by
              obtain ⟨a1, c1, e1, hv1⟩ := own_vw o5
              obtain ⟨a2, c2, e2, hv2⟩ := own_vw hO5
              cases e1
              cases e2
              exact ⟨hF5, r5, i5, G4.out.2.2.1.trans hB5, hv1, hv2, own_max o5⟩
            clear hF5 hO5 hB5 hK5 r5 o5 i5 G4 eH' ews' y0 y1 y2 x0
            go_wp2_with fail
            refine (errF_same ec w5 (HL.out.1.later G5.out.2.2.2.1)).mono ?_
            rintro e w6 ⟨rfl, hb6⟩
            have G6 : Hid (FoM w6 w.heap.size P mb H' ws' ∧ RS w6 w.heap.size Q H' ws' v' ∧ Inv H' ws' ∧ Below w.heap.size w w6 ∧ Vw w6 qo lo (tk H ws k0 k1 k2).1 ∧ Vw w6 ql lo (tk H ws k0 k1 k2).1 ∧ lo ≤ maxLen) := ⟨G5.out.1.later hb6, G5.out.2.1.later hb6, G5.out.2.2.1, G5.out.2.2.2.1.trans (hb6.mono G5.out.2.2.2.1.size), G5.out.2.2.2.2.1.later hb6, G5.out.2.2.2.2.2.1.later hb6, G5.out.2.2.2.2.2.2⟩
            clear hb6 G5
            go_wp2_with fail
            refine (ints_same ql qo lo cl lo co _ w6 G6.out.2.2.2.2.2.1 G6.out.2.2.2.2.1 G6.out.2.2.2.2.2.2).mono ?_
            rintro e w7 ⟨rfl, n7, e7⟩
            have G7 : Hid (FoM w7 w.heap.size P mb H' ws' ∧ RS w7 w.heap.size Q H' ws' v' ∧ Inv H' ws' ∧ Below w.heap.size w w7) := by
              rw [e7]
              exact ⟨G6.out.1.of_blocks rfl rfl, G6.out.2.1.of_blocks rfl (fun _ _ => rfl), G6.out.2.2.1, below_drews G6.out.2.2.2.1 _⟩
            clear e7 G6
            have N7 : Hid (w7.ownsRow w7.heap.size 3 1 (.slice none 0 0) 0 (((up H').take 0).map (Value.int .i64)) ∧ Below w7.heap.size w7 w7) := ⟨World.ownsRow_nil _ _ _ _, Below.refl _ _⟩
            obtain ⟨ii, hi', hz0, hz1, hz2⟩ := info_int
            have HJ : Hid (Tryd.prog.info? 3 = some ii ∧ ii.zero = some (.int .i64 0) ∧ ii.size = 1 ∧ ii.bytes = 8) := ⟨hi', hz0, hz1, hz2⟩
            clear hi' hz0 hz1 hz2
            go_wp2
            go_loopw [13, 14] (fun vn x wk => ∃ k : Nat, k ≤ 5 ∧ x = .int .i64 (k : Int) ∧ Hid (wk.ownsRow w7.heap.size 3 1 vn k (((up H').take k).map (Value.int .i64)) ∧ Below w7.heap.size w7 wk)) (fun vn x _ => 5 - (intOf x).toNat)
            case atStart => exact ⟨0, by omega, rfl, N7⟩
            case round =>
              obtain ⟨k, hk, rfl, hN⟩ := hrel
              obtain ⟨wk, ewk⟩ : ∃ wk, wk = wr := ⟨_, rfl⟩
              subst ewk
              obtain ⟨qn, cn, rfl⟩ := own_form hN.out.1
              by_cases hk5 : k < 5
              · have hk0 : (0 : Int) ≤ (k : Int) := by omega
                have hk5' : (k : Int) < 5 := by omega
                have rk := G7.out.2.1.later hN.out.2
                obtain ⟨ck, zk⟩ := rk.num hk5
                have hnum := G7.out.2.2.1.num k hk5
                obtain ⟨y, ey⟩ : ∃ y, y = H'.getD k 0 := ⟨_, rfl⟩
                rw [← ey] at ck hnum
                have EY : Hid (y = H'.getD k 0 ∧ w7.heap.size ≤ wk.heap.size) := ⟨ey, hN.out.2.size⟩
                clear ey rk
                go_wp2_with (at_builtin; refine wpList_append_own _ rfl _ _ 22 rfl w7.heap.size 3 ii (.int .i64 0) 1 8 Tryd.underlying22 HJ.out.1 HJ.out.2.1 HJ.out.2.2.1 HJ.out.2.2.2 rfl (by decide) (.slice qn k cn) k (((up H').take k).map (Value.int .i64)) rfl (by exact own_later0 hN.out.1 ((Below.refl wk.heap.size wk).alloc (Nat.le_refl _) _)) ⟨wk.heap.size, 0, none⟩ 1 1 [.int .i64 (y + 1)] rfl rfl (by exact new_int wk _ rfl (y + 1) 3) (int_one _) (by unfold maxLen; omega) (by omega) (by have := EY.out.2; simp; omega) ?_; intro v1 w8 hown hgrow _; obtain ⟨q1, k1', rfl⟩ := own_form hown; have HO1 : Hid (w8.ownsRow w7.heap.size 3 1 (.slice q1 (k + 1) k1') (k + 1) (((up H').take k).map (Value.int .i64) ++ [.int .i64 (y + 1)])) := hown; have HG1 : Hid _ := hgrow; clear hown hgrow)
                go_roundw
                case rel =>
                  refine ⟨k + 1, by omega, by go_num, ?_, ((hN.out.2.alloc EY.out.2 _).grown HG1.out (by have := EY.out.2; simp; omega) (fun b hb => (own_lt hN.out.1 b hb).1))⟩
                  rw [up_get H' hk5, List.map_append, ← EY.out.1]
                  exact HO1.out
                case measure => simp [intOf]; omega
              · have hk5 : k = 5 := by omega
                subst hk5
                have G8 : Hid (FoM wk w.heap.size P mb H' ws' ∧ RS wk w.heap.size Q H' ws' v' ∧ Inv H' ws' ∧ Below w.heap.size w wk ∧ Vw wk qn 5 (up H')) := by
                  obtain ⟨a1, c1, e1, hv1⟩ := own_vw hN.out.1
                  cases e1
                  rw [show (up H').take 5 = up H' from List.take_of_length_le (by simp [up])] at hv1
                  exact ⟨G7.out.1.later hN.out.2, G7.out.2.1.later hN.out.2, G7.out.2.2.1, G7.out.2.2.2.trans (hN.out.2.mono G7.out.2.2.2.size), hv1⟩
                obtain ⟨qv, cv, rfl⟩ := own_form G8.out.2.1.2.1
                have c5 : wk.cell? ⟨Q, 5, none⟩ = some (.slice qv ws'.length cv) := G8.out.2.1.wait.1
                have hne : ((ws'.length : Int) != (ws'.length : Int)) = false := by simp
                clear G7 hN
                go_wp2_with fail
                go_region_held3 (fun w' => w'.cell? ⟨Q, 5, none⟩ = some (.slice qv ws'.length cv)) (first | exact c9 | exact c5 | go_keep) (first
                  | (go_at_call 12; refine (next_any w.heap.size P mb H' ws' _ (by exact G8.out.1.of_blocks rfl rfl)).mono ?_; rintro e w9 ⟨vx, rfl, hO9, hB9⟩; obtain ⟨qx, cx, rfl, hv9⟩ := own_vw hO9; have D9 : Hid (Below wk.heap.size wk w9) := (below_from hB9 rfl rfl rfl rfl); have c9 : w9.cell? ⟨Q, 5, none⟩ = some (.slice qv ws'.length cv) := ((D9.out.cell (p := ⟨Q, 5, none⟩) (World.rowIs.lt G8.out.2.1.1)).trans c5); have V9 : Hid (Vw w9 qx 5 (up H') ∧ Vw w9 qn 5 (up H') ∧ FoM w9 w.heap.size P mb H' ws' ∧ RS w9 w.heap.size Q H' ws' (.slice qv ws'.length cv) ∧ Below w.heap.size w w9) := ⟨hv9, G8.out.2.2.2.2.later D9.out, G8.out.1.later D9.out, G8.out.2.1.later D9.out, G8.out.2.2.2.1.trans (D9.out.mono G8.out.2.2.2.1.size)⟩; clear hO9 hB9 hv9)
                  | (go_at_call 11; refine (ints_same qx qn 5 cx 5 cn (up H') _ (by exact vw_heap V9.out.1 rfl) (by exact vw_heap V9.out.2.1 rfl) (by unfold maxLen; omega)).mono ?_; rintro e w10 ⟨rfl, n10, rfl⟩)
                  | (go_at_call 9; refine (waits_any w.heap.size P mb H' ws' _ (by exact V9.out.2.2.1.of_blocks rfl rfl)).mono ?_; rintro e w11 ⟨rfl, rfl⟩))
                all_goals
                  go_wp2
                  go_roundw
                  case rel => exact ⟨i + 1, by omega, by go_num, _, _, _, V9.out.2.2.1.of_blocks rfl rfl, V9.out.2.2.2.1.of_blocks rfl (fun _ _ => rfl), G8.out.2.2.1, below_heap2 V9.out.2.2.2.2 rfl rfl rfl rfl⟩
                  case measure => simp [intOf]; omega
      · have d120 : decide ((i : Int) < 120) = false := by simp; omega
        go_wp2
        go_ret
        obtain ⟨H, ws, v, q1, q2, q3, q4⟩ := hR.out
        exact ⟨rfl, q4⟩
    · have dl : decide ((i : Int) < (len : Int)) = false := by simp; omega
      go_wp2
      go_ret
      obtain ⟨H, ws, v, q1, q2, q3, q4⟩ := hR.out
      exact ⟨rfl, q4⟩
end Go.Proofs.YtgcdbcljneoifacDoor.Fif
