/-
  The document's own joiner of pieces.
-/
import Derived.Test.YtnchnmccconcdaeDoorPieR
import Derived.Handy
namespace Go.Proofs.YtnchnmccconcdaeDoor.Pie
open Go.RowKit
open Go.Proofs.YtnchnmccconcdaeDoor.Fif (own_lt own_block own_form own_mono Kp ret_bool)
set_option linter.unusedVariables false

def rjv (j : J) (i : Nat) : Value := if i = 0 then .int .i64 (j.of : Int) else if i ≤ 60 then .bool (j.T (i - 1)).isSome else .string ((j.T (i - 61)).getD .empty)
def RJ (w : World) (Q : Nat) (j : J) : Prop := w.rowIs Q 74 121 (rjv j)
set_option maxRecDepth 100000 in
theorem zero121 : ∀ i, i < 121 → Tryd.zeroCells74[i]? = some (rjv start i) := by
  intro i hi
  rcases i with _ | _ | _ | _ | _ | _ | _ | _ | _ | _ | _ | _ | _ | _ | _ | _ | _ | _ | _ | _ | _ | _ | _ | _ | _ | _ | _ | _ | _ | _ | _ | _ | _ | _ | _ | _ | _ | _ | _ | _ | _ | _ | _ | _ | _ | _ | _ | _ | _ | _ | _ | _ | _ | _ | _ | _ | _ | _ | _ | _ | _ | _ | _ | _ | _ | _ | _ | _ | _ | _ | _ | _ | _ | _ | _ | _ | _ | _ | _ | _ | _ | _ | _ | _ | _ | _ | _ | _ | _ | _ | _ | _ | _ | _ | _ | _ | _ | _ | _ | _ | _ | _ | _ | _ | _ | _ | _ | _ | _ | _ | _ | _ | _ | _ | _ | _ | _ | _ | _ | _ | _ | i <;> first | rfl | omega
theorem size121 : Tryd.zeroCells74.size = 121 := by kernel_rfl
theorem RJ.made (w : World) : RJ (w.alloc (.cells Tryd.zeroCells74 74)) w.heap.size start := by
  have q := World.rowIs_alloc w Tryd.zeroCells74 74 (rjv start) (fun i hi => zero121 i (by rw [size121] at hi; exact hi))
  rw [size121] at q
  exact q
theorem RJ.later {w w' : World} {Q : Nat} {j : J} (h : RJ w Q j) (hb : Below w.heap.size w w') : RJ w' Q j := World.rowIs.of_block h (hb.block Q (World.rowIs.lt h))
theorem RJ.c0 {w : World} {Q : Nat} {j : J} (h : RJ w Q j) : w.cell? ⟨Q, 0, none⟩ = some (.int .i64 (j.of : Int)) ∧ w.frozen? ⟨Q, 0, none⟩ = false := ⟨World.rowIs.cell h (i := 0) (by omega), World.rowIs.frozen h 0⟩
theorem RJ.cH {w : World} {Q : Nat} {j : J} (h : RJ w Q j) {m : Nat} (hm : m < 60) : w.cell? ⟨Q, 1 + m, none⟩ = some (.bool (j.T m).isSome) ∧ w.frozen? ⟨Q, 1 + m, none⟩ = false := by
  have q := World.rowIs.cell h (i := 1 + m) (by omega)
  rw [rjv, if_neg (by omega), if_pos (by omega), show 1 + m - 1 = m by omega] at q
  exact ⟨q, World.rowIs.frozen h _⟩
theorem RJ.cT {w : World} {Q : Nat} {j : J} (h : RJ w Q j) {m : Nat} (hm : m < 60) : w.cell? ⟨Q, 61 + m, none⟩ = some (.string ((j.T m).getD .empty)) ∧ w.frozen? ⟨Q, 61 + m, none⟩ = false := by
  have q := World.rowIs.cell h (i := 61 + m) (by omega)
  rw [rjv, if_neg (by omega), if_neg (by omega), show 61 + m - 61 = m by omega] at q
  exact ⟨q, World.rowIs.frozen h _⟩
theorem RJ.put {w : World} {Q : Nat} {j : J} (h : RJ w Q j) (n : Nat) {m : Nat} (hm : m < 60) (t : ByteArray) :
    RJ (((w.setCell ⟨Q, 0, none⟩ (.int .i64 (n : Int))).setCell ⟨Q, 1 + m, none⟩ (.bool true)).setCell ⟨Q, 61 + m, none⟩ (.string t)) Q ⟨n, fun i => if i = m then some t else j.T i⟩ := by
  refine (((World.rowIs.set h 0 _).set (1 + m) _).set (61 + m) _).congr fun i hi => ?_
  unfold rjv
  simp only
  by_cases e1 : i = 61 + m
  · subst e1
    rw [if_pos rfl, if_neg (by omega), if_neg (by omega), show 61 + m - 61 = m by omega, if_pos rfl]
    rfl
  · rw [if_neg e1]
    by_cases e2 : i = 1 + m
    · subst e2
      rw [if_pos rfl, if_neg (by omega), if_pos (by omega), show 1 + m - 1 = m by omega, if_pos rfl]
      rfl
    · rw [if_neg e2]
      by_cases e0 : i = 0
      · rw [if_pos e0, if_pos e0]
      · rw [if_neg e0, if_neg e0, if_neg e0]
        by_cases e6 : i ≤ 60
        · rw [if_pos e6, if_pos e6, if_neg (by omega)]
        · rw [if_neg e6, if_neg e6, if_neg (by omega)]
theorem refPiece (a b : Int) (c : ByteArray) (w : World) (r : Bool) (hr : pcBad (a, b, c) = !r) : Calls Tryd.prog 51 #[.agg #[.int .i64 a, .int .i64 b, .string c]] w fun x w' => x = .returned (.bool r) ∧ Below w.heap.size w w' := by
  have hb : Below w.heap.size w (w.alloc (.cells #[.int .i64 a, .int .i64 b, .string c] 78)) := (Below.refl _ _).alloc (Nat.le_refl _) _
  have HB : Hid _ := hb
  clear hb
  cases r
  · have h : pcBad (a, b, c) = true := hr
    simp [pcBad] at h
    clear hr
    by_cases h1 : b < 1
    · have d1 : decide (b ≥ 1) = false := decide_eq_false (by omega)
      clear h h1
      go_enter Tryd.func51, Tryd.ntmps51
      go_wp2
      go_ret
      exact ⟨rfl, HB.out⟩
    · have d1 : decide (b ≥ 1) = true := decide_eq_true (by omega)
      by_cases h2 : 60 < b
      · have d2 : decide (b ≤ 60) = false := decide_eq_false (by omega)
        clear h h1 h2
        go_enter Tryd.func51, Tryd.ntmps51
        go_wp2
        go_ret
        exact ⟨rfl, HB.out⟩
      · have d2 : decide (b ≤ 60) = true := decide_eq_true (by omega)
        by_cases h3 : a < 0
        · have d3 : decide (a ≥ 0) = false := decide_eq_false (by omega)
          clear h h1 h2 h3
          go_enter Tryd.func51, Tryd.ntmps51
          go_wp2
          go_ret
          exact ⟨rfl, HB.out⟩
        · have d3 : decide (a ≥ 0) = true := decide_eq_true (by omega)
          by_cases h4 : b ≤ a
          · have d4 : decide (a < b) = false := decide_eq_false (by omega)
            clear h h1 h2 h3 h4
            go_enter Tryd.func51, Tryd.ntmps51
            go_wp2
            go_ret
            exact ⟨rfl, HB.out⟩
          · have d4 : decide (a < b) = true := decide_eq_true (by omega)
            have d5 : decide ((c.size : Int) ≤ 12) = false := decide_eq_false (by omega)
            clear h h1 h2 h3 h4
            go_enter Tryd.func51, Tryd.ntmps51
            go_wp2
            go_ret
            exact ⟨rfl, HB.out⟩
  · obtain ⟨h1, h2, h3⟩ := pcBad_no (p := (a, b, c)) hr
    simp only at h1 h2 h3
    have d1 : decide (b ≥ 1) = true := decide_eq_true (by omega)
    have d2 : decide (b ≤ 60) = true := decide_eq_true (by omega)
    have d3 : decide (a ≥ 0) = true := decide_eq_true (by omega)
    have d4 : decide (a < b) = true := decide_eq_true (by omega)
    have d5 : decide ((c.size : Int) ≤ 12) = true := decide_eq_true (by omega)
    clear h1 h2 h3 hr
    go_enter Tryd.func51, Tryd.ntmps51
    go_wp2
    go_ret
    exact ⟨rfl, HB.out⟩
theorem drews {B : Nat} {a w : World} (h : Below B a w) (n : Nat) : Below B a (w.drewN n) := ⟨h.os, h.tape, h.output, h.size, h.block⟩
theorem bad_range {p : Pc} (h : pcBad p = true) (j : J) : takeC j p = 1 ∧ takeN j p = false ∧ takeJ j p = j := by
  have e : takeC j p = 1 := if_pos h
  exact ⟨e, by unfold takeN; rw [e]; rfl, by unfold takeJ; rw [e, if_neg (by decide)]⟩
theorem not_zero {p : Pc} {j : J} (h : takeC j p ≠ 0) : takeN j p = false ∧ takeJ j p = j := ⟨by unfold takeN; rw [decide_eq_false h]; rfl, if_neg h⟩
set_option maxRecDepth 100000 in
theorem refTake_bad (a b : Int) (c : ByteArray) (Q : Nat) (j : J) (w : World) (hb : pcBad (a, b, c) = true) :
    Calls Tryd.prog 26 #[.pointer (some ⟨Q, 0, none⟩), .agg #[.int .i64 a, .int .i64 b, .string c]] w fun x w' => x = .returned (.tuple #[.bool false, .int .i64 1]) ∧ Below w.heap.size w w' := by
  have HB : Hid (Below w.heap.size w (w.alloc (.cells #[.int .i64 a, .int .i64 b, .string c] 78))) := (Below.refl _ _).alloc (Nat.le_refl _) _
  have HP : Hid (pcBad (a, b, c) = true) := hb
  clear hb
  go_enter Tryd.func26, Tryd.ntmps26
  go_wp2_with fail
  refine (refPiece a b c _ false HP.out).mono ?_
  rintro e w1 ⟨rfl, hb⟩
  have B1 : Hid (Below w.heap.size w w1) := HB.out.trans (hb.mono HB.out.size)
  clear hb
  go_wp2
  go_ret2
  exact ⟨rfl, B1.out⟩
theorem put_done {w w1 : World} {Q : Nat} {j : J} (h : RJ w Q j) (hb : Below w.heap.size w w1) {m : Nat} (hm : m < 60) {b : Int} (h1 : 1 ≤ b) (t : ByteArray) (k : Nat) :
    RJ ((((w1.drewN k).setCell ⟨Q, 0, none⟩ (.int .i64 b)).setCell ⟨Q, 1 + m, none⟩ (.bool true)).setCell ⟨Q, 61 + m, none⟩ (.string t)).drew.drew Q ⟨b.toNat, fun i => if i = m then some t else j.T i⟩ ∧
    Below Q w ((((w1.drewN k).setCell ⟨Q, 0, none⟩ (.int .i64 b)).setCell ⟨Q, 1 + m, none⟩ (.bool true)).setCell ⟨Q, 61 + m, none⟩ (.string t)).drew.drew ∧
    Kp w ((((w1.drewN k).setCell ⟨Q, 0, none⟩ (.int .i64 b)).setCell ⟨Q, 1 + m, none⟩ (.bool true)).setCell ⟨Q, 61 + m, none⟩ (.string t)).drew.drew Q none := by
  have hlt := World.rowIs.lt h
  have e : ((b.toNat : Nat) : Int) = b := by omega
  have r := (h.later (drews hb k)).put b.toNat hm t
  rw [e] at r
  have q := (((drews hb k).mono (Nat.le_of_lt hlt)).setCell (p := ⟨Q, 0, none⟩) (Nat.le_refl Q) (.int .i64 b)).setCell (p := ⟨Q, 1 + m, none⟩) (Nat.le_refl Q) (.bool true) |>.setCell (p := ⟨Q, 61 + m, none⟩) (Nat.le_refl Q) (.string t)
  refine ⟨World.rowIs.of_block r rfl, ⟨q.os, q.tape, q.output, q.size, q.block⟩, ⟨q.size, fun z hz hQ _ => ?_⟩⟩
  have e1 : ((((w1.drewN k).setCell ⟨Q, 0, none⟩ (.int .i64 b)).setCell ⟨Q, 1 + m, none⟩ (.bool true)).setCell ⟨Q, 61 + m, none⟩ (.string t)).heap[z]? = (w1.drewN k).heap[z]? := (Deep.blk_setCell_other _ _ _ _ hQ).trans ((Deep.blk_setCell_other _ _ _ _ hQ).trans (Deep.blk_setCell_other _ _ _ _ hQ))
  exact e1.trans ((drews hb k).block z hz)
set_option maxRecDepth 100000 in
set_option maxHeartbeats 2000000 in
theorem refTake_right (m : Nat) (b : Int) (c : ByteArray) (Q : Nat) (j : J) (w : World) (h : RJ w Q j) (hj : j.of ≤ 60) (hm : m < 60) (hb : pcBad ((m : Int), b, c) = false) (k : Int) (n : Bool) (hk : takeC j ((m : Int), b, c) = k) (hn : takeN j ((m : Int), b, c) = n) :
    Calls Tryd.prog 26 #[.pointer (some ⟨Q, 0, none⟩), .agg #[.int .i64 (m : Int), .int .i64 b, .string c]] w fun x w' => x = .returned (.tuple #[.bool n, .int .i64 k]) ∧ RJ w' Q (takeJ j ((m : Int), b, c)) ∧ Below Q w w' ∧ Kp w w' Q none := by
  obtain ⟨W, eW⟩ : ∃ W, W = w.alloc (.cells #[.int .i64 (m : Int), .int .i64 b, .string c] 78) := ⟨_, rfl⟩
  have HB : Hid (Below w.heap.size w W) := by rw [eW]; exact (Below.refl _ _).alloc (Nat.le_refl _) _
  have rowB : W.rowIs w.heap.size 78 3 (fun i => if i = 0 then .int .i64 (m : Int) else if i = 1 then .int .i64 b else .string c) := by
    rw [eW]
    exact World.rowIs_alloc w #[.int .i64 (m : Int), .int .i64 b, .string c] 78 _ (fun i hi => by rcases i with _ | _ | _ | i <;> first | rfl | (exfalso; have : _ < 3 := hi; omega))
  have p0 : W.cell? ⟨w.heap.size, 0, none⟩ = some (.int .i64 (m : Int)) := World.rowIs.cell rowB (i := 0) (by omega)
  have p1 : W.cell? ⟨w.heap.size, 1, none⟩ = some (.int .i64 b) := World.rowIs.cell rowB (i := 1) (by omega)
  have p2 : W.cell? ⟨w.heap.size, 2, none⟩ = some (.string c) := World.rowIs.cell rowB (i := 2) (by omega)
  have hQ := World.rowIs.lt h
  have HH : Hid (RJ w Q j ∧ Q < w.heap.size ∧ w.heap.size < W.heap.size) := ⟨h, hQ, World.rowIs.lt rowB⟩
  obtain ⟨hb1, hb2, hb3⟩ := pcBad_no (p := ((m : Int), b, c)) hb
  simp only at hb1 hb2 hb3
  have HP : Hid (pcBad ((m : Int), b, c) = !true) := hb
  have HB1 : Hid (1 ≤ b) := hb1.1
  have RB : Hid (W.rowIs w.heap.size 78 3 (fun i => if i = 0 then .int .i64 (m : Int) else if i = 1 then .int .i64 b else .string c)) := rowB
  have hm0 : (0 : Int) ≤ (m : Int) := by omega
  have hm60 : (m : Int) < 60 := by omega
  obtain ⟨o, eo⟩ : ∃ o, o = j.of := ⟨_, rfl⟩
  by_cases f1 : j.of ≠ 0 ∧ (j.of : Int) ≠ b
  · have e3 : takeC j ((m : Int), b, c) = 3 := by unfold takeC; rw [if_neg (by rw [hb]; decide), if_pos f1]
    obtain ⟨z1, z2⟩ := not_zero (j := j) (p := ((m : Int), b, c)) (by rw [e3]; decide)
    rw [e3] at hk
    rw [z1] at hn
    rw [z2]
    subst hk hn
    rw [← eo] at f1
    have d1 : ((o : Int) != 0) = true := by simp; omega
    have d2 : ((o : Int) != b) = true := by simp; omega
    have EO : Hid (o = j.of) := eo
    clear h rowB hb hb1 hb2 hb3 e3 z1 z2 f1 eo hj
    go_enter Tryd.func26, Tryd.ntmps26
    go_wp2_with fail
    rw [← eW]
    clear eW
    refine (refPiece (m : Int) b c _ true HP.out).mono ?_
    rintro e w1 ⟨rfl, hb⟩
    have B1 : Hid (Below w.heap.size w w1) := HB.out.trans (hb.mono HB.out.size)
    have c0 := (HH.out.1.later B1.out).c0.1
    rw [← EO.out] at c0
    have q1 : w1.cell? ⟨w.heap.size, 1, none⟩ = some (.int .i64 b) := (hb.cell (p := ⟨w.heap.size, 1, none⟩) HH.out.2.2).trans p1
    clear hb p0 p1 p2
    go_wp2_with fail
    go_quiet (fail)
    go_wp2
    go_ret2
    exact ⟨rfl, HH.out.1.later (drews B1.out _), (drews B1.out _).mono (Nat.le_of_lt HH.out.2.1), Kp.below (drews B1.out _) none⟩
  · have hof : o = 0 ∨ (o ≠ 0 ∧ (o : Int) = b) := by
      rw [eo]
      by_cases q : j.of = 0
      · exact .inl q
      · exact .inr ⟨q, Decidable.byContradiction fun z => f1 ⟨q, z⟩⟩
    have EO : Hid (o = j.of) := eo
    have e0 : takeC j ((m : Int), b, c) = if other j ((m : Int), b, c) = true then 7 else 0 := by unfold takeC; rw [if_neg (by rw [hb]; decide), if_neg f1]
    cases ht : j.T m with
    | none =>
      have eo' : other j ((m : Int), b, c) = false := by unfold other; simp only [Int.toNat_natCast]; rw [ht]
      rw [eo', if_neg (by decide)] at e0
      have en : takeN j ((m : Int), b, c) = true := by unfold takeN; rw [e0]; simp only [Int.toNat_natCast]; rw [ht]; rfl
      have HT : Hid (j.T m = none) := ht
      have HJ : Hid (takeJ j ((m : Int), b, c) = ⟨b.toNat, fun i => if i = m then some c else j.T i⟩) := by unfold takeJ; show (if _ then _ else _) = _; rw [if_pos e0]; simp only [Int.toNat_natCast]
      rw [e0] at hk
      rw [en] at hn
      subst hk hn
      clear e0 en eo'
      rcases hof with hof | ⟨hof, hob⟩
      · have d1 : ((o : Int) != 0) = false := by simp; omega
        have hof' : (o : Int) = 0 := by omega
        clear hof
        clear h rowB hb hb1 hb2 hb3 f1 eo hj ht
        go_enter Tryd.func26, Tryd.ntmps26
        go_wp2_with fail
        rw [← eW]
        clear eW
        refine (refPiece (m : Int) b c _ true HP.out).mono ?_
        rintro e w1 ⟨rfl, hb⟩
        have B1 : Hid (Below w.heap.size w w1) := HB.out.trans (hb.mono HB.out.size)
        obtain ⟨c0, z0⟩ := (HH.out.1.later B1.out).c0
        obtain ⟨cH, zH⟩ := (HH.out.1.later B1.out).cH hm
        obtain ⟨cT, zT⟩ := (HH.out.1.later B1.out).cT hm
        rw [← EO.out] at c0
        rw [HT.out] at cH cT
        simp only [Option.isSome_none, Option.getD_none] at cH cT
        have q0 : w1.cell? ⟨w.heap.size, 0, none⟩ = some (.int .i64 (m : Int)) := (hb.cell (p := ⟨w.heap.size, 0, none⟩) HH.out.2.2).trans p0
        have q1 : w1.cell? ⟨w.heap.size, 1, none⟩ = some (.int .i64 b) := (hb.cell (p := ⟨w.heap.size, 1, none⟩) HH.out.2.2).trans p1
        have q2 : w1.cell? ⟨w.heap.size, 2, none⟩ = some (.string c) := (hb.cell (p := ⟨w.heap.size, 2, none⟩) HH.out.2.2).trans p2
        have hQ1 : Q ≠ w.heap.size := by omega
        clear hb p0 p1 p2
        go_wp2_with fail
        go_quiet (fail)
        go_wp2_with fail
        go_quiet (fail)
        go_wp2_with fail
        go_quiet (fail)
        go_wp2_with fail
        go_region
        go_wp2_with fail
        go_region
        go_wp2
        go_ret2
        obtain ⟨a1, a2, a3⟩ := put_done HH.out.1 B1.out hm HB1.out c _
        exact ⟨rfl, by rw [HJ.out]; exact a1, a2, a3⟩
      · have d1 : ((o : Int) != 0) = true := by simp; omega
        have d2 : ((o : Int) != b) = false := by simp; omega
        clear hof hob
        clear h rowB hb hb1 hb2 hb3 f1 eo hj ht
        go_enter Tryd.func26, Tryd.ntmps26
        go_wp2_with fail
        rw [← eW]
        clear eW
        refine (refPiece (m : Int) b c _ true HP.out).mono ?_
        rintro e w1 ⟨rfl, hb⟩
        have B1 : Hid (Below w.heap.size w w1) := HB.out.trans (hb.mono HB.out.size)
        obtain ⟨c0, z0⟩ := (HH.out.1.later B1.out).c0
        obtain ⟨cH, zH⟩ := (HH.out.1.later B1.out).cH hm
        obtain ⟨cT, zT⟩ := (HH.out.1.later B1.out).cT hm
        rw [← EO.out] at c0
        rw [HT.out] at cH cT
        simp only [Option.isSome_none, Option.getD_none] at cH cT
        have q0 : w1.cell? ⟨w.heap.size, 0, none⟩ = some (.int .i64 (m : Int)) := (hb.cell (p := ⟨w.heap.size, 0, none⟩) HH.out.2.2).trans p0
        have q1 : w1.cell? ⟨w.heap.size, 1, none⟩ = some (.int .i64 b) := (hb.cell (p := ⟨w.heap.size, 1, none⟩) HH.out.2.2).trans p1
        have q2 : w1.cell? ⟨w.heap.size, 2, none⟩ = some (.string c) := (hb.cell (p := ⟨w.heap.size, 2, none⟩) HH.out.2.2).trans p2
        have hQ1 : Q ≠ w.heap.size := by omega
        clear hb p0 p1 p2
        go_wp2_with fail
        go_quiet (fail)
        go_wp2_with fail
        go_quiet (fail)
        go_wp2_with fail
        go_quiet (fail)
        go_wp2_with fail
        go_region
        go_wp2_with fail
        go_region
        go_wp2
        go_ret2
        obtain ⟨a1, a2, a3⟩ := put_done HH.out.1 B1.out hm HB1.out c _
        exact ⟨rfl, by rw [HJ.out]; exact a1, a2, a3⟩
    | some t =>
      have HT : Hid (j.T m = some t) := ht
      by_cases hs : t = c
      · subst hs
        have eo' : other j ((m : Int), b, t) = false := by unfold other; simp only [Int.toNat_natCast]; rw [ht]; simp
        rw [eo', if_neg (by decide)] at e0
        have en : takeN j ((m : Int), b, t) = false := by unfold takeN; rw [e0]; simp only [Int.toNat_natCast]; rw [ht]; rfl
        have HJ : Hid (takeJ j ((m : Int), b, t) = ⟨b.toNat, fun i => if i = m then some t else j.T i⟩) := by unfold takeJ; show (if _ then _ else _) = _; rw [if_pos e0]; simp only [Int.toNat_natCast]
        rw [e0] at hk
        rw [en] at hn
        subst hk hn
        have ds : (t.toList == t.toList) = true := by simp
        clear e0 en eo'
        rcases hof with hof | ⟨hof, hob⟩
        · have d1 : ((o : Int) != 0) = false := by simp; omega
          have hof' : (o : Int) = 0 := by omega
          clear hof
          clear h rowB hb hb1 hb2 hb3 f1 eo hj ht
          go_enter Tryd.func26, Tryd.ntmps26
          go_wp2_with fail
          rw [← eW]
          clear eW
          refine (refPiece (m : Int) b t _ true HP.out).mono ?_
          rintro e w1 ⟨rfl, hb⟩
          have B1 : Hid (Below w.heap.size w w1) := HB.out.trans (hb.mono HB.out.size)
          obtain ⟨c0, z0⟩ := (HH.out.1.later B1.out).c0
          obtain ⟨cH, zH⟩ := (HH.out.1.later B1.out).cH hm
          obtain ⟨cT, zT⟩ := (HH.out.1.later B1.out).cT hm
          rw [← EO.out] at c0
          rw [HT.out] at cH cT
          simp only [Option.isSome_some, Option.getD_some] at cH cT
          have q0 : w1.cell? ⟨w.heap.size, 0, none⟩ = some (.int .i64 (m : Int)) := (hb.cell (p := ⟨w.heap.size, 0, none⟩) HH.out.2.2).trans p0
          have q1 : w1.cell? ⟨w.heap.size, 1, none⟩ = some (.int .i64 b) := (hb.cell (p := ⟨w.heap.size, 1, none⟩) HH.out.2.2).trans p1
          have q2 : w1.cell? ⟨w.heap.size, 2, none⟩ = some (.string t) := (hb.cell (p := ⟨w.heap.size, 2, none⟩) HH.out.2.2).trans p2
          have hQ1 : Q ≠ w.heap.size := by omega
          clear hb p0 p1 p2
          go_wp2_with fail
          go_quiet (fail)
          go_wp2_with fail
          go_quiet (fail)
          go_wp2_with fail
          go_quiet (fail)
          go_wp2_with fail
          go_region
          go_wp2_with fail
          go_region
          go_wp2
          go_ret2
          obtain ⟨a1, a2, a3⟩ := put_done HH.out.1 B1.out hm HB1.out t _
          exact ⟨rfl, by rw [HJ.out]; exact a1, a2, a3⟩
        · have d1 : ((o : Int) != 0) = true := by simp; omega
          have d2 : ((o : Int) != b) = false := by simp; omega
          clear hof hob
          clear h rowB hb hb1 hb2 hb3 f1 eo hj ht
          go_enter Tryd.func26, Tryd.ntmps26
          go_wp2_with fail
          rw [← eW]
          clear eW
          refine (refPiece (m : Int) b t _ true HP.out).mono ?_
          rintro e w1 ⟨rfl, hb⟩
          have B1 : Hid (Below w.heap.size w w1) := HB.out.trans (hb.mono HB.out.size)
          obtain ⟨c0, z0⟩ := (HH.out.1.later B1.out).c0
          obtain ⟨cH, zH⟩ := (HH.out.1.later B1.out).cH hm
          obtain ⟨cT, zT⟩ := (HH.out.1.later B1.out).cT hm
          rw [← EO.out] at c0
          rw [HT.out] at cH cT
          simp only [Option.isSome_some, Option.getD_some] at cH cT
          have q0 : w1.cell? ⟨w.heap.size, 0, none⟩ = some (.int .i64 (m : Int)) := (hb.cell (p := ⟨w.heap.size, 0, none⟩) HH.out.2.2).trans p0
          have q1 : w1.cell? ⟨w.heap.size, 1, none⟩ = some (.int .i64 b) := (hb.cell (p := ⟨w.heap.size, 1, none⟩) HH.out.2.2).trans p1
          have q2 : w1.cell? ⟨w.heap.size, 2, none⟩ = some (.string t) := (hb.cell (p := ⟨w.heap.size, 2, none⟩) HH.out.2.2).trans p2
          have hQ1 : Q ≠ w.heap.size := by omega
          clear hb p0 p1 p2
          go_wp2_with fail
          go_quiet (fail)
          go_wp2_with fail
          go_quiet (fail)
          go_wp2_with fail
          go_quiet (fail)
          go_wp2_with fail
          go_region
          go_wp2_with fail
          go_region
          go_wp2
          go_ret2
          obtain ⟨a1, a2, a3⟩ := put_done HH.out.1 B1.out hm HB1.out t _
          exact ⟨rfl, by rw [HJ.out]; exact a1, a2, a3⟩
      · have eo' : other j ((m : Int), b, c) = true := by unfold other; simp only [Int.toNat_natCast]; rw [ht]; simp [hs]
        rw [eo', if_pos rfl] at e0
        obtain ⟨z1, z2⟩ := not_zero (j := j) (p := ((m : Int), b, c)) (by rw [e0]; decide)
        rw [e0] at hk
        rw [z1] at hn
        rw [z2]
        subst hk hn
        have ds : (t.toList == c.toList) = false := by rw [str_eq]; exact decide_eq_false hs
        clear e0 eo' z1 z2 hs
        rcases hof with hof | ⟨hof, hob⟩
        · have d1 : ((o : Int) != 0) = false := by simp; omega
          have hof' : (o : Int) = 0 := by omega
          clear hof
          clear h rowB hb hb1 hb2 hb3 f1 eo hj ht
          go_enter Tryd.func26, Tryd.ntmps26
          go_wp2_with fail
          rw [← eW]
          clear eW
          refine (refPiece (m : Int) b c _ true HP.out).mono ?_
          rintro e w1 ⟨rfl, hb⟩
          have B1 : Hid (Below w.heap.size w w1) := HB.out.trans (hb.mono HB.out.size)
          obtain ⟨c0, z0⟩ := (HH.out.1.later B1.out).c0
          obtain ⟨cH, zH⟩ := (HH.out.1.later B1.out).cH hm
          obtain ⟨cT, zT⟩ := (HH.out.1.later B1.out).cT hm
          rw [← EO.out] at c0
          rw [HT.out] at cH cT
          simp only [Option.isSome_some, Option.getD_some] at cH cT
          have q0 : w1.cell? ⟨w.heap.size, 0, none⟩ = some (.int .i64 (m : Int)) := (hb.cell (p := ⟨w.heap.size, 0, none⟩) HH.out.2.2).trans p0
          have q1 : w1.cell? ⟨w.heap.size, 1, none⟩ = some (.int .i64 b) := (hb.cell (p := ⟨w.heap.size, 1, none⟩) HH.out.2.2).trans p1
          have q2 : w1.cell? ⟨w.heap.size, 2, none⟩ = some (.string c) := (hb.cell (p := ⟨w.heap.size, 2, none⟩) HH.out.2.2).trans p2
          have hQ1 : Q ≠ w.heap.size := by omega
          clear hb p0 p1 p2
          go_wp2_with fail
          go_quiet (fail)
          go_wp2_with fail
          go_quiet (fail)
          go_wp2
          go_ret2
          exact ⟨rfl, HH.out.1.later (drews (drews B1.out _) _), (drews (drews B1.out _) _).mono (Nat.le_of_lt HH.out.2.1), Kp.below (drews (drews B1.out _) _) none⟩
        · have d1 : ((o : Int) != 0) = true := by simp; omega
          have d2 : ((o : Int) != b) = false := by simp; omega
          clear hof hob
          clear h rowB hb hb1 hb2 hb3 f1 eo hj ht
          go_enter Tryd.func26, Tryd.ntmps26
          go_wp2_with fail
          rw [← eW]
          clear eW
          refine (refPiece (m : Int) b c _ true HP.out).mono ?_
          rintro e w1 ⟨rfl, hb⟩
          have B1 : Hid (Below w.heap.size w w1) := HB.out.trans (hb.mono HB.out.size)
          obtain ⟨c0, z0⟩ := (HH.out.1.later B1.out).c0
          obtain ⟨cH, zH⟩ := (HH.out.1.later B1.out).cH hm
          obtain ⟨cT, zT⟩ := (HH.out.1.later B1.out).cT hm
          rw [← EO.out] at c0
          rw [HT.out] at cH cT
          simp only [Option.isSome_some, Option.getD_some] at cH cT
          have q0 : w1.cell? ⟨w.heap.size, 0, none⟩ = some (.int .i64 (m : Int)) := (hb.cell (p := ⟨w.heap.size, 0, none⟩) HH.out.2.2).trans p0
          have q1 : w1.cell? ⟨w.heap.size, 1, none⟩ = some (.int .i64 b) := (hb.cell (p := ⟨w.heap.size, 1, none⟩) HH.out.2.2).trans p1
          have q2 : w1.cell? ⟨w.heap.size, 2, none⟩ = some (.string c) := (hb.cell (p := ⟨w.heap.size, 2, none⟩) HH.out.2.2).trans p2
          have hQ1 : Q ≠ w.heap.size := by omega
          clear hb p0 p1 p2
          go_wp2_with fail
          go_quiet (fail)
          go_wp2_with fail
          go_quiet (fail)
          go_wp2
          go_ret2
          exact ⟨rfl, HH.out.1.later (drews (drews B1.out _) _), (drews (drews B1.out _) _).mono (Nat.le_of_lt HH.out.2.1), Kp.below (drews (drews B1.out _) _) none⟩
theorem refTake (p : Pc) (Q : Nat) (j : J) (w : World) (h : RJ w Q j) (hj : JInv j) :
    Calls Tryd.prog 26 #[.pointer (some ⟨Q, 0, none⟩), .agg #[.int .i64 p.1, .int .i64 p.2.1, .string p.2.2]] w fun x w' => x = .returned (.tuple #[.bool (takeN j p), .int .i64 (takeC j p)]) ∧ RJ w' Q (takeJ j p) ∧ Below Q w w' ∧ Kp w w' Q none := by
  obtain ⟨a, b, c⟩ := p
  have hlt := World.rowIs.lt h
  cases hb : pcBad (a, b, c) with
  | true =>
    obtain ⟨e1, e2, e3⟩ := bad_range hb j
    rw [e1, e2, e3]
    refine (refTake_bad a b c Q j w hb).mono ?_
    rintro x w' ⟨rfl, hb⟩
    exact ⟨rfl, h.later hb, hb.mono (Nat.le_of_lt hlt), Kp.below hb none⟩
  | false =>
    obtain ⟨h1, h2, h3⟩ := pcBad_no hb
    simp only at h1 h2
    obtain ⟨m, rfl⟩ : ∃ m : Nat, a = (m : Int) := ⟨a.toNat, by omega⟩
    exact refTake_right m b c Q j w h hj.of60 (by omega) hb _ _ rfl rfl
def nums (l : List Nat) : List Value := l.map fun n : Nat => Value.int .i64 (n : Int)
theorem nums_lacks (j : J) : (lacks j).map (Value.int .i64) = nums (lackN j j.of) := by simp [lacks, nums]
theorem lacks_len (j : J) : (lacks j).length = (lackN j j.of).length := by simp [lacks]
theorem int_one (n : Nat) : ∀ u ∈ nums [n], u.oneCell' = true := by
  intro u hu
  obtain rfl := List.mem_singleton.1 hu
  rfl
set_option maxRecDepth 100000 in
theorem refLacks (Q : Nat) (j : J) (w : World) (h : RJ w Q j) (hj : JInv j) :
    Calls Tryd.prog 28 #[.pointer (some ⟨Q, 0, none⟩)] w fun x w' => ∃ v, x = .returned v ∧ w'.ownsRow w.heap.size 3 1 v (lacks j).length ((lacks j).map (Value.int .i64)) ∧ Below w.heap.size w w' := by
  rw [nums_lacks, lacks_len]
  have HH : Hid (RJ w Q j ∧ JInv j ∧ Q < w.heap.size) := ⟨h, hj, World.rowIs.lt h⟩
  obtain ⟨n, en⟩ : ∃ n, n = j.of := ⟨_, rfl⟩
  have EN : Hid (n = j.of) := en
  have hn60 : n ≤ 60 := by rw [en]; exact hj.of60
  obtain ⟨ie, hie, hz0, hz1, hz2⟩ := Fif.info_int
  have HI : Hid (Tryd.prog.info? 3 = some ie ∧ ie.zero = some (.int .i64 0) ∧ ie.size = 1 ∧ ie.bytes = 8) := ⟨hie, hz0, hz1, hz2⟩
  rw [← en]
  clear h hj en hie hz0 hz1 hz2
  go_enter Tryd.func28, Tryd.ntmps28
  go_wp2
  go_loopw [3, 4] (fun y x wr => ∃ i : Nat, i ≤ n ∧ x = .int .i64 (i : Int) ∧ Hid (wr.ownsRow w.heap.size 3 1 y (lackN j i).length (nums (lackN j i)) ∧ Below w.heap.size w wr)) (fun _ x _ => n - (intOf x).toNat)
  case atStart => exact ⟨0, by omega, rfl, World.ownsRow_nil _ _ _ _, Below.refl _ _⟩
  case round =>
    obtain ⟨i, hin, rfl, hQ⟩ := hrel
    have g := HH.out.1.later hQ.out.2
    have c0 := g.c0.1
    rw [← EN.out] at c0
    have hi0 : (0 : Int) ≤ (i : Int) := by omega
    by_cases hlt : i < n
    · have hin' : (i : Int) < (n : Int) := by omega
      have hi60 : (i : Int) < 60 := by omega
      have cH := (g.cH (show i < 60 by omega)).1
      obtain ⟨q, cap, eq⟩ := own_form hQ.out.1
      subst eq
      cases ht : j.T i with
      | some t =>
        rw [ht] at cH
        simp only [Option.isSome_some] at cH
        have HT : Hid (j.T i = some t) := ht
        clear g ht
        go_wp2
        go_roundw
        case rel =>
          have e : lackN j (i + 1) = lackN j i := by rw [lackN_succ, HT.out]; simp
          refine ⟨i + 1, by omega, by go_num, ?_⟩
          rw [e]
          exact hQ
        case measure => simp [intOf]; omega
      | none =>
        rw [ht] at cH
        simp only [Option.isSome_none] at cH
        have HT : Hid (j.T i = none) := ht
        obtain ⟨ll, el⟩ : ∃ ll, ll = (lackN j i).length := ⟨_, rfl⟩
        have HL : Hid (ll = (lackN j i).length) := el
        have hl60 : ll ≤ 60 := by have := lackN_len j i; omega
        have O : Hid (wr.ownsRow w.heap.size 3 1 (.slice q ll cap) ll (nums (lackN j i)) ∧ Below w.heap.size w wr) := by rw [el]; exact hQ.out
        rw [← el]
        clear g ht hQ el
        go_wp2_with (at_builtin; refine wpList_append_lies _ rfl _ _ 32 rfl w.heap.size 3 ie (.int .i64 0) 1 8 Tryd.underlying32 HI.out.1 HI.out.2.1 HI.out.2.2.1 HI.out.2.2.2 rfl (by decide) (.slice q ll cap) ll (nums (lackN j i)) rfl (by exact own_push O.out.1 rfl) ⟨wr.heap.size, 0, none⟩ 1 1 (nums [i]) rfl rfl (by exact new_one _ _ rfl _ _) (int_one i) (by omega) (by unfold maxLen; omega) (by omega) (by have := O.out.2.size; simp; omega) (wr.heap.size + 1) (by simp) ?_; intro gg gc w5 hown hgrow hat _; have G5 : Hid ((wr.alloc (.cells #[.int .i64 (i : Int)] 3)).grownBy w5 (Value.slice q ll cap).ownBlock) := hgrow; have O5 : Hid (w5.ownsRow w.heap.size 3 1 (.slice (some ⟨gg, 0, none⟩) (ll + 1) gc) (ll + 1) (nums (lackN j i) ++ nums [i])) := hown; clear hown hgrow hat)
        go_roundw
        case rel =>
          have e : lackN j (i + 1) = lackN j i ++ [i] := by rw [lackN_succ, HT.out]; simp
          refine ⟨i + 1, by omega, by go_num, ?_, (O.out.2.alloc O.out.2.size _).grown G5.out (by have := O.out.2.size; simp; omega) fun b hb => (own_lt O.out.1 b hb).1⟩
          rw [e, List.length_append, ← HL.out]
          have o := O5.out
          have e2 : nums (lackN j i ++ [i]) = nums (lackN j i) ++ nums [i] := by simp [nums]
          rw [e2]
          exact o
        case measure => simp [intOf]; omega
    · have hi : i = n := by omega
      subst hi
      clear g
      go_wp2
      go_ret
      exact ⟨_, rfl, hQ.out.1, hQ.out.2⟩
set_option maxRecDepth 100000 in
theorem refText (Q : Nat) (j : J) (w : World) (h : RJ w Q j) (hj : JInv j) :
    Calls Tryd.prog 29 #[.pointer (some ⟨Q, 0, none⟩)] w fun x w' => x = .returned (.string (joined j j.of)) ∧ ∃ n, w' = w.drewN n := by
  have HH : Hid (RJ w Q j ∧ JInv j ∧ Q < w.heap.size) := ⟨h, hj, World.rowIs.lt h⟩
  obtain ⟨n, en⟩ : ∃ n, n = j.of := ⟨_, rfl⟩
  have EN : Hid (n = j.of) := en
  have hn60 : n ≤ 60 := by rw [en]; exact hj.of60
  rw [← en]
  clear h hj en
  go_enter Tryd.func29, Tryd.ntmps29
  go_wp2
  go_loopw [3, 4] (fun y x wr => ∃ i : Nat, i ≤ n ∧ x = .int .i64 (i : Int) ∧ y = .string (joined j i) ∧ ∃ k, wr = w.drewN k) (fun _ x _ => n - (intOf x).toNat)
  case atStart => exact ⟨0, by omega, rfl, rfl, 0, rfl⟩
  case round =>
    obtain ⟨i, hin, rfl, rfl, k, rfl⟩ := hrel
    have g : RJ (w.drewN k) Q j := HH.out.1
    have c0 := HH.out.1.c0.1
    rw [← EN.out] at c0
    have hi0 : (0 : Int) ≤ (i : Int) := by omega
    by_cases hlt : i < n
    · have hin' : (i : Int) < (n : Int) := by omega
      have hi60 : (i : Int) < 60 := by omega
      have cT := (HH.out.1.cT (show i < 60 by omega)).1
      have hs := joined_size HH.out.2.1 (i + 1)
      have e : joined j (i + 1) = joined j i ++ (j.T i).getD .empty := rfl
      rw [e, ByteArray.size_append] at hs
      obtain ⟨a, ea⟩ : ∃ a, a = joined j i := ⟨_, rfl⟩
      obtain ⟨b, eb⟩ : ∃ b, b = (j.T i).getD .empty := ⟨_, rfl⟩
      rw [← ea, ← eb] at hs
      rw [← eb] at cT
      rw [← ea]
      have EA : Hid (a = joined j i ∧ b = (j.T i).getD .empty) := ⟨ea, eb⟩
      have hsum : a.size + b.size ≤ 9223372036854775807 := by omega
      have hsumI : (a.size : Int) + (b.size : Int) ≤ 9223372036854775807 := by omega
      clear g e ea eb hs
      go_wp2
      go_roundw
      case rel => exact ⟨i + 1, by omega, by go_num, by rw [EA.out.1, EA.out.2]; rfl, _, rfl⟩
      case measure => simp [intOf]; omega
    · have hi : i = n := by omega
      subst hi
      clear g
      go_wp2
      go_ret
      exact ⟨rfl, _, rfl⟩
end Go.Proofs.YtnchnmccconcdaeDoor.Pie
