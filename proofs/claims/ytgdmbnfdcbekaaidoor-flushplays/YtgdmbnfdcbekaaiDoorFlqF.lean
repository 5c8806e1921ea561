/-
  The document's own group that flushes, in memory: a block, rows of numbers, a row of arrays of five of these.
-/
import Derived.Test.YtgdmbnfdcbekaaiDoorFluI
import Derived.Deep.AppendLies
import Derived.Deep.QuietTactic
import Derived.BigQuiet
import Derived.Deep.RegionHeld3
import Derived.WalkLawsBesides
import Derived.Handy
namespace Go.Proofs.YtgdmbnfdcbekaaiDoor.Flu
open Go.RowKit
open Go.Proofs.YtgdmbnfdcbekaaiDoor.Fif (own_lt own_block own_form own_vw ret_bool info_int new_int int_one)
open Go.Proofs.YtgdmbnfdcbekaaiDoor.Vec (Vw)
open Go.Proofs.YtgdmbnfdcbekaaiDoor.Sep (KpL NewL)
open Go.Proofs.YtgdmbnfdcbekaaiDoor.Ldr (Sl)
set_option linter.unusedVariables false

variable {w w' w1 w5 : World} {base N : Nat} {L : Nat → List Int} {rv : Nat → Value}
/-! the block -/
def fvc (n : Int) (was : Int → Bool) (vh vs vr : Value) (j : Nat) : Value := if j = 0 then .int .i64 n else if j = 1 then vh else if j < 33 then .bool (was ((j - 2 : Nat) : Int)) else if j = 33 then vs else vr
abbrev RM (w : World) (R : Nat) (n : Int) (was : Int → Bool) (vh vs vr : Value) : Prop := w.rowIs R 46 35 (fvc n was vh vs vr)
variable {R : Nat} {n : Int} {was : Int → Bool} {vh vs vr : Value}
theorem RM.c0 (h : RM w R n was vh vs vr) : w.cell? ⟨R, 0, none⟩ = some (.int .i64 n) := World.rowIs.cell h (i := 0) (by omega)
theorem RM.c1 (h : RM w R n was vh vs vr) : w.cell? ⟨R, 1, none⟩ = some vh := World.rowIs.cell h (i := 1) (by omega)
theorem RM.cw (h : RM w R n was vh vs vr) {k : Nat} (hk : k < 31) : w.cell? ⟨R, 2 + k, none⟩ = some (.bool (was (k : Int))) := by
  rw [World.rowIs.cell h (i := 2 + k) (by omega)]
  unfold fvc
  rw [if_neg (by omega), if_neg (by omega), if_pos (by omega), show 2 + k - 2 = k by omega]
theorem RM.cs (h : RM w R n was vh vs vr) : w.cell? ⟨R, 33, none⟩ = some vs := World.rowIs.cell h (i := 33) (by omega)
theorem RM.cr (h : RM w R n was vh vs vr) : w.cell? ⟨R, 34, none⟩ = some vr := World.rowIs.cell h (i := 34) (by omega)
theorem RM.fr (h : RM w R n was vh vs vr) (j : Nat) : w.frozen? ⟨R, j, none⟩ = false := World.rowIs.frozen h j
theorem RM.setN (h : RM w R n was vh vs vr) (x : Int) : RM (w.setCell ⟨R, 0, none⟩ (.int .i64 x)) R x was vh vs vr := (World.rowIs.set h 0 _).congr fun j hj => by
  unfold fvc
  by_cases e : j = 0
  · rw [if_pos e, if_pos e]
  · rw [if_neg e, if_neg e, if_neg e]
theorem RM.setH (h : RM w R n was vh vs vr) (v : Value) : RM (w.setCell ⟨R, 1, none⟩ v) R n was v vs vr := (World.rowIs.set h 1 _).congr fun j hj => by
  unfold fvc
  by_cases e : j = 1
  · rw [if_pos e, if_neg (by omega), if_pos e]
  · rw [if_neg e, if_neg e, if_neg e]
theorem RM.setS (h : RM w R n was vh vs vr) (v : Value) : RM (w.setCell ⟨R, 33, none⟩ v) R n was vh v vr := (World.rowIs.set h 33 _).congr fun j hj => by
  unfold fvc
  by_cases e : j = 33
  · rw [if_pos e, if_neg (by omega), if_neg (by omega), if_neg (by omega), if_pos e]
  · rw [if_neg e, if_neg e, if_neg e]
theorem RM.setR (h : RM w R n was vh vs vr) (v : Value) : RM (w.setCell ⟨R, 34, none⟩ v) R n was vh vs v := (World.rowIs.set h 34 _).congr fun j hj => by
  unfold fvc
  by_cases e : j = 34
  · rw [if_pos e, if_neg (by omega), if_neg (by omega), if_neg (by omega), if_neg (by omega)]
  · rw [if_neg e]
    by_cases e3 : j = 33
    · rw [if_neg (by omega), if_neg (by omega), if_neg (by omega), if_pos e3, if_neg (by omega), if_neg (by omega), if_neg (by omega), if_pos e3]
    · by_cases e0 : j = 0
      · rw [if_pos e0, if_pos e0]
      · by_cases e1 : j = 1
        · rw [if_neg e0, if_pos e1, if_neg e0, if_pos e1]
        · rw [if_neg e0, if_neg e1, if_pos (by omega), if_neg e0, if_neg e1, if_pos (by omega)]
theorem RM.setW (h : RM w R n was vh vs vr) {k : Nat} (hk : k < 31) : RM (w.setCell ⟨R, 2 + k, none⟩ (.bool true)) R n (fun x => if x = (k : Int) then true else was x) vh vs vr := (World.rowIs.set h (2 + k) _).congr fun j hj => by
  unfold fvc
  by_cases e : j = 2 + k
  · rw [if_pos e, if_neg (by omega), if_neg (by omega), if_pos (by omega)]
    show Value.bool true = Value.bool (if ((j - 2 : Nat) : Int) = (k : Int) then true else was ((j - 2 : Nat) : Int))
    rw [if_pos (by omega)]
  · rw [if_neg e]
    by_cases e0 : j = 0
    · rw [if_pos e0, if_pos e0]
    · by_cases e1 : j = 1
      · rw [if_neg e0, if_pos e1, if_neg e0, if_pos e1]
      · rw [if_neg e0, if_neg e1, if_neg e0, if_neg e1]
        by_cases e3 : j < 33
        · rw [if_pos e3, if_pos e3]
          show Value.bool (was ((j - 2 : Nat) : Int)) = Value.bool (if ((j - 2 : Nat) : Int) = (k : Int) then true else was ((j - 2 : Nat) : Int))
          rw [if_neg (by omega)]
        · rw [if_neg e3, if_neg e3]
/-! the row of arrays -/
def five (hv : Nat → Value) : List Value := [hv 0, hv 1, hv 2, hv 3, hv 4]
def flatH (hv : Nat → Nat → Value) (K : Nat) : List Value := (List.range K).flatMap fun k => five (hv k)
theorem flatH_succ (hv : Nat → Nat → Value) (K : Nat) : flatH hv (K + 1) = flatH hv K ++ five (hv K) := by simp [flatH, List.range_succ]
theorem flatH_len (hv : Nat → Nat → Value) (K : Nat) : (flatH hv K).length = K * 5 := by
  induction K with
  | zero => rfl
  | succ K ih => rw [flatH_succ, List.length_append, ih]; show K * 5 + 5 = _; omega
theorem flatH_get (hv : Nat → Nat → Value) {K k m : Nat} (hk : k < K) (hm : m < 5) : (flatH hv K)[k * 5 + m]? = some (hv k m) := by
  induction K with
  | zero => omega
  | succ K ih =>
    rw [flatH_succ]
    by_cases e : k < K
    · rw [List.getElem?_append_left (by rw [flatH_len]; omega)]
      exact ih e
    · rw [List.getElem?_append_right (by rw [flatH_len]; omega), flatH_len, show k * 5 + m - K * 5 = m by omega, show k = K by omega]
      rcases (show m = 0 ∨ m = 1 ∨ m = 2 ∨ m = 3 ∨ m = 4 by omega) with rfl | rfl | rfl | rfl | rfl <;> rfl
theorem flatH_congr {hv hv' : Nat → Nat → Value} {K : Nat} (h : ∀ k m, k < K → m < 5 → hv k m = hv' k m) : flatH hv K = flatH hv' K := by
  induction K with
  | zero => rfl
  | succ K ih =>
    rw [flatH_succ, flatH_succ, ih fun k m hk hm => h k m (by omega) hm]
    unfold five
    rw [h K 0 (by omega) (by omega), h K 1 (by omega) (by omega), h K 2 (by omega) (by omega), h K 3 (by omega) (by omega), h K 4 (by omega) (by omega)]
/-- a row of K arrays, which is seen, and which may be written -/
structure RH (w : World) (base : Nat) (g cap K : Nat) (hv : Nat → Nat → Value) : Prop where
  low : base ≤ g
  row : ∃ rest : Nat → Value, w.rowIs g 48 (cap * 5) (fun j => if j < K * 5 then hv (j / 5) (j % 5) else rest j)
  room : K ≤ cap
  lim : cap ≤ maxLen
variable {g cap K : Nat} {hv : Nat → Nat → Value}
theorem RH.cell (h : RH w base g cap K hv) {k m : Nat} (hk : k < K) (hm : m < 5) : w.cell? ⟨g, k * 5 + m, none⟩ = some (hv k m) := by
  obtain ⟨rest, hr⟩ := h.row
  have hc := h.room
  have h1 : k * 5 + 5 ≤ K * 5 := by omega
  rw [World.rowIs.cell hr (i := k * 5 + m) (by omega), if_pos (by omega), show (k * 5 + m) / 5 = k by omega, show (k * 5 + m) % 5 = m by omega]
theorem RH.frozen (h : RH w base g cap K hv) (j : Nat) : w.frozen? ⟨g, j, none⟩ = false := by
  obtain ⟨rest, hr⟩ := h.row
  exact World.rowIs.frozen hr j
theorem RH.lt (h : RH w base g cap K hv) : g < w.heap.size := by
  obtain ⟨rest, hr⟩ := h.row
  exact World.rowIs.lt hr
theorem RH.ty (h : RH w base g cap K hv) : tyB w g = some 48 := by
  obtain ⟨rest, hr⟩ := h.row
  exact tyB_row hr
theorem RH.of_block (h : RH w base g cap K hv) (e : w'.heap[g]? = w.heap[g]?) : RH w' base g cap K hv := by
  obtain ⟨rest, hr⟩ := h.row
  exact ⟨h.low, ⟨rest, World.rowIs.of_block hr e⟩, h.room, h.lim⟩
theorem RH.congr (h : RH w base g cap K hv) {hv' : Nat → Nat → Value} (e : ∀ k m, k < K → m < 5 → hv' k m = hv k m) : RH w base g cap K hv' := by
  obtain ⟨rest, hr⟩ := h.row
  refine ⟨h.low, ⟨rest, hr.congr fun j hj => ?_⟩, h.room, h.lim⟩
  by_cases q : j < K * 5
  · rw [if_pos q, if_pos q, e _ _ (by omega) (by omega)]
  · rw [if_neg q, if_neg q]
/-- one cell of it is another one -/
theorem RH.set (h : RH w base g cap K hv) {k m : Nat} (hk : k < K) (hm : m < 5) (v : Value) : RH (w.setCell ⟨g, k * 5 + m, none⟩ v) base g cap K (fun a b => if a = k ∧ b = m then v else hv a b) := by
  obtain ⟨rest, hr⟩ := h.row
  refine ⟨h.low, ⟨rest, (World.rowIs.set hr (k * 5 + m) v).congr fun j hj => ?_⟩, h.room, h.lim⟩
  by_cases e : j = k * 5 + m
  · have h1 : k * 5 + 5 ≤ K * 5 := by omega
    rw [if_pos e, if_pos (by omega), if_pos (by omega)]
  · rw [if_neg e]
    by_cases q : j < K * 5
    · rw [if_pos q, if_pos q, if_neg (by omega)]
    · rw [if_neg q, if_neg q]
/-- what an append leaves -/
theorem RH.own (h : RH w base g cap K hv) : w.ownsRow base 48 5 (.slice (some ⟨g, 0, none⟩) K cap) K (flatH hv K) := by
  obtain ⟨rest, c, hb, hn, hc⟩ := h.row
  have h1 := h.room
  refine ⟨flatH_len _ _, .inr ⟨g, cap, c, rfl, h.low, hb, h.room, h.lim, hn, ?_⟩⟩
  apply List.ext_getElem?
  intro j
  by_cases q : j < K * 5
  · rw [List.getElem?_take_of_lt q, Array.getElem?_toList, hc j (by omega)]
    show some (if j < K * 5 then hv (j / 5) (j % 5) else rest j) = _
    rw [if_pos q]
    have := flatH_get hv (k := j / 5) (m := j % 5) (K := K) (by omega) (by omega)
    rw [show j / 5 * 5 + j % 5 = j by omega] at this
    exact this.symm
  · rw [List.getElem?_eq_none (by rw [List.length_take]; omega), List.getElem?_eq_none (by rw [flatH_len]; omega)]
theorem RH.of_own (h : w.ownsRow base 48 5 (.slice (some ⟨g, 0, none⟩) K cap) K (flatH hv K)) (hK : 0 < K) : RH w base g cap K hv := by
  rcases h.2 with ⟨h2, h3⟩ | ⟨g', cap', cur, hv', hb, hh, hc, hm, hsz, ht⟩
  · cases h2
  · injection hv' with e1 e2 e3
    injection e1 with e1
    injection e1 with e1
    subst e1 e3
    refine ⟨hb, ⟨fun j => cur[j]?.getD default, cur, hh, hsz, fun j hj => ?_⟩, hc, hm⟩
    show cur[j]? = some (if j < K * 5 then hv (j / 5) (j % 5) else cur[j]?.getD default)
    by_cases q : j < K * 5
    · rw [if_pos q]
      have h4 := flatH_get hv (k := j / 5) (m := j % 5) (K := K) (by omega) (by omega)
      rw [show j / 5 * 5 + j % 5 = j by omega, ← ht, List.getElem?_take_of_lt q, Array.getElem?_toList] at h4
      exact h4
    · rw [if_neg q]
      rw [Array.getElem?_eq_getElem (by omega)]
      rfl
/-! all of it -/
structure RF (w : World) (base R : Nat) (f : F) (rv : Nat → Value) (g cap : Nat) : Prop where
  main : RM w R f.v.n f.was (rv 0) (rv 1) (.slice (some ⟨g, 0, none⟩) (num f + 1) cap)
  ints : RI w base (cntF f) (lsF f) rv
  rows : RH w base g cap (num f + 1) (fun k m => rv (ix k m))
  low : base ≤ R
/-- the blocks that it takes -/
def Fb (R g N : Nat) (rv : Nat → Value) (b : Nat) : Prop := b = R ∨ b = g ∨ ∃ i, i < N ∧ (rv i).ownBlock = some b
variable {f : F}
theorem RF.tyR (h : RF w base R f rv g cap) : tyB w R = some 46 := tyB_row h.main
theorem RF.tyI (h : RF w base R f rv g cap) {i b : Nat} (hi : i < cntF f) (hb : (rv i).ownBlock = some b) : tyB w b = some 3 := tyB_own (h.ints.own i hi) hb
theorem RF.fb (h : RF w base R f rv g cap) {b : Nat} (hb : Fb R g (cntF f) rv b) : base ≤ b ∧ b < w.heap.size := by
  rcases hb with rfl | rfl | ⟨i, hi, hb⟩
  · exact ⟨h.low, World.rowIs.lt h.main⟩
  · exact ⟨h.rows.low, h.rows.lt⟩
  · exact own_lt (h.ints.own i hi) b hb
theorem RF.of_blocks (h : RF w base R f rv g cap) (hk : ∀ b, Fb R g (cntF f) rv b → w'.heap[b]? = w.heap[b]?) : RF w' base R f rv g cap := ⟨World.rowIs.of_block h.main (hk R (.inl rfl)), h.ints.of_blocks fun i b hi hb => hk b (.inr (.inr ⟨i, hi, hb⟩)), h.rows.of_block (hk g (.inr (.inl rfl))), h.low⟩
theorem RF.later (h : RF w base R f rv g cap) (hb : Below w.heap.size w w') : RF w' base R f rv g cap := h.of_blocks fun b q => hb.block b (h.fb q).2
/-- what a call leaves -/
structure FR (w w' : World) (base R : Nat) (f f' : F) (rv rv' : Nat → Value) (g g' cap' : Nat) : Prop where
  rf : RF w' base R f' rv' g' cap'
  bel : Below base w w'
  kp : ∀ b, b < w.heap.size → ¬ Fb R g (cntF f) rv b → w'.heap[b]? = w.heap[b]?
  new : ∀ b, Fb R g' (cntF f') rv' b → Fb R g (cntF f) rv b ∨ w.heap.size ≤ b
theorem FR.still (h : RF w base R f rv g cap) (hbw : base ≤ w.heap.size) (hb : Below w.heap.size w w') : FR w w' base R f f rv rv g g cap := ⟨h.later hb, hb.mono hbw, fun b q _ => hb.block b q, fun b q => .inl q⟩
theorem FR.trans {w2 : World} {f1 f2 : F} {rv1 rv2 : Nat → Value} {g1 g2 cap1 cap2 : Nat} (h : FR w w1 base R f f1 rv rv1 g g1 cap1) (h' : FR w1 w2 base R f1 f2 rv1 rv2 g1 g2 cap2) : FR w w2 base R f f2 rv rv2 g g2 cap2 := by
  refine ⟨h'.rf, h.bel.trans h'.bel, fun b hb hn => ?_, fun b hb => ?_⟩
  · rw [h'.kp b (Nat.lt_of_lt_of_le hb h.bel.size) (fun q => ?_), h.kp b hb hn]
    rcases h.new b q with a | a
    · exact hn a
    · omega
  · rcases h'.new b hb with a | a
    · exact h.new b a
    · exact .inr (Nat.le_trans h.bel.size a)
end Go.Proofs.YtgdmbnfdcbekaaiDoor.Flu
