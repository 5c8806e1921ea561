/-
  The program's group with a leader in memory: a block, a map of what was said, a map of what waits a member.
-/
import Derived.Test.YtcccheeeagphpagDoorLdrK
import Derived.Test.YtcccheeeagphpagDoorLdrE
namespace Go.Proofs.YtcccheeeagphpagDoor.Ldr
open Go.RowKit Go.Maps
open Go.Proofs.YtcccheeeagphpagDoor.Fif (own_lt own_block own_form own_mono own_vw ret_bool)
open Go.Proofs.YtcccheeeagphpagDoor.MapV (MM putT delT turned_below g_of_turned)
open Go.Proofs.YtcccheeeagphpagDoor.Sep (KpL NewL)
set_option linter.unusedVariables false

/-- what is kept -/
structure Rc where
  n : Nat
  S : Int → Option Value
  cS : Nat
  W : Nat → Int → Option Value
  cW : Nat → Nat
  nx : Nat → Nat
def up {α : Type} (f : Nat → α) (m : Nat) (x : α) : Nat → α := fun i => if i = m then x else f i
theorem up_same {α : Type} (f : Nat → α) (m : Nat) (x : α) : up f m x m = x := if_pos rfl
theorem up_other {α : Type} (f : Nat → α) {m i : Nat} (x : α) (h : i ≠ m) : up f m x i = f i := if_neg h
def av (r : Rc) (mS : Nat) (mb : Nat → Nat) (k : Nat) : Value :=
  if k = 0 then .int .i64 (r.n : Int) else if k = 1 then .map (some mS) else if k < 7 then .int .i64 (r.nx (k - 2) : Int) else (if k - 7 < r.n then .map (some (mb (k - 7))) else .map none)
structure LF (w : World) (base P mS : Nat) (mb : Nat → Nat) (r : Rc) : Prop where
  row : w.rowIs P 52 12 (av r mS mb)
  said : MM w mS r.S r.cS
  wait : ∀ i, i < r.n → MM w (mb i) (r.W i) (r.cW i)
  low : base ≤ P ∧ base ≤ mS ∧ ∀ i, i < r.n → base ≤ mb i
  five : r.n ≤ 5
  dS : ∀ i, i < r.n → mb i ≠ mS
  dW : ∀ i j, i < r.n → j < r.n → i ≠ j → mb i ≠ mb j
def fpL (P mS n : Nat) (mb : Nat → Nat) : List Nat := P :: mS :: (List.range n).map mb
theorem fpL_iff {P mS n : Nat} {mb : Nat → Nat} {b : Nat} : b ∈ fpL P mS n mb ↔ b = P ∨ b = mS ∨ (∃ i, i < n ∧ mb i = b) := by
  simp [fpL]
variable {w w' : World} {base P mS : Nat} {mb : Nat → Nat} {r : Rc}
theorem LF.c0 (h : LF w base P mS mb r) : w.cell? ⟨P, 0, none⟩ = some (.int .i64 (r.n : Int)) := World.rowIs.cell h.row (i := 0) (by omega)
theorem LF.c1 (h : LF w base P mS mb r) : w.cell? ⟨P, 1, none⟩ = some (.map (some mS)) := World.rowIs.cell h.row (i := 1) (by omega)
theorem LF.fr (h : LF w base P mS mb r) (k : Nat) : w.frozen? ⟨P, k, none⟩ = false := World.rowIs.frozen h.row k
theorem LF.cl (h : LF w base P mS mb r) {m : Nat} (hm : m < 5) : w.cell? ⟨P, 2 + m, none⟩ = some (.int .i64 (r.nx m : Int)) := by
  rw [World.rowIs.cell h.row (i := 2 + m) (by omega)]
  unfold av
  rw [if_neg (by omega), if_neg (by omega), if_pos (by omega), show 2 + m - 2 = m by omega]
theorem LF.cw (h : LF w base P mS mb r) {m : Nat} (hm : m < r.n) : w.cell? ⟨P, 7 + m, none⟩ = some (.map (some (mb m))) := by
  have := h.five
  rw [World.rowIs.cell h.row (i := 7 + m) (by omega)]
  unfold av
  rw [if_neg (by omega), if_neg (by omega), if_neg (by omega), show 7 + m - 7 = m by omega, if_pos hm]
theorem LF.lt (h : LF w base P mS mb r) : P < w.heap.size := World.rowIs.lt h.row
theorem LF.fp (h : LF w base P mS mb r) : ∀ b ∈ fpL P mS r.n mb, base ≤ b ∧ b < w.heap.size := by
  intro b hb
  rcases fpL_iff.1 hb with rfl | rfl | ⟨i, hi, rfl⟩
  · exact ⟨h.low.1, h.lt⟩
  · exact ⟨h.low.2.1, h.said.lt⟩
  · exact ⟨h.low.2.2 i hi, (h.wait i hi).lt⟩
theorem LF.of_blocks (h : LF w base P mS mb r) (hk : ∀ b ∈ fpL P mS r.n mb, w'.heap[b]? = w.heap[b]?) : LF w' base P mS mb r :=
  { row := World.rowIs.of_block h.row (hk P (fpL_iff.2 (.inl rfl)))
    said := h.said.of_block (hk mS (fpL_iff.2 (.inr (.inl rfl))))
    wait := fun i hi => (h.wait i hi).of_block (hk _ (fpL_iff.2 (.inr (.inr ⟨i, hi, rfl⟩))))
    low := h.low, five := h.five, dS := h.dS, dW := h.dW }
theorem LF.later (h : LF w base P mS mb r) (hb : Below w.heap.size w w') : LF w' base P mS mb r := h.of_blocks fun b q => hb.block b (h.fp b q).2
theorem LF.heap (h : LF w base P mS mb r) (e : w'.heap = w.heap) : LF w' base P mS mb r := h.of_blocks fun b _ => by rw [e]
theorem LF.lower (h : LF w base P mS mb r) {base' : Nat} (hb : base' ≤ base) : LF w base' P mS mb r :=
  { row := h.row, said := h.said, wait := h.wait
    low := ⟨Nat.le_trans hb h.low.1, Nat.le_trans hb h.low.2.1, fun i hi => Nat.le_trans hb (h.low.2.2 i hi)⟩, five := h.five, dS := h.dS, dW := h.dW }
/-- the place that a member hears next -/
theorem LF.setNx (h : LF w base P mS mb r) {m : Nat} (hm : m < 5) (y : Nat) : LF (w.setCell ⟨P, 2 + m, none⟩ (.int .i64 (y : Int))) base P mS mb { r with nx := up r.nx m y } := by
  have hk : ∀ b, b ≠ P → (w.setCell ⟨P, 2 + m, none⟩ (.int .i64 (y : Int))).heap[b]? = w.heap[b]? := fun b hb => Deep.blk_setCell_other _ _ _ _ hb
  refine { row := (World.rowIs.set h.row (2 + m) _).congr fun k hk => ?_, said := h.said.of_block (hk _ (h.said.row h.row).symm), wait := fun i hi => (h.wait i hi).of_block (hk _ ((h.wait i hi).row h.row).symm), low := h.low, five := h.five, dS := h.dS, dW := h.dW }
  unfold av
  by_cases e : k = 2 + m
  · rw [if_pos e, if_neg (by omega), if_neg (by omega), if_pos (by omega)]
    show _ = Value.int .i64 ((up r.nx m y (k - 2) : Nat) : Int)
    rw [show k - 2 = m by omega, up_same]
  · rw [if_neg e]
    by_cases e0 : k = 0
    · rw [if_pos e0, if_pos e0]
    · rw [if_neg e0, if_neg e0]
      by_cases e1 : k = 1
      · rw [if_pos e1, if_pos e1]
      · rw [if_neg e1, if_neg e1]
        by_cases e7 : k < 7
        · rw [if_pos e7, if_pos e7]
          show _ = Value.int .i64 ((up r.nx m y (k - 2) : Nat) : Int)
          rw [up_other _ _ (show k - 2 ≠ m by omega)]
        · rw [if_neg e7, if_neg e7]
theorem LF.turnS (h : LF w base P mS mb r) {S' : Int → Option Value} {c' : Nat} (hm : MM w' mS S' c') (ht : w.mapTurned w' mS) : LF w' base P mS mb { r with S := S', cS := c' } := by
  have hk : ∀ b, b < w.heap.size → b ≠ mS → w'.heap[b]? = w.heap[b]? := fun b hb hne => g_of_turned ht hb hne
  exact
  { row := World.rowIs.of_block h.row (hk P h.lt (h.said.row h.row))
    said := hm
    wait := fun i hi => (h.wait i hi).of_block (hk _ (h.wait i hi).lt (h.dS i hi))
    low := h.low, five := h.five, dS := h.dS, dW := h.dW }
theorem LF.turnW (h : LF w base P mS mb r) {m : Nat} (hmn : m < r.n) {T' : Int → Option Value} {c' : Nat} (hm : MM w' (mb m) T' c') (ht : w.mapTurned w' (mb m)) : LF w' base P mS mb { r with W := up r.W m T', cW := up r.cW m c' } := by
  have hk : ∀ b, b < w.heap.size → b ≠ mb m → w'.heap[b]? = w.heap[b]? := fun b hb hne => g_of_turned ht hb hne
  exact
  { row := World.rowIs.of_block h.row (hk P h.lt ((h.wait m hmn).row h.row))
    said := h.said.of_block (hk _ h.said.lt (h.dS m hmn).symm)
    wait := fun i hi => (by
      show MM w' (mb i) (up r.W m T' i) (up r.cW m c' i)
      by_cases e : i = m
      · subst e
        rw [up_same, up_same]
        exact hm
      · rw [up_other _ _ e, up_other _ _ e]
        exact (h.wait i hi).of_block (hk _ (h.wait i hi).lt (h.dW i m hi hmn e)))
    low := h.low, five := h.five, dS := h.dS, dW := h.dW }
/-- the same, in other words -/
theorem LF.congr (h : LF w base P mS mb r) {r' : Rc} (en : r'.n = r.n) (eS : ∀ i, r'.S i = r.S i) (ec : r'.cS = r.cS) (eW : ∀ m, m < r.n → ∀ i, r'.W m i = r.W m i) (ecw : ∀ m, m < r.n → r'.cW m = r.cW m) (em : ∀ m, m < 5 → r'.nx m = r.nx m) : LF w base P mS mb r' := by
  refine { row := h.row.congr fun k hk => ?_, said := h.said.congr eS ec, wait := fun i hi => (h.wait i (by omega)).congr (eW i (by omega)) (ecw i (by omega)), low := ⟨h.low.1, h.low.2.1, fun i hi => h.low.2.2 i (by omega)⟩, five := (by rw [en]; exact h.five), dS := fun i hi => h.dS i (by omega), dW := fun i j hi hj => h.dW i j (by omega) (by omega) }
  unfold av
  rw [en]
  by_cases e7 : k < 7
  · rw [if_pos e7, if_pos e7]
    by_cases e0 : k = 0
    · rw [if_pos e0, if_pos e0]
    · by_cases e1 : k = 1
      · rw [if_pos e1, if_pos e1]
      · rw [if_neg e0, if_neg e1, if_neg e0, if_neg e1, em _ (by omega)]
  · rw [if_neg e7, if_neg e7]
theorem kp_refl (w : World) (fp : List Nat) : KpL w w fp := ⟨Nat.le_refl _, fun _ _ _ => rfl⟩
theorem kp_trans {w1 w2 w3 : World} {fp : List Nat} (h : KpL w1 w2 fp) (h' : KpL w2 w3 fp) : KpL w1 w3 fp := ⟨Nat.le_trans h.1 h'.1, fun b hb hn => (h'.2 b (Nat.lt_of_lt_of_le hb h.1) hn).trans (h.2 b hb hn)⟩
theorem kp_turned {b : Nat} {fp : List Nat} (h : w.mapTurned w' b) (hb : b ∈ fp) : KpL w w' fp := ⟨h.grown.size, fun k hk hn => g_of_turned h hk (fun e => hn (e ▸ hb))⟩
theorem kp_set {fp : List Nat} (w : World) (i : Nat) (v : Value) (hb : P ∈ fp) : KpL w (w.setCell ⟨P, i, none⟩ v) fp := ⟨by simp [World.setCell], fun b _ hn => Deep.blk_setCell_other _ _ _ _ (fun e => hn (e ▸ hb))⟩
theorem kp_heap {w1 w2 w3 : World} {fp : List Nat} (h : KpL w1 w2 fp) (e : w3.heap = w2.heap) : KpL w1 w3 fp := ⟨by rw [e]; exact h.1, fun b hb hn => by rw [e]; exact h.2 b hb hn⟩
theorem P_fp {n : Nat} : P ∈ fpL P mS n mb := fpL_iff.2 (.inl rfl)
theorem S_fp {n : Nat} : mS ∈ fpL P mS n mb := fpL_iff.2 (.inr (.inl rfl))
theorem W_fp {n m : Nat} (h : m < n) : mb m ∈ fpL P mS n mb := fpL_iff.2 (.inr (.inr ⟨m, h, rfl⟩))
theorem drewsL {B : Nat} {a w : World} (h : Below B a w) (n : Nat) : Below B a (w.drewN n) := ⟨h.os, h.tape, h.output, h.size, h.block⟩
theorem same_heap {B : Nat} {a w1 w2 : World} (h : Below B a w1) (e : w2.heap = w1.heap) (e1 : w2.os = w1.os) (e2 : w2.tape = w1.tape) (e3 : w2.output = w1.output) : Below B a w2 := ⟨by rw [e1]; exact h.os, by rw [e2]; exact h.tape, by rw [e3]; exact h.output, by rw [e]; exact h.size, fun k hk => by rw [e]; exact h.block k hk⟩
/-- the group that it shows, where each hears that place next -/
def rcN (l : L) (nx : Nat → Nat) : Rc := ⟨l.n, TS l.ws, l.ws.length, fun m => TW l m (nx m), fun m => cW l m (nx m), nx⟩
def rc (l : L) : Rc := rcN l (hn l)
def LS (w : World) (base P : Nat) (l : L) (fp : List Nat) : Prop := ∃ mS mb, fp = fpL P mS l.n mb ∧ LF w base P mS mb (rc l)
theorem LS.of_blocks {w w' : World} {base P : Nat} {l : L} {fp : List Nat} (h : LS w base P l fp) (hs : w.heap.size ≤ w'.heap.size) (hk : ∀ b ∈ fp, w'.heap[b]? = w.heap[b]?) : LS w' base P l fp := by
  obtain ⟨mS, mb, rfl, h⟩ := h
  exact ⟨mS, mb, rfl, h.of_blocks hk⟩
theorem LS.fp {w : World} {base P : Nat} {l : L} {fp : List Nat} (h : LS w base P l fp) : ∀ b ∈ fp, base ≤ b ∧ b < w.heap.size := by
  obtain ⟨mS, mb, rfl, h⟩ := h
  exact LF.fp h
theorem LS.lower {w : World} {base base' P : Nat} {l : L} {fp : List Nat} (h : LS w base P l fp) (hb : base' ≤ base) : LS w base' P l fp := by
  obtain ⟨mS, mb, rfl, h⟩ := h
  exact ⟨mS, mb, rfl, h.lower hb⟩
theorem zeroI (W : World) : (zeroValue 3).run Tryd.prog W = .ok (.int .i64 0) W := by kernel_rfl
/-- look-ups: what was said -/
theorem LF.lkS_ok (h : LF w base P mS mb r) {x : Int} (hx : (Lit.int .i64 x).wf = true) {s : Option Int} (hs : r.S x = s.map iv) : ∀ W : World, W.heap[mS]? = w.heap[mS]? → (Instr.lookup 48 (.map (some mS)) (.int .i64 x) true).run Tryd.prog W = .ok (.tuple #[.int .i64 (s.getD 0), .bool s.isSome]) W := by
  intro W hW
  have hlk := h.said.look_ok Tryd.underlying48 zeroI hx W hW
  rw [hs] at hlk
  cases s <;> exact hlk
theorem LF.lkS (h : LF w base P mS mb r) {x : Int} (hx : (Lit.int .i64 x).wf = true) {s : Option Int} (hs : r.S x = s.map iv) : ∀ W : World, W.heap[mS]? = w.heap[mS]? → (Instr.lookup 48 (.map (some mS)) (.int .i64 x) false).run Tryd.prog W = .ok (.int .i64 (s.getD 0)) W := by
  intro W hW
  have hlk := h.said.look Tryd.underlying48 zeroI hx W hW
  rw [hs] at hlk
  cases s <;> exact hlk
/-- look-ups: what waits -/
theorem LF.lkW_ok (h : LF w base P mS mb r) {m : Nat} (hm : m < r.n) {x : Int} (hx : (Lit.int .i64 x).wf = true) {s : Option Int} (hs : r.W m x = s.map iv) : ∀ W : World, W.heap[mb m]? = w.heap[mb m]? → (Instr.lookup 48 (.map (some (mb m))) (.int .i64 x) true).run Tryd.prog W = .ok (.tuple #[.int .i64 (s.getD 0), .bool s.isSome]) W := by
  intro W hW
  have hlk := (h.wait m hm).look_ok Tryd.underlying48 zeroI hx W hW
  rw [hs] at hlk
  cases s <;> exact hlk
theorem mm_len {T : Int → Option Value} {b c : Nat} (h : MM w b T c) (ty : TypeId) : ∀ W : World, W.heap[b]? = w.heap[b]? → (Builtin.len_ #[48] ty #[.map (some b)]).run Tryd.prog W = .ok (.int .i64 (c : Nat)) W := by
  intro W hW
  obtain ⟨D, hm, v⟩ := h
  rw [(MapV.own_heap hm hW).len Tryd.underlying48 ty, v.size]
end Go.Proofs.YtcccheeeagphpagDoor.Ldr
