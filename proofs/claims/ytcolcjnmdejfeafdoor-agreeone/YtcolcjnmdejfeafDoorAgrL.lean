/-
  The program's group in memory: a block, a map of what was said, a map of what waits a member, a row of what it heard a member.
-/
import Derived.Test.YtcolcjnmdejfeafDoorAgrK
import Derived.Test.YtcolcjnmdejfeafDoorAgrE
namespace Go.Proofs.YtcolcjnmdejfeafDoor.Agr
open Go.RowKit Go.Maps
open Go.Proofs.YtcolcjnmdejfeafDoor.Fif (own_lt own_block own_form own_mono own_vw ret_bool)
open Go.Proofs.YtcolcjnmdejfeafDoor.MapV (MM putT delT turned_below g_of_turned)
open Go.Proofs.YtcolcjnmdejfeafDoor.Sep (KpL NewL)
set_option linter.unusedVariables false

/-- what is kept -/
structure Rc where
  n : Nat
  S : Int → Option Value
  cS : Nat
  W : Nat → Int → Option Value
  cW : Nat → Nat
  most : Nat → Nat
  hd : Nat → List Nat
def up {α : Type} (f : Nat → α) (m : Nat) (x : α) : Nat → α := fun i => if i = m then x else f i
theorem up_same {α : Type} (f : Nat → α) (m : Nat) (x : α) : up f m x m = x := if_pos rfl
theorem up_other {α : Type} (f : Nat → α) {m i : Nat} (x : α) (h : i ≠ m) : up f m x i = f i := if_neg h
def av (r : Rc) (mS : Nat) (mb : Nat → Nat) (hv : Nat → Value) (k : Nat) : Value :=
  if k = 0 then .int .i64 (r.n : Int) else if k = 1 then .map (some mS) else if k < 7 then .int .i64 (r.most (k - 2) : Int) else if k < 12 then (if k - 7 < r.n then .map (some (mb (k - 7))) else .map none) else hv (k - 12)
abbrev Lw (w : World) (base : Nat) (v : Value) (l : List Nat) : Prop := w.ownsRow base 3 1 v l.length ((ints l).map (Value.int .i64))
structure AF (w : World) (base P mS : Nat) (mb : Nat → Nat) (hv : Nat → Value) (r : Rc) : Prop where
  row : w.rowIs P 89 17 (av r mS mb hv)
  said : MM w mS r.S r.cS
  wait : ∀ i, i < r.n → MM w (mb i) (r.W i) (r.cW i)
  hd : ∀ i, i < 5 → Lw w base (hv i) (r.hd i)
  low : base ≤ P ∧ base ≤ mS ∧ ∀ i, i < r.n → base ≤ mb i
  five : r.n ≤ 5
  dS : ∀ i, i < r.n → mb i ≠ mS
  dW : ∀ i j, i < r.n → j < r.n → i ≠ j → mb i ≠ mb j
  dH : ∀ i j, i < 5 → j < 5 → i ≠ j → ∀ b, (hv i).ownBlock = some b → (hv j).ownBlock ≠ some b
def fpA (P mS n : Nat) (mb : Nat → Nat) (hv : Nat → Value) : List Nat := P :: mS :: ((List.range n).map mb ++ (List.range 5).filterMap fun i => (hv i).ownBlock)
theorem fpA_iff {P mS n : Nat} {mb : Nat → Nat} {hv : Nat → Value} {b : Nat} : b ∈ fpA P mS n mb hv ↔ b = P ∨ b = mS ∨ (∃ i, i < n ∧ mb i = b) ∨ ∃ i, i < 5 ∧ (hv i).ownBlock = some b := by
  simp [fpA]
variable {w w' : World} {base P mS : Nat} {mb : Nat → Nat} {hv : Nat → Value} {r : Rc}
theorem AF.c0 (h : AF w base P mS mb hv r) : w.cell? ⟨P, 0, none⟩ = some (.int .i64 (r.n : Int)) := World.rowIs.cell h.row (i := 0) (by omega)
theorem AF.c1 (h : AF w base P mS mb hv r) : w.cell? ⟨P, 1, none⟩ = some (.map (some mS)) := World.rowIs.cell h.row (i := 1) (by omega)
theorem AF.fr (h : AF w base P mS mb hv r) (k : Nat) : w.frozen? ⟨P, k, none⟩ = false := World.rowIs.frozen h.row k
theorem AF.cl (h : AF w base P mS mb hv r) {m : Nat} (hm : m < 5) : w.cell? ⟨P, 2 + m, none⟩ = some (.int .i64 (r.most m : Int)) := by
  rw [World.rowIs.cell h.row (i := 2 + m) (by omega)]
  unfold av
  rw [if_neg (by omega), if_neg (by omega), if_pos (by omega), show 2 + m - 2 = m by omega]
theorem AF.cw (h : AF w base P mS mb hv r) {m : Nat} (hm : m < r.n) : w.cell? ⟨P, 7 + m, none⟩ = some (.map (some (mb m))) := by
  have := h.five
  rw [World.rowIs.cell h.row (i := 7 + m) (by omega)]
  unfold av
  rw [if_neg (by omega), if_neg (by omega), if_neg (by omega), if_pos (by omega), show 7 + m - 7 = m by omega, if_pos hm]
theorem AF.ch (h : AF w base P mS mb hv r) {m : Nat} (hm : m < 5) : w.cell? ⟨P, 12 + m, none⟩ = some (hv m) := by
  rw [World.rowIs.cell h.row (i := 12 + m) (by omega)]
  unfold av
  rw [if_neg (by omega), if_neg (by omega), if_neg (by omega), if_neg (by omega), show 12 + m - 12 = m by omega]
theorem AF.lt (h : AF w base P mS mb hv r) : P < w.heap.size := World.rowIs.lt h.row
theorem own_ne {b t : Nat} {f : Nat → Value} {q n : Nat} (h : w.rowIs P t n f) (ht : t ≠ 3) {v : Value} {l : List Nat} (o : Lw w q v l) (hb : v.ownBlock = some b) : b ≠ P := by
  rcases o.2 with ⟨h2, _⟩ | ⟨g', cap', cur, hv, hbg, hh, _⟩
  · rw [h2] at hb; cases hb
  · rw [hv] at hb
    have : g' = b := by simpa [Value.ownBlock] using hb
    subst this
    obtain ⟨c, hc, _⟩ := h
    intro e
    rw [e, hc] at hh
    injection hh with hh
    injection hh with _ q _
    exact ht q
theorem AF.fp (h : AF w base P mS mb hv r) : ∀ b ∈ fpA P mS r.n mb hv, base ≤ b ∧ b < w.heap.size := by
  intro b hb
  rcases fpA_iff.1 hb with rfl | rfl | ⟨i, hi, rfl⟩ | ⟨i, hi, q⟩
  · exact ⟨h.low.1, h.lt⟩
  · exact ⟨h.low.2.1, h.said.lt⟩
  · exact ⟨h.low.2.2 i hi, (h.wait i hi).lt⟩
  · exact own_lt (h.hd i hi) b q
theorem AF.of_blocks (h : AF w base P mS mb hv r) (hk : ∀ b ∈ fpA P mS r.n mb hv, w'.heap[b]? = w.heap[b]?) : AF w' base P mS mb hv r :=
  { row := World.rowIs.of_block h.row (hk P (fpA_iff.2 (.inl rfl)))
    said := h.said.of_block (hk mS (fpA_iff.2 (.inr (.inl rfl))))
    wait := fun i hi => (h.wait i hi).of_block (hk _ (fpA_iff.2 (.inr (.inr (.inl ⟨i, hi, rfl⟩)))))
    hd := fun i hi => own_block (h.hd i hi) fun k q => hk k (fpA_iff.2 (.inr (.inr (.inr ⟨i, hi, q⟩))))
    low := h.low, five := h.five, dS := h.dS, dW := h.dW, dH := h.dH }
theorem AF.later (h : AF w base P mS mb hv r) (hb : Below w.heap.size w w') : AF w' base P mS mb hv r := h.of_blocks fun b q => hb.block b (h.fp b q).2
theorem AF.heap (h : AF w base P mS mb hv r) (e : w'.heap = w.heap) : AF w' base P mS mb hv r := h.of_blocks fun b _ => by rw [e]
theorem AF.lower (h : AF w base P mS mb hv r) {base' : Nat} (hb : base' ≤ base) : AF w base' P mS mb hv r :=
  { row := h.row, said := h.said, wait := h.wait, hd := fun i hi => own_mono (h.hd i hi) hb
    low := ⟨Nat.le_trans hb h.low.1, Nat.le_trans hb h.low.2.1, fun i hi => Nat.le_trans hb (h.low.2.2 i hi)⟩, five := h.five, dS := h.dS, dW := h.dW, dH := h.dH }
/-- a cell of the block is stored: the rest stays -/
theorem AF.other (h : AF w base P mS mb hv r) (hk : ∀ b, b ≠ P → w'.heap[b]? = w.heap[b]?) : MM w' mS r.S r.cS ∧ (∀ i, i < r.n → MM w' (mb i) (r.W i) (r.cW i)) ∧ ∀ i, i < 5 → Lw w' base (hv i) (r.hd i) :=
  ⟨h.said.of_block (hk _ (h.said.row h.row).symm), fun i hi => (h.wait i hi).of_block (hk _ ((h.wait i hi).row h.row).symm), fun i hi => own_block (h.hd i hi) fun k q => hk k (own_ne h.row (by decide) (h.hd i hi) q)⟩
theorem AF.setLast (h : AF w base P mS mb hv r) {m : Nat} (hm : m < 5) (y : Nat) : AF (w.setCell ⟨P, 2 + m, none⟩ (.int .i64 (y : Int))) base P mS mb hv { r with most := up r.most m y } := by
  obtain ⟨a, b, c⟩ := h.other (w' := w.setCell ⟨P, 2 + m, none⟩ (.int .i64 (y : Int))) fun b hb => Deep.blk_setCell_other _ _ _ _ hb
  refine { row := (World.rowIs.set h.row (2 + m) _).congr fun k hk => ?_, said := a, wait := b, hd := c, low := h.low, five := h.five, dS := h.dS, dW := h.dW, dH := h.dH }
  unfold av
  by_cases e : k = 2 + m
  · rw [if_pos e, if_neg (by omega), if_neg (by omega), if_pos (by omega)]
    show _ = Value.int .i64 ((up r.most m y (k - 2) : Nat) : Int)
    rw [show k - 2 = m by omega, up_same]
  · rw [if_neg e]
    by_cases e0 : k = 0
    · rw [if_pos e0, if_pos e0]
    · rw [if_neg e0, if_neg e0]
      by_cases e1 : k = 1
      · rw [if_pos e1, if_pos e1]
      · rw [if_neg e1, if_neg e1]
        by_cases e7 : k < 7
        · rw [if_pos e7, if_pos e7]
          show _ = Value.int .i64 ((up r.most m y (k - 2) : Nat) : Int)
          rw [up_other _ _ (show k - 2 ≠ m by omega)]
        · rw [if_neg e7, if_neg e7]
theorem AF.turnS (h : AF w base P mS mb hv r) {S' : Int → Option Value} {c' : Nat} (hm : MM w' mS S' c') (ht : w.mapTurned w' mS) : AF w' base P mS mb hv { r with S := S', cS := c' } := by
  have hk : ∀ b, b < w.heap.size → b ≠ mS → w'.heap[b]? = w.heap[b]? := fun b hb hne => g_of_turned ht hb hne
  exact
  { row := World.rowIs.of_block h.row (hk P h.lt (h.said.row h.row))
    said := hm
    wait := fun i hi => (h.wait i hi).of_block (hk _ (h.wait i hi).lt (h.dS i hi))
    hd := fun i hi => own_block (h.hd i hi) fun k q => hk k (own_lt (h.hd i hi) k q).2 fun e => h.said.own (h.hd i hi) (by rw [q, e])
    low := h.low, five := h.five, dS := h.dS, dW := h.dW, dH := h.dH }
theorem AF.turnW (h : AF w base P mS mb hv r) {m : Nat} (hmn : m < r.n) {T' : Int → Option Value} {c' : Nat} (hm : MM w' (mb m) T' c') (ht : w.mapTurned w' (mb m)) : AF w' base P mS mb hv { r with W := up r.W m T', cW := up r.cW m c' } := by
  have hk : ∀ b, b < w.heap.size → b ≠ mb m → w'.heap[b]? = w.heap[b]? := fun b hb hne => g_of_turned ht hb hne
  exact
  { row := World.rowIs.of_block h.row (hk P h.lt ((h.wait m hmn).row h.row))
    said := h.said.of_block (hk _ h.said.lt (h.dS m hmn).symm)
    wait := fun i hi => (by
      show MM w' (mb i) (up r.W m T' i) (up r.cW m c' i)
      by_cases e : i = m
      · subst e
        rw [up_same, up_same]
        exact hm
      · rw [up_other _ _ e, up_other _ _ e]
        exact (h.wait i hi).of_block (hk _ (h.wait i hi).lt (h.dW i m hi hmn e)))
    hd := fun i hi => own_block (h.hd i hi) fun k q => hk k (own_lt (h.hd i hi) k q).2 fun e => (h.wait m hmn).own (h.hd i hi) (by rw [q, e])
    low := h.low, five := h.five, dS := h.dS, dW := h.dW, dH := h.dH }
theorem AF.setHd (h : AF w base P mS mb hv r) {m : Nat} (hm : m < 5) {v : Value} {l : List Nat} (hg : w.grownBy w' (hv m).ownBlock) (ho : Lw w' base v l) (hn : ∀ b, v.ownBlock = some b → (hv m).ownBlock = some b ∨ w.heap.size ≤ b) : AF (w'.setCell ⟨P, 12 + m, none⟩ v) base P mS mb (up hv m v) { r with hd := up r.hd m l } := by
  have hk : ∀ b, b < w.heap.size → (hv m).ownBlock ≠ some b → w'.heap[b]? = w.heap[b]? := fun b hb hne => hg.block b hb (fun q => hne q.symm)
  have hk2 : ∀ b, b < w.heap.size → b ≠ P → (hv m).ownBlock ≠ some b → (w'.setCell ⟨P, 12 + m, none⟩ v).heap[b]? = w.heap[b]? := fun b hb hp hne => by rw [Deep.blk_setCell_other _ _ _ _ hp]; exact hk b hb hne
  have hP : (hv m).ownBlock ≠ some P := fun q => own_ne h.row (by decide) (h.hd m hm) q rfl
  have hr := World.rowIs.of_block h.row (hk P h.lt hP)
  have hvP : ∀ b, v.ownBlock = some b → b ≠ P := fun b q e => by
    rcases hn b q with z | z
    · rw [e] at z; exact hP z
    · have := h.lt; omega
  refine
  { row := (World.rowIs.set hr (12 + m) _).congr fun k hk => ?_
    said := h.said.of_block (hk2 _ h.said.lt (h.said.row h.row).symm (h.said.own (h.hd m hm)))
    wait := fun i hi => (h.wait i hi).of_block (hk2 _ (h.wait i hi).lt ((h.wait i hi).row h.row).symm ((h.wait i hi).own (h.hd m hm)))
    hd := fun i hi => ?_
    low := h.low, five := h.five, dS := h.dS, dW := h.dW
    dH := fun i j hi hj hne b q q' => ?_ }
  · unfold av
    by_cases e : k = 12 + m
    · rw [if_pos e, if_neg (by omega), if_neg (by omega), if_neg (by omega), if_neg (by omega), show k - 12 = m by omega, up_same]
    · rw [if_neg e]
      by_cases e0 : k = 0
      · rw [if_pos e0, if_pos e0]
      · rw [if_neg e0, if_neg e0]
        by_cases e1 : k = 1
        · rw [if_pos e1, if_pos e1]
        · rw [if_neg e1, if_neg e1]
          by_cases e7 : k < 7
          · rw [if_pos e7, if_pos e7]
          · rw [if_neg e7, if_neg e7]
            by_cases e12 : k < 12
            · rw [if_pos e12, if_pos e12]
            · rw [if_neg e12, if_neg e12, up_other _ _ (show k - 12 ≠ m by omega)]
  · show Lw _ base (up hv m v i) (up r.hd m l i)
    by_cases e : i = m
    · rw [e, up_same, up_same]
      exact own_block ho fun b q => Deep.blk_setCell_other _ _ _ _ (hvP b q)
    · rw [up_other _ _ e, up_other _ _ e]
      exact own_block (h.hd i hi) fun b q => hk2 b (own_lt (h.hd i hi) b q).2 (own_ne h.row (by decide) (h.hd i hi) q) (h.dH i m hi hm e b q)
  · by_cases e : i = m
    · subst e
      rw [up_same] at q
      rw [up_other _ _ (show j ≠ i from fun z => hne z.symm)] at q'
      rcases hn b q with z | z
      · exact h.dH i j hi hj hne b z q'
      · have := (own_lt (h.hd j hj) b q').2; omega
    · rw [up_other _ _ e] at q
      by_cases e2 : j = m
      · subst e2
        rw [up_same] at q'
        rcases hn b q' with z | z
        · exact h.dH i j hi hj hne b q z
        · have := (own_lt (h.hd i hi) b q).2; omega
      · rw [up_other _ _ e2] at q'
        exact h.dH i j hi hj hne b q q'
/-- the same, in other words -/
theorem AF.congr (h : AF w base P mS mb hv r) {r' : Rc} (en : r'.n = r.n) (eS : ∀ i, r'.S i = r.S i) (ec : r'.cS = r.cS) (eW : ∀ m, m < r.n → ∀ i, r'.W m i = r.W m i) (ecw : ∀ m, m < r.n → r'.cW m = r.cW m) (em : ∀ m, m < 5 → r'.most m = r.most m) (eh : ∀ m, m < 5 → r'.hd m = r.hd m) : AF w base P mS mb hv r' := by
  refine { row := h.row.congr fun k hk => ?_, said := h.said.congr eS ec, wait := fun i hi => (h.wait i (by omega)).congr (eW i (by omega)) (ecw i (by omega)), hd := fun i hi => (by rw [eh i hi]; exact h.hd i hi), low := ⟨h.low.1, h.low.2.1, fun i hi => h.low.2.2 i (by omega)⟩, five := (by rw [en]; exact h.five), dS := fun i hi => h.dS i (by omega), dW := fun i j hi hj => h.dW i j (by omega) (by omega), dH := h.dH }
  unfold av
  rw [en]
  by_cases e7 : k < 7
  · rw [if_pos e7, if_pos e7]
    by_cases e0 : k = 0
    · rw [if_pos e0, if_pos e0]
    · by_cases e1 : k = 1
      · rw [if_pos e1, if_pos e1]
      · rw [if_neg e0, if_neg e1, if_neg e0, if_neg e1, em _ (by omega)]
  · rw [if_neg e7, if_neg e7]

/-! what a call leaves alone -/
abbrev KA (w w' : World) (P mS n : Nat) (mb : Nat → Nat) (hv : Nat → Value) : Prop := KpL w w' (fpA P mS n mb hv)
theorem kp_refl (w : World) (fp : List Nat) : KpL w w fp := ⟨Nat.le_refl _, fun _ _ _ => rfl⟩
theorem kp_trans {w1 w2 w3 : World} {fp : List Nat} (h : KpL w1 w2 fp) (h' : KpL w2 w3 fp) : KpL w1 w3 fp := ⟨Nat.le_trans h.1 h'.1, fun b hb hn => (h'.2 b (Nat.lt_of_lt_of_le hb h.1) hn).trans (h.2 b hb hn)⟩
theorem kp_turned {b : Nat} {fp : List Nat} (h : w.mapTurned w' b) (hb : b ∈ fp) : KpL w w' fp := ⟨h.grown.size, fun k hk hn => g_of_turned h hk (fun e => hn (by rw [e]; exact hb))⟩
theorem kp_set {fp : List Nat} (w : World) (i : Nat) (v : Value) (hb : P ∈ fp) : KpL w (w.setCell ⟨P, i, none⟩ v) fp := ⟨by simp [World.setCell], fun b _ hn => Deep.blk_setCell_other _ _ _ _ (fun e => hn (by rw [e]; exact hb))⟩
theorem kp_heapA {w1 w2 w3 : World} {fp : List Nat} (h : KpL w1 w2 fp) (e : w3.heap = w2.heap) : KpL w1 w3 fp := ⟨by rw [e]; exact h.1, fun b hb hn => by rw [e]; exact h.2 b hb hn⟩
theorem kp_grown {o : Option Nat} {fp : List Nat} (h : w.grownBy w' o) (ho : ∀ b, o = some b → b ∈ fp) : KpL w w' fp := ⟨h.size, fun b hb hn => h.block b hb fun q => hn (ho b q.symm)⟩
theorem P_fp {n : Nat} : P ∈ fpA P mS n mb hv := fpA_iff.2 (.inl rfl)
theorem S_fp {n : Nat} : mS ∈ fpA P mS n mb hv := fpA_iff.2 (.inr (.inl rfl))
theorem W_fp {n i : Nat} (hi : i < n) : mb i ∈ fpA P mS n mb hv := fpA_iff.2 (.inr (.inr (.inl ⟨i, hi, rfl⟩)))
theorem H_fp {n i b : Nat} (hi : i < 5) (q : (hv i).ownBlock = some b) : b ∈ fpA P mS n mb hv := fpA_iff.2 (.inr (.inr (.inr ⟨i, hi, q⟩)))
theorem new_up {n m : Nat} {v : Value} (hm : m < 5) (hn : ∀ b, v.ownBlock = some b → (hv m).ownBlock = some b ∨ w.heap.size ≤ b) : NewL w (fpA P mS n mb hv) (fpA P mS n mb (up hv m v)) := by
  intro b hb
  rcases fpA_iff.1 hb with rfl | rfl | ⟨i, hi, rfl⟩ | ⟨i, hi, q⟩
  · exact .inl P_fp
  · exact .inl S_fp
  · exact .inl (W_fp hi)
  · by_cases e : i = m
    · rw [e, up_same] at q
      rcases hn b q with z | z
      · exact .inl (H_fp hm z)
      · exact .inr z
    · rw [up_other _ _ e] at q
      exact .inl (H_fp hi q)

/-! the group that it shows -/
def rc (g : G) (cW : Nat → Nat) : Rc := ⟨g.n, TS g, cnt g 30, TW g, cW, g.most, g.hd⟩
def AS (w : World) (base P : Nat) (g : G) (fp : List Nat) : Prop := ∃ mS mb hv cW, fp = fpA P mS g.n mb hv ∧ AF w base P mS mb hv (rc g cW) ∧ ∀ i, i < g.n → cW i ≤ g.most i
theorem AS.of_blocks {w w' : World} {base P : Nat} {g : G} {fp : List Nat} (h : AS w base P g fp) (hs : w.heap.size ≤ w'.heap.size) (hk : ∀ b ∈ fp, w'.heap[b]? = w.heap[b]?) : AS w' base P g fp := by
  obtain ⟨mS, mb, hv, cW, rfl, h, hc⟩ := h
  exact ⟨mS, mb, hv, cW, rfl, h.of_blocks hk, hc⟩
theorem AS.fp {w : World} {base P : Nat} {g : G} {fp : List Nat} (h : AS w base P g fp) : ∀ b ∈ fp, base ≤ b ∧ b < w.heap.size := by
  obtain ⟨mS, mb, hv, cW, rfl, h, hc⟩ := h
  exact h.fp
theorem AS.lower {w : World} {base base' P : Nat} {g : G} {fp : List Nat} (h : AS w base P g fp) (hb : base' ≤ base) : AS w base' P g fp := by
  obtain ⟨mS, mb, hv, cW, rfl, h, hc⟩ := h
  exact ⟨mS, mb, hv, cW, rfl, h.lower hb, hc⟩
end Go.Proofs.YtcolcjnmdejfeafDoor.Agr
