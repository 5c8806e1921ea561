/-
  What the program keeps of a token: by word whether it was said, by number what waits with a member, the number of each that gets a place next. Plain facts, and how it lies in memory.
-/
import Derived.Test.YtfjhjjikaodadagDoorTokE
import Derived.Test.YtfjhjjikaodadagDoorMapV
namespace Go.Proofs.YtfjhjjikaodadagDoor.Tok
open Go.RowKit Go.Maps
open Go.Proofs.YtfjhjjikaodadagDoor.Fif (own_lt own_block own_form own_mono own_vw ret_bool)
open Go.Proofs.YtfjhjjikaodadagDoor.MapV (MM putT delT turned_below g_of_turned)
open Go.Proofs.YtfjhjjikaodadagDoor.Sep (KpL NewL)
set_option linter.unusedVariables false

def iv (x : Int) : Value := .int .i64 x
/-- what was said -/
def SD (k : K) : Int → Option Value := fun i => if (1 ≤ i ∧ i ≤ 30) ∧ k.said i = true then some (.agg #[]) else none
/-- what waits with a member of which so many had got places -/
def TW (l : List Int) (a : Nat) : Int → Option Value := fun i => if (a : Int) ≤ i ∧ i < ((a + l.length : Nat) : Int) then some (iv (l.getD (i - (a : Int)).toNat 0)) else none
theorem TW_put (l : List Int) (a : Nat) (x : Int) : ∀ i, TW (l ++ [x]) a i = putT (TW l a) ((a + l.length : Nat) : Int) (iv x) i := by
  intro i
  unfold TW putT
  rw [List.length_append]
  simp only [List.length_cons, List.length_nil]
  by_cases e : i = ((a + l.length : Nat) : Int)
  · rw [if_pos e, if_pos (by omega), e]
    have : (((a + l.length : Nat) : Int) - (a : Int)).toNat = l.length := by omega
    rw [this]
    simp [List.getD]
  · rw [if_neg e]
    by_cases q : (a : Int) ≤ i ∧ i < ((a + l.length : Nat) : Int)
    · rw [if_pos q, if_pos (by omega)]
      have q2 : (i - (a : Int)).toNat < l.length := by omega
      have q3 : (l ++ [x]).getD (i - (a : Int)).toNat 0 = l.getD (i - (a : Int)).toNat 0 := by
        unfold List.getD
        rw [List.getElem?_append_left q2]
      rw [q3]
    · rw [if_neg q, if_neg (by omega)]
theorem TW_at {l : List Int} {j : Nat} (a : Nat) (h : j < l.length) : TW l a ((a + j : Nat) : Int) = some (iv (l.getD j 0)) := by
  unfold TW
  rw [if_pos (by omega)]
  have : (((a + j : Nat) : Int) - (a : Int)).toNat = j := by omega
  rw [this]
theorem TW_end (l : List Int) (a : Nat) : TW l a ((a + l.length : Nat) : Int) = none := if_neg (by omega)
theorem TW_del (l : List Int) (x : Int) (a : Nat) : ∀ i, TW l (a + 1) i = delT (TW (x :: l) a) (a : Int) i := by
  intro i
  unfold TW delT
  rw [List.length_cons]
  by_cases e : i = (a : Int)
  · rw [if_pos e, if_neg (by omega)]
  · rw [if_neg e]
    by_cases q : (a : Int) + 1 ≤ i ∧ i < ((a + 1 + l.length : Nat) : Int)
    · rw [if_pos (by omega)]
      show _ = if (a : Int) ≤ i ∧ i < ((a + (l.length + 1) : Nat) : Int) then some (iv ((x :: l).getD (i - (a : Int)).toNat 0)) else none
      rw [if_pos (by omega)]
      have : (i - (a : Int)).toNat = (i - ((a + 1 : Nat) : Int)).toNat + 1 := by omega
      rw [this, List.getD_cons_succ]
    · rw [if_neg (by omega)]
      exact (if_neg (by omega)).symm
variable {k : K}
theorem SD_put {m : Nat} {word : Int} (hw : 1 ≤ word ∧ word ≤ 30) : ∀ i, SD (put k m word) i = putT (SD k) word (.agg #[]) i := by
  intro i
  unfold SD putT
  show (if (1 ≤ i ∧ i ≤ 30) ∧ (if i = word then true else k.said i) = true then _ else _) = _
  by_cases e : i = word
  · subst e
    simp [hw]
  · rw [if_neg e, if_neg e]
theorem SD_some {word : Int} (hw : 1 ≤ word ∧ word ≤ 30) : (SD k word).isSome = k.said word := by
  unfold SD
  cases q : k.said word
  · rw [if_neg (by simp)]; rfl
  · rw [if_pos ⟨hw, rfl⟩]; rfl
theorem SD_map (k : K) (x : Int) : SD k x = (if (1 ≤ x ∧ x ≤ 30) ∧ k.said x = true then some () else none).map (fun _ => .agg #[]) := by
  unfold SD
  split <;> rfl
theorem SD_start (n most : Nat) : ∀ i, SD (start n most) i = none := fun i => if_neg (by rintro ⟨_, q⟩; cases q)
theorem cs_put {m : Nat} {word : Int} (hw : 1 ≤ word ∧ word ≤ 30) (hs : k.said word = false) : cs (put k m word) = cs k + 1 := by
  unfold cs
  refine cnt_one (j := word.toNat - 1) (by omega) (fun i hi => ?_) ?_ ?_
  · show _ = (if (i : Int) + 1 = word then true else _)
    rw [if_neg (by omega)]
  · rw [show (((word.toNat - 1 : Nat) : Int) + 1) = word by omega]
    exact hs
  · show (if (((word.toNat - 1 : Nat) : Int) + 1) = word then true else _) = true
    rw [if_pos (by omega)]
theorem cs_le (k : K) : cs k ≤ 30 := cnt_le _ _
theorem cs_start (n most : Nat) : cs (start n most) = 0 := rfl
/-- one word gets a place -/
def one (k : K) : K := { k with pl := k.pl + 1, wt := up k.wt k.hold (k.wt k.hold).tail }
/-- so many words get places -/
def many (k : K) (j : Nat) : K := { k with pl := k.pl + j, wt := up k.wt k.hold ((k.wt k.hold).drop j) }
theorem up_up {α : Type} (f : Nat → α) (m : Nat) (x y : α) : up (up f m x) m y = up f m y := by
  funext i
  unfold up
  split <;> rfl
theorem up_self {α : Type} (f : Nat → α) (m : Nat) : up f m (f m) = f := by
  funext i
  by_cases e : i = m
  · rw [e, up_same]
  · rw [up_other _ _ e]
theorem many_zero (k : K) : many k 0 = k := by
  unfold many
  rw [List.drop_zero, up_self]
  rfl
theorem many_one (k : K) (j : Nat) : one (many k j) = many k (j + 1) := by
  unfold one
  show K.mk k.n k.most k.hold (k.pl + j + 1) k.said (up (up k.wt k.hold ((k.wt k.hold).drop j)) k.hold (up k.wt k.hold ((k.wt k.hold).drop j) k.hold).tail) = _
  rw [up_up, up_same, List.tail_drop]
  rfl
theorem many_wt (k : K) (j : Nat) : (many k j).wt k.hold = (k.wt k.hold).drop j := up_same _ _ _
theorem pass_many (k : K) : pass k = { many k (out k).length with hold := nxt k } := by
  unfold pass many out
  rw [List.length_take]
  have : (k.wt k.hold).drop k.most = (k.wt k.hold).drop (min k.most (k.wt k.hold).length) := by
    rcases Nat.le_total k.most (k.wt k.hold).length with q | q
    · rw [Nat.min_eq_left q]
    · rw [Nat.min_eq_right q, List.drop_of_length_le q, List.drop_of_length_le (Nat.le_refl _)]
  rw [← this]
theorem plN_take {l : List Int} (p : Nat) {j : Nat} (h : j < l.length) : plN p (l.take (j + 1)) = plN p (l.take j) ++ [(((p + j : Nat) : Int), l.getD j 0)] := by
  have e : l.take (j + 1) = l.take j ++ [l.getD j 0] := by
    rw [List.take_succ_eq_append_getElem h]
    simp [List.getD, h]
  rw [e, plN_snoc, List.length_take, show min j l.length = j by omega]
theorem nxt_mod (h : Inv k) : nxt k = (k.hold + 1) % k.n := by
  have h1 := h.hold
  have h2 := h.two
  unfold nxt
  split
  · rename_i q
    rw [q, Nat.mod_self]
  · rw [Nat.mod_eq_of_lt (by omega)]
/-! in memory -/
def av (k : K) (nx : Nat → Nat) (mS : Nat) (mb : Nat → Nat) (j : Nat) : Value :=
  if j < 4 then (if j = 0 then .int .i64 (k.n : Int) else if j = 1 then .int .i64 (k.most : Int) else if j = 2 then .int .i64 (k.hold : Int) else .int .i64 (k.pl : Int))
  else if j = 4 then .map (some mS)
  else if j < 10 then (if j - 5 < k.n then .map (some (mb (j - 5))) else .map none)
  else .int .i64 (nx (j - 10) : Int)
structure MF (w : World) (base P mS : Nat) (mb nx : Nat → Nat) (S : Int → Option Value) (c : Nat) (k : K) : Prop where
  row : w.rowIs P 72 15 (av k nx mS mb)
  said : MM w mS S c
  wait : ∀ i, i < k.n → MM w (mb i) (TW (k.wt i) (nx i)) (k.wt i).length
  low : base ≤ P ∧ base ≤ mS ∧ ∀ i, i < k.n → base ≤ mb i
  five : k.n ≤ 5
  dS : ∀ i, i < k.n → mb i ≠ mS
  dW : ∀ i j, i < k.n → j < k.n → i ≠ j → mb i ≠ mb j
  nb : ∀ i, nx i ≤ k.pl
def fpT (P mS n : Nat) (mb : Nat → Nat) : List Nat := P :: mS :: (List.range n).map mb
theorem fpT_iff {P mS n : Nat} {mb : Nat → Nat} {b : Nat} : b ∈ fpT P mS n mb ↔ b = P ∨ b = mS ∨ (∃ i, i < n ∧ mb i = b) := by
  simp [fpT]
variable {w w' : World} {base P mS : Nat} {mb nx : Nat → Nat} {S : Int → Option Value} {c : Nat}
theorem MF.c0 (h : MF w base P mS mb nx S c k) : w.cell? ⟨P, 0, none⟩ = some (.int .i64 (k.n : Int)) := World.rowIs.cell h.row (i := 0) (by omega)
theorem MF.c1 (h : MF w base P mS mb nx S c k) : w.cell? ⟨P, 1, none⟩ = some (.int .i64 (k.most : Int)) := World.rowIs.cell h.row (i := 1) (by omega)
theorem MF.c2 (h : MF w base P mS mb nx S c k) : w.cell? ⟨P, 2, none⟩ = some (.int .i64 (k.hold : Int)) := World.rowIs.cell h.row (i := 2) (by omega)
theorem MF.c3 (h : MF w base P mS mb nx S c k) : w.cell? ⟨P, 3, none⟩ = some (.int .i64 (k.pl : Int)) := World.rowIs.cell h.row (i := 3) (by omega)
theorem MF.c4 (h : MF w base P mS mb nx S c k) : w.cell? ⟨P, 4, none⟩ = some (.map (some mS)) := World.rowIs.cell h.row (i := 4) (by omega)
theorem MF.fr (h : MF w base P mS mb nx S c k) (j : Nat) : w.frozen? ⟨P, j, none⟩ = false := World.rowIs.frozen h.row j
theorem MF.cn (h : MF w base P mS mb nx S c k) {m : Nat} (hm : m < 5) : w.cell? ⟨P, 10 + m, none⟩ = some (.int .i64 (nx m : Int)) := by
  rw [World.rowIs.cell h.row (i := 10 + m) (by omega)]
  unfold av
  rw [if_neg (by omega), if_neg (by omega), if_neg (by omega), show 10 + m - 10 = m by omega]
theorem MF.cw (h : MF w base P mS mb nx S c k) {m : Nat} (hm : m < k.n) : w.cell? ⟨P, 5 + m, none⟩ = some (.map (some (mb m))) := by
  have := h.five
  rw [World.rowIs.cell h.row (i := 5 + m) (by omega)]
  unfold av
  rw [if_neg (by omega), if_neg (by omega), if_pos (by omega), show 5 + m - 5 = m by omega, if_pos hm]
theorem MF.lt (h : MF w base P mS mb nx S c k) : P < w.heap.size := World.rowIs.lt h.row
theorem MF.fp (h : MF w base P mS mb nx S c k) : ∀ b ∈ fpT P mS k.n mb, base ≤ b ∧ b < w.heap.size := by
  intro b hb
  rcases fpT_iff.1 hb with rfl | rfl | ⟨i, hi, rfl⟩
  · exact ⟨h.low.1, h.lt⟩
  · exact ⟨h.low.2.1, h.said.lt⟩
  · exact ⟨h.low.2.2 i hi, (h.wait i hi).lt⟩
theorem MF.of_blocks (h : MF w base P mS mb nx S c k) (hk : ∀ b ∈ fpT P mS k.n mb, w'.heap[b]? = w.heap[b]?) : MF w' base P mS mb nx S c k :=
  { row := World.rowIs.of_block h.row (hk P (fpT_iff.2 (.inl rfl)))
    said := h.said.of_block (hk mS (fpT_iff.2 (.inr (.inl rfl))))
    wait := fun i hi => (h.wait i hi).of_block (hk _ (fpT_iff.2 (.inr (.inr ⟨i, hi, rfl⟩))))
    low := h.low, five := h.five, dS := h.dS, dW := h.dW, nb := h.nb }
theorem MF.later (h : MF w base P mS mb nx S c k) (hb : Below w.heap.size w w') : MF w' base P mS mb nx S c k := h.of_blocks fun b q => hb.block b (h.fp b q).2
theorem MF.heap (h : MF w base P mS mb nx S c k) (e : w'.heap = w.heap) : MF w' base P mS mb nx S c k := h.of_blocks fun b _ => by rw [e]
theorem MF.lower (h : MF w base P mS mb nx S c k) {base' : Nat} (hb : base' ≤ base) : MF w base' P mS mb nx S c k :=
  { row := h.row, said := h.said, wait := h.wait
    low := ⟨Nat.le_trans hb h.low.1, Nat.le_trans hb h.low.2.1, fun i hi => Nat.le_trans hb (h.low.2.2 i hi)⟩, five := h.five, dS := h.dS, dW := h.dW, nb := h.nb }
theorem MF.said' (h : MF w base P mS mb nx S c k) {S' : Int → Option Value} {c' : Nat} (e : ∀ i, S' i = S i) (ec : c' = c) : MF w base P mS mb nx S' c' k :=
  { row := h.row, said := h.said.congr e ec, wait := h.wait, low := h.low, five := h.five, dS := h.dS, dW := h.dW, nb := h.nb }
theorem MF.turnS (h : MF w base P mS mb nx S c k) {S' : Int → Option Value} {c' : Nat} (hm : MM w' mS S' c') (ht : w.mapTurned w' mS) : MF w' base P mS mb nx S' c' k := by
  have hk : ∀ b, b < w.heap.size → b ≠ mS → w'.heap[b]? = w.heap[b]? := fun b hb hne => g_of_turned ht hb hne
  exact
  { row := World.rowIs.of_block h.row (hk P h.lt (h.said.row h.row))
    said := hm
    wait := fun i hi => (h.wait i hi).of_block (hk _ (h.wait i hi).lt (h.dS i hi))
    low := h.low, five := h.five, dS := h.dS, dW := h.dW, nb := h.nb }
/-- a word more waits -/
theorem MF.putW (h : MF w base P mS mb nx S c k) {m : Nat} (hmn : m < k.n) {x : Int} (hm : MM w' (mb m) (putT (TW (k.wt m) (nx m)) ((nx m + (k.wt m).length : Nat) : Int) (iv x)) ((k.wt m).length + 1)) (ht : w.mapTurned w' (mb m)) : MF w' base P mS mb nx S c (put k m x) := by
  have hk : ∀ b, b < w.heap.size → b ≠ mb m → w'.heap[b]? = w.heap[b]? := fun b hb hne => g_of_turned ht hb hne
  exact
  { row := World.rowIs.of_block h.row (hk P h.lt ((h.wait m hmn).row h.row))
    said := h.said.of_block (hk _ h.said.lt (h.dS m hmn).symm)
    wait := fun i hi => (by
      show MM w' (mb i) (TW (up k.wt m (k.wt m ++ [x]) i) (nx i)) (up k.wt m (k.wt m ++ [x]) i).length
      by_cases e : i = m
      · subst e
        rw [up_same]
        exact hm.congr (TW_put _ _ _) (by simp)
      · rw [up_other _ _ e]
        exact (h.wait i hi).of_block (hk _ (h.wait i hi).lt (h.dW i m hi hmn e)))
    low := h.low, five := h.five, dS := h.dS, dW := h.dW, nb := h.nb }
theorem av_hold (y j : Nat) : (if j = 2 then Value.int .i64 (y : Int) else av k nx mS mb j) = av { k with hold := y } nx mS mb j := by
  unfold av
  by_cases e : j = 2
  · subst e
    rfl
  · rw [if_neg e]
    by_cases q : j < 4
    · rw [if_pos q, if_pos q, if_neg e, if_neg e]
    · rw [if_neg q, if_neg q]
theorem MF.setHold (h : MF w base P mS mb nx S c k) (y : Nat) : MF (w.setCell ⟨P, 2, none⟩ (.int .i64 (y : Int))) base P mS mb nx S c { k with hold := y } := by
  have hk : ∀ b, b ≠ P → (w.setCell ⟨P, 2, none⟩ (.int .i64 (y : Int))).heap[b]? = w.heap[b]? := fun b hb => Deep.blk_setCell_other _ _ _ _ hb
  exact { row := (World.rowIs.set h.row 2 _).congr fun j hj => av_hold y j, said := h.said.of_block (hk _ (h.said.row h.row).symm), wait := fun i hi => (h.wait i hi).of_block (hk _ ((h.wait i hi).row h.row).symm), low := h.low, five := h.five, dS := h.dS, dW := h.dW, nb := h.nb }
theorem av_one (m : Nat) (hm : m < 5) (j : Nat) : (if j = 3 then Value.int .i64 ((k.pl : Int) + 1) else if j = 10 + m then Value.int .i64 ((nx m : Int) + 1) else av k nx mS mb j) = av (one k) (up nx m (nx m + 1)) mS mb j := by
  unfold av
  by_cases e : j = 3
  · subst e
    rw [if_pos rfl]
    show _ = Value.int .i64 ((k.pl + 1 : Nat) : Int)
    congr 1
  · rw [if_neg e]
    by_cases q : j = 10 + m
    · rw [if_pos q, if_neg (by omega), if_neg (by omega), if_neg (by omega), show j - 10 = m by omega, up_same]
      congr 1
    · rw [if_neg q]
      by_cases q4 : j < 4
      · rw [if_pos q4, if_pos q4]
        by_cases e0 : j = 0
        · rw [if_pos e0, if_pos e0]; rfl
        · by_cases e1 : j = 1
          · rw [if_neg e0, if_pos e1, if_neg e0, if_pos e1]; rfl
          · rw [if_neg e0, if_neg e1, if_pos (by omega), if_neg e0, if_neg e1, if_pos (by omega)]; rfl
      · rw [if_neg q4, if_neg q4]
        by_cases e4 : j = 4
        · rw [if_pos e4, if_pos e4]
        · rw [if_neg e4, if_neg e4]
          by_cases e10 : j < 10
          · rw [if_pos e10, if_pos e10]; rfl
          · rw [if_neg e10, if_neg e10, up_other _ _ (by omega)]
/-- the first that waits gets a place -/
theorem MF.one (h : MF w base P mS mb nx S c k) (hmn : k.hold < k.n) {x : Int} {l : List Int} (hl : k.wt k.hold = x :: l) (hm : MM w' (mb k.hold) (delT (TW (x :: l) (nx k.hold)) (nx k.hold : Int)) l.length) (ht : w.mapTurned w' (mb k.hold)) : MF ((w'.setCell ⟨P, 10 + k.hold, none⟩ (.int .i64 ((nx k.hold : Int) + 1))).setCell ⟨P, 3, none⟩ (.int .i64 ((k.pl : Int) + 1))) base P mS mb (up nx k.hold (nx k.hold + 1)) S c (one k) := by
  have hk : ∀ b, b < w.heap.size → b ≠ mb k.hold → w'.heap[b]? = w.heap[b]? := fun b hb hne => g_of_turned ht hb hne
  have hs : ∀ b, b ≠ P → ((w'.setCell ⟨P, 10 + k.hold, none⟩ (.int .i64 ((nx k.hold : Int) + 1))).setCell ⟨P, 3, none⟩ (.int .i64 ((k.pl : Int) + 1))).heap[b]? = w'.heap[b]? := fun b hb => (Deep.blk_setCell_other _ _ _ _ hb).trans (Deep.blk_setCell_other _ _ _ _ hb)
  have r1 := World.rowIs.of_block h.row (hk P h.lt ((h.wait _ hmn).row h.row))
  have h5 := h.five
  refine { row := ((r1.set (10 + k.hold) _).set 3 _).congr fun j hj => av_one k.hold (by omega) j, said := h.said.of_block ((hs _ (h.said.row h.row).symm).trans (hk _ h.said.lt (h.dS _ hmn).symm)), wait := fun i hi => ?_, low := h.low, five := h5, dS := h.dS, dW := h.dW, nb := fun i => ?_ }
  · show MM _ (mb i) (TW (up k.wt k.hold (k.wt k.hold).tail i) (up nx k.hold (nx k.hold + 1) i)) (up k.wt k.hold (k.wt k.hold).tail i).length
    by_cases e : i = k.hold
    · rw [e, up_same, up_same, hl, List.tail_cons]
      exact (hm.of_block (hs _ (hm.row r1).symm)).congr (TW_del _ _ _) rfl
    · rw [up_other _ _ e, up_other _ _ e]
      exact (h.wait i hi).of_block ((hs _ ((h.wait i hi).row h.row).symm).trans (hk _ (h.wait i hi).lt (h.dW i _ hi hmn e)))
  · show up nx k.hold (nx k.hold + 1) i ≤ k.pl + 1
    by_cases e : i = k.hold
    · rw [e, up_same]
      have := h.nb k.hold
      omega
    · rw [up_other _ _ e]
      have := h.nb i
      omega
theorem kp_refl (w : World) (fp : List Nat) : KpL w w fp := ⟨Nat.le_refl _, fun _ _ _ => rfl⟩
theorem kp_trans {w1 w2 w3 : World} {fp : List Nat} (h : KpL w1 w2 fp) (h' : KpL w2 w3 fp) : KpL w1 w3 fp := ⟨Nat.le_trans h.1 h'.1, fun b hb hn => (h'.2 b (Nat.lt_of_lt_of_le hb h.1) hn).trans (h.2 b hb hn)⟩
theorem kp_turned {b : Nat} {fp : List Nat} (h : w.mapTurned w' b) (hb : b ∈ fp) : KpL w w' fp := ⟨h.grown.size, fun k hk hn => g_of_turned h hk (fun e => hn (e ▸ hb))⟩
theorem kp_set {fp : List Nat} (w : World) (i : Nat) (v : Value) (hb : P ∈ fp) : KpL w (w.setCell ⟨P, i, none⟩ v) fp := ⟨by simp [World.setCell], fun b _ hn => Deep.blk_setCell_other _ _ _ _ (fun e => hn (e ▸ hb))⟩
theorem kp_heap {w1 w2 w3 : World} {fp : List Nat} (h : KpL w1 w2 fp) (e : w3.heap = w2.heap) : KpL w1 w3 fp := ⟨by rw [e]; exact h.1, fun b hb hn => by rw [e]; exact h.2 b hb hn⟩
theorem P_fp {n : Nat} : P ∈ fpT P mS n mb := fpT_iff.2 (.inl rfl)
theorem S_fp {n : Nat} : mS ∈ fpT P mS n mb := fpT_iff.2 (.inr (.inl rfl))
theorem W_fp {n m : Nat} (h : m < n) : mb m ∈ fpT P mS n mb := fpT_iff.2 (.inr (.inr ⟨m, h, rfl⟩))
theorem drewsK {B : Nat} {a w : World} (h : Below B a w) (n : Nat) : Below B a (w.drewN n) := ⟨h.os, h.tape, h.output, h.size, h.block⟩
def TS (w : World) (base P : Nat) (k : K) (fp : List Nat) : Prop := ∃ mS mb nx, fp = fpT P mS k.n mb ∧ MF w base P mS mb nx (SD k) (cs k) k
theorem TS.of_blocks {w w' : World} {base P : Nat} {k : K} {fp : List Nat} (h : TS w base P k fp) (hs : w.heap.size ≤ w'.heap.size) (hk : ∀ b ∈ fp, w'.heap[b]? = w.heap[b]?) : TS w' base P k fp := by
  obtain ⟨mS, mb, nx, rfl, h⟩ := h
  exact ⟨mS, mb, nx, rfl, h.of_blocks hk⟩
theorem TS.fp {w : World} {base P : Nat} {k : K} {fp : List Nat} (h : TS w base P k fp) : ∀ b ∈ fp, base ≤ b ∧ b < w.heap.size := by
  obtain ⟨mS, mb, nx, rfl, h⟩ := h
  exact MF.fp h
theorem TS.lower {w : World} {base base' P : Nat} {k : K} {fp : List Nat} (h : TS w base P k fp) (hb : base' ≤ base) : TS w base' P k fp := by
  obtain ⟨mS, mb, nx, rfl, h⟩ := h
  exact ⟨mS, mb, nx, rfl, h.lower hb⟩
theorem zeroI (W : World) : (zeroValue 3).run Tryd.prog W = .ok (.int .i64 0) W := by kernel_rfl
theorem zeroE (W : World) : (zeroValue 73).run Tryd.prog W = .ok (.agg #[]) W := by kernel_rfl
theorem mm_len {T : Int → Option Value} {b c : Nat} (h : MM w b T c) (ty : TypeId) : ∀ W : World, W.heap[b]? = w.heap[b]? → (Builtin.len_ #[61] ty #[.map (some b)]).run Tryd.prog W = .ok (.int .i64 (c : Nat)) W := by
  intro W hW
  obtain ⟨D, hm, v⟩ := h
  rw [(MapV.own_heap hm hW).len Tryd.underlying61 ty, v.size]
end Go.Proofs.YtfjhjjikaodadagDoor.Tok
