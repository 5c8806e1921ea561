/-
  The landed log in memory: three bytes a record, behind them the one byte of a record that is not whole.
-/
import Derived.Test.YtpjoaogiaacikakGreatDoorLgsE
import Derived.Deep.QuietTactic
import Derived.BigQuiet
import Derived.Deep.RegionHeld3
import Derived.Deep.AppendLies
import Derived.WalkLawsBesides
import Derived.Handy
import Derived.Deep.Cut
namespace Go.Proofs.YtpjoaogiaacikakGreatDoor.Lgs
open Go.RowKit
open Go.Proofs.YtpjoaogiaacikakGreatDoor.His (Ev ev errV errV_ok errV_no Eo flat flat_len flat_append flat_get next chkC chk_zero isOne says)
open Go.Proofs.YtpjoaogiaacikakGreatDoor.Sep (KpL NewL)
open Go.Proofs.YtpjoaogiaacikakGreatDoor.Fif (own_lt own_block own_mono own_form)
set_option linter.unusedVariables false

/-- the bytes of an event -/
def bts (e : Ev) : List Int := [e.1, e.2.1, e.2.2]
/-- the bytes of a history -/
def rcs (h : List Ev) : List Int := h.flatMap bts
theorem rcs_len (h : List Ev) : (rcs h).length = h.length * 3 := by
  induction h with
  | nil => rfl
  | cons e h ih =>
    have : rcs (e :: h) = bts e ++ rcs h := rfl
    rw [this, List.length_append, ih, List.length_cons]
    simp [bts]
    omega
theorem rcs_append (a b : List Ev) : rcs (a ++ b) = rcs a ++ rcs b := by simp [rcs]
theorem rcs_one (e : Ev) : rcs [e] = bts e := by simp [rcs]
theorem rcs_cons (e : Ev) (h : List Ev) : rcs (e :: h) = e.1 :: e.2.1 :: e.2.2 :: rcs h := rfl
theorem rcs_get (h : List Ev) : ∀ k, k < h.length → (rcs h).getD (k * 3) 0 = (ev h k).1 ∧ (rcs h).getD (k * 3 + 1) 0 = (ev h k).2.1 ∧ (rcs h).getD (k * 3 + 2) 0 = (ev h k).2.2 := by
  induction h with
  | nil => intro k hk; simp at hk
  | cons e h ih =>
    intro k hk
    rw [rcs_cons]
    cases k with
    | zero => exact ⟨rfl, rfl, rfl⟩
    | succ k =>
      have := ih k (by simpa using hk)
      have e0 : ev (e :: h) (k + 1) = ev h k := rfl
      rw [e0, show (k + 1) * 3 = k * 3 + 3 by omega]
      exact this
theorem rcs_take (h : List Ev) (i : Nat) : rcs (h.take i) = (rcs h).take (i * 3) := by
  induction h generalizing i with
  | nil => simp [rcs]
  | cons e h ih =>
    cases i with
    | zero => simp [rcs]
    | succ i =>
      rw [List.take_succ_cons, rcs_cons, rcs_cons, ih, show (i + 1) * 3 = i * 3 + 1 + 1 + 1 by omega]
      simp
theorem rep_sum (n : Nat) : (List.replicate n 3).sum = n * 3 := by simp
theorem rep_take (n k : Nat) : (List.replicate n 3).take k = List.replicate (min k n) 3 := by simp
theorem rep_whole : ∀ (n h : Nat), whole (List.replicate n 3) h = min n (h / 3)
  | 0, h => by simp [whole]
  | n + 1, h => by
    rw [List.replicate_succ]
    unfold whole
    split
    · rw [rep_whole n (h - 3)]
      omega
    · omega
theorem one_small {e : Ev} (h : isOne e = true) : (0 ≤ e.1 ∧ e.1 < 256) ∧ (0 ≤ e.2.1 ∧ e.2.1 < 256) ∧ (0 ≤ e.2.2 ∧ e.2.2 < 256) := by
  simp only [isOne, Bool.and_eq_true, Bool.or_eq_true, decide_eq_true_eq] at h
  omega
theorem ev_small {h : List Ev} (hc : chkC h = 0) {k : Nat} (hk : k < h.length) : (0 ≤ (ev h k).1 ∧ (ev h k).1 < 256) ∧ (0 ≤ (ev h k).2.1 ∧ (ev h k).2.1 < 256) ∧ (0 ≤ (ev h k).2.2 ∧ (ev h k).2.2 < 256) := by
  have g := (chk_zero hc).2 k hk
  have : isOne (ev h k) = true := by
    unfold next at g
    cases q : isOne (ev h k)
    · rw [q] at g; simp at g
    · rfl
  exact one_small this
theorem last_small {h : List Ev} {e : Ev} (hc : chkC (h ++ [e]) = 0) : (0 ≤ e.1 ∧ e.1 < 256) ∧ (0 ≤ e.2.1 ∧ e.2.1 < 256) ∧ (0 ≤ e.2.2 ∧ e.2.2 < 256) := by
  have := ev_small hc (k := h.length) (by simp)
  have e1 : ev (h ++ [e]) h.length = e := by simp [ev, List.getD]
  rwa [e1] at this
/-- a row of bytes that the call owns -/
def Ro (w : World) (base : Nat) (v : Value) (bs : List Int) : Prop := w.ownsRow base 5 1 v bs.length (bs.map (Value.int .u8))
theorem Ro.form {w : World} {base : Nat} {v : Value} {bs : List Int} (h : Ro w base v bs) : ∃ q c, v = .slice q bs.length c ∧ bs.length ≤ c ∧ c ≤ maxLen ∧ (0 < bs.length → ∃ g, q = some ⟨g, 0, none⟩ ∧ base ≤ g ∧ g < w.heap.size ∧ ∀ i, i < bs.length → w.cell? ⟨g, i, none⟩ = some (.int .u8 (bs.getD i 0))) := by
  rcases h.2 with ⟨h2, h3⟩ | ⟨g, cap, cur, hv, hb, hh, hc, hm, hsz, ht⟩
  · exact ⟨none, 0, by rw [h3]; exact h2, by omega, by unfold maxLen; omega, fun q => by omega⟩
  · refine ⟨_, cap, hv, hc, hm, fun _ => ⟨g, rfl, hb, ?_, fun i hi => ?_⟩⟩
    · rcases Nat.lt_or_ge g w.heap.size with hlt | hge
      · exact hlt
      · rw [Array.getElem?_eq_none hge] at hh; cases hh
    · have e : (bs.map (Value.int .u8))[i]? = some (.int .u8 (bs.getD i 0)) := by
        rw [List.getElem?_map, List.getElem?_eq_getElem hi, List.getD, List.getElem?_eq_getElem hi]
        rfl
      rw [← ht, Nat.mul_one, List.getElem?_take_of_lt hi] at e
      simp only [World.cell?, hh]
      simpa using e
/-- its beginning -/
theorem row_take {w : World} {base : Nat} {q : Option Addr} {n c : Nat} {bs : List Int} (h : Ro w base (.slice q n c) bs) {k : Nat} (hk : k ≤ n) : Ro w base (.slice q k c) (bs.take k) := by
  have hn : n = bs.length := by
    obtain ⟨q', c', e, _⟩ := h.form
    cases e
    rfl
  have hl : (bs.take k).length = k := by rw [List.length_take]; omega
  refine ⟨by rw [hl]; simp; omega, ?_⟩
  rw [hl]
  rcases h.2 with ⟨h2, h3⟩ | ⟨g, cap, cur, hv, hb, hh, hc, hm, hsz, ht⟩
  · cases h2
    left
    have : k = 0 := by omega
    subst this
    exact ⟨rfl, rfl⟩
  · cases hv
    refine .inr ⟨g, c, cur, rfl, hb, hh, by omega, hm, hsz, ?_⟩
    rw [Nat.mul_one] at ht ⊢
    rw [List.map_take, ← ht, List.take_take, Nat.min_eq_left (by omega)]
theorem info_u8 : (Tryz.prog.info? 5).map (fun i => (i.zero, i.size, i.bytes)) = some (some (.int .u8 0), 1, 1) := by kernel_rfl
theorem info_byte : ∃ i, Tryz.prog.info? 5 = some i ∧ i.zero = some (.int .u8 0) ∧ i.size = 1 ∧ i.bytes = 1 := by
  obtain ⟨i, hi, hzz⟩ := Option.map_eq_some_iff.1 info_u8
  simp only [Prod.mk.injEq] at hzz
  exact ⟨i, hi, hzz.1, hzz.2.1, hzz.2.2⟩
theorem byte_one (l : List Int) : ∀ u ∈ l.map (Value.int .u8), u.oneCell' = true := by
  intro u hu
  obtain ⟨n, _, rfl⟩ := List.mem_map.1 hu
  rfl
/-- the bytes of a row that was written out -/
theorem new_bytes (w : World) (B : Nat) (hB : B = w.heap.size) (l : List Int) (t : TypeId) : ∀ j u, (l.map (Value.int .u8))[j]? = some u → (w.alloc (.cells (l.map (Value.int .u8)).toArray t)).cell? ((⟨B, 0, none⟩ : Addr).add j) = some u := by
  subst hB
  intro j u hj
  rw [Addr.add_lit, Nat.zero_add]
  simpa using hj
/-- the cells of a log -/
def cv (v : Value) (safe : Nat) (lf : Int) (st : Bool) (j : Nat) : Value := if j = 0 then v else if j = 1 then .int .i64 (safe : Int) else if j = 2 then .int .i64 lf else .bool st
/-- a log in memory -/
structure LF (w : World) (base P : Nat) (v : Value) (lf : Int) (hb : List Int) (l : L) : Prop where
  row : w.rowIs P 81 4 (cv v l.safe lf l.stop)
  low : base ≤ P
  ro : Ro w base v (rcs l.es ++ hb)
  half : hb.length = l.half
  one : l.half ≤ 1
  rs : l.rs = List.replicate l.es.length 3
  whole : l.safe % 3 = 0
  left : lf = l.left ∨ (lf < 0 ∧ l.left = -1)
  most : lf ≤ 9223372036854775807
/-- its blocks -/
def fpL (P : Nat) (v : Value) : List Nat := P :: v.ownBlock.toList
def LG (w : World) (base P : Nat) (l : L) (fp : List Nat) : Prop := ∃ v lf hb, fp = fpL P v ∧ LF w base P v lf hb l
theorem mem_fpL {P : Nat} {v : Value} {b : Nat} : b ∈ fpL P v ↔ b = P ∨ v.ownBlock = some b := by
  unfold fpL
  rw [List.mem_cons, Option.mem_toList]
variable {w w' : World} {base P : Nat} {v : Value} {lf : Int} {hb : List Int} {l : L}
theorem LF.lt (h : LF w base P v lf hb l) : P < w.heap.size := World.rowIs.lt h.row
theorem LF.c0 (h : LF w base P v lf hb l) : w.cell? ⟨P, 0, none⟩ = some v ∧ w.frozen? ⟨P, 0, none⟩ = false := ⟨World.rowIs.cell h.row (i := 0) (by omega), World.rowIs.frozen h.row 0⟩
theorem LF.c1 (h : LF w base P v lf hb l) : w.cell? ⟨P, 1, none⟩ = some (.int .i64 (l.safe : Int)) ∧ w.frozen? ⟨P, 1, none⟩ = false := ⟨World.rowIs.cell h.row (i := 1) (by omega), World.rowIs.frozen h.row 1⟩
theorem LF.c2 (h : LF w base P v lf hb l) : w.cell? ⟨P, 2, none⟩ = some (.int .i64 lf) ∧ w.frozen? ⟨P, 2, none⟩ = false := ⟨World.rowIs.cell h.row (i := 2) (by omega), World.rowIs.frozen h.row 2⟩
theorem LF.c3 (h : LF w base P v lf hb l) : w.cell? ⟨P, 3, none⟩ = some (.bool l.stop) ∧ w.frozen? ⟨P, 3, none⟩ = false := ⟨World.rowIs.cell h.row (i := 3) (by omega), World.rowIs.frozen h.row 3⟩
theorem LF.ne (h : LF w base P v lf hb l) : v.ownBlock ≠ some P := by
  intro e
  rcases h.ro.2 with ⟨h2, _⟩ | ⟨g', cap', cur, hv, hbg, hh, _⟩
  · rw [h2] at e; cases e
  · rw [hv] at e
    have : g' = P := by simpa [Value.ownBlock] using e
    subst this
    obtain ⟨c, hc, _⟩ := h.row
    rw [hc] at hh
    injection hh with hh
    injection hh with _ hh _
    exact absurd hh (by decide)
theorem LF.fp (h : LF w base P v lf hb l) : ∀ b ∈ fpL P v, base ≤ b ∧ b < w.heap.size := by
  intro b q
  rcases mem_fpL.1 q with rfl | q
  · exact ⟨h.low, h.lt⟩
  · exact own_lt h.ro b q
theorem LF.of_blocks (h : LF w base P v lf hb l) (hk : ∀ b ∈ fpL P v, w'.heap[b]? = w.heap[b]?) : LF w' base P v lf hb l :=
  ⟨World.rowIs.of_block h.row (hk P (mem_fpL.2 (.inl rfl))), h.low, own_block h.ro fun k q => hk k (mem_fpL.2 (.inr q)), h.half, h.one, h.rs, h.whole, h.left, h.most⟩
theorem LF.later (h : LF w base P v lf hb l) (hb' : Below w.heap.size w w') : LF w' base P v lf hb l := h.of_blocks fun b q => hb'.block b (h.fp b q).2
theorem LF.sumR (h : LF w base P v lf hb l) : l.rs.sum = l.es.length * 3 := by rw [h.rs, rep_sum]
theorem LF.lenN (h : LF w base P v lf hb l) : (rcs l.es ++ hb).length = l.es.length * 3 + l.half := by rw [List.length_append, rcs_len, h.half]
theorem LF.bytes (h : LF w base P v lf hb l) : Lgs.bytes l = l.es.length * 3 + l.half := by unfold Lgs.bytes; rw [h.sumR]
theorem LG.of_blocks {fp : List Nat} (h : LG w base P l fp) (hs : w.heap.size ≤ w'.heap.size) (hk : ∀ b ∈ fp, w'.heap[b]? = w.heap[b]?) : LG w' base P l fp := by
  obtain ⟨v, lf, hb, rfl, g⟩ := h
  exact ⟨v, lf, hb, rfl, g.of_blocks hk⟩
theorem LG.fp {fp : List Nat} (h : LG w base P l fp) : ∀ b ∈ fp, base ≤ b ∧ b < w.heap.size := by
  obtain ⟨v, lf, hb, rfl, g⟩ := h
  exact g.fp
/-- what a call leaves behind -/
structure Re (w w' : World) (base P : Nat) (l : L) (v v' : Value) (l' : L) : Prop where
  lg : ∃ lf hb, LF w' base P v' lf hb l'
  bel : Below base w w'
  kp : KpL w w' (fpL P v)
  nw : NewL w (fpL P v) (fpL P v')
theorem Re.still (h : LF w base P v lf hb l) (hbw : base ≤ w.heap.size) (hb' : Below w.heap.size w w') : Re w w' base P l v v l :=
  ⟨⟨lf, hb, h.later hb'⟩, hb'.mono hbw, KpL.below hb' _, NewL.refl _ _⟩
end Go.Proofs.YtpjoaogiaacikakGreatDoor.Lgs
