/-
  The document's own rows in memory: a block of slices, and a block of five numbers for each.
-/
import Derived.Test.YtcmiihdbkdcfgahDoorStbO
import Derived.Deep.OwnRows
import Derived.Deep.WholeRow
namespace Go.Proofs.YtcmiihdbkdcfgahDoor.Stb
open Go.RowKit
open Go.Proofs.YtcmiihdbkdcfgahDoor.Vec (Vw)
open Go.Proofs.YtcmiihdbkdcfgahDoor.Sep (KpL NewL)
set_option linter.unusedVariables false

structure DR (w : World) (R n : Nat) (f : Nat → Nat → Int) : Prop where
  top : w.rowIs R 22 n (fun i => .slice (some ⟨R + 1 + i, 0, none⟩) 5 5)
  row : ∀ i, i < n → w.rowIs (R + 1 + i) 3 5 (fun c => .int .i64 (f i c))
variable {w w' : World} {R n : Nat} {f : Nat → Nat → Int}
theorem DR.of_blocks (h : DR w R n f) (hk : ∀ b, R ≤ b → b ≤ R + n → w'.heap[b]? = w.heap[b]?) : DR w' R n f := ⟨World.rowIs.of_block h.top (hk R (by omega) (by omega)), fun i hi => World.rowIs.of_block (h.row i hi) (hk _ (by omega) (by omega))⟩
theorem DR.congr (h : DR w R n f) {g : Nat → Nat → Int} (e : ∀ i c, i < n → c < 5 → g i c = f i c) : DR w R n g := ⟨h.top, fun i hi => (h.row i hi).congr fun c hc => by rw [e i c hi hc]⟩
theorem DR.t (h : DR w R n f) {m : Nat} (hm : m < n) : w.cell? ⟨R, m, none⟩ = some (.slice (some ⟨R + 1 + m, 0, none⟩) 5 5) := World.rowIs.cell h.top hm
theorem DR.c (h : DR w R n f) {m c : Nat} (hm : m < n) (hc : c < 5) : w.cell? ⟨R + 1 + m, c, none⟩ = some (.int .i64 (f m c)) := World.rowIs.cell (h.row m hm) hc
theorem DR.fr (h : DR w R n f) {m : Nat} (hm : m < n) (c : Nat) : w.frozen? ⟨R + 1 + m, c, none⟩ = false := World.rowIs.frozen (h.row m hm) c
theorem DR.lt (h : DR w R n f) : R < w.heap.size := World.rowIs.lt h.top
theorem DR.set (h : DR w R n f) {m c : Nat} (hm : m < n) (x : Int) : DR (w.setCell ⟨R + 1 + m, c, none⟩ (.int .i64 x)) R n (fun i j => if i = m ∧ j = c then x else f i j) := by
  refine ⟨World.rowIs.of_block h.top (Deep.blk_setCell_other _ _ _ _ (show R ≠ R + 1 + m by omega)), fun i hi => ?_⟩
  by_cases e : i = m
  · subst e
    refine (World.rowIs.set (h.row i hi) c (.int .i64 x)).congr fun j hj => ?_
    by_cases q : j = c
    · rw [if_pos q, if_pos ⟨rfl, q⟩]
    · rw [if_neg q, if_neg (fun z => q z.2)]
  · refine (World.rowIs.of_block (h.row i hi) (Deep.blk_setCell_other _ _ _ _ (show R + 1 + i ≠ R + 1 + m by omega))).congr fun j hj => ?_
    rw [if_neg (fun z => e z.1)]
/-- as far as they are made -/
structure DI (x wr : World) (n j : Nat) : Prop where
  top : wr.rowIs x.heap.size 22 n (fun i => if i < j then .slice (some ⟨x.heap.size + 1 + i, 0, none⟩) 5 5 else .slice none 0 0)
  row : ∀ i, i < j → wr.rowIs (x.heap.size + 1 + i) 3 5 (fun _ => .int .i64 0)
  size : wr.heap.size = x.heap.size + 1 + j
  low : Below x.heap.size x wr
theorem DI.made (x : World) (n : Nat) : DI x (x.alloc (.cells (madeCells #[.slice none 0 0] n) 22)) n 0 := ⟨(World.rowIs_made x (.slice none 0 0) n 22).congr fun i hi => by rw [if_neg (by omega)], fun i hi => absurd hi (by omega), by simp, (Below.refl _ _).alloc (Nat.le_refl _) _⟩
theorem DI.step {x wr : World} {n j : Nat} (h : DI x wr n j) (hj : j < n) : DI x ((wr.setCell ⟨x.heap.size, j, none⟩ (.slice (some ⟨wr.heap.size, 0, none⟩) 5 5)).alloc (.cells #[.int .i64 0, .int .i64 0, .int .i64 0, .int .i64 0, .int .i64 0] 3)) n (j + 1) := by
  have hs : (wr.setCell ⟨x.heap.size, j, none⟩ (.slice (some ⟨wr.heap.size, 0, none⟩) 5 5)).heap.size = wr.heap.size := by simp [World.setCell]
  have sz := h.size
  refine ⟨World.rowIs.of_block ((World.rowIs.set h.top j (.slice (some ⟨wr.heap.size, 0, none⟩) 5 5)).congr fun i hi => ?_) (Below.heap_alloc _ _ _ (by rw [hs]; omega)), fun i hi => ?_, by simp [hs]; omega, (h.low.setCell (p := ⟨x.heap.size, j, none⟩) (Nat.le_refl _) _).alloc (by rw [hs]; omega) _⟩
  · by_cases e : i = j
    · rw [if_pos e, if_pos (by omega), e, sz]
    · rw [if_neg e]
      by_cases q : i < j
      · rw [if_pos q, if_pos (show i < j + 1 by omega)]
      · rw [if_neg q, if_neg (show ¬ i < j + 1 by omega)]
  · by_cases e : i = j
    · have q := World.rowIs_alloc (wr.setCell ⟨x.heap.size, j, none⟩ (.slice (some ⟨wr.heap.size, 0, none⟩) 5 5)) #[.int .i64 0, .int .i64 0, .int .i64 0, .int .i64 0, .int .i64 0] 3 (fun _ => .int .i64 0) (fun i hi => by
        have hi : i < 5 := hi
        rcases i with _ | _ | _ | _ | _ | i
        all_goals first | rfl | (exfalso; omega))
      rw [hs] at q
      rw [e, ← sz]
      exact q
    · exact World.rowIs.of_block (h.row i (by omega)) (by rw [Below.heap_alloc _ _ _ (by rw [hs]; omega), Deep.blk_setCell_other _ _ _ _ (show x.heap.size + 1 + i ≠ x.heap.size by omega)])
theorem DI.done {x wr : World} {n : Nat} (h : DI x wr n n) : DR wr x.heap.size n (fun _ _ => 0) := ⟨h.top.congr fun i hi => by rw [if_pos hi], fun i hi => h.row i hi⟩
/-- what of a row is raised -/
def rs (t : T) (m : Nat) (v : List Int) (k : Nat) : Nat → Nat → Int := fun i c => if i = m ∧ c < k then max ((t.r i).getD c 0) (v.getD c 0) else (t.r i).getD c 0
theorem rs_zero (t : T) (m : Nat) (v : List Int) : rs t m v 0 = fun i c => (t.r i).getD c 0 := by
  funext i c
  exact if_neg (by omega)
theorem rs_step (t : T) (m : Nat) (v : List Int) (k : Nat) : ∀ i c, rs t m v (k + 1) i c = if i = m ∧ c = k then max ((t.r m).getD k 0) (v.getD k 0) else rs t m v k i c := by
  intro i c
  unfold rs
  by_cases e : i = m ∧ c = k
  · rw [if_pos e, if_pos (by omega), e.1, e.2]
  · rw [if_neg e]
    by_cases q : i = m ∧ c < k
    · rw [if_pos q, if_pos (by omega)]
    · rw [if_neg q, if_neg (by omega)]
theorem rs_at (t : T) (m : Nat) (v : List Int) (k : Nat) : rs t m v k m k = (t.r m).getD k 0 := if_neg (by omega)
theorem rs_done {t : T} (hi : Inv t) {m : Nat} {v : List Int} (h : toldC t (m : Int) v = 0) : ∀ i c, c < 5 → ((told t (m : Int) v).r i).getD c 0 = rs t m v 5 i c := by
  intro i c hc
  rw [told_get hi h, Int.toNat_natCast]
  unfold rs
  by_cases e : i = m
  · rw [if_pos e, if_pos ⟨e, hc⟩]
  · rw [if_neg e, if_neg (fun q => e q.1)]
/-- how both stand: the program's rows, and the document's own -/
structure PT (w wr : World) (P R n : Nat) (t : T) (fp : List Nat) (f : Nat → Nat → Int) : Prop where
  os : OS w wr P t fp
  doc : DR wr R n f
  nn : t.n = n
  ap : ∀ b ∈ fp, b < R ∨ R + n < b
  lo : w.heap.size ≤ R
  sz : R + n < wr.heap.size
variable {wr : World} {P : Nat} {t : T} {fp : List Nat}
theorem PT.later (h : PT w wr P R n t fp f) (hb : Below wr.heap.size wr w') : PT w w' P R n t fp f := ⟨h.os.later hb, h.doc.of_blocks fun b _ h2 => hb.block b (Nat.lt_of_le_of_lt h2 h.sz), h.nn, h.ap, h.lo, Nat.lt_of_lt_of_le h.sz hb.size⟩
theorem PT.heap (h : PT w wr P R n t fp f) (e : w'.heap = wr.heap) (e1 : w'.os = wr.os) (e2 : w'.tape = wr.tape) (e3 : w'.output = wr.output) : PT w w' P R n t fp f := h.later ⟨e1, e2, e3, by rw [e]; exact Nat.le_refl _, fun b _ => by rw [e]⟩
theorem PT.doc' (h : PT w wr P R n t fp f) {g : Nat → Nat → Int} (e : ∀ i c, i < n → c < 5 → g i c = f i c) : PT w wr P R n t fp g := ⟨h.os, h.doc.congr e, h.nn, h.ap, h.lo, h.sz⟩
theorem PT.set (h : PT w wr P R n t fp f) {m c : Nat} (hm : m < n) (x : Int) : PT w (wr.setCell ⟨R + 1 + m, c, none⟩ (.int .i64 x)) P R n t fp (fun i j => if i = m ∧ j = c then x else f i j) := by
  refine ⟨⟨h.os.bs.of_blocks (by simp [World.setCell]) fun b hb => Deep.blk_setCell_other _ _ _ _ ?_, h.os.inv, h.os.bel.setCell (p := ⟨R + 1 + m, c, none⟩) (by show w.heap.size ≤ R + 1 + m; have := h.lo; omega) _⟩, h.doc.set hm x, h.nn, h.ap, h.lo, by have := h.sz; simpa [World.setCell] using this⟩
  have := h.ap b hb
  show b ≠ R + 1 + m
  omega
/-- the program has turned -/
theorem PT.prog (h : PT w wr P R n t fp f) {t' : T} {fp' : List Nat} (hA : BS w' w.heap.size P t' fp') (hi : Inv t') (hn : t'.n = n) (hb : Below w.heap.size wr w') (hk : KpL wr w' fp) (hnew : NewL wr fp fp') : PT w w' P R n t' fp' f := by
  refine ⟨⟨hA, hi, h.os.bel.trans hb⟩, h.doc.of_blocks fun b h1 h2 => hk.2 b (by have := h.sz; omega) fun q => ?_, hn, fun b hb' => ?_, h.lo, Nat.lt_of_lt_of_le h.sz hb.size⟩
  · have := h.ap b q
    omega
  · rcases hnew b hb' with q | q
    · exact h.ap b q
    · have := h.sz
      omega
theorem PT.aside (h : PT w wr P R n t fp f) {L c : Nat} {v : Value} (h1 : L ∉ fp) (h2 : R + n < L) : PT w (wr.setCell ⟨L, c, none⟩ v) P R n t fp f := by
  refine ⟨⟨h.os.bs.of_blocks (by simp [World.setCell]) fun b hb => Deep.blk_setCell_other _ _ _ _ (fun e => h1 (by have e' : b = L := e; rw [← e']; exact hb)), h.os.inv, h.os.bel.setCell (p := ⟨L, c, none⟩) (by show w.heap.size ≤ L; have := h.lo; omega) _⟩, h.doc.of_blocks fun b _ h3 => Deep.blk_setCell_other _ _ _ _ (show b ≠ L by omega), h.nn, h.ap, h.lo, by have := h.sz; simpa [World.setCell] using this⟩
/-- the document's own row, as a list that is seen -/
theorem PT.row (h : PT w wr P R n t fp fun i c => (t.r i).getD c 0) {m : Nat} (hm : m < n) : Vw wr (some ⟨R + 1 + m, 0, none⟩) 5 (t.r m) := ⟨h.os.inv.len m, fun _ => ⟨R + 1 + m, 0, rfl, by have := h.sz; omega, fun k hk => by rw [Nat.zero_add]; exact h.doc.c hm hk⟩⟩
theorem mn_step (t : T) (k j : Nat) : mn t k (j + 1) = if (t.r (j + 1)).getD k 0 < mn t k j then (t.r (j + 1)).getD k 0 else mn t k j := by
  show min _ _ = _
  split <;> omega
structure LS5 (w : World) (L : Nat) (g : Nat → Int) : Prop where
  row : w.rowIs L 3 5 (fun c => .int .i64 (g c))
theorem LS5.set {L : Nat} {g : Nat → Int} (h : LS5 w L g) (c : Nat) (x : Int) : LS5 (w.setCell ⟨L, c, none⟩ (.int .i64 x)) L (fun i => if i = c then x else g i) := ⟨(World.rowIs.set h.row c (.int .i64 x)).congr fun i hi => by
  by_cases e : i = c
  · rw [if_pos e, if_pos e]
  · rw [if_neg e, if_neg e]⟩
theorem LS5.vw {L : Nat} {g : Nat → Int} (h : LS5 w L g) {l : List Int} (hl : l.length = 5) (e : ∀ c, c < 5 → g c = l.getD c 0) : Vw w (some ⟨L, 0, none⟩) 5 l := ⟨hl, fun _ => ⟨L, 0, rfl, World.rowIs.lt h.row, fun k hk => by rw [Nat.zero_add, World.rowIs.cell h.row hk, e k hk]⟩⟩
theorem LS5.c {L : Nat} {g : Nat → Int} (h : LS5 w L g) {k : Nat} (hk : k < 5) : w.cell? ⟨L, k, none⟩ = some (.int .i64 (g k)) := World.rowIs.cell h.row hk
theorem LS5.made (w : World) : LS5 (w.alloc (.cells #[.int .i64 0, .int .i64 0, .int .i64 0, .int .i64 0, .int .i64 0] 3)) w.heap.size (fun _ => 0) := ⟨World.rowIs_alloc w #[.int .i64 0, .int .i64 0, .int .i64 0, .int .i64 0, .int .i64 0] 3 (fun _ => .int .i64 0) (fun i hi => by
  have hi : i < 5 := hi
  rcases i with _ | _ | _ | _ | _ | i
  all_goals first | rfl | (exfalso; omega))⟩
/-- the document's own least beside both: some places are found -/
structure QL (w wz : World) (P R n : Nat) (t : T) (fp : List Nat) (L k : Nat) (g : Nat → Int) : Prop where
  pt : PT w wz P R n t fp (fun i c => (t.r i).getD c 0)
  ls : LS5 wz L g
  done : ∀ c, c < k → g c = Stb.ls t c
theorem QL.set {L k : Nat} {g : Nat → Int} (h : QL w wr P R n t fp L k g) (h1 : L ∉ fp) (h2 : R + n < L) (x : Int) : QL w (wr.setCell ⟨L, k, none⟩ (.int .i64 x)) P R n t fp L k (fun i => if i = k then x else g i) := ⟨h.pt.aside h1 h2, h.ls.set k x, fun c hc => by
  show (if c = k then x else g c) = _
  rw [if_neg (by omega)]
  exact h.done c hc⟩
theorem QL.next {L k : Nat} {g : Nat → Int} (h : QL w wr P R n t fp L k g) (e : g k = mn t k (n - 1)) : QL w wr P R n t fp L (k + 1) g := ⟨h.pt, h.ls, fun c hc => by
  by_cases q : c = k
  · rw [q, e, ← h.pt.nn]
    rfl
  · exact h.done c (by omega)⟩
theorem QL.heap {L k : Nat} {g : Nat → Int} (h : QL w wr P R n t fp L k g) (e : w'.heap = wr.heap) (e1 : w'.os = wr.os) (e2 : w'.tape = wr.tape) (e3 : w'.output = wr.output) : QL w w' P R n t fp L k g := ⟨h.pt.heap e e1 e2 e3, ⟨World.rowIs.of_block h.ls.row (by rw [e])⟩, h.done⟩
theorem QL.vw {L : Nat} {g : Nat → Int} (h : QL w wr P R n t fp L 5 g) : Vw wr (some ⟨L, 0, none⟩) 5 (least t) := h.ls.vw rfl fun c hc => by rw [h.done c hc, least_get t hc]
theorem may_is {t : T} {m : Nat} {many : Int} (h : mayC t (m : Int) many = 0) : may t (m : Int) many = decide (many ≤ ls t m) := by
  unfold may
  rw [h, Int.toNat_natCast]
  simp
theorem may_not {t : T} {x many : Int} (h : mayC t x many ≠ 0) : may t x many = false ∧ mayC t x many = 1 := by
  have e : mayC t x many = 1 := by
    unfold mayC at h ⊢
    split
    · rfl
    · rename_i q
      rw [if_neg q] at h
      exact absurd rfl h
  refine ⟨?_, e⟩
  unfold may
  rw [e]
  simp
end Go.Proofs.YtcmiihdbkdcfgahDoor.Stb
