/-
  The document's own picture, in memory: a block, a row of gold, rows of what is on each way, cut at their heads.
-/
import Derived.Test.YtgcdbcljneoifajDoorPicE
import Derived.Test.YtgcdbcljneoifajDoorOffR
namespace Go.Proofs.YtgcdbcljneoifajDoor.Pic
open Go.RowKit
open Go.Proofs.YtgcdbcljneoifajDoor.Fif (own_lt own_block own_form own_vw ret_bool info_int new_int int_one)
open Go.Proofs.YtgcdbcljneoifajDoor.Vec (Vw)
open Go.Proofs.YtgcdbcljneoifajDoor.Sep (KpL NewL)
open Go.Proofs.YtgcdbcljneoifajDoor.Ldr (Sl)
open Go.Proofs.YtgcdbcljneoifajDoor.Off (OR)
set_option linter.unusedVariables false

def upI (f : Nat → Value) (i : Nat) (x : Value) : Nat → Value := fun k => if k = i then x else f k
theorem upI_same (f : Nat → Value) (i : Nat) (x : Value) : upI f i x i = x := if_pos rfl
theorem upI_other (f : Nat → Value) {i k : Nat} (x : Value) (h : k ≠ i) : upI f i x k = f k := if_neg h
/-- which cell holds what -/
def pvv (vg : Value) (ov : Nat → Value) (bg : Bool) (hs : Nat → Bool) (wr : Nat → Int) (op : Nat → Nat → Bool) (ow : Int) (pt : Nat → Nat → Int) (j : Nat) : Value :=
  if j = 0 then vg else if j < 26 then ov (j - 1) else if j = 26 then .bool bg else if j < 32 then .bool (hs (j - 27)) else if j < 37 then .int .i64 (wr (j - 32)) else if j < 62 then .bool (op ((j - 37) / 5) ((j - 37) % 5)) else if j = 62 then .int .i64 ow else .int .i64 (pt ((j - 63) / 5) ((j - 63) % 5))
variable {vg : Value} {ov : Nat → Value} {bg : Bool} {hs : Nat → Bool} {wr : Nat → Int} {op : Nat → Nat → Bool} {ow : Int} {pt : Nat → Nat → Int}
theorem pv_ov {k : Nat} (hk : k < 25) (v : Value) (j : Nat) (hj : j < 88) : (if j = 1 + k then (v : Value) else pvv vg ov bg hs wr op ow pt j) = pvv vg (upI ov k v) bg hs wr op ow pt j := by
  by_cases e : j = 1 + k
  · rw [if_pos e]
    unfold pvv
    rw [if_neg (by omega), if_pos (by omega)]
    show v = upI ov k v (j - 1)
    rw [show j - 1 = k by omega, upI_same]
  · rw [if_neg e]
    unfold pvv
    by_cases q0 : j = 0
    · rw [if_pos q0, if_pos q0]
    · rw [if_neg q0, if_neg q0]
      by_cases q1 : j < 26
      · rw [if_pos q1, if_pos q1]
        show ov (j - 1) = upI ov k v (j - 1)
        rw [upI_other _ _ (by omega)]
      · rw [if_neg q1, if_neg q1]
theorem pv_bg (b : Bool) (j : Nat) (hj : j < 88) : (if j = 26 then (.bool b : Value) else pvv vg ov bg hs wr op ow pt j) = pvv vg ov b hs wr op ow pt j := by
  by_cases e : j = 26
  · rw [if_pos e]
    unfold pvv
    rw [if_neg (by omega), if_neg (by omega), if_pos (by omega)]
  · rw [if_neg e]
    unfold pvv
    by_cases q0 : j = 0
    · rw [if_pos q0, if_pos q0]
    · rw [if_neg q0, if_neg q0]
      by_cases q1 : j < 26
      · rw [if_pos q1, if_pos q1]
      · rw [if_neg q1, if_neg q1]
        by_cases q2 : j = 26
        · exact absurd q2 e
        · rw [if_neg q2, if_neg q2]
theorem pv_hs {m : Nat} (hm : m < 5) (b : Bool) (j : Nat) (hj : j < 88) : (if j = 27 + m then (.bool b : Value) else pvv vg ov bg hs wr op ow pt j) = pvv vg ov bg (up hs m b) wr op ow pt j := by
  by_cases e : j = 27 + m
  · rw [if_pos e]
    unfold pvv
    rw [if_neg (by omega), if_neg (by omega), if_neg (by omega), if_pos (by omega)]
    show Value.bool b = .bool (up hs m b (j - 27))
    rw [show j - 27 = m by omega, up_same]
  · rw [if_neg e]
    unfold pvv
    by_cases q0 : j = 0
    · rw [if_pos q0, if_pos q0]
    · rw [if_neg q0, if_neg q0]
      by_cases q1 : j < 26
      · rw [if_pos q1, if_pos q1]
      · rw [if_neg q1, if_neg q1]
        by_cases q2 : j = 26
        · rw [if_pos q2, if_pos q2]
        · rw [if_neg q2, if_neg q2]
          by_cases q3 : j < 32
          · rw [if_pos q3, if_pos q3]
            show Value.bool (hs (j - 27)) = .bool (up hs m b (j - 27))
            rw [up_other _ _ (by omega)]
          · rw [if_neg q3, if_neg q3]
theorem pv_wr {m : Nat} (hm : m < 5) (x : Int) (j : Nat) (hj : j < 88) : (if j = 32 + m then (.int .i64 x : Value) else pvv vg ov bg hs wr op ow pt j) = pvv vg ov bg hs (up wr m x) op ow pt j := by
  by_cases e : j = 32 + m
  · rw [if_pos e]
    unfold pvv
    rw [if_neg (by omega), if_neg (by omega), if_neg (by omega), if_neg (by omega), if_pos (by omega)]
    show Value.int .i64 x = .int .i64 (up wr m x (j - 32))
    rw [show j - 32 = m by omega, up_same]
  · rw [if_neg e]
    unfold pvv
    by_cases q0 : j = 0
    · rw [if_pos q0, if_pos q0]
    · rw [if_neg q0, if_neg q0]
      by_cases q1 : j < 26
      · rw [if_pos q1, if_pos q1]
      · rw [if_neg q1, if_neg q1]
        by_cases q2 : j = 26
        · rw [if_pos q2, if_pos q2]
        · rw [if_neg q2, if_neg q2]
          by_cases q3 : j < 32
          · rw [if_pos q3, if_pos q3]
          · rw [if_neg q3, if_neg q3]
            by_cases q4 : j < 37
            · rw [if_pos q4, if_pos q4]
              show Value.int .i64 (wr (j - 32)) = .int .i64 (up wr m x (j - 32))
              rw [up_other _ _ (by omega)]
            · rw [if_neg q4, if_neg q4]
theorem pv_op {a c : Nat} (ha : a < 5) (hc : c < 5) (b : Bool) (j : Nat) (hj : j < 88) : (if j = 37 + a * 5 + c then (.bool b : Value) else pvv vg ov bg hs wr op ow pt j) = pvv vg ov bg hs wr (up2 op a c b) ow pt j := by
  by_cases e : j = 37 + a * 5 + c
  · rw [if_pos e]
    unfold pvv
    rw [if_neg (by omega), if_neg (by omega), if_neg (by omega), if_neg (by omega), if_neg (by omega), if_pos (by omega)]
    show Value.bool b = .bool (up2 op a c b ((j - 37) / 5) ((j - 37) % 5))
    rw [show (j - 37) / 5 = a by omega, show (j - 37) % 5 = c by omega, up2_same]
  · rw [if_neg e]
    unfold pvv
    by_cases q0 : j = 0
    · rw [if_pos q0, if_pos q0]
    · rw [if_neg q0, if_neg q0]
      by_cases q1 : j < 26
      · rw [if_pos q1, if_pos q1]
      · rw [if_neg q1, if_neg q1]
        by_cases q2 : j = 26
        · rw [if_pos q2, if_pos q2]
        · rw [if_neg q2, if_neg q2]
          by_cases q3 : j < 32
          · rw [if_pos q3, if_pos q3]
          · rw [if_neg q3, if_neg q3]
            by_cases q4 : j < 37
            · rw [if_pos q4, if_pos q4]
            · rw [if_neg q4, if_neg q4]
              by_cases q5 : j < 62
              · rw [if_pos q5, if_pos q5]
                show Value.bool (op ((j - 37) / 5) ((j - 37) % 5)) = .bool (up2 op a c b ((j - 37) / 5) ((j - 37) % 5))
                rw [up2_other _ _ (by omega)]
              · rw [if_neg q5, if_neg q5]
theorem pv_ow (x : Int) (j : Nat) (hj : j < 88) : (if j = 62 then (.int .i64 x : Value) else pvv vg ov bg hs wr op ow pt j) = pvv vg ov bg hs wr op x pt j := by
  by_cases e : j = 62
  · rw [if_pos e]
    unfold pvv
    rw [if_neg (by omega), if_neg (by omega), if_neg (by omega), if_neg (by omega), if_neg (by omega), if_neg (by omega), if_pos (by omega)]
  · rw [if_neg e]
    unfold pvv
    by_cases q0 : j = 0
    · rw [if_pos q0, if_pos q0]
    · rw [if_neg q0, if_neg q0]
      by_cases q1 : j < 26
      · rw [if_pos q1, if_pos q1]
      · rw [if_neg q1, if_neg q1]
        by_cases q2 : j = 26
        · rw [if_pos q2, if_pos q2]
        · rw [if_neg q2, if_neg q2]
          by_cases q3 : j < 32
          · rw [if_pos q3, if_pos q3]
          · rw [if_neg q3, if_neg q3]
            by_cases q4 : j < 37
            · rw [if_pos q4, if_pos q4]
            · rw [if_neg q4, if_neg q4]
              by_cases q5 : j < 62
              · rw [if_pos q5, if_pos q5]
              · rw [if_neg q5, if_neg q5]
                by_cases q6 : j = 62
                · exact absurd q6 e
                · rw [if_neg q6, if_neg q6]
theorem pv_pt {a c : Nat} (ha : a < 5) (hc : c < 5) (x : Int) (j : Nat) (hj : j < 88) : (if j = 63 + a * 5 + c then (.int .i64 x : Value) else pvv vg ov bg hs wr op ow pt j) = pvv vg ov bg hs wr op ow (up2 pt a c x) j := by
  by_cases e : j = 63 + a * 5 + c
  · rw [if_pos e]
    unfold pvv
    rw [if_neg (by omega), if_neg (by omega), if_neg (by omega), if_neg (by omega), if_neg (by omega), if_neg (by omega), if_neg (by omega)]
    show Value.int .i64 x = .int .i64 (up2 pt a c x ((j - 63) / 5) ((j - 63) % 5))
    rw [show (j - 63) / 5 = a by omega, show (j - 63) % 5 = c by omega, up2_same]
  · rw [if_neg e]
    unfold pvv
    by_cases q0 : j = 0
    · rw [if_pos q0, if_pos q0]
    · rw [if_neg q0, if_neg q0]
      by_cases q1 : j < 26
      · rw [if_pos q1, if_pos q1]
      · rw [if_neg q1, if_neg q1]
        by_cases q2 : j = 26
        · rw [if_pos q2, if_pos q2]
        · rw [if_neg q2, if_neg q2]
          by_cases q3 : j < 32
          · rw [if_pos q3, if_pos q3]
          · rw [if_neg q3, if_neg q3]
            by_cases q4 : j < 37
            · rw [if_pos q4, if_pos q4]
            · rw [if_neg q4, if_neg q4]
              by_cases q5 : j < 62
              · rw [if_pos q5, if_pos q5]
              · rw [if_neg q5, if_neg q5]
                by_cases q6 : j = 62
                · rw [if_pos q6, if_pos q6]
                · rw [if_neg q6, if_neg q6]
                  show Value.int .i64 (pt ((j - 63) / 5) ((j - 63) % 5)) = .int .i64 (up2 pt a c x ((j - 63) / 5) ((j - 63) % 5))
                  rw [up2_other _ _ (by omega)]
/-- the document's own picture -/
structure RP (w : World) (base R : Nat) (g : G) (gb gc : Nat) (ov : Nat → Value) : Prop where
  row : w.rowIs R 38 88 (pvv (.slice (some ⟨gb, 0, none⟩) g.n gc) ov g.begun g.has g.wrote g.opn g.ow g.part)
  gold : ∃ rest : Nat → Value, w.rowIs gb 3 gc (fun j => if j < g.n then .int .i64 (g.gold j) else rest j)
  room : g.n ≤ gc ∧ gc ≤ maxLen
  ways : ∀ k, k < 25 → OR w base (ov k) (g.way (k / 5) (k % 5))
  sep : ∀ k k', k < 25 → k' < 25 → k ≠ k' → ∀ b, (ov k).ownBlock = some b → (ov k').ownBlock ≠ some b
  gsep : ∀ k, k < 25 → (ov k).ownBlock ≠ some gb
  low : base ≤ R ∧ base ≤ gb
def Pb (R gb : Nat) (ov : Nat → Value) (b : Nat) : Prop := b = R ∨ b = gb ∨ ∃ k, k < 25 ∧ (ov k).ownBlock = some b
variable {w w' : World} {base R gb gc : Nat} {g : G}
theorem RP.lt (h : RP w base R g gb gc ov) : R < w.heap.size := World.rowIs.lt h.row
theorem RP.ltg (h : RP w base R g gb gc ov) : gb < w.heap.size := by
  obtain ⟨r, z⟩ := h.gold
  exact World.rowIs.lt z
theorem RP.pb (h : RP w base R g gb gc ov) {b : Nat} (hb : Pb R gb ov b) : base ≤ b ∧ b < w.heap.size := by
  rcases hb with rfl | rfl | ⟨k, hk, e⟩
  · exact ⟨h.low.1, h.lt⟩
  · exact ⟨h.low.2, h.ltg⟩
  · exact (h.ways k hk).lt b e
theorem RP.of_blocks (h : RP w base R g gb gc ov) (hk : ∀ b, Pb R gb ov b → w'.heap[b]? = w.heap[b]?) : RP w' base R g gb gc ov := by
  obtain ⟨r, z⟩ := h.gold
  exact ⟨World.rowIs.of_block h.row (hk R (.inl rfl)), ⟨r, World.rowIs.of_block z (hk gb (.inr (.inl rfl)))⟩, h.room, fun k q => (h.ways k q).of_block fun b e => hk b (.inr (.inr ⟨k, q, e⟩)), h.sep, h.gsep, h.low⟩
theorem RP.later (h : RP w base R g gb gc ov) (hb : Below w.heap.size w w') : RP w' base R g gb gc ov := h.of_blocks fun b q => hb.block b (h.pb q).2
theorem RP.c0 (h : RP w base R g gb gc ov) : w.cell? ⟨R, 0, none⟩ = some (.slice (some ⟨gb, 0, none⟩) g.n gc) := World.rowIs.cell h.row (i := 0) (by omega)
theorem RP.cw (h : RP w base R g gb gc ov) {k : Nat} (hk : k < 25) : w.cell? ⟨R, 1 + k, none⟩ = some (ov k) := by
  rw [World.rowIs.cell h.row (i := 1 + k) (by omega)]
  unfold pvv
  rw [if_neg (by omega), if_pos (by omega), show 1 + k - 1 = k by omega]
theorem RP.cb (h : RP w base R g gb gc ov) : w.cell? ⟨R, 26, none⟩ = some (.bool g.begun) := World.rowIs.cell h.row (i := 26) (by omega)
theorem RP.ch (h : RP w base R g gb gc ov) {m : Nat} (hm : m < 5) : w.cell? ⟨R, 27 + m, none⟩ = some (.bool (g.has m)) := by
  rw [World.rowIs.cell h.row (i := 27 + m) (by omega)]
  unfold pvv
  rw [if_neg (by omega), if_neg (by omega), if_neg (by omega), if_pos (by omega), show 27 + m - 27 = m by omega]
theorem RP.cr (h : RP w base R g gb gc ov) {m : Nat} (hm : m < 5) : w.cell? ⟨R, 32 + m, none⟩ = some (.int .i64 (g.wrote m)) := by
  rw [World.rowIs.cell h.row (i := 32 + m) (by omega)]
  unfold pvv
  rw [if_neg (by omega), if_neg (by omega), if_neg (by omega), if_neg (by omega), if_pos (by omega), show 32 + m - 32 = m by omega]
theorem RP.co (h : RP w base R g gb gc ov) {a c : Nat} (ha : a < 5) (hc : c < 5) : w.cell? ⟨R, 37 + a * 5 + c, none⟩ = some (.bool (g.opn a c)) := by
  rw [World.rowIs.cell h.row (i := 37 + a * 5 + c) (by omega)]
  unfold pvv
  rw [if_neg (by omega), if_neg (by omega), if_neg (by omega), if_neg (by omega), if_neg (by omega), if_pos (by omega), show (37 + a * 5 + c - 37) / 5 = a by omega, show (37 + a * 5 + c - 37) % 5 = c by omega]
theorem RP.cow (h : RP w base R g gb gc ov) : w.cell? ⟨R, 62, none⟩ = some (.int .i64 g.ow) := World.rowIs.cell h.row (i := 62) (by omega)
theorem RP.cp (h : RP w base R g gb gc ov) {a c : Nat} (ha : a < 5) (hc : c < 5) : w.cell? ⟨R, 63 + a * 5 + c, none⟩ = some (.int .i64 (g.part a c)) := by
  rw [World.rowIs.cell h.row (i := 63 + a * 5 + c) (by omega)]
  unfold pvv
  rw [if_neg (by omega), if_neg (by omega), if_neg (by omega), if_neg (by omega), if_neg (by omega), if_neg (by omega), if_neg (by omega), show (63 + a * 5 + c - 63) / 5 = a by omega, show (63 + a * 5 + c - 63) % 5 = c by omega]
theorem RP.fr (h : RP w base R g gb gc ov) (j : Nat) : w.frozen? ⟨R, j, none⟩ = false := World.rowIs.frozen h.row j
theorem RP.cg (h : RP w base R g gb gc ov) {m : Nat} (hm : m < g.n) : w.cell? ⟨gb, m, none⟩ = some (.int .i64 (g.gold m)) := by
  obtain ⟨r, z⟩ := h.gold
  have := h.room
  rw [World.rowIs.cell z (i := m) (by omega), if_pos hm]
theorem RP.frg (h : RP w base R g gb gc ov) (j : Nat) : w.frozen? ⟨gb, j, none⟩ = false := by
  obtain ⟨r, z⟩ := h.gold
  exact World.rowIs.frozen z j
theorem RP.ne (h : RP w base R g gb gc ov) : gb ≠ R := by
  obtain ⟨r, c, hc, _⟩ := h.gold
  obtain ⟨c', hc', _⟩ := h.row
  intro e
  rw [e, hc'] at hc
  injection hc with hc
  injection hc with _ ht _
  exact absurd ht (by decide)
theorem RP.neW (h : RP w base R g gb gc ov) {k b : Nat} (hk : k < 25) (hb : (ov k).ownBlock = some b) : b ≠ R ∧ b ≠ gb := by
  refine ⟨fun e => ?_, fun e => h.gsep k hk (by rw [← e]; exact hb)⟩
  obtain ⟨c, hc⟩ := (h.ways k hk).kind hb
  obtain ⟨c', hc', _⟩ := h.row
  rw [e, hc'] at hc
  injection hc with hc
  injection hc with _ ht _
  exact absurd ht (by decide)
/-- a cell of the block is another one -/
theorem RP.onR (h : RP w base R g gb gc ov) {j : Nat} {x : Value} {g' : G} (hr : (w.setCell ⟨R, j, none⟩ x).rowIs R 38 88 (pvv (.slice (some ⟨gb, 0, none⟩) g'.n gc) ov g'.begun g'.has g'.wrote g'.opn g'.ow g'.part)) (hn : g'.n = g.n) (hg : g'.gold = g.gold) (hw : g'.way = g.way) : RP (w.setCell ⟨R, j, none⟩ x) base R g' gb gc ov := by
  have hk : ∀ b, b ≠ R → (w.setCell ⟨R, j, none⟩ x).heap[b]? = w.heap[b]? := fun b q => Deep.blk_setCell_other _ _ _ _ q
  obtain ⟨r, z⟩ := h.gold
  refine ⟨hr, ⟨r, ?_⟩, by rw [hn]; exact h.room, fun k q => ?_, h.sep, h.gsep, h.low⟩
  · rw [hn, hg]; exact World.rowIs.of_block z (hk gb h.ne)
  · rw [hw]; exact (h.ways k q).of_block fun b e => hk b (h.neW q e).1
theorem RP.setBg (h : RP w base R g gb gc ov) (b : Bool) : RP (w.setCell ⟨R, 26, none⟩ (.bool b)) base R { g with begun := b } gb gc ov := h.onR ((World.rowIs.set h.row 26 _).congr fun j hj => pv_bg b j hj) rfl rfl rfl
theorem RP.setHas (h : RP w base R g gb gc ov) {m : Nat} (hm : m < 5) (b : Bool) : RP (w.setCell ⟨R, 27 + m, none⟩ (.bool b)) base R { g with has := up g.has m b } gb gc ov := h.onR ((World.rowIs.set h.row (27 + m) _).congr fun j hj => pv_hs hm b j hj) rfl rfl rfl
theorem RP.setWr (h : RP w base R g gb gc ov) {m : Nat} (hm : m < 5) (x : Int) : RP (w.setCell ⟨R, 32 + m, none⟩ (.int .i64 x)) base R { g with wrote := up g.wrote m x } gb gc ov := h.onR ((World.rowIs.set h.row (32 + m) _).congr fun j hj => pv_wr hm x j hj) rfl rfl rfl
theorem RP.setOp (h : RP w base R g gb gc ov) {a c : Nat} (ha : a < 5) (hc : c < 5) (b : Bool) : RP (w.setCell ⟨R, 37 + a * 5 + c, none⟩ (.bool b)) base R { g with opn := up2 g.opn a c b } gb gc ov := h.onR ((World.rowIs.set h.row (37 + a * 5 + c) _).congr fun j hj => pv_op ha hc b j hj) rfl rfl rfl
theorem RP.setOw (h : RP w base R g gb gc ov) (x : Int) : RP (w.setCell ⟨R, 62, none⟩ (.int .i64 x)) base R { g with ow := x } gb gc ov := h.onR ((World.rowIs.set h.row 62 _).congr fun j hj => pv_ow x j hj) rfl rfl rfl
theorem RP.setPt (h : RP w base R g gb gc ov) {a c : Nat} (ha : a < 5) (hc : c < 5) (x : Int) : RP (w.setCell ⟨R, 63 + a * 5 + c, none⟩ (.int .i64 x)) base R { g with part := up2 g.part a c x } gb gc ov := h.onR ((World.rowIs.set h.row (63 + a * 5 + c) _).congr fun j hj => pv_pt ha hc x j hj) rfl rfl rfl
/-- one has another sum of gold -/
theorem RP.setGold (h : RP w base R g gb gc ov) {m : Nat} (hm : m < g.n) (x : Int) : RP (w.setCell ⟨gb, m, none⟩ (.int .i64 x)) base R { g with gold := up g.gold m x } gb gc ov := by
  have hk : ∀ b, b ≠ gb → (w.setCell ⟨gb, m, none⟩ (.int .i64 x)).heap[b]? = w.heap[b]? := fun b q => Deep.blk_setCell_other _ _ _ _ q
  obtain ⟨r, z⟩ := h.gold
  refine ⟨World.rowIs.of_block h.row (hk R h.ne.symm), ⟨r, (World.rowIs.set z m _).congr fun j hj => ?_⟩, h.room, fun k q => (h.ways k q).of_block fun b e => hk b (h.neW q e).2, h.sep, h.gsep, h.low⟩
  show (if j = m then Value.int .i64 x else if j < g.n then Value.int .i64 (g.gold j) else r j) = if j < g.n then Value.int .i64 (up g.gold m x j) else r j
  by_cases e : j = m
  · rw [if_pos e, e, if_pos hm, up_same]
  · rw [if_neg e, up_other _ _ e]
/-- a way is another one -/
theorem RP.setWay (h : RP w base R g gb gc ov) {a c : Nat} (ha : a < 5) (hc : c < 5) {u : Value} {l : List Int} (hk : ∀ b, b < w.heap.size → (ov (a * 5 + c)).ownBlock ≠ some b → w'.heap[b]? = w.heap[b]?) (ho : OR w' base u l) (hn : ∀ b, u.ownBlock = some b → (ov (a * 5 + c)).ownBlock = some b ∨ w.heap.size ≤ b) :
    RP (w'.setCell ⟨R, 1 + (a * 5 + c), none⟩ u) base R { g with way := up2 g.way a c l } gb gc (upI ov (a * 5 + c) u) := by
  have hq : a * 5 + c < 25 := by omega
  have kR := hk R h.lt (fun e => (h.neW hq e).1 rfl)
  have kg := hk gb h.ltg (fun e => (h.neW hq e).2 rfl)
  have r' := World.rowIs.of_block h.row kR
  have k2 : ∀ b, b ≠ R → (w'.setCell ⟨R, 1 + (a * 5 + c), none⟩ u).heap[b]? = w'.heap[b]? := fun b q => Deep.blk_setCell_other _ _ _ _ q
  have uR : ∀ b, u.ownBlock = some b → b ≠ R ∧ b ≠ gb := fun b e => by
    rcases hn b e with z | z
    · exact h.neW hq z
    · have h1 := h.lt
      have h2 := h.ltg
      exact ⟨by omega, by omega⟩
  obtain ⟨r, z⟩ := h.gold
  refine ⟨(World.rowIs.set r' (1 + (a * 5 + c)) u).congr fun j hj => pv_ov hq u j hj, ⟨r, World.rowIs.of_block (World.rowIs.of_block z kg) (k2 gb h.ne)⟩, h.room, fun k q => ?_, fun k k' q q' hne b e => ?_, fun k q => ?_, h.low⟩
  · show OR _ base (upI ov (a * 5 + c) u k) (up2 g.way a c l (k / 5) (k % 5))
    by_cases e : k = a * 5 + c
    · rw [e, upI_same, show (a * 5 + c) / 5 = a by omega, show (a * 5 + c) % 5 = c by omega, up2_same]
      exact ho.of_block fun b y => k2 b (uR b y).1
    · rw [upI_other _ _ e, up2_other _ _ (by omega)]
      refine ((h.ways k q).of_block fun b y => hk b ((h.ways k q).lt b y).2 fun y2 => h.sep k _ q hq e b y y2).of_block fun b y => k2 b (h.neW q y).1
  · by_cases e1 : k = a * 5 + c
    · rw [e1, upI_same] at e
      have e2 : k' ≠ a * 5 + c := fun y => hne (by rw [e1, y])
      rw [upI_other _ _ e2]
      intro y
      rcases hn b e with x | x
      · exact h.sep _ k' hq q' (Ne.symm e2) b x y
      · have := ((h.ways k' q').lt b y).2; omega
    · rw [upI_other _ _ e1] at e
      by_cases e2 : k' = a * 5 + c
      · rw [e2, upI_same]
        intro y
        rcases hn b y with x | x
        · exact h.sep k _ q hq e1 b e x
        · have := ((h.ways k q).lt b e).2; omega
      · rw [upI_other _ _ e2]; exact h.sep k k' q q' hne b e
  · by_cases e1 : k = a * 5 + c
    · rw [e1, upI_same]; exact fun y => (uR gb y).2 rfl
    · rw [upI_other _ _ e1]; exact h.gsep k q
end Go.Proofs.YtgcdbcljneoifajDoor.Pic
