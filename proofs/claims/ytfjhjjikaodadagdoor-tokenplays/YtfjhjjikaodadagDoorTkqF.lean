/-
  The document's own token in memory: a block of forty cells, and a row of what waits a member.
-/
import Derived.Test.YtfjhjjikaodadagDoorTokE
import Derived.Test.YtfjhjjikaodadagDoorOffR
namespace Go.Proofs.YtfjhjjikaodadagDoor.Tok
open Go.RowKit
open Go.Proofs.YtfjhjjikaodadagDoor.Off (OR)
open Go.Proofs.YtfjhjjikaodadagDoor.Sep (KpL NewL)
set_option linter.unusedVariables false

def tv (k : K) (v : Nat → Value) (i : Nat) : Value :=
  if i = 0 then .int .i64 (k.n : Int) else if i = 1 then .int .i64 (k.most : Int) else if i = 2 then .int .i64 (k.hold : Int) else if i = 3 then .int .i64 (k.pl : Int) else if i < 9 then v (i - 4) else .bool (k.said ((i - 9 : Nat) : Int))
structure RT (w : World) (base Q : Nat) (k : K) (v : Nat → Value) : Prop where
  row : w.rowIs Q 53 40 (tv k v)
  wt : ∀ m, m < 5 → OR w base (v m) (k.wt m)
  low : base ≤ Q
  dj : ∀ i j, i < 5 → j < 5 → i ≠ j → ∀ b, (v i).ownBlock = some b → (v j).ownBlock ≠ some b
def rfp (Q : Nat) (v : Nat → Value) : List Nat := Q :: (List.range 5).filterMap fun i => (v i).ownBlock
theorem mem_rfp {Q : Nat} {v : Nat → Value} {b : Nat} : b ∈ rfp Q v ↔ b = Q ∨ ∃ i, i < 5 ∧ (v i).ownBlock = some b := by simp [rfp]
variable {w w' : World} {base Q : Nat} {k : K} {v : Nat → Value}
theorem RT.lt (h : RT w base Q k v) : Q < w.heap.size := World.rowIs.lt h.row
theorem RT.ne (h : RT w base Q k v) {m b : Nat} (hm : m < 5) (hb : (v m).ownBlock = some b) : b ≠ Q := by
  obtain ⟨cur, hc⟩ := (h.wt m hm).kind hb
  obtain ⟨c, hq, _⟩ := h.row
  intro e
  rw [e, hq] at hc
  injection hc with hc
  injection hc with _ q _
  exact absurd q (by decide)
theorem RT.fp (h : RT w base Q k v) : ∀ b ∈ rfp Q v, base ≤ b ∧ b < w.heap.size := by
  intro b hb
  rcases mem_rfp.1 hb with rfl | ⟨i, hi, q⟩
  · exact ⟨h.low, h.lt⟩
  · exact (h.wt i hi).lt b q
theorem RT.of_blocks (h : RT w base Q k v) (hk : ∀ b ∈ rfp Q v, w'.heap[b]? = w.heap[b]?) : RT w' base Q k v :=
  ⟨World.rowIs.of_block h.row (hk Q (mem_rfp.2 (.inl rfl))), fun m hm => (h.wt m hm).of_block fun b q => hk b (mem_rfp.2 (.inr ⟨m, hm, q⟩)), h.low, h.dj⟩
theorem RT.later (h : RT w base Q k v) (hb : Below w.heap.size w w') : RT w' base Q k v := h.of_blocks fun b q => hb.block b (h.fp b q).2
theorem RT.c0 (h : RT w base Q k v) : w.cell? ⟨Q, 0, none⟩ = some (.int .i64 (k.n : Int)) := World.rowIs.cell h.row (i := 0) (by omega)
theorem RT.c1 (h : RT w base Q k v) : w.cell? ⟨Q, 1, none⟩ = some (.int .i64 (k.most : Int)) := World.rowIs.cell h.row (i := 1) (by omega)
theorem RT.c2 (h : RT w base Q k v) : w.cell? ⟨Q, 2, none⟩ = some (.int .i64 (k.hold : Int)) := World.rowIs.cell h.row (i := 2) (by omega)
theorem RT.c3 (h : RT w base Q k v) : w.cell? ⟨Q, 3, none⟩ = some (.int .i64 (k.pl : Int)) := World.rowIs.cell h.row (i := 3) (by omega)
theorem RT.cw (h : RT w base Q k v) {m : Nat} (hm : m < 5) : w.cell? ⟨Q, 4 + m, none⟩ = some (v m) := by
  rw [World.rowIs.cell h.row (i := 4 + m) (by omega)]
  unfold tv
  rw [if_neg (by omega), if_neg (by omega), if_neg (by omega), if_neg (by omega), if_pos (by omega), show 4 + m - 4 = m by omega]
theorem RT.cs (h : RT w base Q k v) {x : Nat} (hx : x ≤ 30) : w.cell? ⟨Q, 9 + x, none⟩ = some (.bool (k.said (x : Int))) := by
  rw [World.rowIs.cell h.row (i := 9 + x) (by omega)]
  unfold tv
  rw [if_neg (by omega), if_neg (by omega), if_neg (by omega), if_neg (by omega), if_neg (by omega), show 9 + x - 9 = x by omega]
theorem RT.fr (h : RT w base Q k v) (i : Nat) : w.frozen? ⟨Q, i, none⟩ = false := World.rowIs.frozen h.row i
/-- cells of the block are stored -/
theorem RT.turn (h : RT w base Q k v) {k' : K} (hr : w'.rowIs Q 53 40 (tv k' v)) (hk : ∀ b, b ≠ Q → w'.heap[b]? = w.heap[b]?) (hw : k'.wt = k.wt) : RT w' base Q k' v :=
  ⟨hr, fun m hm => by rw [hw]; exact (h.wt m hm).of_block fun b q => hk b (h.ne hm q), h.low, h.dj⟩
theorem RT.setHold (h : RT w base Q k v) (y : Nat) : RT (w.setCell ⟨Q, 2, none⟩ (.int .i64 (y : Int))) base Q { k with hold := y } v := by
  refine h.turn ((World.rowIs.set h.row 2 _).congr fun i hi => ?_) (fun b hb => Deep.blk_setCell_other _ _ _ _ hb) rfl
  by_cases e : i = 2
  · subst e; rfl
  · rw [if_neg e]
    unfold tv
    by_cases e0 : i = 0
    · rw [if_pos e0, if_pos e0]
    · by_cases e1 : i = 1
      · rw [if_neg e0, if_neg e0, if_pos e1, if_pos e1]
      · rw [if_neg e0, if_neg e0, if_neg e1, if_neg e1, if_neg e, if_neg e]
theorem RT.setPl (h : RT w base Q k v) (y : Nat) : RT (w.setCell ⟨Q, 3, none⟩ (.int .i64 (y : Int))) base Q { k with pl := y } v := by
  refine h.turn ((World.rowIs.set h.row 3 _).congr fun i hi => ?_) (fun b hb => Deep.blk_setCell_other _ _ _ _ hb) rfl
  by_cases e : i = 3
  · subst e; rfl
  · rw [if_neg e]
    unfold tv
    by_cases e0 : i = 0
    · rw [if_pos e0, if_pos e0]
    · by_cases e1 : i = 1
      · rw [if_neg e0, if_neg e0, if_pos e1, if_pos e1]
      · by_cases e2 : i = 2
        · rw [if_neg e0, if_neg e0, if_neg e1, if_neg e1, if_pos e2, if_pos e2]
        · rw [if_neg e0, if_neg e0, if_neg e1, if_neg e1, if_neg e2, if_neg e2, if_neg e, if_neg e]
theorem RT.setSaid (h : RT w base Q k v) {x : Nat} (hx : x ≤ 30) : RT (w.setCell ⟨Q, 9 + x, none⟩ (.bool true)) base Q { k with said := fun y => if y = (x : Int) then true else k.said y } v := by
  refine h.turn ((World.rowIs.set h.row (9 + x) _).congr fun i hi => ?_) (fun b hb => Deep.blk_setCell_other _ _ _ _ hb) rfl
  unfold tv
  by_cases e : i = 9 + x
  · rw [if_pos e, if_neg (by omega), if_neg (by omega), if_neg (by omega), if_neg (by omega), if_neg (by omega)]
    show _ = Value.bool (if ((i - 9 : Nat) : Int) = (x : Int) then true else _)
    rw [if_pos (by omega)]
  · rw [if_neg e]
    by_cases e9 : i < 9
    · by_cases e0 : i = 0
      · rw [if_pos e0, if_pos e0]
      · by_cases e1 : i = 1
        · rw [if_neg e0, if_neg e0, if_pos e1, if_pos e1]
        · by_cases e2 : i = 2
          · rw [if_neg e0, if_neg e0, if_neg e1, if_neg e1, if_pos e2, if_pos e2]
          · by_cases e3 : i = 3
            · rw [if_neg e0, if_neg e0, if_neg e1, if_neg e1, if_neg e2, if_neg e2, if_pos e3, if_pos e3]
            · rw [if_neg e0, if_neg e0, if_neg e1, if_neg e1, if_neg e2, if_neg e2, if_neg e3, if_neg e3, if_pos e9, if_pos e9]
    · rw [if_neg (by omega), if_neg (by omega), if_neg (by omega), if_neg (by omega), if_neg e9, if_neg (by omega), if_neg (by omega), if_neg (by omega), if_neg (by omega), if_neg e9]
      show _ = Value.bool (if ((i - 9 : Nat) : Int) = (x : Int) then true else _)
      rw [if_neg (by omega)]
/-- a row of what waits is another one -/
theorem RT.setWt (h : RT w base Q k v) {m : Nat} (hm : m < 5) {u : Value} {l : List Int} (hk : ∀ b, b < w.heap.size → (v m).ownBlock ≠ some b → w'.heap[b]? = w.heap[b]?) (ho : OR w' base u l) (hn : ∀ b, u.ownBlock = some b → (v m).ownBlock = some b ∨ w.heap.size ≤ b) : RT (w'.setCell ⟨Q, 4 + m, none⟩ u) base Q { k with wt := up k.wt m l } (up v m u) := by
  have hQ : (v m).ownBlock ≠ some Q := fun q => h.ne hm q rfl
  have hr := World.rowIs.of_block h.row (hk Q h.lt hQ)
  have huQ : ∀ b, u.ownBlock = some b → b ≠ Q := fun b q e => by
    rcases hn b q with z | z
    · rw [e] at z; exact hQ z
    · have := h.lt; omega
  refine ⟨(World.rowIs.set hr (4 + m) _).congr fun i hi => ?_, fun i hi => ?_, h.low, fun i j hi hj hne b q q' => ?_⟩
  · unfold tv
    by_cases e : i = 4 + m
    · rw [if_pos e, if_neg (by omega), if_neg (by omega), if_neg (by omega), if_neg (by omega), if_pos (by omega), show i - 4 = m by omega, up_same]
    · rw [if_neg e]
      by_cases e0 : i = 0
      · rw [if_pos e0, if_pos e0]
      · by_cases e1 : i = 1
        · rw [if_neg e0, if_neg e0, if_pos e1, if_pos e1]
        · by_cases e2 : i = 2
          · rw [if_neg e0, if_neg e0, if_neg e1, if_neg e1, if_pos e2, if_pos e2]
          · by_cases e3 : i = 3
            · rw [if_neg e0, if_neg e0, if_neg e1, if_neg e1, if_neg e2, if_neg e2, if_pos e3, if_pos e3]
            · by_cases e9 : i < 9
              · rw [if_neg e0, if_neg e0, if_neg e1, if_neg e1, if_neg e2, if_neg e2, if_neg e3, if_neg e3, if_pos e9, if_pos e9, up_other _ _ (by omega)]
              · rw [if_neg e0, if_neg e0, if_neg e1, if_neg e1, if_neg e2, if_neg e2, if_neg e3, if_neg e3, if_neg e9, if_neg e9]
  · show OR _ base (up v m u i) (up k.wt m l i)
    by_cases e : i = m
    · rw [e, up_same, up_same]
      exact ho.of_block fun b q => Deep.blk_setCell_other _ _ _ _ (huQ b q)
    · rw [up_other _ _ e, up_other _ _ e]
      refine (h.wt i hi).of_block fun b q => ?_
      rw [Deep.blk_setCell_other _ _ _ _ (h.ne hi q)]
      exact hk b ((h.wt i hi).lt b q).2 (fun z => h.dj i m hi hm e b q z)
  · by_cases e : i = m
    · subst e
      rw [up_same] at q
      rw [up_other _ _ (fun z => hne z.symm)] at q'
      rcases hn b q with z | z
      · exact h.dj i j hi hj hne b z q'
      · have := ((h.wt j hj).lt b q').2; omega
    · rw [up_other _ _ e] at q
      by_cases e2 : j = m
      · subst e2
        rw [up_same] at q'
        rcases hn b q' with z | z
        · exact h.dj i j hi hj hne b q z
        · have := ((h.wt i hi).lt b q).2; omega
      · rw [up_other _ _ e2] at q'
        exact h.dj i j hi hj hne b q q'
theorem rfp_set {m : Nat} {u : Value} (hm : m < 5) (hn : ∀ b, u.ownBlock = some b → (v m).ownBlock = some b ∨ w.heap.size ≤ b) : NewL w (rfp Q v) (rfp Q (up v m u)) := by
  intro b hb
  rcases mem_rfp.1 hb with rfl | ⟨i, hi, q⟩
  · exact .inl (mem_rfp.2 (.inl rfl))
  · by_cases e : i = m
    · rw [e, up_same] at q
      exact (hn b q).imp (fun z => mem_rfp.2 (.inr ⟨m, hm, z⟩)) id
    · rw [up_other _ _ e] at q
      exact .inl (mem_rfp.2 (.inr ⟨i, hi, q⟩))
end Go.Proofs.YtfjhjjikaodadagDoor.Tok
