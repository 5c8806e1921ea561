/-
  The program's net in memory: the packets in a row that the call owns, and a map of the ways that are cut.
-/
import Derived.Test.YtmlafflmgagkjadDoorNetK
namespace Go.Proofs.YtmlafflmgagkjadDoor.Nw
open Go.RowKit Go.Maps
open Go.Proofs.YtmlafflmgagkjadDoor.Net
open Go.Proofs.YtmlafflmgagkjadDoor.Fif (own_lt own_block own_form own_mono Kp ret_bool)
set_option linter.unusedVariables false

def nsv (v : Value) (mb : Nat) (j : Nat) : Value := if j = 0 then v else .map (some mb)
/-- the program's net in memory -/
structure NF (w : World) (base P mb : Nat) (no : Int → Int → Bool) (l : List Pk) (v : Value) : Prop where
  row : w.rowIs P 93 2 (nsv v mb)
  map : ∃ D, w.ownsMap Tryd.prog 97 RV mb (Maps.size D) D ∧ MC D no
  own : Po w base v l
  low : base ≤ P ∧ base ≤ mb
/-- the blocks that it takes -/
def fpOf (P mb : Nat) (v : Value) : List Nat := P :: mb :: v.ownBlock.toList
variable {w w' : World} {base P mb : Nat} {no : Int → Int → Bool} {l : List Pk} {v : Value}
theorem NF.list (g : NF w base P mb no l v) : w.cell? ⟨P, 0, none⟩ = some v ∧ w.frozen? ⟨P, 0, none⟩ = false := ⟨World.rowIs.cell g.row (i := 0) (by omega), World.rowIs.frozen g.row 0⟩
theorem NF.cut (g : NF w base P mb no l v) : w.cell? ⟨P, 1, none⟩ = some (.map (some mb)) ∧ w.frozen? ⟨P, 1, none⟩ = false := ⟨World.rowIs.cell g.row (i := 1) (by omega), World.rowIs.frozen g.row 1⟩
theorem NF.lt (g : NF w base P mb no l v) : P < w.heap.size ∧ mb < w.heap.size := by
  obtain ⟨D, h, _⟩ := g.map
  exact ⟨World.rowIs.lt g.row, h.lt⟩
theorem NF.apart (g : NF w base P mb no l v) : P ≠ mb := by
  obtain ⟨D, ⟨es', clock, hb, _⟩, _⟩ := g.map
  obtain ⟨c, hc, _⟩ := g.row
  intro e
  rw [e, hb] at hc
  cases hc
theorem row_apart {f : Nat → Value} (r : w.rowIs P 93 2 f) {b t s n : Nat} (ht : t ≠ 93) {u : Value} {xs : List Value} (o : w.ownsRow b t s u n xs) {k : Nat} (hk : u.ownBlock = some k) : k ≠ P := by
  rcases o.2 with ⟨h2, _⟩ | ⟨g', cap', cur, hv, hbg, hh, _⟩
  · rw [h2] at hk; cases hk
  · rw [hv] at hk
    have : g' = k := by simpa [Value.ownBlock] using hk
    subst this
    intro e
    subst e
    obtain ⟨c, hc, _⟩ := r
    rw [hc] at hh
    injection hh with hh
    injection hh with _ hh _
    exact ht hh.symm
theorem map_apart {k' : TypeId} {D : DataW Value} {nn : Nat} (r : w.ownsMap Tryd.prog k' RV mb nn D) {b t s n : Nat} {u : Value} {xs : List Value} (o : w.ownsRow b t s u n xs) {k : Nat} (hk : u.ownBlock = some k) : k ≠ mb := by
  rcases o.2 with ⟨h2, _⟩ | ⟨g', cap', cur, hv, hbg, hh, _⟩
  · rw [h2] at hk; cases hk
  · rw [hv] at hk
    have : g' = k := by simpa [Value.ownBlock] using hk
    subst this
    intro e
    subst e
    obtain ⟨es', clock, hb, _⟩ := r
    rw [hb] at hh
    cases hh
theorem NF.vP (g : NF w base P mb no l v) {k : Nat} (hk : v.ownBlock = some k) : k ≠ P := row_apart g.row (by decide) g.own hk
theorem NF.vM (g : NF w base P mb no l v) {k : Nat} (hk : v.ownBlock = some k) : k ≠ mb := by
  obtain ⟨D, h, _⟩ := g.map
  exact map_apart h g.own hk
theorem NF.fp (g : NF w base P mb no l v) : ∀ b ∈ fpOf P mb v, base ≤ b ∧ b < w.heap.size := by
  intro b hb
  rcases List.mem_cons.1 hb with rfl | hb
  · exact ⟨g.low.1, g.lt.1⟩
  · rcases List.mem_cons.1 hb with rfl | hb
    · exact ⟨g.low.2, g.lt.2⟩
    · exact own_lt g.own b (by simpa using hb)
/-- it stays where its blocks stay -/
theorem NF.of_blocks (g : NF w base P mb no l v) (h : ∀ b ∈ fpOf P mb v, w'.heap[b]? = w.heap[b]?) : NF w' base P mb no l v := by
  obtain ⟨D, hm, q⟩ := g.map
  exact ⟨World.rowIs.of_block g.row (h P (by simp [fpOf])), ⟨D, own_heap hm (h mb (by simp [fpOf])), q⟩, own_block g.own fun k hk => h k (by simp [fpOf, hk]), g.low⟩
theorem NF.later (g : NF w base P mb no l v) (hb : Below w.heap.size w w') : NF w' base P mb no l v := g.of_blocks fun b h => hb.block b (g.fp b h).2
/-- the list is another one -/
theorem NF.setV {v' : Value} {l' : List Pk} (r : w.rowIs P 93 2 (nsv v mb)) (m : ∃ D, w.ownsMap Tryd.prog 97 RV mb (Maps.size D) D ∧ MC D no) (hl : base ≤ P ∧ base ≤ mb) (o : Po w base v' l') : NF (w.setCell ⟨P, 0, none⟩ v') base P mb no l' v' := by
  obtain ⟨D, hm, q⟩ := m
  have hne : mb ≠ P := by
    obtain ⟨es', clock, hb, _⟩ := hm
    obtain ⟨c, hc, _⟩ := r
    intro e
    rw [← e, hb] at hc
    cases hc
  refine ⟨(World.rowIs.set r 0 _).congr fun j hj => ?_, ⟨D, own_heap hm (Deep.blk_setCell_other _ _ _ _ hne), q⟩, own_block o fun k hk => Deep.blk_setCell_other _ _ _ _ (row_apart r (by decide) o hk), hl⟩
  unfold nsv
  by_cases e : j = 0
  · rw [if_pos e, if_pos e]
  · rw [if_neg e, if_neg e, if_neg e]
theorem zeroE (W : World) : (zeroValue 95).run Tryd.prog W = .ok (.agg #[]) W := by kernel_rfl
/-- is a way cut? -/
theorem NF.look (g : NF w base P mb no l v) {a b : Int} (ha : mem5 a = true) (hb : mem5 b = true) (hne : a ≠ b) : ∀ W : World, W.heap[mb]? = w.heap[mb]? → (Instr.lookup 91 (.map (some mb)) (.agg #[.int .i64 (min a b), .int .i64 (max a b)]) true).run Tryd.prog W = .ok (.tuple #[.agg #[], .bool (no a b)]) W := by
  intro W hW
  obtain ⟨D, h, q⟩ := g.map
  have h' : W.ownsMap Tryd.prog 97 RV mb (Maps.size D) D := own_heap h hW
  obtain ⟨u, ps, e1, e2⟩ := h'.look_ok law Tryd.underlying91 (zeroE W) (zd := .held _) (zp := []) rfl (keyK (okK_of ha hb))
  have hh : Maps.has D (kl (min a b) (max a b)) = no a b := q.has a b ha hb hne
  rw [hh] at e1
  have : u = .agg #[] := by
    cases hn : no a b
    · rw [hn] at hh
      rw [atKey_of_not_has hh] at e2
      exact RV_inv e2
    · rw [hn] at hh
      rw [q.at_ _ hh] at e2
      exact RV_inv e2
  rw [e1, this]
theorem g_of_turned {P' : Nat} (h : w.mapTurned w' mb) (hP : P' < w.heap.size) (hne : P' ≠ mb) : w'.heap[P']? = w.heap[P']? := h.grown.block P' hP (fun q => hne (Option.some.inj q))
theorem NF.put (g : NF w base P mb no l v) {a b : Int} (ha : mem5 a = true) (hb : mem5 b = true) (hne : a ≠ b) :
    ∃ w', (Instr.mapUpdate 91 (.map (some mb)) (.agg #[.int .i64 (min a b), .int .i64 (max a b)]) (.agg #[])).run Tryd.prog w = .ok () w' ∧ NF w' base P mb (cutN no a b true) l v ∧ w.mapTurned w' mb := by
  obtain ⟨D, h, q⟩ := g.map
  obtain ⟨w', er, h', t⟩ := h.store law Tryd.underlying91 (by have := cnt_le no; rw [q.size]; unfold maxLen; omega) (keyK (okK_of ha hb)) (val := .agg #[]) rfl
  exact ⟨w', er, ⟨World.rowIs.of_block g.row (g_of_turned t g.lt.1 g.apart), ⟨_, own_norm h', q.put ha hb hne⟩, own_block g.own fun k hk => g_of_turned t (own_lt g.own k hk).2 (g.vM hk), g.low⟩, t⟩
theorem NF.del (g : NF w base P mb no l v) {a b : Int} (ha : mem5 a = true) (hb : mem5 b = true) (hne : a ≠ b) (ty : TypeId) :
    ∃ w', (Builtin.delete_ #[91, 97] ty #[.map (some mb), .agg #[.int .i64 (min a b), .int .i64 (max a b)]]).run Tryd.prog w = .ok (.tuple #[]) w' ∧ NF w' base P mb (cutN no a b false) l v ∧ w.mapTurned w' mb := by
  obtain ⟨D, h, q⟩ := g.map
  obtain ⟨w', er, h', t⟩ := h.drop law Tryd.underlying91 (keyK (okK_of ha hb)) ty
  exact ⟨w', er, ⟨World.rowIs.of_block g.row (g_of_turned t g.lt.1 g.apart), ⟨_, own_norm h', q.del ha hb hne⟩, own_block g.own fun k hk => g_of_turned t (own_lt g.own k hk).2 (g.vM hk), g.low⟩, t⟩
theorem turned_below {b base : Nat} (h : w.mapTurned w' b) (hb : base ≤ b) : Below base w w' := by
  have hlt : b < w.heap.size := by
    obtain ⟨es, c, _, _, h1, _⟩ := h
    exact (Array.getElem?_eq_some_iff.1 h1).1
  exact (Below.refl base w).grown h.grown (by omega) (fun k e => by cases e; exact hb)
end Go.Proofs.YtmlafflmgagkjadDoor.Nw
