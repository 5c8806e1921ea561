/-
  A fifo of the program in memory: of each member which is the next, and a map of the words that wait.
-/
import Derived.Test.YtgcdbcljneoifacDoorFifA
import Derived.Test.YtgcdbcljneoifacDoorFifK
namespace Go.Proofs.YtgcdbcljneoifacDoor.Fif
set_option maxRecDepth 100000
open Go.RowKit Go.Maps

theorem own_norm {H : Type} {P : Program} {k : TypeId} {R : Value → Option (DataW H × List MemPlace)} {w : World} {b n : Nat} {D : DataW H} (h : w.ownsMap P k R b n D) : w.ownsMap P k R b (Maps.size D) D := by
  obtain ⟨es, clock, hb, F, _, rfl⟩ := h
  exact ⟨es, clock, hb, F, by simp [Maps.size, length_sorted], rfl⟩
theorem own_heap {H : Type} {P : Program} {k : TypeId} {R : Value → Option (DataW H × List MemPlace)} {w w' : World} {b n : Nat} {D : DataW H} (h : w.ownsMap P k R b n D) (he : w'.heap[b]? = w.heap[b]?) : w'.ownsMap P k R b n D := by
  obtain ⟨es, clock, hb, r⟩ := h
  exact ⟨es, clock, by rw [he]; exact hb, r⟩
def fsv (H : List Int) (mb : Nat) (j : Nat) : Value := if j = 5 then .map (some mb) else .int .i64 (H.getD j 0 + 1)
/-- the program's fifo in memory -/
structure FoM (w : World) (base P mb : Nat) (H : List Int) (ws : List Cm) : Prop where
  row : w.rowIs P 58 6 (fsv H mb)
  map : ∃ D : DataW Unit, w.ownsMap Tryd.prog 61 (plainElem Tryd.prog 3) mb ws.length D ∧ MV okK kl D ws
  five : H.length = 5
  lowP : base ≤ P
  lowM : base ≤ mb
theorem FoM.num {w : World} {base P mb : Nat} {H : List Int} {ws : List Cm} (g : FoM w base P mb H ws) {m : Nat} (hm : m < 5) : w.cell? ⟨P, m, none⟩ = some (.int .i64 (H.getD m 0 + 1)) ∧ w.frozen? ⟨P, m, none⟩ = false := by
  have := World.rowIs.cell g.row (i := m) (by omega)
  rw [fsv, if_neg (by omega)] at this
  exact ⟨this, World.rowIs.frozen g.row m⟩
theorem FoM.wait {w : World} {base P mb : Nat} {H : List Int} {ws : List Cm} (g : FoM w base P mb H ws) : w.cell? ⟨P, 5, none⟩ = some (.map (some mb)) ∧ w.frozen? ⟨P, 5, none⟩ = false := ⟨World.rowIs.cell g.row (i := 5) (by omega), World.rowIs.frozen g.row 5⟩
theorem FoM.apart {w : World} {base P mb : Nat} {H : List Int} {ws : List Cm} (g : FoM w base P mb H ws) : P ≠ mb := by
  obtain ⟨D, ⟨es, clock, hb, _⟩, _⟩ := g.map
  obtain ⟨c, hc, _⟩ := g.row
  intro e
  rw [e, hb] at hc
  cases hc
theorem FoM.lt {w : World} {base P mb : Nat} {H : List Int} {ws : List Cm} (g : FoM w base P mb H ws) : P < w.heap.size ∧ mb < w.heap.size := by
  obtain ⟨D, h, _⟩ := g.map
  exact ⟨World.rowIs.lt g.row, h.lt⟩
/-- it stays where its two blocks stay -/
theorem FoM.of_blocks {w w' : World} {base P mb : Nat} {H : List Int} {ws : List Cm} (g : FoM w base P mb H ws) (h1 : w'.heap[P]? = w.heap[P]?) (h2 : w'.heap[mb]? = w.heap[mb]?) : FoM w' base P mb H ws := by
  obtain ⟨D, h, v⟩ := g.map
  exact ⟨World.rowIs.of_block g.row h1, ⟨D, own_heap h h2, v⟩, g.five, g.lowP, g.lowM⟩
theorem FoM.later {w w' : World} {base P mb : Nat} {H : List Int} {ws : List Cm} (g : FoM w base P mb H ws) (hb : Below w.heap.size w w') : FoM w' base P mb H ws := g.of_blocks (hb.block P g.lt.1) (hb.block mb g.lt.2)
theorem FoM.kp {w w' : World} {base P mb : Nat} {H : List Int} {ws : List Cm} (g : FoM w base P mb H ws) {Q : Nat} {r : Option Nat} (hk : Kp w w' Q r) (h1 : P ≠ Q) (h2 : mb ≠ Q) (h3 : some P ≠ r) (h4 : some mb ≠ r) : FoM w' base P mb H ws := g.of_blocks (hk.2 P g.lt.1 h1 h3) (hk.2 mb g.lt.2 h2 h4)
theorem FoM.grown {w w' : World} {base P mb : Nat} {H : List Int} {ws : List Cm} (g : FoM w base P mb H ws) {r : Option Nat} (hg : w.grownBy w' r) (h3 : some P ≠ r) (h4 : some mb ≠ r) : FoM w' base P mb H ws := g.of_blocks (hg.block P g.lt.1 h3) (hg.block mb g.lt.2 h4)
theorem FoM.setH {w : World} {base P mb : Nat} {H : List Int} {ws : List Cm} (g : FoM w base P mb H ws) {m : Nat} (hm : m < 5) (x : Int) : FoM (w.setCell ⟨P, m, none⟩ (.int .i64 (x + 1))) base P mb (H.set m x) ws := by
  obtain ⟨D, h, v⟩ := g.map
  refine ⟨(World.rowIs.set g.row m _).congr fun j hj => ?_, ⟨D, own_heap h (Deep.blk_setCell_other _ _ _ _ (fun e => g.apart e.symm)), v⟩, by rw [List.length_set]; exact g.five, g.lowP, g.lowM⟩
  unfold fsv
  by_cases e5 : j = 5
  · subst e5
    rw [if_neg (by omega), if_pos rfl, if_pos rfl]
  · rw [if_neg e5, if_neg e5]
    by_cases e : j = m
    · subst e
      rw [if_pos rfl]
      have := g.five
      simp [List.getD, show j < H.length by omega]
    · rw [if_neg e]
      simp [List.getD, List.getElem?_set_ne (fun q => e q.symm)]
theorem zeroI (W : World) : (zeroValue 3).run Tryd.prog W = .ok (.int .i64 0) W := by kernel_rfl
theorem look_some {w : World} {base P mb : Nat} {H : List Int} {ws : List Cm} (g : FoM w base P mb H ws) {a b x : Int} (hk : okK a b) (hf : fnd ws a b = some x) :
    ∀ W : World, W.heap = w.heap → (Instr.lookup 56 (.map (some mb)) (.agg #[.int .i64 a, .int .i64 b]) true).run Tryd.prog W = .ok (.tuple #[.int .i64 x, .bool true]) W := by
  intro W hW
  obtain ⟨D, h, v⟩ := g.map
  have h' : W.ownsMap Tryd.prog 61 (plainElem Tryd.prog 3) mb ws.length D := own_heap h (by rw [hW])
  obtain ⟨u, ps, e1, e2⟩ := h'.look_ok law Tryd.underlying56 (zeroI W) (zd := .lit (.int .i64 0)) (zp := []) (plainElem_int Tryd.underlying3 (by decide)) (keyK hk)
  rw [v.has _ _ hk, hf] at e1
  rw [v.at_ _ _ _ hk hf] at e2
  obtain ⟨c, rfl, hc, _⟩ := plainElem_int_inv Tryd.underlying3 e2
  have : x = c := by simpa using congrArg Prod.fst hc
  rw [e1, this]
  rfl
theorem look_none {w : World} {base P mb : Nat} {H : List Int} {ws : List Cm} (g : FoM w base P mb H ws) {a b : Int} (hk : okK a b) (hf : fnd ws a b = none) :
    ∀ W : World, W.heap = w.heap → (Instr.lookup 56 (.map (some mb)) (.agg #[.int .i64 a, .int .i64 b]) true).run Tryd.prog W = .ok (.tuple #[.int .i64 0, .bool false]) W := by
  intro W hW
  obtain ⟨D, h, v⟩ := g.map
  have h' : W.ownsMap Tryd.prog 61 (plainElem Tryd.prog 3) mb ws.length D := own_heap h (by rw [hW])
  obtain ⟨u, ps, e1, e2⟩ := h'.look_ok law Tryd.underlying56 (zeroI W) (zd := .lit (.int .i64 0)) (zp := []) (plainElem_int Tryd.underlying3 (by decide)) (keyK hk)
  have hh := v.has _ _ hk
  rw [hf] at hh
  rw [v.has _ _ hk, hf] at e1
  rw [atKey_of_not_has hh] at e2
  obtain ⟨c, rfl, hc, _⟩ := plainElem_int_inv Tryd.underlying3 e2
  have : 0 = c := by simpa using congrArg Prod.fst hc
  rw [e1, this]
  rfl
theorem FoM.len {w : World} {base P mb : Nat} {H : List Int} {ws : List Cm} (g : FoM w base P mb H ws) (ty : TypeId) :
    ∀ W : World, W.heap = w.heap → (Builtin.len_ #[56] ty #[.map (some mb)]).run Tryd.prog W = .ok (.int .i64 ws.length) W := by
  intro W hW
  obtain ⟨D, h, v⟩ := g.map
  have h' : W.ownsMap Tryd.prog 61 (plainElem Tryd.prog 3) mb ws.length D := own_heap h (by rw [hW])
  rw [h'.len Tryd.underlying56 ty, v.size]
theorem FoM.put {w : World} {base P mb : Nat} {H : List Int} {ws : List Cm} (g : FoM w base P mb H ws) {a b x : Int} (hk : okK a b) (hf : fnd ws a b = none) (hx : (Lit.int .i64 x).wf = true) (hn : ws.length < maxLen) :
    ∃ w', (Instr.mapUpdate 56 (.map (some mb)) (.agg #[.int .i64 a, .int .i64 b]) (.int .i64 x)).run Tryd.prog w = .ok () w' ∧ FoM w' base P mb H (ws ++ [(a, b, x)]) ∧ w.mapTurned w' mb := by
  obtain ⟨D, h, v⟩ := g.map
  obtain ⟨w', e, h', t⟩ := h.store law Tryd.underlying56 hn (keyK hk) (val := .int .i64 x) (plainElem_int Tryd.underlying3 hx)
  have v' := v.put kl_inj kl_key hk x hf
  refine ⟨w', e, ⟨World.rowIs.of_block g.row (t.grown.block P g.lt.1 (fun q => g.apart (Option.some.inj q))), ⟨_, ?_, v'⟩, g.five, g.lowP, g.lowM⟩, t⟩
  rw [← v'.size]
  exact own_norm h'
theorem FoM.del {w : World} {base P mb : Nat} {H : List Int} {ws : List Cm} (g : FoM w base P mb H ws) {a b : Int} (hu : Uq ws) (hk : okK a b) (ty : TypeId) :
    ∃ w', (Builtin.delete_ #[56, 61] ty #[.map (some mb), .agg #[.int .i64 a, .int .i64 b]]).run Tryd.prog w = .ok (.tuple #[]) w' ∧ FoM w' base P mb H (rm ws a b) ∧ w.mapTurned w' mb := by
  obtain ⟨D, h, v⟩ := g.map
  obtain ⟨w', e, h', t⟩ := h.drop law Tryd.underlying56 (keyK hk) ty
  have v' := v.del kl_inj hu hk
  refine ⟨w', e, ⟨World.rowIs.of_block g.row (t.grown.block P g.lt.1 (fun q => g.apart (Option.some.inj q))), ⟨_, ?_, v'⟩, g.five, g.lowP, g.lowM⟩, t⟩
  rw [← v'.size]
  exact own_norm h'
theorem okK_of {a b : Int} (ha : 0 ≤ a ∧ a ≤ 4) (hb : 0 ≤ b ∧ b ≤ 1000001) : okK a b := by
  refine ⟨?_, ?_⟩ <;> simp [Lit.wf, IntKind.min, IntKind.max, IntKind.bits, IntKind.signed] <;> omega
theorem turned_below {w w' : World} {b base : Nat} (h : w.mapTurned w' b) (hb : base ≤ b) : Below base w w' := by
  have hlt : b < w.heap.size := by
    obtain ⟨es, c, _, _, h1, _⟩ := h
    exact (Array.getElem?_eq_some_iff.1 h1).1
  exact (Below.refl base w).grown h.grown (by omega) (fun k e => by cases e; exact hb)
theorem turned_kp {w w' : World} {b : Nat} (h : w.mapTurned w' b) (P : Nat) : Kp w w' P (some b) := Kp.grown h.grown P
theorem below_drews {B : Nat} {a w : World} (h : Below B a w) (n : Nat) : Below B a (w.drewN n) := ⟨h.os, h.tape, h.output, h.size, h.block⟩
def errF (c : Int) : Value := if c = 0 then .nilIface else .iface 63 (.int .i64 c)
theorem errF_ok : errF 0 = .nilIface := rfl
theorem errF_no {c : Int} (h : c ≠ 0) : errF c = .iface 63 (.int .i64 c) := if_neg h
end Go.Proofs.YtgcdbcljneoifacDoor.Fif
