/-
  A map from numbers to values of whatever type, seen as which value stands at which number.
-/
import Derived.Test.YtgcdbcljneoifajDoorFifA
import Derived.Maps.OwnSet
import Derived.Maps.Keyed
import Derived.Maps.RangeWalk
import Derived.MapViews
namespace Go.Proofs.YtgcdbcljneoifajDoor.MapV
open Go.RowKit Go.Maps
set_option linter.unusedVariables false

def kl (i : Int) : Lit := .int .i64 i
theorem law : Keyed Tryd.prog 3 := int_keyed Tryd.underlying3
theorem keyK {i : Int} (h : (Lit.int .i64 i).wf = true) : keyOf Tryd.prog 3 (.int .i64 i) = some (kl i) := keyOf_int_mk Tryd.underlying3 h
theorem kl_inj {x y : Int} (h : kl x = kl y) : x = y := by
  unfold kl at h
  injection h
theorem wfI {i : Int} (h1 : -1000000000 ≤ i) (h2 : i ≤ 1000000000) : (Lit.int .i64 i).wf = true := by
  simp [Lit.wf, IntKind.min, IntKind.max, IntKind.bits, IntKind.signed]
  omega
theorem kl_key {i : Int} (h : (Lit.int .i64 i).wf = true) : WideAt.IsKeyLit (kl i) := law.key (keyK h)
def RV (v : Value) : Option (DataW Value × List MemPlace) := some (.held v, [])
theorem RV_inv {u v : Value} {ps : List MemPlace} (h : RV u = some (.held v, ps)) : u = v := by
  have h1 : (DataW.held u, ([] : List MemPlace)) = (DataW.held v, ps) := Option.some.inj h
  have h2 : DataW.held u = DataW.held v := (Prod.mk.inj h1).1
  exact DataW.held.inj h2
theorem own_norm {k : TypeId} {w : World} {b n : Nat} {D : DataW Value} (h : w.ownsMap Tryd.prog k RV b n D) : w.ownsMap Tryd.prog k RV b (Maps.size D) D := by
  obtain ⟨es, clock, hb, F, _, rfl⟩ := h
  exact ⟨es, clock, hb, F, by simp [Maps.size, length_sorted], rfl⟩
theorem own_heap {k : TypeId} {w w' : World} {b n : Nat} {D : DataW Value} (h : w.ownsMap Tryd.prog k RV b n D) (he : w'.heap[b]? = w.heap[b]?) : w'.ownsMap Tryd.prog k RV b n D := by
  obtain ⟨es, clock, hb, r⟩ := h
  exact ⟨es, clock, by rw [he]; exact hb, r⟩
/-- a map holds just these -/
structure MP (D : DataW Value) (T : Int → Option Value) (c : Nat) : Prop where
  tidy : Tidy D
  has : ∀ i, Maps.has D (kl i) = (T i).isSome
  at_ : ∀ i x, T i = some x → ∀ z, D.atKey (kl i) z = .held x
  size : Maps.size D = c
theorem MP.start : MP (.map []) (fun _ => none) 0 := ⟨tidy_empty, fun _ => rfl, fun i t h => absurd h (by simp), rfl⟩
def MM (w : World) (mb : Nat) (T : Int → Option Value) (c : Nat) : Prop := ∃ D, w.ownsMap Tryd.prog 3 RV mb (Maps.size D) D ∧ MP D T c
def putT (T : Int → Option Value) (i : Int) (x : Value) : Int → Option Value := fun k => if k = i then some x else T k
def delT (T : Int → Option Value) (i : Int) : Int → Option Value := fun k => if k = i then none else T k
variable {w w' : World} {mb c : Nat} {T : Int → Option Value}
theorem MM.lt (h : MM w mb T c) : mb < w.heap.size := by
  obtain ⟨D, h, _⟩ := h
  exact h.lt
theorem MM.of_block (h : MM w mb T c) (he : w'.heap[mb]? = w.heap[mb]?) : MM w' mb T c := by
  obtain ⟨D, h, v⟩ := h
  exact ⟨D, own_heap h he, v⟩
theorem MM.congr (h : MM w mb T c) {T' : Int → Option Value} {c' : Nat} (e : ∀ i, T' i = T i) (ec : c' = c) : MM w mb T' c' := by
  obtain ⟨D, h, v⟩ := h
  subst ec
  exact ⟨D, h, v.tidy, fun i => by rw [e]; exact v.has i, fun i x q => v.at_ i x (by rw [← e]; exact q), v.size⟩
theorem MM.made (w : World) : MM (w.alloc (.map #[] 0)) w.heap.size (fun _ => none) 0 := ⟨.map [], World.ownsMap_made w _ _ _, MP.start⟩
theorem MM.row (h : MM w mb T c) {P t n : Nat} {f : Nat → Value} (r : w.rowIs P t n f) : P ≠ mb := by
  obtain ⟨D, ⟨es', clock, hb, _⟩, _⟩ := h
  obtain ⟨c, hc, _⟩ := r
  intro e
  rw [e, hb] at hc
  cases hc
theorem MM.kind (h : MM w mb T c) (t : TypeId) : ∀ cs fr, w.heap[mb]? ≠ some (.cells cs t fr) := by
  obtain ⟨D, ⟨es', clock, hb, _⟩, _⟩ := h
  intro cs fr q
  rw [hb] at q
  cases q
theorem MM.own (h : MM w mb T c) {b t s n : Nat} {u : Value} {xs : List Value} (o : w.ownsRow b t s u n xs) : u.ownBlock ≠ some mb := by
  intro hk
  rcases o.2 with ⟨h2, _⟩ | ⟨g', cap', cur, hv, hbg, hh, _⟩
  · rw [h2] at hk; cases hk
  · rw [hv] at hk
    have : g' = mb := by simpa [Value.ownBlock] using hk
    subst this
    exact h.kind _ _ _ hh
/-- what stands at a number, and whether -/
theorem MM.look_ok (h : MM w mb T c) {mt vt : TypeId} {z : Value} (hU : Tryd.prog.underlying mt = some (.map 3 vt)) (hZ : ∀ W : World, (zeroValue vt).run Tryd.prog W = .ok z W) {i : Int} (hi : (Lit.int .i64 i).wf = true) : ∀ W : World, W.heap[mb]? = w.heap[mb]? → (Instr.lookup mt (.map (some mb)) (.int .i64 i) true).run Tryd.prog W = .ok (.tuple #[(T i).getD z, .bool (T i).isSome]) W := by
  obtain ⟨D, hm, v⟩ := h
  intro W hW
  obtain ⟨u, ps, e1, e2⟩ := (own_heap hm hW).look_ok law hU (hZ W) (zd := .held _) (zp := []) rfl (keyK hi)
  cases q : T i with
  | none =>
    rw [atKey_of_not_has (by rw [v.has, q]; rfl)] at e2
    rw [v.has, q, RV_inv e2] at e1
    exact e1
  | some x =>
    rw [v.at_ i x q] at e2
    rw [v.has, q, RV_inv e2] at e1
    exact e1
theorem MM.look (h : MM w mb T c) {mt vt : TypeId} {z : Value} (hU : Tryd.prog.underlying mt = some (.map 3 vt)) (hZ : ∀ W : World, (zeroValue vt).run Tryd.prog W = .ok z W) {i : Int} (hi : (Lit.int .i64 i).wf = true) : ∀ W : World, W.heap[mb]? = w.heap[mb]? → (Instr.lookup mt (.map (some mb)) (.int .i64 i) false).run Tryd.prog W = .ok ((T i).getD z) W := by
  obtain ⟨D, hm, v⟩ := h
  intro W hW
  obtain ⟨u, ps, e1, e2⟩ := (own_heap hm hW).lookup law hU (hZ W) (zd := .held _) (zp := []) rfl (keyK hi)
  cases q : T i with
  | none =>
    rw [atKey_of_not_has (by rw [v.has, q]; rfl)] at e2
    rw [RV_inv e2] at e1
    exact e1
  | some x =>
    rw [v.at_ i x q] at e2
    rw [RV_inv e2] at e1
    exact e1
theorem MM.put (h : MM w mb T c) {mt vt : TypeId} (hU : Tryd.prog.underlying mt = some (.map 3 vt)) {i : Int} (hi : (Lit.int .i64 i).wf = true) (x : Value) (hc : c < 1000000) : ∃ w', (Instr.mapUpdate mt (.map (some mb)) (.int .i64 i) x).run Tryd.prog w = .ok () w' ∧ MM w' mb (putT T i x) (if (T i).isSome = true then c else c + 1) ∧ w.mapTurned w' mb := by
  obtain ⟨D, hm, v⟩ := h
  have hk := keyK hi
  obtain ⟨w', er, h', tt⟩ := hm.store law hU (by rw [v.size]; unfold maxLen; omega) hk (val := x) rfl
  refine ⟨w', er, ⟨_, own_norm h', ⟨v.tidy.put (law.key hk) _, fun y => ?_, fun y z hy => ?_, ?_⟩⟩, tt⟩
  · unfold putT
    by_cases e : y = i
    · rw [if_pos e, e]
      exact has_put_same v.tidy.isMap (law.key hk) _
    · rw [if_neg e, has_put_other (fun q => e (kl_inj q)), v.has]
  · unfold putT at hy
    by_cases e : y = i
    · rw [if_pos e] at hy
      intro z'
      rw [e, atKey_put_same v.tidy.isMap (law.key hk), ← Option.some.inj hy]
    · rw [if_neg e] at hy
      intro z'
      rw [atKey_put_other (fun q => e (kl_inj q)), v.at_ y z hy]
  · rw [size_put v.tidy, v.has, v.size]
theorem MM.del (h : MM w mb T c) {mt vt : TypeId} (hU : Tryd.prog.underlying mt = some (.map 3 vt)) {i : Int} (hi : (Lit.int .i64 i).wf = true) (ty : TypeId) : ∃ w', (Builtin.delete_ #[mt, 3] ty #[.map (some mb), .int .i64 i]).run Tryd.prog w = .ok (.tuple #[]) w' ∧ MM w' mb (delT T i) (if (T i).isSome = true then c - 1 else c) ∧ w.mapTurned w' mb := by
  obtain ⟨D, hm, v⟩ := h
  have hk := keyK hi
  obtain ⟨w', er, h', tt⟩ := hm.drop law hU hk ty
  refine ⟨w', er, ⟨_, own_norm h', ⟨v.tidy.del _, fun y => ?_, fun y z hy => ?_, ?_⟩⟩, tt⟩
  · unfold delT
    by_cases e : y = i
    · rw [if_pos e, e]
      exact has_del_same ..
    · rw [if_neg e, has_del_other (fun q => e (kl_inj q)), v.has]
  · unfold delT at hy
    by_cases e : y = i
    · rw [if_pos e] at hy; cases hy
    · rw [if_neg e] at hy
      intro z'
      rw [atKey_del_other (fun q => e (kl_inj q)), v.at_ y z hy]
  · have h1 := size_del (k := kl i) v.tidy
    rw [v.has, v.size] at h1
    cases q : (T i).isSome <;> rw [q] at h1 <;> simp at h1 ⊢ <;> omega
theorem turned_below {b base : Nat} (h : w.mapTurned w' b) (hb : base ≤ b) : Below base w w' := by
  have hlt : b < w.heap.size := by
    obtain ⟨es, c, _, _, h1, _⟩ := h
    exact (Array.getElem?_eq_some_iff.1 h1).1
  exact (Below.refl base w).grown h.grown (by omega) (fun k e => by cases e; exact hb)
theorem g_of_turned {P' : Nat} (h : w.mapTurned w' mb) (hP : P' < w.heap.size) (hne : P' ≠ mb) : w'.heap[P']? = w.heap[P']? := h.grown.block P' hP (fun q => hne (Option.some.inj q))
theorem ranges_blocks {b r n : Nat} {D : DataW Value} {left : Lit → Bool} {cnt : Nat} (h : w.ranges Tryd.prog 3 RV b r n D left cnt) (h1 : w'.heap[b]? = w.heap[b]?) (h2 : w'.heap[r]? = w.heap[r]?) : w'.ranges Tryd.prog 3 RV b r n D left cnt := by
  obtain ⟨es, clock, since, seen, c0, hb, F, hs, hD, hr, rest⟩ := h
  exact ⟨es, clock, since, seen, c0, by rw [h1]; exact hb, F, hs, hD, by rw [h2]; exact hr, rest⟩
def strike (left : Lit → Bool) (k : Lit) : Lit → Bool := fun x => left x && !x.sameKey k
theorem strike_new {left : Lit → Bool} {i j : Int} (h : strike left (kl i) (kl j) = false) : left (kl j) = false ∨ j = i := by
  unfold strike at h
  cases q : left (kl j)
  · exact .inl rfl
  · rw [q] at h
    have : (kl j).sameKey (kl i) = true := by simpa using h
    exact .inr (kl_inj (WideAt.sameKey_eq this))
theorem strike_old {left : Lit → Bool} {k l : Lit} (h : left l = false) : strike left k l = false := by simp [strike, h]
theorem strike_self {left : Lit → Bool} {k : Lit} (h : WideAt.IsKeyLit k) : strike left k k = false := by simp [strike, WideAt.sameKey_self h]
set_option maxRecDepth 100000 in
/-- the next one, whichever it is -/
theorem next_cases {b r n : Nat} {D : DataW Value} {left : Lit → Bool} {cnt : Nat} (h : w.ranges Tryd.prog 3 RV b r n D left cnt) (v : MP D T c) (ty : TypeId) :
    (cnt = 0 ∧ (∀ kl, left kl = false) ∧ (Instr.next (.pointer (some ⟨r, 0, none⟩)) false ty).run Tryd.prog w = .ok (.tuple #[.bool false]) w) ∨
    ∃ i u, T i = some u ∧ (Lit.int .i64 i).wf = true ∧ left (kl i) = true ∧ ∃ w' cnt', (Instr.next (.pointer (some ⟨r, 0, none⟩)) false ty).run Tryd.prog w = .ok (.tuple #[.bool true, .int .i64 i, u]) w' ∧
      w'.ranges Tryd.prog 3 RV b r n D (strike left (kl i)) cnt' ∧ cnt' < cnt ∧ w.grownBy w' (some r) ∧ w'.heap.size = w.heap.size ∧ (Instr.entry (.pointer (some ⟨r, 0, none⟩))).run Tryd.prog w' = .ok (.tuple #[.int .i64 i, u]) w' := by
  rcases h.next law ty with h | ⟨key, u, k, y, w', cnt', hkey, hl, hu, hat, hrun, hrg, hlt, hg, hs, hen⟩
  · exact .inl h
  · obtain ⟨i, rfl, rfl, hwf⟩ := Maps.keyOf_int_inv Tryd.underlying3 hkey
    have h1 := has_true_of_atKey hat
    rw [show (Lit.int .i64 i) = kl i from rfl, v.has] at h1
    obtain ⟨x, hx⟩ := Option.isSome_iff_exists.1 h1
    have e2 : u = x := by
      have q := hat .nil
      rw [show (Lit.int .i64 i) = kl i from rfl, v.at_ i x hx, ← Option.some.inj (hu : some (DataW.held u, []) = some y)] at q
      injection q with q
      exact q.symm
    subst e2
    exact .inr ⟨i, u, hx, hwf, hl, w', cnt', hrun, hrg, hlt, hg, hs, hen⟩
end Go.Proofs.YtgcdbcljneoifajDoor.MapV
