/-
  A map from ways (from, to) to values, seen as which value stands at which way.
-/
import Derived.Test.YtgcdbcljneoifajDoorFifA
import Derived.Test.YtgcdbcljneoifajDoorRows
import Derived.Maps.OwnSet
import Derived.Maps.Keyed
import Derived.DeepKeys4
import Derived.MapViews
import Derived.WideKeyEntry
import Derived.Test.YtgcdbcljneoifajDoorMapV
namespace Go.Proofs.YtgcdbcljneoifajDoor.MapW
open Go.RowKit Go.Maps
open Go.Proofs.YtgcdbcljneoifajDoor.MapV (RV RV_inv own_norm own_heap)
open Go.ChangeMaps (setBlock)
set_option linter.unusedVariables false

theorem laidOut : laidOutB Tryd.prog = true := by kernel_rfl
theorem wideK : (match Tryd.prog.underlying 70 with | some (.array _ _) | some (.struct _) => true | _ => false) = true := by kernel_rfl
theorem rowK : (70 : TypeId) < Tryd.prog.types.size := of_decide_eq_true (by kernel_rfl)
set_option maxRecDepth 100000 in
theorem klaw : WideMaps.KeyLaw Tryd.prog 70 := deep_law_laid laidOut (m := 2) (by omega) rowK (by kernel_rfl) wideK
theorem law : Keyed Tryd.prog 70 := Keyed.of_law klaw
def kl (a b : Int) : Lit := .string (keyBytes [.int .i64 a, .int .i64 b])
def okK (a b : Int) : Prop := (Lit.int .i64 a).wf = true ∧ (Lit.int .i64 b).wf = true
theorem deepK : Tryd.prog.keyType 70 = true := by kernel_rfl
theorem cellsK : Tryd.prog.cellsOf 70 = 2 := by kernel_rfl
theorem cellsI : Tryd.prog.cellsOf 3 = 1 := by kernel_rfl
set_option maxRecDepth 100000 in
theorem keyK {a b : Int} (h : okK a b) : keyOf Tryd.prog 70 (.agg #[.int .i64 a, .int .i64 b]) = some (kl a b) := by
  unfold keyOf
  simp only [Tryd.underlying70, deepK, Bool.true_and]
  have hf : (Value.agg #[.int .i64 a, .int .i64 b]).formed Tryd.prog 70 = true := by simp [Value.formed, Tryd.underlying70, cellsK]
  rw [hf]
  obtain ⟨k, hk⟩ : ∃ k, Tryd.prog.types.size = k + 1 := ⟨Tryd.prog.types.size - 1, by have h0 : 0 < Tryd.prog.types.size := Nat.lt_of_le_of_lt (Nat.zero_le _) rowK; omega⟩
  rw [hk]
  simp only [Value.cells, Program.keyLits, Tryd.underlying70]
  simp [List.mapM_cons, Tryd.underlying3, cellsK, cellsI, h.1, h.2, kl]
theorem kl_inj {a b c d : Int} (h1 : okK a b) (h2 : okK c d) (e : kl a b = kl c d) : a = c ∧ b = d := by
  have := law.inj (keyK h1) (by rw [keyK h2, e])
  simpa using this
theorem kl_key {a b : Int} (h : okK a b) : WideAt.IsKeyLit (kl a b) := law.key (keyK h)
theorem okK_of {a b : Int} (ha : 0 ≤ a ∧ a ≤ 1000000000) (hb : 0 ≤ b ∧ b ≤ 1000000000) : okK a b := by
  refine ⟨?_, ?_⟩ <;> simp [Lit.wf, IntKind.min, IntKind.max, IntKind.bits, IntKind.signed] <;> omega
/-- a map holds just these -/
structure MP (D : DataW Value) (T : Int → Int → Option Value) (c : Nat) : Prop where
  tidy : Tidy D
  has : ∀ a b, okK a b → Maps.has D (kl a b) = (T a b).isSome
  at_ : ∀ a b, okK a b → ∀ x, T a b = some x → ∀ z, D.atKey (kl a b) z = .held x
  size : Maps.size D = c
theorem MP.start : MP (.map []) (fun _ _ => none) 0 := ⟨tidy_empty, fun _ _ _ => rfl, fun a b _ t h => absurd h (by simp), rfl⟩
def MM (w : World) (mb : Nat) (T : Int → Int → Option Value) (c : Nat) : Prop := ∃ D, w.ownsMap Tryd.prog 70 RV mb (Maps.size D) D ∧ MP D T c
def putT (T : Int → Int → Option Value) (a b : Int) (x : Value) : Int → Int → Option Value := fun c d => if c = a ∧ d = b then some x else T c d
variable {w w' : World} {mb c : Nat} {T : Int → Int → Option Value}
theorem MM.lt (h : MM w mb T c) : mb < w.heap.size := by
  obtain ⟨D, h, _⟩ := h
  exact h.lt
theorem MM.of_block (h : MM w mb T c) (he : w'.heap[mb]? = w.heap[mb]?) : MM w' mb T c := by
  obtain ⟨D, h, v⟩ := h
  exact ⟨D, own_heap h he, v⟩
theorem MM.congr (h : MM w mb T c) {T' : Int → Int → Option Value} {c' : Nat} (e : ∀ a b, T' a b = T a b) (ec : c' = c) : MM w mb T' c' := by
  obtain ⟨D, h, v⟩ := h
  subst ec
  exact ⟨D, h, v.tidy, fun a b k => by rw [e]; exact v.has a b k, fun a b k x q => v.at_ a b k x (by rw [← e]; exact q), v.size⟩
theorem MM.made (w : World) : MM (w.alloc (.map #[] 0)) w.heap.size (fun _ _ => none) 0 := ⟨.map [], World.ownsMap_made w _ _ _, MP.start⟩
theorem MM.row (h : MM w mb T c) {P t n : Nat} {f : Nat → Value} (r : w.rowIs P t n f) : P ≠ mb := by
  obtain ⟨D, ⟨es', clock, hb, _⟩, _⟩ := h
  obtain ⟨c, hc, _⟩ := r
  intro e
  rw [e, hb] at hc
  cases hc
theorem MM.kind (h : MM w mb T c) (t : TypeId) : ∀ cs fr, w.heap[mb]? ≠ some (.cells cs t fr) := by
  obtain ⟨D, ⟨es', clock, hb, _⟩, _⟩ := h
  intro cs fr q
  rw [hb] at q
  cases q
theorem MM.own (h : MM w mb T c) {b t s n : Nat} {u : Value} {xs : List Value} (o : w.ownsRow b t s u n xs) : u.ownBlock ≠ some mb := by
  intro hk
  rcases o.2 with ⟨h2, _⟩ | ⟨g', cap', cur, hv, hbg, hh, _⟩
  · rw [h2] at hk; cases hk
  · rw [hv] at hk
    have : g' = mb := by simpa [Value.ownBlock] using hk
    subst this
    exact h.kind _ _ _ hh
/-- what stands at a way -/
theorem MM.look (h : MM w mb T c) {mt vt : TypeId} {z : Value} (hU : Tryd.prog.underlying mt = some (.map 70 vt)) (hZ : ∀ W : World, (zeroValue vt).run Tryd.prog W = .ok z W) {a b : Int} (hi : okK a b) : ∀ W : World, W.heap[mb]? = w.heap[mb]? → (Instr.lookup mt (.map (some mb)) (.agg #[.int .i64 a, .int .i64 b]) false).run Tryd.prog W = .ok ((T a b).getD z) W := by
  obtain ⟨D, hm, v⟩ := h
  intro W hW
  obtain ⟨u, ps, e1, e2⟩ := (own_heap hm hW).lookup law hU (hZ W) (zd := .held _) (zp := []) rfl (keyK hi)
  cases q : T a b with
  | none =>
    rw [atKey_of_not_has (by rw [v.has a b hi, q]; rfl)] at e2
    rw [RV_inv e2] at e1
    exact e1
  | some x =>
    rw [v.at_ a b hi x q] at e2
    rw [RV_inv e2] at e1
    exact e1
theorem MM.put (h : MM w mb T c) {mt vt : TypeId} (hU : Tryd.prog.underlying mt = some (.map 70 vt)) {a b : Int} (hi : okK a b) (x : Value) (hc : c < 10000000) : ∃ w', (Instr.mapUpdate mt (.map (some mb)) (.agg #[.int .i64 a, .int .i64 b]) x).run Tryd.prog w = .ok () w' ∧ MM w' mb (putT T a b x) (if (T a b).isSome = true then c else c + 1) ∧ w.mapTurned w' mb := by
  obtain ⟨D, hm, v⟩ := h
  have hk := keyK hi
  obtain ⟨w', er, h', tt⟩ := hm.store law hU (by rw [v.size]; unfold maxLen; omega) hk (val := x) rfl
  refine ⟨w', er, ⟨_, own_norm h', ⟨v.tidy.put (law.key hk) _, fun y z k => ?_, fun y z k u hy => ?_, ?_⟩⟩, tt⟩
  · unfold putT
    by_cases e : y = a ∧ z = b
    · rw [if_pos e, e.1, e.2]
      exact has_put_same v.tidy.isMap (law.key hk) _
    · rw [if_neg e, has_put_other (fun q => e (kl_inj k hi q)), v.has y z k]
  · unfold putT at hy
    by_cases e : y = a ∧ z = b
    · rw [if_pos e] at hy
      intro z'
      rw [e.1, e.2, atKey_put_same v.tidy.isMap (law.key hk), ← Option.some.inj hy]
    · rw [if_neg e] at hy
      intro z'
      rw [atKey_put_other (fun q => e (kl_inj k hi q)), v.at_ y z k u hy]
  · rw [size_put v.tidy, v.has a b hi, v.size]
/-- what stands at a way, and whether -/
theorem MM.look_ok (h : MM w mb T c) {mt vt : TypeId} {z : Value} (hU : Tryd.prog.underlying mt = some (.map 70 vt)) (hZ : ∀ W : World, (zeroValue vt).run Tryd.prog W = .ok z W) {a b : Int} (hi : okK a b) : ∀ W : World, W.heap[mb]? = w.heap[mb]? → (Instr.lookup mt (.map (some mb)) (.agg #[.int .i64 a, .int .i64 b]) true).run Tryd.prog W = .ok (.tuple #[(T a b).getD z, .bool (T a b).isSome]) W := by
  obtain ⟨D, hm, v⟩ := h
  intro W hW
  obtain ⟨u, ps, e1, e2⟩ := (own_heap hm hW).look_ok law hU (hZ W) (zd := .held _) (zp := []) rfl (keyK hi)
  cases q : T a b with
  | none =>
    rw [atKey_of_not_has (by rw [v.has a b hi, q]; rfl)] at e2
    rw [v.has a b hi, q, RV_inv e2] at e1
    exact e1
  | some x =>
    rw [v.at_ a b hi x q] at e2
    rw [v.has a b hi, q, RV_inv e2] at e1
    exact e1
def delT (T : Int → Int → Option Value) (a b : Int) : Int → Int → Option Value := fun c d => if c = a ∧ d = b then none else T c d
theorem MM.del (h : MM w mb T c) {mt vt : TypeId} (hU : Tryd.prog.underlying mt = some (.map 70 vt)) {a b : Int} (hi : okK a b) (ty : TypeId) : ∃ w', (Builtin.delete_ #[mt, 70] ty #[.map (some mb), .agg #[.int .i64 a, .int .i64 b]]).run Tryd.prog w = .ok (.tuple #[]) w' ∧ MM w' mb (delT T a b) (if (T a b).isSome = true then c - 1 else c) ∧ w.mapTurned w' mb := by
  obtain ⟨D, hm, v⟩ := h
  have hk := keyK hi
  obtain ⟨w', er, h', tt⟩ := hm.drop law hU hk ty
  refine ⟨w', er, ⟨_, own_norm h', ⟨v.tidy.del _, fun y z k => ?_, fun y z k u hy => ?_, ?_⟩⟩, tt⟩
  · unfold delT
    by_cases e : y = a ∧ z = b
    · rw [if_pos e, e.1, e.2]
      exact has_del_same ..
    · rw [if_neg e, has_del_other (fun q => e (kl_inj k hi q)), v.has y z k]
  · unfold delT at hy
    by_cases e : y = a ∧ z = b
    · rw [if_pos e] at hy; cases hy
    · rw [if_neg e] at hy
      intro z'
      rw [atKey_del_other (fun q => e (kl_inj k hi q)), v.at_ y z k u hy]
  · have h1 := size_del (k := kl a b) v.tidy
    rw [v.has a b hi, v.size] at h1
    cases q : (T a b).isSome <;> rw [q] at h1 <;> simp at h1 ⊢ <;> omega
/-- an entry is asked for, and then filled -/
theorem MM.entry (h : MM w mb T c) {mt vt : TypeId} {z : Value} (hU : Tryd.prog.underlying mt = some (.map 70 vt)) (hZ : ∀ W : World, (zeroValue vt).run Tryd.prog W = .ok z W) {a b : Int} (hi : okK a b) (hc : c < 10000000) :
    ∃ (st : Nat) (w1 : World), (Instr.mapEntry mt (.map (some mb)) (.agg #[.int .i64 a, .int .i64 b])).run Tryd.prog w = .ok (.tuple #[(T a b).getD z, goInt st]) w1 ∧ w.mapTurned w1 mb ∧
      ∀ (w2 : World) (x : Value), w2.heap[mb]? = w1.heap[mb]? → ∃ w3, (Instr.entryStore mt (.map (some mb)) (goInt st) x).run Tryd.prog w2 = .ok () w3 ∧ MM w3 mb (putT T a b x) (if (T a b).isSome = true then c else c + 1) ∧ w2.mapTurned w3 mb := by
  have hk := keyK hi
  have hlook := h.look hU hZ hi w rfl
  have hput := fun x => h.put hU hi x hc
  obtain ⟨D, hm, v⟩ := h
  obtain ⟨es, clock, hb, Ft, -, -⟩ := hm
  obtain ⟨v0, st, es1, clock1, e1, -, e3⟩ := WideElems.entry_then_store klaw hU hZ hb Ft hk
  have hv : v0 = (T a b).getD z := by
    rcases klaw.find w hk es.toList Ft.keys with ⟨h1, h2⟩ | ⟨j, e0, h1, h2, h3⟩
    · simp [Instr.mapEntry, run_underlying hU, MapKept.run_getObj_map hb, klaw.check w false hk, h1, hZ, MapKept.run_setObj_map _ hb, Result.andThen] at e1
      simp [Instr.lookup, run_underlying hU, MapKept.run_getObj_map hb, klaw.check w es.isEmpty hk, h1, hZ, Result.andThen] at hlook
      rw [← hlook]
      exact e1.1.1.symm
    · have hj : es[j]? = some e0 := by simpa using h2
      simp [Instr.mapEntry, run_underlying hU, MapKept.run_getObj_map hb, klaw.check w false hk, h1, hj, h3, klaw.stays w hk, MapKept.run_setObj_map _ hb, Result.andThen] at e1
      simp [Instr.lookup, run_underlying hU, MapKept.run_getObj_map hb, klaw.check w es.isEmpty hk, h1, Result.andThen] at hlook
      rw [← hlook]
      exact e1.1.1.symm
  rw [hv] at e1
  have hlt : mb < w.heap.size := (Array.getElem?_eq_some_iff.1 hb).1
  have hs1 : (setBlock w mb (.map es1 clock1)).heap[mb]? = some (.map es1 clock1) := by simp [setBlock, hlt]
  refine ⟨st, setBlock w mb (.map es1 clock1), e1, ⟨es, clock, es1, clock1, hb, rfl⟩, fun w2 x hw2 => ?_⟩
  rw [hs1] at hw2
  obtain ⟨es', clock', r1, r2⟩ := e3 w2 x hw2
  obtain ⟨w4, r3, m4, -⟩ := hput x
  rw [r2] at r3
  have ew : setBlock w mb (.map es' clock') = w4 := by
    injection r3 with _ z
  have hlt2 : mb < w2.heap.size := (Array.getElem?_eq_some_iff.1 hw2).1
  refine ⟨_, r1, m4.of_block ?_, ⟨es1, clock1, es', clock', hw2, rfl⟩⟩
  rw [← ew]
  simp [setBlock, hlt, hlt2]
end Go.Proofs.YtgcdbcljneoifajDoor.MapW
