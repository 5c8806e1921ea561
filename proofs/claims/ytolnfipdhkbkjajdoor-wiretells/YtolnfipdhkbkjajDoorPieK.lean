/-
  The program's Joiner in memory: of how many pieces, and a map of those that came.
-/
import Derived.Test.YtolnfipdhkbkjajDoorPieB
import Derived.Maps.OwnSet
import Derived.Maps.Keyed
import Derived.MapViews
namespace Go.Proofs.YtolnfipdhkbkjajDoor.Pie
open Go.RowKit Go.Maps
open Go.Proofs.YtolnfipdhkbkjajDoor.Fif (own_lt own_block own_form own_mono Kp ret_bool)
set_option linter.unusedVariables false

/-- how many came -/
def cN (T : Nat → Option ByteArray) : Nat → Nat
  | 0 => 0
  | n + 1 => cN T n + (T n).isSome.toNat
def putT (T : Nat → Option ByteArray) (i : Nat) (t : ByteArray) : Nat → Option ByteArray := fun k => if k = i then some t else T k
theorem cN_put {T : Nat → Option ByteArray} {i : Nat} (h : T i = none) (t : ByteArray) (n : Nat) : cN (putT T i t) n = cN T n + (decide (i < n)).toNat := by
  induction n with
  | zero => simp [cN]
  | succ n ih =>
    have e : cN (putT T i t) (n + 1) = cN (putT T i t) n + (putT T i t n).isSome.toNat := rfl
    have e' : cN T (n + 1) = cN T n + (T n).isSome.toNat := rfl
    rw [e, e', ih]
    unfold putT
    by_cases q : n = i
    · subst q
      rw [if_pos rfl, h, decide_eq_false (by omega), decide_eq_true (by omega)]
      rfl
    · rw [if_neg q]
      by_cases q' : i < n
      · rw [decide_eq_true q', decide_eq_true (by omega)]
        simp
        omega
      · rw [decide_eq_false q', decide_eq_false (by omega)]
        simp
theorem cN_lack (j : J) (k : Nat) : cN j.T k + (lackN j k).length = k := by
  induction k with
  | zero => simp [cN, lackN]
  | succ k ih =>
    have e : cN j.T (k + 1) = cN j.T k + (j.T k).isSome.toNat := rfl
    rw [e, lackN_succ, List.length_append]
    cases h : j.T k <;> simp <;> omega
theorem cN_above {T : Nat → Option ByteArray} {k : Nat} (h : ∀ i, k ≤ i → T i = none) (d : Nat) : cN T (k + d) = cN T k := by
  induction d with
  | zero => rfl
  | succ d ih =>
    have e : cN T (k + (d + 1)) = cN T (k + d) + (T (k + d)).isSome.toNat := rfl
    rw [e, ih, h (k + d) (by omega)]
    rfl
theorem cN_zero {T : Nat → Option ByteArray} {n i : Nat} (h : cN T n = 0) (hi : i < n) : T i = none := by
  induction n with
  | zero => omega
  | succ n ih =>
    have e : cN T (n + 1) = cN T n + (T n).isSome.toNat := rfl
    rw [e] at h
    by_cases q : i = n
    · subst q
      cases q : T i
      · rfl
      · rw [q] at h; simp at h
    · exact ih (by omega) (by omega)
theorem cN_le (T : Nat → Option ByteArray) (n : Nat) : cN T n ≤ n := by
  induction n with
  | zero => simp [cN]
  | succ n ih =>
    have e : cN T (n + 1) = cN T n + (T n).isSome.toNat := rfl
    have : (T n).isSome.toNat ≤ 1 := by cases (T n).isSome <;> decide
    omega
theorem JInv.none {j : J} (g : JInv j) {i : Nat} (h : j.of ≤ i) : j.T i = none := by
  cases q : j.T i with
  | none => rfl
  | some t => have := (g.has i t q).1; omega
/-- how many came, and how many lack -/
theorem JInv.cnt {j : J} (g : JInv j) : cN j.T 60 + (lackN j j.of).length = j.of := by
  have e : 60 = j.of + (60 - j.of) := by have := g.of60; omega
  rw [e, cN_above (fun i hi => g.none hi), cN_lack]
def kl (i : Nat) : Lit := .int .i64 (i : Int)
theorem law : Keyed Tryd.prog 3 := int_keyed Tryd.underlying3
theorem keyK {i : Nat} (h : i < 1000) : keyOf Tryd.prog 3 (.int .i64 (i : Int)) = some (kl i) := keyOf_int_mk Tryd.underlying3 (by simp [Lit.wf, IntKind.min, IntKind.max, IntKind.bits, IntKind.signed]; omega)
theorem kl_inj {x y : Nat} (h : kl x = kl y) : x = y := by
  unfold kl at h
  injection h with _ h
  omega
def RV (v : Value) : Option (DataW Value × List MemPlace) := some (.held v, [])
theorem RV_inv {u v : Value} {ps : List MemPlace} (h : RV u = some (.held v, ps)) : u = v := by
  have h1 : (DataW.held u, ([] : List MemPlace)) = (DataW.held v, ps) := Option.some.inj h
  have h2 : DataW.held u = DataW.held v := (Prod.mk.inj h1).1
  exact DataW.held.inj h2
theorem own_norm {k : TypeId} {w : World} {b n : Nat} {D : DataW Value} (h : w.ownsMap Tryd.prog k RV b n D) : w.ownsMap Tryd.prog k RV b (Maps.size D) D := by
  obtain ⟨es, clock, hb, F, _, rfl⟩ := h
  exact ⟨es, clock, hb, F, by simp [Maps.size, length_sorted], rfl⟩
theorem own_heap {k : TypeId} {w w' : World} {b n : Nat} {D : DataW Value} (h : w.ownsMap Tryd.prog k RV b n D) (he : w'.heap[b]? = w.heap[b]?) : w'.ownsMap Tryd.prog k RV b n D := by
  obtain ⟨es, clock, hb, r⟩ := h
  exact ⟨es, clock, by rw [he]; exact hb, r⟩
/-- a map holds just the pieces that came -/
structure MP (D : DataW Value) (T : Nat → Option ByteArray) : Prop where
  tidy : Tidy D
  has : ∀ i, Maps.has D (kl i) = (T i).isSome
  at_ : ∀ i t, T i = some t → ∃ a b : Int, ∀ z, D.atKey (kl i) z = .held (.agg #[.int .i64 a, .int .i64 b, .string t])
  size : Maps.size D = cN T 60
def MM (w : World) (mb : Nat) (T : Nat → Option ByteArray) : Prop := ∃ D, w.ownsMap Tryd.prog 3 RV mb (Maps.size D) D ∧ MP D T
variable {w w' : World} {base P mb : Nat} {j : J} {T : Nat → Option ByteArray}
theorem MM.lt (h : MM w mb T) : mb < w.heap.size := by
  obtain ⟨D, h, _⟩ := h
  exact h.lt
theorem MM.of_block (h : MM w mb T) (he : w'.heap[mb]? = w.heap[mb]?) : MM w' mb T := by
  obtain ⟨D, h, v⟩ := h
  exact ⟨D, own_heap h he, v⟩
theorem MM.row (h : MM w mb T) {P t n : Nat} {f : Nat → Value} (r : w.rowIs P t n f) : P ≠ mb := by
  obtain ⟨D, ⟨es', clock, hb, _⟩, _⟩ := h
  obtain ⟨c, hc, _⟩ := r
  intro e
  rw [e, hb] at hc
  cases hc
theorem zeroP (W : World) : (zeroValue 72).run Tryd.prog W = .ok (.agg #[.int .i64 0, .int .i64 0, .string .empty]) W := by kernel_rfl
/-- did one come? -/
theorem MM.look_ok (h : MM w mb T) {i : Nat} (hi : i < 1000) : ∃ (a b : Int) (t : ByteArray), ∀ W : World, W.heap[mb]? = w.heap[mb]? → (Instr.lookup 121 (.map (some mb)) (.int .i64 (i : Int)) true).run Tryd.prog W = .ok (.tuple #[.agg #[.int .i64 a, .int .i64 b, .string t], .bool (T i).isSome]) W := by
  obtain ⟨D, hm, v⟩ := h
  cases q : T i with
  | none =>
    refine ⟨0, 0, .empty, fun W hW => ?_⟩
    obtain ⟨u, ps, e1, e2⟩ := (own_heap hm hW).look_ok law Tryd.underlying121 (zeroP W) (zd := .held _) (zp := []) rfl (keyK hi)
    rw [atKey_of_not_has (by rw [v.has, q]; rfl)] at e2
    rw [v.has, q, RV_inv e2] at e1
    exact e1
  | some t =>
    obtain ⟨a, b, hz⟩ := v.at_ i t q
    refine ⟨a, b, t, fun W hW => ?_⟩
    obtain ⟨u, ps, e1, e2⟩ := (own_heap hm hW).look_ok law Tryd.underlying121 (zeroP W) (zd := .held _) (zp := []) rfl (keyK hi)
    rw [hz] at e2
    rw [v.has, q, RV_inv e2] at e1
    exact e1
theorem MM.look (h : MM w mb T) {i : Nat} {t : ByteArray} (hi : i < 1000) (ht : T i = some t) : ∃ a b : Int, ∀ W : World, W.heap[mb]? = w.heap[mb]? → (Instr.lookup 121 (.map (some mb)) (.int .i64 (i : Int)) false).run Tryd.prog W = .ok (.agg #[.int .i64 a, .int .i64 b, .string t]) W := by
  obtain ⟨D, hm, v⟩ := h
  obtain ⟨a, b, hz⟩ := v.at_ i t ht
  refine ⟨a, b, fun W hW => ?_⟩
  obtain ⟨u, ps, e1, e2⟩ := (own_heap hm hW).lookup law Tryd.underlying121 (zeroP W) (zd := .held _) (zp := []) rfl (keyK hi)
  rw [hz] at e2
  rw [e1, RV_inv e2]
theorem MM.len (h : MM w mb T) (ty : TypeId) : ∀ W : World, W.heap[mb]? = w.heap[mb]? → (Builtin.len_ #[121] ty #[.map (some mb)]).run Tryd.prog W = .ok (.int .i64 (cN T 60 : Nat)) W := by
  intro W hW
  obtain ⟨D, hm, v⟩ := h
  rw [(own_heap hm hW).len Tryd.underlying121 ty, v.size]
/-- one more came -/
theorem MM.put (h : MM w mb T) {i : Nat} (hi : i < 60) (hn : T i = none) (a b : Int) (t : ByteArray) : ∃ w', (Instr.mapUpdate 121 (.map (some mb)) (.int .i64 (i : Int)) (.agg #[.int .i64 a, .int .i64 b, .string t])).run Tryd.prog w = .ok () w' ∧ MM w' mb (putT T i t) ∧ w.mapTurned w' mb := by
  obtain ⟨D, hm, v⟩ := h
  have hk := keyK (i := i) (by omega)
  obtain ⟨w', er, h', tt⟩ := hm.store law Tryd.underlying121 (by rw [v.size]; have := cN_le T 60; unfold maxLen; omega) hk (val := .agg #[.int .i64 a, .int .i64 b, .string t]) rfl
  refine ⟨w', er, ⟨_, own_norm h', ⟨v.tidy.put (law.key hk) _, fun y => ?_, fun y ty hy => ?_, ?_⟩⟩, tt⟩
  · unfold putT
    by_cases e : y = i
    · rw [if_pos e, e]
      exact has_put_same v.tidy.isMap (law.key hk) _
    · rw [if_neg e, has_put_other (fun q => e (kl_inj q)), v.has]
  · unfold putT at hy
    by_cases e : y = i
    · rw [if_pos e] at hy
      refine ⟨a, b, fun z => ?_⟩
      rw [e, atKey_put_same v.tidy.isMap (law.key hk), ← Option.some.inj hy]
    · rw [if_neg e] at hy
      obtain ⟨a', b', hz⟩ := v.at_ y ty hy
      refine ⟨a', b', fun z => ?_⟩
      rw [atKey_put_other (fun q => e (kl_inj q)), hz]
  · rw [size_put v.tidy, v.has, hn, cN_put hn, v.size, decide_eq_true hi]
    rfl
theorem turned_below {b base : Nat} (h : w.mapTurned w' b) (hb : base ≤ b) : Below base w w' := by
  have hlt : b < w.heap.size := by
    obtain ⟨es, c, _, _, h1, _⟩ := h
    exact (Array.getElem?_eq_some_iff.1 h1).1
  exact (Below.refl base w).grown h.grown (by omega) (fun k e => by cases e; exact hb)
def jv (of mb : Nat) (k : Nat) : Value := if k = 0 then .int .i64 (of : Int) else .map (some mb)
/-- the program's Joiner in memory -/
structure JF (w : World) (base P mb : Nat) (j : J) : Prop where
  row : w.rowIs P 123 2 (jv j.of mb)
  map : MM w mb j.T
  low : base ≤ P ∧ base ≤ mb
  any : j.of ≠ 0 → cN j.T 60 ≠ 0
theorem JF.c0 (h : JF w base P mb j) : w.cell? ⟨P, 0, none⟩ = some (.int .i64 (j.of : Int)) ∧ w.frozen? ⟨P, 0, none⟩ = false := ⟨World.rowIs.cell h.row (i := 0) (by omega), World.rowIs.frozen h.row 0⟩
theorem JF.c1 (h : JF w base P mb j) : w.cell? ⟨P, 1, none⟩ = some (.map (some mb)) ∧ w.frozen? ⟨P, 1, none⟩ = false := ⟨World.rowIs.cell h.row (i := 1) (by omega), World.rowIs.frozen h.row 1⟩
theorem JF.lt (h : JF w base P mb j) : P < w.heap.size ∧ mb < w.heap.size := ⟨World.rowIs.lt h.row, h.map.lt⟩
theorem JF.of_blocks (h : JF w base P mb j) (h1 : w'.heap[P]? = w.heap[P]?) (h2 : w'.heap[mb]? = w.heap[mb]?) : JF w' base P mb j := ⟨World.rowIs.of_block h.row h1, h.map.of_block h2, h.low, h.any⟩
theorem JF.later (h : JF w base P mb j) (hb : Below w.heap.size w w') : JF w' base P mb j := h.of_blocks (hb.block _ h.lt.1) (hb.block _ h.lt.2)
def JS (w : World) (base P : Nat) (j : J) (fp : List Nat) : Prop := ∃ mb, fp = [P, mb] ∧ JF w base P mb j
theorem JS.of_blocks {fp : List Nat} (h : JS w base P j fp) (hs : w.heap.size ≤ w'.heap.size) (hk : ∀ b ∈ fp, w'.heap[b]? = w.heap[b]?) : JS w' base P j fp := by
  obtain ⟨mb, rfl, h⟩ := h
  exact ⟨mb, rfl, h.of_blocks (hk P (by simp)) (hk mb (by simp))⟩
theorem JS.fp {fp : List Nat} (h : JS w base P j fp) : ∀ b ∈ fp, base ≤ b ∧ b < w.heap.size := by
  obtain ⟨mb, rfl, h⟩ := h
  intro b hb
  rcases List.mem_cons.1 hb with rfl | hb
  · exact ⟨h.low.1, h.lt.1⟩
  · rw [List.mem_singleton.1 hb]
    exact ⟨h.low.2, h.lt.2⟩
end Go.Proofs.YtolnfipdhkbkjajDoor.Pie
