/-
  Words that wait, seen in a map: by their places, each with the how-manyth it came and a list of numbers of its own.
-/
import Derived.Test.YtndjejbnappmeadDoorCauE
import Derived.Test.YtndjejbnappmeadDoorRows
import Derived.Maps.RangeWalk
import Derived.DeepKeys4
import Derived.MapViews
namespace Go.Proofs.YtndjejbnappmeadDoor.Cap
open Go.RowKit Go.Maps
open Go.Proofs.YtndjejbnappmeadDoor.Cau
open Go.Proofs.YtndjejbnappmeadDoor.Vec (code)
set_option linter.unusedVariables false

theorem laidOut : laidOutB Tryd.prog = true := by kernel_rfl
theorem wideK : (match Tryd.prog.underlying 62 with | some (.array _ _) | some (.struct _) => true | _ => false) = true := by kernel_rfl
theorem rowK : (62 : TypeId) < Tryd.prog.types.size := of_decide_eq_true (by kernel_rfl)
set_option maxRecDepth 100000 in
theorem law : Keyed Tryd.prog 62 := Keyed.of_law (deep_law_laid laidOut (m := 2) (by omega) rowK (by kernel_rfl) wideK)
def kl (a b : Int) : Lit := .string (keyBytes [.int .i64 a, .int .i64 b])
def okK (a b : Int) : Prop := (Lit.int .i64 a).wf = true ∧ (Lit.int .i64 b).wf = true
theorem deepK : Tryd.prog.keyType 62 = true := by kernel_rfl
theorem cellsK : Tryd.prog.cellsOf 62 = 2 := by kernel_rfl
theorem cellsI : Tryd.prog.cellsOf 3 = 1 := by kernel_rfl
set_option maxRecDepth 100000 in
theorem keyK {a b : Int} (h : okK a b) : keyOf Tryd.prog 62 (.agg #[.int .i64 a, .int .i64 b]) = some (kl a b) := by
  unfold keyOf
  simp only [Tryd.underlying62, deepK, Bool.true_and]
  have hf : (Value.agg #[.int .i64 a, .int .i64 b]).formed Tryd.prog 62 = true := by simp [Value.formed, Tryd.underlying62, cellsK]
  rw [hf]
  obtain ⟨k, hk⟩ : ∃ k, Tryd.prog.types.size = k + 1 := ⟨Tryd.prog.types.size - 1, by have h0 : 0 < Tryd.prog.types.size := Nat.lt_of_le_of_lt (Nat.zero_le _) rowK; omega⟩
  rw [hk]
  simp only [Value.cells, Program.keyLits, Tryd.underlying62]
  simp [List.mapM_cons, Tryd.underlying3, cellsK, cellsI, h.1, h.2, kl]
theorem kl_inj {a b c d : Int} (h1 : okK a b) (h2 : okK c d) (e : kl a b = kl c d) : a = c ∧ b = d := by
  have := law.inj (keyK h1) (by rw [keyK h2, e])
  simpa using this
theorem kl_key {a b : Int} (h : okK a b) : WideAt.IsKeyLit (kl a b) := law.key (keyK h)
theorem okK_of {a b : Int} (ha : 0 ≤ a ∧ a ≤ 4) (hb : 0 ≤ b ∧ b ≤ 1000001) : okK a b := by
  refine ⟨?_, ?_⟩ <;> simp [Lit.wf, IntKind.min, IntKind.max, IntKind.bits, IntKind.signed] <;> omega
theorem code_num {xs : List Int} (h : code xs = 0) : xs.length = 5 ∧ ∀ k, k < 5 → 0 ≤ xs.getD k 0 ∧ xs.getD k 0 ≤ 1000000 := by
  unfold code at h
  split at h
  · rename_i e
    refine ⟨e, fun k hk => ?_⟩
    split at h
    · omega
    · rename_i hb
      have : Vec.out (xs.getD k 0) = false := by
        cases q : Vec.out (xs.getD k 0)
        · rfl
        · exact absurd (Vec.anyP_true (p := fun k => Vec.out (xs.getD k 0)) hk q) hb
      simp [Vec.out] at this
      exact this
  · omega
/-- a word that waits: the how-manyth it came, the word, where its numbers lie -/
structure En where
  t : Int
  s : Sd
  g : Nat
  c : Nat
def En.n (e : En) : Int := e.s.2.2.getD e.s.1.toNat 0
def En.clk (e : En) : Value := .slice (some ⟨e.g, 0, none⟩) 5 e.c
def En.val (e : En) : Value := .agg #[.int .i64 e.t, .int .i64 e.s.1, .int .i64 e.s.2.1, .slice (some ⟨e.g, 0, none⟩) 5 e.c]
def En.key (e : En) : Lit := kl e.s.1 e.n
def En.at (e : En) : Value := .agg #[.int .i64 e.s.1, .int .i64 e.n]
theorem who_nat {s : Sd} (h : SdOk s) : ∃ m : Nat, s.1 = (m : Int) ∧ m < 5 := ⟨s.1.toNat, by have := h.who; omega, by have := h.who; omega⟩
theorem SdOk.num {s : Sd} (h : SdOk s) : 0 ≤ s.2.2.getD s.1.toNat 0 ∧ s.2.2.getD s.1.toNat 0 ≤ 1000000 := (code_num h.clk).2 _ (by have := h.who; omega)
theorem En.okK {e : En} (h : SdOk e.s) : okK e.s.1 e.n := okK_of h.who ⟨(SdOk.num h).1, by have := (SdOk.num h).2; unfold En.n; omega⟩
theorem En.keyOf {e : En} (h : SdOk e.s) : keyOf Tryd.prog 62 e.at = some e.key := keyK (En.okK h)
/-- how a word that waits reads: as what it is -/
def RV (v : Value) : Option (DataW Value × List MemPlace) := some (.held v, [])
theorem RV_inv {u v : Value} {ps : List MemPlace} (h : RV u = some (.held v, ps)) : u = v := by
  have h1 : (DataW.held u, ([] : List MemPlace)) = (DataW.held v, ps) := Option.some.inj h
  have h2 : DataW.held u = DataW.held v := (Prod.mk.inj h1).1
  exact DataW.held.inj h2
/-- a map holds just the words that wait -/
structure MW (D : DataW Value) (es : List En) : Prop where
  tidy : Tidy D
  has : ∀ k, Maps.has D k = true ↔ ∃ e ∈ es, k = e.key
  at_ : ∀ e ∈ es, ∀ z, D.atKey e.key z = .held e.val
  size : Maps.size D = es.length
theorem MW.start : MW (.map []) [] := ⟨tidy_empty, fun k => by simp [Maps.has], fun e he => absurd he List.not_mem_nil, rfl⟩
theorem MW.hasnt {D : DataW Value} {es : List En} (g : MW D es) {k : Lit} (h : ∀ e ∈ es, k ≠ e.key) : Maps.has D k = false := by
  cases q : Maps.has D k
  · rfl
  · obtain ⟨e, he, rfl⟩ := (g.has k).1 q
    exact absurd rfl (h e he)
theorem MW.put {D : DataW Value} {es : List En} (g : MW D es) (e : En) (hk : WideAt.IsKeyLit e.key) (hn : ∀ x ∈ es, x.key ≠ e.key) : MW (D.put e.key (.held e.val)) (es ++ [e]) := by
  refine ⟨g.tidy.put hk _, fun k => ?_, fun x hx z => ?_, ?_⟩
  · by_cases q : k = e.key
    · subst q
      exact ⟨fun _ => ⟨e, by simp, rfl⟩, fun _ => has_put_same g.tidy.isMap hk _⟩
    · rw [has_put_other q, g.has]
      constructor
      · rintro ⟨x, hx, rfl⟩
        exact ⟨x, List.mem_append_left _ hx, rfl⟩
      · rintro ⟨x, hx, rfl⟩
        rcases List.mem_append.1 hx with a | a
        · exact ⟨x, a, rfl⟩
        · rw [List.mem_singleton.1 a] at q
          exact absurd rfl q
  · rcases List.mem_append.1 hx with a | a
    · rw [atKey_put_other (hn x a), g.at_ x a]
    · rw [List.mem_singleton.1 a, atKey_put_same g.tidy.isMap hk]
  · rw [size_put g.tidy, g.hasnt (fun x hx q => hn x hx q.symm), List.length_append, g.size]
    rfl
/-- no two have one place -/
abbrev Uq (es : List En) : Prop := es.Pairwise fun a b => a.key ≠ b.key
theorem uq_get {es : List En} (hu : Uq es) {i j : Nat} (hi : i < es.length) (hj : j < es.length) (hne : i ≠ j) : es[i].key ≠ es[j].key := by
  rcases Nat.lt_or_gt_of_ne hne with a | a
  · exact List.pairwise_iff_getElem.1 hu i j hi hj a
  · exact fun e => List.pairwise_iff_getElem.1 hu j i hj hi a e.symm
theorem mem_erase {es : List En} (hu : Uq es) {i : Nat} (hi : i < es.length) (x : En) : x ∈ es.eraseIdx i ↔ x ∈ es ∧ x.key ≠ es[i].key := by
  rw [List.mem_eraseIdx_iff_getElem]
  constructor
  · rintro ⟨j, hj, hne, rfl⟩
    exact ⟨List.getElem_mem _, uq_get hu hj hi hne⟩
  · rintro ⟨hx, hk⟩
    obtain ⟨j, hj, rfl⟩ := List.getElem_of_mem hx
    exact ⟨j, hj, fun e => hk (by subst e; rfl), rfl⟩
theorem MW.del {D : DataW Value} {es : List En} (g : MW D es) (hu : Uq es) {i : Nat} (hi : i < es.length) : MW (D.del es[i].key) (es.eraseIdx i) := by
  refine ⟨g.tidy.del _, fun k => ?_, fun x hx z => ?_, ?_⟩
  · by_cases q : k = es[i].key
    · subst q
      rw [has_del_same]
      refine ⟨fun h => absurd h (by decide), ?_⟩
      rintro ⟨x, hx, e⟩
      exact absurd e.symm ((mem_erase hu hi x).1 hx).2
    · rw [has_del_other q, g.has]
      constructor
      · rintro ⟨x, hx, rfl⟩
        exact ⟨x, (mem_erase hu hi x).2 ⟨hx, q⟩, rfl⟩
      · rintro ⟨x, hx, rfl⟩
        exact ⟨x, ((mem_erase hu hi x).1 hx).1, rfl⟩
  · obtain ⟨h1, h2⟩ := (mem_erase hu hi x).1 hx
    rw [atKey_del_other h2, g.at_ x h1]
  · have h1 := size_del (k := es[i].key) g.tidy
    rw [(g.has _).2 ⟨es[i], List.getElem_mem _, rfl⟩, g.size] at h1
    rw [List.length_eraseIdx, if_pos hi]
    simp at h1
    omega
theorem own_norm {k : TypeId} {w : World} {b n : Nat} {D : DataW Value} (h : w.ownsMap Tryd.prog k RV b n D) : w.ownsMap Tryd.prog k RV b (Maps.size D) D := by
  obtain ⟨es, clock, hb, F, _, rfl⟩ := h
  exact ⟨es, clock, hb, F, by simp [Maps.size, length_sorted], rfl⟩
theorem own_heap {k : TypeId} {w w' : World} {b n : Nat} {D : DataW Value} (h : w.ownsMap Tryd.prog k RV b n D) (he : w'.heap[b]? = w.heap[b]?) : w'.ownsMap Tryd.prog k RV b n D := by
  obtain ⟨es, clock, hb, r⟩ := h
  exact ⟨es, clock, by rw [he]; exact hb, r⟩
set_option maxRecDepth 100000 in
/-- the next one of those that wait, whichever it is -/
theorem next_cases {w : World} {b r n : Nat} {D : DataW Value} {es : List En} {left : Lit → Bool} {cnt : Nat} (h : w.ranges Tryd.prog 62 RV b r n D left cnt) (v : MW D es) (ok : ∀ e ∈ es, SdOk e.s) (ty : TypeId) :
    (cnt = 0 ∧ (∀ kl, left kl = false) ∧ (Instr.next (.pointer (some ⟨r, 0, none⟩)) false ty).run Tryd.prog w = .ok (.tuple #[.bool false]) w) ∨
    ∃ e ∈ es, left e.key = true ∧ ∃ w' cnt', (Instr.next (.pointer (some ⟨r, 0, none⟩)) false ty).run Tryd.prog w = .ok (.tuple #[.bool true, e.at, e.val]) w' ∧
      w'.ranges Tryd.prog 62 RV b r n D (fun x => left x && !x.sameKey e.key) cnt' ∧ cnt' < cnt ∧ w.grownBy w' (some r) ∧ w'.heap.size = w.heap.size ∧ (Instr.entry (.pointer (some ⟨r, 0, none⟩))).run Tryd.prog w' = .ok (.tuple #[e.at, e.val]) w' := by
  rcases h.next law ty with h | ⟨key, u, k, y, w', cnt', hkey, hl, hu, hat, hrun, hrg, hlt, hg, hs, hen⟩
  · exact .inl h
  · obtain ⟨e, he, rfl⟩ := (v.has k).1 (has_true_of_atKey hat)
    have e1 : key = e.at := law.inj hkey (En.keyOf (ok e he))
    have e2 : u = e.val := by
      have q := hat .nil
      rw [v.at_ e he, ← Option.some.inj (hu : some (DataW.held u, []) = some y)] at q
      injection q with q
      exact q.symm
    subst e1 e2
    exact .inr ⟨e, he, hl, w', cnt', hrun, hrg, hlt, hg, hs, hen⟩
end Go.Proofs.YtndjejbnappmeadDoor.Cap
