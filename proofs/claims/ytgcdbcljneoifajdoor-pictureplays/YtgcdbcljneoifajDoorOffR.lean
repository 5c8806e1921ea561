/-
  A row of numbers that the call owns, seen from some place on: what 'xs[1:]' and append make of it.
-/
import Derived.Test.YtgcdbcljneoifajDoorFifA
import Derived.Test.YtgcdbcljneoifajDoorVecC
import Derived.Deep.AppendLies
namespace Go.Proofs.YtgcdbcljneoifajDoor.Off
open Go.RowKit
open Go.Proofs.YtgcdbcljneoifajDoor.Vec (Vw)
set_option linter.unusedVariables false

def OR (w : World) (base : Nat) (v : Value) (l : List Int) : Prop :=
  (v = .slice none 0 0 ∧ l = []) ∨ ∃ g off cap cur, v = .slice (some ⟨g, off, none⟩) l.length cap ∧ base ≤ g ∧ w.heap[g]? = some (.cells cur 3 (0, 0)) ∧ l.length ≤ cap ∧ cap ≤ maxLen ∧ off + cap ≤ cur.size ∧ ∀ k, k < l.length → cur[off + k]? = some (.int .i64 (l.getD k 0))
variable {w w' : World} {base : Nat} {v : Value} {l : List Int}
theorem OR.nil (w : World) (base : Nat) : OR w base (.slice none 0 0) [] := .inl ⟨rfl, rfl⟩
theorem OR.lt (h : OR w base v l) : ∀ b, v.ownBlock = some b → base ≤ b ∧ b < w.heap.size := by
  intro b hb
  rcases h with ⟨rfl, _⟩ | ⟨g, off, cap, cur, rfl, h1, h2, _⟩
  · cases hb
  · have e : g = b := by simpa [Value.ownBlock] using hb
    subst e
    exact ⟨h1, (Array.getElem?_eq_some_iff.1 h2).1⟩
theorem OR.of_block (h : OR w base v l) (hk : ∀ b, v.ownBlock = some b → w'.heap[b]? = w.heap[b]?) : OR w' base v l := by
  rcases h with h | ⟨g, off, cap, cur, rfl, h1, h2, r⟩
  · exact .inl h
  · exact .inr ⟨g, off, cap, cur, rfl, h1, by rw [hk g rfl]; exact h2, r⟩
theorem OR.later (h : OR w base v l) (hb : Below w.heap.size w w') : OR w' base v l := h.of_block fun b q => hb.block b (h.lt b q).2
theorem OR.lower (h : OR w base v l) {base' : Nat} (hb : base' ≤ base) : OR w base' v l := by
  rcases h with h | ⟨g, off, cap, cur, e, h1, r⟩
  · exact .inl h
  · exact .inr ⟨g, off, cap, cur, e, Nat.le_trans hb h1, r⟩
theorem OR.kind (h : OR w base v l) {b : Nat} (hb : v.ownBlock = some b) : ∃ cur, w.heap[b]? = some (.cells cur 3 (0, 0)) := by
  rcases h with ⟨rfl, _⟩ | ⟨g, off, cap, cur, rfl, h1, h2, _⟩
  · cases hb
  · have e : g = b := by simpa [Value.ownBlock] using hb
    subst e
    exact ⟨cur, h2⟩
theorem OR.vw (h : OR w base v l) : ∃ a cap, v = .slice a l.length cap ∧ l.length ≤ cap ∧ cap ≤ maxLen ∧ Vw w a l.length l := by
  rcases h with ⟨rfl, rfl⟩ | ⟨g, off, cap, cur, rfl, h1, h2, h3, h4, h5, h6⟩
  · exact ⟨none, 0, rfl, Nat.le_refl _, Nat.zero_le _, rfl, fun q => absurd q (by simp)⟩
  · refine ⟨_, cap, rfl, h3, h4, rfl, fun _ => ⟨g, off, rfl, (Array.getElem?_eq_some_iff.1 h2).1, fun k hk => ?_⟩⟩
    simp only [World.cell?, h2]
    exact h6 k hk
theorem OR.form (h : OR w base v l) : ∃ a cap, v = .slice a l.length cap := by
  obtain ⟨a, cap, e, _⟩ := h.vw
  exact ⟨a, cap, e⟩
/-- all but the first one -/
theorem OR.tail {x : Int} (h : OR w base v (x :: l)) : ∃ g off cap, v = .slice (some ⟨g, off, none⟩) (l.length + 1) cap ∧ l.length + 1 ≤ cap ∧ cap ≤ maxLen ∧ w.cell? ⟨g, off, none⟩ = some (.int .i64 x) ∧ (cap ≠ 1 → OR w base (.slice (some ⟨g, off + 1, none⟩) l.length (cap - 1)) l) ∧ (cap = 1 → OR w base (.slice (some ⟨g, off, none⟩) l.length (cap - 1)) l) := by
  rcases h with ⟨_, h⟩ | ⟨g, off, cap, cur, rfl, h1, h2, h3, h4, h5, h6⟩
  · cases h
  · rw [List.length_cons] at h3 h6
    refine ⟨g, off, cap, rfl, h3, h4, ?_, fun q => .inr ⟨g, off + 1, cap - 1, cur, rfl, h1, h2, by omega, by omega, by omega, fun k hk => ?_⟩, fun q => .inr ⟨g, off, cap - 1, cur, rfl, h1, h2, by omega, by omega, by omega, fun k hk => by omega⟩⟩
    · simp only [World.cell?, h2]
      have := h6 0 (by omega)
      simpa using this
    · have := h6 (k + 1) (by omega)
      rw [show off + 1 + k = off + (k + 1) by omega, this]
      simp
theorem run_append_room_off {P : Program} (w : World) (t ty e : TypeId) (i : TypeInfo) (ht : P.underlying t = some (.slice e)) (hi : P.info? e = some i)
    (g off sLen sCap : Nat) (cur : Array Value) (hg : w.heap[g]? = some (.cells cur e (0, 0)))
    (a : Addr) (m c : Nat) (news : List Value) (hl : news.length = m * i.size) (hnews : ∀ j u, news[j]? = some u → w.cell? (a.add j) = some u) (h1 : ∀ u ∈ news, u.oneCell' = true)
    (hroom : sLen + m ≤ sCap) (hfit : off + sLen * i.size + news.length ≤ cur.size) :
    (Builtin.append_ #[t, t] ty #[.slice (some ⟨g, off, none⟩) sLen sCap, .slice (some a) m c]).run P w =
      .ok (.slice (some ⟨g, off, none⟩) (sLen + m) sCap) (w.setRow g (cur.toList.take (off + sLen * i.size) ++ news ++ cur.toList.drop (off + sLen * i.size + news.length)).toArray) := by
  have hf := run_firstCells_some (P := P) w i.size m a m c news hl hnews
  have hst := run_storeCells_at P g (off + sLen * i.size) e news 0 cur w hg (by simpa using hfit) h1
  simp only [Nat.add_zero] at hst
  simp [Builtin.append_, run_underlying ht, sizeOf, typeInfo, hi, Builtin.lenOf, hroom, hf, Addr.add_lit, hst]
/-- one number more -/
theorem OR.append {P : Program} (h : OR w base v l) (hbase : base ≤ w.heap.size) (t ty : TypeId) (i : TypeInfo) (ht : P.underlying t = some (.slice 3)) (hi : P.info? 3 = some i) (hz : i.zero = some (.int .i64 0)) (hs : i.size = 1) (hby : i.bytes = 8)
    (a : Addr) (c : Nat) (x : Int) (hx : ∀ j u, [Value.int .i64 x][j]? = some u → w.cell? (a.add j) = some u) (hl : l.length ≤ 1000000) :
    ∃ g off cap w', (Builtin.append_ #[t, t] ty #[v, .slice (some a) 1 c]).run P w = .ok (.slice (some ⟨g, off, none⟩) (l.length + 1) cap) w' ∧ OR w' base (.slice (some ⟨g, off, none⟩) (l.length + 1) cap) (l ++ [x]) ∧ w.grownBy w' v.ownBlock ∧ (v.ownBlock = some g ∨ g = w.heap.size) := by
  have h1 : ∀ u ∈ [Value.int .i64 x], u.oneCell' = true := by
    intro u hu
    rw [List.mem_singleton.1 hu]
    rfl
  have hll : (l ++ [x]).length = l.length + 1 := by simp
  have hget : ∀ k, k < l.length → (l ++ [x]).getD k 0 = l.getD k 0 := fun k hk => by simp [List.getD, List.getElem?_append_left hk]
  have hlast : (l ++ [x]).getD l.length 0 = x := by simp [List.getD]
  -- a new row
  have fresh : ∀ (cap : Nat), l.length + 1 ≤ cap → cap ≤ maxLen → ∀ zs : Array Value, zs.size = cap - (l.length + 1) → OR (w.drew.alloc (.cells ((l.map (Value.int .i64)).toArray ++ [Value.int .i64 x].toArray ++ zs) 3)) base (.slice (some ⟨w.heap.size, 0, none⟩) (l.length + 1) cap) (l ++ [x]) := by
    intro cap q1 q2 zs q3
    refine .inr ⟨w.heap.size, 0, cap, _, by rw [hll], hbase, heap_alloc_new w.drew _, by rw [hll]; exact q1, q2, ?_, fun k hk => ?_⟩
    · simp [q3]
      omega
    · rw [hll] at hk
      rw [Nat.zero_add]
      by_cases e : k < l.length
      · rw [hget k e]
        simp [Array.getElem?_append, e, List.getD, List.getElem?_append]
        intro z
        omega
      · have ek : k = l.length := by omega
        subst ek
        rw [hlast]
        simp [Array.getElem?_append]
  rcases h with ⟨rfl, rfl⟩ | ⟨g, off, cap, cur, rfl, q1, q2, q3, q4, q5, q6⟩
  · have hr := run_append_nil (P := P) w t ty 3 i (.int .i64 0) ht hi hz a 1 c [.int .i64 x] (by rw [hs]; rfl) hx (by omega) (by omega) (by rw [hby]; omega)
    refine ⟨w.heap.size, 0, _, _, hr, ?_, ⟨rfl, rfl, rfl, by simp, fun k hk _ => Below.heap_alloc w.drew _ k hk⟩, .inr rfl⟩
    have q := fresh (grownCap w 1 0 3) (grownCap_ge w 1 0 3) (grownCap_le_maxLen w 1 0 3 (by unfold maxLen; omega)) (Builtin.zeroCells (Value.int .i64 0).cells (grownCap w 1 0 3 - 1)) (by rw [size_zeroCells]; exact Nat.mul_one _)
    simpa using q
  · by_cases hroom : l.length + 1 ≤ cap
    · have hr := run_append_room_off (P := P) w t ty 3 i ht hi g off l.length cap cur q2 a 1 c [.int .i64 x] (by rw [hs]; rfl) hx h1 hroom (by rw [hs]; simp; omega)
      refine ⟨g, off, cap, _, hr, .inr ⟨g, off, cap, _, by rw [hll], q1, setRow_heap w g cur _ 3 _ q2, by rw [hll]; exact hroom, q4, ?_, fun k hk => ?_⟩, ⟨rfl, rfl, rfl, by simp, fun k _ hk => setRow_other w g k _ (fun e => hk (by simp [Value.ownBlock, e]))⟩, .inl rfl⟩
      · rw [hs]
        simp only [List.size_toArray, List.length_append, List.length_take, List.length_drop, Array.length_toList, List.length_cons, List.length_nil]
        omega
      · rw [hs, Nat.mul_one]
        rw [hll] at hk
        have htl : (cur.toList.take (off + l.length)).length = off + l.length := by
          have z : cur.toList.length = cur.size := Array.length_toList
          rw [List.length_take, z]
          omega
        by_cases e : k < l.length
        · rw [hget k e, ← q6 k e, List.getElem?_toArray, List.append_assoc, List.getElem?_append_left (by rw [htl]; omega), List.getElem?_take_of_lt (by omega), Array.getElem?_toList]
        · have ek : k = l.length := by omega
          subst ek
          rw [hlast, List.getElem?_toArray, List.append_assoc, List.getElem?_append_right (by rw [htl]; omega), htl]
          simp
    · have holds : ∀ j u, (l.map (Value.int .i64))[j]? = some u → w.cell? ((⟨g, off, none⟩ : Addr).add j) = some u := by
        intro j u hu
        have hj : j < l.length := by
          have := (List.getElem?_eq_some_iff.1 hu).1
          simpa using this
        rw [Addr.add_lit]
        simp only [World.cell?, q2]
        rw [q6 j hj, ← hu]
        simp [List.getD, hj]
      have hr := run_append_grow (P := P) w t ty 3 i (.int .i64 0) ht hi hz ⟨g, off, none⟩ l.length cap (l.map (Value.int .i64)) (by rw [hs, List.length_map, Nat.mul_one]) holds a 1 c [.int .i64 x] (by rw [hs]; rfl) hx (by omega) (by omega) (by rw [hby]; exact growslice_fits (by omega) (by omega))
      refine ⟨w.heap.size, 0, _, _, hr, ?_, ⟨rfl, rfl, rfl, by simp, fun k hk _ => Below.heap_alloc w.drew _ k hk⟩, .inr rfl⟩
      exact fresh (grownCap w (l.length + 1) cap 3) (grownCap_ge w _ _ _) (grownCap_le_maxLen w _ _ _ (by unfold maxLen; omega)) _ (by rw [size_zeroCells]; exact Nat.mul_one _)
/-- at a step of a region that draws its order -/
theorem step_append_off {P : Program} {w : World} {ops : Array Oper} {o : Oper} {a : Act} {K : Act → World → Prop} {Q : Exit → Act → World → Prop} {E : Prop} (hgd : o.guard = none) (s x : Operand) (t : TypeId)
    (ho : o.op = .call { callee := .builtin .append, args := #[s, x], argTypes := #[t, t] })
    (base : Nat) (i : TypeInfo) (ht : P.underlying t = some (.slice 3)) (hi : P.info? 3 = some i) (hz : i.zero = some (.int .i64 0)) (hs : i.size = 1) (hby : i.bytes = 8)
    (v : Value) (l : List Int) (hv : a.eval s = v) (hown : OR w base v l) (ad : Addr) (c : Nat) (y : Int) (hx : a.eval x = .slice (some ad) 1 c) (hy : ∀ j u, [Value.int .i64 y][j]? = some u → w.cell? (ad.add j) = some u) (hl : l.length ≤ 1000000) (hbase : base ≤ w.heap.size)
    (h : ∀ g off cap w', OR w' base (.slice (some ⟨g, off, none⟩) (l.length + 1) cap) (l ++ [y]) → w.grownBy w' v.ownBlock → (v.ownBlock = some g ∨ g = w.heap.size) → K (a.put o.dst (.slice (some ⟨g, off, none⟩) (l.length + 1) cap)) w') : if Region.wanted o (yielded ops a.tmps) = true then Oper.wp P o a w K Q else E := by
  have hw : Region.wanted o (yielded ops a.tmps) = true := by simp [Region.wanted, hgd]
  rw [if_pos hw]
  obtain ⟨g, off, cap, w', hrun, h1, h2, h3⟩ := hown.append (P := P) hbase t o.type i ht hi hz hs hby ad c y hy hl
  unfold Oper.wp
  simp [execOp, ho, resolve, invoke, builtin, hv, hx, hrun, Result.andThen]
  exact h g off cap w' h1 h2 h3
end Go.Proofs.YtgcdbcljneoifajDoor.Off
