/-
  Events that the call itself lays behind others: what append makes of a slice of events.
-/
import Derived.Test.YtpjoaogiaacikakGreatDoorMgH
import Derived.Deep.AppendLies
namespace Go.Proofs.YtpjoaogiaacikakGreatDoor.His
open Go.RowKit

def flat (h : List Ev) : List Value := h.flatMap fun e => [.int .i64 e.1, .int .i64 e.2.1, .int .i64 e.2.2]
theorem flat_len (h : List Ev) : (flat h).length = h.length * 3 := by
  induction h with
  | nil => rfl
  | cons e h ih =>
    have : flat (e :: h) = [.int .i64 e.1, .int .i64 e.2.1, .int .i64 e.2.2] ++ flat h := rfl
    rw [this, List.length_append, ih, List.length_cons]
    simp
    omega
theorem flat_append (h g : List Ev) : flat (h ++ g) = flat h ++ flat g := by simp [flat]
theorem flat_one (h : List Ev) : ∀ u ∈ flat h, u.oneCell' = true := by
  intro u hu
  obtain ⟨e, _, he⟩ := List.mem_flatMap.1 hu
  simp at he
  rcases he with rfl | rfl | rfl <;> rfl
theorem flat_get (h : List Ev) : ∀ k, k < h.length → (flat h)[k * 3]? = some (.int .i64 (ev h k).1) ∧ (flat h)[k * 3 + 1]? = some (.int .i64 (ev h k).2.1) ∧ (flat h)[k * 3 + 2]? = some (.int .i64 (ev h k).2.2) := by
  induction h with
  | nil => intro k hk; simp at hk
  | cons e h ih =>
    intro k hk
    have e3 : flat (e :: h) = .int .i64 e.1 :: .int .i64 e.2.1 :: .int .i64 e.2.2 :: flat h := rfl
    rw [e3]
    cases k with
    | zero => exact ⟨rfl, rfl, rfl⟩
    | succ k =>
      have := ih k (by simpa using hk)
      have e0 : ev (e :: h) (k + 1) = ev h k := rfl
      rw [e0, show (k + 1) * 3 = k * 3 + 3 by omega]
      exact this
theorem mod3 {n j : Nat} (h : j < n * 3) : ∃ k r, k < n ∧ r < 3 ∧ j = k * 3 + r := ⟨j / 3, j % 3, by omega, by omega, by omega⟩
theorem flat_news {w : World} {b off len : Nat} {h : List Ev} (g : Ew w (some ⟨b, off, none⟩) len h) : ∀ j u, (flat h)[j]? = some u → w.cell? ((⟨b, off, none⟩ : Addr).add j) = some u := by
  intro j u hj
  have hlt : j < h.length * 3 := by
    have := (List.getElem?_eq_some_iff.1 hj).1
    rwa [flat_len] at this
  obtain ⟨k, r, hk, hr, rfl⟩ := mod3 hlt
  obtain ⟨b', off', e, _, hc⟩ := g.2 (by have := g.1; omega)
  injection e with e
  injection e with e1 e2 _
  subst e1 e2
  obtain ⟨c0, c1, c2⟩ := hc k (by have := g.1; omega)
  obtain ⟨f0, f1, f2⟩ := flat_get h k hk
  rw [Addr.add_lit]
  rcases r with _ | _ | _ | r
  · rw [Nat.add_zero] at hj ⊢; rw [c0, ← f0, hj]
  · rw [← Nat.add_assoc, c1, ← f1, hj]
  · rw [← Nat.add_assoc, c2, ← f2, hj]
  · omega
/-- a slice of events that the call owns -/
def Eo (w : World) (base : Nat) (v : Value) (h : List Ev) : Prop := w.ownsRow base 40 3 v h.length (flat h)
theorem Eo.ew {w : World} {base g n cap : Nat} {h : List Ev} (o : Eo w base (.slice (some ⟨g, 0, none⟩) n cap) h) : n = h.length ∧ Ew w (some ⟨g, 0, none⟩) n h ∧ n ≤ cap ∧ cap ≤ maxLen ∧ base ≤ g := by
  obtain ⟨_, h2⟩ := o
  rcases h2 with ⟨h2, _⟩ | ⟨g', cap', cur, hv, hb, hh, hc, hm, hsz, ht⟩
  · cases h2
  · injection hv with hv e2 e3
    injection hv with hv
    injection hv with hv _ _
    subst hv e2 e3
    refine ⟨rfl, ⟨rfl, fun hl => ⟨g, 0, rfl, ?_, fun k hk => ?_⟩⟩, hc, hm, hb⟩
    · rcases Nat.lt_or_ge g w.heap.size with hlt | hge
      · exact hlt
      · rw [Array.getElem?_eq_none hge] at hh; cases hh
    · obtain ⟨f0, f1, f2⟩ := flat_get h k hk
      have key : ∀ j u, j < h.length * 3 → (flat h)[j]? = some u → w.cell? ⟨g, j, none⟩ = some u := by
        intro j u hj hu
        rw [← ht, List.getElem?_take_of_lt hj] at hu
        simp only [World.cell?, hh]
        simpa using hu
      rw [Nat.zero_add]
      exact ⟨key _ _ (by omega) f0, key _ _ (by omega) f1, key _ _ (by omega) f2⟩
theorem Eo.later {w w' : World} {base g n cap : Nat} {h : List Ev} (o : Eo w base (.slice (some ⟨g, 0, none⟩) n cap) h) (hb : Below w.heap.size w w') : Eo w' base (.slice (some ⟨g, 0, none⟩) n cap) h := by
  obtain ⟨h1, h2⟩ := o
  rcases h2 with ⟨h2, _⟩ | ⟨g', cap', cur, hv, hbg, hh, hc, hm, hsz, ht⟩
  · cases h2
  · refine ⟨h1, .inr ⟨g', cap', cur, hv, hbg, ?_, hc, hm, hsz, ht⟩⟩
    rw [hb.block g' ?_]
    · exact hh
    · rcases Nat.lt_or_ge g' w.heap.size with hlt | hge
      · exact hlt
      · rw [Array.getElem?_eq_none hge] at hh; cases hh
theorem Eo.alloc {w : World} {base : Nat} {v : Value} {h : List Ev} (o : Eo w base v h) (x : Obj) : Eo (w.alloc x) base v h := by
  obtain ⟨h1, h2⟩ := o
  refine ⟨h1, ?_⟩
  rcases h2 with h2 | ⟨g', cap', cur, hv, hbg, hh, hc, hm, hsz, ht⟩
  · exact .inl h2
  · refine .inr ⟨g', cap', cur, hv, hbg, ?_, hc, hm, hsz, ht⟩
    have hlt : g' < w.heap.size := by
      rcases Nat.lt_or_ge g' w.heap.size with hlt | hge
      · exact hlt
      · rw [Array.getElem?_eq_none hge] at hh; cases hh
    rw [((Below.refl w.heap.size w).alloc (Nat.le_refl _) x).block g' hlt]
    exact hh
theorem Eo.own {w : World} {base : Nat} {v : Value} {h : List Ev} (o : Eo w base v h) : ∀ k, v.ownBlock = some k → base ≤ k := by
  intro k hk
  rcases o.2 with ⟨h2, _⟩ | ⟨g', cap', cur, hv, hbg, _⟩
  · rw [h2] at hk; cases hk
  · rw [hv] at hk
    have : g' = k := by simpa [Value.ownBlock] using hk
    omega
theorem news1 (w : World) (B : Nat) (hB : B = w.heap.size) (x0 x1 x2 : Int) (t : TypeId) : ∀ j u, (flat [(x0, x1, x2)])[j]? = some u → (w.alloc (.cells #[.int .i64 x0, .int .i64 x1, .int .i64 x2] t)).cell? ((⟨B, 0, none⟩ : Addr).add j) = some u := by
  subst hB
  intro j u hj
  rw [Addr.add_lit, Nat.zero_add]
  have hlt := (List.getElem?_eq_some_iff.1 hj).1
  rw [flat_len] at hlt
  simp only [List.length_cons, List.length_nil] at hlt
  rcases j with _ | _ | _ | j
  · simpa [flat] using hj
  · simpa [flat] using hj
  · simpa [flat] using hj
  · omega
theorem infoEv : (Tryz.prog.info? 40).map (fun i => (i.zero, i.size, i.bytes)) = some (some (.agg #[.int .i64 0, .int .i64 0, .int .i64 0]), 3, 24) := by kernel_rfl
theorem info_ev : ∃ i, Tryz.prog.info? 40 = some i ∧ i.zero = some (.agg #[.int .i64 0, .int .i64 0, .int .i64 0]) ∧ i.size = 3 ∧ i.bytes = 24 := by
  obtain ⟨i, hi, hzz⟩ := Option.map_eq_some_iff.1 infoEv
  simp only [Prod.mk.injEq] at hzz
  exact ⟨i, hi, hzz.1, hzz.2.1, hzz.2.2⟩
end Go.Proofs.YtpjoaogiaacikakGreatDoor.His
