/-
  Small facts on rows that the call owns: of numbers, and of words that have come; what is left alone.
-/
import Derived.Test.YtgcdbcljneoifacDoorFifM
import Derived.Test.YtgcdbcljneoifacDoorVecB
import Derived.Deep.AppendLies
import Derived.Deep.OwnRows
namespace Go.Proofs.YtgcdbcljneoifacDoor.Fif
open Go.RowKit
open Go.Proofs.YtgcdbcljneoifacDoor.Vec (Vw)

theorem ret_bool {a b : Bool} (h : a = b) : Ending.returned (.bool a) = .returned (.bool b) := by rw [h]
theorem below_up {w w1 w2 : World} {B : Nat} (h : Below B w w1) (h' : Below w1.heap.size w1 w2) : Below B w w2 ∨ w.heap.size < B := by
  rcases Nat.lt_or_ge w.heap.size B with a | a
  · exact .inr a
  · exact .inl (h.trans (h'.mono (Nat.le_trans a h.size)))
def cm (ws : List Cm) (i : Nat) : Cm := ws.getD i (0, 0, 0)
theorem cm_get {ws : List Cm} {i : Nat} (hi : i < ws.length) : cm ws i = ws[i] := by
  show ws.getD _ _ = _
  rw [List.getD, List.getElem?_eq_getElem hi]
  rfl
def flat (ws : List Cm) : List Value := ws.flatMap fun e => [.int .i64 e.1, .int .i64 e.2.1, .int .i64 e.2.2]
theorem flat_len (ws : List Cm) : (flat ws).length = ws.length * 3 := by
  induction ws with
  | nil => rfl
  | cons e ws ih =>
    have : flat (e :: ws) = [.int .i64 e.1, .int .i64 e.2.1, .int .i64 e.2.2] ++ flat ws := rfl
    rw [this, List.length_append, ih, List.length_cons]
    simp
    omega
theorem flat_append (a b : List Cm) : flat (a ++ b) = flat a ++ flat b := by simp [flat]
theorem flat_one (ws : List Cm) : ∀ u ∈ flat ws, u.oneCell' = true := by
  intro u hu
  obtain ⟨e, _, he⟩ := List.mem_flatMap.1 hu
  simp at he
  rcases he with rfl | rfl | rfl <;> rfl
theorem flat_get (ws : List Cm) : ∀ k, k < ws.length → (flat ws)[k * 3]? = some (.int .i64 (cm ws k).1) ∧ (flat ws)[k * 3 + 1]? = some (.int .i64 (cm ws k).2.1) ∧ (flat ws)[k * 3 + 2]? = some (.int .i64 (cm ws k).2.2) := by
  induction ws with
  | nil => intro k hk; simp at hk
  | cons e ws ih =>
    intro k hk
    have e3 : flat (e :: ws) = .int .i64 e.1 :: .int .i64 e.2.1 :: .int .i64 e.2.2 :: flat ws := rfl
    rw [e3]
    cases k with
    | zero => exact ⟨rfl, rfl, rfl⟩
    | succ k =>
      have := ih k (by simpa using hk)
      have e0 : cm (e :: ws) (k + 1) = cm ws k := rfl
      rw [e0, show (k + 1) * 3 = k * 3 + 3 by omega]
      exact this
theorem flat_take (ws : List Cm) (i : Nat) : flat (ws.take i) = (flat ws).take (i * 3) := by
  induction ws generalizing i with
  | nil => simp [flat]
  | cons e ws ih =>
    cases i with
    | zero => simp [flat]
    | succ i =>
      have e3 : ∀ l, flat (e :: l) = .int .i64 e.1 :: .int .i64 e.2.1 :: .int .i64 e.2.2 :: flat l := fun _ => rfl
      rw [List.take_succ_cons, e3, e3, ih, show (i + 1) * 3 = i * 3 + 1 + 1 + 1 by omega]
      simp
theorem flat_drop (ws : List Cm) (i : Nat) : flat (ws.drop i) = (flat ws).drop (i * 3) := by
  induction ws generalizing i with
  | nil => simp [flat]
  | cons e ws ih =>
    cases i with
    | zero => simp
    | succ i =>
      have e3 : ∀ l, flat (e :: l) = .int .i64 e.1 :: .int .i64 e.2.1 :: .int .i64 e.2.2 :: flat l := fun _ => rfl
      rw [List.drop_succ_cons, e3, ih, show (i + 1) * 3 = i * 3 + 1 + 1 + 1 by omega]
      simp
/-- the words that wait, in a row that the call owns -/
def Co (w : World) (base : Nat) (v : Value) (ws : List Cm) : Prop := w.ownsRow base 66 3 v ws.length (flat ws)
theorem Co.form {w : World} {base : Nat} {v : Value} {ws : List Cm} (h : Co w base v ws) : ∃ q cap, v = .slice q ws.length cap ∧ ws.length ≤ cap ∧ cap ≤ maxLen ∧ (0 < ws.length → ∃ g, q = some ⟨g, 0, none⟩ ∧ base ≤ g ∧ g < w.heap.size ∧ ∀ j u, (flat ws)[j]? = some u → w.cell? ⟨g, j, none⟩ = some u) := by
  rcases h.2 with ⟨h2, h3⟩ | ⟨g, cap, cur, hv, hb, hh, hc, hm, hsz, ht⟩
  · refine ⟨none, 0, by rw [h3]; exact h2, by omega, by unfold maxLen; omega, fun q => absurd q (by omega)⟩
  · refine ⟨_, cap, hv, hc, hm, fun _ => ⟨g, rfl, hb, ?_, fun j u hj => ?_⟩⟩
    · rcases Nat.lt_or_ge g w.heap.size with hlt | hge
      · exact hlt
      · rw [Array.getElem?_eq_none hge] at hh; cases hh
    · have hlt : j < ws.length * 3 := by
        have := (List.getElem?_eq_some_iff.1 hj).1
        rwa [flat_len] at this
      rw [← ht, List.getElem?_take_of_lt hlt] at hj
      simp only [World.cell?, hh]
      simpa using hj
theorem own_lt {w : World} {base : Nat} {t : TypeId} {s : Nat} {v : Value} {n : Nat} {xs : List Value} (o : w.ownsRow base t s v n xs) : ∀ k, v.ownBlock = some k → base ≤ k ∧ k < w.heap.size := by
  intro k hk
  rcases o.2 with ⟨h2, _⟩ | ⟨g', cap', cur, hv, hbg, hh, _⟩
  · rw [h2] at hk; cases hk
  · rw [hv] at hk
    have : g' = k := by simpa [Value.ownBlock] using hk
    subst this
    refine ⟨hbg, ?_⟩
    rcases Nat.lt_or_ge g' w.heap.size with hlt | hge
    · exact hlt
    · rw [Array.getElem?_eq_none hge] at hh; cases hh
/-- a row stays where its block stays -/
theorem own_block {w w' : World} {base : Nat} {t : TypeId} {s : Nat} {v : Value} {n : Nat} {xs : List Value} (o : w.ownsRow base t s v n xs) (hb : ∀ k, v.ownBlock = some k → w'.heap[k]? = w.heap[k]?) : w'.ownsRow base t s v n xs := by
  obtain ⟨h1, h2⟩ := o
  refine ⟨h1, ?_⟩
  rcases h2 with h2 | ⟨g', cap', cur, hv, hbg, hh, hc, hm, hsz, ht⟩
  · exact .inl h2
  · refine .inr ⟨g', cap', cur, hv, hbg, ?_, hc, hm, hsz, ht⟩
    rw [hb g' (by rw [hv]; rfl)]
    exact hh
theorem own_vw {w : World} {base n : Nat} {t : TypeId} {v : Value} {xs : List Int} (h : w.ownsRow base t 1 v n (xs.map (Value.int .i64))) : ∃ a cap, v = .slice a n cap ∧ Vw w a n xs := by
  obtain ⟨h1, h2⟩ := h
  have hl : xs.length = n := by simpa using h1
  rcases h2 with ⟨h2, rfl⟩ | ⟨g, cap, cur, hv, _, hh, _, _, hsz, ht⟩
  · exact ⟨none, 0, h2, hl, fun q => absurd q (by omega)⟩
  · refine ⟨_, cap, hv, hl, fun _ => ⟨g, 0, rfl, ?_, fun k hk => ?_⟩⟩
    · rcases Nat.lt_or_ge g w.heap.size with hlt | hge
      · exact hlt
      · rw [Array.getElem?_eq_none hge] at hh; cases hh
    · rw [Nat.zero_add, World.cell?, hh]
      have : (cur.toList.take (n * 1))[k]? = (xs.map (Value.int .i64))[k]? := by rw [ht]
      rw [Nat.mul_one, List.getElem?_take_of_lt hk, List.getElem?_map] at this
      have hx : k < xs.length := by omega
      simp only [Option.isSome_none, Bool.false_eq_true, if_false]
      rw [← Array.getElem?_toList, this]
      simp [hx, List.getD]
theorem infoI : (Tryd.prog.info? 3).map (fun i => (i.zero, i.size, i.bytes)) = some (some (.int .i64 0), 1, 8) := by kernel_rfl
theorem info_int : ∃ i, Tryd.prog.info? 3 = some i ∧ i.zero = some (.int .i64 0) ∧ i.size = 1 ∧ i.bytes = 8 := by
  obtain ⟨i, hi, hzz⟩ := Option.map_eq_some_iff.1 infoI
  simp only [Prod.mk.injEq] at hzz
  exact ⟨i, hi, hzz.1, hzz.2.1, hzz.2.2⟩
theorem infoC : (Tryd.prog.info? 66).map (fun i => (i.zero, i.size, i.bytes)) = some (some (.agg #[.int .i64 0, .int .i64 0, .int .i64 0]), 3, 24) := by kernel_rfl
theorem info_came : ∃ i, Tryd.prog.info? 66 = some i ∧ i.zero = some (.agg #[.int .i64 0, .int .i64 0, .int .i64 0]) ∧ i.size = 3 ∧ i.bytes = 24 := by
  obtain ⟨i, hi, hzz⟩ := Option.map_eq_some_iff.1 infoC
  simp only [Prod.mk.injEq] at hzz
  exact ⟨i, hi, hzz.1, hzz.2.1, hzz.2.2⟩
theorem new_int (w : World) (B : Nat) (hB : B = w.heap.size) (x : Int) (t : TypeId) : ∀ j u, [Value.int .i64 x][j]? = some u → (w.alloc (.cells #[.int .i64 x] t)).cell? ((⟨B, 0, none⟩ : Addr).add j) = some u := by
  subst hB
  intro j u hj
  rw [Addr.add_lit, Nat.zero_add]
  rcases j with _ | j
  · simpa using hj
  · simp at hj
theorem int_one (x : Int) : ∀ u ∈ [Value.int .i64 x], u.oneCell' = true := by
  intro u hu
  obtain rfl := List.mem_singleton.1 hu
  rfl
theorem new_came (w : World) (B : Nat) (hB : B = w.heap.size) (x0 x1 x2 : Int) (t : TypeId) : ∀ j u, (flat [(x0, x1, x2)])[j]? = some u → (w.alloc (.cells #[.int .i64 x0, .int .i64 x1, .int .i64 x2] t)).cell? ((⟨B, 0, none⟩ : Addr).add j) = some u := by
  subst hB
  intro j u hj
  rw [Addr.add_lit, Nat.zero_add]
  have hlt := (List.getElem?_eq_some_iff.1 hj).1
  rw [flat_len] at hlt
  simp only [List.length_cons, List.length_nil] at hlt
  rcases j with _ | _ | _ | j
  · simpa [flat] using hj
  · simpa [flat] using hj
  · simpa [flat] using hj
  · omega
/-- all is left alone but one block and one row -/
def Kp (w w' : World) (P : Nat) (r : Option Nat) : Prop := w.heap.size ≤ w'.heap.size ∧ ∀ b, b < w.heap.size → b ≠ P → some b ≠ r → w'.heap[b]? = w.heap[b]?
theorem Kp.refl (w : World) (P : Nat) (r : Option Nat) : Kp w w P r := ⟨Nat.le_refl _, fun _ _ _ _ => rfl⟩
/-- what is changed later is that block, that row, or was not there -/
theorem Kp.trans {w w1 w2 : World} {P : Nat} {r r' : Option Nat} (h : Kp w w1 P r) (h' : Kp w1 w2 P r') (hr : ∀ k, r' = some k → w.heap.size ≤ k ∨ r = some k ∨ k = P) : Kp w w2 P r := by
  refine ⟨Nat.le_trans h.1 h'.1, fun b hb hP hne => ?_⟩
  rw [h'.2 b (Nat.lt_of_lt_of_le hb h.1) hP (fun e => ?_), h.2 b hb hP hne]
  rcases hr b e.symm with a | a | a
  · omega
  · exact hne a.symm
  · exact hP a
theorem Kp.grown {w w' : World} {r : Option Nat} (hg : w.grownBy w' r) (P : Nat) : Kp w w' P r := ⟨hg.size, fun b hb _ hne => hg.block b hb hne⟩
theorem Kp.alloc (w : World) (o : Obj) (P : Nat) (r : Option Nat) : Kp w (w.alloc o) P r := ⟨by simp, fun b hb _ _ => ((Below.refl w.heap.size w).alloc (Nat.le_refl _) o).block b hb⟩
theorem Kp.setCell (w : World) (P i : Nat) (v : Value) (r : Option Nat) : Kp w (w.setCell ⟨P, i, none⟩ v) P r := ⟨by simp [World.setCell], fun b _ hP _ => Deep.blk_setCell_other _ _ _ _ hP⟩
theorem Kp.below {w w' : World} {P : Nat} (hb : Below w.heap.size w w') (r : Option Nat) : Kp w w' P r := ⟨hb.size, fun b h _ _ => hb.block b h⟩
theorem own_mono {w : World} {b b' : Nat} {t : TypeId} {s n : Nat} {v : Value} {xs : List Value} (o : w.ownsRow b t s v n xs) (hb : b' ≤ b) : w.ownsRow b' t s v n xs := by
  obtain ⟨h1, h2⟩ := o
  refine ⟨h1, ?_⟩
  rcases h2 with h2 | ⟨g', cap', cur, hv, hbg, hh⟩
  · exact .inl h2
  · exact .inr ⟨g', cap', cur, hv, Nat.le_trans hb hbg, hh⟩
theorem own_two {w : World} {b1 b2 : Nat} {t1 t2 : TypeId} (ht : t1 ≠ t2) {s1 s2 n1 n2 : Nat} {v1 v2 : Value} {x1 x2 : List Value} (o1 : w.ownsRow b1 t1 s1 v1 n1 x1) (o2 : w.ownsRow b2 t2 s2 v2 n2 x2) {g : Nat} (hg : v2.ownBlock = some g) : v1.ownBlock ≠ some g := by
  intro e
  rcases o1.2 with ⟨h2, _⟩ | ⟨g', cap', cur, hv, hbg, hh, _⟩
  · rw [h2] at e; cases e
  · rcases o2.2 with ⟨h2, _⟩ | ⟨g2, cap2, cur2, hv2, hbg2, hh2, _⟩
    · rw [h2] at hg; cases hg
    · rw [hv] at e
      rw [hv2] at hg
      have e1 : g' = g := by simpa [Value.ownBlock] using e
      have e2 : g2 = g := by simpa [Value.ownBlock] using hg
      subst e1 e2
      rw [hh] at hh2
      injection hh2 with hh2
      injection hh2 with _ hh2 _
      exact ht hh2
theorem own_form {w : World} {base : Nat} {t : TypeId} {s : Nat} {v : Value} {n : Nat} {xs : List Value} (o : w.ownsRow base t s v n xs) : ∃ q cap, v = .slice q n cap := by
  rcases o.2 with ⟨h2, h3⟩ | ⟨g', cap', cur, hv, _⟩
  · exact ⟨none, 0, by rw [h3]; exact h2⟩
  · exact ⟨_, _, hv⟩
/-- a row keeps through what leaves its block -/
theorem row_grown {w w' : World} {r : Option Nat} {P : Nat} {t : TypeId} {n : Nat} {f : Nat → Value} (h : w.rowIs P t n f) (hg : w.grownBy w' r) (hne : some P ≠ r) : w'.rowIs P t n f := h.of_block (hg.block P h.lt hne)
def lenOf : Value → Nat
  | .slice _ n _ => n
  | _ => 0
end Go.Proofs.YtgcdbcljneoifacDoor.Fif
