/-
  The program's Hearer and Sender in memory: a number, and a map from numbers to words.
-/
import Derived.Test.YtdhlfbpflngmbafDoorAgaE
import Derived.Test.YtdhlfbpflngmbafDoorMapI
import Derived.Maps.RangeWalk
namespace Go.Proofs.YtdhlfbpflngmbafDoor.Aga
open Go.RowKit Go.Maps
open Go.Proofs.YtdhlfbpflngmbafDoor.Fif (Cm fnd rm Uq fnd_rm rm_len uq_snoc fnd_snoc own_lt own_block own_form own_mono Kp ret_bool)
open Go.Proofs.YtdhlfbpflngmbafDoor.MapI (MM putT delT turned_below g_of_turned)
open Go.Proofs.YtdhlfbpflngmbafDoor.Sep (KpL NewL)
set_option linter.unusedVariables false

/-- what waits, by number -/
def wt (ws : List Cm) : Int → Option Int := fun n => fnd ws 0 n
theorem wt_put {ws : List Cm} {n : Int} (word : Int) (h : fnd ws 0 n = none) : ∀ i, wt (ws ++ [(0, n, word)]) i = putT (wt ws) n word i := by
  intro i
  unfold wt putT
  rw [fnd_snoc (x := word) h]
  by_cases e : i = n
  · rw [if_pos ⟨rfl, e⟩, if_pos e]
  · rw [if_neg (fun q => e q.2), if_neg e]
theorem wt_del (ws : List Cm) (n : Int) : ∀ i, wt (rm ws 0 n) i = delT (wt ws) n i := by
  intro i
  unfold wt delT
  rw [fnd_rm]
  by_cases e : i = n
  · rw [if_pos ⟨rfl, e⟩, if_pos e]
  · rw [if_neg (fun q => e q.2), if_neg e]
def nv (x : Int) (mb : Nat) (k : Nat) : Value := if k = 0 then .int .i64 x else .map (some mb)
/-- a number and a map, in a block of that type -/
structure NM (w : World) (ty : TypeId) (base P mb : Nat) (x : Int) (T : Int → Option Int) (c : Nat) : Prop where
  row : w.rowIs P ty 2 (nv x mb)
  map : MM w mb T c
  low : base ≤ P ∧ base ≤ mb
variable {w w' : World} {ty : TypeId} {base P mb c : Nat} {x : Int} {T : Int → Option Int}
theorem NM.c0 (h : NM w ty base P mb x T c) : w.cell? ⟨P, 0, none⟩ = some (.int .i64 x) ∧ w.frozen? ⟨P, 0, none⟩ = false := ⟨World.rowIs.cell h.row (i := 0) (by omega), World.rowIs.frozen h.row 0⟩
theorem NM.c1 (h : NM w ty base P mb x T c) : w.cell? ⟨P, 1, none⟩ = some (.map (some mb)) ∧ w.frozen? ⟨P, 1, none⟩ = false := ⟨World.rowIs.cell h.row (i := 1) (by omega), World.rowIs.frozen h.row 1⟩
theorem NM.lt (h : NM w ty base P mb x T c) : P < w.heap.size ∧ mb < w.heap.size := ⟨World.rowIs.lt h.row, h.map.lt⟩
theorem NM.ne (h : NM w ty base P mb x T c) : P ≠ mb := h.map.row h.row
theorem NM.of_blocks (h : NM w ty base P mb x T c) (h1 : w'.heap[P]? = w.heap[P]?) (h2 : w'.heap[mb]? = w.heap[mb]?) : NM w' ty base P mb x T c := ⟨World.rowIs.of_block h.row h1, h.map.of_block h2, h.low⟩
theorem NM.later (h : NM w ty base P mb x T c) (hb : Below w.heap.size w w') : NM w' ty base P mb x T c := h.of_blocks (hb.block _ h.lt.1) (hb.block _ h.lt.2)
theorem NM.heap (h : NM w ty base P mb x T c) (e : w'.heap = w.heap) : NM w' ty base P mb x T c := h.of_blocks (by rw [e]) (by rw [e])
theorem NM.congr (h : NM w ty base P mb x T c) {T' : Int → Option Int} {c' : Nat} (e : ∀ i, T' i = T i) (ec : c' = c) : NM w ty base P mb x T' c' := by
  subst ec
  exact ⟨h.row, h.map.congr e, h.low⟩
theorem NM.setX (h : NM w ty base P mb x T c) (y : Int) : NM (w.setCell ⟨P, 0, none⟩ (.int .i64 y)) ty base P mb y T c := by
  refine ⟨(World.rowIs.set h.row 0 _).congr fun k hk => ?_, h.map.of_block (Deep.blk_setCell_other _ _ _ _ (fun e => h.ne e.symm)), h.low⟩
  unfold nv
  by_cases e : k = 0
  · rw [if_pos e, if_pos e]
  · rw [if_neg e, if_neg e, if_neg e]
theorem NM.turn (h : NM w ty base P mb x T c) {T' : Int → Option Int} {c' : Nat} (hm : MM w' mb T' c') (ht : w.mapTurned w' mb) : NM w' ty base P mb x T' c' := ⟨World.rowIs.of_block h.row (g_of_turned ht h.lt.1 h.ne), hm, h.low⟩
theorem NM.put (h : NM w ty base P mb x T c) {i : Int} (hi : (Lit.int .i64 i).wf = true) (y : Int) (hc : c < 1000000) : ∃ w', (Instr.mapUpdate 52 (.map (some mb)) (.int .i64 i) (.int .i64 y)).run Tryd.prog w = .ok () w' ∧ NM w' ty base P mb x (putT T i y) (if (T i).isSome = true then c else c + 1) ∧ w.mapTurned w' mb := by
  obtain ⟨w', e, hm, ht⟩ := h.map.put hi y hc
  exact ⟨w', e, h.turn hm ht, ht⟩
theorem NM.del (h : NM w ty base P mb x T c) {i : Int} (hi : (Lit.int .i64 i).wf = true) (t : TypeId) : ∃ w', (Builtin.delete_ #[52, 3] t #[.map (some mb), .int .i64 i]).run Tryd.prog w = .ok (.tuple #[]) w' ∧ NM w' ty base P mb x (delT T i) (if (T i).isSome = true then c - 1 else c) ∧ w.mapTurned w' mb := by
  obtain ⟨w', e, hm, ht⟩ := h.map.del hi t
  exact ⟨w', e, h.turn hm ht, ht⟩
/-- two blocks that a call may turn -/
theorem kp2_refl (w : World) (P mb : Nat) : KpL w w [P, mb] := ⟨Nat.le_refl _, fun _ _ _ => rfl⟩
theorem kp2_trans {w1 w2 w3 : World} {P mb : Nat} (h : KpL w1 w2 [P, mb]) (h' : KpL w2 w3 [P, mb]) : KpL w1 w3 [P, mb] := ⟨Nat.le_trans h.1 h'.1, fun b hb hn => (h'.2 b (Nat.lt_of_lt_of_le hb h.1) hn).trans (h.2 b hb hn)⟩
theorem kp2_turned {P mb : Nat} (h : w.mapTurned w' mb) : KpL w w' [P, mb] := ⟨h.grown.size, fun b hb hn => g_of_turned h hb (fun e => hn (by simp [e]))⟩
theorem kp2_set {P mb : Nat} (w : World) (i : Nat) (v : Value) : KpL w (w.setCell ⟨P, i, none⟩ v) [P, mb] := ⟨by simp [World.setCell], fun b hb hn => Deep.blk_setCell_other _ _ _ _ (fun e => hn (by simp [e]))⟩
theorem kp2_heap {w1 w2 w3 : World} {P mb : Nat} (h : KpL w1 w2 [P, mb]) (e : w3.heap = w2.heap) : KpL w1 w3 [P, mb] := ⟨by rw [e]; exact h.1, fun b hb hn => by rw [e]; exact h.2 b hb hn⟩
theorem below_heap {B : Nat} {a w1 w2 : World} (h : Below B a w1) (e : w2.heap = w1.heap) (e1 : w2.os = w1.os) (e2 : w2.tape = w1.tape) (e3 : w2.output = w1.output) : Below B a w2 := ⟨by rw [e1]; exact h.os, by rw [e2]; exact h.tape, by rw [e3]; exact h.output, by rw [e]; exact h.size, fun k hk => by rw [e]; exact h.block k hk⟩
theorem drewsF {B : Nat} {a w : World} (h : Below B a w) (n : Nat) : Below B a (w.drewN n) := ⟨h.os, h.tape, h.output, h.size, h.block⟩

/-! the Hearer -/
abbrev HF (w : World) (base P mb : Nat) (h : Int) (ws : List Cm) : Prop := NM w 56 base P mb (h + 1) (wt ws) ws.length
def HS (w : World) (base P : Nat) (h : Int) (ws : List Cm) (fp : List Nat) : Prop := ∃ mb, fp = [P, mb] ∧ HF w base P mb h ws
theorem HS.of_blocks {w w' : World} {base P : Nat} {h : Int} {ws : List Cm} {fp : List Nat} (g : HS w base P h ws fp) (hs : w.heap.size ≤ w'.heap.size) (hk : ∀ b ∈ fp, w'.heap[b]? = w.heap[b]?) : HS w' base P h ws fp := by
  obtain ⟨mb, rfl, g⟩ := g
  exact ⟨mb, rfl, g.of_blocks (hk P (by simp)) (hk mb (by simp))⟩
theorem HS.fp {w : World} {base P : Nat} {h : Int} {ws : List Cm} {fp : List Nat} (g : HS w base P h ws fp) : ∀ b ∈ fp, base ≤ b ∧ b < w.heap.size := by
  obtain ⟨mb, rfl, g⟩ := g
  intro b hb
  rcases List.mem_cons.1 hb with rfl | hb
  · exact ⟨g.low.1, g.lt.1⟩
  · rw [List.mem_singleton.1 hb]
    exact ⟨g.low.2, g.lt.2⟩
theorem HS.lower {w : World} {base base' P : Nat} {h : Int} {ws : List Cm} {fp : List Nat} (g : HS w base P h ws fp) (hb : base' ≤ base) : HS w base' P h ws fp := by
  obtain ⟨mb, rfl, g⟩ := g
  exact ⟨mb, rfl, g.row, g.map, Nat.le_trans hb g.low.1, Nat.le_trans hb g.low.2⟩
theorem kind_row {w : World} {P ty n : Nat} {f : Nat → Value} (r : w.rowIs P ty n f) {t : TypeId} (ht : ty ≠ t) : ∀ c fr, w.heap[P]? ≠ some (.cells c t fr) := by
  obtain ⟨c, hc, _⟩ := r
  intro c' fr q
  rw [hc] at q
  injection q with q
  injection q with _ q _
  exact ht q
theorem HS.kind {w : World} {base P : Nat} {h : Int} {ws : List Cm} {fp : List Nat} (g : HS w base P h ws fp) : ∀ b ∈ fp, ∀ c fr, w.heap[b]? ≠ some (.cells c 49 fr) := by
  obtain ⟨mb, rfl, g⟩ := g
  intro b hb
  rcases List.mem_cons.1 hb with rfl | hb
  · exact kind_row g.row (by decide)
  · rw [List.mem_singleton.1 hb]
    exact g.map.kind _
/-! the Sender -/
/-- what is kept, by number -/
def kt (said : List Int) (free : Nat) : Int → Option Int := fun n => if (free : Int) < n ∧ n ≤ (said.length : Int) then some (said.getD (n.toNat - 1) 0) else none
theorem kt_put (said : List Int) (free : Nat) (hf : free ≤ said.length) (word : Int) : ∀ i, kt (said ++ [word]) free i = putT (kt said free) ((said.length : Int) + 1) word i := by
  intro i
  unfold kt putT
  rw [List.length_append]
  simp only [List.length_cons, List.length_nil]
  by_cases e : i = (said.length : Int) + 1
  · rw [if_pos e, if_pos (by omega), e, show ((said.length : Int) + 1).toNat - 1 = said.length by omega]
    simp [List.getD]
  · rw [if_neg e]
    by_cases q : (free : Int) < i ∧ i ≤ (said.length : Int)
    · rw [if_pos q, if_pos (by omega)]
      have : i.toNat - 1 < said.length := by omega
      simp [List.getD, List.getElem?_append_left this]
    · rw [if_neg q, if_neg (by omega)]
abbrev SF (w : World) (base P mb : Nat) (said : List Int) (free : Nat) : Prop := NM w 54 base P mb (said.length : Int) (kt said free) (said.length - free)
def SS (w : World) (base P : Nat) (said : List Int) (free : Nat) (fp : List Nat) : Prop := ∃ mb, fp = [P, mb] ∧ SF w base P mb said free
theorem SS.of_blocks {w w' : World} {base P : Nat} {said : List Int} {free : Nat} {fp : List Nat} (g : SS w base P said free fp) (hs : w.heap.size ≤ w'.heap.size) (hk : ∀ b ∈ fp, w'.heap[b]? = w.heap[b]?) : SS w' base P said free fp := by
  obtain ⟨mb, rfl, g⟩ := g
  exact ⟨mb, rfl, g.of_blocks (hk P (by simp)) (hk mb (by simp))⟩
theorem SS.fp {w : World} {base P : Nat} {said : List Int} {free : Nat} {fp : List Nat} (g : SS w base P said free fp) : ∀ b ∈ fp, base ≤ b ∧ b < w.heap.size := by
  obtain ⟨mb, rfl, g⟩ := g
  intro b hb
  rcases List.mem_cons.1 hb with rfl | hb
  · exact ⟨g.low.1, g.lt.1⟩
  · rw [List.mem_singleton.1 hb]
    exact ⟨g.low.2, g.lt.2⟩
theorem SS.lower {w : World} {base base' P : Nat} {said : List Int} {free : Nat} {fp : List Nat} (g : SS w base P said free fp) (hb : base' ≤ base) : SS w base' P said free fp := by
  obtain ⟨mb, rfl, g⟩ := g
  exact ⟨mb, rfl, g.row, g.map, Nat.le_trans hb g.low.1, Nat.le_trans hb g.low.2⟩
theorem SS.kind {w : World} {base P : Nat} {said : List Int} {free : Nat} {fp : List Nat} (g : SS w base P said free fp) : ∀ b ∈ fp, ∀ c fr, w.heap[b]? ≠ some (.cells c 49 fr) := by
  obtain ⟨mb, rfl, g⟩ := g
  intro b hb
  rcases List.mem_cons.1 hb with rfl | hb
  · exact kind_row g.row (by decide)
  · rw [List.mem_singleton.1 hb]
    exact g.map.kind _
end Go.Proofs.YtdhlfbpflngmbafDoor.Aga
