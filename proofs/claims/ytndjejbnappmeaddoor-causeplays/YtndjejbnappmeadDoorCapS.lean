/-
  The program's member that hears by cause, in memory: who it is, its numbers, how many came, a map of the words that wait.
-/
import Derived.Test.YtndjejbnappmeadDoorCapK
namespace Go.Proofs.YtndjejbnappmeadDoor.Cap
open Go.RowKit Go.Maps
open Go.Proofs.YtndjejbnappmeadDoor.Cau
open Go.Proofs.YtndjejbnappmeadDoor.Vec (code Vw)
open Go.Proofs.YtndjejbnappmeadDoor.Fif (own_lt own_block own_mono own_vw Kp)
set_option linter.unusedVariables false

def sumK (K : List Int) : Int := K.getD 0 0 + K.getD 1 0 + K.getD 2 0 + K.getD 3 0 + K.getD 4 0
theorem sum_inc {K : List Int} (h5 : K.length = 5) {m : Nat} (hm : m < 5) : sumK (inc K (m : Int)) = sumK K + 1 := by
  match K, h5 with
  | [a, b, c, d, e], _ => rcases m with _ | _ | _ | _ | _ | m <;> first | omega | (simp [sumK, inc, List.getD]; omega)
theorem inc_len {K : List Int} (who : Int) : (inc K who).length = K.length := by simp [inc]
theorem inc_get {K : List Int} (h5 : K.length = 5) {m j : Nat} (hm : m < 5) : (inc K (m : Int)).getD j 0 = if j = m then K.getD m 0 + 1 else K.getD j 0 := by
  unfold inc
  rw [Int.toNat_natCast]
  by_cases e : j = m
  · subst e
    rw [if_pos rfl]
    simp [List.getD, show j < K.length by omega]
  · rw [if_neg e]
    simp [List.getD, List.getElem?_set_ne (fun q => e q.symm)]
def csv (me : Int) (K : List Int) (cn : Int) (mb : Nat) (j : Nat) : Value := if j = 0 then .int .i64 me else if j = 7 then .map (some mb) else if j = 6 then .int .i64 cn else .int .i64 (K.getD (j - 1) 0)
/-- the program's member in memory -/
structure CF (w : World) (base P mb : Nat) (me : Int) (K : List Int) (cn : Int) (es : List En) : Prop where
  row : w.rowIs P 53 8 (csv me K cn mb)
  map : ∃ D, w.ownsMap Tryd.prog 62 RV mb es.length D ∧ MW D es
  own : ∀ e ∈ es, w.ownsRow base 3 1 e.clk 5 (e.s.2.2.map (Value.int .i64))
  five : K.length = 5
  num : ∀ j, j < 5 → 0 ≤ K.getD j 0 ∧ K.getD j 0 ≤ 1000000
  me_ok : 0 ≤ me ∧ me ≤ 4
  low : base ≤ P ∧ base ≤ mb
  uq : Uq es
  rise : es.Pairwise fun a b => a.t < b.t
  top : ∀ e ∈ es, e.t ≤ cn
  ok : ∀ e ∈ es, SdOk e.s
/-- how many came -/
def Cn (K : List Int) (cn : Int) (es : List En) : Prop := 0 ≤ cn ∧ cn ≤ sumK K + es.length
def fpOf (P mb : Nat) (es : List En) : List Nat := P :: mb :: es.map En.g
variable {w w' : World} {base P mb : Nat} {me : Int} {K : List Int} {cn : Int} {es : List En}
theorem CF.lt (g : CF w base P mb me K cn es) : P < w.heap.size ∧ mb < w.heap.size := by
  obtain ⟨D, h, _⟩ := g.map
  exact ⟨World.rowIs.lt g.row, h.lt⟩
theorem CF.glt (g : CF w base P mb me K cn es) {e : En} (he : e ∈ es) : base ≤ e.g ∧ e.g < w.heap.size := own_lt (g.own e he) e.g rfl
theorem CF.fp (g : CF w base P mb me K cn es) : ∀ b ∈ fpOf P mb es, base ≤ b ∧ b < w.heap.size := by
  intro b hb
  rcases List.mem_cons.1 hb with rfl | hb
  · exact ⟨g.low.1, g.lt.1⟩
  · rcases List.mem_cons.1 hb with rfl | hb
    · exact ⟨g.low.2, g.lt.2⟩
    · obtain ⟨e, he, rfl⟩ := List.mem_map.1 hb
      exact g.glt he
theorem CF.apart (g : CF w base P mb me K cn es) : P ≠ mb := by
  obtain ⟨D, ⟨es', clock, hb, _⟩, _⟩ := g.map
  obtain ⟨c, hc, _⟩ := g.row
  intro e
  rw [e, hb] at hc
  cases hc
theorem CF.gP (g : CF w base P mb me K cn es) {e : En} (he : e ∈ es) : e.g ≠ P ∧ e.g ≠ mb := by
  obtain ⟨D, ⟨es', clock, hb, _⟩, _⟩ := g.map
  obtain ⟨c, hc, _⟩ := g.row
  rcases (g.own e he).2 with ⟨h2, _⟩ | ⟨g', cap', cur, hv, _, hh, _⟩
  · cases h2
  · cases hv
    refine ⟨fun q => ?_, fun q => ?_⟩
    · rw [q] at hh
      rw [hh] at hc
      cases hc
    · rw [q, hb] at hh
      cases hh
/-- it stays where its blocks stay -/
theorem CF.of_blocks (g : CF w base P mb me K cn es) (h : ∀ b ∈ fpOf P mb es, w'.heap[b]? = w.heap[b]?) : CF w' base P mb me K cn es := by
  obtain ⟨D, hm, v⟩ := g.map
  refine ⟨World.rowIs.of_block g.row (h P (by simp [fpOf])), ⟨D, own_heap hm (h mb (by simp [fpOf])), v⟩, fun e he => own_block (g.own e he) fun k hk => ?_, g.five, g.num, g.me_ok, g.low, g.uq, g.rise, g.top, g.ok⟩
  have : e.g = k := by simpa [En.clk, Value.ownBlock] using hk
  subst this
  exact h e.g (by simp [fpOf]; exact .inr (.inr ⟨e, he, rfl⟩))
theorem CF.later (g : CF w base P mb me K cn es) (hb : Below w.heap.size w w') : CF w' base P mb me K cn es := g.of_blocks fun b h => hb.block b (g.fp b h).2
theorem CF.lower (g : CF w base P mb me K cn es) {base' : Nat} (h : base' ≤ base) : CF w base' P mb me K cn es :=
  ⟨g.row, g.map, fun e he => own_mono (g.own e he) h, g.five, g.num, g.me_ok, ⟨Nat.le_trans h g.low.1, Nat.le_trans h g.low.2⟩, g.uq, g.rise, g.top, g.ok⟩
theorem CF.who (g : CF w base P mb me K cn es) : w.cell? ⟨P, 0, none⟩ = some (.int .i64 me) ∧ w.frozen? ⟨P, 0, none⟩ = false := ⟨World.rowIs.cell g.row (i := 0) (by omega), World.rowIs.frozen g.row 0⟩
theorem CF.clock (g : CF w base P mb me K cn es) {m : Nat} (hm : m < 5) : w.cell? ⟨P, 1 + m, none⟩ = some (.int .i64 (K.getD m 0)) ∧ w.frozen? ⟨P, 1 + m, none⟩ = false := by
  have := World.rowIs.cell g.row (i := 1 + m) (by omega)
  rw [csv, if_neg (by omega), if_neg (by omega), if_neg (by omega), show 1 + m - 1 = m by omega] at this
  exact ⟨this, World.rowIs.frozen g.row (1 + m)⟩
theorem CF.came (g : CF w base P mb me K cn es) : w.cell? ⟨P, 6, none⟩ = some (.int .i64 cn) ∧ w.frozen? ⟨P, 6, none⟩ = false := ⟨World.rowIs.cell g.row (i := 6) (by omega), World.rowIs.frozen g.row 6⟩
theorem CF.wait (g : CF w base P mb me K cn es) : w.cell? ⟨P, 7, none⟩ = some (.map (some mb)) ∧ w.frozen? ⟨P, 7, none⟩ = false := ⟨World.rowIs.cell g.row (i := 7) (by omega), World.rowIs.frozen g.row 7⟩
theorem CF.vw (g : CF w base P mb me K cn es) {e : En} (he : e ∈ es) : Vw w (some ⟨e.g, 0, none⟩) 5 e.s.2.2 := by
  obtain ⟨a, c, q, hv⟩ := own_vw (g.own e he)
  cases q
  exact hv
theorem CF.cn_le (g : CF w base P mb me K cn es) (hc : Cn K cn es) : cn ≤ 5000000 + es.length := by
  have h0 := g.num 0 (by omega)
  have h1 := g.num 1 (by omega)
  have h2 := g.num 2 (by omega)
  have h3 := g.num 3 (by omega)
  have h4 := g.num 4 (by omega)
  have := hc.2
  unfold sumK at this
  omega
/-- one number is one more -/
theorem CF.incK (g : CF w base P mb me K cn es) {m : Nat} (hm : m < 5) (hlt : K.getD m 0 < 1000000) : CF (w.setCell ⟨P, 1 + m, none⟩ (.int .i64 (K.getD m 0 + 1))) base P mb me (inc K (m : Int)) cn es := by
  obtain ⟨D, h, v⟩ := g.map
  refine ⟨(World.rowIs.set g.row (1 + m) _).congr fun j hj => ?_, ⟨D, own_heap h (Deep.blk_setCell_other _ _ _ _ (fun e => g.apart e.symm)), v⟩, fun e he => own_block (g.own e he) fun k hk => ?_, by rw [inc_len]; exact g.five, fun j hj => ?_, g.me_ok, g.low, g.uq, g.rise, g.top, g.ok⟩
  · unfold csv
    by_cases e : j = 1 + m
    · subst e
      rw [if_pos rfl, if_neg (by omega), if_neg (by omega), if_neg (by omega), show 1 + m - 1 = m by omega, inc_get g.five hm, if_pos rfl]
    · rw [if_neg e]
      by_cases e0 : j = 0
      · rw [if_pos e0, if_pos e0]
      · rw [if_neg e0, if_neg e0]
        by_cases e7 : j = 7
        · rw [if_pos e7, if_pos e7]
        · rw [if_neg e7, if_neg e7]
          by_cases e6 : j = 6
          · rw [if_pos e6, if_pos e6]
          · rw [if_neg e6, if_neg e6, inc_get g.five hm, if_neg (by omega)]
  · have : e.g = k := by simpa [En.clk, Value.ownBlock] using hk
    subst this
    exact Deep.blk_setCell_other _ _ _ _ (g.gP he).1
  · rw [inc_get g.five hm]
    have h1 := g.num m hm
    have h2 := g.num j hj
    split <;> omega
theorem Cn.incK (h : Cn K cn es) (h5 : K.length = 5) {m : Nat} (hm : m < 5) : Cn (inc K (m : Int)) cn es := by
  unfold Cn at h ⊢
  rw [sum_inc h5 hm]
  omega
theorem Cn.put (h : Cn K cn es) (e : En) : Cn K (cn + 1) (es ++ [e]) := by
  unfold Cn at h ⊢
  rw [List.length_append]
  simp
  omega
theorem Cn.del (h : Cn K cn es) (h5 : K.length = 5) {m i : Nat} (hm : m < 5) (hi : i < es.length) : Cn (inc K (m : Int)) cn (es.eraseIdx i) := by
  unfold Cn at h ⊢
  rw [sum_inc h5 hm, List.length_eraseIdx, if_pos hi]
  omega
/-- one more has come -/
theorem CF.setCn (g : CF w base P mb me K cn es) : CF (w.setCell ⟨P, 6, none⟩ (.int .i64 (cn + 1))) base P mb me K (cn + 1) es := by
  obtain ⟨D, h, v⟩ := g.map
  refine ⟨(World.rowIs.set g.row 6 _).congr fun j hj => ?_, ⟨D, own_heap h (Deep.blk_setCell_other _ _ _ _ (fun e => g.apart e.symm)), v⟩, fun e he => own_block (g.own e he) fun k hk => ?_, g.five, g.num, g.me_ok, g.low, g.uq, g.rise, fun e he => by have := g.top e he; omega, g.ok⟩
  · unfold csv
    by_cases e6 : j = 6
    · rw [if_pos e6, if_neg (by omega), if_neg (by omega), if_pos e6]
    · rw [if_neg e6, if_neg e6, if_neg e6]
  · have : e.g = k := by simpa [En.clk, Value.ownBlock] using hk
    subst this
    exact Deep.blk_setCell_other _ _ _ _ (g.gP he).1
theorem zeroW (W : World) : (zeroValue 60).run Tryd.prog W = .ok (.agg #[.int .i64 0, .int .i64 0, .int .i64 0, .slice none 0 0]) W := by kernel_rfl
/-- a word that waits is found at its place -/
theorem CF.look_ok (g : CF w base P mb me K cn es) {e : En} (he : e ∈ es) : ∀ W : World, W.heap[mb]? = w.heap[mb]? → (Instr.lookup 51 (.map (some mb)) e.at true).run Tryd.prog W = .ok (.tuple #[e.val, .bool true]) W := by
  intro W hW
  obtain ⟨D, h, v⟩ := g.map
  have h' : W.ownsMap Tryd.prog 62 RV mb es.length D := own_heap h hW
  obtain ⟨u, ps, e1, e2⟩ := h'.look_ok law Tryd.underlying51 (zeroW W) (zd := .held _) (zp := []) rfl (En.keyOf (g.ok e he))
  rw [(v.has _).2 ⟨e, he, rfl⟩] at e1
  rw [v.at_ e he] at e2
  have : u = e.val := RV_inv e2
  rw [e1, this]
theorem CF.look (g : CF w base P mb me K cn es) {e : En} (he : e ∈ es) : ∀ W : World, W.heap[mb]? = w.heap[mb]? → (Instr.lookup 51 (.map (some mb)) e.at false).run Tryd.prog W = .ok e.val W := by
  intro W hW
  obtain ⟨D, h, v⟩ := g.map
  have h' : W.ownsMap Tryd.prog 62 RV mb es.length D := own_heap h hW
  obtain ⟨u, ps, e1, e2⟩ := h'.lookup law Tryd.underlying51 (zeroW W) (zd := .held _) (zp := []) rfl (En.keyOf (g.ok e he))
  rw [v.at_ e he] at e2
  have : u = e.val := RV_inv e2
  rw [e1, this]
theorem CF.look_none (g : CF w base P mb me K cn es) {a b : Int} (hk : okK a b) (hn : ∀ e ∈ es, kl a b ≠ e.key) : ∀ W : World, W.heap[mb]? = w.heap[mb]? → (Instr.lookup 51 (.map (some mb)) (.agg #[.int .i64 a, .int .i64 b]) true).run Tryd.prog W = .ok (.tuple #[.agg #[.int .i64 0, .int .i64 0, .int .i64 0, .slice none 0 0], .bool false]) W := by
  intro W hW
  obtain ⟨D, h, v⟩ := g.map
  have h' : W.ownsMap Tryd.prog 62 RV mb es.length D := own_heap h hW
  obtain ⟨u, ps, e1, e2⟩ := h'.look_ok law Tryd.underlying51 (zeroW W) (zd := .held _) (zp := []) rfl (keyK hk)
  rw [atKey_of_not_has (v.hasnt hn)] at e2
  rw [v.hasnt hn] at e1
  have : u = .agg #[.int .i64 0, .int .i64 0, .int .i64 0, .slice none 0 0] := RV_inv e2
  rw [e1, this]
theorem CF.len (g : CF w base P mb me K cn es) (ty : TypeId) : ∀ W : World, W.heap = w.heap → (Builtin.len_ #[51] ty #[.map (some mb)]).run Tryd.prog W = .ok (.int .i64 es.length) W := by
  intro W hW
  obtain ⟨D, h, v⟩ := g.map
  have h' : W.ownsMap Tryd.prog 62 RV mb es.length D := own_heap h (by rw [hW])
  rw [h'.len Tryd.underlying51 ty, v.size]
theorem g_of_turned {P' : Nat} (h : w.mapTurned w' mb) (hP : P' < w.heap.size) (hne : P' ≠ mb) : w'.heap[P']? = w.heap[P']? := h.grown.block P' hP (fun q => hne (Option.some.inj q))
/-- one more waits -/
theorem CF.put (g : CF w base P mb me K cn es) (e : En) (ho : w.ownsRow base 3 1 e.clk 5 (e.s.2.2.map (Value.int .i64))) (hok : SdOk e.s) (hn : ∀ x ∈ es, x.key ≠ e.key) (ht : ∀ x ∈ es, x.t < e.t) (htc : e.t ≤ cn) (hlen : es.length < maxLen) :
    ∃ w', (Instr.mapUpdate 51 (.map (some mb)) e.at e.val).run Tryd.prog w = .ok () w' ∧ CF w' base P mb me K cn (es ++ [e]) ∧ w.mapTurned w' mb := by
  obtain ⟨D, h, v⟩ := g.map
  obtain ⟨w', er, h', t⟩ := h.store law Tryd.underlying51 hlen (En.keyOf hok) (val := e.val) rfl
  have v' := v.put e (kl_key (En.okK hok)) hn
  have hgm : e.g ≠ mb := by
    obtain ⟨es', clock, hb, _⟩ := h
    rcases ho.2 with ⟨h2, _⟩ | ⟨g', cap', cur, hv, _, hh, _⟩
    · cases h2
    · cases hv
      intro q
      rw [q, hb] at hh
      cases hh
  have hlt : e.g < w.heap.size := (own_lt ho e.g rfl).2
  refine ⟨w', er, ⟨World.rowIs.of_block g.row (g_of_turned t g.lt.1 g.apart), ⟨_, ?_, v'⟩, fun x hx => ?_, g.five, g.num, g.me_ok, g.low, ?_, ?_, fun x hx => ?_, fun x hx => ?_⟩, t⟩
  · rw [← v'.size]
    exact own_norm h'
  · have hx' : w.ownsRow base 3 1 x.clk 5 (x.s.2.2.map (Value.int .i64)) ∧ x.g ≠ mb ∧ x.g < w.heap.size := by
      rcases List.mem_append.1 hx with a | a
      · exact ⟨g.own x a, (g.gP a).2, (g.glt a).2⟩
      · rw [List.mem_singleton.1 a]
        exact ⟨ho, hgm, hlt⟩
    refine own_block hx'.1 fun k hk => ?_
    have : x.g = k := by simpa [En.clk, Value.ownBlock] using hk
    subst this
    exact g_of_turned t hx'.2.2 hx'.2.1
  · rw [Uq, List.pairwise_append]
    exact ⟨g.uq, List.pairwise_singleton _ _, fun a ha b hb => by rw [List.mem_singleton.1 hb]; exact hn a ha⟩
  · rw [List.pairwise_append]
    exact ⟨g.rise, List.pairwise_singleton _ _, fun a ha b hb => by rw [List.mem_singleton.1 hb]; exact ht a ha⟩
  · rcases List.mem_append.1 hx with a | a
    · exact g.top x a
    · rw [List.mem_singleton.1 a]; exact htc
  · rcases List.mem_append.1 hx with a | a
    · exact g.ok x a
    · rw [List.mem_singleton.1 a]; exact hok
/-- one waits no more -/
theorem CF.del (g : CF w base P mb me K cn es) {i : Nat} (hi : i < es.length) (ty : TypeId) :
    ∃ w', (Builtin.delete_ #[51, 62] ty #[.map (some mb), es[i].at]).run Tryd.prog w = .ok (.tuple #[]) w' ∧ CF w' base P mb me K cn (es.eraseIdx i) ∧ w.mapTurned w' mb := by
  obtain ⟨D, h, v⟩ := g.map
  obtain ⟨w', er, h', t⟩ := h.drop law Tryd.underlying51 (En.keyOf (g.ok _ (List.getElem_mem hi))) ty
  have v' := v.del g.uq hi
  have hsub := List.eraseIdx_sublist es i
  refine ⟨w', er, ⟨World.rowIs.of_block g.row (g_of_turned t g.lt.1 g.apart), ⟨_, ?_, v'⟩, fun e he => own_block (g.own e (hsub.subset he)) fun k hk => ?_, g.five, g.num, g.me_ok, g.low, g.uq.sublist hsub, g.rise.sublist hsub, fun e he => g.top e (hsub.subset he), fun e he => g.ok e (hsub.subset he)⟩, t⟩
  · rw [← v'.size]
    exact own_norm h'
  · have : e.g = k := by simpa [En.clk, Value.ownBlock] using hk
    subst this
    have he' := hsub.subset he
    exact g_of_turned t (g.glt he').2 (g.gP he').2
theorem turned_below {b base : Nat} (h : w.mapTurned w' b) (hb : base ≤ b) : Below base w w' := by
  have hlt : b < w.heap.size := by
    obtain ⟨es, c, _, _, h1, _⟩ := h
    exact (Array.getElem?_eq_some_iff.1 h1).1
  exact (Below.refl base w).grown h.grown (by omega) (fun k e => by cases e; exact hb)
theorem turned_kp {b : Nat} (h : w.mapTurned w' b) (P : Nat) : Kp w w' P (some b) := Kp.grown h.grown P
theorem below_drews {B : Nat} {a w : World} (h : Below B a w) (n : Nat) : Below B a (w.drewN n) := ⟨h.os, h.tape, h.output, h.size, h.block⟩
end Go.Proofs.YtndjejbnappmeadDoor.Cap
