/-
  How TopTotal stands: a group that agrees, a group with a leader, the history, the row of all words, a row of what one heard, side by side in memory.
-/
import Derived.Test.YtcccheeeagphpagTopM
import Derived.Test.YtcccheeeagphpagTopG
import Derived.Test.YtcccheeeagphpagTopL
import Derived.Test.YtcccheeeagphpagAgtM
import Derived.Test.YtcccheeeagphpagAgrP
import Derived.Test.YtcccheeeagphpagLdrP
import Derived.Test.YtcccheeeagphpagHisP
import Derived.Test.YtcccheeeagphpagMgA
namespace Go.Proofs.Ytcccheeeagphpag.Top
open Go.RowKit
open Go.Proofs.Ytcccheeeagphpag.Fif (own_lt own_block own_form own_mono)
open Go.Proofs.Ytcccheeeagphpag.His (Ev Ew ev evs tH tH_len tH_ev evs_len Eo flat flat_len)
open Go.Proofs.Ytcccheeeagphpag.Sep (KpL NewL Sep setF)
set_option linter.unusedVariables false

/-! the history, one event more -/
theorem tH_at {ws : List Int} {m i : Nat} (hm : m < 3) (hi : i < ws.length) : ev (tH ws) ((m + 1) * ws.length + i) = ((m : Int), 3, ws.getD i 0) := by
  have hn : (m + 1) * ws.length + i < 4 * ws.length := by
    rcases m with _ | _ | _ | m <;> omega
  obtain ⟨j, hj, z⟩ := tH_ev hn
  have eg : ∀ k (hk : k < ws.length), ws[k] = ws.getD k 0 := fun k hk => by simp [List.getD, hk]
  rcases z with ⟨a, b⟩ | ⟨m', hm', a, b⟩
  · exfalso
    have : ws.length ≤ (m + 1) * ws.length := Nat.le_mul_of_pos_left _ (by omega)
    omega
  · have e : m' = m ∧ j = i := by
      rcases m with _ | _ | _ | m <;> rcases m' with _ | _ | _ | m' <;> omega
    rw [b, eg j hj, e.1, e.2]
theorem take_ev {h : List Ev} {n : Nat} (hn : n < h.length) : h.take (n + 1) = h.take n ++ [ev h n] := by
  rw [List.take_succ_eq_append_getElem hn]
  congr 2
  simp [ev, List.getD, hn]
theorem tH_said (ws : List Int) : (tH ws).take ws.length = evs 4 2 ws := by
  unfold tH
  rw [List.take_append_of_le_length (by rw [evs_len]; exact Nat.le_refl _), List.take_of_length_le (by rw [evs_len]; exact Nat.le_refl _)]
theorem evs_snoc (who what : Int) (ws : List Int) (x : Int) : evs who what (ws ++ [x]) = evs who what ws ++ [(who, what, x)] := by simp [evs]
/-! what is seen of a history that the call owns -/
theorem Eo.see {w : World} {base : Nat} {v : Value} {h : List Ev} (o : Eo w base v h) : ∃ a cap, v = .slice a h.length cap ∧ h.length ≤ cap ∧ cap ≤ maxLen ∧ Ew w a h.length h := by
  rcases o.2 with ⟨h2, h3⟩ | ⟨g', cap', cur, hv, hbg, hh, hc, hm, hsz, ht⟩
  · refine ⟨none, 0, by rw [h2, h3], by omega, Nat.zero_le _, rfl, fun q => by omega⟩
  · subst hv
    obtain ⟨_, e1, e2, e3, _⟩ := His.Eo.ew o
    exact ⟨_, cap', rfl, e2, e3, e1⟩
abbrev Iw (w : World) (base : Nat) (v : Value) (l : List Int) : Prop := w.ownsRow base 3 1 v l.length (l.map (Value.int .i64))
theorem Iw.vw {w : World} {base : Nat} {v : Value} {l : List Int} (o : Iw w base v l) : ∃ a cap, v = .slice a l.length cap ∧ Vec.Vw w a l.length l := Fif.own_vw o
/-- which parts have which blocks -/
def F6 (f1 f2 : List Nat) (vh va vv : Value) (bs : List Nat) (k : Nat) : List Nat :=
  if k = 0 then f1 else if k = 1 then f2 else if k = 2 then vh.ownBlock.toList else if k = 3 then va.ownBlock.toList else if k = 4 then vv.ownBlock.toList else if k = 5 then bs else []
structure TT (w wr : World) (P1 P2 : Nat) (g : Agr.G) (f1 : List Nat) (l : Ldr.L) (f2 : List Nat) (vh : Value) (h : List Ev) (va : Value) (all : List Int) (vv : Value) (hv : List Int) (bs : List Nat) : Prop where
  ag : Agr.AS wr w.heap.size P1 g f1
  ld : Ldr.LS wr w.heap.size P2 l f2
  eh : Eo wr w.heap.size vh h
  ea : Iw wr w.heap.size va all
  ev : Iw wr w.heap.size vv hv
  sep : Sep wr w.heap.size (F6 f1 f2 vh va vv bs)
  bel : Below w.heap.size w wr
variable {w wr w' : World} {P1 P2 : Nat} {g g' : Agr.G} {f1 f2 f1' f2' : List Nat} {l l' : Ldr.L} {vh va vv : Value} {h h' : List Ev} {all hv : List Int} {bs : List Nat}
theorem F6_0 : F6 f1 f2 vh va vv bs 0 = f1 := rfl
theorem F6_1 : F6 f1 f2 vh va vv bs 1 = f2 := rfl
theorem F6_2 : F6 f1 f2 vh va vv bs 2 = vh.ownBlock.toList := rfl
theorem F6_3 : F6 f1 f2 vh va vv bs 3 = va.ownBlock.toList := rfl
theorem F6_4 : F6 f1 f2 vh va vv bs 4 = vv.ownBlock.toList := rfl
theorem F6_5 : F6 f1 f2 vh va vv bs 5 = bs := rfl
theorem F6_set0 (x : List Nat) : setF (F6 f1 f2 vh va vv bs) 0 x = F6 x f2 vh va vv bs := by
  funext k; unfold setF F6; rcases k with _ | _ | _ | _ | _ | _ | k <;> simp
theorem F6_set1 (x : List Nat) : setF (F6 f1 f2 vh va vv bs) 1 x = F6 f1 x vh va vv bs := by
  funext k; unfold setF F6; rcases k with _ | _ | _ | _ | _ | _ | k <;> simp
theorem F6_set2 (x : Value) : setF (F6 f1 f2 vh va vv bs) 2 x.ownBlock.toList = F6 f1 f2 x va vv bs := by
  funext k; unfold setF F6; rcases k with _ | _ | _ | _ | _ | _ | k <;> simp
theorem F6_set3 (x : Value) : setF (F6 f1 f2 vh va vv bs) 3 x.ownBlock.toList = F6 f1 f2 vh x vv bs := by
  funext k; unfold setF F6; rcases k with _ | _ | _ | _ | _ | _ | k <;> simp
theorem F6_set4 (x : Value) : setF (F6 f1 f2 vh va vv bs) 4 x.ownBlock.toList = F6 f1 f2 vh va x bs := by
  funext k; unfold setF F6; rcases k with _ | _ | _ | _ | _ | _ | k <;> simp
theorem F6_set5 (x : List Nat) : setF (F6 f1 f2 vh va vv bs) 5 x = F6 f1 f2 vh va vv x := by
  funext k; unfold setF F6; rcases k with _ | _ | _ | _ | _ | _ | k <;> simp
theorem mem_own {v : Value} {b : Nat} : b ∈ v.ownBlock.toList ↔ v.ownBlock = some b := by
  cases q : v.ownBlock with
  | none => simp
  | some c => simp [eq_comm]
/-- all that stays where all parts but one stay -/
theorem TT.parts (t : TT w wr P1 P2 g f1 l f2 vh h va all vv hv bs) (hs : wr.heap.size ≤ w'.heap.size) {k : Nat} (hk : k < 10) (hp : KpL wr w' (F6 f1 f2 vh va vv bs k)) :
    (k ≠ 0 → Agr.AS w' w.heap.size P1 g f1) ∧ (k ≠ 1 → Ldr.LS w' w.heap.size P2 l f2) ∧ (k ≠ 2 → Eo w' w.heap.size vh h) ∧ (k ≠ 3 → Iw w' w.heap.size va all) ∧ (k ≠ 4 → Iw w' w.heap.size vv hv) := by
  refine ⟨fun q => t.ag.of_blocks hs (t.sep.keep (i := 0) hk (by omega) (fun e => q e.symm) hp), fun q => t.ld.of_blocks hs (t.sep.keep (i := 1) hk (by omega) (fun e => q e.symm) hp), fun q => ?_, fun q => ?_, fun q => ?_⟩
  · exact own_block t.eh fun b hb => t.sep.keep (i := 2) hk (by omega) (fun e => q e.symm) hp b (mem_own.2 hb)
  · exact own_block t.ea fun b hb => t.sep.keep (i := 3) hk (by omega) (fun e => q e.symm) hp b (mem_own.2 hb)
  · exact own_block t.ev fun b hb => t.sep.keep (i := 4) hk (by omega) (fun e => q e.symm) hp b (mem_own.2 hb)
theorem TT.later (t : TT w wr P1 P2 g f1 l f2 vh h va all vv hv bs) (hb : Below wr.heap.size wr w') : TT w w' P1 P2 g f1 l f2 vh h va all vv hv bs := by
  obtain ⟨a, b, c, d, e⟩ := t.parts (k := 9) hb.size (by omega) (KpL.below hb _)
  exact ⟨a (by omega), b (by omega), c (by omega), d (by omega), e (by omega), t.sep.later hb.size, t.bel.trans (hb.mono t.bel.size)⟩
/-- the group that agrees turns -/
theorem TT.agree (t : TT w wr P1 P2 g f1 l f2 vh h va all vv hv bs) (ha : Agr.AS w' w.heap.size P1 g' f1') (hb : Below w.heap.size wr w') (hk : KpL wr w' f1) (hn : NewL wr f1 f1') : TT w w' P1 P2 g' f1' l f2 vh h va all vv hv bs := by
  obtain ⟨_, b, c, d, e⟩ := t.parts (k := 0) hk.1 (by omega) hk
  refine ⟨ha, b (by omega), c (by omega), d (by omega), e (by omega), ?_, t.bel.trans hb⟩
  rw [← F6_set0 (f1 := f1)]
  exact t.sep.put (by omega) hk.1 hn ha.fp
/-- the group with a leader turns -/
theorem TT.lead (t : TT w wr P1 P2 g f1 l f2 vh h va all vv hv bs) (ha : Ldr.LS w' w.heap.size P2 l' f2') (hb : Below w.heap.size wr w') (hk : KpL wr w' f2) (hn : NewL wr f2 f2') : TT w w' P1 P2 g f1 l' f2' vh h va all vv hv bs := by
  obtain ⟨a, _, c, d, e⟩ := t.parts (k := 1) hk.1 (by omega) hk
  refine ⟨a (by omega), ha, c (by omega), d (by omega), e (by omega), ?_, t.bel.trans hb⟩
  rw [← F6_set1 (f2 := f2)]
  exact t.sep.put (by omega) hk.1 hn ha.fp
theorem grown_kp {ob : Obj} {v : Value} {w5 : World} (hg : (wr.alloc ob).grownBy w5 v.ownBlock) : KpL wr w5 v.ownBlock.toList := by
  refine ⟨Nat.le_trans (by simp) hg.size, fun b hb hn => ?_⟩
  rw [hg.block b (by simp; omega) (fun e => hn (mem_own.2 e.symm))]
  exact Below.heap_alloc _ _ _ hb
theorem grown_new {v : Value} {gg n c : Nat} (hat : v.ownBlock = some gg ∨ wr.heap.size ≤ gg) : NewL wr v.ownBlock.toList (Value.slice (some ⟨gg, 0, none⟩) n c).ownBlock.toList := by
  intro b hb
  have e : b = gg := by simpa [Value.ownBlock] using hb
  subst e
  exact hat.imp (fun q => mem_own.2 q) id
theorem own_bd {w : World} {base : Nat} {t : TypeId} {s n : Nat} {v : Value} {xs : List Value} (o : w.ownsRow base t s v n xs) : ∀ b ∈ v.ownBlock.toList, base ≤ b ∧ b < w.heap.size := fun b hb => own_lt o b (mem_own.1 hb)
/-- an event more -/
theorem TT.addH {ob : Obj} {w5 : World} {gg n c : Nat} (t : TT w wr P1 P2 g f1 l f2 vh h va all vv hv bs) (ho : Eo w5 w.heap.size (.slice (some ⟨gg, 0, none⟩) n c) h') (hg : (wr.alloc ob).grownBy w5 vh.ownBlock) (hat : vh.ownBlock = some gg ∨ gg = wr.heap.size + 1) : TT w w5 P1 P2 g f1 l f2 (.slice (some ⟨gg, 0, none⟩) n c) h' va all vv hv bs := by
  have hk := grown_kp hg
  obtain ⟨a, b, _, d, e⟩ := t.parts (k := 2) hk.1 (by omega) hk
  refine ⟨a (by omega), b (by omega), ho, d (by omega), e (by omega), ?_, (t.bel.alloc t.bel.size _).grown hg (by have := t.bel.size; simp; omega) fun b hb => (own_lt t.eh b hb).1⟩
  rw [← F6_set2 (vh := vh)]
  exact t.sep.put (by omega) hk.1 (grown_new (hat.imp id fun q => by omega)) (own_bd ho)
/-- a word more -/
theorem TT.addA {ob : Obj} {w5 : World} {gg n c : Nat} {all' : List Int} (t : TT w wr P1 P2 g f1 l f2 vh h va all vv hv bs) (ho : Iw w5 w.heap.size (.slice (some ⟨gg, 0, none⟩) n c) all') (hg : (wr.alloc ob).grownBy w5 va.ownBlock) (hat : va.ownBlock = some gg ∨ gg = wr.heap.size + 1) : TT w w5 P1 P2 g f1 l f2 vh h (.slice (some ⟨gg, 0, none⟩) n c) all' vv hv bs := by
  have hk := grown_kp hg
  obtain ⟨a, b, d, _, e⟩ := t.parts (k := 3) hk.1 (by omega) hk
  refine ⟨a (by omega), b (by omega), d (by omega), ho, e (by omega), ?_, (t.bel.alloc t.bel.size _).grown hg (by have := t.bel.size; simp; omega) fun b hb => (own_lt t.ea b hb).1⟩
  rw [← F6_set3 (va := va)]
  exact t.sep.put (by omega) hk.1 (grown_new (hat.imp id fun q => by omega)) (own_bd ho)
/-- another row of what one heard, in new memory -/
theorem TT.see {v' : Value} {hv' : List Int} {B : Nat} (t : TT w wr P1 P2 g f1 l f2 vh h va all vv hv bs) (hb : Below wr.heap.size wr w') (ho : Iw w' wr.heap.size v' hv') : TT w w' P1 P2 g f1 l f2 vh h va all v' hv' bs := by
  have t' := t.later hb
  have hlo := own_mono ho t.bel.size
  refine ⟨t'.ag, t'.ld, t'.eh, t'.ea, hlo, ?_, t'.bel⟩
  rw [← F6_set4 (vv := vv)]
  exact t.sep.put (by omega) hb.size (NewL.fresh fun b hb => (own_bd ho b hb).1) (own_bd hlo)
/-- blocks aside: new ones, or none -/
theorem TT.aside {bs' : List Nat} (t : TT w wr P1 P2 g f1 l f2 vh h va all vv hv bs) (hb : Below wr.heap.size wr w') (hn : ∀ b ∈ bs', wr.heap.size ≤ b ∧ b < w'.heap.size) : TT w w' P1 P2 g f1 l f2 vh h va all vv hv bs' := by
  have t' := t.later hb
  refine ⟨t'.ag, t'.ld, t'.eh, t'.ea, t'.ev, ?_, t'.bel⟩
  rw [← F6_set5 (bs := bs)]
  exact t.sep.put (by omega) hb.size (NewL.fresh fun b hb => (hn b hb).1) fun b q => ⟨Nat.le_trans t.bel.size (hn b q).1, (hn b q).2⟩
theorem TT.bare (t : TT w wr P1 P2 g f1 l f2 vh h va all vv hv bs) : TT w wr P1 P2 g f1 l f2 vh h va all vv hv [] := t.aside (Below.refl _ _) fun b hb => absurd hb List.not_mem_nil
theorem TT.blind (t : TT w wr P1 P2 g f1 l f2 vh h va all vv hv bs) : TT w wr P1 P2 g f1 l f2 vh h va all (.slice none 0 0) [] bs := t.see (B := 0) (Below.refl _ _) (World.ownsRow_nil _ _ _ _)
/-- a block aside stays while the leader's group turns -/
theorem TT.apart (t : TT w wr P1 P2 g f1 l f2 vh h va all vv hv bs) (hk : KpL wr w' f2) : ∀ b ∈ bs, w'.heap[b]? = wr.heap[b]? := t.sep.keep (k := 1) (i := 5) (by omega) (by omega) (by omega) hk
/-- it begins -/
theorem TT.start {w1 w2 : World} (h1 : Agr.AS w1 w.heap.size P1 g f1) (b1 : Below w.heap.size w w1) (h2 : Ldr.LS w2 w1.heap.size P2 l f2) (b2 : Below w1.heap.size w1 w2) : TT w w2 P1 P2 g f1 l f2 (.slice none 0 0) [] (.slice none 0 0) [] (.slice none 0 0) [] [] := by
  refine ⟨h1.of_blocks b2.size fun b hb => b2.block b (h1.fp b hb).2, h2.lower b1.size, World.ownsRow_nil _ _ _ _, World.ownsRow_nil _ _ _ _, World.ownsRow_nil _ _ _ _, ?_, b1.trans (b2.mono b1.size)⟩
  have e0 : ∀ k b, b ∈ F6 f1 f2 (.slice none 0 0) (.slice none 0 0) (.slice none 0 0) [] k → (k = 0 ∧ b ∈ f1) ∨ (k = 1 ∧ b ∈ f2) := fun k b hb => by
    rcases k with _ | _ | _ | _ | _ | _ | k <;> simp [F6, Value.ownBlock] at hb
    · exact .inl ⟨rfl, hb⟩
    · exact .inr ⟨rfl, hb⟩
  refine ⟨fun k _ b hb => ?_, fun i j _ _ b hi hj => ?_⟩
  · rcases e0 k b hb with ⟨_, q⟩ | ⟨_, q⟩
    · exact ⟨(h1.fp b q).1, Nat.lt_of_lt_of_le (h1.fp b q).2 b2.size⟩
    · exact ⟨Nat.le_trans b1.size (h2.fp b q).1, (h2.fp b q).2⟩
  · rcases e0 i b hi with ⟨a, q⟩ | ⟨a, q⟩ <;> rcases e0 j b hj with ⟨a', q'⟩ | ⟨a', q'⟩
    · omega
    · have := (h1.fp b q).2; have := (h2.fp b q').1; omega
    · have := (h1.fp b q').2; have := (h2.fp b q).1; omega
    · omega
end Go.Proofs.Ytcccheeeagphpag.Top
