/-
  AgainPlays: how both stand at any time: the program's sender and hearer, the document's own, each with blocks of its own.
-/
import Derived.Test.YtdhlfbpflngmbafDoorAgaP
import Derived.Test.YtdhlfbpflngmbafDoorFifS
import Derived.Test.YtdhlfbpflngmbafDoorRowsF
import Derived.Test.YtdhlfbpflngmbafDoorVecB
import Derived.Deep.AppendLies
import Derived.Deep.CutBlock
import Derived.Deep.RegionLaw
import Derived.Deep.CutRange
namespace Go.Proofs.YtdhlfbpflngmbafDoor.Aga
open Go.RowKit
open Go.Proofs.YtdhlfbpflngmbafDoor.As (Laid)
open Go.Proofs.YtdhlfbpflngmbafDoor.Fif (Cm Inv RS rsv tk tkC tk_no tk_ok run own_lt own_block own_form own_mono own_vw Kp ret_bool)
open Go.Proofs.YtdhlfbpflngmbafDoor.Sep (KpL NewL setF set_same set_other)
open Go.Proofs.YtdhlfbpflngmbafDoor.Vec (Vw ints_any)
set_option linter.unusedVariables false

def mv (vS : Value) (free : Nat) (j : Nat) : Value := if j = 0 then vS else .int .i64 (free : Int)
theorem RS.of_blocks {w w' : World} {base P : Nat} {H : List Int} {ws : List Cm} {v : Value} (g : RS w base P H ws v) (h1 : w'.heap[P]? = w.heap[P]?) (h2 : ∀ k, v.ownBlock = some k → w'.heap[k]? = w.heap[k]?) : RS w' base P H ws v :=
  ⟨World.rowIs.of_block g.1 h1, own_block g.2.1 h2, g.2.2.1, g.2.2.2⟩
/-- parts: 0 the program's sender, 1 its hearer, 2 the document's own sender, 3 its own fifo, 4 the numbers of a step -/
structure PG (w : World) (Ps Ph M Q : Nat) (wr : World) (said : List Int) (free : Nat) (h : Int) (ws : List Cm) (rs : List Int) (rf : Nat) (H : List Int) (rw : List Cm) (vS vW : Value) (F : Nat → List Nat) : Prop where
  s : SS wr w.heap.size Ps said free (F 0)
  h : HS wr w.heap.size Ph h ws (F 1)
  m : wr.rowIs M 30 2 (mv vS rf)
  o : Ow wr w.heap.size vS rs
  r : RS wr w.heap.size Q H rw vW
  f2 : F 2 = M :: vS.ownBlock.toList
  f3 : F 3 = Q :: vW.ownBlock.toList
  f5 : ∀ i, 5 ≤ i → F i = []
  sep : Sep.Sep wr w.heap.size F
  bel : Below w.heap.size w wr
/-- the three numbers of a step, in a variable of the round's own -/
def V3 (wr : World) (V : Nat) (k0 k1 k2 : Int) : Prop := V < wr.heap.size ∧ wr.cell? ⟨V, 0, none⟩ = some (.int .i64 k0) ∧ wr.cell? ⟨V, 1, none⟩ = some (.int .i64 k1) ∧ wr.cell? ⟨V, 2, none⟩ = some (.int .i64 k2) ∧ ∀ c fr, wr.heap[V]? ≠ some (.cells c 49 fr)
theorem V3.block {w w' : World} {V : Nat} {k0 k1 k2 : Int} (h : V3 w V k0 k1 k2) (hs : w.heap.size ≤ w'.heap.size) (e : w'.heap[V]? = w.heap[V]?) : V3 w' V k0 k1 k2 :=
  ⟨Nat.lt_of_lt_of_le h.1 hs, (World.cell?_of_block (a := ⟨V, 0, none⟩) e).trans h.2.1, (World.cell?_of_block (a := ⟨V, 1, none⟩) e).trans h.2.2.1, (World.cell?_of_block (a := ⟨V, 2, none⟩) e).trans h.2.2.2.1, fun c fr q => h.2.2.2.2 c fr (by rw [← e]; exact q)⟩
theorem V3.later {w w' : World} {V : Nat} {k0 k1 k2 : Int} (h : V3 w V k0 k1 k2) (hb : Below w.heap.size w w') : V3 w' V k0 k1 k2 := h.block hb.size (hb.block V h.1)
variable {w wr w' : World} {Ps Ph M Q : Nat} {said : List Int} {free : Nat} {h : Int} {ws : List Cm} {rs : List Int} {rf : Nat} {H : List Int} {rw : List Cm} {vS vW : Value} {F : Nat → List Nat}
theorem PG.still (g : PG w Ps Ph M Q wr said free h ws rs rf H rw vS vW F) (hb : Below wr.heap.size wr w') : PG w Ps Ph M Q w' said free h ws rs rf H rw vS vW F :=
  ⟨g.s.of_blocks hb.size (g.sep.still hb (by omega)), g.h.of_blocks hb.size (g.sep.still hb (by omega)), World.rowIs.of_block g.m (hb.block _ (World.rowIs.lt g.m)), g.o.later hb, RS.of_blocks g.r (hb.block _ (World.rowIs.lt g.r.1)) (fun k hk => hb.block k (own_lt g.r.2.1 k hk).2), g.f2, g.f3, g.f5, g.sep.later hb.size, g.bel.trans (hb.mono g.bel.size)⟩
theorem PG.keepM (g : PG w Ps Ph M Q wr said free h ws rs rf H rw vS vW F) {k : Nat} (hk : k < 10) (hne : 2 ≠ k) (hp : KpL wr w' (F k)) : w'.rowIs M 30 2 (mv vS rf) ∧ Ow w' w.heap.size vS rs :=
  ⟨World.rowIs.of_block g.m (g.sep.keep hk (by omega) hne hp M (by rw [g.f2]; simp)), own_block g.o fun b hb => g.sep.keep hk (by omega) hne hp b (by rw [g.f2, hb]; simp)⟩
theorem PG.keepR (g : PG w Ps Ph M Q wr said free h ws rs rf H rw vS vW F) {k : Nat} (hk : k < 10) (hne : 3 ≠ k) (hp : KpL wr w' (F k)) : RS w' w.heap.size Q H rw vW :=
  RS.of_blocks g.r (g.sep.keep hk (by omega) hne hp Q (by rw [g.f3]; simp)) fun b hb => g.sep.keep hk (by omega) hne hp b (by rw [g.f3, hb]; simp)
theorem PG.keepV (g : PG w Ps Ph M Q wr said free h ws rs rf H rw vS vW F) {V : Nat} {k0 k1 k2 : Int} (v : V3 wr V k0 k1 k2) (hV : V ∈ F 4) {k : Nat} (hk : k < 10) (hne : 4 ≠ k) (hp : KpL wr w' (F k)) : V3 w' V k0 k1 k2 := v.block hp.1 (g.sep.keep hk (by omega) hne hp V hV)
theorem f5_set {k : Nat} (h : ∀ i, 5 ≤ i → F i = []) (hk : k < 5) (l : List Nat) : ∀ i, 5 ≤ i → setF F k l i = [] := fun i hi => by rw [set_other _ _ (by omega)]; exact h i hi
/-- the program's sender turns -/
theorem PG.say (g : PG w Ps Ph M Q wr said free h ws rs rf H rw vS vW F) {said' : List Int} {free' : Nat} {fp' : List Nat} (hs : SS w' w.heap.size Ps said' free' fp') (hb : Below w.heap.size wr w') (hp : KpL wr w' (F 0)) (hn : NewL wr (F 0) fp') : PG w Ps Ph M Q w' said' free' h ws rs rf H rw vS vW (setF F 0 fp') :=
  ⟨by rw [set_same]; exact hs, by rw [set_other _ _ (by omega)]; exact g.h.of_blocks hp.1 (g.sep.keep (by omega) (by omega) (by omega) hp), (g.keepM (by omega) (by omega) hp).1, (g.keepM (by omega) (by omega) hp).2, g.keepR (by omega) (by omega) hp, by rw [set_other _ _ (by omega)]; exact g.f2, by rw [set_other _ _ (by omega)]; exact g.f3, f5_set g.f5 (by omega) _, g.sep.put (by omega) hp.1 hn hs.fp, g.bel.trans hb⟩
/-- the program's hearer turns -/
theorem PG.hear (g : PG w Ps Ph M Q wr said free h ws rs rf H rw vS vW F) {h' : Int} {ws' : List Cm} {fp' : List Nat} (hs : HS w' w.heap.size Ph h' ws' fp') (hb : Below w.heap.size wr w') (hp : KpL wr w' (F 1)) (hn : NewL wr (F 1) fp') : PG w Ps Ph M Q w' said free h' ws' rs rf H rw vS vW (setF F 1 fp') :=
  ⟨by rw [set_other _ _ (by omega)]; exact g.s.of_blocks hp.1 (g.sep.keep (by omega) (by omega) (by omega) hp), by rw [set_same]; exact hs, (g.keepM (by omega) (by omega) hp).1, (g.keepM (by omega) (by omega) hp).2, g.keepR (by omega) (by omega) hp, by rw [set_other _ _ (by omega)]; exact g.f2, by rw [set_other _ _ (by omega)]; exact g.f3, f5_set g.f5 (by omega) _, g.sep.put (by omega) hp.1 hn hs.fp, g.bel.trans hb⟩
theorem PG.inM (g : PG w Ps Ph M Q wr said free h ws rs rf H rw vS vW F) : M ∈ F 2 := by rw [g.f2]; simp
theorem mS_apart {wr : World} {M b : Nat} {f : Nat → Value} (r : wr.rowIs M 30 2 f) {v : Value} {l : List Int} (o : Ow wr b v l) : v.ownBlock ≠ some M := by
  intro hk
  rcases o.2 with ⟨h2, _⟩ | ⟨g', cap', cur, hv, hbg, hh, _⟩
  · rw [h2] at hk; cases hk
  · rw [hv] at hk
    have : g' = M := by simpa [Value.ownBlock] using hk
    subst this
    obtain ⟨c, hc, _⟩ := r
    rw [hc] at hh
    injection hh with hh
    injection hh with _ hh _
    exact absurd hh (by decide)
/-- the document's own sender says a word more: a row grows, and is stored -/
theorem PG.refSay (g : PG w Ps Ph M Q wr said free h ws rs rf H rw vS vW F) {w1 : World} {vS' : Value} {rs' : List Int} (hg : wr.grownBy w1 vS.ownBlock) (ho : Ow w1 w.heap.size vS' rs') (hat : ∀ k, vS'.ownBlock = some k → vS.ownBlock = some k ∨ wr.heap.size ≤ k) :
    PG w Ps Ph M Q (w1.setCell ⟨M, 0, none⟩ vS') said free h ws rs' rf H rw vS' vW (setF F 2 (M :: vS'.ownBlock.toList)) ∧ KpL wr (w1.setCell ⟨M, 0, none⟩ vS') (F 2) := by
  have hlt := World.rowIs.lt g.m
  have hMv : vS.ownBlock ≠ some M := mS_apart g.m g.o
  have hmk : w1.heap[M]? = wr.heap[M]? := hg.block M hlt fun e => hMv e.symm
  have hm1 : w1.rowIs M 30 2 (mv vS rf) := World.rowIs.of_block g.m hmk
  have hp : KpL wr (w1.setCell ⟨M, 0, none⟩ vS') (F 2) := ⟨by simpa [World.setCell] using hg.size, fun b hb hn => by
    rw [g.f2] at hn
    simp only [List.mem_cons, not_or, Option.mem_toList] at hn
    exact (Deep.blk_setCell_other _ _ _ _ hn.1).trans (hg.block b hb fun e => hn.2 e.symm)⟩
  have hMv' : vS'.ownBlock ≠ some M := mS_apart hm1 ho
  have ho' : Ow (w1.setCell ⟨M, 0, none⟩ vS') w.heap.size vS' rs' := own_block ho fun k hk => Deep.blk_setCell_other _ _ _ _ fun e => hMv' (by rw [hk, e])
  refine ⟨⟨by rw [set_other _ _ (by omega)]; exact g.s.of_blocks hp.1 (g.sep.keep (by omega) (by omega) (by omega) hp), by rw [set_other _ _ (by omega)]; exact g.h.of_blocks hp.1 (g.sep.keep (by omega) (by omega) (by omega) hp), (World.rowIs.set hm1 0 _).congr fun j hj => ?_, ho', g.keepR (by omega) (by omega) hp, set_same _ _ _, by rw [set_other _ _ (by omega)]; exact g.f3, f5_set g.f5 (by omega) _, g.sep.put (by omega) hp.1 (fun b hb => ?_) fun b hb => ?_, (g.bel.grown hg g.bel.size fun k hk => (own_lt g.o k hk).1).setCell (p := ⟨M, 0, none⟩) (g.sep.bd 2 (by omega) M g.inM).1 _⟩, hp⟩
  · unfold mv
    by_cases e : j = 0
    · rw [if_pos e, if_pos e]
    · rw [if_neg e, if_neg e, if_neg e]
  · rcases List.mem_cons.1 hb with rfl | hb
    · exact .inl g.inM
    · exact (hat b (by simpa using hb)).imp (fun q => by rw [g.f2, q]; simp) id
  · rcases List.mem_cons.1 hb with rfl | hb
    · exact ⟨(g.sep.bd 2 (by omega) _ g.inM).1, Nat.lt_of_lt_of_le hlt hp.1⟩
    · exact own_lt ho' b (by simpa using hb)
/-- the document's own sender frees -/
theorem PG.refFree (g : PG w Ps Ph M Q wr said free h ws rs rf H rw vS vW F) (n : Nat) : PG w Ps Ph M Q (wr.setCell ⟨M, 1, none⟩ (.int .i64 (n : Int))) said free h ws rs n H rw vS vW F ∧ KpL wr (wr.setCell ⟨M, 1, none⟩ (.int .i64 (n : Int))) (F 2) := by
  have hMv : vS.ownBlock ≠ some M := mS_apart g.m g.o
  have hp : KpL wr (wr.setCell ⟨M, 1, none⟩ (.int .i64 (n : Int))) (F 2) := ⟨by simp [World.setCell], fun b hb hn => by
    rw [g.f2] at hn
    simp only [List.mem_cons, not_or] at hn
    exact Deep.blk_setCell_other _ _ _ _ hn.1⟩
  refine ⟨⟨g.s.of_blocks hp.1 (g.sep.keep (by omega) (by omega) (by omega) hp), g.h.of_blocks hp.1 (g.sep.keep (by omega) (by omega) (by omega) hp), (World.rowIs.set g.m 1 _).congr fun j hj => ?_, own_block g.o fun k hk => Deep.blk_setCell_other _ _ _ _ fun e => hMv (by rw [hk, e]), g.keepR (by omega) (by omega) hp, g.f2, g.f3, g.f5, g.sep.later hp.1, g.bel.setCell (p := ⟨M, 1, none⟩) (g.sep.bd 2 (by omega) M g.inM).1 _⟩, hp⟩
  unfold mv
  by_cases e : j = 1
  · rw [if_pos e, if_neg (by omega)]
  · rw [if_neg e]
    have : j = 0 := by omega
    subst this
    rfl
theorem came_not {w : World} {b : Nat} {t : TypeId} {s n : Nat} {v : Value} {xs : List Value} (o : w.ownsRow b t s v n xs) (ht : t ≠ 49) {k : Nat} (hk : v.ownBlock = some k) : ∀ c fr, w.heap[k]? ≠ some (.cells c 49 fr) := by
  intro c fr q
  rcases o.2 with ⟨h2, _⟩ | ⟨g', cap', cur, hv, hbg, hh, _⟩
  · rw [h2] at hk; cases hk
  · rw [hv] at hk
    have : g' = k := by simpa [Value.ownBlock] using hk
    subst this
    rw [hh] at q
    injection q with q
    injection q with _ q _
    exact ht q
/-- the document's own fifo turns -/
theorem PG.refTake (g : PG w Ps Ph M Q wr said free h ws rs rf H rw vS vW F) {V : Nat} {k0 k1 k2 : Int} (v3 : V3 wr V k0 k1 k2) (h4 : F 4 = [V]) {H' : List Int} {rw' : List Cm} {vW' : Value} (hr : RS w' w.heap.size Q H' rw' vW') (hb : Below w.heap.size wr w') (hk : Kp wr w' Q vW.ownBlock) :
    PG w Ps Ph M Q w' said free h ws rs rf H' rw' vS vW' (setF F 3 (Q :: vW'.ownBlock.toList)) ∧ KpL wr w' (F 3) := by
  have hQ : Q ∈ F 3 := by rw [g.f3]; simp
  have hp : KpL wr w' (F 3) := ⟨hk.1, fun b hb hn => by
    rw [g.f3] at hn
    simp only [List.mem_cons, not_or, Option.mem_toList] at hn
    exact hk.2 b hb hn.1 fun e => hn.2 e.symm⟩
  have hnew : ∀ b, vW'.ownBlock = some b → b ∈ F 3 ∨ ∀ i, i < 10 → b ∉ F i := by
    intro b hb'
    by_cases q3 : b ∈ F 3
    · exact .inl q3
    · right
      intro i hi hbi
      have hlt := (g.sep.bd i hi b hbi).2
      have hcell : ∃ c fr, wr.heap[b]? = some (.cells c 49 fr) := by
        rcases hr.2.1.2 with ⟨h2, _⟩ | ⟨g', cap', cur, hv, hbg, hh, _⟩
        · rw [h2] at hb'; cases hb'
        · rw [hv] at hb'
          have : g' = b := by simpa [Value.ownBlock] using hb'
          subst this
          exact ⟨cur, (0, 0), by rw [← hp.2 g' hlt q3]; exact hh⟩
      obtain ⟨c, fr, hc⟩ := hcell
      have h5 : i < 5 := by
        rcases Nat.lt_or_ge i 5 with a | a
        · exact a
        · rw [g.f5 i a] at hbi; exact absurd hbi List.not_mem_nil
      rcases i with _ | _ | _ | _ | _ | i
      · exact g.s.kind b hbi c fr hc
      · exact g.h.kind b hbi c fr hc
      · rw [g.f2] at hbi
        rcases List.mem_cons.1 hbi with rfl | hbi
        · obtain ⟨c', hc', _⟩ := g.m
          rw [hc] at hc'
          injection hc' with q
          injection q with _ q _
          exact absurd q (by decide)
        · exact came_not g.o (by decide) (by simpa using hbi) c fr hc
      · exact q3 hbi
      · rw [h4] at hbi
        rw [List.mem_singleton.1 hbi] at hc
        exact v3.2.2.2.2 c fr hc
      · omega
  refine ⟨⟨by rw [set_other _ _ (by omega)]; exact g.s.of_blocks hp.1 (g.sep.keep (by omega) (by omega) (by omega) hp), by rw [set_other _ _ (by omega)]; exact g.h.of_blocks hp.1 (g.sep.keep (by omega) (by omega) (by omega) hp), (g.keepM (by omega) (by omega) hp).1, (g.keepM (by omega) (by omega) hp).2, hr, by rw [set_other _ _ (by omega)]; exact g.f2, set_same _ _ _, f5_set g.f5 (by omega) _, g.sep.put' (by omega) hp.1 (fun b hb' => ?_) fun b hb' => ?_, g.bel.trans hb⟩, hp⟩
  · rcases List.mem_cons.1 hb' with rfl | hb'
    · exact .inl hQ
    · exact hnew b (by simpa using hb')
  · rcases List.mem_cons.1 hb' with rfl | hb'
    · exact ⟨(g.sep.bd 3 (by omega) _ hQ).1, World.rowIs.lt hr.1⟩
    · exact own_lt hr.2.1 b (by simpa using hb')
/-- how all stands behind i steps -/
def PA (w : World) (Ps Ph M Q i : Nat) (wr : World) : Prop := ∃ said free H ws vS vW F, PG w Ps Ph M Q wr said free (H.getD 0 0) ws said free H ws vS vW F ∧ SInv said free ∧ HInv (H.getD 0 0) ws ∧ Inv H ws ∧ said.length ≤ i
/-- how all stands behind a step's own part -/
def PB (w : World) (Ps Ph M Q V : Nat) (k0 k1 k2 : Int) (i : Nat) (wr : World) : Prop := ∃ said free H ws vS vW F, PG w Ps Ph M Q wr said free (H.getD 0 0) ws said free H ws vS vW F ∧ V3 wr V k0 k1 k2 ∧ F 4 = [V] ∧ SInv said free ∧ HInv (H.getD 0 0) ws ∧ Inv H ws ∧ said.length ≤ i
theorem PB.still {w wr w' : World} {Ps Ph M Q V i : Nat} {k0 k1 k2 : Int} (g : PB w Ps Ph M Q V k0 k1 k2 i wr) (hb : Below wr.heap.size wr w') : PB w Ps Ph M Q V k0 k1 k2 i w' := by
  obtain ⟨said, free, H, ws, vS, vW, F, g1, g2, g3⟩ := g
  exact ⟨said, free, H, ws, vS, vW, F, g1.still hb, g2.later hb, g3⟩
/-- the document's own fifo of one member is the hearer -/
theorem tk_hr {H : List Int} {ws : List Cm} (g : Inv H ws) (n word : Int) : (tk H ws 0 n word).1 = (hrT (H.getD 0 0) ws n word).1 ∧ (tk H ws 0 n word).2.1.getD 0 0 = (hrT (H.getD 0 0) ws n word).2.1 ∧ (tk H ws 0 n word).2.2 = (hrT (H.getD 0 0) ws n word).2.2 := by
  by_cases hc : tkC (H.getD 0 0) ws 0 n word = 0
  · have e := tk_ok (H := H) (who := 0) (n := n) (word := word) (ws := ws) hc
    rw [e, hrT_ok hc]
    refine ⟨rfl, ?_, rfl⟩
    show (H.set 0 (run 0 (H.getD 0 0) (ws ++ [(0, n, word)])).2.1).getD 0 0 = _
    rw [Fif.set_getD (by rw [g.five]; omega), if_pos rfl]
  · rw [tk_no (H := H) (who := 0) hc, hrT_no hc]
    exact ⟨rfl, rfl, rfl⟩
theorem newX (w : World) (B : Nat) (hB : B = w.heap.size) (x : Value) (t : TypeId) : ∀ j u, [x][j]? = some u → (w.alloc (.cells #[x] t)).cell? ((⟨B, 0, none⟩ : Addr).add j) = some u := by
  subst hB
  intro j u hj
  rw [Addr.add_lit, Nat.zero_add]
  rcases j with _ | j
  · simpa using hj
  · simp at hj
theorem oneX (x : Int) : ∀ u ∈ [Value.int .i64 x], u.oneCell' = true := by
  intro u hu
  obtain rfl := List.mem_singleton.1 hu
  rfl
theorem pushX {w w' : World} {base : Nat} {ob : Obj} {t : TypeId} {s n : Nat} {v : Value} {xs : List Value} (o : w.ownsRow base t s v n xs) (e : w'.heap = w.heap.push ob) : w'.ownsRow base t s v n xs := own_block o fun k hk => by
  rw [e, Array.getElem?_push_lt (own_lt o k hk).2, Array.getElem?_eq_getElem (own_lt o k hk).2]
/-- the block of that number -/
def blockAt (n : Nat) : Code → Option Code
  | .block m c => if m = n then some (.block m c) else blockAt n c
  | .seq a b => match blockAt n a with
    | some c => some c
    | none => blockAt n b
  | .loop c => blockAt n c
  | .cond _ a b => match blockAt n a with
    | some c => some c
    | none => blockAt n b
  | _ => none
def R3n (wo wz : World) : Prop := ∃ f : Nat → Int, wz.rowIs wo.heap.size 36 3 (fun t => .int .i64 (f t)) ∧ Below wo.heap.size wo wz
theorem own_ints {w : World} {base n : Nat} {t : TypeId} {v : Value} {xs : List Int} (h : w.ownsRow base t 1 v n (xs.map (Value.int .i64))) : ∃ a cap, v = .slice a n cap ∧ Vw w a n xs ∧ n ≤ maxLen := by
  obtain ⟨a, cap, e, hv⟩ := own_vw h
  refine ⟨a, cap, e, hv, ?_⟩
  rcases h.2 with ⟨_, h3⟩ | ⟨g', cap', cur, hv, _, _, h1, h2, _⟩
  · rw [h3]; exact Nat.zero_le _
  · omega
theorem ints_eq (a b : Option Addr) (len cap len' cap' : Nat) (xs : List Int) (w : World) (hv : Vw w a len xs) (hv' : Vw w b len' xs) (hm : len ≤ maxLen) :
    Calls Tryd.prog 12 #[.slice a len cap, .slice b len' cap'] w fun e w' => e = .returned (.bool true) ∧ ∃ n, w' = w.drewN n := by
  refine (ints_any a b len cap len' cap' xs xs w hv hv' hm).mono ?_
  rintro e w' ⟨rfl, hb⟩
  exact ⟨ret_bool (by simp), hb⟩
theorem drewsA {B : Nat} {a w : World} (h : Below B a w) (n : Nat) : Below B a (w.drewN n) := ⟨h.os, h.tape, h.output, h.size, h.block⟩
end Go.Proofs.YtdhlfbpflngmbafDoor.Aga
