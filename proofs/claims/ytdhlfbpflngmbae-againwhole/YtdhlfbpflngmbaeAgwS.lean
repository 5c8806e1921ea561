/-
  A sender, a hearer and two rows of numbers, each with blocks of its own.
-/
import Derived.Test.YtdhlfbpflngmbaeAgaP
import Derived.Test.YtdhlfbpflngmbaeAgwM
import Derived.Deep.AppendLies
import Derived.Laws.OwnMore
import Derived.Tactics
namespace Go.Proofs.Ytdhlfbpflngmbae.Aga
open Go.RowKit
open Go.Proofs.Ytdhlfbpflngmbae.Fif (Cm own_lt own_block own_form own_mono Kp ret_bool)
open Go.Proofs.Ytdhlfbpflngmbae.Sep (KpL NewL setF set_same set_other)
set_option linter.unusedVariables false

theorem run_append_zero {P : Program} {w : World} (base : Nat) (t ty e : TypeId) (i : TypeInfo) (size : Nat) (ht : P.underlying t = some (.slice e)) (hi : P.info? e = some i)
    (v : Value) (n : Nat) (xs : List Value) (hown : w.ownsRow base e size v n xs) (q : Option Addr) (c : Nat) : (Builtin.append_ #[t, t] ty #[v, .slice q 0 c]).run P w = .ok v w := by
  rcases hown.2 with ⟨rfl, rfl⟩ | ⟨g, cap, cur, rfl, _, _, hnc, _⟩
  · cases q <;> simp [Builtin.append_, run_underlying ht, sizeOf, typeInfo, hi, Builtin.lenOf, Builtin.firstCells, loadCells, loadCellsFrom]
  · cases q <;> simp [Builtin.append_, run_underlying ht, sizeOf, typeInfo, hi, Builtin.lenOf, Builtin.firstCells, hnc, storeCells, loadCells, loadCellsFrom]
theorem wpList_append_zero {P : Program} {w : World} {ops : Array Oper} {rest : List Oper} {o : Oper} {a : Act} {Q : Exit → Act → World → Prop} (hgd : o.guard = none) (s x : Operand) (t : TypeId)
    (ho : o.op = .call { callee := .builtin .append, args := #[s, x], argTypes := #[t, t] })
    (base : Nat) (e : TypeId) (i : TypeInfo) (size : Nat) (ht : P.underlying t = some (.slice e)) (hi : P.info? e = some i)
    (v : Value) (n : Nat) (xs : List Value) (hs : a.eval s = v) (hown : w.ownsRow base e size v n xs) (q : Option Addr) (c : Nat) (hx : a.eval x = .slice q 0 c)
    (h : wpList P ops Q rest (a.put o.dst v) w) : wpList P ops Q (o :: rest) a w := by
  refine wpList_plain hgd fun K hK => ?_
  have hrun := run_append_zero (P := P) (w := w) base t o.type e i size ht hi v n xs hown q c
  unfold Oper.wp
  simp [execOp, ho, resolve, invoke, builtin, hs, hx, hrun, Result.andThen]
  exact hK _ _ h
/-- how it stands: a sender (part 0), a hearer (part 1), what was said (part 2), what was heard (part 3) and what lacks (part 4) in rows -/
structure AW (w : World) (Ps Ph : Nat) (wr : World) (said : List Int) (h : Int) (ws : List Cm) (va : Value) (al : List Int) (vh : Value) (hd : List Int) (vx : Value) (lx : List Int) (F : Nat → List Nat) : Prop where
  s : SS wr w.heap.size Ps said 0 (F 0)
  h : HS wr w.heap.size Ph h ws (F 1)
  a : Ow wr w.heap.size va al
  d : Ow wr w.heap.size vh hd
  x : Ow wr w.heap.size vx lx
  fa : F 2 = va.ownBlock.toList
  fd : F 3 = vh.ownBlock.toList
  fx : F 4 = vx.ownBlock.toList
  sep : Sep.Sep wr w.heap.size F
  bel : Below w.heap.size w wr
variable {w wr w' : World} {Ps Ph : Nat} {said : List Int} {h : Int} {ws : List Cm} {va vh vx : Value} {al hd lx : List Int} {F : Nat → List Nat}
theorem AW.still (g : AW w Ps Ph wr said h ws va al vh hd vx lx F) (hb : Below wr.heap.size wr w') : AW w Ps Ph w' said h ws va al vh hd vx lx F :=
  ⟨g.s.of_blocks hb.size (g.sep.still hb (by omega)), g.h.of_blocks hb.size (g.sep.still hb (by omega)), g.a.later hb, g.d.later hb, g.x.later hb, g.fa, g.fd, g.fx, g.sep.later hb.size, g.bel.trans (hb.mono g.bel.size)⟩
theorem AW.keepA (g : AW w Ps Ph wr said h ws va al vh hd vx lx F) {k : Nat} (hk : k < 10) (hne : 2 ≠ k) (hp : KpL wr w' (F k)) : Ow w' w.heap.size va al := own_block g.a fun b hb => g.sep.keep hk (by omega) hne hp b (by rw [g.fa, hb]; simp)
theorem AW.keepD (g : AW w Ps Ph wr said h ws va al vh hd vx lx F) {k : Nat} (hk : k < 10) (hne : 3 ≠ k) (hp : KpL wr w' (F k)) : Ow w' w.heap.size vh hd := own_block g.d fun b hb => g.sep.keep hk (by omega) hne hp b (by rw [g.fd, hb]; simp)
theorem AW.keepX (g : AW w Ps Ph wr said h ws va al vh hd vx lx F) {k : Nat} (hk : k < 10) (hne : 4 ≠ k) (hp : KpL wr w' (F k)) : Ow w' w.heap.size vx lx := own_block g.x fun b hb => g.sep.keep hk (by omega) hne hp b (by rw [g.fx, hb]; simp)
/-- the sender turns -/
theorem AW.say (g : AW w Ps Ph wr said h ws va al vh hd vx lx F) {said' : List Int} {fp' : List Nat} (hs : SS w' w.heap.size Ps said' 0 fp') (hb : Below w.heap.size wr w') (hp : KpL wr w' (F 0)) (hn : NewL wr (F 0) fp') : AW w Ps Ph w' said' h ws va al vh hd vx lx (setF F 0 fp') := by
  refine ⟨by rw [set_same]; exact hs, by rw [set_other _ _ (by omega)]; exact g.h.of_blocks hp.1 (g.sep.keep (by omega) (by omega) (by omega) hp), g.keepA (by omega) (by omega) hp, g.keepD (by omega) (by omega) hp, g.keepX (by omega) (by omega) hp, by rw [set_other _ _ (by omega)]; exact g.fa, by rw [set_other _ _ (by omega)]; exact g.fd, by rw [set_other _ _ (by omega)]; exact g.fx, g.sep.put (by omega) hp.1 hn hs.fp, g.bel.trans hb⟩
/-- the hearer turns -/
theorem AW.hear (g : AW w Ps Ph wr said h ws va al vh hd vx lx F) {h' : Int} {ws' : List Cm} {fp' : List Nat} (hs : HS w' w.heap.size Ph h' ws' fp') (hb : Below w.heap.size wr w') (hp : KpL wr w' (F 1)) (hn : NewL wr (F 1) fp') : AW w Ps Ph w' said h' ws' va al vh hd vx lx (setF F 1 fp') := by
  refine ⟨by rw [set_other _ _ (by omega)]; exact g.s.of_blocks hp.1 (g.sep.keep (by omega) (by omega) (by omega) hp), by rw [set_same]; exact hs, g.keepA (by omega) (by omega) hp, g.keepD (by omega) (by omega) hp, g.keepX (by omega) (by omega) hp, by rw [set_other _ _ (by omega)]; exact g.fa, by rw [set_other _ _ (by omega)]; exact g.fd, by rw [set_other _ _ (by omega)]; exact g.fx, g.sep.put (by omega) hp.1 hn hs.fp, g.bel.trans hb⟩
theorem grown_kp {v : Value} (hg : wr.grownBy w' v.ownBlock) : KpL wr w' v.ownBlock.toList := ⟨hg.size, fun b hb hn => hg.block b hb fun e => hn (by rw [← e]; simp)⟩
/-- what was said grows -/
theorem AW.rowA (g : AW w Ps Ph wr said h ws va al vh hd vx lx F) {va' : Value} {al' : List Int} (hg : wr.grownBy w' va.ownBlock) (ho : Ow w' w.heap.size va' al') (hat : ∀ k, va'.ownBlock = some k → va.ownBlock = some k ∨ wr.heap.size ≤ k) : AW w Ps Ph w' said h ws va' al' vh hd vx lx (setF F 2 va'.ownBlock.toList) := by
  have hp : KpL wr w' (F 2) := by rw [g.fa]; exact grown_kp hg
  have hn : NewL wr (F 2) va'.ownBlock.toList := fun b hb => (hat b (by simpa using hb)).imp (fun q => by rw [g.fa, q]; simp) id
  refine ⟨by rw [set_other _ _ (by omega)]; exact g.s.of_blocks hp.1 (g.sep.keep (by omega) (by omega) (by omega) hp), by rw [set_other _ _ (by omega)]; exact g.h.of_blocks hp.1 (g.sep.keep (by omega) (by omega) (by omega) hp), ho, g.keepD (by omega) (by omega) hp, g.keepX (by omega) (by omega) hp, set_same _ _ _, by rw [set_other _ _ (by omega)]; exact g.fd, by rw [set_other _ _ (by omega)]; exact g.fx, g.sep.put (by omega) hp.1 hn fun b hb => own_lt ho b (by simpa using hb), g.bel.grown hg g.bel.size fun k hk => (own_lt g.a k hk).1⟩
/-- what was heard grows -/
theorem AW.rowD (g : AW w Ps Ph wr said h ws va al vh hd vx lx F) {vh' : Value} {hd' : List Int} (hg : wr.grownBy w' vh.ownBlock) (ho : Ow w' w.heap.size vh' hd') (hat : ∀ k, vh'.ownBlock = some k → vh.ownBlock = some k ∨ wr.heap.size ≤ k) : AW w Ps Ph w' said h ws va al vh' hd' vx lx (setF F 3 vh'.ownBlock.toList) := by
  have hp : KpL wr w' (F 3) := by rw [g.fd]; exact grown_kp hg
  have hn : NewL wr (F 3) vh'.ownBlock.toList := fun b hb => (hat b (by simpa using hb)).imp (fun q => by rw [g.fd, q]; simp) id
  refine ⟨by rw [set_other _ _ (by omega)]; exact g.s.of_blocks hp.1 (g.sep.keep (by omega) (by omega) (by omega) hp), by rw [set_other _ _ (by omega)]; exact g.h.of_blocks hp.1 (g.sep.keep (by omega) (by omega) (by omega) hp), g.keepA (by omega) (by omega) hp, ho, g.keepX (by omega) (by omega) hp, by rw [set_other _ _ (by omega)]; exact g.fa, set_same _ _ _, by rw [set_other _ _ (by omega)]; exact g.fx, g.sep.put (by omega) hp.1 hn fun b hb => own_lt ho b (by simpa using hb), g.bel.grown hg g.bel.size fun k hk => (own_lt g.d k hk).1⟩
/-- what lacks is told -/
theorem AW.rowX (g : AW w Ps Ph wr said h ws va al vh hd vx lx F) {vx' : Value} {lx' : List Int} (hb : Below wr.heap.size wr w') (ho : Ow w' wr.heap.size vx' lx') : AW w Ps Ph w' said h ws va al vh hd vx' lx' (setF F 4 vx'.ownBlock.toList) := by
  have g' := g.still hb
  refine ⟨by rw [set_other _ _ (by omega)]; exact g'.s, by rw [set_other _ _ (by omega)]; exact g'.h, g'.a, g'.d, own_mono ho g.bel.size, by rw [set_other _ _ (by omega)]; exact g.fa, by rw [set_other _ _ (by omega)]; exact g.fd, set_same _ _ _, g.sep.put (by omega) hb.size (NewL.fresh fun b hb => (own_lt ho b (by simpa using hb)).1) fun b hb => ?_, g'.bel⟩
  have := own_lt ho b (by simpa using hb)
  have := g.bel.size
  omega
theorem AW.start {fs fh : List Nat} {w1 w2 : World} (hb1 : Below w.heap.size w w1) (hs : SS w2 w1.heap.size Ps [] 0 fs) (hb2 : Below w1.heap.size w1 w2) (hh : HS wr w2.heap.size Ph 0 [] fh) (hb3 : Below w2.heap.size w2 wr) : ∃ F, AW w Ps Ph wr [] 0 [] (.slice none 0 0) [] (.slice none 0 0) [] (.slice none 0 0) [] F := by
  have b12 := hb1.trans (hb2.mono hb1.size)
  have b13 := b12.trans (hb3.mono b12.size)
  have hs' := (hs.of_blocks (w' := wr) hb3.size fun b hb => hb3.block b (hs.fp b hb).2).lower hb1.size
  refine ⟨setF (setF (fun _ => []) 0 fs) 1 fh, by rw [set_other _ _ (by omega), set_same]; exact hs', by rw [set_same]; exact hh.lower b12.size, Ow.nil _ _, Ow.nil _ _, Ow.nil _ _, rfl, rfl, rfl, ?_, b13⟩
  have s1 : Sep.Sep w2 w.heap.size (setF (fun _ => []) 0 fs) := (Sep.Sep.none w1 w.heap.size).put (by omega) hb2.size (NewL.fresh fun b hb => (hs.fp b hb).1) fun b hb => ⟨Nat.le_trans hb1.size (hs.fp b hb).1, (hs.fp b hb).2⟩
  exact s1.put (by omega) hb3.size (NewL.fresh fun b hb => (hh.fp b hb).1) fun b hb => ⟨Nat.le_trans b12.size (hh.fp b hb).1, (hh.fp b hb).2⟩
end Go.Proofs.Ytdhlfbpflngmbae.Aga
