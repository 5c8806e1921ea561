/-
  Contracts of package net: add, remove, Send, Drop, Twice, Give, Cut, All.
-/
import Derived.Test.YtmlafflmgagkjadDoorNetG
import Derived.Test.YtmlafflmgagkjadDoorNetD
import Derived.Deep.AppendLies
import Derived.Laws.AppendOwnNone
import Derived.Laws.ResultCell
import Derived.Deep.RegionLaw
namespace Go.Proofs.YtmlafflmgagkjadDoor.Nw
open Go.RowKit Go.Maps
open Go.Proofs.YtmlafflmgagkjadDoor.Net
open Go.Proofs.YtmlafflmgagkjadDoor.Fif (own_lt own_block own_form own_mono Kp ret_bool row_grown)
set_option linter.unusedVariables false
variable {base P mb : Nat} {no : Int → Int → Bool} {l : List Pk} {v : Value}

/-- what a call leaves: the net as it is then, and all else alone -/
structure Res (w w' : World) (base P mb : Nat) (no : Int → Int → Bool) (l : List Pk) (v : Value) (no' : Int → Int → Bool) (l' : List Pk) (v' : Value) : Prop where
  nf : NF w' base P mb no' l' v'
  bel : Below base w w'
  kp : KpL w w' (fpOf P mb v)
  new : NewL w (fpOf P mb v) (fpOf P mb v')
theorem Res.still {w w' : World} (g : NF w base P mb no l v) (hbw : base ≤ w.heap.size) (h : Below w.heap.size w w') : Res w w' base P mb no l v no l v :=
  ⟨g.later h, h.mono hbw, ⟨h.size, fun b hb _ => h.block b hb⟩, fun b hb => .inl hb⟩
theorem Res.behind {w w1 w' : World} {no' : Int → Int → Bool} {l' : List Pk} {v' : Value} (h : Below w.heap.size w w1) (hbw : base ≤ w.heap.size) (r : Res w1 w' base P mb no l v no' l' v') : Res w w' base P mb no l v no' l' v' :=
  ⟨r.nf, (h.mono hbw).trans r.bel, ⟨Nat.le_trans h.size r.kp.1, fun b hb hn => (r.kp.2 b (Nat.lt_of_lt_of_le hb h.size) hn).trans (h.block b hb)⟩, fun b hb => (r.new b hb).imp id fun q => Nat.le_trans h.size q⟩
theorem Res.ahead {w w1 w' : World} {no' : Int → Int → Bool} {l' : List Pk} {v' : Value} (r : Res w w1 base P mb no l v no' l' v') (hbw : base ≤ w.heap.size) (h : Below w1.heap.size w1 w') : Res w w' base P mb no l v no' l' v' :=
  ⟨r.nf.later h, r.bel.trans (h.mono (Nat.le_trans hbw r.bel.size)), ⟨Nat.le_trans r.kp.1 h.size, fun b hb hn => (h.block b (Nat.lt_of_lt_of_le hb r.kp.1)).trans (r.kp.2 b hb hn)⟩, r.new⟩
theorem Res.setV {w w1 : World} {l' : List Pk} {v' : Value} (g : NF w base P mb no l v) (hbw : base ≤ w.heap.size) (hg : w.grownBy w1 v.ownBlock) (o : Po w1 base v' l') (hn : ∀ k, v'.ownBlock = some k → v.ownBlock = some k ∨ w.heap.size ≤ k) : Res w (w1.setCell ⟨P, 0, none⟩ v') base P mb no l v no l' v' := by
  have hP : w1.heap[P]? = w.heap[P]? := hg.block P g.lt.1 fun e => g.vP e.symm rfl
  have hM : w1.heap[mb]? = w.heap[mb]? := hg.block mb g.lt.2 fun e => g.vM e.symm rfl
  obtain ⟨D, hm, q⟩ := g.map
  refine ⟨NF.setV (World.rowIs.of_block g.row hP) ⟨D, own_heap hm hM, q⟩ g.low o, ((Below.refl base w).grown hg hbw fun k hk => (own_lt g.own k hk).1).setCell (p := ⟨P, 0, none⟩) g.low.1 _, ⟨by simpa [World.setCell] using hg.size, fun b hb hn => ?_⟩, fun b hb => ?_⟩
  · rw [Deep.blk_setCell_other _ _ _ _ (fun e => hn (by simp [fpOf]; exact .inl e))]
    exact hg.block b hb fun e => hn (by simp [fpOf, ← e])
  · rcases List.mem_cons.1 hb with rfl | hb
    · exact .inl (by simp [fpOf])
    · rcases List.mem_cons.1 hb with rfl | hb
      · exact .inl (by simp [fpOf])
      · rcases hn b (by simpa using hb) with e | e
        · exact .inl (by simp [fpOf, e])
        · exact .inr e
theorem remove_any (i : Nat) (w : World) (g : NF w base P mb no l v) (hi : i < l.length) (h40 : l.length ≤ 40) (hbw : base ≤ w.heap.size) : Calls Tryd.prog 45 #[.pointer (some ⟨P, 0, none⟩), .int .i64 (i : Int)] w fun x w' => x = .returned (.tuple #[]) ∧ ∃ v', Res w w' base P mb no l v no (l.eraseIdx i) v' := by
  obtain ⟨c0, z0⟩ := g.list
  obtain ⟨q, cap, rfl⟩ := own_form g.own
  have HG : Hid (NF w base P mb no l (.slice q l.length cap) ∧ base ≤ w.heap.size ∧ i < l.length) := ⟨g, hbw, hi⟩
  have hi40 : (i : Int) < 40 := by omega
  clear g hbw hi h40
  go_enter Tryd.func45, Tryd.ntmps45
  go_wp2_with fail
  refine (del_any base i (.slice q l.length cap) l w HG.out.1.own HG.out.2.2).mono ?_
  rintro x w1 ⟨v', rfl, ho, hb, hg⟩
  obtain ⟨q1, k1, rfl⟩ := own_form ho
  have hP : w1.heap[P]? = w.heap[P]? := hg.block P HG.out.1.lt.1 fun e => HG.out.1.vP e.symm rfl
  have c1 : w1.cell? ⟨P, 0, none⟩ = some (.slice q l.length cap) := (World.cell?_of_block (a := ⟨P, 0, none⟩) hP).trans c0
  have z1 : w1.frozen? ⟨P, 0, none⟩ = false := (World.frozen?_of_block (a := ⟨P, 0, none⟩) hP).trans z0
  have R : Hid _ := And.intro ho (And.intro hb hg)
  clear ho hb hg hP
  go_wp2
  go_end0
  exact ⟨rfl, _, Res.setV HG.out.1 HG.out.2.1 R.out.2.2 R.out.1 fun k hk => .inl (by rw [← R.out.2.1]; exact hk)⟩
theorem add_full (a b c : Int) (w : World) (g : NF w base P mb no l v) (hf : 40 ≤ l.length) :
    Calls Tryd.prog 41 #[.pointer (some ⟨P, 0, none⟩), .agg #[.int .i64 a, .int .i64 b, .int .i64 c]] w fun x w' => x = .returned (errF 4) ∧ Below w.heap.size w w' := by
  rw [errF_no (by decide)]
  have hP := g.lt.1
  obtain ⟨c0, z0⟩ := g.list
  obtain ⟨q, cap, rfl⟩ := own_form g.own
  obtain ⟨n, en⟩ : ∃ n, n = l.length := ⟨_, rfl⟩
  rw [← en] at c0 hf
  have hn : (40 : Int) ≤ (n : Int) := by omega
  clear g en
  go_enter Tryd.func41, Tryd.ntmps41
  go_wp2
  go_ret
  exact ⟨rfl, (Below.refl _ _).alloc (Nat.le_refl _) _⟩
set_option maxRecDepth 100000 in
set_option maxHeartbeats 1000000 in
theorem add_ok (a b c : Int) (w : World) (g : NF w base P mb no l v) (hbw : base ≤ w.heap.size) (hf : l.length < 40) :
    Calls Tryd.prog 41 #[.pointer (some ⟨P, 0, none⟩), .agg #[.int .i64 a, .int .i64 b, .int .i64 c]] w fun x w' => x = .returned (errF 0) ∧ ∃ v', Res w w' base P mb no l v no (l ++ [(a, b, c)]) v' := by
  rw [errF_ok]
  obtain ⟨q, cap, rfl⟩ := own_form g.own
  obtain ⟨n, en⟩ : ∃ n, n = l.length := ⟨_, rfl⟩
  have HG : Hid (NF w base P mb no l (.slice q n cap) ∧ base ≤ w.heap.size ∧ n = l.length) := ⟨by rw [en]; exact g, hbw, en⟩
  rw [← en] at hf ⊢
  obtain ⟨W, eW⟩ : ∃ W, W = w.alloc (.cells #[.int .i64 a, .int .i64 b, .int .i64 c] 54) := ⟨_, rfl⟩
  have BW : Hid (Below w.heap.size w W ∧ W.heap.size = w.heap.size + 1) := ⟨by rw [eW]; exact (Below.refl _ _).alloc (Nat.le_refl _) _, by rw [eW]; simp⟩
  have GW : Hid (NF W base P mb no l (.slice q n cap)) := HG.out.1.later BW.out.1
  obtain ⟨c0, z0⟩ := GW.out.list
  have s0 : W.cell? ⟨w.heap.size, 0, none⟩ = some (.int .i64 a) := by rw [eW]; go_cell
  have s1 : W.cell? ⟨w.heap.size, 1, none⟩ = some (.int .i64 b) := by rw [eW]; go_cell
  have s2 : W.cell? ⟨w.heap.size, 2, none⟩ = some (.int .i64 c) := by rw [eW]; go_cell
  have d0 : w.cell? ⟨P, 0, none⟩ = some (.slice q n cap) := HG.out.1.list.1
  have hP := HG.out.1.lt.1
  have hn : (n : Int) < 40 := by omega
  obtain ⟨ie, hi, hz0, hz1, hz2⟩ := info_pk
  have HI : Hid (Tryd.prog.info? 54 = some ie ∧ ie.zero = some (.agg #[.int .i64 0, .int .i64 0, .int .i64 0]) ∧ ie.size = 3 ∧ ie.bytes = 24) := ⟨hi, hz0, hz1, hz2⟩
  have OW : Hid (W.ownsRow base 54 3 (.slice q n cap) n (flat l) ∧ P < W.heap.size ∧ base ≤ W.heap.size ∧ w.heap.size < W.heap.size) := by
    have o := GW.out.own
    unfold Po at o
    rw [← HG.out.2.2] at o
    have := BW.out.2
    exact ⟨o, by omega, by have := HG.out.2.1; omega, by omega⟩
  have NQ : Hid (some P ≠ (Value.slice q n cap).ownBlock) := fun e => HG.out.1.vP e.symm rfl
  have NB : Hid (some w.heap.size ≠ (Value.slice q n cap).ownBlock) := fun e => by have := (own_lt HG.out.1.own _ e.symm).2; omega
  have h24 : (n + 1) * 24 ≤ 140737488355328 := by omega
  have HF : Hid (∀ X : World, (∀ k, k < W.heap.size → some k ≠ (Value.slice q n cap).ownBlock → X.heap[k]? = W.heap[k]?) → X.cell? ⟨P, 0, none⟩ = some (.slice q n cap) ∧ X.cell? ⟨w.heap.size, 0, none⟩ = some (.int .i64 a) ∧ X.cell? ⟨w.heap.size, 1, none⟩ = some (.int .i64 b) ∧ X.cell? ⟨w.heap.size, 2, none⟩ = some (.int .i64 c)) := by
    intro X h
    have bQ := h P OW.out.2.1 NQ.out
    have bB := h w.heap.size OW.out.2.2.2 NB.out
    exact ⟨(World.cell?_of_block (a := ⟨P, 0, none⟩) bQ).trans c0, (World.cell?_of_block (a := ⟨w.heap.size, 0, none⟩) bB).trans s0, (World.cell?_of_block (a := ⟨w.heap.size, 1, none⟩) bB).trans s1, (World.cell?_of_block (a := ⟨w.heap.size, 2, none⟩) bB).trans s2⟩
  clear g hbw en hi hz0 hz1 hz2
  go_enter Tryd.func41, Tryd.ntmps41
  go_wp2_with fail
  rw [← eW]
  have hQW : P < W.heap.size := OW.out.2.1
  have hBW : w.heap.size < W.heap.size := OW.out.2.2.2
  clear eW d0
  go_region_law ((refine step_append_lies _ (by rfl) _ _ _ (by rfl) base 54 ie (.agg #[.int .i64 0, .int .i64 0, .int .i64 0]) 3 24 Tryd.underlying49 HI.out.1 HI.out.2.1 HI.out.2.2.1 HI.out.2.2.2 rfl (by omega) (.slice q n cap) n (flat l) (by rfl) (by exact own_push OW.out.1 rfl) ⟨W.heap.size, 0, none⟩ 1 1 (flat [(a, b, c)]) (by rfl) (by rfl) (by exact pk_push rfl) (flat_one _) (by omega) (by unfold maxLen; omega) h24 (by have := OW.out.2.2.1; simp; omega) (W.heap.size + 1) (by simp) ?_; intro gg gc w3 hown hgrow hat hlt3; have G3 : Hid ((W.alloc (.cells #[.int .i64 a, .int .i64 b, .int .i64 c] 54)).grownBy w3 (Value.slice q n cap).ownBlock) := grown_push hgrow rfl rfl rfl rfl; have O3 : Hid (w3.ownsRow base 54 3 (.slice (some ⟨gg, 0, none⟩) (n + 1) gc) (n + 1) (flat l ++ flat [(a, b, c)])) := hown; have AT : Hid ((Value.slice q n cap).ownBlock = some gg ∨ gg = W.heap.size + 1) := hat; have r3 := row_grown (World.rowIs.alloc GW.out.row (.cells #[.int .i64 a, .int .i64 b, .int .i64 c] 54)) G3.out NQ.out; have k0 := World.rowIs.cell r3 (i := 0) (by omega); have l3 : w3.cell? ⟨P, 0, none⟩ = some (.slice q n cap) := k0; have m3 := World.rowIs.frozen r3 0; clear hown hgrow hat hlt3 r3 k0))
  all_goals
    go_wp2
    go_ret
    have g3 : w.grownBy w3 (Value.slice q n cap).ownBlock := by
      have b2 := BW.out.1.alloc (Nat.le_of_lt OW.out.2.2.2) (.cells #[.int .i64 a, .int .i64 b, .int .i64 c] 54)
      have h3 := G3.out
      exact ⟨h3.os.trans b2.os, h3.tape.trans b2.tape, h3.output.trans b2.output, Nat.le_trans b2.size h3.size, fun k hk hne => (h3.block k (Nat.lt_of_lt_of_le hk b2.size) hne).trans (b2.block k hk)⟩
    have o3 : Po w3 base (.slice (some ⟨gg, 0, none⟩) (n + 1) gc) (l ++ [(a, b, c)]) := by
      unfold Po
      rw [flat_append, List.length_append, ← HG.out.2.2]
      exact O3.out
    refine ⟨rfl, _, (Res.setV HG.out.1 HG.out.2.1 g3 o3 fun k hk => ?_)⟩
    have e : gg = k := by simpa [Value.ownBlock] using hk
    subst e
    rcases AT.out with h | h
    · exact .inl h
    · exact .inr (by have := OW.out.2.2.2; omega)
end Go.Proofs.YtmlafflmgagkjadDoor.Nw
