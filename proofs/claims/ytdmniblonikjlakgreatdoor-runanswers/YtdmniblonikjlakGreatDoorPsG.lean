/-
  Texts put together: NetR.
-/
import Derived.Test.YtdmniblonikjlakGreatDoorPrB
import Derived.Laws.ResultCell
import Derived.Laws.AppendOwnNone
import Derived.WalkLawsBesides
import Derived.Deep.RegionLaw


namespace Go.Proofs.YtdmniblonikjlakGreatDoor.Net
open Go.RowKit
open Fif (own_lt own_block own_form own_mono Kp ret_bool row_grown)
set_option linter.unusedVariables false
def rnv (no:Int → Int → Bool) (v:Value) (j:Nat):Value := if j = 0 then v else .bool (no (((j - 1) / 5:Nat):Int) (((j - 1) % 5:Nat):Int))
structure RN (w:World) (base Q:Nat) (no:Int → Int → Bool) (l:List Pk) (v:Value):Prop where
 row:w.rowIs Q 126 26 (rnv no v)
 own:Po w base v l
 low:base ≤ Q
variable {w w':World} {base Q:Nat} {no:Int → Int → Bool} {l:List Pk} {v:Value}
theorem RN.all (g:RN w base Q no l v):w.cell? ⟨Q,0,none⟩ = some v ∧ w.frozen? ⟨Q,0,none⟩ = false := ⟨World.rowIs.cell g.row (i := 0) (by omega),World.rowIs.frozen g.row 0⟩
theorem RN.cut (g:RN w base Q no l v) {a b:Nat} (ha:a < 5) (hb:b < 5):w.cell? ⟨Q,1 + a * 5 + b,none⟩ = some (.bool (no (a:Int) (b:Int))) ∧ w.frozen? ⟨Q,1 + a * 5 + b,none⟩ = false := by
 have := World.rowIs.cell g.row (i := 1 + a * 5 + b) (by omega)
 rw [rnv,if_neg (by omega),show (1 + a * 5 + b - 1) / 5 = a by omega,show (1 + a * 5 + b - 1) % 5 = b by omega] at this
 exact ⟨this,World.rowIs.frozen g.row _⟩
theorem RN.apart {f:Nat → Value} (r:w.rowIs Q 126 26 f) {t:TypeId} (ht:t ≠ 126) {s:Nat} {u:Value} {n:Nat} {xs:List Value} (o:w.ownsRow base t s u n xs):u.ownBlock ≠ some Q := by
 intro e
 rcases o.2 with ⟨h2,_⟩ | ⟨g',cap',cur,hv,hbg,hh,_⟩
 ·rw [h2] at e; cases e
 ·rw [hv] at e
  have:g' = Q := by simpa [Value.ownBlock] using e
  subst this
  obtain ⟨c,hc,_⟩ := r
  rw [hc] at hh
  injection hh with hh
  injection hh with _ hh _
  exact ht hh.symm
theorem RN.of_blocks (g:RN w base Q no l v) (h1:w'.heap[Q]? = w.heap[Q]?) (h2:∀ k,v.ownBlock = some k → w'.heap[k]? = w.heap[k]?):RN w' base Q no l v := ⟨World.rowIs.of_block g.row h1,own_block g.own h2,g.low⟩
theorem RN.later (g:RN w base Q no l v) (hb:Below w.heap.size w w'):RN w' base Q no l v := g.of_blocks (hb.block Q (World.rowIs.lt g.row)) fun k hk => hb.block k (own_lt g.own k hk).2
theorem RN.setV {v':Value} {l':List Pk} (r:w.rowIs Q 126 26 (rnv no v)) (hl:base ≤ Q) (o:Po w base v' l'):RN (w.setCell ⟨Q,0,none⟩ v') base Q no l' v' := by
 refine ⟨(World.rowIs.set r 0 _).congr fun j hj => ?_,own_block o fun k hk => Deep.blk_setCell_other _ _ _ _ fun e => RN.apart r (by decide) o (by rw [hk]; exact congrArg some e),hl⟩
 unfold rnv
 by_cases e:j = 0
 ·rw [if_pos e,if_pos e]
 ·rw [if_neg e,if_neg e,if_neg e]
theorem refSend_bad (Q:Nat) (a b c:Int) (w:World) (h:pkBad (a,b,c) = true) :
  Calls Tryz.prog 63 #[.pointer (some ⟨Q,0,none⟩),.agg #[.int .i64 a,.int .i64 b,.int .i64 c]] w fun x w' => x = .returned (.int .i64 1) ∧ Below w.heap.size w w' := by
 have h6:a < 0 ∨ (0 ≤ a ∧ 4 < a) ∨ (0 ≤ a ∧ a ≤ 4 ∧ b < 0) ∨ (0 ≤ a ∧ a ≤ 4 ∧ 0 ≤ b ∧ 4 < b) ∨ (0 ≤ a ∧ a ≤ 4 ∧ 0 ≤ b ∧ b ≤ 4 ∧ c < 1) ∨ (0 ≤ a ∧ a ≤ 4 ∧ 0 ≤ b ∧ b ≤ 4 ∧ 1 ≤ c ∧ 30 < c) := by
  simp [pkBad] at h
  omega
 clear h
 rcases h6 with h1 | ⟨h1,h2⟩ | ⟨h1,h2,h3⟩ | ⟨h1,h2,h3,h4⟩ | ⟨h1,h2,h3,h4,h5⟩ | ⟨h1,h2,h3,h4,h5,h6⟩
 all_goals
  go_enter Tryz.func63,Tryz.ntmps63
  go_wp2
  go_ret
  exact ⟨rfl,(Below.refl _ _).alloc (Nat.le_refl _) _⟩
theorem refSend_same (Q:Nat) (a c:Int) (w:World) (h1:0 ≤ a) (h2:a ≤ 4) (h3:1 ≤ c) (h4:c ≤ 30) :
  Calls Tryz.prog 63 #[.pointer (some ⟨Q,0,none⟩),.agg #[.int .i64 a,.int .i64 a,.int .i64 c]] w fun x w' => x = .returned (.int .i64 3) ∧ Below w.heap.size w w' := by
 go_enter Tryz.func63,Tryz.ntmps63
 go_wp2
 go_ret
 exact ⟨rfl,(Below.refl _ _).alloc (Nat.le_refl _) _⟩
theorem refSend_full (a b c:Int) (g:RN w base Q no l v) (h1:0 ≤ a) (h2:a ≤ 4) (h3:0 ≤ b) (h4:b ≤ 4) (h5:1 ≤ c) (h6:c ≤ 30) (hne:a ≠ b) (hf:40 ≤ l.length) :
  Calls Tryz.prog 63 #[.pointer (some ⟨Q,0,none⟩),.agg #[.int .i64 a,.int .i64 b,.int .i64 c]] w fun x w' => x = .returned (.int .i64 4) ∧ Below w.heap.size w w' := by
 have hq:(a == b) = false := by simp [hne]
 have hQ := World.rowIs.lt g.row
 obtain ⟨c0,z0⟩ := g.all
 obtain ⟨q,cap,rfl,_,_,_⟩ := g.own.form
 obtain ⟨n,en⟩:∃ n,n = l.length := ⟨_,rfl⟩
 rw [← en] at c0 hf
 have hn:(40:Int) ≤ (n:Int) := by omega
 clear g hne en
 go_enter Tryz.func63,Tryz.ntmps63
 go_wp2
 go_ret
 exact ⟨rfl,(Below.refl _ _).alloc (Nat.le_refl _) _⟩
set_option maxRecDepth 100000 in
set_option maxHeartbeats 1000000 in
theorem refSend_ok (a b c:Int) (g:RN w base Q no l v) (hbw:base ≤ w.heap.size) (h1:0 ≤ a) (h2:a ≤ 4) (h3:0 ≤ b) (h4:b ≤ 4) (h5:1 ≤ c) (h6:c ≤ 30) (hne:a ≠ b) (hf:l.length < 40) :
  Calls Tryz.prog 63 #[.pointer (some ⟨Q,0,none⟩),.agg #[.int .i64 a,.int .i64 b,.int .i64 c]] w fun x w' => ∃ v',x = .returned (.int .i64 0) ∧ RN w' base Q no (l ++ [(a,b,c)]) v' ∧ Below base w w' ∧ Kp w w' Q v.ownBlock ∧ ∀ k,v'.ownBlock = some k → v.ownBlock = some k ∨ w.heap.size ≤ k := by
 have hq:(a == b) = false := by simp [hne]
 obtain ⟨q,cap,rfl,_,_,_⟩ := g.own.form
 obtain ⟨n,en⟩:∃ n,n = l.length := ⟨_,rfl⟩
 have HG:Hid (RN w base Q no l (.slice q n cap) ∧ base ≤ w.heap.size ∧ n = l.length) := ⟨by rw [en]; exact g,hbw,en⟩
 rw [← en] at hf ⊢
 obtain ⟨W,eW⟩:∃ W,W = w.alloc (.cells #[.int .i64 a,.int .i64 b,.int .i64 c] 83) := ⟨_,rfl⟩
 have BW:Hid (Below w.heap.size w W ∧ W.heap.size = w.heap.size + 1) := ⟨by rw [eW]; exact (Below.refl _ _).alloc (Nat.le_refl _) _,by rw [eW]; simp⟩
 have GW:Hid (RN W base Q no l (.slice q n cap)) := HG.out.1.later BW.out.1
 obtain ⟨c0,z0⟩ := GW.out.all
 have s0:W.cell? ⟨w.heap.size,0,none⟩ = some (.int .i64 a) := by rw [eW]; go_cell
 have s1:W.cell? ⟨w.heap.size,1,none⟩ = some (.int .i64 b) := by rw [eW]; go_cell
 have s2:W.cell? ⟨w.heap.size,2,none⟩ = some (.int .i64 c) := by rw [eW]; go_cell
 have d0:w.cell? ⟨Q,0,none⟩ = some (.slice q n cap) := HG.out.1.all.1
 have hQ := World.rowIs.lt HG.out.1.row
 have hn:(n:Int) < 40 := by omega
 obtain ⟨ie,hi,hz0,hz1,hz2⟩ := info_pk
 have HI:Hid (Tryz.prog.info? 83 = some ie ∧ ie.zero = some (.agg #[.int .i64 0,.int .i64 0,.int .i64 0]) ∧ ie.size = 3 ∧ ie.bytes = 24) := ⟨hi,hz0,hz1,hz2⟩
 have OW:Hid (W.ownsRow base 83 3 (.slice q n cap) n (flat l) ∧ Q < W.heap.size ∧ base ≤ W.heap.size ∧ w.heap.size < W.heap.size) := by
  have o := GW.out.own
  unfold Po at o
  rw [← HG.out.2.2] at o
  have := BW.out.2
  exact ⟨o,by omega,by have := HG.out.2.1; omega,by omega⟩
 have NQ:Hid (some Q ≠ (Value.slice q n cap).ownBlock) := fun e => RN.apart HG.out.1.row (by decide) HG.out.1.own e.symm
 have NB:Hid (some w.heap.size ≠ (Value.slice q n cap).ownBlock) := fun e => by have := (own_lt HG.out.1.own _ e.symm).2; omega
 have h24:(n + 1) * 24 ≤ 140737488355328 := by omega
 have HF:Hid (∀ X:World,(∀ k,k < W.heap.size → some k ≠ (Value.slice q n cap).ownBlock → X.heap[k]? = W.heap[k]?) → X.cell? ⟨Q,0,none⟩ = some (.slice q n cap) ∧ X.cell? ⟨w.heap.size,0,none⟩ = some (.int .i64 a) ∧ X.cell? ⟨w.heap.size,1,none⟩ = some (.int .i64 b) ∧ X.cell? ⟨w.heap.size,2,none⟩ = some (.int .i64 c)) := by
  intro X h
  have bQ := h Q OW.out.2.1 NQ.out
  have bB := h w.heap.size OW.out.2.2.2 NB.out
  exact ⟨(World.cell?_of_block (a := ⟨Q,0,none⟩) bQ).trans c0,(World.cell?_of_block (a := ⟨w.heap.size,0,none⟩) bB).trans s0,(World.cell?_of_block (a := ⟨w.heap.size,1,none⟩) bB).trans s1,(World.cell?_of_block (a := ⟨w.heap.size,2,none⟩) bB).trans s2⟩
 clear g hbw hne en hi hz0 hz1 hz2
 go_enter Tryz.func63,Tryz.ntmps63
 go_wp2_with fail
 rw [← eW]
 have hQW:Q < W.heap.size := OW.out.2.1
 have hBW:w.heap.size < W.heap.size := OW.out.2.2.2
 clear eW d0
 go_region_law ((refine step_append_lies _ (by rfl) _ _ _ (by rfl) base 83 ie (.agg #[.int .i64 0,.int .i64 0,.int .i64 0]) 3 24 Tryz.underlying122 HI.out.1 HI.out.2.1 HI.out.2.2.1 HI.out.2.2.2 rfl (by omega) (.slice q n cap) n (flat l) (by rfl) (by exact own_push OW.out.1 rfl) ⟨W.heap.size,0,none⟩ 1 1 (flat [(a,b,c)]) (by rfl) (by rfl) (by exact pk_push rfl) (flat_one _) (by omega) (by unfold maxLen; omega) h24 (by have := OW.out.2.2.1; simp; omega) (W.heap.size + 1) (by simp) ?_; intro gg gc w3 hown hgrow hat hlt3; have G3:Hid ((W.alloc (.cells #[.int .i64 a,.int .i64 b,.int .i64 c] 83)).grownBy w3 (Value.slice q n cap).ownBlock) := grown_push hgrow rfl rfl rfl rfl; have O3:Hid (w3.ownsRow base 83 3 (.slice (some ⟨gg,0,none⟩) (n + 1) gc) (n + 1) (flat l ++ flat [(a,b,c)])) := hown; have AT:Hid ((Value.slice q n cap).ownBlock = some gg ∨ gg = W.heap.size + 1) := hat; have r3 := row_grown (World.rowIs.alloc GW.out.row (.cells #[.int .i64 a,.int .i64 b,.int .i64 c] 83)) G3.out NQ.out; have R3:Hid (w3.rowIs Q 126 26 (rnv no (.slice q n cap))) := r3; have k0 := World.rowIs.cell r3 (i := 0) (by omega); have l3:w3.cell? ⟨Q,0,none⟩ = some (.slice q n cap) := k0; have m3 := World.rowIs.frozen r3 0; clear hown hgrow hat hlt3 r3 k0))
 all_goals
  go_wp2
  go_ret
  have b3:Below base w w3 := ((BW.out.1.mono HG.out.2.1).alloc OW.out.2.2.1 _).grown G3.out (by have := OW.out.2.2.1; simp; omega) (fun k hk => (own_lt OW.out.1 k hk).1)
  refine ⟨.slice (some ⟨gg,0,none⟩) (n + 1) gc,rfl,RN.setV R3.out HG.out.1.low ?_,b3.setCell (p := ⟨Q,0,none⟩) HG.out.1.low _,?_,fun k hk => ?_⟩
  ·unfold Po
   rw [flat_append,List.length_append,← HG.out.2.2]
   exact O3.out
  ·exact (((Kp.below (P := Q) BW.out.1 (Value.slice q n cap).ownBlock).trans (r' := none) (Kp.alloc W _ Q none) (by simp)).trans (Kp.grown G3.out Q) (fun k hk => .inr (.inl hk))).trans (r' := none) (Kp.setCell w3 Q 0 _ none) (by simp)
  ·have e:gg = k := by simpa [Value.ownBlock] using hk
   subst e
   rcases AT.out with h | h
   ·exact .inl h
   ·exact .inr (by have := OW.out.2.2.2; omega)
end Go.Proofs.YtdmniblonikjlakGreatDoor.Net
