/-
  Texts put together: NetO.
-/
import Derived.Test.YtdmniblonikjlakGreatDoorPsG


namespace Go.Proofs.YtdmniblonikjlakGreatDoor.Net
open Go.RowKit
open Fif (own_lt own_block own_form own_mono Kp ret_bool row_grown)
set_option linter.unusedVariables false
variable {w:World} {base Q:Nat} {no:Int → Int → Bool} {l:List Pk} {v:Value}
set_option maxRecDepth 100000 in
set_option maxHeartbeats 1000000 in
theorem refOut (k:Nat) (hk:k < l.length) (g:RN w base Q no l v) (hbw:base ≤ w.heap.size) (hl:l.length ≤ 40) :
  Calls Tryz.prog 62 #[.pointer (some ⟨Q,0,none⟩),.int .i64 (k:Int)] w fun x w' => ∃ v',x = .returned (.tuple #[]) ∧ RN w' base Q no (l.eraseIdx k) v' ∧ Below base w w' ∧ Kp w w' Q none ∧ ∀ j,v'.ownBlock = some j → w.heap.size ≤ j := by
 obtain ⟨q,cap,rfl,hlc,hcm,hform⟩ := g.own.form
 obtain ⟨g0,rfl,_,hg0,hcs⟩ := hform (by omega)
 obtain ⟨n,en⟩:∃ n,n = l.length := ⟨_,rfl⟩
 have HG:Hid (RN w base Q no l (.slice (some ⟨g0,0,none⟩) n cap) ∧ base ≤ w.heap.size ∧ n = l.length) := ⟨by rw [en]; exact g,hbw,en⟩
 rw [← en] at hk hl hlc
 obtain ⟨c0,z0⟩ := HG.out.1.all
 have PG:Hid (Q < w.heap.size ∧ g0 < w.heap.size ∧ ∀ j u,(flat l)[j]? = some u → w.cell? ⟨g0,j,none⟩ = some u) := ⟨World.rowIs.lt HG.out.1.row,hg0,hcs⟩
 obtain ⟨ie,hi,hz0,hz1,hz2⟩ := info_pk
 have HI:Hid (Tryz.prog.info? 83 = some ie ∧ ie.zero = some (.agg #[.int .i64 0,.int .i64 0,.int .i64 0]) ∧ ie.size = 3 ∧ ie.bytes = 24) := ⟨hi,hz0,hz1,hz2⟩
 have hk0:(0:Int) ≤ (k:Int) := by omega
 have hkn:(k:Int) < (n:Int) := by omega
 have hnc:(n:Int) ≤ (cap:Int) := by omega
 have hkc:(k:Int) ≤ (cap:Int) := by omega
 have hk1n:(k:Int) + 1 ≤ (n:Int) := by omega
 have hcM:(cap:Int) ≤ 9223372036854775807 := by unfold maxLen at hcm; omega
 have CM:Hid (cap ≤ maxLen) := hcm
 clear g hbw en hi hz0 hz1 hz2 hcs hform hcm hg0
 by_cases hcp:cap = k + 1
 ·subst hcp
  have hnk:n = k + 1 := by omega
  subst hnk
  go_enter Tryz.func62,Tryz.ntmps62
  go_wp2_with (first
   | (at_builtin; refine wpList_append_own _ rfl _ _ 122 rfl w.heap.size 83 ie (.agg #[.int .i64 0,.int .i64 0,.int .i64 0]) 3 24 Tryz.underlying122 HI.out.1 HI.out.2.1 HI.out.2.2.1 HI.out.2.2.2 rfl (by decide) (.slice none 0 0) 0 [] rfl (World.ownsRow_nil _ _ _ _) ⟨g0,0,none⟩ k (k + 1) (flat (l.take k)) rfl (by rw [flat_len,List.length_take]; have := HG.out.2.2; omega) (fun j u hu => by rw [Addr.add_lit,Nat.zero_add]; rw [flat_take] at hu; exact PG.out.2.2 j u ((List.getElem?_take_of_lt (by have := (List.getElem?_eq_some_iff.1 hu).1; rw [List.length_take] at this; omega)).symm.trans hu)) (flat_one _) (by unfold maxLen; omega) (by omega) (Nat.le_refl _) ?_; intro v3 w3 hown hgrow _; rw [Nat.zero_add,List.nil_append] at hown; obtain ⟨q4,k4,rfl⟩ := own_form hown; have HO3:Hid (w3.ownsRow w.heap.size 83 3 (.slice q4 k k4) k (flat (l.take k))) := hown; have HG3:Hid (w.grownBy w3 none) := hgrow; have d5:w3.cell? ⟨Q,0,none⟩ = some (.slice (some ⟨g0,0,none⟩) (k + 1) (k + 1)) := ((HG3.out.cell_far ⟨Q,0,none⟩ PG.out.1 (by simp)).trans c0); have e5:w3.frozen? ⟨Q,0,none⟩ = false := ((HG3.out.frozen_far ⟨Q,0,none⟩ PG.out.1 (by simp)).trans z0); clear hown hgrow)
   | (at_builtin; refine wpList_append_own _ rfl _ _ 122 rfl w.heap.size 83 ie (.agg #[.int .i64 0,.int .i64 0,.int .i64 0]) 3 24 Tryz.underlying122 HI.out.1 HI.out.2.1 HI.out.2.2.1 HI.out.2.2.2 rfl (by decide) (.slice q4 k k4) k (flat (l.take k)) rfl HO3.out ⟨g0,0,none⟩ 0 0 [] rfl rfl (fun j u hu => by simp at hu) (fun u hu => absurd hu List.not_mem_nil) (by unfold maxLen; omega) (by omega) HG3.out.size ?_; intro v5 w4 hown hgrow _; rw [Nat.add_zero,List.append_nil] at hown; obtain ⟨q6,k6,rfl⟩ := own_form hown; have HO5:Hid (w4.ownsRow w.heap.size 83 3 (.slice q6 k k6) k (flat (l.take k))) := hown; have HG5:Hid (w3.grownBy w4 (Value.slice q4 k k4).ownBlock) := hgrow; have NP:Hid (some Q ≠ (Value.slice q4 k k4).ownBlock) := (fun e => by have := (own_lt HO3.out Q e.symm).1; have := PG.out.1; omega); have d6:w4.cell? ⟨Q,0,none⟩ = some (.slice (some ⟨g0,0,none⟩) (k + 1) (k + 1)) := ((HG5.out.cell_far ⟨Q,0,none⟩ (Nat.lt_of_lt_of_le PG.out.1 HG3.out.size) NP.out).trans d5); have e6:w4.frozen? ⟨Q,0,none⟩ = false := ((HG5.out.frozen_far ⟨Q,0,none⟩ (Nat.lt_of_lt_of_le PG.out.1 HG3.out.size) NP.out).trans e5); clear hown hgrow d5 e5))
  go_end0
  have rP:w4.rowIs Q 126 26 _ := row_grown (row_grown HG.out.1.row HG3.out (by simp)) HG5.out NP.out
  have hln := HG.out.2.2
  have o5:Po w4 w.heap.size (.slice q6 k k6) (l.eraseIdx k) := by
   unfold Po
   rw [List.eraseIdx_eq_take_drop_succ,List.drop_eq_nil_of_le (by omega),List.append_nil,List.length_take,show min k l.length = k by omega]
   exact HO5.out
  have b4:Below base w w4 := ((Below.refl base w).grown HG3.out HG.out.2.1 (by simp)).grown HG5.out (Nat.le_trans HG.out.2.1 HG3.out.size) (fun j hj => by have := (own_lt HO3.out j hj).1; have := HG.out.2.1; omega)
  have k4:Kp w w4 Q none := (Kp.grown HG3.out Q).trans (Kp.grown HG5.out Q) (fun j hj => .inl (own_lt HO3.out j hj).1)
  exact ⟨rfl,_,RN.setV rP HG.out.1.low (own_mono o5 HG.out.2.1),b4.setCell (p := ⟨Q,0,none⟩) HG.out.1.low _,k4.trans (r' := none) (Kp.setCell w4 Q 0 _ none) (by simp),fun j hj => (own_lt o5 j hj).1⟩
 ·have hcp':(k:Int) + 1 < (cap:Int) := by omega
  go_enter Tryz.func62,Tryz.ntmps62
  go_wp2_with (first
   | (at_builtin; refine wpList_append_own _ rfl _ _ 122 rfl w.heap.size 83 ie (.agg #[.int .i64 0,.int .i64 0,.int .i64 0]) 3 24 Tryz.underlying122 HI.out.1 HI.out.2.1 HI.out.2.2.1 HI.out.2.2.2 rfl (by decide) (.slice none 0 0) 0 [] rfl (World.ownsRow_nil _ _ _ _) ⟨g0,0,none⟩ k cap (flat (l.take k)) rfl (by rw [flat_len,List.length_take]; have := HG.out.2.2; omega) (fun j u hu => by rw [Addr.add_lit,Nat.zero_add]; rw [flat_take] at hu; exact PG.out.2.2 j u ((List.getElem?_take_of_lt (by have := (List.getElem?_eq_some_iff.1 hu).1; rw [List.length_take] at this; omega)).symm.trans hu)) (flat_one _) (by unfold maxLen; omega) (by omega) (Nat.le_refl _) ?_; intro v3 w3 hown hgrow _; rw [Nat.zero_add,List.nil_append] at hown; obtain ⟨q4,k4,rfl⟩ := own_form hown; have HO3:Hid (w3.ownsRow w.heap.size 83 3 (.slice q4 k k4) k (flat (l.take k))) := hown; have HG3:Hid (w.grownBy w3 none) := hgrow; have d5:w3.cell? ⟨Q,0,none⟩ = some (.slice (some ⟨g0,0,none⟩) n cap) := ((HG3.out.cell_far ⟨Q,0,none⟩ PG.out.1 (by simp)).trans c0); have e5:w3.frozen? ⟨Q,0,none⟩ = false := ((HG3.out.frozen_far ⟨Q,0,none⟩ PG.out.1 (by simp)).trans z0); clear hown hgrow)
   | (at_builtin; refine wpList_append_own _ rfl _ _ 122 rfl w.heap.size 83 ie (.agg #[.int .i64 0,.int .i64 0,.int .i64 0]) 3 24 Tryz.underlying122 HI.out.1 HI.out.2.1 HI.out.2.2.1 HI.out.2.2.2 rfl (by decide) (.slice q4 k k4) k (flat (l.take k)) rfl HO3.out ⟨g0,(k + 1) * 3,none⟩ (n - (k + 1)) (cap - (k + 1)) (flat (l.drop (k + 1))) rfl (by rw [flat_len,List.length_drop,HG.out.2.2]) (fun j u hu => by rw [flat_drop,List.getElem?_drop] at hu; rw [Addr.add_lit]; exact (HG3.out.cell_far ⟨g0,(k + 1) * 3 + j,none⟩ PG.out.2.1 (by simp)).trans (PG.out.2.2 _ u hu)) (flat_one _) (by unfold maxLen; omega) (by omega) HG3.out.size ?_; intro v5 w4 hown hgrow _; obtain ⟨q6,k6,rfl⟩ := own_form hown; have HO5:Hid (w4.ownsRow w.heap.size 83 3 (.slice q6 (k + (n - (k + 1))) k6) (k + (n - (k + 1))) (flat (l.take k) ++ flat (l.drop (k + 1)))) := hown; have HG5:Hid (w3.grownBy w4 (Value.slice q4 k k4).ownBlock) := hgrow; have NP:Hid (some Q ≠ (Value.slice q4 k k4).ownBlock) := (fun e => by have := (own_lt HO3.out Q e.symm).1; have := PG.out.1; omega); have d6:w4.cell? ⟨Q,0,none⟩ = some (.slice (some ⟨g0,0,none⟩) n cap) := ((HG5.out.cell_far ⟨Q,0,none⟩ (Nat.lt_of_lt_of_le PG.out.1 HG3.out.size) NP.out).trans d5); have e6:w4.frozen? ⟨Q,0,none⟩ = false := ((HG5.out.frozen_far ⟨Q,0,none⟩ (Nat.lt_of_lt_of_le PG.out.1 HG3.out.size) NP.out).trans e5); clear hown hgrow d5 e5))
  go_end0
  have rP:w4.rowIs Q 126 26 _ := row_grown (row_grown HG.out.1.row HG3.out (by simp)) HG5.out NP.out
  have hln := HG.out.2.2
  have o5:Po w4 w.heap.size (.slice q6 (k + (n - (k + 1))) k6) (l.eraseIdx k) := by
   unfold Po
   rw [List.eraseIdx_eq_take_drop_succ,flat_append,List.length_append,List.length_take,List.length_drop,← HG.out.2.2,show min k n = k by omega]
   exact HO5.out
  have b4:Below base w w4 := ((Below.refl base w).grown HG3.out HG.out.2.1 (by simp)).grown HG5.out (Nat.le_trans HG.out.2.1 HG3.out.size) (fun j hj => by have := (own_lt HO3.out j hj).1; have := HG.out.2.1; omega)
  have k4:Kp w w4 Q none := (Kp.grown HG3.out Q).trans (Kp.grown HG5.out Q) (fun j hj => .inl (own_lt HO3.out j hj).1)
  exact ⟨rfl,_,RN.setV rP HG.out.1.low (own_mono o5 HG.out.2.1),b4.setCell (p := ⟨Q,0,none⟩) HG.out.1.low _,k4.trans (r' := none) (Kp.setCell w4 Q 0 _ none) (by simp),fun j hj => (own_lt o5 j hj).1⟩
theorem ret3 {fn:Func} {tmps:Array Value} {w:World} {p u:Tmp} {B:Nat} {v0 v1 v2 x:Value} (h:fn.results = #[.cell p 83,.tmp u]) (hp:tmps.getD p undef = .pointer (some ⟨B,0,none⟩)) (hu:tmps.getD u undef = x)
  (y0:w.cell? ⟨B,0,none⟩ = some v0) (y1:w.cell? ⟨B,1,none⟩ = some v1) (y2:w.cell? ⟨B,2,none⟩ = some v2):(results fn tmps).run Tryz.prog w = .ok (.tuple #[.agg #[v0,v1,v2],x]) w := by
 rw [results_cell_tmp h,hp,hu]
 simp [asAddr,go_sem,y0,y1,y2]
theorem set3 {B:Nat} {a w:World} (h:Below B a w) {b:Nat} (hb:B ≤ b) (v0 v1 v2:Value):Below B a (((w.setCell ⟨b,0,none⟩ v0).setCell ⟨b,1,none⟩ v1).setCell ⟨b,2,none⟩ v2) := ((h.setCell (p := ⟨b,0,none⟩) hb _).setCell (p := ⟨b,1,none⟩) hb _).setCell (p := ⟨b,2,none⟩) hb _
theorem refGive_out (i:Int) (g:RN w base Q no l v) (h:isIn l i = false) :
  Calls Tryz.prog 104 #[.pointer (some ⟨Q,0,none⟩),.int .i64 i] w fun x w' => x = .returned (.tuple #[.agg #[.int .i64 0,.int .i64 0,.int .i64 0],.int .i64 1]) ∧ Below w.heap.size w w' := by
 have hQ := World.rowIs.lt g.row
 obtain ⟨c0,z0⟩ := g.all
 obtain ⟨q,cap,rfl,_,_,_⟩ := g.own.form
 obtain ⟨n,en⟩:∃ n,n = l.length := ⟨_,rfl⟩
 have h2 := isIn_no h
 rw [← en] at c0 h2
 clear g en h
 rcases (show i < 0 ∨ (0 ≤ i ∧ (n:Int) ≤ i) by omega) with h1 | ⟨h1,h3⟩
 all_goals
  clear h2
  go_enter Tryz.func104,Tryz.ntmps104
  go_wp2
  refine bodyPost_ret (v := .tuple #[.agg #[.int .i64 0,.int .i64 0,.int .i64 0],.int .i64 1]) (ret3 (B := w.heap.size) rfl rfl rfl (by go_cell) (by go_cell) (by go_cell)) rfl ?_
  exact ⟨rfl,(Below.refl _ _).alloc (Nat.le_refl _) _⟩
set_option maxRecDepth 100000 in
set_option maxHeartbeats 1000000 in
theorem refGive_cut (k:Nat) (hk:k < l.length) (g:RN w base Q no l v) (hbw:base ≤ w.heap.size) (hl:l.length ≤ 40) (hok:pkBad (pk l k) = false) (hno:no (pk l k).1 (pk l k).2.1 = true) :
  Calls Tryz.prog 104 #[.pointer (some ⟨Q,0,none⟩),.int .i64 (k:Int)] w fun x w' => x = .returned (.tuple #[.agg #[.int .i64 0,.int .i64 0,.int .i64 0],.int .i64 6]) ∧ Below w.heap.size w w' := by
 obtain ⟨q,cap,rfl,hlc,hcm,hform⟩ := g.own.form
 obtain ⟨g0,rfl,_,hg0,hcs⟩ := hform (by omega)
 obtain ⟨x0,x1,x2⟩ := c3_of hcs hk
 obtain ⟨p,ep⟩:∃ p,p = pk l k := ⟨_,rfl⟩
 rw [← ep] at x0 x1 x2 hok hno
 obtain ⟨p0,p1,p2⟩ := p
 obtain ⟨ha,hb,hc⟩ := pkBad_no hok
 simp only at ha hb hc x0 x1 x2 hno
 obtain ⟨a,rfl⟩:∃ a:Nat,p0 = (a:Int) := ⟨p0.toNat,by omega⟩
 obtain ⟨b,rfl⟩:∃ b:Nat,p1 = (b:Int) := ⟨p1.toNat,by omega⟩
 have ha5:a < 5 := by omega
 have hb5:b < 5 := by omega
 obtain ⟨n,en⟩:∃ n,n = l.length := ⟨_,rfl⟩
 have HG:Hid (RN w base Q no l (.slice (some ⟨g0,0,none⟩) n cap) ∧ base ≤ w.heap.size ∧ n = l.length ∧ k < l.length ∧ l.length ≤ 40) := ⟨by rw [en]; exact g,hbw,en,hk,hl⟩
 rw [← en] at hk hl hlc
 obtain ⟨c0,z0⟩ := HG.out.1.all
 have hQ := World.rowIs.lt HG.out.1.row
 have hk0:(0:Int) ≤ (k:Int) := by omega
 have hkn:(k:Int) < (n:Int) := by omega
 have hkn':decide ((n:Int) ≤ (k:Int)) = false := by simp; omega
 have ha0:(0:Int) ≤ (a:Int) := by omega
 have ha5':(a:Int) < 5 := by omega
 have hb0:(0:Int) ≤ (b:Int) := by omega
 have hb5':(b:Int) < 5 := by omega
 obtain ⟨W,eW⟩:∃ W,W = (w.alloc (.cells #[.int .i64 0,.int .i64 0,.int .i64 0] 83)).alloc (.cells #[.int .i64 (a:Int),.int .i64 (b:Int),.int .i64 p2] 83) := ⟨_,rfl⟩
 have BW:Hid (Below w.heap.size w W ∧ W.heap.size = w.heap.size + 2) := ⟨by rw [eW]; exact ((Below.refl _ _).alloc (Nat.le_refl _) _).alloc (by simp) _,by rw [eW]; simp⟩
 have GW:Hid (RN W base Q no l (.slice (some ⟨g0,0,none⟩) n cap)) := HG.out.1.later BW.out.1
 have RW:Hid (W.rowIs w.heap.size 83 3 (fun _ => .int .i64 0)) := by
  have q1 := World.rowIs_alloc w #[.int .i64 0,.int .i64 0,.int .i64 0] 83 (fun _ => .int .i64 0) (fun i hi => by rcases i with _ | _ | _ | i <;> first | rfl | (exfalso; have:_ < 3 := hi; omega))
  rw [eW]
  exact World.rowIs.of_block q1 (Below.heap_alloc _ _ _ (by simp))
 have s0:W.cell? ⟨w.heap.size + 1,0,none⟩ = some (.int .i64 (a:Int)) := by rw [eW]; go_cell
 have s1:W.cell? ⟨w.heap.size + 1,1,none⟩ = some (.int .i64 (b:Int)) := by rw [eW]; go_cell
 have s2:W.cell? ⟨w.heap.size + 1,2,none⟩ = some (.int .i64 p2) := by rw [eW]; go_cell
 have y0 := World.rowIs.cell RW.out (i := 0) (by omega)
 have y1 := World.rowIs.cell RW.out (i := 1) (by omega)
 have y2 := World.rowIs.cell RW.out (i := 2) (by omega)
 have f0 := World.rowIs.frozen RW.out 0
 have f1 := World.rowIs.frozen RW.out 1
 have f2 := World.rowIs.frozen RW.out 2
 have cn := (GW.out.cut ha5 hb5).1
 rw [hno] at cn
 clear g hbw en hcs hform hcm hok ep
 go_enter Tryz.func104,Tryz.ntmps104
 go_wp2_with fail
 rw [← eW]
 clear eW x0 x1 x2 c0 z0
 go_quiet (fail)
 go_wp2
 have r3 := ((World.rowIs.set (World.rowIs.of_block RW.out rfl:(W.drewN nq).rowIs _ _ _ _) 0 (.int .i64 0)).set 1 (.int .i64 0)).set 2 (.int .i64 0)
 have u0 := r3.cell (i := 0) (by omega)
 have u1 := r3.cell (i := 1) (by omega)
 have u2 := r3.cell (i := 2) (by omega)
 simp at u0 u1 u2
 refine bodyPost_ret (v := .tuple #[.agg #[.int .i64 0,.int .i64 0,.int .i64 0],.int .i64 6]) (ret3 (B := w.heap.size) rfl rfl rfl u0 u1 u2) rfl ?_
 exact ⟨rfl,set3 (below_drews BW.out.1 _) (Nat.le_refl _) _ _ _⟩
set_option maxRecDepth 100000 in
set_option maxHeartbeats 1000000 in
theorem refGive_ok (k:Nat) (hk:k < l.length) (g:RN w base Q no l v) (hbw:base ≤ w.heap.size) (hl:l.length ≤ 40) (hok:pkBad (pk l k) = false) (hno:no (pk l k).1 (pk l k).2.1 = false) :
  Calls Tryz.prog 104 #[.pointer (some ⟨Q,0,none⟩),.int .i64 (k:Int)] w fun x w' => ∃ v',x = .returned (.tuple #[.agg #[.int .i64 (pk l k).1,.int .i64 (pk l k).2.1,.int .i64 (pk l k).2.2],.int .i64 0]) ∧ RN w' base Q no (l.eraseIdx k) v' ∧ Below base w w' ∧ Kp w w' Q none ∧ ∀ j,v'.ownBlock = some j → w.heap.size ≤ j := by
 obtain ⟨q,cap,rfl,hlc,hcm,hform⟩ := g.own.form
 obtain ⟨g0,rfl,_,hg0,hcs⟩ := hform (by omega)
 obtain ⟨x0,x1,x2⟩ := c3_of hcs hk
 obtain ⟨p,ep⟩:∃ p,p = pk l k := ⟨_,rfl⟩
 rw [← ep] at x0 x1 x2 hok hno ⊢
 obtain ⟨p0,p1,p2⟩ := p
 obtain ⟨ha,hb,hc⟩ := pkBad_no hok
 simp only at ha hb hc x0 x1 x2 hno
 obtain ⟨a,rfl⟩:∃ a:Nat,p0 = (a:Int) := ⟨p0.toNat,by omega⟩
 obtain ⟨b,rfl⟩:∃ b:Nat,p1 = (b:Int) := ⟨p1.toNat,by omega⟩
 have ha5:a < 5 := by omega
 have hb5:b < 5 := by omega
 obtain ⟨n,en⟩:∃ n,n = l.length := ⟨_,rfl⟩
 have HG:Hid (RN w base Q no l (.slice (some ⟨g0,0,none⟩) n cap) ∧ base ≤ w.heap.size ∧ n = l.length ∧ k < l.length ∧ l.length ≤ 40) := ⟨by rw [en]; exact g,hbw,en,hk,hl⟩
 rw [← en] at hk hl hlc
 obtain ⟨c0,z0⟩ := HG.out.1.all
 have hQ := World.rowIs.lt HG.out.1.row
 have hk0:(0:Int) ≤ (k:Int) := by omega
 have hkn:(k:Int) < (n:Int) := by omega
 have hkn':decide ((n:Int) ≤ (k:Int)) = false := by simp; omega
 have ha0:(0:Int) ≤ (a:Int) := by omega
 have ha5':(a:Int) < 5 := by omega
 have hb0:(0:Int) ≤ (b:Int) := by omega
 have hb5':(b:Int) < 5 := by omega
 obtain ⟨W,eW⟩:∃ W,W = (w.alloc (.cells #[.int .i64 0,.int .i64 0,.int .i64 0] 83)).alloc (.cells #[.int .i64 (a:Int),.int .i64 (b:Int),.int .i64 p2] 83) := ⟨_,rfl⟩
 have BW:Hid (Below w.heap.size w W ∧ W.heap.size = w.heap.size + 2) := ⟨by rw [eW]; exact ((Below.refl _ _).alloc (Nat.le_refl _) _).alloc (by simp) _,by rw [eW]; simp⟩
 have GW:Hid (RN W base Q no l (.slice (some ⟨g0,0,none⟩) n cap)) := HG.out.1.later BW.out.1
 have RW:Hid (W.rowIs w.heap.size 83 3 (fun _ => .int .i64 0)) := by
  have q1 := World.rowIs_alloc w #[.int .i64 0,.int .i64 0,.int .i64 0] 83 (fun _ => .int .i64 0) (fun i hi => by rcases i with _ | _ | _ | i <;> first | rfl | (exfalso; have:_ < 3 := hi; omega))
  rw [eW]
  exact World.rowIs.of_block q1 (Below.heap_alloc _ _ _ (by simp))
 have s0:W.cell? ⟨w.heap.size + 1,0,none⟩ = some (.int .i64 (a:Int)) := by rw [eW]; go_cell
 have s1:W.cell? ⟨w.heap.size + 1,1,none⟩ = some (.int .i64 (b:Int)) := by rw [eW]; go_cell
 have s2:W.cell? ⟨w.heap.size + 1,2,none⟩ = some (.int .i64 p2) := by rw [eW]; go_cell
 have y0 := World.rowIs.cell RW.out (i := 0) (by omega)
 have y1 := World.rowIs.cell RW.out (i := 1) (by omega)
 have y2 := World.rowIs.cell RW.out (i := 2) (by omega)
 have f0 := World.rowIs.frozen RW.out 0
 have f1 := World.rowIs.frozen RW.out 1
 have f2 := World.rowIs.frozen RW.out 2
 have cn := (GW.out.cut ha5 hb5).1
 rw [hno] at cn
 clear g hbw en hcs hform hcm hok ep
 go_enter Tryz.func104,Tryz.ntmps104
 go_wp2_with fail
 rw [← eW]
 clear eW x0 x1 x2 c0 z0
 go_quiet (fail)
 go_wp2_with fail
 have GD:Hid (RN (W.drewN nq) base Q no l (.slice (some ⟨g0,0,none⟩) n cap)) := GW.out.of_blocks rfl (fun _ _ => rfl)
 refine (refOut k HG.out.2.2.2.1 GD.out (by show base ≤ W.heap.size; have := BW.out.2; have := HG.out.2.1; omega) HG.out.2.2.2.2).mono ?_
 rintro e w3 ⟨v',rfl,hR,hB,hK,hV⟩
 have G3:Hid (RN w3 base Q no (l.eraseIdx k) v' ∧ Below base (W.drewN nq) w3 ∧ Kp (W.drewN nq) w3 Q none ∧ ∀ j,v'.ownBlock = some j → W.heap.size ≤ j) := ⟨hR,hB,hK,hV⟩
 have NQ:Hid (w.heap.size ≠ Q ∧ w.heap.size + 1 ≠ Q) := (by constructor <;> omega:w.heap.size ≠ Q ∧ w.heap.size + 1 ≠ Q)
 have b0:w3.heap[w.heap.size]? = W.heap[w.heap.size]? := G3.out.2.2.1.2 _ (by show _ < W.heap.size; have := BW.out.2; omega) NQ.out.1 (by simp)
 have b1:w3.heap[w.heap.size + 1]? = W.heap[w.heap.size + 1]? := G3.out.2.2.1.2 _ (by show _ < W.heap.size; have := BW.out.2; omega) NQ.out.2 (by simp)
 have R3:Hid (w3.rowIs w.heap.size 83 3 (fun _ => .int .i64 0)) := World.rowIs.of_block RW.out b0
 have t0 := (World.cell?_of_block (a := ⟨w.heap.size + 1,0,none⟩) b1).trans s0
 have t1 := (World.cell?_of_block (a := ⟨w.heap.size + 1,1,none⟩) b1).trans s1
 have t2 := (World.cell?_of_block (a := ⟨w.heap.size + 1,2,none⟩) b1).trans s2
 have z0 := World.rowIs.cell R3.out (i := 0) (by omega)
 have z1 := World.rowIs.cell R3.out (i := 1) (by omega)
 have z2 := World.rowIs.cell R3.out (i := 2) (by omega)
 have h0 := World.rowIs.frozen R3.out 0
 have h1 := World.rowIs.frozen R3.out 1
 have h2 := World.rowIs.frozen R3.out 2
 clear hR hB hK hV b0 b1
 go_wp2
 have r3 := ((World.rowIs.set R3.out 0 (.int .i64 (a:Int))).set 1 (.int .i64 (b:Int))).set 2 (.int .i64 p2)
 have u0 := r3.cell (i := 0) (by omega)
 have u1 := r3.cell (i := 1) (by omega)
 have u2 := r3.cell (i := 2) (by omega)
 simp at u0 u1 u2
 refine bodyPost_ret (v := .tuple #[.agg #[.int .i64 (a:Int),.int .i64 (b:Int),.int .i64 p2],.int .i64 0]) (ret3 (B := w.heap.size) rfl rfl rfl u0 u1 u2) rfl ?_
 have hbb := HG.out.2.1
 have b3:Below base w w3 := (below_drews (BW.out.1.mono hbb) nq).trans G3.out.2.1
 have bl:∀ j,j ≠ w.heap.size → (((w3.setCell ⟨w.heap.size,0,none⟩ (.int .i64 (a:Int))).setCell ⟨w.heap.size,1,none⟩ (.int .i64 (b:Int))).setCell ⟨w.heap.size,2,none⟩ (.int .i64 p2)).heap[j]? = w3.heap[j]? := by
  intro j hj
  rw [Deep.blk_setCell_other _ _ _ _ hj,Deep.blk_setCell_other _ _ _ _ hj,Deep.blk_setCell_other _ _ _ _ hj]
 have hw2 := BW.out.2
 refine ⟨v',rfl,G3.out.1.of_blocks (bl Q (Ne.symm NQ.out.1)) (fun j hj => bl j (by have := G3.out.2.2.2 j hj; omega)),set3 b3 hbb _ _ _,⟨(set3 b3 hbb (.int .i64 (a:Int)) (.int .i64 (b:Int)) (.int .i64 p2)).size,fun j hj hP hr => ?_⟩,fun j hj => by have := G3.out.2.2.2 j hj; omega⟩
 rw [bl j (by omega),G3.out.2.2.1.2 j (by show j < W.heap.size; omega) hP hr]
 exact BW.out.1.block j hj
theorem refGive (i:Int) (g:RN w base Q no l v) (hi:NInv l) (hbw:base ≤ w.heap.size) :
  Calls Tryz.prog 104 #[.pointer (some ⟨Q,0,none⟩),.int .i64 i] w fun x w' => ∃ v',x = .returned (.tuple #[.agg #[.int .i64 (giveP no l i).1,.int .i64 (giveP no l i).2.1,.int .i64 (giveP no l i).2.2],.int .i64 (giveC no l i)]) ∧ RN w' base Q no (giveL no l i) v' ∧ Below base w w' ∧ Kp w w' Q none ∧ ∀ j,v'.ownBlock = some j → v.ownBlock = some j ∨ w.heap.size ≤ j := by
 cases h:isIn l i
 ·have e1:giveC no l i = 1 := by rw [giveC,if_neg (by rw [h]; decide)]
  have e2:giveL no l i = l := by rw [giveL,e1]; rfl
  have e3:giveP no l i = (0,0,0) := by rw [giveP,e1]; rfl
  rw [e1,e2,e3]
  refine (refGive_out i g h).mono ?_
  rintro x w' ⟨rfl,hb⟩
  exact ⟨v,rfl,g.later hb,hb.mono hbw,Kp.below hb _,fun j hj => .inl hj⟩
 ·obtain ⟨k,rfl,hk⟩ := isIn_yes h
  have hok := (hi.ok _ (List.getElem_mem hk)).1
  rw [← pk_get hk] at hok
  cases hno:no (pk l k).1 (pk l k).2.1
  ·have e1:giveC no l (k:Int) = 0 := by rw [giveC,if_pos h,Int.toNat_natCast,if_neg (by rw [hno]; decide)]
   have e2:giveL no l (k:Int) = l.eraseIdx k := by rw [giveL,if_pos e1,Int.toNat_natCast]
   have e3:giveP no l (k:Int) = pk l k := by rw [giveP,if_pos e1,Int.toNat_natCast]
   rw [e1,e2,e3]
   refine (refGive_ok k hk g hbw hi.len hok hno).mono ?_
   rintro x w' ⟨v',rfl,r,b,kk,hv⟩
   exact ⟨v',rfl,r,b,kk,fun j hj => .inr (hv j hj)⟩
  ·have e1:giveC no l (k:Int) = 6 := by rw [giveC,if_pos h,Int.toNat_natCast,if_pos hno]
   have e2:giveL no l (k:Int) = l := by rw [giveL,e1]; rfl
   have e3:giveP no l (k:Int) = (0,0,0) := by rw [giveP,e1]; rfl
   rw [e1,e2,e3]
   refine (refGive_cut k hk g hbw hi.len hok hno).mono ?_
   rintro x w' ⟨rfl,hb⟩
   exact ⟨v,rfl,g.later hb,hb.mono hbw,Kp.below hb _,fun j hj => .inl hj⟩
theorem refSend (p:Pk) (g:RN w base Q no l v) (hbw:base ≤ w.heap.size) :
  Calls Tryz.prog 63 #[.pointer (some ⟨Q,0,none⟩),.agg #[.int .i64 p.1,.int .i64 p.2.1,.int .i64 p.2.2]] w fun x w' => ∃ v',x = .returned (.int .i64 (sendC l p)) ∧ RN w' base Q no (sendL l p) v' ∧ Below base w w' ∧ Kp w w' Q v.ownBlock ∧ ∀ j,v'.ownBlock = some j → v.ownBlock = some j ∨ w.heap.size ≤ j := by
 have nope:∀ k:Int,k ≠ 0 → sendC l p = k → ∀ x w',(x = Ending.returned (.int .i64 k) ∧ Below w.heap.size w w') → ∃ v',x = .returned (.int .i64 (sendC l p)) ∧ RN w' base Q no (sendL l p) v' ∧ Below base w w' ∧ Kp w w' Q v.ownBlock ∧ ∀ j,v'.ownBlock = some j → v.ownBlock = some j ∨ w.heap.size ≤ j := by
  rintro k hk0 hk x w' ⟨rfl,hb⟩
  have e:sendL l p = l := if_neg (by rw [hk]; exact hk0)
  rw [e,hk]
  exact ⟨v,rfl,g.later hb,hb.mono hbw,Kp.below hb _,fun j hj => .inl hj⟩
 obtain ⟨a,b,c⟩ := p
 cases h:pkBad (a,b,c)
 ·obtain ⟨h1,h2,h3⟩ := pkBad_no h
  simp only at h1 h2 h3
  have k1:¬ pkBad (a,b,c) = true := by rw [h]; decide
  by_cases e:a = b
  ·subst e
   exact (refSend_same Q a c w h1.1 h1.2 h3.1 h3.2).mono (nope 3 (by decide) (by rw [sendC,if_neg k1,if_pos rfl]))
  ·by_cases hf:40 ≤ l.length
   ·exact (refSend_full a b c g h1.1 h1.2 h2.1 h2.2 h3.1 h3.2 e hf).mono (nope 4 (by decide) (by rw [sendC,if_neg k1,if_neg (by exact e),if_pos hf]))
   ·have e0:sendC l (a,b,c) = 0 := by rw [sendC,if_neg k1,if_neg (by exact e),if_neg hf]
    have e1:sendL l (a,b,c) = l ++ [(a,b,c)] := if_pos e0
    rw [e0,e1]
    exact refSend_ok a b c g hbw h1.1 h1.2 h2.1 h2.2 h3.1 h3.2 e (by omega)
 ·exact (refSend_bad Q a b c w h).mono (nope 1 (by decide) (by rw [sendC,if_pos h]))
end Go.Proofs.YtdmniblonikjlakGreatDoor.Net
