/-
  Texts put together: RunLe.
-/
import Derived.Test.YtdmniblonikjlakGreatDoorPsR
import Derived.Test.YtdmniblonikjlakGreatDoorPrR
import Derived.Test.YtdmniblonikjlakGreatDoorPsH


namespace Go.Proofs.YtdmniblonikjlakGreatDoor.Run
open Go.RowKit
open Fif (own_lt own_block own_form own_mono own_vw)
open Cas (G GI RG CRes sayC say giveC giveW give drop twice setL len60)
open Net (Pk pk isIn)
open His (Ev Ew ev hrd)
open Vec (Vw)
set_option linter.unusedVariables false
variable {w:World} {base C:Nat} {g:G} {d:Cas.Loc}
set_option maxRecDepth 100000 in
set_option maxHeartbeats 8000000 in
theorem line_drop_ok (s:ByteArray) (h:RG w base C g d) (hi:GI g) (hbw:base ≤ w.heap.size) (hs:s.size ≤ 3000) {p:T} (hw:cut 32 (bs s) = [100,114,111,112] :: [p]) (hp:isNum p = true) (hin:numV p < g.l.length):Calls Tryz.prog 26 #[.pointer (some ⟨C,0,none⟩),.string s] w fun e w' => e = .returned (.string (tx (line g (bs s)).1)) ∧ ∃ d',CRes w w' base C g d (line g (bs s)).2 d' := by
 have HR:Hid (RG w base C g d ∧ base ≤ w.heap.size ∧ GI g) := ⟨h,hbw,hi⟩
 have HW:Hid (cut 32 (bs s) = [100,114,111,112] :: [p]) := hw
 have HS:Hid (s.size ≤ 1000000) := by show _ ≤ _; omega
 have EN:Hid (([100,114,111,112] :: [p]:List T).length = 2) := rfl
 have HL:Hid (line g (bs s) = act g [100,114,111,112] ((numV p:Nat):Int) ((0:Nat):Int)) := line_act hw ⟨by simp,by simp [hp],rfl⟩
 have HA:Hid (∀ k,k < 1 → isNum ([p].getD k []) = true) := fun k hk => by
  rcases k with _ | k
  ·exact hp
  ·omega
 have HZ:Hid (act g [100,114,111,112] ((numV p:Nat):Int) ((0:Nat):Int) = (okT,setL g (g.l.eraseIdx (numV p)))) := by
  have e:isIn g.l ((numV p:Nat):Int) = true := Net.isIn_of hin
  show (done (Net.dropC g.l ((numV p:Nat):Int)),drop g ((numV p:Nat):Int)) = _
  unfold Cas.drop Net.dropC Net.dropL
  rw [if_pos e,if_pos e]
  rfl
 have HI:Hid (numV p < g.l.length) := hin
 clear hin
 clear h hi hbw hs hw hp
 go_enter Tryz.func26,Tryz.ntmps26
 go_wp2_with fail
 refine (cut_any s 32 HS.out w).mono ?_
 rintro e w1 ⟨v,rfl,ho,hb⟩
 rw [HW.out] at ho
 obtain ⟨qv,cv,rfl,-,-,hc⟩ := ho.form
 rw [show ([100,114,111,112] :: [p]:List T).length = 2 from EN.out] at hc ⊢
 obtain ⟨gv,rfl,-,hgl,-⟩ := hc 0 (by omega)
 have KC:Hid (∀ i,i < 2 → w1.cell? ⟨gv,i,none⟩ = some (.string (tx (([100,114,111,112] :: [p]:List T).getD i [])))) := fun i hi => by
  obtain ⟨g',e',_,_,c'⟩ := hc i hi
  cases e'
  exact c'
 have B1:Hid (Below w.heap.size w w1) := hb
 have GL:Hid (gv < w1.heap.size) := hgl
 clear ho hb hc hgl
 go_wp2_with fail
 go_loopw [7] (fun y wr => ∃ i:Nat,1 ≤ i ∧ i ≤ 2 ∧ y = .int .i64 (i:Int) ∧ Hid (V2 w1 wr [p] (i - 1))) (fun y _ => 2 - (intOf y).toNat)
 case atStart => exact ⟨1,by omega,by omega,rfl,V2.zero w1 [p]⟩
 case round =>
  obtain ⟨i,h1,hi,rfl,hV⟩ := hrel
  by_cases hlt:(i:Int) < (2:Int)
  ·have ci:wr.cell? ⟨gv,i,none⟩ = some (.string (tx (([p]:List T).getD (i - 1) []))) := by
    have := (hV.out.2.cell (p := ⟨gv,i,none⟩) GL.out).trans (KC.out i (by omega))
    obtain ⟨k,rfl⟩:∃ k,i = k + 1 := ⟨i - 1,by omega⟩
    exact this
   obtain ⟨x,ex⟩:∃ x,x = ([p]:List T).getD (i - 1) [] := ⟨_,rfl⟩
   rw [← ex] at ci
   have EX:Hid (x = ([p]:List T).getD (i - 1) []) := ex
   have fz := World.rowIs.frozen hV.out.1 (i - 1)
   have cz := World.rowIs.cell hV.out.1 (i := i - 1) (by omega)
   have hi2:(i:Int) - 1 < 2 := by omega
   have hi1:(0:Int) ≤ (i:Int) - 1 := by omega
   have hi3:(i:Int) ≤ 3 := by omega
   have HX:Hid (isNum x = true) := by
    show _ = _
    rw [ex]
    exact HA.out (i - 1) (by omega)
   clear ex
   go_wp2_with fail
   refine (number_any (tx x) wr).mono ?_
   rw [bs_tx,HX.out,numI_yes HX.out]
   rintro e w3 ⟨rfl,rfl⟩
   go_wp2
   go_roundw
   case rel =>
    have z := hV.out.next
    rw [← EX.out,show i - 1 + 1 = i + 1 - 1 by omega] at z
    exact ⟨i + 1,by omega,by omega,by go_num,z⟩
   case measure => simp [intOf]; omega
  ·have hin:i = 2 := by omega
   subst hin
   have c0:wr.cell? ⟨gv,0,none⟩ = some (.string (tx [100,114,111,112])) := (hV.out.2.cell (p := ⟨gv,0,none⟩) GL.out).trans (KC.out 0 (by omega))
   have e9 := tl [100,114,111,112]
   have v0:wr.cell? ⟨w1.heap.size,0,none⟩ = some (.int .i64 (numV p:Int)) := World.rowIs.cell hV.out.1 (i := 0) (by omega)
   have v1:wr.cell? ⟨w1.heap.size,1,none⟩ = some (.int .i64 0) := World.rowIs.cell hV.out.1 (i := 1) (by omega)
   obtain ⟨a0,ea0⟩:∃ a:Nat,a = numV p := ⟨_,rfl⟩
   rw [← ea0] at v0
   have BW:Hid (Below w.heap.size w wr.drew) := (B1.out.trans (hV.out.2.mono B1.out.size)).drew
   have RW:Hid (RG wr.drew base C g d ∧ base ≤ wr.drew.heap.size) := ⟨HR.out.1.later BW.out,Nat.le_trans HR.out.2.1 BW.out.size⟩
   have r1:wr.cell? ⟨C,1,none⟩ = some (.pointer (some ⟨d.Q,0,none⟩)) := RW.out.1.c1.1
   have r4:wr.cell? ⟨C,96,none⟩ = some d.vH := RW.out.1.c96.1
   obtain ⟨qn,cn,eN⟩ := own_form RW.out.1.rn.own
   have n0:wr.cell? ⟨d.Q,0,none⟩ = some (.slice qn g.l.length cn) := by rw [← eN]; exact RW.out.1.rn.all.1
   obtain ⟨qh,ch,eH⟩ := own_form RW.out.1.evs
   rw [eH] at r4
   obtain ⟨ll,ell⟩:∃ ll,ll = g.l.length := ⟨_,rfl⟩
   obtain ⟨lh,elh⟩:∃ lh,lh = g.H.length := ⟨_,rfl⟩
   rw [← ell] at n0
   rw [← elh] at r4
   have EV:Hid (d.vN = .slice qn ll cn ∧ d.vH = .slice qh lh ch ∧ ll = g.l.length ∧ lh = g.H.length) := ⟨by rw [ell]; exact eN,by rw [elh]; exact eH,ell,elh⟩
   have hll:(ll:Int) ≤ 40 := by have := HR.out.2.2.net.len; omega
   have hlh:(lh:Int) ≤ 60 := by have := len60 HR.out.2.2; omega
   clear eN eH ell elh
   have EA:Hid (a0 = numV p) := ea0
   clear ea0
   have v9:V2 w1 wr [p] (2 - 1) := hV.out
   have W1:Hid (w1.heap.size < wr.heap.size) := World.rowIs.lt hV.out.1
   have hlt9:(a0:Int) < (ll:Int) := by
    have := HI.out
    have := EA.out
    have := EV.out.2.2.1
    omega
   clear v9
   go_upto_region 27 with fail
   go_region
   go_upto_region 36 with fail
   have BD:Hid (Below w.heap.size w wr.drew.drew) := BW.out.drew
   have RD:Hid (RG wr.drew.drew base C g d ∧ base ≤ wr.drew.drew.heap.size) := ⟨HR.out.1.later BD.out,Nat.le_trans HR.out.2.1 BD.out.size⟩
   have hVQ:Hid (w1.heap.size ≠ d.Q) := by
    have := (HR.out.1.fp (.inr (.inl rfl))).2
    have := B1.out.size
    show _ ≠ _
    omega
   refine wp_region_held_drew (S := fun X => X.cell? ⟨C,1,none⟩ = some (.pointer (some ⟨d.Q,0,none⟩)) ∧ X.cell? ⟨w1.heap.size,0,none⟩ = some (.int .i64 (a0:Int))) (by kernel_rfl) ⟨r1,v0⟩ ?_
   intro hS
   refine takeR (i := 0) 94 (v := .pointer (some ⟨C,0,none⟩)) rfl rfl (by kernel_rfl) (by kernel_rfl) (by kernel_rfl) (fun _ _ _ h => h) (Or.inl ⟨by kernel_rfl,fun _ hS => by first | rfl | (obtain ⟨k0,k1⟩ := hS; go_simp)⟩) hS ?_
   try simp only [Act.put,List.setIfInBounds_toArray,List.set_cons_zero,List.set_cons_succ]
   refine takeR (i := 1) 95 (v := .pointer (some ⟨C,0,none⟩)) rfl rfl (by kernel_rfl) (by kernel_rfl) (by kernel_rfl) (fun _ _ _ h => h) (Or.inl ⟨by kernel_rfl,fun _ hS => by first | rfl | (obtain ⟨k0,k1⟩ := hS; go_simp)⟩) hS ?_
   try simp only [Act.put,List.setIfInBounds_toArray,List.set_cons_zero,List.set_cons_succ]
   refine takeR (i := 2) 96 (v := .pointer (some ⟨C,1,none⟩)) rfl rfl (by kernel_rfl) (by kernel_rfl) (by kernel_rfl) (fun _ _ _ h => h) (Or.inl ⟨by kernel_rfl,fun _ hS => by first | rfl | (obtain ⟨k0,k1⟩ := hS; go_simp)⟩) hS ?_
   try simp only [Act.put,List.setIfInBounds_toArray,List.set_cons_zero,List.set_cons_succ]
   refine takeR (i := 3) 97 (v := .pointer (some ⟨d.Q,0,none⟩)) rfl rfl (by kernel_rfl) (by kernel_rfl) (by kernel_rfl) (fun _ _ _ h => h) (Or.inl ⟨by kernel_rfl,fun _ hS => by first | rfl | (obtain ⟨k0,k1⟩ := hS; go_simp)⟩) hS ?_
   try simp only [Act.put,List.setIfInBounds_toArray,List.set_cons_zero,List.set_cons_succ]
   refine takeR (i := 4) 98 (v := .pointer (some ⟨w1.heap.size,0,none⟩)) rfl rfl (by kernel_rfl) (by kernel_rfl) (by kernel_rfl) (fun _ _ _ h => h) (Or.inl ⟨by kernel_rfl,fun _ hS => by first | rfl | (obtain ⟨k0,k1⟩ := hS; go_simp)⟩) hS ?_
   try simp only [Act.put,List.setIfInBounds_toArray,List.set_cons_zero,List.set_cons_succ]
   refine takeR (i := 5) 99 (v := .int .i64 (a0:Int)) rfl rfl (by kernel_rfl) (by kernel_rfl) (by kernel_rfl) (fun _ _ _ h => h) (Or.inl ⟨by kernel_rfl,fun _ hS => by first | rfl | (obtain ⟨k0,k1⟩ := hS; go_simp)⟩) hS ?_
   try simp only [Act.put,List.setIfInBounds_toArray,List.set_cons_zero,List.set_cons_succ]
   refine wpAnyH_ready (rs := [6]) (by kernel_rfl) (by simp) ?_
   refine AllReadyH.cons rfl (fun K9 hK9 => ?_) AllReadyH.nil
   go_simp
   refine (Net.refOut a0 (by have := EV.out.2.2.1; omega) RD.out.1.rn RD.out.2 (by have := EV.out.2.2.1; omega)).mono ?_
   rintro e w5 ⟨v',rfl,hn,hb,hk,hnw⟩
   have R5:Hid (CRes w w5 base C g d (setL g (g.l.eraseIdx a0)) { d with vN := v' }) := (CRes.still HR.out.1 HR.out.2.1 BD.out).trans (RD.out.1.net hk hb (fun k q => by cases q) hn (fun k q => .inr (hnw k q)))
   have x0:w5.cell? ⟨w1.heap.size,0,none⟩ = some (.int .i64 (a0:Int)) := (World.cell?_of_block (a := ⟨w1.heap.size,0,none⟩) (hk.2 _ W1.out hVQ.out (by simp))).trans v0
   have x1:w5.cell? ⟨C,1,none⟩ = some (.pointer (some ⟨d.Q,0,none⟩)) := R5.out.rg.c1.1
   clear hn hb hk hnw
   go_simp
   refine hK9.out _ _ ⟨x1,x0⟩ (fun hS => ?_)
   clear hK9 K9
   refine wpAnyH_done (by kernel_rfl) ?_ _
   go_wp2
   go_ret
   refine ⟨?_,{ d with vN := v' },?_⟩
   ·rw [HL.out,HZ.out]
    rfl
   ·rw [HL.out,HZ.out,← EA.out]
    exact R5.out
end Go.Proofs.YtdmniblonikjlakGreatDoor.Run
