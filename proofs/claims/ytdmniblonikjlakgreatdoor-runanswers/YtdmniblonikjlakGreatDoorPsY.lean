/-
  Texts put together: RunLf.
-/
import Derived.Test.YtdmniblonikjlakGreatDoorPsR
import Derived.Test.YtdmniblonikjlakGreatDoorPrR
import Derived.Test.YtdmniblonikjlakGreatDoorPrS
import Derived.Test.YtdmniblonikjlakGreatDoorPsQ
import Derived.Test.YtdmniblonikjlakGreatDoorPsM


namespace Go.Proofs.YtdmniblonikjlakGreatDoor.Run
open Go.RowKit
open Fif (own_lt own_block own_form own_mono own_vw)
open Cas (G GI RG CRes sayC say giveC giveW give drop twice setL len60)
open Net (Pk pk isIn)
open His (Ev Ew ev hrd)
open Vec (Vw)
set_option linter.unusedVariables false
variable {w:World} {base C:Nat} {g:G} {d:Cas.Loc}
set_option maxRecDepth 100000 in
set_option maxHeartbeats 8000000 in
theorem line_faces (s:ByteArray) (h:RG w base C g d) (hi:GI g) (hbw:base ≤ w.heap.size) (hs:s.size ≤ 3000) (hw:cut 32 (bs s) = [102,97,99,101,115] :: []) :Calls Tryz.prog 26 #[.pointer (some ⟨C,0,none⟩),.string s] w fun e w' => e = .returned (.string (tx (line g (bs s)).1)) ∧ ∃ d',CRes w w' base C g d (line g (bs s)).2 d' := by
 have HR:Hid (RG w base C g d ∧ base ≤ w.heap.size ∧ GI g) := ⟨h,hbw,hi⟩
 have HW:Hid (cut 32 (bs s) = [102,97,99,101,115] :: []) := hw
 have HS:Hid (s.size ≤ 1000000) := by show _ ≤ _; omega
 have EN:Hid (([102,97,99,101,115] :: []:List T).length = 1) := rfl
 have HL:Hid (line g (bs s) = act g [102,97,99,101,115] ((0:Nat):Int) ((0:Nat):Int)) := line_act hw ⟨by simp,by simp,rfl⟩
 have HZ:Hid (act g [102,97,99,101,115] ((0:Nat):Int) ((0:Nat):Int) = (facesT (His.fifoB g.H) (His.causB g.H) (His.totB g.H),g)) := rfl
 clear h hi hbw hs hw 
 go_enter Tryz.func26,Tryz.ntmps26
 go_wp2_with fail
 refine (cut_any s 32 HS.out w).mono ?_
 rintro e w1 ⟨v,rfl,ho,hb⟩
 rw [HW.out] at ho
 obtain ⟨qv,cv,rfl,-,-,hc⟩ := ho.form
 rw [show ([102,97,99,101,115] :: []:List T).length = 1 from EN.out] at hc ⊢
 obtain ⟨gv,rfl,-,hgl,-⟩ := hc 0 (by omega)
 have KC:Hid (∀ i,i < 1 → w1.cell? ⟨gv,i,none⟩ = some (.string (tx (([102,97,99,101,115] :: []:List T).getD i [])))) := fun i hi => by
  obtain ⟨g',e',_,_,c'⟩ := hc i hi
  cases e'
  exact c'
 have B1:Hid (Below w.heap.size w w1) := hb
 have GL:Hid (gv < w1.heap.size) := hgl
 clear ho hb hc hgl
 go_wp2_with fail
 go_loopw [7] (fun y wr => ∃ i:Nat,1 ≤ i ∧ i ≤ 1 ∧ y = .int .i64 (i:Int) ∧ Hid (V2 w1 wr [] (i - 1))) (fun y _ => 1 - (intOf y).toNat)
 case atStart => exact ⟨1,by omega,by omega,rfl,V2.zero w1 []⟩
 case round =>
  obtain ⟨i,h1,hi,rfl,hV⟩ := hrel
  by_cases hlt:(i:Int) < (1:Int)
  ·have ci:wr.cell? ⟨gv,i,none⟩ = some (.string (tx (([]:List T).getD (i - 1) []))) := by
    have := (hV.out.2.cell (p := ⟨gv,i,none⟩) GL.out).trans (KC.out i (by omega))
    obtain ⟨k,rfl⟩:∃ k,i = k + 1 := ⟨i - 1,by omega⟩
    exact this
   obtain ⟨x,ex⟩:∃ x,x = ([]:List T).getD (i - 1) [] := ⟨_,rfl⟩
   rw [← ex] at ci
   have EX:Hid (x = ([]:List T).getD (i - 1) []) := ex
   have fz := World.rowIs.frozen hV.out.1 (i - 1)
   have cz := World.rowIs.cell hV.out.1 (i := i - 1) (by omega)
   have hi2:(i:Int) - 1 < 2 := by omega
   have hi1:(0:Int) ≤ (i:Int) - 1 := by omega
   have hi3:(i:Int) ≤ 3 := by omega
   omega
  ·have hin:i = 1 := by omega
   subst hin
   have c0:wr.cell? ⟨gv,0,none⟩ = some (.string (tx [102,97,99,101,115])) := (hV.out.2.cell (p := ⟨gv,0,none⟩) GL.out).trans (KC.out 0 (by omega))
   have e9 := tl [102,97,99,101,115]
   have v0:wr.cell? ⟨w1.heap.size,0,none⟩ = some (.int .i64 0) := World.rowIs.cell hV.out.1 (i := 0) (by omega)
   have v1:wr.cell? ⟨w1.heap.size,1,none⟩ = some (.int .i64 0) := World.rowIs.cell hV.out.1 (i := 1) (by omega)
   have BW:Hid (Below w.heap.size w wr.drew) := (B1.out.trans (hV.out.2.mono B1.out.size)).drew
   have RW:Hid (RG wr.drew base C g d ∧ base ≤ wr.drew.heap.size) := ⟨HR.out.1.later BW.out,Nat.le_trans HR.out.2.1 BW.out.size⟩
   have r1:wr.cell? ⟨C,1,none⟩ = some (.pointer (some ⟨d.Q,0,none⟩)) := RW.out.1.c1.1
   have r4:wr.cell? ⟨C,96,none⟩ = some d.vH := RW.out.1.c96.1
   obtain ⟨qn,cn,eN⟩ := own_form RW.out.1.rn.own
   have n0:wr.cell? ⟨d.Q,0,none⟩ = some (.slice qn g.l.length cn) := by rw [← eN]; exact RW.out.1.rn.all.1
   obtain ⟨qh,ch,eH⟩ := own_form RW.out.1.evs
   rw [eH] at r4
   obtain ⟨ll,ell⟩:∃ ll,ll = g.l.length := ⟨_,rfl⟩
   obtain ⟨lh,elh⟩:∃ lh,lh = g.H.length := ⟨_,rfl⟩
   rw [← ell] at n0
   rw [← elh] at r4
   have EV:Hid (d.vN = .slice qn ll cn ∧ d.vH = .slice qh lh ch ∧ ll = g.l.length ∧ lh = g.H.length) := ⟨by rw [ell]; exact eN,by rw [elh]; exact eH,ell,elh⟩
   have hll:(ll:Int) ≤ 40 := by have := HR.out.2.2.net.len; omega
   have hlh:(lh:Int) ≤ 60 := by have := len60 HR.out.2.2; omega
   clear eN eH ell elh
   have v9:V2 w1 wr [] (1 - 1) := hV.out
   have W1:Hid (w1.heap.size < wr.heap.size) := World.rowIs.lt hV.out.1
   clear v9
   go_upto_region 27 with fail
   go_region
   have VE:Hid (lh ≤ ch ∧ ch ≤ maxLen ∧ Ew wr.drew qh lh g.H) := ev_seen (by have z := RW.out.1.evs; rwa [EV.out.2.1] at z) EV.out.2.2.2
   go_wp2_with fail
   refine (His.refFaces qh lh ch g.H wr.drew (by omega) VE.out.2.2 (by rw [EV.out.2.2.2]; exact HR.out.2.2.i0.good)).mono ?_
   rw [EV.out.2.2.2,← His.fifo_eq HR.out.2.2.i0.good,← His.caus_eq HR.out.2.2.i0.good,← His.tot_eq HR.out.2.2.i0.good]
   rintro e w5 ⟨rfl,hb5⟩
   have B5:Hid (Below wr.drew.heap.size wr.drew w5) := hb5
   clear hb5
   go_wp2_with fail
   refine (faces_any _ _ _ w5).mono ?_
   rintro e w6 ⟨rfl,hb6⟩
   have B6:Hid (Below wr.drew.heap.size wr.drew w6) := B5.out.trans (hb6.mono B5.out.size)
   clear hb6
   go_wp2
   go_ret
   refine ⟨?_,d,?_⟩
   ·rw [HL.out,HZ.out]
    rfl
   ·rw [HL.out,HZ.out]
    exact CRes.still HR.out.1 HR.out.2.1 (BW.out.trans (B6.out.mono BW.out.size))
end Go.Proofs.YtdmniblonikjlakGreatDoor.Run
