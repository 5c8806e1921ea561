/-
  Texts put together: RunLs, RunLg, RunLd, RunLt, RunLh, RunLc.
-/
import Derived.Test.YtdmniblonikjlakGreatDoorPsR
import Derived.Test.YtdmniblonikjlakGreatDoorPrR


namespace Go.Proofs.YtdmniblonikjlakGreatDoor.Run
open Go.RowKit
open Fif (own_lt own_block own_form own_mono own_vw)
open Cas (G GI RG CRes sayC say giveC giveW give drop twice setL len60)
open Net (Pk pk isIn)
open His (Ev Ew ev hrd)
open Vec (Vw)
set_option linter.unusedVariables false
variable {w:World} {base C:Nat} {g:G} {d:Cas.Loc}
set_option maxRecDepth 100000 in
set_option maxHeartbeats 8000000 in
theorem line_say (s:ByteArray) (h:RG w base C g d) (hi:GI g) (hbw:base ≤ w.heap.size) (hs:s.size ≤ 3000) {p q:T} (hw:cut 32 (bs s) = [115,97,121] :: [p,q]) (hp:isNum p = true) (hq:isNum q = true):Calls Tryz.prog 26 #[.pointer (some ⟨C,0,none⟩),.string s] w fun e w' => e = .returned (.string (tx (line g (bs s)).1)) ∧ ∃ d',CRes w w' base C g d (line g (bs s)).2 d' := by
 have HR:Hid (RG w base C g d ∧ base ≤ w.heap.size ∧ GI g) := ⟨h,hbw,hi⟩
 have HW:Hid (cut 32 (bs s) = [115,97,121] :: [p,q]) := hw
 have HS:Hid (s.size ≤ 1000000) := by show _ ≤ _; omega
 have EN:Hid (([115,97,121] :: [p,q]:List T).length = 3) := rfl
 have HL:Hid (line g (bs s) = act g [115,97,121] ((numV p:Nat):Int) ((numV q:Nat):Int)) := line_act hw ⟨by simp,by simp [hp,hq],rfl⟩
 have HA:Hid (∀ k,k < 2 → isNum ([p,q].getD k []) = true) := fun k hk => by
  rcases k with _ | _ | k
  ·exact hp
  ·exact hq
  ·omega
 clear h hi hbw hs hw hp hq
 go_enter Tryz.func26,Tryz.ntmps26
 go_wp2_with fail
 refine (cut_any s 32 HS.out w).mono ?_
 rintro e w1 ⟨v,rfl,ho,hb⟩
 rw [HW.out] at ho
 obtain ⟨qv,cv,rfl,-,-,hc⟩ := ho.form
 rw [show ([115,97,121] :: [p,q]:List T).length = 3 from EN.out] at hc ⊢
 obtain ⟨gv,rfl,-,hgl,-⟩ := hc 0 (by omega)
 have KC:Hid (∀ i,i < 3 → w1.cell? ⟨gv,i,none⟩ = some (.string (tx (([115,97,121] :: [p,q]:List T).getD i [])))) := fun i hi => by
  obtain ⟨g',e',_,_,c'⟩ := hc i hi
  cases e'
  exact c'
 have B1:Hid (Below w.heap.size w w1) := hb
 have GL:Hid (gv < w1.heap.size) := hgl
 clear ho hb hc hgl
 go_wp2_with fail
 go_loopw [7] (fun y wr => ∃ i:Nat,1 ≤ i ∧ i ≤ 3 ∧ y = .int .i64 (i:Int) ∧ Hid (V2 w1 wr [p,q] (i - 1))) (fun y _ => 3 - (intOf y).toNat)
 case atStart => exact ⟨1,by omega,by omega,rfl,V2.zero w1 [p,q]⟩
 case round =>
  obtain ⟨i,h1,hi,rfl,hV⟩ := hrel
  by_cases hlt:(i:Int) < (3:Int)
  ·have ci:wr.cell? ⟨gv,i,none⟩ = some (.string (tx (([p,q]:List T).getD (i - 1) []))) := by
    have := (hV.out.2.cell (p := ⟨gv,i,none⟩) GL.out).trans (KC.out i (by omega))
    obtain ⟨k,rfl⟩:∃ k,i = k + 1 := ⟨i - 1,by omega⟩
    exact this
   obtain ⟨x,ex⟩:∃ x,x = ([p,q]:List T).getD (i - 1) [] := ⟨_,rfl⟩
   rw [← ex] at ci
   have EX:Hid (x = ([p,q]:List T).getD (i - 1) []) := ex
   have fz := World.rowIs.frozen hV.out.1 (i - 1)
   have cz := World.rowIs.cell hV.out.1 (i := i - 1) (by omega)
   have hi2:(i:Int) - 1 < 2 := by omega
   have hi1:(0:Int) ≤ (i:Int) - 1 := by omega
   have hi3:(i:Int) ≤ 3 := by omega
   have HX:Hid (isNum x = true) := by
    show _ = _
    rw [ex]
    exact HA.out (i - 1) (by omega)
   clear ex
   go_wp2_with fail
   refine (number_any (tx x) wr).mono ?_
   rw [bs_tx,HX.out,numI_yes HX.out]
   rintro e w3 ⟨rfl,rfl⟩
   go_wp2
   go_roundw
   case rel =>
    have z := hV.out.next
    rw [← EX.out,show i - 1 + 1 = i + 1 - 1 by omega] at z
    exact ⟨i + 1,by omega,by omega,by go_num,z⟩
   case measure => simp [intOf]; omega
  ·have hin:i = 3 := by omega
   subst hin
   have c0:wr.cell? ⟨gv,0,none⟩ = some (.string (tx [115,97,121])) := (hV.out.2.cell (p := ⟨gv,0,none⟩) GL.out).trans (KC.out 0 (by omega))
   have e9 := tl [115,97,121]
   have v0:wr.cell? ⟨w1.heap.size,0,none⟩ = some (.int .i64 (numV p:Int)) := World.rowIs.cell hV.out.1 (i := 0) (by omega)
   have v1:wr.cell? ⟨w1.heap.size,1,none⟩ = some (.int .i64 (numV q:Int)) := World.rowIs.cell hV.out.1 (i := 1) (by omega)
   obtain ⟨a0,ea0⟩:∃ a:Nat,a = numV p := ⟨_,rfl⟩
   rw [← ea0] at v0
   obtain ⟨a1,ea1⟩:∃ a:Nat,a = numV q := ⟨_,rfl⟩
   rw [← ea1] at v1
   have BW:Hid (Below w.heap.size w wr.drew) := (B1.out.trans (hV.out.2.mono B1.out.size)).drew
   have RW:Hid (RG wr.drew base C g d ∧ base ≤ wr.drew.heap.size) := ⟨HR.out.1.later BW.out,Nat.le_trans HR.out.2.1 BW.out.size⟩
   have r1:wr.cell? ⟨C,1,none⟩ = some (.pointer (some ⟨d.Q,0,none⟩)) := RW.out.1.c1.1
   have r4:wr.cell? ⟨C,96,none⟩ = some d.vH := RW.out.1.c96.1
   obtain ⟨qn,cn,eN⟩ := own_form RW.out.1.rn.own
   have n0:wr.cell? ⟨d.Q,0,none⟩ = some (.slice qn g.l.length cn) := by rw [← eN]; exact RW.out.1.rn.all.1
   obtain ⟨qh,ch,eH⟩ := own_form RW.out.1.evs
   rw [eH] at r4
   obtain ⟨ll,ell⟩:∃ ll,ll = g.l.length := ⟨_,rfl⟩
   obtain ⟨lh,elh⟩:∃ lh,lh = g.H.length := ⟨_,rfl⟩
   rw [← ell] at n0
   rw [← elh] at r4
   have EV:Hid (d.vN = .slice qn ll cn ∧ d.vH = .slice qh lh ch ∧ ll = g.l.length ∧ lh = g.H.length) := ⟨by rw [ell]; exact eN,by rw [elh]; exact eH,ell,elh⟩
   have hll:(ll:Int) ≤ 40 := by have := HR.out.2.2.net.len; omega
   have hlh:(lh:Int) ≤ 60 := by have := len60 HR.out.2.2; omega
   clear eN eH ell elh
   have EA:Hid (a0 = numV p ∧ a1 = numV q) := ⟨ea0,ea1⟩
   clear ea0 ea1
   have v9:V2 w1 wr [p,q] (3 - 1) := hV.out
   have W1:Hid (w1.heap.size < wr.heap.size) := World.rowIs.lt hV.out.1
   clear v9
   go_upto_region 27 with fail
   go_region
   go_wp2_with fail
   refine (Cas.castSay (a0:Int) (a1:Int) RW.out.1 HR.out.2.2 RW.out.2).mono ?_
   rintro e w5 ⟨d',rfl,r⟩
   have R5:Hid (CRes w w5 base C g d (say g a0 a1) d') := (CRes.still HR.out.1 HR.out.2.1 BW.out).trans r
   clear r
   go_wp2_with fail
   refine (done_any _ (sayC_range _ _ _) w5).mono ?_
   rintro e w6 ⟨rfl,hb6⟩
   have R6:Hid (CRes w w6 base C g d (say g a0 a1) d') := R5.out.later HR.out.2.1 hb6
   clear hb6
   go_wp2
   go_ret
   refine ⟨?_,d',?_⟩
   ·rw [HL.out,← EA.out.1,← EA.out.2]
    rfl
   ·rw [HL.out,← EA.out.1,← EA.out.2]
    exact R6.out
end Go.Proofs.YtdmniblonikjlakGreatDoor.Run


namespace Go.Proofs.YtdmniblonikjlakGreatDoor.Run
open Go.RowKit
open Fif (own_lt own_block own_form own_mono own_vw)
open Cas (G GI RG CRes sayC say giveC giveW give drop twice setL len60)
open Net (Pk pk isIn)
open His (Ev Ew ev hrd)
open Vec (Vw)
set_option linter.unusedVariables false
variable {w:World} {base C:Nat} {g:G} {d:Cas.Loc}
set_option maxRecDepth 100000 in
set_option maxHeartbeats 8000000 in
theorem line_give (s:ByteArray) (h:RG w base C g d) (hi:GI g) (hbw:base ≤ w.heap.size) (hs:s.size ≤ 3000) {p:T} (hw:cut 32 (bs s) = [103,105,118,101] :: [p]) (hp:isNum p = true):Calls Tryz.prog 26 #[.pointer (some ⟨C,0,none⟩),.string s] w fun e w' => e = .returned (.string (tx (line g (bs s)).1)) ∧ ∃ d',CRes w w' base C g d (line g (bs s)).2 d' := by
 have HR:Hid (RG w base C g d ∧ base ≤ w.heap.size ∧ GI g) := ⟨h,hbw,hi⟩
 have HW:Hid (cut 32 (bs s) = [103,105,118,101] :: [p]) := hw
 have HS:Hid (s.size ≤ 1000000) := by show _ ≤ _; omega
 have EN:Hid (([103,105,118,101] :: [p]:List T).length = 2) := rfl
 have HL:Hid (line g (bs s) = act g [103,105,118,101] ((numV p:Nat):Int) ((0:Nat):Int)) := line_act hw ⟨by simp,by simp [hp],rfl⟩
 have HA:Hid (∀ k,k < 1 → isNum ([p].getD k []) = true) := fun k hk => by
  rcases k with _ | k
  ·exact hp
  ·omega
 clear h hi hbw hs hw hp
 go_enter Tryz.func26,Tryz.ntmps26
 go_wp2_with fail
 refine (cut_any s 32 HS.out w).mono ?_
 rintro e w1 ⟨v,rfl,ho,hb⟩
 rw [HW.out] at ho
 obtain ⟨qv,cv,rfl,-,-,hc⟩ := ho.form
 rw [show ([103,105,118,101] :: [p]:List T).length = 2 from EN.out] at hc ⊢
 obtain ⟨gv,rfl,-,hgl,-⟩ := hc 0 (by omega)
 have KC:Hid (∀ i,i < 2 → w1.cell? ⟨gv,i,none⟩ = some (.string (tx (([103,105,118,101] :: [p]:List T).getD i [])))) := fun i hi => by
  obtain ⟨g',e',_,_,c'⟩ := hc i hi
  cases e'
  exact c'
 have B1:Hid (Below w.heap.size w w1) := hb
 have GL:Hid (gv < w1.heap.size) := hgl
 clear ho hb hc hgl
 go_wp2_with fail
 go_loopw [7] (fun y wr => ∃ i:Nat,1 ≤ i ∧ i ≤ 2 ∧ y = .int .i64 (i:Int) ∧ Hid (V2 w1 wr [p] (i - 1))) (fun y _ => 2 - (intOf y).toNat)
 case atStart => exact ⟨1,by omega,by omega,rfl,V2.zero w1 [p]⟩
 case round =>
  obtain ⟨i,h1,hi,rfl,hV⟩ := hrel
  by_cases hlt:(i:Int) < (2:Int)
  ·have ci:wr.cell? ⟨gv,i,none⟩ = some (.string (tx (([p]:List T).getD (i - 1) []))) := by
    have := (hV.out.2.cell (p := ⟨gv,i,none⟩) GL.out).trans (KC.out i (by omega))
    obtain ⟨k,rfl⟩:∃ k,i = k + 1 := ⟨i - 1,by omega⟩
    exact this
   obtain ⟨x,ex⟩:∃ x,x = ([p]:List T).getD (i - 1) [] := ⟨_,rfl⟩
   rw [← ex] at ci
   have EX:Hid (x = ([p]:List T).getD (i - 1) []) := ex
   have fz := World.rowIs.frozen hV.out.1 (i - 1)
   have cz := World.rowIs.cell hV.out.1 (i := i - 1) (by omega)
   have hi2:(i:Int) - 1 < 2 := by omega
   have hi1:(0:Int) ≤ (i:Int) - 1 := by omega
   have hi3:(i:Int) ≤ 3 := by omega
   have HX:Hid (isNum x = true) := by
    show _ = _
    rw [ex]
    exact HA.out (i - 1) (by omega)
   clear ex
   go_wp2_with fail
   refine (number_any (tx x) wr).mono ?_
   rw [bs_tx,HX.out,numI_yes HX.out]
   rintro e w3 ⟨rfl,rfl⟩
   go_wp2
   go_roundw
   case rel =>
    have z := hV.out.next
    rw [← EX.out,show i - 1 + 1 = i + 1 - 1 by omega] at z
    exact ⟨i + 1,by omega,by omega,by go_num,z⟩
   case measure => simp [intOf]; omega
  ·have hin:i = 2 := by omega
   subst hin
   have c0:wr.cell? ⟨gv,0,none⟩ = some (.string (tx [103,105,118,101])) := (hV.out.2.cell (p := ⟨gv,0,none⟩) GL.out).trans (KC.out 0 (by omega))
   have e9 := tl [103,105,118,101]
   have v0:wr.cell? ⟨w1.heap.size,0,none⟩ = some (.int .i64 (numV p:Int)) := World.rowIs.cell hV.out.1 (i := 0) (by omega)
   have v1:wr.cell? ⟨w1.heap.size,1,none⟩ = some (.int .i64 0) := World.rowIs.cell hV.out.1 (i := 1) (by omega)
   obtain ⟨a0,ea0⟩:∃ a:Nat,a = numV p := ⟨_,rfl⟩
   rw [← ea0] at v0
   have BW:Hid (Below w.heap.size w wr.drew) := (B1.out.trans (hV.out.2.mono B1.out.size)).drew
   have RW:Hid (RG wr.drew base C g d ∧ base ≤ wr.drew.heap.size) := ⟨HR.out.1.later BW.out,Nat.le_trans HR.out.2.1 BW.out.size⟩
   have r1:wr.cell? ⟨C,1,none⟩ = some (.pointer (some ⟨d.Q,0,none⟩)) := RW.out.1.c1.1
   have r4:wr.cell? ⟨C,96,none⟩ = some d.vH := RW.out.1.c96.1
   obtain ⟨qn,cn,eN⟩ := own_form RW.out.1.rn.own
   have n0:wr.cell? ⟨d.Q,0,none⟩ = some (.slice qn g.l.length cn) := by rw [← eN]; exact RW.out.1.rn.all.1
   obtain ⟨qh,ch,eH⟩ := own_form RW.out.1.evs
   rw [eH] at r4
   obtain ⟨ll,ell⟩:∃ ll,ll = g.l.length := ⟨_,rfl⟩
   obtain ⟨lh,elh⟩:∃ lh,lh = g.H.length := ⟨_,rfl⟩
   rw [← ell] at n0
   rw [← elh] at r4
   have EV:Hid (d.vN = .slice qn ll cn ∧ d.vH = .slice qh lh ch ∧ ll = g.l.length ∧ lh = g.H.length) := ⟨by rw [ell]; exact eN,by rw [elh]; exact eH,ell,elh⟩
   have hll:(ll:Int) ≤ 40 := by have := HR.out.2.2.net.len; omega
   have hlh:(lh:Int) ≤ 60 := by have := len60 HR.out.2.2; omega
   clear eN eH ell elh
   have EA:Hid (a0 = numV p) := ea0
   clear ea0
   have v9:V2 w1 wr [p] (2 - 1) := hV.out
   have W1:Hid (w1.heap.size < wr.heap.size) := World.rowIs.lt hV.out.1
   clear v9
   go_upto_region 27 with fail
   go_region
   go_wp2_with fail
   refine (Cas.castGive (a0:Int) RW.out.1 HR.out.2.2 RW.out.2).mono ?_
   rintro e w5 ⟨d',vo,rfl,ho,_,r⟩
   have R5:Hid (CRes w w5 base C g d (give g a0) d') := (CRes.still HR.out.1 HR.out.2.1 BW.out).trans r
   obtain ⟨qo,co,rfl,hvo⟩ := own_vw ho
   have GS:Hid (Vw w5 qo (giveW g a0).length (giveW g a0) ∧ (giveW g a0).length ≤ 60 ∧ ∀ k,k < (giveW g a0).length → 0 ≤ (giveW g a0).getD k 0 ∧ (giveW g a0).getD k 0 ≤ 1000000) := ⟨hvo,giveW_small HR.out.2.2 _⟩
   clear r ho hvo
   go_wp2_with fail
   refine (told_any qo _ co (giveW g a0) _ w5 (giveC_range _ _) GS.out.1 GS.out.2.1 GS.out.2.2).mono ?_
   rintro e w6 ⟨rfl,hb6⟩
   have R6:Hid (CRes w w6 base C g d (give g a0) d') := R5.out.later HR.out.2.1 hb6
   clear hb6
   go_wp2
   go_ret
   refine ⟨?_,d',?_⟩
   ·rw [HL.out,← EA.out]
    rfl
   ·rw [HL.out,← EA.out]
    exact R6.out
end Go.Proofs.YtdmniblonikjlakGreatDoor.Run


namespace Go.Proofs.YtdmniblonikjlakGreatDoor.Run
open Go.RowKit
open Fif (own_lt own_block own_form own_mono own_vw)
open Cas (G GI RG CRes sayC say giveC giveW give drop twice setL len60)
open Net (Pk pk isIn)
open His (Ev Ew ev hrd)
open Vec (Vw)
set_option linter.unusedVariables false
variable {w:World} {base C:Nat} {g:G} {d:Cas.Loc}
set_option maxRecDepth 100000 in
set_option maxHeartbeats 8000000 in
theorem line_drop_no (s:ByteArray) (h:RG w base C g d) (hi:GI g) (hbw:base ≤ w.heap.size) (hs:s.size ≤ 3000) {p:T} (hw:cut 32 (bs s) = [100,114,111,112] :: [p]) (hp:isNum p = true) (hin:¬ numV p < g.l.length):Calls Tryz.prog 26 #[.pointer (some ⟨C,0,none⟩),.string s] w fun e w' => e = .returned (.string (tx (line g (bs s)).1)) ∧ ∃ d',CRes w w' base C g d (line g (bs s)).2 d' := by
 have HR:Hid (RG w base C g d ∧ base ≤ w.heap.size ∧ GI g) := ⟨h,hbw,hi⟩
 have HW:Hid (cut 32 (bs s) = [100,114,111,112] :: [p]) := hw
 have HS:Hid (s.size ≤ 1000000) := by show _ ≤ _; omega
 have EN:Hid (([100,114,111,112] :: [p]:List T).length = 2) := rfl
 have HL:Hid (line g (bs s) = act g [100,114,111,112] ((numV p:Nat):Int) ((0:Nat):Int)) := line_act hw ⟨by simp,by simp [hp],rfl⟩
 have HA:Hid (∀ k,k < 1 → isNum ([p].getD k []) = true) := fun k hk => by
  rcases k with _ | k
  ·exact hp
  ·omega
 have HZ:Hid (act g [100,114,111,112] ((numV p:Nat):Int) ((0:Nat):Int) = (nm 1,g)) := by
  have e:isIn g.l ((numV p:Nat):Int) = false := by simp [isIn]; omega
  show (done (Net.dropC g.l ((numV p:Nat):Int)),drop g ((numV p:Nat):Int)) = _
  unfold Cas.drop Net.dropC Net.dropL
  rw [e]
  rfl
 have HI:Hid (¬ numV p < g.l.length) := hin
 clear hin
 clear h hi hbw hs hw hp
 go_enter Tryz.func26,Tryz.ntmps26
 go_wp2_with fail
 refine (cut_any s 32 HS.out w).mono ?_
 rintro e w1 ⟨v,rfl,ho,hb⟩
 rw [HW.out] at ho
 obtain ⟨qv,cv,rfl,-,-,hc⟩ := ho.form
 rw [show ([100,114,111,112] :: [p]:List T).length = 2 from EN.out] at hc ⊢
 obtain ⟨gv,rfl,-,hgl,-⟩ := hc 0 (by omega)
 have KC:Hid (∀ i,i < 2 → w1.cell? ⟨gv,i,none⟩ = some (.string (tx (([100,114,111,112] :: [p]:List T).getD i [])))) := fun i hi => by
  obtain ⟨g',e',_,_,c'⟩ := hc i hi
  cases e'
  exact c'
 have B1:Hid (Below w.heap.size w w1) := hb
 have GL:Hid (gv < w1.heap.size) := hgl
 clear ho hb hc hgl
 go_wp2_with fail
 go_loopw [7] (fun y wr => ∃ i:Nat,1 ≤ i ∧ i ≤ 2 ∧ y = .int .i64 (i:Int) ∧ Hid (V2 w1 wr [p] (i - 1))) (fun y _ => 2 - (intOf y).toNat)
 case atStart => exact ⟨1,by omega,by omega,rfl,V2.zero w1 [p]⟩
 case round =>
  obtain ⟨i,h1,hi,rfl,hV⟩ := hrel
  by_cases hlt:(i:Int) < (2:Int)
  ·have ci:wr.cell? ⟨gv,i,none⟩ = some (.string (tx (([p]:List T).getD (i - 1) []))) := by
    have := (hV.out.2.cell (p := ⟨gv,i,none⟩) GL.out).trans (KC.out i (by omega))
    obtain ⟨k,rfl⟩:∃ k,i = k + 1 := ⟨i - 1,by omega⟩
    exact this
   obtain ⟨x,ex⟩:∃ x,x = ([p]:List T).getD (i - 1) [] := ⟨_,rfl⟩
   rw [← ex] at ci
   have EX:Hid (x = ([p]:List T).getD (i - 1) []) := ex
   have fz := World.rowIs.frozen hV.out.1 (i - 1)
   have cz := World.rowIs.cell hV.out.1 (i := i - 1) (by omega)
   have hi2:(i:Int) - 1 < 2 := by omega
   have hi1:(0:Int) ≤ (i:Int) - 1 := by omega
   have hi3:(i:Int) ≤ 3 := by omega
   have HX:Hid (isNum x = true) := by
    show _ = _
    rw [ex]
    exact HA.out (i - 1) (by omega)
   clear ex
   go_wp2_with fail
   refine (number_any (tx x) wr).mono ?_
   rw [bs_tx,HX.out,numI_yes HX.out]
   rintro e w3 ⟨rfl,rfl⟩
   go_wp2
   go_roundw
   case rel =>
    have z := hV.out.next
    rw [← EX.out,show i - 1 + 1 = i + 1 - 1 by omega] at z
    exact ⟨i + 1,by omega,by omega,by go_num,z⟩
   case measure => simp [intOf]; omega
  ·have hin:i = 2 := by omega
   subst hin
   have c0:wr.cell? ⟨gv,0,none⟩ = some (.string (tx [100,114,111,112])) := (hV.out.2.cell (p := ⟨gv,0,none⟩) GL.out).trans (KC.out 0 (by omega))
   have e9 := tl [100,114,111,112]
   have v0:wr.cell? ⟨w1.heap.size,0,none⟩ = some (.int .i64 (numV p:Int)) := World.rowIs.cell hV.out.1 (i := 0) (by omega)
   have v1:wr.cell? ⟨w1.heap.size,1,none⟩ = some (.int .i64 0) := World.rowIs.cell hV.out.1 (i := 1) (by omega)
   obtain ⟨a0,ea0⟩:∃ a:Nat,a = numV p := ⟨_,rfl⟩
   rw [← ea0] at v0
   have BW:Hid (Below w.heap.size w wr.drew) := (B1.out.trans (hV.out.2.mono B1.out.size)).drew
   have RW:Hid (RG wr.drew base C g d ∧ base ≤ wr.drew.heap.size) := ⟨HR.out.1.later BW.out,Nat.le_trans HR.out.2.1 BW.out.size⟩
   have r1:wr.cell? ⟨C,1,none⟩ = some (.pointer (some ⟨d.Q,0,none⟩)) := RW.out.1.c1.1
   have r4:wr.cell? ⟨C,96,none⟩ = some d.vH := RW.out.1.c96.1
   obtain ⟨qn,cn,eN⟩ := own_form RW.out.1.rn.own
   have n0:wr.cell? ⟨d.Q,0,none⟩ = some (.slice qn g.l.length cn) := by rw [← eN]; exact RW.out.1.rn.all.1
   obtain ⟨qh,ch,eH⟩ := own_form RW.out.1.evs
   rw [eH] at r4
   obtain ⟨ll,ell⟩:∃ ll,ll = g.l.length := ⟨_,rfl⟩
   obtain ⟨lh,elh⟩:∃ lh,lh = g.H.length := ⟨_,rfl⟩
   rw [← ell] at n0
   rw [← elh] at r4
   have EV:Hid (d.vN = .slice qn ll cn ∧ d.vH = .slice qh lh ch ∧ ll = g.l.length ∧ lh = g.H.length) := ⟨by rw [ell]; exact eN,by rw [elh]; exact eH,ell,elh⟩
   have hll:(ll:Int) ≤ 40 := by have := HR.out.2.2.net.len; omega
   have hlh:(lh:Int) ≤ 60 := by have := len60 HR.out.2.2; omega
   clear eN eH ell elh
   have EA:Hid (a0 = numV p) := ea0
   clear ea0
   have v9:V2 w1 wr [p] (2 - 1) := hV.out
   have W1:Hid (w1.heap.size < wr.heap.size) := World.rowIs.lt hV.out.1
   have hlt9:¬ (a0:Int) < (ll:Int) := by
    have := HI.out
    have := EA.out
    have := EV.out.2.2.1
    omega
   clear v9
   go_upto_region 27 with fail
   go_region
   go_wp2_with fail
   refine (name_any 1 (by decide) _).mono ?_
   rintro e w5 ⟨rfl,hb5⟩
   have R5:Hid (CRes w w5 base C g d g d) := (CRes.still HR.out.1 HR.out.2.1 BW.out).later HR.out.2.1 hb5
   clear hb5
   go_wp2
   go_ret
   refine ⟨?_,d,?_⟩
   ·rw [HL.out,HZ.out]
    rfl
   ·rw [HL.out,HZ.out]
    exact R5.out
end Go.Proofs.YtdmniblonikjlakGreatDoor.Run


namespace Go.Proofs.YtdmniblonikjlakGreatDoor.Run
open Go.RowKit
open Fif (own_lt own_block own_form own_mono own_vw)
open Cas (G GI RG CRes sayC say giveC giveW give drop twice setL len60)
open Net (Pk pk isIn)
open His (Ev Ew ev hrd)
open Vec (Vw)
set_option linter.unusedVariables false
variable {w:World} {base C:Nat} {g:G} {d:Cas.Loc}
set_option maxRecDepth 100000 in
set_option maxHeartbeats 8000000 in
theorem line_twice_no (s:ByteArray) (h:RG w base C g d) (hi:GI g) (hbw:base ≤ w.heap.size) (hs:s.size ≤ 3000) {p:T} (hw:cut 32 (bs s) = [116,119,105,99,101] :: [p]) (hp:isNum p = true) (hin:¬ numV p < g.l.length):Calls Tryz.prog 26 #[.pointer (some ⟨C,0,none⟩),.string s] w fun e w' => e = .returned (.string (tx (line g (bs s)).1)) ∧ ∃ d',CRes w w' base C g d (line g (bs s)).2 d' := by
 have HR:Hid (RG w base C g d ∧ base ≤ w.heap.size ∧ GI g) := ⟨h,hbw,hi⟩
 have HW:Hid (cut 32 (bs s) = [116,119,105,99,101] :: [p]) := hw
 have HS:Hid (s.size ≤ 1000000) := by show _ ≤ _; omega
 have EN:Hid (([116,119,105,99,101] :: [p]:List T).length = 2) := rfl
 have HL:Hid (line g (bs s) = act g [116,119,105,99,101] ((numV p:Nat):Int) ((0:Nat):Int)) := line_act hw ⟨by simp,by simp [hp],rfl⟩
 have HA:Hid (∀ k,k < 1 → isNum ([p].getD k []) = true) := fun k hk => by
  rcases k with _ | k
  ·exact hp
  ·omega
 have HZ:Hid (act g [116,119,105,99,101] ((numV p:Nat):Int) ((0:Nat):Int) = (nm 1,g)) := by
  have e:isIn g.l ((numV p:Nat):Int) = false := by simp [isIn]; omega
  show (done (Net.twC g.l ((numV p:Nat):Int)),twice g ((numV p:Nat):Int)) = _
  unfold Cas.twice Net.twC Net.twL
  rw [e]
  rfl
 have HI:Hid (¬ numV p < g.l.length) := hin
 clear hin
 clear h hi hbw hs hw hp
 go_enter Tryz.func26,Tryz.ntmps26
 go_wp2_with fail
 refine (cut_any s 32 HS.out w).mono ?_
 rintro e w1 ⟨v,rfl,ho,hb⟩
 rw [HW.out] at ho
 obtain ⟨qv,cv,rfl,-,-,hc⟩ := ho.form
 rw [show ([116,119,105,99,101] :: [p]:List T).length = 2 from EN.out] at hc ⊢
 obtain ⟨gv,rfl,-,hgl,-⟩ := hc 0 (by omega)
 have KC:Hid (∀ i,i < 2 → w1.cell? ⟨gv,i,none⟩ = some (.string (tx (([116,119,105,99,101] :: [p]:List T).getD i [])))) := fun i hi => by
  obtain ⟨g',e',_,_,c'⟩ := hc i hi
  cases e'
  exact c'
 have B1:Hid (Below w.heap.size w w1) := hb
 have GL:Hid (gv < w1.heap.size) := hgl
 clear ho hb hc hgl
 go_wp2_with fail
 go_loopw [7] (fun y wr => ∃ i:Nat,1 ≤ i ∧ i ≤ 2 ∧ y = .int .i64 (i:Int) ∧ Hid (V2 w1 wr [p] (i - 1))) (fun y _ => 2 - (intOf y).toNat)
 case atStart => exact ⟨1,by omega,by omega,rfl,V2.zero w1 [p]⟩
 case round =>
  obtain ⟨i,h1,hi,rfl,hV⟩ := hrel
  by_cases hlt:(i:Int) < (2:Int)
  ·have ci:wr.cell? ⟨gv,i,none⟩ = some (.string (tx (([p]:List T).getD (i - 1) []))) := by
    have := (hV.out.2.cell (p := ⟨gv,i,none⟩) GL.out).trans (KC.out i (by omega))
    obtain ⟨k,rfl⟩:∃ k,i = k + 1 := ⟨i - 1,by omega⟩
    exact this
   obtain ⟨x,ex⟩:∃ x,x = ([p]:List T).getD (i - 1) [] := ⟨_,rfl⟩
   rw [← ex] at ci
   have EX:Hid (x = ([p]:List T).getD (i - 1) []) := ex
   have fz := World.rowIs.frozen hV.out.1 (i - 1)
   have cz := World.rowIs.cell hV.out.1 (i := i - 1) (by omega)
   have hi2:(i:Int) - 1 < 2 := by omega
   have hi1:(0:Int) ≤ (i:Int) - 1 := by omega
   have hi3:(i:Int) ≤ 3 := by omega
   have HX:Hid (isNum x = true) := by
    show _ = _
    rw [ex]
    exact HA.out (i - 1) (by omega)
   clear ex
   go_wp2_with fail
   refine (number_any (tx x) wr).mono ?_
   rw [bs_tx,HX.out,numI_yes HX.out]
   rintro e w3 ⟨rfl,rfl⟩
   go_wp2
   go_roundw
   case rel =>
    have z := hV.out.next
    rw [← EX.out,show i - 1 + 1 = i + 1 - 1 by omega] at z
    exact ⟨i + 1,by omega,by omega,by go_num,z⟩
   case measure => simp [intOf]; omega
  ·have hin:i = 2 := by omega
   subst hin
   have c0:wr.cell? ⟨gv,0,none⟩ = some (.string (tx [116,119,105,99,101])) := (hV.out.2.cell (p := ⟨gv,0,none⟩) GL.out).trans (KC.out 0 (by omega))
   have e9 := tl [116,119,105,99,101]
   have v0:wr.cell? ⟨w1.heap.size,0,none⟩ = some (.int .i64 (numV p:Int)) := World.rowIs.cell hV.out.1 (i := 0) (by omega)
   have v1:wr.cell? ⟨w1.heap.size,1,none⟩ = some (.int .i64 0) := World.rowIs.cell hV.out.1 (i := 1) (by omega)
   obtain ⟨a0,ea0⟩:∃ a:Nat,a = numV p := ⟨_,rfl⟩
   rw [← ea0] at v0
   have BW:Hid (Below w.heap.size w wr.drew) := (B1.out.trans (hV.out.2.mono B1.out.size)).drew
   have RW:Hid (RG wr.drew base C g d ∧ base ≤ wr.drew.heap.size) := ⟨HR.out.1.later BW.out,Nat.le_trans HR.out.2.1 BW.out.size⟩
   have r1:wr.cell? ⟨C,1,none⟩ = some (.pointer (some ⟨d.Q,0,none⟩)) := RW.out.1.c1.1
   have r4:wr.cell? ⟨C,96,none⟩ = some d.vH := RW.out.1.c96.1
   obtain ⟨qn,cn,eN⟩ := own_form RW.out.1.rn.own
   have n0:wr.cell? ⟨d.Q,0,none⟩ = some (.slice qn g.l.length cn) := by rw [← eN]; exact RW.out.1.rn.all.1
   obtain ⟨qh,ch,eH⟩ := own_form RW.out.1.evs
   rw [eH] at r4
   obtain ⟨ll,ell⟩:∃ ll,ll = g.l.length := ⟨_,rfl⟩
   obtain ⟨lh,elh⟩:∃ lh,lh = g.H.length := ⟨_,rfl⟩
   rw [← ell] at n0
   rw [← elh] at r4
   have EV:Hid (d.vN = .slice qn ll cn ∧ d.vH = .slice qh lh ch ∧ ll = g.l.length ∧ lh = g.H.length) := ⟨by rw [ell]; exact eN,by rw [elh]; exact eH,ell,elh⟩
   have hll:(ll:Int) ≤ 40 := by have := HR.out.2.2.net.len; omega
   have hlh:(lh:Int) ≤ 60 := by have := len60 HR.out.2.2; omega
   clear eN eH ell elh
   have EA:Hid (a0 = numV p) := ea0
   clear ea0
   have v9:V2 w1 wr [p] (2 - 1) := hV.out
   have W1:Hid (w1.heap.size < wr.heap.size) := World.rowIs.lt hV.out.1
   have hlt9:¬ (a0:Int) < (ll:Int) := by
    have := HI.out
    have := EA.out
    have := EV.out.2.2.1
    omega
   clear v9
   go_upto_region 27 with fail
   go_region
   go_wp2_with fail
   refine (name_any 1 (by decide) _).mono ?_
   rintro e w5 ⟨rfl,hb5⟩
   have R5:Hid (CRes w w5 base C g d g d) := (CRes.still HR.out.1 HR.out.2.1 BW.out).later HR.out.2.1 hb5
   clear hb5
   go_wp2
   go_ret
   refine ⟨?_,d,?_⟩
   ·rw [HL.out,HZ.out]
    rfl
   ·rw [HL.out,HZ.out]
    exact R5.out
end Go.Proofs.YtdmniblonikjlakGreatDoor.Run


namespace Go.Proofs.YtdmniblonikjlakGreatDoor.Run
open Go.RowKit
open Fif (own_lt own_block own_form own_mono own_vw)
open Cas (G GI RG CRes sayC say giveC giveW give drop twice setL len60)
open Net (Pk pk isIn)
open His (Ev Ew ev hrd)
open Vec (Vw)
set_option linter.unusedVariables false
variable {w:World} {base C:Nat} {g:G} {d:Cas.Loc}
set_option maxRecDepth 100000 in
set_option maxHeartbeats 8000000 in
theorem line_heard_no (s:ByteArray) (h:RG w base C g d) (hi:GI g) (hbw:base ≤ w.heap.size) (hs:s.size ≤ 3000) {p:T} (hw:cut 32 (bs s) = [104,101,97,114,100] :: [p]) (hp:isNum p = true) (hin:4 < numV p):Calls Tryz.prog 26 #[.pointer (some ⟨C,0,none⟩),.string s] w fun e w' => e = .returned (.string (tx (line g (bs s)).1)) ∧ ∃ d',CRes w w' base C g d (line g (bs s)).2 d' := by
 have HR:Hid (RG w base C g d ∧ base ≤ w.heap.size ∧ GI g) := ⟨h,hbw,hi⟩
 have HW:Hid (cut 32 (bs s) = [104,101,97,114,100] :: [p]) := hw
 have HS:Hid (s.size ≤ 1000000) := by show _ ≤ _; omega
 have EN:Hid (([104,101,97,114,100] :: [p]:List T).length = 2) := rfl
 have HL:Hid (line g (bs s) = act g [104,101,97,114,100] ((numV p:Nat):Int) ((0:Nat):Int)) := line_act hw ⟨by simp,by simp [hp],rfl⟩
 have HA:Hid (∀ k,k < 1 → isNum ([p].getD k []) = true) := fun k hk => by
  rcases k with _ | k
  ·exact hp
  ·omega
 have HZ:Hid (act g [104,101,97,114,100] ((numV p:Nat):Int) ((0:Nat):Int) = (nm 1,g)) := by
  show ((if (4:Int) < ((numV p:Nat):Int) then nm 1 else row (hrd g.H ((numV p:Nat):Int))),g) = _
  rw [if_pos (by omega)]
 have HI:Hid (4 < numV p) := hin
 clear hin
 clear h hi hbw hs hw hp
 go_enter Tryz.func26,Tryz.ntmps26
 go_wp2_with fail
 refine (cut_any s 32 HS.out w).mono ?_
 rintro e w1 ⟨v,rfl,ho,hb⟩
 rw [HW.out] at ho
 obtain ⟨qv,cv,rfl,-,-,hc⟩ := ho.form
 rw [show ([104,101,97,114,100] :: [p]:List T).length = 2 from EN.out] at hc ⊢
 obtain ⟨gv,rfl,-,hgl,-⟩ := hc 0 (by omega)
 have KC:Hid (∀ i,i < 2 → w1.cell? ⟨gv,i,none⟩ = some (.string (tx (([104,101,97,114,100] :: [p]:List T).getD i [])))) := fun i hi => by
  obtain ⟨g',e',_,_,c'⟩ := hc i hi
  cases e'
  exact c'
 have B1:Hid (Below w.heap.size w w1) := hb
 have GL:Hid (gv < w1.heap.size) := hgl
 clear ho hb hc hgl
 go_wp2_with fail
 go_loopw [7] (fun y wr => ∃ i:Nat,1 ≤ i ∧ i ≤ 2 ∧ y = .int .i64 (i:Int) ∧ Hid (V2 w1 wr [p] (i - 1))) (fun y _ => 2 - (intOf y).toNat)
 case atStart => exact ⟨1,by omega,by omega,rfl,V2.zero w1 [p]⟩
 case round =>
  obtain ⟨i,h1,hi,rfl,hV⟩ := hrel
  by_cases hlt:(i:Int) < (2:Int)
  ·have ci:wr.cell? ⟨gv,i,none⟩ = some (.string (tx (([p]:List T).getD (i - 1) []))) := by
    have := (hV.out.2.cell (p := ⟨gv,i,none⟩) GL.out).trans (KC.out i (by omega))
    obtain ⟨k,rfl⟩:∃ k,i = k + 1 := ⟨i - 1,by omega⟩
    exact this
   obtain ⟨x,ex⟩:∃ x,x = ([p]:List T).getD (i - 1) [] := ⟨_,rfl⟩
   rw [← ex] at ci
   have EX:Hid (x = ([p]:List T).getD (i - 1) []) := ex
   have fz := World.rowIs.frozen hV.out.1 (i - 1)
   have cz := World.rowIs.cell hV.out.1 (i := i - 1) (by omega)
   have hi2:(i:Int) - 1 < 2 := by omega
   have hi1:(0:Int) ≤ (i:Int) - 1 := by omega
   have hi3:(i:Int) ≤ 3 := by omega
   have HX:Hid (isNum x = true) := by
    show _ = _
    rw [ex]
    exact HA.out (i - 1) (by omega)
   clear ex
   go_wp2_with fail
   refine (number_any (tx x) wr).mono ?_
   rw [bs_tx,HX.out,numI_yes HX.out]
   rintro e w3 ⟨rfl,rfl⟩
   go_wp2
   go_roundw
   case rel =>
    have z := hV.out.next
    rw [← EX.out,show i - 1 + 1 = i + 1 - 1 by omega] at z
    exact ⟨i + 1,by omega,by omega,by go_num,z⟩
   case measure => simp [intOf]; omega
  ·have hin:i = 2 := by omega
   subst hin
   have c0:wr.cell? ⟨gv,0,none⟩ = some (.string (tx [104,101,97,114,100])) := (hV.out.2.cell (p := ⟨gv,0,none⟩) GL.out).trans (KC.out 0 (by omega))
   have e9 := tl [104,101,97,114,100]
   have v0:wr.cell? ⟨w1.heap.size,0,none⟩ = some (.int .i64 (numV p:Int)) := World.rowIs.cell hV.out.1 (i := 0) (by omega)
   have v1:wr.cell? ⟨w1.heap.size,1,none⟩ = some (.int .i64 0) := World.rowIs.cell hV.out.1 (i := 1) (by omega)
   obtain ⟨a0,ea0⟩:∃ a:Nat,a = numV p := ⟨_,rfl⟩
   rw [← ea0] at v0
   have BW:Hid (Below w.heap.size w wr.drew) := (B1.out.trans (hV.out.2.mono B1.out.size)).drew
   have RW:Hid (RG wr.drew base C g d ∧ base ≤ wr.drew.heap.size) := ⟨HR.out.1.later BW.out,Nat.le_trans HR.out.2.1 BW.out.size⟩
   have r1:wr.cell? ⟨C,1,none⟩ = some (.pointer (some ⟨d.Q,0,none⟩)) := RW.out.1.c1.1
   have r4:wr.cell? ⟨C,96,none⟩ = some d.vH := RW.out.1.c96.1
   obtain ⟨qn,cn,eN⟩ := own_form RW.out.1.rn.own
   have n0:wr.cell? ⟨d.Q,0,none⟩ = some (.slice qn g.l.length cn) := by rw [← eN]; exact RW.out.1.rn.all.1
   obtain ⟨qh,ch,eH⟩ := own_form RW.out.1.evs
   rw [eH] at r4
   obtain ⟨ll,ell⟩:∃ ll,ll = g.l.length := ⟨_,rfl⟩
   obtain ⟨lh,elh⟩:∃ lh,lh = g.H.length := ⟨_,rfl⟩
   rw [← ell] at n0
   rw [← elh] at r4
   have EV:Hid (d.vN = .slice qn ll cn ∧ d.vH = .slice qh lh ch ∧ ll = g.l.length ∧ lh = g.H.length) := ⟨by rw [ell]; exact eN,by rw [elh]; exact eH,ell,elh⟩
   have hll:(ll:Int) ≤ 40 := by have := HR.out.2.2.net.len; omega
   have hlh:(lh:Int) ≤ 60 := by have := len60 HR.out.2.2; omega
   clear eN eH ell elh
   have EA:Hid (a0 = numV p) := ea0
   clear ea0
   have v9:V2 w1 wr [p] (2 - 1) := hV.out
   have W1:Hid (w1.heap.size < wr.heap.size) := World.rowIs.lt hV.out.1
   have hlt9:(4:Int) < (a0:Int) := by
    have := HI.out
    have := EA.out
    omega
   clear v9
   go_upto_region 27 with fail
   go_region
   go_wp2_with fail
   refine (name_any 1 (by decide) _).mono ?_
   rintro e w5 ⟨rfl,hb5⟩
   have R5:Hid (CRes w w5 base C g d g d) := (CRes.still HR.out.1 HR.out.2.1 BW.out).later HR.out.2.1 hb5
   clear hb5
   go_wp2
   go_ret
   refine ⟨?_,d,?_⟩
   ·rw [HL.out,HZ.out]
    rfl
   ·rw [HL.out,HZ.out]
    exact R5.out
end Go.Proofs.YtdmniblonikjlakGreatDoor.Run


namespace Go.Proofs.YtdmniblonikjlakGreatDoor.Run
open Go.RowKit
open Fif (own_lt own_block own_form own_mono own_vw)
open Cas (G GI RG CRes sayC say giveC giveW give drop twice setL len60)
open Net (Pk pk isIn)
open His (Ev Ew ev hrd)
open Vec (Vw)
set_option linter.unusedVariables false
variable {w:World} {base C:Nat} {g:G} {d:Cas.Loc}
set_option maxRecDepth 100000 in
set_option maxHeartbeats 8000000 in
theorem line_clock_no (s:ByteArray) (h:RG w base C g d) (hi:GI g) (hbw:base ≤ w.heap.size) (hs:s.size ≤ 3000) {p:T} (hw:cut 32 (bs s) = [99,108,111,99,107] :: [p]) (hp:isNum p = true) (hin:¬ numV p < g.H.length):Calls Tryz.prog 26 #[.pointer (some ⟨C,0,none⟩),.string s] w fun e w' => e = .returned (.string (tx (line g (bs s)).1)) ∧ ∃ d',CRes w w' base C g d (line g (bs s)).2 d' := by
 have HR:Hid (RG w base C g d ∧ base ≤ w.heap.size ∧ GI g) := ⟨h,hbw,hi⟩
 have HW:Hid (cut 32 (bs s) = [99,108,111,99,107] :: [p]) := hw
 have HS:Hid (s.size ≤ 1000000) := by show _ ≤ _; omega
 have EN:Hid (([99,108,111,99,107] :: [p]:List T).length = 2) := rfl
 have HL:Hid (line g (bs s) = act g [99,108,111,99,107] ((numV p:Nat):Int) ((0:Nat):Int)) := line_act hw ⟨by simp,by simp [hp],rfl⟩
 have HA:Hid (∀ k,k < 1 → isNum ([p].getD k []) = true) := fun k hk => by
  rcases k with _ | k
  ·exact hp
  ·omega
 have HZ:Hid (act g [99,108,111,99,107] ((numV p:Nat):Int) ((0:Nat):Int) = (nm 1,g)) := by
  show ((if (g.H.length:Int) ≤ ((numV p:Nat):Int) then nm 1 else row (His.row g.H ((numV p:Nat):Int).toNat)),g) = _
  rw [if_pos (by omega)]
 have HI:Hid (¬ numV p < g.H.length) := hin
 clear hin
 clear h hi hbw hs hw hp
 go_enter Tryz.func26,Tryz.ntmps26
 go_wp2_with fail
 refine (cut_any s 32 HS.out w).mono ?_
 rintro e w1 ⟨v,rfl,ho,hb⟩
 rw [HW.out] at ho
 obtain ⟨qv,cv,rfl,-,-,hc⟩ := ho.form
 rw [show ([99,108,111,99,107] :: [p]:List T).length = 2 from EN.out] at hc ⊢
 obtain ⟨gv,rfl,-,hgl,-⟩ := hc 0 (by omega)
 have KC:Hid (∀ i,i < 2 → w1.cell? ⟨gv,i,none⟩ = some (.string (tx (([99,108,111,99,107] :: [p]:List T).getD i [])))) := fun i hi => by
  obtain ⟨g',e',_,_,c'⟩ := hc i hi
  cases e'
  exact c'
 have B1:Hid (Below w.heap.size w w1) := hb
 have GL:Hid (gv < w1.heap.size) := hgl
 clear ho hb hc hgl
 go_wp2_with fail
 go_loopw [7] (fun y wr => ∃ i:Nat,1 ≤ i ∧ i ≤ 2 ∧ y = .int .i64 (i:Int) ∧ Hid (V2 w1 wr [p] (i - 1))) (fun y _ => 2 - (intOf y).toNat)
 case atStart => exact ⟨1,by omega,by omega,rfl,V2.zero w1 [p]⟩
 case round =>
  obtain ⟨i,h1,hi,rfl,hV⟩ := hrel
  by_cases hlt:(i:Int) < (2:Int)
  ·have ci:wr.cell? ⟨gv,i,none⟩ = some (.string (tx (([p]:List T).getD (i - 1) []))) := by
    have := (hV.out.2.cell (p := ⟨gv,i,none⟩) GL.out).trans (KC.out i (by omega))
    obtain ⟨k,rfl⟩:∃ k,i = k + 1 := ⟨i - 1,by omega⟩
    exact this
   obtain ⟨x,ex⟩:∃ x,x = ([p]:List T).getD (i - 1) [] := ⟨_,rfl⟩
   rw [← ex] at ci
   have EX:Hid (x = ([p]:List T).getD (i - 1) []) := ex
   have fz := World.rowIs.frozen hV.out.1 (i - 1)
   have cz := World.rowIs.cell hV.out.1 (i := i - 1) (by omega)
   have hi2:(i:Int) - 1 < 2 := by omega
   have hi1:(0:Int) ≤ (i:Int) - 1 := by omega
   have hi3:(i:Int) ≤ 3 := by omega
   have HX:Hid (isNum x = true) := by
    show _ = _
    rw [ex]
    exact HA.out (i - 1) (by omega)
   clear ex
   go_wp2_with fail
   refine (number_any (tx x) wr).mono ?_
   rw [bs_tx,HX.out,numI_yes HX.out]
   rintro e w3 ⟨rfl,rfl⟩
   go_wp2
   go_roundw
   case rel =>
    have z := hV.out.next
    rw [← EX.out,show i - 1 + 1 = i + 1 - 1 by omega] at z
    exact ⟨i + 1,by omega,by omega,by go_num,z⟩
   case measure => simp [intOf]; omega
  ·have hin:i = 2 := by omega
   subst hin
   have c0:wr.cell? ⟨gv,0,none⟩ = some (.string (tx [99,108,111,99,107])) := (hV.out.2.cell (p := ⟨gv,0,none⟩) GL.out).trans (KC.out 0 (by omega))
   have e9 := tl [99,108,111,99,107]
   have v0:wr.cell? ⟨w1.heap.size,0,none⟩ = some (.int .i64 (numV p:Int)) := World.rowIs.cell hV.out.1 (i := 0) (by omega)
   have v1:wr.cell? ⟨w1.heap.size,1,none⟩ = some (.int .i64 0) := World.rowIs.cell hV.out.1 (i := 1) (by omega)
   obtain ⟨a0,ea0⟩:∃ a:Nat,a = numV p := ⟨_,rfl⟩
   rw [← ea0] at v0
   have BW:Hid (Below w.heap.size w wr.drew) := (B1.out.trans (hV.out.2.mono B1.out.size)).drew
   have RW:Hid (RG wr.drew base C g d ∧ base ≤ wr.drew.heap.size) := ⟨HR.out.1.later BW.out,Nat.le_trans HR.out.2.1 BW.out.size⟩
   have r1:wr.cell? ⟨C,1,none⟩ = some (.pointer (some ⟨d.Q,0,none⟩)) := RW.out.1.c1.1
   have r4:wr.cell? ⟨C,96,none⟩ = some d.vH := RW.out.1.c96.1
   obtain ⟨qn,cn,eN⟩ := own_form RW.out.1.rn.own
   have n0:wr.cell? ⟨d.Q,0,none⟩ = some (.slice qn g.l.length cn) := by rw [← eN]; exact RW.out.1.rn.all.1
   obtain ⟨qh,ch,eH⟩ := own_form RW.out.1.evs
   rw [eH] at r4
   obtain ⟨ll,ell⟩:∃ ll,ll = g.l.length := ⟨_,rfl⟩
   obtain ⟨lh,elh⟩:∃ lh,lh = g.H.length := ⟨_,rfl⟩
   rw [← ell] at n0
   rw [← elh] at r4
   have EV:Hid (d.vN = .slice qn ll cn ∧ d.vH = .slice qh lh ch ∧ ll = g.l.length ∧ lh = g.H.length) := ⟨by rw [ell]; exact eN,by rw [elh]; exact eH,ell,elh⟩
   have hll:(ll:Int) ≤ 40 := by have := HR.out.2.2.net.len; omega
   have hlh:(lh:Int) ≤ 60 := by have := len60 HR.out.2.2; omega
   clear eN eH ell elh
   have EA:Hid (a0 = numV p) := ea0
   clear ea0
   have v9:V2 w1 wr [p] (2 - 1) := hV.out
   have W1:Hid (w1.heap.size < wr.heap.size) := World.rowIs.lt hV.out.1
   have hlt9:¬ (a0:Int) < (lh:Int) := by
    have := HI.out
    have := EA.out
    have := EV.out.2.2.2
    omega
   clear v9
   go_upto_region 27 with fail
   go_region
   go_upto_region 47 with fail
   go_region
   have BD:Hid (Below w.heap.size w wr.drew.drew) := BW.out.drew
   have RD:Hid (RG wr.drew.drew base C g d ∧ base ≤ wr.drew.drew.heap.size) := ⟨HR.out.1.later BD.out,Nat.le_trans HR.out.2.1 BD.out.size⟩
   go_wp2_with fail
   refine (name_any 1 (by decide) _).mono ?_
   rintro e w5 ⟨rfl,hb5⟩
   have R5:Hid (CRes w w5 base C g d g d) := (CRes.still HR.out.1 HR.out.2.1 BD.out).later HR.out.2.1 hb5
   clear hb5
   go_wp2
   go_ret
   refine ⟨?_,d,?_⟩
   ·rw [HL.out,HZ.out]
    rfl
   ·rw [HL.out,HZ.out]
    exact R5.out
end Go.Proofs.YtdmniblonikjlakGreatDoor.Run
