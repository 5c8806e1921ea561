/-
  Texts put together: RunDh, RunDo, RunDr, RunDs.
-/
import Derived.Test.YtdmniblonikjlakGreatDoorPrU
import Derived.Test.YtdmniblonikjlakGreatDoorPrT
import Derived.Test.YtdmniblonikjlakGreatDoorPrS
import Derived.Test.YtdmniblonikjlakGreatDoorPrF
import Derived.Deep.RegionHeld3


namespace Go.Proofs.YtdmniblonikjlakGreatDoor.Run
open Go.RowKit
open Cas (G GI CA sayC say giveC giveW give drop twice hear len60 faces_ok sayC_any giveC_any dropC_any twiceC_any onwayC_any histC_any give_gi)
open Net (Pk pk isIn Po KpL NewL errF dropC twC)
open His (Ev Ew ev hrd chkC row row_bd fifoB causB totB errV hdC hdL hdC_out hdC_ok hdL_ok hdL_no heard_any of_ok)
open As (Laid)
open Vec (Vw)
open Fif (own_lt own_block own_form own_mono own_vw)
set_option linter.unusedVariables false
theorem hrd_sm {h:List Ev} (hg:His.Good h h.length) (who:Int):(hrd h who).length ≤ h.length ∧ ∀ i,i < (hrd h who).length → 0 ≤ (hrd h who).getD i 0 ∧ (hrd h who).getD i 0 ≤ 9999 := by
 refine ⟨by unfold hrd; rw [List.length_map]; exact List.length_filter_le _ _,fun i hi => ?_⟩
 have hm := getD_mem hi
 unfold hrd at hm
 obtain ⟨e,he,e1⟩ := List.mem_map.1 hm
 have := good_word hg ((List.mem_filter.1 he).1)
 unfold hrd
 rw [← e1]
 omega
theorem giveW_sm {g:G} (hi:GI g) (i:Int):(giveW g i).length ≤ 60 ∧ ∀ k,k < (giveW g i).length → 0 ≤ (giveW g i).getD k 0 ∧ (giveW g i).getD k 0 ≤ 9999 := by
 cases h:isIn g.l i with
 | false =>
  have e:giveW g i = [] := by unfold giveW; rw [if_neg (by rw [h]; decide)]
  rw [e]
  exact ⟨by simp,fun k hk => absurd hk (by simp)⟩
 | true =>
  have hg := give_gi hi i
  have h60 := len60 hg
  rw [give_H h,List.length_append] at h60
  have hl:(hear (pk g.l i.toNat).2.1 (giveW g i)).length = (giveW g i).length := by simp [hear]
  refine ⟨by omega,fun k hk => ?_⟩
  have hm:((pk g.l i.toNat).2.1,3,(giveW g i).getD k 0) ∈ (give g i).H := by
   rw [give_H h]
   refine List.mem_append_right _ ?_
   unfold hear
   exact List.mem_map.2 ⟨_,getD_mem hk,rfl⟩
  have := good_word hg.i0.good hm
  simp only at this
  omega
theorem row_sm {g:G} (hi:GI g) {i:Nat} (h:i < g.H.length):∀ k,k < 5 → 0 ≤ (His.row g.H i).getD k 0 ∧ (His.row g.H i).getD k 0 ≤ 9999 := by
 intro k hk
 have := row_bd hi.i0.good h k
 have := len60 hi
 omega
theorem way_sm {g:G} (hi:GI g):∀ i,i < g.l.length → (0 ≤ (pk g.l i).1 ∧ (pk g.l i).1 ≤ 9999) ∧ (0 ≤ (pk g.l i).2.1 ∧ (pk g.l i).2.1 ≤ 9999) ∧ (0 ≤ (pk g.l i).2.2 ∧ (pk g.l i).2.2 ≤ 9999) := by
 intro i h
 have hm:pk g.l i ∈ g.l := by
  unfold Net.pk
  rw [List.getD,List.getElem?_eq_getElem h]
  exact List.getElem_mem h
 have := Net.pkBad_no (hi.net.ok _ hm).1
 omega
def Fi (base:Nat) (w:World):Prop := ∃ w0,Fit w0 ∧ w0.heap.size ≤ base ∧ Below w0.heap.size w0 w
theorem Fi.fit {base:Nat} {w:World} (h:Fi base w):Fit w := by
 obtain ⟨w0,h0,-,hb⟩ := h
 exact h0.later hb
theorem Fi.later {base:Nat} {w w':World} (h:Fi base w) (hb:Below base w w'):Fi base w' := by
 obtain ⟨w0,h0,hs,hb0⟩ := h
 exact ⟨w0,h0,hs,hb0.trans (hb.mono hs)⟩
theorem wd_eq (l k:T):((tx l).toList == k) = decide (l = k) := by
 rw [Lib.toList_data]
 show (bs (tx l) == k) = _
 rw [bs_tx]
 by_cases h:l = k
 ·rw [h]; simp
 ·simp [h]
theorem cast_zero {g:G} (h:GI g):chkC g.H = 0 := (His.chk_ok (len60 h) (faces_ok h).1).1
def Dn (t:T) (ans:ByteArray) (err:Value):Prop := (err = .nilIface ∧ ans = tx t) ∨ (∃ c:Int,(1 ≤ c ∧ c ≤ 8) ∧ err = .iface 70 (.int .i64 c) ∧ t = nm c) ∨ (err = lineE ∧ t = bad)
structure Bx (w W:World) (P M:Nat) (a b:Int):Prop where
 bel:Below w.heap.size w W
 d0:W.cell? ⟨w.heap.size,0,none⟩ = some (.pointer (some ⟨P,0,none⟩))
 n0:W.cell? ⟨w.heap.size + 1,0,none⟩ = some (.int .i64 a)
 n1:W.cell? ⟨w.heap.size + 1,1,none⟩ = some (.int .i64 b)
 size:W.heap.size = w.heap.size + 2
theorem Bx.of (w:World) (P M:Nat) (a b:Int):Bx w ((w.alloc (.cells #[.pointer (some ⟨P,0,none⟩),.map (some M)] 108)).alloc (.cells #[.int .i64 a,.int .i64 b] 185)) P M a b := by
 refine ⟨((Below.refl _ _).alloc (Nat.le_refl _) _).alloc (by simp) _,?_,?_,?_,by simp⟩
 ·rw [World.cell?_alloc_lt _ _ ⟨w.heap.size,0,none⟩ (by simp)]; simp
 ·rw [World.cell?_alloc_at _ _ _ _ (by simp)]; rfl
 ·rw [World.cell?_alloc_at _ _ _ _ (by simp)]; rfl
theorem Bx.cells {w W X:World} {P M:Nat} {a b:Int} (h:Bx w W P M a b) (hb:Below W.heap.size W X):X.cell? ⟨w.heap.size,0,none⟩ = some (.pointer (some ⟨P,0,none⟩)) ∧ X.cell? ⟨w.heap.size + 1,0,none⟩ = some (.int .i64 a) := by
 have hs := h.size
 exact ⟨(hb.cell (p := ⟨w.heap.size,0,none⟩) (by show w.heap.size < _; omega)).trans h.d0,(hb.cell (p := ⟨w.heap.size + 1,0,none⟩) (by show w.heap.size + 1 < _; omega)).trans h.n0⟩
structure Do (w w':World) (base P M:Nat) (g':G) (fp fp':List Nat):Prop where
 ds:DS w' base P M g' fp'
 bel:Below base w w'
 kp:KpL w w' fp
 new:NewL w fp fp'
theorem Do.turn {w W0 w1 w2:World} {base P M:Nat} {g g':G} {fp fp':List Nat} (h:DS w base P M g fp) (hb0:Below w.heap.size w W0) (hbw:base ≤ w.heap.size) (ca:CA w1 base P g' fp') (gi:GI g') (n3:g'.n = 3) (bel:Below base W0 w1) (kp:KpL W0 w1 fp) (new:NewL W0 fp fp') (hb2:Below w1.heap.size w1 w2):Do w w2 base P M g' fp fp' := by
 have hm := h.wm.lt
 have hmfp:M ∉ fp' := fun q => by
  rcases new M q with z | z
  ·exact h.out z
  ·have := hb0.size; omega
 have hs0 := hb0.size
 have hs1 := kp.1
 refine ⟨⟨ca.of_blocks hb2.size fun b q => hb2.block b (ca.fp b q).2,gi,n3,h.wm.keep ?_,h.mlo,hmfp⟩,(hb0.mono hbw).trans (bel.trans (hb2.mono (by omega))),⟨by have := hb2.size; omega,fun b hb hn => ?_⟩,fun b q => ?_⟩
 ·rw [hb2.block _ (by omega),kp.2 _ (by omega) h.out,hb0.block _ hm]
 ·rw [hb2.block _ (by omega),kp.2 _ (by omega) hn,hb0.block _ hb]
 ·rcases new b q with z | z
  ·exact .inl z
  ·exact .inr (by omega)
theorem Do.still {w w2:World} {base P M:Nat} {g:G} {fp:List Nat} (h:DS w base P M g fp) (hb:Below w.heap.size w w2) (hbw:base ≤ w.heap.size):Do w w2 base P M g fp fp :=
 ⟨⟨h.ca.of_blocks hb.size fun b q => hb.block b (h.ca.fp b q).2,h.gi,h.n3,h.wm.keep (hb.block _ h.wm.lt),h.mlo,h.out⟩,hb.mono hbw,⟨hb.size,fun b hl _ => hb.block b hl⟩,fun b q => .inl q⟩
end Go.Proofs.YtdmniblonikjlakGreatDoor.Run


namespace Go.Proofs.YtdmniblonikjlakGreatDoor.Run
open Go.RowKit
open Cas (G GI CA sayC say giveC giveW give drop twice hear len60 faces_ok sayC_any giveC_any dropC_any twiceC_any onwayC_any histC_any give_gi say_gi drop_gi twice_gi)
open Net (Pk pk isIn Po KpL NewL errF dropC twC)
open His (Ev Ew ev hrd chkC row_bd fifoB causB totB errV hdC hdL hdC_out hdC_ok hdL_ok hdL_no heard_any of_ok)
open As (Laid)
open Vec (Vw)
open Fif (own_lt own_block own_form own_mono own_vw)
set_option linter.unusedVariables false
theorem act_n3 {g:G} (hi:GI g) (h3:g.n = 3) (w:T) (a b:Int):GI (act g w a b).2 ∧ (act g w a b).2.n = 3 := ⟨(act_gi hi w a b).1,(act_gi hi w a b).2.trans h3⟩
set_option maxRecDepth 100000 in
set_option maxHeartbeats 2000000 in
theorem do_say {w:World} {base P M:Nat} {g:G} {fp:List Nat} (a b:Nat) (h:DS w base P M g fp) (hbw:base ≤ w.heap.size) (hF:Fi base w):Calls Tryz.prog 102 #[.agg #[.pointer (some ⟨P,0,none⟩),.map (some M)],.string (tx [115,97,121]),.agg #[.int .i64 (a:Int),.int .i64 (b:Int)]] w fun e w' => ∃ ans err fp',e = .returned (.tuple #[.string ans,err]) ∧ Dn (act g [115,97,121] (a:Int) (b:Int)).1 ans err ∧ Do w w' base P M (act g [115,97,121] (a:Int) (b:Int)).2 fp fp' := by
 have HD:Hid (DS w base P M g fp ∧ base ≤ w.heap.size ∧ Fi base w) := ⟨h,hbw,hF⟩
 have EA:Hid (act g [115,97,121] (a:Int) (b:Int) = (done (sayC g (a:Int) (b:Int)),say g (a:Int) (b:Int))) := rfl
 have GA := act_n3 h.gi h.n3 [115,97,121] (a:Int) (b:Int)
 rw [EA.out] at GA ⊢
 have HG:Hid (GI (say g (a:Int) (b:Int)) ∧ (say g (a:Int) (b:Int)).n = 3) := GA
 clear GA
 obtain ⟨s,es⟩:∃ s,s = tx [115,97,121] := ⟨_,rfl⟩
 have qsay:(s.toList == [115,97,121]) = true := by rw [es]; exact (wd_eq _ _).trans (by decide)
 rw [← es]
 obtain ⟨W0,eW⟩:∃ W,W = (w.alloc (.cells #[.pointer (some ⟨P,0,none⟩),.map (some M)] 108)).alloc (.cells #[.int .i64 (a:Int),.int .i64 (b:Int)] 185) := ⟨_,rfl⟩
 have X0:Hid (Bx w W0 P M (a:Int) (b:Int)) := by rw [eW]; exact Bx.of w P M _ _
 have F0:Hid (Fi base W0) := hF.later (X0.out.bel.mono hbw)
 have C0:Hid (CA W0 base P g fp ∧ base ≤ W0.heap.size) := ⟨h.ca.of_blocks X0.out.bel.size fun b q => X0.out.bel.block b (h.ca.fp b q).2,Nat.le_trans hbw X0.out.bel.size⟩
 clear es h hbw hF
 go_enter Tryz.func102,Tryz.ntmps102
 go_wp2_with fail
 rw [← eW]
 clear eW
 refine (sayC_any base P g fp (a:Int) (b:Int) W0 C0.out.1 HD.out.1.gi C0.out.2 F0.out.fit.laid).mono ?_
 rintro e w1 ⟨fp',rfl,hca,hb,hkp,hnw⟩
 have K1:Hid (CA w1 base P (say g (a:Int) (b:Int)) fp' ∧ Below base W0 w1 ∧ KpL W0 w1 fp ∧ NewL W0 fp fp') := ⟨hca,hb,hkp,hnw⟩
 have RG9:Hid (0 ≤ sayC g (a:Int) (b:Int) ∧ sayC g (a:Int) (b:Int) ≤ 8) := sayC_range g _ _
 clear hca hb hkp hnw
 by_cases hc:sayC g (a:Int) (b:Int) = 0
 ·have EC:Hid (done (sayC g (a:Int) (b:Int)) = okT) := by show done _ = _; rw [hc]; rfl
  rw [show errF (sayC g (a:Int) (b:Int)) = .nilIface from if_pos hc]
  clear hc
  go_wp2_with fail
  refine (taken_ok w1).mono ?_
  rintro e w2 ⟨rfl,rfl⟩
  go_wp2
  go_ret2
  exact ⟨_,_,fp',rfl,.inl ⟨rfl,by show _ = tx (done _); rw [EC.out]; rfl⟩,Do.turn HD.out.1 X0.out.bel HD.out.2.1 K1.out.1 HG.out.1 HG.out.2 K1.out.2.1 K1.out.2.2.1 K1.out.2.2.2 (Below.refl _ _)⟩
 ·have EC:Hid (done (sayC g (a:Int) (b:Int)) = nm (sayC g (a:Int) (b:Int))) := if_pos hc
  have HC:Hid (1 ≤ sayC g (a:Int) (b:Int) ∧ sayC g (a:Int) (b:Int) ≤ 8) := ⟨by have := RG9.out; omega,RG9.out.2⟩
  rw [show errF (sayC g (a:Int) (b:Int)) = .iface 70 (.int .i64 (sayC g (a:Int) (b:Int))) from if_neg hc]
  clear hc
  go_wp2_with fail
  refine (taken_no _ w1).mono ?_
  rintro e w2 ⟨rfl,rfl⟩
  go_wp2
  go_ret2
  exact ⟨_,_,fp',rfl,.inr (.inl ⟨_,HC.out,rfl,EC.out⟩),Do.turn HD.out.1 X0.out.bel HD.out.2.1 K1.out.1 HG.out.1 HG.out.2 K1.out.2.1 K1.out.2.2.1 K1.out.2.2.2 (Below.refl _ _)⟩
set_option maxRecDepth 100000 in
set_option maxHeartbeats 2000000 in
theorem do_drop {w:World} {base P M:Nat} {g:G} {fp:List Nat} (a b:Nat) (h:DS w base P M g fp) (hbw:base ≤ w.heap.size) (hF:Fi base w):Calls Tryz.prog 102 #[.agg #[.pointer (some ⟨P,0,none⟩),.map (some M)],.string (tx [100,114,111,112]),.agg #[.int .i64 (a:Int),.int .i64 (b:Int)]] w fun e w' => ∃ ans err fp',e = .returned (.tuple #[.string ans,err]) ∧ Dn (act g [100,114,111,112] (a:Int) (b:Int)).1 ans err ∧ Do w w' base P M (act g [100,114,111,112] (a:Int) (b:Int)).2 fp fp' := by
 have HD:Hid (DS w base P M g fp ∧ base ≤ w.heap.size ∧ Fi base w) := ⟨h,hbw,hF⟩
 have EA:Hid (act g [100,114,111,112] (a:Int) (b:Int) = (done (dropC g.l (a:Int)),drop g (a:Int))) := rfl
 have GA := act_n3 h.gi h.n3 [100,114,111,112] (a:Int) (b:Int)
 rw [EA.out] at GA ⊢
 have HG:Hid (GI (drop g (a:Int)) ∧ (drop g (a:Int)).n = 3) := GA
 clear GA
 obtain ⟨s,es⟩:∃ s,s = tx [100,114,111,112] := ⟨_,rfl⟩
 have qsay:(s.toList == [115,97,121]) = false := by rw [es]; exact (wd_eq _ _).trans (by decide)
 have qgive:(s.toList == [103,105,118,101]) = false := by rw [es]; exact (wd_eq _ _).trans (by decide)
 have qdrop:(s.toList == [100,114,111,112]) = true := by rw [es]; exact (wd_eq _ _).trans (by decide)
 rw [← es]
 obtain ⟨W0,eW⟩:∃ W,W = (w.alloc (.cells #[.pointer (some ⟨P,0,none⟩),.map (some M)] 108)).alloc (.cells #[.int .i64 (a:Int),.int .i64 (b:Int)] 185) := ⟨_,rfl⟩
 have X0:Hid (Bx w W0 P M (a:Int) (b:Int)) := by rw [eW]; exact Bx.of w P M _ _
 have F0:Hid (Fi base W0) := hF.later (X0.out.bel.mono hbw)
 have C0:Hid (CA W0 base P g fp ∧ base ≤ W0.heap.size) := ⟨h.ca.of_blocks X0.out.bel.size fun b q => X0.out.bel.block b (h.ca.fp b q).2,Nat.le_trans hbw X0.out.bel.size⟩
 clear es h hbw hF
 go_enter Tryz.func102,Tryz.ntmps102
 go_wp2_with fail
 rw [← eW]
 clear eW
 refine (dropC_any base P g fp (a:Int) W0 C0.out.1 HD.out.1.gi C0.out.2 F0.out.fit.laid).mono ?_
 rintro e w1 ⟨fp',rfl,hca,hb,hkp,hnw⟩
 have K1:Hid (CA w1 base P (drop g (a:Int)) fp' ∧ Below base W0 w1 ∧ KpL W0 w1 fp ∧ NewL W0 fp fp') := ⟨hca,hb,hkp,hnw⟩
 have RG9:Hid (0 ≤ dropC g.l (a:Int) ∧ dropC g.l (a:Int) ≤ 8) := by show 0 ≤ dropC g.l (a:Int) ∧ dropC g.l (a:Int) ≤ 8; unfold dropC; split <;> omega
 clear hca hb hkp hnw
 by_cases hc:dropC g.l (a:Int) = 0
 ·have EC:Hid (done (dropC g.l (a:Int)) = okT) := by show done _ = _; rw [hc]; rfl
  rw [show errF (dropC g.l (a:Int)) = .nilIface from if_pos hc]
  clear hc
  go_wp2_with fail
  refine (taken_ok w1).mono ?_
  rintro e w2 ⟨rfl,rfl⟩
  go_wp2
  go_ret2
  exact ⟨_,_,fp',rfl,.inl ⟨rfl,by show _ = tx (done _); rw [EC.out]; rfl⟩,Do.turn HD.out.1 X0.out.bel HD.out.2.1 K1.out.1 HG.out.1 HG.out.2 K1.out.2.1 K1.out.2.2.1 K1.out.2.2.2 (Below.refl _ _)⟩
 ·have EC:Hid (done (dropC g.l (a:Int)) = nm (dropC g.l (a:Int))) := if_pos hc
  have HC:Hid (1 ≤ dropC g.l (a:Int) ∧ dropC g.l (a:Int) ≤ 8) := ⟨by have := RG9.out; omega,RG9.out.2⟩
  rw [show errF (dropC g.l (a:Int)) = .iface 70 (.int .i64 (dropC g.l (a:Int))) from if_neg hc]
  clear hc
  go_wp2_with fail
  refine (taken_no _ w1).mono ?_
  rintro e w2 ⟨rfl,rfl⟩
  go_wp2
  go_ret2
  exact ⟨_,_,fp',rfl,.inr (.inl ⟨_,HC.out,rfl,EC.out⟩),Do.turn HD.out.1 X0.out.bel HD.out.2.1 K1.out.1 HG.out.1 HG.out.2 K1.out.2.1 K1.out.2.2.1 K1.out.2.2.2 (Below.refl _ _)⟩
set_option maxRecDepth 100000 in
set_option maxHeartbeats 2000000 in
theorem do_twice {w:World} {base P M:Nat} {g:G} {fp:List Nat} (a b:Nat) (h:DS w base P M g fp) (hbw:base ≤ w.heap.size) (hF:Fi base w):Calls Tryz.prog 102 #[.agg #[.pointer (some ⟨P,0,none⟩),.map (some M)],.string (tx [116,119,105,99,101]),.agg #[.int .i64 (a:Int),.int .i64 (b:Int)]] w fun e w' => ∃ ans err fp',e = .returned (.tuple #[.string ans,err]) ∧ Dn (act g [116,119,105,99,101] (a:Int) (b:Int)).1 ans err ∧ Do w w' base P M (act g [116,119,105,99,101] (a:Int) (b:Int)).2 fp fp' := by
 have HD:Hid (DS w base P M g fp ∧ base ≤ w.heap.size ∧ Fi base w) := ⟨h,hbw,hF⟩
 have EA:Hid (act g [116,119,105,99,101] (a:Int) (b:Int) = (done (twC g.l (a:Int)),twice g (a:Int))) := rfl
 have GA := act_n3 h.gi h.n3 [116,119,105,99,101] (a:Int) (b:Int)
 rw [EA.out] at GA ⊢
 have HG:Hid (GI (twice g (a:Int)) ∧ (twice g (a:Int)).n = 3) := GA
 clear GA
 obtain ⟨s,es⟩:∃ s,s = tx [116,119,105,99,101] := ⟨_,rfl⟩
 have qsay:(s.toList == [115,97,121]) = false := by rw [es]; exact (wd_eq _ _).trans (by decide)
 have qgive:(s.toList == [103,105,118,101]) = false := by rw [es]; exact (wd_eq _ _).trans (by decide)
 have qdrop:(s.toList == [100,114,111,112]) = false := by rw [es]; exact (wd_eq _ _).trans (by decide)
 have qtwice:(s.toList == [116,119,105,99,101]) = true := by rw [es]; exact (wd_eq _ _).trans (by decide)
 rw [← es]
 obtain ⟨W0,eW⟩:∃ W,W = (w.alloc (.cells #[.pointer (some ⟨P,0,none⟩),.map (some M)] 108)).alloc (.cells #[.int .i64 (a:Int),.int .i64 (b:Int)] 185) := ⟨_,rfl⟩
 have X0:Hid (Bx w W0 P M (a:Int) (b:Int)) := by rw [eW]; exact Bx.of w P M _ _
 have F0:Hid (Fi base W0) := hF.later (X0.out.bel.mono hbw)
 have C0:Hid (CA W0 base P g fp ∧ base ≤ W0.heap.size) := ⟨h.ca.of_blocks X0.out.bel.size fun b q => X0.out.bel.block b (h.ca.fp b q).2,Nat.le_trans hbw X0.out.bel.size⟩
 clear es h hbw hF
 go_enter Tryz.func102,Tryz.ntmps102
 go_wp2_with fail
 rw [← eW]
 clear eW
 refine (twiceC_any base P g fp (a:Int) W0 C0.out.1 HD.out.1.gi C0.out.2 F0.out.fit.laid).mono ?_
 rintro e w1 ⟨fp',rfl,hca,hb,hkp,hnw⟩
 have K1:Hid (CA w1 base P (twice g (a:Int)) fp' ∧ Below base W0 w1 ∧ KpL W0 w1 fp ∧ NewL W0 fp fp') := ⟨hca,hb,hkp,hnw⟩
 have RG9:Hid (0 ≤ twC g.l (a:Int) ∧ twC g.l (a:Int) ≤ 8) := by show 0 ≤ twC g.l (a:Int) ∧ twC g.l (a:Int) ≤ 8; unfold twC; repeat' split; all_goals first | omega | exact sendC_range _ _
 clear hca hb hkp hnw
 by_cases hc:twC g.l (a:Int) = 0
 ·have EC:Hid (done (twC g.l (a:Int)) = okT) := by show done _ = _; rw [hc]; rfl
  rw [show errF (twC g.l (a:Int)) = .nilIface from if_pos hc]
  clear hc
  go_wp2_with fail
  refine (taken_ok w1).mono ?_
  rintro e w2 ⟨rfl,rfl⟩
  go_wp2
  go_ret2
  exact ⟨_,_,fp',rfl,.inl ⟨rfl,by show _ = tx (done _); rw [EC.out]; rfl⟩,Do.turn HD.out.1 X0.out.bel HD.out.2.1 K1.out.1 HG.out.1 HG.out.2 K1.out.2.1 K1.out.2.2.1 K1.out.2.2.2 (Below.refl _ _)⟩
 ·have EC:Hid (done (twC g.l (a:Int)) = nm (twC g.l (a:Int))) := if_pos hc
  have HC:Hid (1 ≤ twC g.l (a:Int) ∧ twC g.l (a:Int) ≤ 8) := ⟨by have := RG9.out; omega,RG9.out.2⟩
  rw [show errF (twC g.l (a:Int)) = .iface 70 (.int .i64 (twC g.l (a:Int))) from if_neg hc]
  clear hc
  go_wp2_with fail
  refine (taken_no _ w1).mono ?_
  rintro e w2 ⟨rfl,rfl⟩
  go_wp2
  go_ret2
  exact ⟨_,_,fp',rfl,.inr (.inl ⟨_,HC.out,rfl,EC.out⟩),Do.turn HD.out.1 X0.out.bel HD.out.2.1 K1.out.1 HG.out.1 HG.out.2 K1.out.2.1 K1.out.2.2.1 K1.out.2.2.2 (Below.refl _ _)⟩
end Go.Proofs.YtdmniblonikjlakGreatDoor.Run


namespace Go.Proofs.YtdmniblonikjlakGreatDoor.Run
open Go.RowKit
open Cas (G GI CA sayC say giveC giveW give drop twice hear len60 faces_ok sayC_any giveC_any dropC_any twiceC_any onwayC_any histC_any give_gi say_gi drop_gi twice_gi)
open Net (Pk pk isIn Po KpL NewL errF dropC twC)
open His (Ev Ew ev hrd chkC row_bd fifoB causB totB errV hdC hdL hdC_out hdC_ok hdL_ok hdL_no heard_any of_ok)
open As (Laid)
open Vec (Vw)
open Fif (own_lt own_block own_form own_mono own_vw)
set_option linter.unusedVariables false
set_option maxRecDepth 100000 in
set_option maxHeartbeats 2000000 in
theorem do_give {w:World} {base P M:Nat} {g:G} {fp:List Nat} (a b:Nat) (h:DS w base P M g fp) (hbw:base ≤ w.heap.size) (hF:Fi base w):Calls Tryz.prog 102 #[.agg #[.pointer (some ⟨P,0,none⟩),.map (some M)],.string (tx [103,105,118,101]),.agg #[.int .i64 (a:Int),.int .i64 (b:Int)]] w fun e w' => ∃ ans err fp',e = .returned (.tuple #[.string ans,err]) ∧ Dn (act g [103,105,118,101] (a:Int) (b:Int)).1 ans err ∧ Do w w' base P M (act g [103,105,118,101] (a:Int) (b:Int)).2 fp fp' := by
 have HD:Hid (DS w base P M g fp ∧ base ≤ w.heap.size ∧ Fi base w) := ⟨h,hbw,hF⟩
 have EA:Hid (act g [103,105,118,101] (a:Int) (b:Int) = (told (giveW g (a:Int)) (giveC g (a:Int)),give g (a:Int))) := rfl
 have GA := act_n3 h.gi h.n3 [103,105,118,101] (a:Int) (b:Int)
 rw [EA.out] at GA ⊢
 have HG:Hid (GI (give g (a:Int)) ∧ (give g (a:Int)).n = 3) := GA
 clear GA
 obtain ⟨s,es⟩:∃ s,s = tx [103,105,118,101] := ⟨_,rfl⟩
 have qsay:(s.toList == [115,97,121]) = false := by rw [es]; exact (wd_eq _ _).trans (by decide)
 have qgive:(s.toList == [103,105,118,101]) = true := by rw [es]; exact (wd_eq _ _).trans (by decide)
 rw [← es]
 obtain ⟨W0,eW⟩:∃ W,W = (w.alloc (.cells #[.pointer (some ⟨P,0,none⟩),.map (some M)] 108)).alloc (.cells #[.int .i64 (a:Int),.int .i64 (b:Int)] 185) := ⟨_,rfl⟩
 have X0:Hid (Bx w W0 P M (a:Int) (b:Int)) := by rw [eW]; exact Bx.of w P M _ _
 have F0:Hid (Fi base W0) := hF.later (X0.out.bel.mono hbw)
 have C0:Hid (CA W0 base P g fp ∧ base ≤ W0.heap.size) := ⟨h.ca.of_blocks X0.out.bel.size fun b q => X0.out.bel.block b (h.ca.fp b q).2,Nat.le_trans hbw X0.out.bel.size⟩
 clear es h hbw hF
 go_enter Tryz.func102,Tryz.ntmps102
 go_wp2_with fail
 rw [← eW]
 clear eW
 refine (giveC_any base P g fp (a:Int) W0 C0.out.1 HD.out.1.gi C0.out.2 F0.out.fit.laid).mono ?_
 rintro e w1 ⟨fp',vo,rfl,hca,ho,hb,hkp,hnw,-⟩
 have K1:Hid (CA w1 base P (give g (a:Int)) fp' ∧ Below base W0 w1 ∧ KpL W0 w1 fp ∧ NewL W0 fp fp') := ⟨hca,hb,hkp,hnw⟩
 have F1:Hid (Fit w1) := (F0.out.later hb).fit
 obtain ⟨q,c,rfl,hvw⟩ := own_vw ho
 obtain ⟨n,en⟩:∃ n,n = (giveW g (a:Int)).length := ⟨_,rfl⟩
 rw [← en] at hvw ⊢
 have V1:Hid (Vw w1 q n (giveW g (a:Int)) ∧ n ≤ 60 ∧ ∀ k,k < n → 0 ≤ (giveW g (a:Int)).getD k 0 ∧ (giveW g (a:Int)).getD k 0 ≤ 9999) := ⟨hvw,by rw [en]; exact (giveW_sm HD.out.1.gi _).1,by rw [en]; exact (giveW_sm HD.out.1.gi _).2⟩
 clear hca hb hkp hnw ho hvw en
 by_cases hc:giveC g (a:Int) = 0
 ·have EC:Hid (told (giveW g (a:Int)) (giveC g (a:Int)) = row (giveW g (a:Int))) := if_neg (fun e => e hc)
  rw [show errF (giveC g (a:Int)) = .nilIface from if_pos hc]
  clear hc
  go_wp2_with fail
  refine (listed_ok q n c (giveW g (a:Int)) w1 F1.out V1.out.1 V1.out.2.1 V1.out.2.2).mono ?_
  rintro e w2 ⟨rfl,hb⟩
  have B2:Hid (Below w1.heap.size w1 w2) := hb
  clear hb
  go_wp2
  go_ret2
  exact ⟨_,_,fp',rfl,.inl ⟨rfl,by show _ = tx (told _ _); rw [EC.out]⟩,Do.turn HD.out.1 X0.out.bel HD.out.2.1 K1.out.1 HG.out.1 HG.out.2 K1.out.2.1 K1.out.2.2.1 K1.out.2.2.2 B2.out⟩
 ·have EC:Hid (told (giveW g (a:Int)) (giveC g (a:Int)) = nm (giveC g (a:Int))) := if_pos hc
  have HC:Hid (1 ≤ giveC g (a:Int) ∧ giveC g (a:Int) ≤ 8) := ⟨by have := giveC_range g (a:Int); omega,(giveC_range g _).2⟩
  rw [show errF (giveC g (a:Int)) = .iface 70 (.int .i64 (giveC g (a:Int))) from if_neg hc]
  clear hc
  go_wp2_with fail
  refine (listed_no _ _ w1).mono ?_
  rintro e w2 ⟨rfl,rfl⟩
  go_wp2
  go_ret2
  exact ⟨_,_,fp',rfl,.inr (.inl ⟨_,HC.out,rfl,EC.out⟩),Do.turn HD.out.1 X0.out.bel HD.out.2.1 K1.out.1 HG.out.1 HG.out.2 K1.out.2.1 K1.out.2.2.1 K1.out.2.2.2 (Below.refl _ _)⟩
set_option maxRecDepth 100000 in
set_option maxHeartbeats 2000000 in
theorem do_way {w:World} {base P M:Nat} {g:G} {fp:List Nat} (a b:Nat) (h:DS w base P M g fp) (hbw:base ≤ w.heap.size) (hF:Fi base w):Calls Tryz.prog 102 #[.agg #[.pointer (some ⟨P,0,none⟩),.map (some M)],.string (tx [119,97,121]),.agg #[.int .i64 (a:Int),.int .i64 (b:Int)]] w fun e w' => ∃ ans err fp',e = .returned (.tuple #[.string ans,err]) ∧ Dn (act g [119,97,121] (a:Int) (b:Int)).1 ans err ∧ Do w w' base P M (act g [119,97,121] (a:Int) (b:Int)).2 fp fp' := by
 have HD:Hid (DS w base P M g fp ∧ base ≤ w.heap.size ∧ Fi base w) := ⟨h,hbw,hF⟩
 have EA:Hid (act g [119,97,121] (a:Int) (b:Int) = (way g.l,g)) := rfl
 rw [EA.out]
 obtain ⟨s,es⟩:∃ s,s = tx [119,97,121] := ⟨_,rfl⟩
 have qsay:(s.toList == [115,97,121]) = false := by rw [es]; exact (wd_eq _ _).trans (by decide)
 have qgive:(s.toList == [103,105,118,101]) = false := by rw [es]; exact (wd_eq _ _).trans (by decide)
 have qdrop:(s.toList == [100,114,111,112]) = false := by rw [es]; exact (wd_eq _ _).trans (by decide)
 have qtwice:(s.toList == [116,119,105,99,101]) = false := by rw [es]; exact (wd_eq _ _).trans (by decide)
 have qway:(s.toList == [119,97,121]) = true := by rw [es]; exact (wd_eq _ _).trans (by decide)
 rw [← es]
 obtain ⟨W0,eW⟩:∃ W,W = (w.alloc (.cells #[.pointer (some ⟨P,0,none⟩),.map (some M)] 108)).alloc (.cells #[.int .i64 (a:Int),.int .i64 (b:Int)] 185) := ⟨_,rfl⟩
 have X0:Hid (Bx w W0 P M (a:Int) (b:Int)) := by rw [eW]; exact Bx.of w P M _ _
 have F0:Hid (Fi base W0) := hF.later (X0.out.bel.mono hbw)
 have C0:Hid (CA W0 base P g fp ∧ base ≤ W0.heap.size) := ⟨h.ca.of_blocks X0.out.bel.size fun b q => X0.out.bel.block b (h.ca.fp b q).2,Nat.le_trans hbw X0.out.bel.size⟩
 clear es h hbw hF
 go_enter Tryz.func102,Tryz.ntmps102
 go_wp2_with fail
 rw [← eW]
 clear eW
 refine (onwayC_any base P g fp W0 C0.out.1 HD.out.1.gi).mono ?_
 rintro e w1 ⟨v,rfl,hp,hb⟩
 have B1:Hid (Below W0.heap.size W0 w1) := hb
 obtain ⟨q,c,rfl⟩ := own_form hp
 obtain ⟨n,en⟩:∃ n,n = g.l.length := ⟨_,rfl⟩
 rw [← en]
 have V1:Hid (P3 w1 q n g.l ∧ n = g.l.length) := ⟨pk_seen (by rw [en]; exact hp) en,en⟩
 clear hp hb en
 go_wp2_with fail
 refine (packets_any q n c g.l w1 (F0.out.fit.later B1.out) V1.out.1 (by rw [V1.out.2]; exact Nat.le_trans HD.out.1.gi.net.len (by decide)) (by rw [V1.out.2]; exact way_sm HD.out.1.gi)).mono ?_
 rintro e w2 ⟨v2,rfl,ho,hb⟩
 have B2:Hid (Below w1.heap.size w1 w2) := hb
 have HO:Hid (So w2 w1.heap.size v2 (g.l.map pkT)) := ho
 have HJ:Hid ((join (g.l.map pkT)).length ≤ 1000000000 ∧ (∀ x ∈ g.l.map pkT,x ≠ []) ∧ (g.l.map pkT).length ≤ 60) := by
  have h40 := HD.out.1.gi.net.len
  refine ⟨?_,fun x hx => ?_,by rw [List.length_map]; omega⟩
  ·have h := join_len 3000010 (g.l.map pkT) (by
    intro x hx
    obtain ⟨y,hy,rfl⟩ := List.mem_map.1 hx
    obtain ⟨i,hi',rfl⟩ := List.getElem_of_mem hy
    have z := way_sm HD.out.1.gi i hi'
    rw [pk_get hi'] at z
    have l0 := dig_len g.l[i].1.toNat
    have l1 := dig_len g.l[i].2.1.toNat
    have l2 := dig_len g.l[i].2.2.toNat
    unfold pkT
    simp
    omega)
   rw [List.length_map] at h
   have := Nat.mul_le_mul_right 3000010 h40
   omega
  ·obtain ⟨y,-,rfl⟩ := List.mem_map.1 hx
   unfold pkT
   simp
 clear ho hb
 go_wp2_with fail
 refine (joined_any w1.heap.size v2 _ w2 HO.out (by have := HJ.out.2.2; omega) HJ.out.1 HJ.out.2.1).mono ?_
 rintro e w3 ⟨rfl,hb⟩
 have B3:Hid (Below w.heap.size w w3) := ((X0.out.bel.trans (B1.out.mono X0.out.bel.size)).trans (B2.out.mono (Nat.le_trans X0.out.bel.size B1.out.size))).trans (hb.mono (Nat.le_trans (Nat.le_trans X0.out.bel.size B1.out.size) B2.out.size))
 clear hb
 go_wp2
 go_ret2
 exact ⟨_,_,fp,rfl,.inl ⟨rfl,rfl⟩,Do.still HD.out.1 B3.out HD.out.2.1⟩
set_option maxRecDepth 100000 in
set_option maxHeartbeats 2000000 in
theorem do_faces {w:World} {base P M:Nat} {g:G} {fp:List Nat} (a b:Nat) (h:DS w base P M g fp) (hbw:base ≤ w.heap.size) (hF:Fi base w):Calls Tryz.prog 102 #[.agg #[.pointer (some ⟨P,0,none⟩),.map (some M)],.string (tx [102,97,99,101,115]),.agg #[.int .i64 (a:Int),.int .i64 (b:Int)]] w fun e w' => ∃ ans err fp',e = .returned (.tuple #[.string ans,err]) ∧ Dn (act g [102,97,99,101,115] (a:Int) (b:Int)).1 ans err ∧ Do w w' base P M (act g [102,97,99,101,115] (a:Int) (b:Int)).2 fp fp' := by
 have HD:Hid (DS w base P M g fp ∧ base ≤ w.heap.size ∧ Fi base w) := ⟨h,hbw,hF⟩
 have EA:Hid (act g [102,97,99,101,115] (a:Int) (b:Int) = (facesT (fifoB g.H) (causB g.H) (totB g.H),g)) := rfl
 rw [EA.out]
 obtain ⟨s,es⟩:∃ s,s = tx [102,97,99,101,115] := ⟨_,rfl⟩
 have qsay:(s.toList == [115,97,121]) = false := by rw [es]; exact (wd_eq _ _).trans (by decide)
 have qgive:(s.toList == [103,105,118,101]) = false := by rw [es]; exact (wd_eq _ _).trans (by decide)
 have qdrop:(s.toList == [100,114,111,112]) = false := by rw [es]; exact (wd_eq _ _).trans (by decide)
 have qtwice:(s.toList == [116,119,105,99,101]) = false := by rw [es]; exact (wd_eq _ _).trans (by decide)
 have qway:(s.toList == [119,97,121]) = false := by rw [es]; exact (wd_eq _ _).trans (by decide)
 have qheard:(s.toList == [104,101,97,114,100]) = false := by rw [es]; exact (wd_eq _ _).trans (by decide)
 have qfaces:(s.toList == [102,97,99,101,115]) = true := by rw [es]; exact (wd_eq _ _).trans (by decide)
 rw [← es]
 obtain ⟨W0,eW⟩:∃ W,W = (w.alloc (.cells #[.pointer (some ⟨P,0,none⟩),.map (some M)] 108)).alloc (.cells #[.int .i64 (a:Int),.int .i64 (b:Int)] 185) := ⟨_,rfl⟩
 have X0:Hid (Bx w W0 P M (a:Int) (b:Int)) := by rw [eW]; exact Bx.of w P M _ _
 have F0:Hid (Fi base W0) := hF.later (X0.out.bel.mono hbw)
 have C0:Hid (CA W0 base P g fp ∧ base ≤ W0.heap.size) := ⟨h.ca.of_blocks X0.out.bel.size fun b q => X0.out.bel.block b (h.ca.fp b q).2,Nat.le_trans hbw X0.out.bel.size⟩
 clear es h hbw hF
 go_enter Tryz.func102,Tryz.ntmps102
 go_wp2_with fail
 rw [← eW]
 clear eW
 refine (histC_any base P g fp W0 C0.out.1 HD.out.1.gi).mono ?_
 rintro e w1 ⟨v,rfl,hp,hb⟩
 have B1:Hid (Below W0.heap.size W0 w1) := hb
 obtain ⟨q,c,rfl⟩ := own_form hp
 obtain ⟨n,en⟩:∃ n,n = g.H.length := ⟨_,rfl⟩
 rw [← en]
 have V1:Hid (n ≤ c ∧ c ≤ maxLen ∧ Ew w1 q n g.H) := ev_seen (by rw [en]; exact hp) en
 clear hp hb en
 go_wp2_with fail
 refine (of_ok q n c g.H w1 V1.out.1 V1.out.2.1 V1.out.2.2 (cast_zero HD.out.1.gi)).mono ?_
 rintro e w2 ⟨rfl,hb⟩
 have B2:Hid (Below w1.heap.size w1 w2) := hb
 clear hb
 go_wp2_with fail
 refine (named_ok (fifoB g.H) (causB g.H) (totB g.H) w2).mono ?_
 rintro e w3 ⟨rfl,hb⟩
 have B3:Hid (Below w.heap.size w w3) := ((X0.out.bel.trans (B1.out.mono X0.out.bel.size)).trans (B2.out.mono (Nat.le_trans X0.out.bel.size B1.out.size))).trans (hb.mono (Nat.le_trans (Nat.le_trans X0.out.bel.size B1.out.size) B2.out.size))
 clear hb
 go_wp2
 go_ret2
 exact ⟨_,_,fp,rfl,.inl ⟨rfl,rfl⟩,Do.still HD.out.1 B3.out HD.out.2.1⟩
set_option maxRecDepth 100000 in
set_option maxHeartbeats 2000000 in
theorem do_none {w:World} {base P M:Nat} {g:G} {fp:List Nat} (wd:T) (a b:Nat) (h:DS w base P M g fp) (hbw:base ≤ w.heap.size) (hn:many wd = none):Calls Tryz.prog 102 #[.agg #[.pointer (some ⟨P,0,none⟩),.map (some M)],.string (tx wd),.agg #[.int .i64 (a:Int),.int .i64 (b:Int)]] w fun e w' => e = .returned (.tuple #[.string (ByteArray.mk #[]),lineE]) ∧ Do w w' base P M g fp fp := by
 have HD:Hid (DS w base P M g fp ∧ base ≤ w.heap.size) := ⟨h,hbw⟩
 obtain ⟨s,es⟩:∃ s,s = tx wd := ⟨_,rfl⟩
 have qsay:(s.toList == [115,97,121]) = false := by rw [es]; exact (wd_eq _ _).trans (decide_eq_false fun e => by rw [e] at hn; revert hn; decide)
 have qgive:(s.toList == [103,105,118,101]) = false := by rw [es]; exact (wd_eq _ _).trans (decide_eq_false fun e => by rw [e] at hn; revert hn; decide)
 have qdrop:(s.toList == [100,114,111,112]) = false := by rw [es]; exact (wd_eq _ _).trans (decide_eq_false fun e => by rw [e] at hn; revert hn; decide)
 have qtwice:(s.toList == [116,119,105,99,101]) = false := by rw [es]; exact (wd_eq _ _).trans (decide_eq_false fun e => by rw [e] at hn; revert hn; decide)
 have qway:(s.toList == [119,97,121]) = false := by rw [es]; exact (wd_eq _ _).trans (decide_eq_false fun e => by rw [e] at hn; revert hn; decide)
 have qheard:(s.toList == [104,101,97,114,100]) = false := by rw [es]; exact (wd_eq _ _).trans (decide_eq_false fun e => by rw [e] at hn; revert hn; decide)
 have qfaces:(s.toList == [102,97,99,101,115]) = false := by rw [es]; exact (wd_eq _ _).trans (decide_eq_false fun e => by rw [e] at hn; revert hn; decide)
 have qclock:(s.toList == [99,108,111,99,107]) = false := by rw [es]; exact (wd_eq _ _).trans (decide_eq_false fun e => by rw [e] at hn; revert hn; decide)
 rw [← es]
 have X0:Hid (Bx w _ P M (a:Int) (b:Int)) := Bx.of w P M _ _
 clear es h hbw hn
 go_enter Tryz.func102,Tryz.ntmps102
 go_wp2
 go_ret2
 exact ⟨rfl,Do.still HD.out.1 X0.out.bel HD.out.2⟩
end Go.Proofs.YtdmniblonikjlakGreatDoor.Run


namespace Go.Proofs.YtdmniblonikjlakGreatDoor.Run
open Go.RowKit
open Cas (G GI CA sayC say giveC giveW give drop twice hear len60 faces_ok sayC_any giveC_any dropC_any twiceC_any onwayC_any histC_any give_gi say_gi drop_gi twice_gi)
open Net (Pk pk isIn Po KpL NewL errF dropC twC)
open His (errV_ok errV_no Ev Ew ev hrd chkC row_bd fifoB causB totB errV hdC hdL hdC_out hdC_ok hdL_ok hdL_no heard_any of_ok)
open As (Laid)
open Vec (Vw)
open Fif (own_lt own_block own_form own_mono own_vw)
set_option linter.unusedVariables false
set_option maxRecDepth 100000 in
set_option maxHeartbeats 2000000 in
theorem do_heard_ok {w:World} {base P M:Nat} {g:G} {fp:List Nat} (a b:Nat) (h:DS w base P M g fp) (hbw:base ≤ w.heap.size) (hF:Fi base w) (ha:a ≤ 4):Calls Tryz.prog 102 #[.agg #[.pointer (some ⟨P,0,none⟩),.map (some M)],.string (tx [104,101,97,114,100]),.agg #[.int .i64 (a:Int),.int .i64 (b:Int)]] w fun e w' => ∃ ans err fp',e = .returned (.tuple #[.string ans,err]) ∧ Dn (act g [104,101,97,114,100] (a:Int) (b:Int)).1 ans err ∧ Do w w' base P M (act g [104,101,97,114,100] (a:Int) (b:Int)).2 fp fp' := by
 have HD:Hid (DS w base P M g fp ∧ base ≤ w.heap.size ∧ Fi base w) := ⟨h,hbw,hF⟩
 have EA:Hid (act g [104,101,97,114,100] (a:Int) (b:Int) = (row (hrd g.H (a:Int)),g)) := by
  show ((if 4 < (a:Int) then nm 1 else row (hrd g.H (a:Int))),g) = _
  rw [if_neg (by omega)]
 rw [EA.out]
 have HH:Hid (∀ (q:Option Addr) (c:Nat) (w1:World),g.H.length ≤ c ∧ c ≤ maxLen ∧ Ew w1 q g.H.length g.H → Calls Tryz.prog 150 #[.slice q g.H.length c,.int .i64 (a:Int)] w1 fun e w' => (∃ q2 d2,e = .returned (.tuple #[.slice q2 (hrd g.H (a:Int)).length d2,.nilIface]) ∧ Vw w' q2 (hrd g.H (a:Int)).length (hrd g.H (a:Int))) ∧ Below w1.heap.size w1 w') := by
  rintro q c w1 ⟨h1,h2,h3⟩
  have z := heard_any q g.H.length c g.H (a:Int) w1 h1 h2 h3
  have e0:hdC g.H (a:Int) = 0 := hdC_ok (cast_zero HD.out.1.gi) (by omega)
  rw [hdL_ok e0,e0,errV_ok] at z
  exact z
 have HL:Hid (∀ i,i < (hrd g.H (a:Int)).length → 0 ≤ (hrd g.H (a:Int)).getD i 0 ∧ (hrd g.H (a:Int)).getD i 0 ≤ 9999) := (hrd_sm h.gi.i0.good _).2
 have HL6:Hid ((hrd g.H (a:Int)).length ≤ 60) := Nat.le_trans (hrd_sm h.gi.i0.good _).1 (len60 h.gi)
 clear ha
 obtain ⟨s,es⟩:∃ s,s = tx [104,101,97,114,100] := ⟨_,rfl⟩
 have qsay:(s.toList == [115,97,121]) = false := by rw [es]; exact (wd_eq _ _).trans (by decide)
 have qgive:(s.toList == [103,105,118,101]) = false := by rw [es]; exact (wd_eq _ _).trans (by decide)
 have qdrop:(s.toList == [100,114,111,112]) = false := by rw [es]; exact (wd_eq _ _).trans (by decide)
 have qtwice:(s.toList == [116,119,105,99,101]) = false := by rw [es]; exact (wd_eq _ _).trans (by decide)
 have qway:(s.toList == [119,97,121]) = false := by rw [es]; exact (wd_eq _ _).trans (by decide)
 have qheard:(s.toList == [104,101,97,114,100]) = true := by rw [es]; exact (wd_eq _ _).trans (by decide)
 rw [← es]
 obtain ⟨W0,eW⟩:∃ W,W = (w.alloc (.cells #[.pointer (some ⟨P,0,none⟩),.map (some M)] 108)).alloc (.cells #[.int .i64 (a:Int),.int .i64 (b:Int)] 185) := ⟨_,rfl⟩
 have X0:Hid (Bx w W0 P M (a:Int) (b:Int)) := by rw [eW]; exact Bx.of w P M _ _
 have F0:Hid (Fi base W0) := hF.later (X0.out.bel.mono hbw)
 have C0:Hid (CA W0 base P g fp ∧ base ≤ W0.heap.size) := ⟨h.ca.of_blocks X0.out.bel.size fun b q => X0.out.bel.block b (h.ca.fp b q).2,Nat.le_trans hbw X0.out.bel.size⟩
 clear es h hbw hF
 go_enter Tryz.func102,Tryz.ntmps102
 have HS:Hid (∀ X,Below W0.heap.size W0 X → X.cell? ⟨w.heap.size,0,none⟩ = some (.pointer (some ⟨P,0,none⟩)) ∧ X.cell? ⟨w.heap.size + 1,0,none⟩ = some (.int .i64 (a:Int))) := fun X hX => X0.out.cells hX
 have CX:Hid (∀ X,Below W0.heap.size W0 X → CA X base P g fp) := fun X hX => C0.out.1.of_blocks hX.size fun b q => hX.block b (C0.out.1.fp b q).2
 go_upto_region 13 with fail
 rw [← eW]
 obtain ⟨s0,s1⟩ := HS.out W0 (Below.refl _ _)
 clear eW
 go_region_held3 (fun X => X.cell? ⟨w.heap.size,0,none⟩ = some (.pointer (some ⟨P,0,none⟩)) ∧ X.cell? ⟨w.heap.size + 1,0,none⟩ = some (.int .i64 (a:Int))) (first | exact HS.out _ (Below.refl _ _) | exact HS.out _ (Below.refl _ _).drew | exact HS.out _ B1.out | exact HS.out _ B2.out | exact HS.out _ B3.out) (first
  | (go_at_call 11; refine (histC_any base P g fp _ (CX.out _ (by first | exact (Below.refl _ _).drew | exact Below.refl _ _)) HD.out.1.gi).mono ?_; rintro e1 w1 ⟨v1,rfl,hp,hb⟩; have B1:Hid (Below W0.heap.size W0 w1) := (by first | exact (Below.refl _ _).drew.trans hb | exact hb); obtain ⟨q1,c1,rfl⟩ := own_form hp; have V1:Hid (g.H.length ≤ c1 ∧ c1 ≤ maxLen ∧ Ew w1 q1 g.H.length g.H) := ev_seen hp rfl; clear hp hb)
  | (go_at_call 150; refine (HH.out q1 c1 w1 V1.out).mono ?_; rintro e2 w2 ⟨⟨q2,d2,rfl,hv⟩,hb⟩; have V2:Hid (Vw w2 q2 (hrd g.H (a:Int)).length (hrd g.H (a:Int))) := hv; clear hv; have B2:Hid (Below W0.heap.size W0 w2) := B1.out.trans (hb.mono B1.out.size); clear hb)
  | (go_at_call 144; refine (listed_ok q2 _ d2 (hrd g.H (a:Int)) w2 (F0.out.fit.later B2.out) V2.out HL6.out HL.out).mono ?_; rintro e3 w3 ⟨rfl,hb⟩; have B3:Hid (Below W0.heap.size W0 w3) := B2.out.trans (hb.mono B2.out.size); clear hb))
 go_wp2
 go_ret2
 exact ⟨_,_,fp,rfl,.inl ⟨rfl,rfl⟩,Do.still HD.out.1 (X0.out.bel.trans (B3.out.mono X0.out.bel.size)) HD.out.2.1⟩
set_option maxRecDepth 100000 in
set_option maxHeartbeats 2000000 in
theorem do_heard_no {w:World} {base P M:Nat} {g:G} {fp:List Nat} (a b:Nat) (h:DS w base P M g fp) (hbw:base ≤ w.heap.size) (hF:Fi base w) (ha:4 < a):Calls Tryz.prog 102 #[.agg #[.pointer (some ⟨P,0,none⟩),.map (some M)],.string (tx [104,101,97,114,100]),.agg #[.int .i64 (a:Int),.int .i64 (b:Int)]] w fun e w' => ∃ ans err fp',e = .returned (.tuple #[.string ans,err]) ∧ Dn (act g [104,101,97,114,100] (a:Int) (b:Int)).1 ans err ∧ Do w w' base P M (act g [104,101,97,114,100] (a:Int) (b:Int)).2 fp fp' := by
 have HD:Hid (DS w base P M g fp ∧ base ≤ w.heap.size ∧ Fi base w) := ⟨h,hbw,hF⟩
 have EA:Hid (act g [104,101,97,114,100] (a:Int) (b:Int) = (nm 1,g)) := by
  show ((if 4 < (a:Int) then nm 1 else row (hrd g.H (a:Int))),g) = _
  rw [if_pos (by omega)]
 rw [EA.out]
 have HH:Hid (∀ (q:Option Addr) (c:Nat) (w1:World),g.H.length ≤ c ∧ c ≤ maxLen ∧ Ew w1 q g.H.length g.H → Calls Tryz.prog 150 #[.slice q g.H.length c,.int .i64 (a:Int)] w1 fun e w' => (∃ v2,e = .returned (.tuple #[v2,.iface 70 (.int .i64 1)])) ∧ Below w1.heap.size w1 w') := by
  rintro q c w1 ⟨h1,h2,h3⟩
  have z := heard_any q g.H.length c g.H (a:Int) w1 h1 h2 h3
  have e0:hdC g.H (a:Int) = 1 := hdC_out (cast_zero HD.out.1.gi) (by omega)
  rw [e0,errV_no (by decide)] at z
  refine z.mono ?_
  rintro e w' ⟨⟨q2,d2,rfl,-⟩,hb⟩
  exact ⟨⟨_,rfl⟩,hb⟩
 clear ha
 obtain ⟨s,es⟩:∃ s,s = tx [104,101,97,114,100] := ⟨_,rfl⟩
 have qsay:(s.toList == [115,97,121]) = false := by rw [es]; exact (wd_eq _ _).trans (by decide)
 have qgive:(s.toList == [103,105,118,101]) = false := by rw [es]; exact (wd_eq _ _).trans (by decide)
 have qdrop:(s.toList == [100,114,111,112]) = false := by rw [es]; exact (wd_eq _ _).trans (by decide)
 have qtwice:(s.toList == [116,119,105,99,101]) = false := by rw [es]; exact (wd_eq _ _).trans (by decide)
 have qway:(s.toList == [119,97,121]) = false := by rw [es]; exact (wd_eq _ _).trans (by decide)
 have qheard:(s.toList == [104,101,97,114,100]) = true := by rw [es]; exact (wd_eq _ _).trans (by decide)
 rw [← es]
 obtain ⟨W0,eW⟩:∃ W,W = (w.alloc (.cells #[.pointer (some ⟨P,0,none⟩),.map (some M)] 108)).alloc (.cells #[.int .i64 (a:Int),.int .i64 (b:Int)] 185) := ⟨_,rfl⟩
 have X0:Hid (Bx w W0 P M (a:Int) (b:Int)) := by rw [eW]; exact Bx.of w P M _ _
 have F0:Hid (Fi base W0) := hF.later (X0.out.bel.mono hbw)
 have C0:Hid (CA W0 base P g fp ∧ base ≤ W0.heap.size) := ⟨h.ca.of_blocks X0.out.bel.size fun b q => X0.out.bel.block b (h.ca.fp b q).2,Nat.le_trans hbw X0.out.bel.size⟩
 clear es h hbw hF
 go_enter Tryz.func102,Tryz.ntmps102
 have HS:Hid (∀ X,Below W0.heap.size W0 X → X.cell? ⟨w.heap.size,0,none⟩ = some (.pointer (some ⟨P,0,none⟩)) ∧ X.cell? ⟨w.heap.size + 1,0,none⟩ = some (.int .i64 (a:Int))) := fun X hX => X0.out.cells hX
 have CX:Hid (∀ X,Below W0.heap.size W0 X → CA X base P g fp) := fun X hX => C0.out.1.of_blocks hX.size fun b q => hX.block b (C0.out.1.fp b q).2
 go_upto_region 13 with fail
 rw [← eW]
 obtain ⟨s0,s1⟩ := HS.out W0 (Below.refl _ _)
 clear eW
 go_region_held3 (fun X => X.cell? ⟨w.heap.size,0,none⟩ = some (.pointer (some ⟨P,0,none⟩)) ∧ X.cell? ⟨w.heap.size + 1,0,none⟩ = some (.int .i64 (a:Int))) (first | exact HS.out _ (Below.refl _ _) | exact HS.out _ (Below.refl _ _).drew | exact HS.out _ B1.out | exact HS.out _ B2.out | exact HS.out _ B3.out) (first
  | (go_at_call 11; refine (histC_any base P g fp _ (CX.out _ (by first | exact (Below.refl _ _).drew | exact Below.refl _ _)) HD.out.1.gi).mono ?_; rintro e1 w1 ⟨v1,rfl,hp,hb⟩; have B1:Hid (Below W0.heap.size W0 w1) := (by first | exact (Below.refl _ _).drew.trans hb | exact hb); obtain ⟨q1,c1,rfl⟩ := own_form hp; have V1:Hid (g.H.length ≤ c1 ∧ c1 ≤ maxLen ∧ Ew w1 q1 g.H.length g.H) := ev_seen hp rfl; clear hp hb)
  | (go_at_call 150; refine (HH.out q1 c1 w1 V1.out).mono ?_; rintro e2 w2 ⟨⟨v2,rfl⟩,hb⟩; have B2:Hid (Below W0.heap.size W0 w2) := B1.out.trans (hb.mono B1.out.size); clear hb)
  | (go_at_call 144; refine (listed_no v2 1 w2).mono ?_; rintro e3 w3 ⟨rfl,hw3⟩; have hb:Below w2.heap.size w2 w3 := (by rw [hw3]; exact Below.refl _ _); clear hw3; have B3:Hid (Below W0.heap.size W0 w3) := B2.out.trans (hb.mono B2.out.size); clear hb))
 go_wp2
 go_ret2
 exact ⟨_,_,fp,rfl,.inr (.inl ⟨1,by decide,rfl,rfl⟩),Do.still HD.out.1 (X0.out.bel.trans (B3.out.mono X0.out.bel.size)) HD.out.2.1⟩
set_option maxRecDepth 100000 in
set_option maxHeartbeats 2000000 in
theorem do_clock_ok {w:World} {base P M:Nat} {g:G} {fp:List Nat} (a b:Nat) (h:DS w base P M g fp) (hbw:base ≤ w.heap.size) (hF:Fi base w) (ha:a < g.H.length):Calls Tryz.prog 102 #[.agg #[.pointer (some ⟨P,0,none⟩),.map (some M)],.string (tx [99,108,111,99,107]),.agg #[.int .i64 (a:Int),.int .i64 (b:Int)]] w fun e w' => ∃ ans err fp',e = .returned (.tuple #[.string ans,err]) ∧ Dn (act g [99,108,111,99,107] (a:Int) (b:Int)).1 ans err ∧ Do w w' base P M (act g [99,108,111,99,107] (a:Int) (b:Int)).2 fp fp' := by
 have HD:Hid (DS w base P M g fp ∧ base ≤ w.heap.size ∧ Fi base w) := ⟨h,hbw,hF⟩
 have EA:Hid (act g [99,108,111,99,107] (a:Int) (b:Int) = (row (His.row g.H a),g)) := by
  show ((if (g.H.length:Int) ≤ (a:Int) then nm 1 else row (His.row g.H (a:Int).toNat)),g) = _
  rw [if_neg (by omega),Int.toNat_natCast]
 rw [EA.out]
 have HA:Hid (a < g.H.length ∧ g.H.length ≤ 60) := ⟨ha,len60 h.gi⟩
 have HL:Hid (∀ i,i < 5 → 0 ≤ (His.row g.H a).getD i 0 ∧ (His.row g.H a).getD i 0 ≤ 9999) := row_sm h.gi ha
 clear ha
 obtain ⟨s,es⟩:∃ s,s = tx [99,108,111,99,107] := ⟨_,rfl⟩
 have qsay:(s.toList == [115,97,121]) = false := by rw [es]; exact (wd_eq _ _).trans (by decide)
 have qgive:(s.toList == [103,105,118,101]) = false := by rw [es]; exact (wd_eq _ _).trans (by decide)
 have qdrop:(s.toList == [100,114,111,112]) = false := by rw [es]; exact (wd_eq _ _).trans (by decide)
 have qtwice:(s.toList == [116,119,105,99,101]) = false := by rw [es]; exact (wd_eq _ _).trans (by decide)
 have qway:(s.toList == [119,97,121]) = false := by rw [es]; exact (wd_eq _ _).trans (by decide)
 have qheard:(s.toList == [104,101,97,114,100]) = false := by rw [es]; exact (wd_eq _ _).trans (by decide)
 have qfaces:(s.toList == [102,97,99,101,115]) = false := by rw [es]; exact (wd_eq _ _).trans (by decide)
 have qclock:(s.toList == [99,108,111,99,107]) = true := by rw [es]; exact (wd_eq _ _).trans (by decide)
 rw [← es]
 obtain ⟨W0,eW⟩:∃ W,W = (w.alloc (.cells #[.pointer (some ⟨P,0,none⟩),.map (some M)] 108)).alloc (.cells #[.int .i64 (a:Int),.int .i64 (b:Int)] 185) := ⟨_,rfl⟩
 have X0:Hid (Bx w W0 P M (a:Int) (b:Int)) := by rw [eW]; exact Bx.of w P M _ _
 have F0:Hid (Fi base W0) := hF.later (X0.out.bel.mono hbw)
 have C0:Hid (CA W0 base P g fp ∧ base ≤ W0.heap.size) := ⟨h.ca.of_blocks X0.out.bel.size fun b q => X0.out.bel.block b (h.ca.fp b q).2,Nat.le_trans hbw X0.out.bel.size⟩
 clear es h hbw hF
 go_enter Tryz.func102,Tryz.ntmps102
 have HS:Hid (∀ X,Below W0.heap.size W0 X → X.cell? ⟨w.heap.size,0,none⟩ = some (.pointer (some ⟨P,0,none⟩)) ∧ X.cell? ⟨w.heap.size + 1,0,none⟩ = some (.int .i64 (a:Int))) := fun X hX => X0.out.cells hX
 have CX:Hid (∀ X,Below W0.heap.size W0 X → CA X base P g fp) := fun X hX => C0.out.1.of_blocks hX.size fun b q => hX.block b (C0.out.1.fp b q).2
 go_upto_region 17 with fail
 rw [← eW]
 obtain ⟨s0,s1⟩ := HS.out W0 (Below.refl _ _)
 clear eW
 go_region_held3 (fun X => X.cell? ⟨w.heap.size,0,none⟩ = some (.pointer (some ⟨P,0,none⟩)) ∧ X.cell? ⟨w.heap.size + 1,0,none⟩ = some (.int .i64 (a:Int))) (first | exact HS.out _ (Below.refl _ _) | exact HS.out _ (Below.refl _ _).drew | exact HS.out _ B1.out | exact HS.out _ B2.out | exact HS.out _ B3.out) (first
  | (go_at_call 11; refine (histC_any base P g fp _ (CX.out _ (by first | exact (Below.refl _ _).drew | exact Below.refl _ _)) HD.out.1.gi).mono ?_; rintro e1 w1 ⟨v1,rfl,hp,hb⟩; have B1:Hid (Below W0.heap.size W0 w1) := (by first | exact (Below.refl _ _).drew.trans hb | exact hb); obtain ⟨q1,c1,rfl⟩ := own_form hp; have V1:Hid (g.H.length ≤ c1 ∧ c1 ≤ maxLen ∧ Ew w1 q1 g.H.length g.H) := ev_seen hp rfl; clear hp hb)
  | (go_at_call 152; refine (vector_ok q1 _ c1 g.H a w1 V1.out.1 V1.out.2.1 V1.out.2.2 (cast_zero HD.out.1.gi) HA.out.1 HA.out.2).mono ?_; rintro e2 w2 ⟨⟨q2,d2,rfl,hv⟩,hb⟩; have V2:Hid (Vw w2 q2 5 (His.row g.H a)) := hv; clear hv; have B2:Hid (Below W0.heap.size W0 w2) := B1.out.trans (hb.mono B1.out.size); clear hb)
  | (go_at_call 144; refine (listed_ok q2 5 d2 (His.row g.H a) w2 (F0.out.fit.later B2.out) V2.out (by decide) HL.out).mono ?_; rintro e3 w3 ⟨rfl,hb⟩; have B3:Hid (Below W0.heap.size W0 w3) := B2.out.trans (hb.mono B2.out.size); clear hb))
 go_wp2
 go_ret2
 exact ⟨_,_,fp,rfl,.inl ⟨rfl,rfl⟩,Do.still HD.out.1 (X0.out.bel.trans (B3.out.mono X0.out.bel.size)) HD.out.2.1⟩
set_option maxRecDepth 100000 in
set_option maxHeartbeats 2000000 in
theorem do_clock_no {w:World} {base P M:Nat} {g:G} {fp:List Nat} (a b:Nat) (h:DS w base P M g fp) (hbw:base ≤ w.heap.size) (hF:Fi base w) (ha:g.H.length ≤ a ∧ a ≤ 9999):Calls Tryz.prog 102 #[.agg #[.pointer (some ⟨P,0,none⟩),.map (some M)],.string (tx [99,108,111,99,107]),.agg #[.int .i64 (a:Int),.int .i64 (b:Int)]] w fun e w' => ∃ ans err fp',e = .returned (.tuple #[.string ans,err]) ∧ Dn (act g [99,108,111,99,107] (a:Int) (b:Int)).1 ans err ∧ Do w w' base P M (act g [99,108,111,99,107] (a:Int) (b:Int)).2 fp fp' := by
 have HD:Hid (DS w base P M g fp ∧ base ≤ w.heap.size ∧ Fi base w) := ⟨h,hbw,hF⟩
 have EA:Hid (act g [99,108,111,99,107] (a:Int) (b:Int) = (nm 1,g)) := by
  show ((if (g.H.length:Int) ≤ (a:Int) then nm 1 else row (His.row g.H (a:Int).toNat)),g) = _
  rw [if_pos (by omega)]
 rw [EA.out]
 have HA:Hid (g.H.length ≤ a ∧ a ≤ 9999) := ha
 clear ha
 obtain ⟨s,es⟩:∃ s,s = tx [99,108,111,99,107] := ⟨_,rfl⟩
 have qsay:(s.toList == [115,97,121]) = false := by rw [es]; exact (wd_eq _ _).trans (by decide)
 have qgive:(s.toList == [103,105,118,101]) = false := by rw [es]; exact (wd_eq _ _).trans (by decide)
 have qdrop:(s.toList == [100,114,111,112]) = false := by rw [es]; exact (wd_eq _ _).trans (by decide)
 have qtwice:(s.toList == [116,119,105,99,101]) = false := by rw [es]; exact (wd_eq _ _).trans (by decide)
 have qway:(s.toList == [119,97,121]) = false := by rw [es]; exact (wd_eq _ _).trans (by decide)
 have qheard:(s.toList == [104,101,97,114,100]) = false := by rw [es]; exact (wd_eq _ _).trans (by decide)
 have qfaces:(s.toList == [102,97,99,101,115]) = false := by rw [es]; exact (wd_eq _ _).trans (by decide)
 have qclock:(s.toList == [99,108,111,99,107]) = true := by rw [es]; exact (wd_eq _ _).trans (by decide)
 rw [← es]
 obtain ⟨W0,eW⟩:∃ W,W = (w.alloc (.cells #[.pointer (some ⟨P,0,none⟩),.map (some M)] 108)).alloc (.cells #[.int .i64 (a:Int),.int .i64 (b:Int)] 185) := ⟨_,rfl⟩
 have X0:Hid (Bx w W0 P M (a:Int) (b:Int)) := by rw [eW]; exact Bx.of w P M _ _
 have F0:Hid (Fi base W0) := hF.later (X0.out.bel.mono hbw)
 have C0:Hid (CA W0 base P g fp ∧ base ≤ W0.heap.size) := ⟨h.ca.of_blocks X0.out.bel.size fun b q => X0.out.bel.block b (h.ca.fp b q).2,Nat.le_trans hbw X0.out.bel.size⟩
 clear es h hbw hF
 go_enter Tryz.func102,Tryz.ntmps102
 have HS:Hid (∀ X,Below W0.heap.size W0 X → X.cell? ⟨w.heap.size,0,none⟩ = some (.pointer (some ⟨P,0,none⟩)) ∧ X.cell? ⟨w.heap.size + 1,0,none⟩ = some (.int .i64 (a:Int))) := fun X hX => X0.out.cells hX
 have CX:Hid (∀ X,Below W0.heap.size W0 X → CA X base P g fp) := fun X hX => C0.out.1.of_blocks hX.size fun b q => hX.block b (C0.out.1.fp b q).2
 go_upto_region 17 with fail
 rw [← eW]
 obtain ⟨s0,s1⟩ := HS.out W0 (Below.refl _ _)
 clear eW
 go_region_held3 (fun X => X.cell? ⟨w.heap.size,0,none⟩ = some (.pointer (some ⟨P,0,none⟩)) ∧ X.cell? ⟨w.heap.size + 1,0,none⟩ = some (.int .i64 (a:Int))) (first | exact HS.out _ (Below.refl _ _) | exact HS.out _ (Below.refl _ _).drew | exact HS.out _ B1.out | exact HS.out _ B2.out | exact HS.out _ B3.out) (first
  | (go_at_call 11; refine (histC_any base P g fp _ (CX.out _ (by first | exact (Below.refl _ _).drew | exact Below.refl _ _)) HD.out.1.gi).mono ?_; rintro e1 w1 ⟨v1,rfl,hp,hb⟩; have B1:Hid (Below W0.heap.size W0 w1) := (by first | exact (Below.refl _ _).drew.trans hb | exact hb); obtain ⟨q1,c1,rfl⟩ := own_form hp; have V1:Hid (g.H.length ≤ c1 ∧ c1 ≤ maxLen ∧ Ew w1 q1 g.H.length g.H) := ev_seen hp rfl; clear hp hb)
  | (go_at_call 152; refine (vector_no q1 _ c1 g.H a w1 V1.out.1 V1.out.2.1 V1.out.2.2 (cast_zero HD.out.1.gi) HA.out.1 HA.out.2).mono ?_; rintro e2 w2 ⟨rfl,hb⟩; have B2:Hid (Below W0.heap.size W0 w2) := B1.out.trans (hb.mono B1.out.size); clear hb)
  | (go_at_call 144; refine (listed_no _ 1 w2).mono ?_; rintro e3 w3 ⟨rfl,hw3⟩; have hb:Below w2.heap.size w2 w3 := (by rw [hw3]; exact Below.refl _ _); clear hw3; have B3:Hid (Below W0.heap.size W0 w3) := B2.out.trans (hb.mono B2.out.size); clear hb))
 go_wp2
 go_ret2
 exact ⟨_,_,fp,rfl,.inr (.inl ⟨1,by decide,rfl,rfl⟩),Do.still HD.out.1 (X0.out.bel.trans (B3.out.mono X0.out.bel.size)) HD.out.2.1⟩
end Go.Proofs.YtdmniblonikjlakGreatDoor.Run
