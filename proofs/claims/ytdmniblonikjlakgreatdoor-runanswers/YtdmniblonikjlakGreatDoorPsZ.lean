/-
  Texts put together: RunLx, Ran.
-/
import Derived.Test.YtdmniblonikjlakGreatDoorPsS
import Derived.Test.YtdmniblonikjlakGreatDoorPsT
import Derived.Test.YtdmniblonikjlakGreatDoorPsU
import Derived.Test.YtdmniblonikjlakGreatDoorPsV
import Derived.Test.YtdmniblonikjlakGreatDoorPsW
import Derived.Test.YtdmniblonikjlakGreatDoorPsX
import Derived.Test.YtdmniblonikjlakGreatDoorPsY
import Derived.Test.YtdmniblonikjlakGreatDoorPrS
import Derived.Test.YtdmniblonikjlakGreatDoorPrX
import Derived.Deep.CutRange


namespace Go.Proofs.YtdmniblonikjlakGreatDoor.Run
open Go.RowKit
open Cas (G GI RG CRes sayC say giveC giveW give drop twice len60)
open His (hrd)
set_option linter.unusedVariables false
variable {w:World} {base C:Nat} {g:G} {d:Cas.Loc}
theorem line_any (s:ByteArray) (h:RG w base C g d) (hi:GI g) (hbw:base ≤ w.heap.size) (hs:s.size ≤ 3000):Calls Tryz.prog 26 #[.pointer (some ⟨C,0,none⟩),.string s] w fun e w' => e = .returned (.string (tx (line g (bs s)).1)) ∧ ∃ d',CRes w w' base C g d (line g (bs s)).2 d' := by
 have hne := cut_ne 32 (bs s)
 match hw:cut 32 (bs s),hne with
 | w0 :: ns,_ =>
  by_cases hn:ns.length ≤ 2
  ·by_cases hc:ns.all isNum = true ∧ many w0 = some ns.length
   ·obtain ⟨ha,hm⟩ := hc
    unfold many at hm
    split at hm
    ·rename_i e
     subst e
     match ns,hm,ha,hw with
     | [p,q],_,ha,hw =>
      simp only [List.all_cons,List.all_nil,Bool.and_eq_true] at ha
      exact line_say s h hi hbw hs hw ha.1 ha.2.1
    ·split at hm
     ·rename_i e
      match ns,hm,ha,hw with
      | [p],_,ha,hw =>
       simp only [List.all_cons,List.all_nil,Bool.and_eq_true] at ha
       rcases e with rfl | rfl | rfl | rfl | rfl
       ·exact line_give s h hi hbw hs hw ha.1
       ·by_cases k:numV p < g.l.length
        ·exact line_drop_ok s h hi hbw hs hw ha.1 k
        ·exact line_drop_no s h hi hbw hs hw ha.1 k
       ·by_cases k:numV p < g.l.length
        ·exact line_twice_ok s h hi hbw hs hw ha.1 k
        ·exact line_twice_no s h hi hbw hs hw ha.1 k
       ·by_cases k:4 < numV p
        ·exact line_heard_no s h hi hbw hs hw ha.1 k
        ·exact line_heard_ok s h hi hbw hs hw ha.1 k
       ·by_cases k:numV p < g.H.length
        ·exact line_clock_ok s h hi hbw hs hw ha.1 k
        ·exact line_clock_no s h hi hbw hs hw ha.1 k
     ·split at hm
      ·rename_i e
       match ns,hm,hw with
       | [],_,hw =>
        rcases e with rfl | rfl
        ·exact line_way s h hi hbw hs hw
        ·exact line_faces s h hi hbw hs hw
      ·cases hm
   ·exact line_none s h hbw hs hw hn fun q1 q2 => hc ⟨q1,q2⟩
  ·exact line_long s h hbw hs hw (by omega)
end Go.Proofs.YtdmniblonikjlakGreatDoor.Run


namespace Go.Proofs.YtdmniblonikjlakGreatDoor.Run
open Go.RowKit
open Cas (G GI RG CRes start_gi)
open Fif (own_lt own_block own_form own_mono)
set_option linter.unusedVariables false
theorem lit_is (l:T):((tx l).toList == l) = true := by
 rw [tl]
 simp
theorem after_gi {g:G} (hi:GI g):∀ ls:List T,GI (after g ls) ∧ (after g ls).n = g.n
 | [] => ⟨hi,rfl⟩
 | s :: ls => by
  obtain ⟨h1,h2⟩ := line_gi hi s
  obtain ⟨h3,h4⟩ := after_gi h1 ls
  exact ⟨h3,h4.trans h2⟩
theorem take_more {α:Type} (d:α) (l:List α) {i:Nat} (hi:i < l.length):l.take (i + 1) = l.take i ++ [l.getD i d] := by
 rw [List.take_add_one,List.getElem?_eq_getElem hi,List.getD,List.getElem?_eq_getElem hi]
 rfl
theorem cut_piece (c:UInt8):∀ (t:T),∀ p ∈ cut c t,p.length ≤ t.length
 | [],p,hp => by simp [cut] at hp; rw [hp]; simp
 | x :: t,p,hp => by
  have ih := cut_piece c t
  unfold cut at hp
  split at hp
  ·rcases List.mem_cons.1 hp with rfl | hp
   ·simp
   ·have := ih p hp
    simp
    omega
  ·match e:cut c t,cut_ne c t with
   | q :: qs,_ =>
    rw [e] at hp
    simp only at hp
    rcases List.mem_cons.1 hp with rfl | hp
    ·have := ih q (by rw [e]; simp)
     simp
     omega
    ·have := ih p (by rw [e]; exact List.mem_cons_of_mem _ hp)
     simp
     omega
structure AN (W0 wr:World) (C:Nat) (ls:List T) (i:Nat) (b:ByteArray):Prop where
 tx:b = tx (all (Cas.start 3) (ls.take i))
 len:b.size ≤ i * 200000001
 rg:∃ d,RG wr W0.heap.size C (after (Cas.start 3) (ls.take i)) d
 bel:Below W0.heap.size W0 wr
theorem AN.next {W0 wr w':World} {C:Nat} {ls:List T} {i:Nat} {b:ByteArray} (h:AN W0 wr C ls i b) (hi:i < ls.length) {d:Cas.Loc} (hb:Below W0.heap.size wr w') (hr:RG w' W0.heap.size C (line (after (Cas.start 3) (ls.take i)) (ls.getD i [])).2 d) (hl:(line (after (Cas.start 3) (ls.take i)) (ls.getD i [])).1.length ≤ 200000000) :
  AN W0 w' C ls (i + 1) (b ++ Run.tx (line (after (Cas.start 3) (ls.take i)) (ls.getD i [])).1 ++ ByteArray.mk #[10]) := by
 refine ⟨?_,?_,⟨d,?_⟩,h.bel.trans hb⟩
 ·rw [take_more [] ls hi,all_snoc,tx_append,tx_append,← h.tx,← ByteArray.append_assoc]
  rfl
 ·rw [ByteArray.size_append,ByteArray.size_append,tx_size]
  have e:(ByteArray.mk #[10]).size = 1 := rfl
  have := h.len
  rw [Nat.add_mul]
  omega
 ·rw [take_more [] ls hi,after_snoc]
  exact hr
set_option maxRecDepth 100000 in
set_option maxHeartbeats 4000000 in
theorem answers_long (t:ByteArray) (w:World) (hL:Fit w) (hz:3000 < t.size):Calls Tryz.prog 4 #[.string t] w fun e w' => e = .returned (.bool true) ∧ Below w.heap.size w w' := by
 have HL:Hid (Fit w) := hL
 obtain ⟨n,en⟩:∃ n,n = t.size := ⟨_,rfl⟩
 have hsz:(t.size:Int) = (n:Int) := by rw [en]
 have hn:(3000:Int) < (n:Int) := by omega
 have hr:run (bs t) = [116,111,111,32,108,111,110,103,10] := if_pos (by rw [bs_len]; exact hz)
 have RA:Hid (Calls Tryz.prog 23 #[.string t] w fun e w' => e = .returned (.string (tx [116,111,111,32,108,111,110,103,10])) ∧ Below w.heap.size w w') := by
  have z := runP t w hL
  rw [hr] at z
  exact z
 have hf := lit_is [116,111,111,32,108,111,110,103,10]
 clear hL hz en hr
 go_enter Tryz.func4,Tryz.ntmps4
 go_wp2_with fail
 refine RA.out.mono ?_
 rintro e w1 ⟨rfl,hb⟩
 have B1:Hid (Below w.heap.size w w1) := hb
 clear hb
 go_wp2
 go_ret
 exact ⟨rfl,B1.out⟩
set_option maxRecDepth 100000 in
set_option maxHeartbeats 8000000 in
theorem answers_short (t:ByteArray) (w:World) (hL:Fit w) (hz:t.size ≤ 3000):Calls Tryz.prog 4 #[.string t] w fun e w' => e = .returned (.bool true) ∧ Below w.heap.size w w' := by
 have HZ:Hid (t.size ≤ 3000) := hz
 obtain ⟨n,en⟩:∃ n,n = t.size := ⟨_,rfl⟩
 have hsz:(t.size:Int) = (n:Int) := by rw [en]
 have hn:¬ (3000:Int) < (n:Int) := by omega
 obtain ⟨R,eR⟩:∃ R,R = tx (run (bs t)) := ⟨_,rfl⟩
 have ER:Hid (R = tx (all (Cas.start 3) (lines (bs t)))) := by
  show _ = _
  rw [eR]
  unfold run
  rw [if_neg (by rw [bs_len]; omega)]
 have RA:Hid (Calls Tryz.prog 23 #[.string t] w fun e w' => e = .returned (.string R) ∧ Below w.heap.size w w') := by
  rw [eR]
  exact runP t w hL
 clear hL hz en eR
 go_enter Tryz.func4,Tryz.ntmps4
 go_wp2_with fail
 refine RA.out.mono ?_
 rintro e w1 ⟨rfl,hb⟩
 have B1:Hid (Below w.heap.size w w1) := hb
 clear hb
 go_wp2_with fail
 refine (cut_any t 10 (by have := HZ.out; omega) w1).mono ?_
 rintro e w2 ⟨v,rfl,ho,hb⟩
 have B2:Hid (Below w.heap.size w w2) := B1.out.trans (hb.mono B1.out.size)
 obtain ⟨ps,eps⟩:∃ ps,ps = cut 10 (bs t) := ⟨_,rfl⟩
 have hpl:ps.length ≤ 3001 := by rw [eps]; have := cut_len 10 (bs t); rw [bs_len] at this; have := HZ.out; omega
 have hp0:0 < ps.length := by rw [eps]; have := cut_ne 10 (bs t); exact List.length_pos_iff.2 this
 have HPS:Hid (ps = cut 10 (bs t)) := eps
 rw [← eps] at ho
 obtain ⟨qv,cv,rfl,hlc,hcm,hc⟩ := ho.form
 obtain ⟨m,em⟩:∃ m,m = ps.length := ⟨_,rfl⟩
 rw [← em] at hc hlc hpl hp0 ⊢
 obtain ⟨gv,rfl,-,hgv,clast⟩ := hc (m - 1) (by omega)
 have KC:Hid ((∀ i,i < m → w2.cell? ⟨gv,i,none⟩ = some (.string (tx (ps.getD i [])))) ∧ gv < w2.heap.size ∧ m = ps.length) := by
  refine ⟨fun i hi => ?_,hgv,em⟩
  obtain ⟨g',e',_,_,c'⟩ := hc i hi
  cases e'
  exact c'
 have hm1:(1:Int) ≤ (m:Int) := by omega
 have hm9:(m:Int) ≤ 3001 := by omega
 have hmc:(m:Int) ≤ (cv:Int) := by omega
 obtain ⟨la,ela⟩:∃ la,la = ps.getD (m - 1) [] := ⟨_,rfl⟩
 rw [← ela] at clast
 have hla:la = (cut 10 (bs t)).getLast (cut_ne 10 (bs t)) := by
  rw [ela,em,eps,List.getLast_eq_getElem,List.getD,List.getElem?_eq_getElem (by rw [← eps]; omega)]
  rfl
 have hlines:Hid (lines (bs t) = if la = [] then ps.dropLast else ps) := by
  show lines (bs t) = _
  unfold lines
  rw [← hla,← eps]
 have hne := none_eq (tx la)
 rw [bs_tx] at hne
 clear hb ho hc hgv em eps hla ela hlc hcm
 go_upto_if 24 with fail
 go_cut [4] from 18 to 29 (fun x wx => ∃ k:Nat,x = .slice (some ⟨gv,0,none⟩) k cv ∧ k ≤ m ∧ Hid (k = (lines (bs t)).length ∧ ∀ i,i < k → (lines (bs t)).getD i [] = ps.getD i []) ∧ w2 = wx)
 case first =>
  by_cases hl:la = []
  ·have hd:decide (la = []) = true := decide_eq_true hl
   have E:Hid (m - 1 = (lines (bs t)).length ∧ ∀ i,i < m - 1 → (lines (bs t)).getD i [] = ps.getD i []) := by
    have e:lines (bs t) = ps.dropLast := by rw [hlines.out,if_pos hl]
    refine ⟨by rw [e,List.length_dropLast,KC.out.2.2],fun i hi => ?_⟩
    rw [e,List.dropLast_eq_take,List.getD,List.getD,List.getElem?_take_of_lt (by rw [← KC.out.2.2]; exact hi)]
   clear hlines
   subst hl
   clear hne
   go_wp2_with fail
   go_meet
   exact ⟨m - 1,rfl,by omega,E.out,rfl⟩
  ·have hd:decide (la = []) = false := decide_eq_false hl
   have E:Hid (m = (lines (bs t)).length ∧ ∀ i,i < m → (lines (bs t)).getD i [] = ps.getD i []) := by
    have e:lines (bs t) = ps := by rw [hlines.out,if_neg hl]
    exact ⟨by rw [e]; exact KC.out.2.2,fun i _ => by rw [e]⟩
   go_wp2_with fail
   go_meet
   exact ⟨m,rfl,by omega,E.out,rfl⟩
 case rest =>
  obtain ⟨k,rfl,hk,hE,rfl⟩ := hcut
  clear hne clast
  obtain ⟨ls,els⟩:∃ ls,ls = lines (bs t) := ⟨_,rfl⟩
  rw [← els] at hE ER
  have HLS:Hid (∀ i,i < k → (ls.getD i []).length ≤ 3000) := by
   intro i hi
   have hil:i < ps.length := by rw [← KC.out.2.2]; omega
   have hm:ps[i] ∈ cut 10 (bs t) := by rw [← HPS.out]; exact List.getElem_mem hil
   have := cut_piece 10 (bs t) _ hm
   rw [bs_len] at this
   rw [hE.out.2 i hi,List.getD,List.getElem?_eq_getElem hil]
   exact Nat.le_trans this HZ.out
  have hk9:(k:Int) ≤ 3001 := by omega
  clear els hlines
  go_wp2_with fail
  refine (Cas.castNew 3 (by decide) (by decide) w2).mono ?_
  rintro e w3 ⟨C,d,rfl,hg,hb⟩
  have A0:Hid (AN w2 w3 C ls 0 (ByteArray.mk #[])) := ⟨rfl,Nat.zero_le _,⟨d,hg⟩,hb⟩
  clear hg hb
  go_wp2_with fail
  go_loopw [6,7] (fun x y wr => ∃ (i:Nat) (b:ByteArray),i ≤ k ∧ x = .string b ∧ y = .int .i64 (i:Int) ∧ Hid (AN w2 wr C ls i b)) (fun _ y _ => k - (intOf y).toNat)
  case atStart => exact ⟨0,_,by omega,rfl,rfl,A0.out⟩
  case round =>
   clear A0
   obtain ⟨i,b,hi,rfl,rfl,hA⟩ := hrel
   have hi0:(0:Int) ≤ (i:Int) := by omega
   by_cases hlt:(i:Int) < (k:Int)
   ·have hil:i < k := by omega
    have ci:wr.cell? ⟨gv,i,none⟩ = some (.string (tx (ls.getD i []))) := by
     rw [hE.out.2 i hil]
     exact (hA.out.bel.cell (p := ⟨gv,i,none⟩) KC.out.2.1).trans (KC.out.1 i (by omega))
    obtain ⟨d,hd⟩ := hA.out.rg
    have hgi := after_gi (start_gi (n := 3) (by decide) (by decide)).1 (ls.take i)
    have LL := line_len hgi.1 (ls.getD i [])
    have hz3 := HLS.out i hil
    have LN:Hid (Calls Tryz.prog 26 #[.pointer (some ⟨C,0,none⟩),.string (tx (ls.getD i []))] wr fun e w' => e = .returned (.string (tx (line (after (Cas.start 3) (ls.take i)) (ls.getD i [])).1)) ∧ ∃ d',CRes wr w' w2.heap.size C (after (Cas.start 3) (ls.take i)) d (line (after (Cas.start 3) (ls.take i)) (ls.getD i [])).2 d') := by
     have z := line_any (tx (ls.getD i [])) hd hgi.1 hA.out.bel.size (by rw [tx_size]; exact hz3)
     rw [bs_tx] at z
     exact z
    obtain ⟨ti,eti⟩:∃ ti,ti = tx (ls.getD i []) := ⟨_,rfl⟩
    obtain ⟨ra,era⟩:∃ ra,ra = tx (line (after (Cas.start 3) (ls.take i)) (ls.getD i [])).1 := ⟨_,rfl⟩
    have hra:ra.size ≤ 200000000 := by rw [era,tx_size]; exact LL
    have hbs:b.size ≤ 3001 * 200000001 := Nat.le_trans hA.out.len (Nat.mul_le_mul_right _ (by omega))
    have hte:(ByteArray.mk #[10]).size = 1 := rfl
    have ERA:Hid (ra = tx (line (after (Cas.start 3) (ls.take i)) (ls.getD i [])).1 ∧ (line (after (Cas.start 3) (ls.take i)) (ls.getD i [])).1.length ≤ 200000000) := ⟨era,LL⟩
    rw [← eti] at ci LN
    rw [← era] at LN
    clear hd hgi LL hz3 eti era
    go_wp2_with fail
    refine LN.out.mono ?_
    rintro e w5 ⟨rfl,d',r⟩
    have A5:Hid (AN w2 w5 C ls (i + 1) (b ++ ra ++ ByteArray.mk #[10])) := by
     rw [ERA.out.1]
     exact hA.out.next (by rw [← hE.out.1]; exact hil) r.bel r.rg ERA.out.2
    clear r
    go_wp2
    go_roundw
    case rel => exact ⟨i + 1,_,by omega,rfl,by go_num,A5.out⟩
    case measure => simp [intOf]; omega
   ·have hik:i = ls.length := by have := hE.out.1; omega
    have hRb:R = b := by
     rw [ER.out,hA.out.tx,hik,List.take_length]
    have BE:Hid (Below w.heap.size w wr) := B2.out.trans (hA.out.bel.mono B2.out.size)
    subst hRb
    have hf:(R.toList == R.toList) = true := by simp
    clear hik hA
    go_wp2
    go_ret
    exact ⟨rfl,BE.out⟩
theorem answers_any (t:ByteArray) (w:World) (hL:Fit w):Calls Tryz.prog 4 #[.string t] w fun e w' => e = .returned (.bool true) ∧ Below w.heap.size w w' := by
 by_cases h:3000 < t.size
 ·exact answers_long t w hL h
 ·exact answers_short t w hL (by omega)
end Go.Proofs.YtdmniblonikjlakGreatDoor.Run
