/-
  Texts put together: RefF.
-/
import Derived.Test.YtdmniblonikjlakGreatDoorPsP
import Derived.Deep.QuietTactic
import Derived.BigQuiet


namespace Go.Proofs.YtdmniblonikjlakGreatDoor.His
open Go.RowKit
open Vec
theorem ret3f {fn:Func} {tmps:Array Value} {w:World} {p:Tmp} {B:Nat} {v0 v1 v2:Value} (h:fn.results = #[.cell p 44]) (hp:tmps.getD p undef = .pointer (some ⟨B,0,none⟩))
  (y0:w.cell? ⟨B,0,none⟩ = some v0) (y1:w.cell? ⟨B,1,none⟩ = some v1) (y2:w.cell? ⟨B,2,none⟩ = some v2):(results fn tmps).run Tryz.prog w = .ok (.agg #[v0,v1,v2]) w := by
 rw [results_cellA h,hp]
 simp [asAddr,go_sem,y0,y1,y2]
theorem three {v:Value}:∀ i,i < (#[v,v,v]:Array Value).size → (#[v,v,v]:Array Value)[i]? = some ((fun _:Nat => v) i) := by
 intro i hi
 have hi':i < 3 := hi
 rcases i with _ | _ | _ | i <;> first | rfl | omega
set_option maxRecDepth 100000 in
set_option maxHeartbeats 16000000 in
theorem refFaces (a:Option Addr) (len cap:Nat) (h:List Ev) (w:World) (h60:len ≤ 60) (hv:Ew w a len h) (hg:Good h len) :
  Calls Tryz.prog 69 #[.slice a len cap] w fun x w' => x = .returned (.agg #[.bool (fI h len len),.bool (cI h len len),.bool (tA h 5)]) ∧ Below w.heap.size w w' := by
 have G:Hid (Ew w a len h) := hv
 have HG:Hid (Good h len) := hg
 have HL:Hid (h.length = len) := hv.1
 obtain ⟨Z,hZ⟩:∃ Z,Z = Array.replicate 3600 (Value.bool false) := ⟨_,rfl⟩
 have hz := (zero_of_info sqInfo).1
 rw [← hZ] at hz
 have ZS:Hid (Z.size = 3600) := by rw [hZ]; exact Array.size_replicate
 obtain ⟨W0,eW⟩:∃ W,W = (w.alloc (.cells #[.bool false,.bool false,.bool false] 44)).alloc (.cells #[.bool true,.bool true,.bool true] 44) := ⟨_,rfl⟩
 have B0:Hid (Below w.heap.size w W0) := by
  subst eW
  exact ((Below.refl _ _).alloc (Nat.le_refl _) _).alloc (by simp) _
 have S0:Hid (W0.heap.size = w.heap.size + 2) := by
  rw [eW]
  show _ = _
  simp
 have R0:Hid (W0.rowIs w.heap.size 44 3 (fun _ => .bool false)) := by
  rw [eW]
  exact World.rowIs.alloc (World.rowIs_alloc w #[.bool false,.bool false,.bool false] 44 (fun _ => .bool false) three) _
 have F0:Hid (W0.rowIs (w.heap.size + 1) 44 3 (fv true true true)) := by
  have q := World.rowIs_alloc (w.alloc (.cells #[.bool false,.bool false,.bool false] 44)) #[.bool true,.bool true,.bool true] 44 (fun _ => .bool true) three
  rw [← eW,show (w.alloc (.cells #[.bool false,.bool false,.bool false] 44)).heap.size = w.heap.size + 1 by simp] at q
  exact World.rowIs.congr q fun j hj => by
   have hj':j < 3 := hj
   rcases j with _ | _ | _ | j <;> first | rfl | omega
 clear hv hg hZ
 go_enter Tryz.func69,Tryz.ntmps69
 go_wp2_with fail
 rw [← eW]
 refine (refBefores a len cap h _ h60 (G.out.later B0.out)).mono ?_
 rintro e w1 ⟨⟨c,rfl,hc⟩,hb1⟩
 have C:Hid (SqV c (wa h len len)) := hc
 have B1:Hid (Below W0.heap.size W0 w1) := hb1
 have HST:Hid ((Instr.storeAt 196 (.pointer (some ⟨w1.heap.size,0,none⟩)) (.agg c)).run Tryz.prog (w1.alloc (.cells Z 196)) = .ok () (w1.alloc (.cells c 196))) := run_storeAt_new w1 _ Z c (by rw [sqSize,hc.1]) (by rw [ZS.out,hc.1]) (sq_one hc)
 clear hc hb1 eW
 go_wp2_with (refine wpList_store_row rfl 196 (.tmp 4) (.tmp 20) rfl HST.out ?_)
 obtain ⟨W1,eW1⟩:∃ W,W = w1.alloc (.cells c 196) := ⟨_,rfl⟩
 have B01:Hid (Below W0.heap.size W0 W1) := by
  rw [eW1]
  exact B1.out.alloc B1.out.size _
 have S2:Hid (Sq W1 w1.heap.size (wa h len len)) := by
  have q := World.rowIs_alloc w1 c 196 (fun x => .bool (wa h len len (x / 60) (x % 60))) (fun i hi => C.out.2 i (by rw [← C.out.1]; exact hi))
  rw [C.out.1,← eW1] at q
  exact q
 obtain ⟨Q,eQ⟩:∃ Q,Q = w1.heap.size := ⟨_,rfl⟩
 have HQ:Hid (w.heap.size + 2 ≤ Q) := by
  rw [eQ]
  show _ ≤ _
  rw [← S0.out]
  exact B1.out.size
 rw [← eQ] at S2 ⊢
 have X0:Hid (FX h len w Q W1 (fI h len 0) (cI h len 0) true) := ⟨below_up rfl B0.out B01.out,S2.out,rowIs_later R0.out B01.out,rowIs_later F0.out B01.out⟩
 rw [← eW1]
 clear eQ eW1 HST C S2 hz B0 S0 R0 F0 B1 B01 ZS
 go_loopw [5] (fun x wr => ∃ i:Nat,i ≤ len ∧ x = .int .i64 (i:Int) ∧ Hid (FX h len w Q wr (fI h len i) (cI h len i) true)) (fun x _ => len - (intOf x).toNat)
 case atStart => exact ⟨0,by omega,rfl,X0.out⟩
 case round =>
  clear X0
  obtain ⟨i,hi,rfl,hX⟩ := hrel
  by_cases hlt:i < len
  ·obtain ⟨b,off,rfl,-,-⟩ := G.out.2 (by omega)
   have hi0:(0:Int) ≤ (i:Int) := by omega
   have hil:(i:Int) < (len:Int) := by omega
   have hi60:(i:Int) < 60 := by omega
   have X1:Hid (FX h len w Q wr (fI h len i && fK h len i (i + 1)) (cI h len i && cK h len i (i + 1)) true) := hX.out.to (by rw [fK_start,Bool.and_true]) (by rw [cK_start,Bool.and_true]) rfl
   obtain ⟨w_1,ew⟩:∃ W,W = wr := ⟨_,rfl⟩
   subst ew
   go_wp2
   go_loopw [6] (fun x wr => ∃ k:Nat,i + 1 ≤ k ∧ k ≤ len ∧ x = .int .i64 (k:Int) ∧ Hid (FX h len w Q wr (fI h len i && fK h len i k) (cI h len i && cK h len i k) true)) (fun x _ => len - (intOf x).toNat)
   case atStart => exact ⟨i + 1,by omega,by omega,by go_num,X1.out⟩
   case round =>
    clear X1
    obtain ⟨k,hik,hk,rfl,hX⟩ := hrel
    by_cases hltk:k < len
    ·have hk0:(0:Int) ≤ (k:Int) := by omega
     have hkl:(k:Int) < (len:Int) := by omega
     have hk60:(k:Int) < 60 := by omega
     obtain ⟨x0,x1,x2⟩ := Ew.ev3 G.out hX.out.1 hlt
     obtain ⟨y0,y1,y2⟩ := Ew.ev3 G.out hX.out.1 hltk
     have z0 := hX.out.bef HG.out h60 hlt hltk
     obtain ⟨s,es⟩:∃ s,s = ev h i := ⟨_,rfl⟩
     obtain ⟨t,et⟩:∃ t,t = ev h k := ⟨_,rfl⟩
     obtain ⟨bv,eb⟩:∃ b,b = bef h i k := ⟨_,rfl⟩
     rw [← es] at x0 x1 x2
     rw [← et] at y0 y1 y2
     rw [← eb] at z0
     obtain ⟨s0,s1,s2⟩ := s
     obtain ⟨t0,t1,t2⟩ := t
     have EV:Hid ((s0,s1,s2) = ev h i ∧ (t0,t1,t2) = ev h k) := ⟨es,et⟩
     have PR:Hid (pairB h i k = (decide (s1 = 2) && decide (t1 = 2) && bv)) := by
      show pairB h i k = _
      unfold pairB
      rw [← es,← et,← eb,decide_eq_true (show i < k by omega),Bool.true_and]
     clear es et eb
     by_cases g1:s1 = 2
     ·subst g1
      by_cases g2:t1 = 2
      ·subst g2
       cases bv with
       | false =>
        have PN:Hid (pairB h i k = false) := PR.out
        go_wp2
        go_roundw
        case rel => exact ⟨k + 1,by omega,by omega,by go_num,hX.out.to (fK_no PN.out _) (cK_no PN.out _) rfl⟩
        case measure => simp [intOf]; omega
       | true =>
        have PY:Hid (pairB h i k = true) := PR.out
        have X2:Hid (FX h len w Q wr ((fI h len i && fK h len i k) && fJ h i k (k + 1)) ((cI h len i && cK h len i k) && cJ h i k (k + 1)) true) := hX.out.to (by rw [fJ_start,Bool.and_true]) (by rw [cJ_start,Bool.and_true]) rfl
        obtain ⟨w_2,ew⟩:∃ W,W = wr := ⟨_,rfl⟩
        subst ew
        go_wp2
        clear z0 x0 x1 x2 y0 y1 y2
        go_loopw [7] (fun x wr => ∃ j:Nat,k + 1 ≤ j ∧ j ≤ len ∧ x = .int .i64 (j:Int) ∧ Hid (FX h len w Q wr ((fI h len i && fK h len i k) && fJ h i k j) ((cI h len i && cK h len i k) && cJ h i k j) true)) (fun x _ => len - (intOf x).toNat)
        case atStart => exact ⟨k + 1,by omega,by omega,by go_num,X2.out⟩
        case round =>
         clear X2 hX
         obtain ⟨j,hkj,hj,rfl,hX⟩ := hrel
         by_cases hltj:j < len
         ·have hj0:(0:Int) ≤ (j:Int) := by omega
          have hjl:(j:Int) < (len:Int) := by omega
          obtain ⟨x0,x1,x2⟩ := Ew.ev3 G.out hX.out.1 hlt
          obtain ⟨y0,y1,y2⟩ := Ew.ev3 G.out hX.out.1 hltk
          obtain ⟨v0,v1,v2⟩ := Ew.ev3 G.out hX.out.1 hltj
          rw [← EV.out.1] at x0 x1 x2
          rw [← EV.out.2] at y0 y1 y2
          obtain ⟨r,er⟩:∃ r,r = ev h j := ⟨_,rfl⟩
          rw [← er] at v0 v1 v2
          obtain ⟨r0,r1,r2⟩ := r
          have ER:Hid ((r0,r1,r2) = ev h j) := er
          have MS:Hid (missB h i k j = (decide (r1 = 3) && decide (r2 = t2) && !(hadB h i j j))) := by
           show missB h i k j = _
           unfold missB
           rw [← er,← EV.out.2,decide_eq_true (show k < j by omega),Bool.true_and]
          clear er
          by_cases g3:r1 = 3
          ·subst g3
           by_cases g4:r2 = t2
           ·have g4':(r2 != t2) = false := by simp [g4]
            have MS2:Hid (missB h i k j = !(hadB h i j j)) := by show _ = _; rw [MS.out,decide_eq_true g4]; simp
            clear g4
            go_wp2
            go_quiet (fail)
            go_wp2
            obtain ⟨w_3,ew⟩:∃ W,W = wr := ⟨_,rfl⟩
            subst ew
            go_loopw [8,9] (fun v x wi => ∃ m:Nat,m ≤ j ∧ x = .int .i64 (m:Int) ∧ v = .bool (hadB h i j m) ∧ (∃ n,wi = w_3.drewN n)) (fun _ x _ => j - (intOf x).toNat)
            case atStart => exact ⟨0,by omega,rfl,rfl,⟨_,rfl⟩⟩
            case round =>
             obtain ⟨m,hm,rfl,rfl,⟨nd,rfl⟩⟩ := hrel
             obtain ⟨hd,eh⟩:∃ b,b = hadB h i j m := ⟨_,rfl⟩
             rw [← eh]
             by_cases hltm:m < j
             ·have hm0:(0:Int) ≤ (m:Int) := by omega
              have hmj:(m:Int) < (j:Int) := by omega
              have hml:(m:Int) < (len:Int) := by omega
              obtain ⟨u0,u1,u2⟩ := Ew.ev3 G.out hX.out.1 (show m < len by omega)
              obtain ⟨p,ep⟩:∃ p,p = ev h m := ⟨_,rfl⟩
              rw [← ep] at u0 u1 u2
              obtain ⟨p0,p1,p2⟩ := p
              have HS:Hid (hadB h i j (m + 1) = (hd || (decide (p0 = r0) && decide (p2 = s2) && decide (p1 ≠ 1)))) := by
               show _ = _
               rw [hadB_step,← eh,← ep,← ER.out,← EV.out.1]
              clear ep eh
              cases hd with
              | true =>
               have HN:Hid (hadB h i j (m + 1) = true) := by show _ = _; rw [HS.out]; simp
               go_wp2
               go_quiet (fail)
               go_wp2
               go_roundw
               case rel => exact ⟨m + 1,by omega,by go_num,by rw [HN.out],⟨_,rfl⟩⟩
               case measure => simp [intOf]; omega
              | false =>
               by_cases f1:p0 = r0
               ·have f1':(p0 == r0) = true := by simp [f1]
                by_cases f2:p2 = s2
                ·have f2':(p2 == s2) = true := by simp [f2]
                 by_cases f3:p1 = 1
                 ·subst f3
                  have HN:Hid (hadB h i j (m + 1) = false) := by show _ = _; rw [HS.out]; simp
                  go_wp2
                  go_quiet (fail)
                  go_wp2
                  go_roundw
                  case rel => exact ⟨m + 1,by omega,by go_num,by rw [HN.out],⟨_,rfl⟩⟩
                  case measure => simp [intOf]; omega
                 ·have f3':(p1 != 1) = true := by rw [bne_iff_ne]; exact f3
                  have HN:Hid (hadB h i j (m + 1) = true) := by show _ = _; rw [HS.out]; simp [f1,f2,f3]
                  go_wp2
                  go_quiet (fail)
                  go_wp2
                  go_roundw
                  case rel => exact ⟨m + 1,by omega,by go_num,by rw [HN.out],⟨_,rfl⟩⟩
                  case measure => simp [intOf]; omega
                ·have f2':(p2 == s2) = false := by simp [f2]
                 have HN:Hid (hadB h i j (m + 1) = false) := by show _ = _; rw [HS.out]; simp [f2]
                 go_wp2
                 go_quiet (fail)
                 go_wp2
                 go_roundw
                 case rel => exact ⟨m + 1,by omega,by go_num,by rw [HN.out],⟨_,rfl⟩⟩
                 case measure => simp [intOf]; omega
               ·have f1':(p0 == r0) = false := by simp [f1]
                have HN:Hid (hadB h i j (m + 1) = false) := by show _ = _; rw [HS.out]; simp [f1]
                go_wp2
                go_quiet (fail)
                go_wp2
                go_roundw
                case rel => exact ⟨m + 1,by omega,by go_num,by rw [HN.out],⟨_,rfl⟩⟩
                case measure => simp [intOf]; omega
             ·have hmj:j = m := by omega
              subst hmj
              cases hd with
              | true =>
               have MN:Hid (missB h i k j = false) := by show _ = _; rw [MS2.out,← eh]; rfl
               clear eh
               go_wp2
               go_roundw
               case rel => exact ⟨j + 1,by omega,by omega,by go_num,(hX.out.drewN _).to (by rw [fJ_no MN.out]) (by rw [cJ_no MN.out]) rfl⟩
               case measure => simp [intOf]; omega
              | false =>
               have MY:Hid (missB h i k j = true) := by show _ = _; rw [MS2.out,← eh]; rfl
               obtain ⟨k1,k2⟩ := hX.out.place (i := 1) (by omega)
               obtain ⟨k3,k4⟩ := hX.out.place (i := 0) (by omega)
               have XC:Hid (FX h len w Q ((w_3.drewN nd).setCell ⟨w.heap.size + 1,1,none⟩ (.bool false)) ((fI h len i && fK h len i k) && fJ h i k j) false true) := (hX.out.drewN nd).setC HQ.out
               clear eh
               by_cases f4:s0 = t0
               ·have f4':(s0 == t0) = true := by simp [f4]
                have SM:Hid (smB h i k = true) := by show _ = _; unfold smB; rw [← EV.out.1,← EV.out.2]; exact decide_eq_true f4
                go_wp2
                obtain ⟨w_4,e4⟩:∃ W,W = (w_3.drewN nd).setCell ⟨w.heap.size + 1,1,none⟩ (.bool false) := ⟨_,rfl⟩
                rw [← e4] at XC ⊢
                clear x0 x1 x2 y0 y1 y2 v0 v1 v2 k1 k2 k3 k4 e4
                obtain ⟨x0,x1,x2⟩ := Ew.ev3 G.out XC.out.1 hlt
                obtain ⟨y0,y1,y2⟩ := Ew.ev3 G.out XC.out.1 hltk
                obtain ⟨k3,k4⟩ := XC.out.place (i := 0) (by omega)
                rw [← EV.out.1] at x0 x1 x2
                rw [← EV.out.2] at y0 y1 y2
                go_quiet (fail)
                go_wp2
                go_roundw
                case rel => exact ⟨j + 1,by omega,by omega,by go_num,((XC.out.drewN _).setF HQ.out).to (by rw [fJ_same MY.out SM.out,Bool.and_false]) (by rw [cJ_yes MY.out,Bool.and_false]) rfl⟩
                case measure => simp [intOf]; omega
               ·have f4':(s0 == t0) = false := by simp [f4]
                have SM:Hid (smB h i k = false) := by show _ = _; unfold smB; rw [← EV.out.1,← EV.out.2]; exact decide_eq_false f4
                go_wp2
                obtain ⟨w_4,e4⟩:∃ W,W = (w_3.drewN nd).setCell ⟨w.heap.size + 1,1,none⟩ (.bool false) := ⟨_,rfl⟩
                rw [← e4] at XC ⊢
                clear x0 x1 x2 y0 y1 y2 v0 v1 v2 k1 k2 k3 k4 e4
                obtain ⟨x0,x1,x2⟩ := Ew.ev3 G.out XC.out.1 hlt
                obtain ⟨y0,y1,y2⟩ := Ew.ev3 G.out XC.out.1 hltk
                obtain ⟨k3,k4⟩ := XC.out.place (i := 0) (by omega)
                rw [← EV.out.1] at x0 x1 x2
                rw [← EV.out.2] at y0 y1 y2
                go_quiet (fail)
                go_wp2
                go_roundw
                case rel => exact ⟨j + 1,by omega,by omega,by go_num,(XC.out.drewN _).to (by rw [fJ_other (j := j) SM.out]) (by rw [cJ_yes MY.out,Bool.and_false]) rfl⟩
                case measure => simp [intOf]; omega
           ·have g4':(r2 != t2) = true := by rw [bne_iff_ne]; exact g4
            have MN:Hid (missB h i k j = false) := by show _ = _; rw [MS.out]; simp [g4]
            go_wp2
            go_quiet (fail)
            go_wp2
            go_roundw
            case rel => exact ⟨j + 1,by omega,by omega,by go_num,(hX.out.drewN _).to (by rw [fJ_no MN.out]) (by rw [cJ_no MN.out]) rfl⟩
            case measure => simp [intOf]; omega
          ·have g3':(r1 != 3) = true := by rw [bne_iff_ne]; exact g3
           have MN:Hid (missB h i k j = false) := by show _ = _; rw [MS.out]; simp [g3]
           go_wp2
           go_quiet (fail)
           go_wp2
           go_roundw
           case rel => exact ⟨j + 1,by omega,by omega,by go_num,(hX.out.drewN _).to (by rw [fJ_no MN.out]) (by rw [cJ_no MN.out]) rfl⟩
           case measure => simp [intOf]; omega
         ·have hjl:len = j := by omega
          subst hjl
          go_wp2
          go_roundw
          case rel => exact ⟨k + 1,by omega,by omega,by go_num,hX.out.to (fK_yes PY.out _) (cK_yes PY.out _) rfl⟩
          case measure => simp [intOf]; omega
      ·have g2':(t1 != 2) = true := by rw [bne_iff_ne]; exact g2
       have PN:Hid (pairB h i k = false) := by show _ = _; rw [PR.out]; simp [g2]
       go_wp2
       go_roundw
       case rel => exact ⟨k + 1,by omega,by omega,by go_num,hX.out.to (fK_no PN.out _) (cK_no PN.out _) rfl⟩
       case measure => simp [intOf]; omega
     ·have g1':(s1 != 2) = true := by rw [bne_iff_ne]; exact g1
      have PN:Hid (pairB h i k = false) := by show _ = _; rw [PR.out]; simp [g1]
      go_wp2
      go_roundw
      case rel => exact ⟨k + 1,by omega,by omega,by go_num,hX.out.to (fK_no PN.out _) (cK_no PN.out _) rfl⟩
      case measure => simp [intOf]; omega
    ·have hkl:len = k := by omega
     subst hkl
     go_wp2
     go_roundw
     case rel => exact ⟨i + 1,by omega,by go_num,hX.out.to (fI_step _ _ _).symm (cI_step _ _ _).symm rfl⟩
     case measure => simp [intOf]; omega
  ·have hil:len = i := by omega
   subst hil
   obtain ⟨w_1,ew⟩:∃ W,W = wr := ⟨_,rfl⟩
   subst ew
   obtain ⟨FF,eF⟩:∃ b,b = fI h len len := ⟨_,rfl⟩
   obtain ⟨CC,eC⟩:∃ b,b = cI h len len := ⟨_,rfl⟩
   have X1:Hid (FX h len w Q w_1 FF CC (tA h 0)) := by
    rw [eF,eC]
    exact hX.out
   have EFC:Hid (FF = fI h len len ∧ CC = cI h len len) := ⟨eF,eC⟩
   clear hX eF eC
   go_wp2
   go_loopw [10] (fun x wr => ∃ m:Nat,m ≤ 5 ∧ x = .int .i64 (m:Int) ∧ Hid (FX h len w Q wr FF CC (tA h m))) (fun x _ => 5 - (intOf x).toNat)
   case atStart => exact ⟨0,by omega,rfl,X1.out⟩
   case round =>
    clear X1
    obtain ⟨m,hm,rfl,hX⟩ := hrel
    by_cases hlt5:m < 5
    ·have hm0:(0:Int) ≤ (m:Int) := by omega
     have hm5:(m:Int) < 5 := by omega
     obtain ⟨X,eX⟩:∃ X,X = hrd h (m:Int) := ⟨_,rfl⟩
     have EX:Hid (X = hrd h (m:Int) ∧ X.length ≤ 60) := ⟨eX,by rw [eX]; exact Nat.le_trans (hrd_len _ _) (by rw [HL.out]; exact h60)⟩
     go_wp2_with fail
     refine (refHeard a len cap h (m:Int) _ h60 (G.out.later hX.out.1)).mono ?_
     rintro e w_2 ⟨⟨v,rfl,ho⟩,hb⟩
     rw [← eX] at ho
     obtain ⟨q,d,rfl,hvx,-,-,hq⟩ := own_sl ho
     have X2:Hid (FX h len w Q w_2 FF CC (tA h m && tC h m 0)) := (hX.out.later hb).to rfl rfl (by rw [tC_zero,Bool.and_true])
     have VX:Hid (Vw w_2 q X.length X) := hvx
     have QX:Hid (∀ p,q = some p → w.heap.size + 2 ≤ p.block) := fun p hp => Nat.le_trans (Nat.le_trans HQ.out (Nat.le_of_lt (Sq.lt hX.out.2.1))) (hq p hp)
     have hXL:X.length ≤ 60 := EX.out.2
     clear ho hb hvx hq hX eX
     go_wp2
     go_loopw [12] (fun x wr => ∃ c:Nat,c ≤ m ∧ x = .int .i64 (c:Int) ∧ Hid (FX h len w Q wr FF CC (tA h m && tC h m c)) ∧ Hid (Vw wr q X.length X)) (fun x _ => m - (intOf x).toNat)
     case atStart => exact ⟨0,by omega,rfl,X2.out,VX.out⟩
     case round =>
      clear X2 VX
      obtain ⟨c,hc,rfl,hX,hV⟩ := hrel
      by_cases hltc:c < m
      ·have hc0:(0:Int) ≤ (c:Int) := by omega
       have hcm:(c:Int) < (m:Int) := by omega
       obtain ⟨Y,eY⟩:∃ Y,Y = hrd h (c:Int) := ⟨_,rfl⟩
       have EY:Hid (Y = hrd h (c:Int) ∧ Y.length ≤ 60 ∧ Y.length ≤ maxLen) := by
        have hy:Y.length ≤ 60 := by rw [eY]; exact Nat.le_trans (hrd_len _ _) (by rw [HL.out]; exact h60)
        exact ⟨eY,hy,by unfold maxLen; omega⟩
       go_wp2_with fail
       refine (refHeard a len cap h (c:Int) _ h60 (G.out.later hX.out.1)).mono ?_
       rintro e w_3 ⟨⟨v,rfl,ho⟩,hb⟩
       rw [← eY] at ho
       obtain ⟨q',d',rfl,hvy,-,-,hq⟩ := own_sl ho
       have X3:Hid (FX h len w Q w_3 FF CC ((tA h m && tC h m c) && tI X Y 0)) := (hX.out.later hb).to rfl rfl (by rw [tI_zero,Bool.and_true])
       have VV:Hid (Vw w_3 q X.length X ∧ Vw w_3 q' Y.length Y) := ⟨Vw.later hV.out hb,hvy⟩
       have QY:Hid (∀ p,q' = some p → w.heap.size + 2 ≤ p.block) := fun p hp => Nat.le_trans (Nat.le_trans HQ.out (Nat.le_of_lt (Sq.lt hX.out.2.1))) (hq p hp)
       clear ho hb hvy hq hX hV eY
       go_wp2
       go_loopw [14] (fun x wr => ∃ i:Nat,i ≤ X.length ∧ x = .int .i64 (i:Int) ∧ Hid (FX h len w Q wr FF CC ((tA h m && tC h m c) && tI X Y i)) ∧ Hid (Vw wr q X.length X ∧ Vw wr q' Y.length Y)) (fun x _ => X.length - (intOf x).toNat)
       case atStart => exact ⟨0,by omega,rfl,X3.out,VV.out⟩
       case round =>
        clear X3 VV
        obtain ⟨i,hi,rfl,hX,hV⟩ := hrel
        by_cases hlti:i < X.length
        ·have hi0:(0:Int) ≤ (i:Int) := by omega
         have hil:(i:Int) < (X.length:Int) := by omega
         have hi60:(i:Int) < 60 := by omega
         have X4:Hid (FX h len w Q wr FF CC (((tA h m && tC h m c) && tI X Y i) && tK X Y i (i + 1))) := hX.out.to rfl rfl (by rw [tK_start,Bool.and_true])
         have V4:Hid (Vw wr q X.length X ∧ Vw wr q' Y.length Y) := hV.out
         obtain ⟨w_4,ew⟩:∃ W,W = wr := ⟨_,rfl⟩
         subst ew
         clear hX hV
         go_wp2
         go_loopw [15] (fun x wr => ∃ k:Nat,i + 1 ≤ k ∧ k ≤ X.length ∧ x = .int .i64 (k:Int) ∧ Hid (FX h len w Q wr FF CC (((tA h m && tC h m c) && tI X Y i) && tK X Y i k)) ∧ Hid (Vw wr q X.length X ∧ Vw wr q' Y.length Y)) (fun x _ => X.length - (intOf x).toNat)
         case atStart => exact ⟨i + 1,by omega,by omega,by go_num,X4.out,V4.out⟩
         case round =>
          clear X4 V4
          obtain ⟨k,hik,hk,rfl,hX,hV⟩ := hrel
          by_cases hltk:k < X.length
          ·have hk0:(0:Int) ≤ (k:Int) := by omega
           have hkl:(k:Int) < (X.length:Int) := by omega
           have hk60:(k:Int) < 60 := by omega
           obtain ⟨b1,o1,rfl,-,hcs⟩ := hV.out.1.2 (by omega)
           have ci := hcs i hlti
           have ck := hcs k hltk
           obtain ⟨xi,ei⟩:∃ x,x = X.getD i 0 := ⟨_,rfl⟩
           obtain ⟨xk,ek⟩:∃ x,x = X.getD k 0 := ⟨_,rfl⟩
           rw [← ei] at ci
           rw [← ek] at ck
           have UB:Hid (unB X Y i k = (decide (0 ≤ ixI Y xi) && decide (0 ≤ ixI Y xk) && decide (ixI Y xk < ixI Y xi))) := by
            show _ = _
            rw [unB_eq (show i < k by omega),ei,ek]
           clear hcs ei ek
           go_wp2_with fail
           refine (refAt q' Y.length d' Y xi _ EY.out.2.2 hV.out.2).mono ?_
           rintro e w_5 ⟨rfl,rfl⟩
           go_wp2_with fail
           refine (refAt q' Y.length d' Y xk _ EY.out.2.2 hV.out.2).mono ?_
           rintro e w_6 ⟨rfl,rfl⟩
           obtain ⟨p,ep⟩:∃ x,x = ixI Y xi := ⟨_,rfl⟩
           obtain ⟨r,er⟩:∃ x,x = ixI Y xk := ⟨_,rfl⟩
           rw [← ep,← er] at UB
           rw [← ep,← er]
           clear ep er
           by_cases g1:p < 0
           ·have UN:Hid (unB X Y i k = false) := by show _ = _; rw [UB.out]; simp; omega
            have g1':decide (0 ≤ p) = false := decide_eq_false (by omega)
            go_wp2
            go_roundw
            case rel => exact ⟨k + 1,by omega,by omega,by go_num,hX.out.to rfl rfl (by rw [tK_no UN.out]),hV.out⟩
            case measure => simp [intOf]; omega
           ·have g1':decide (0 ≤ p) = true := decide_eq_true (by omega)
            have g1'':0 ≤ p := by omega
            by_cases g2:r < 0
            ·have UN:Hid (unB X Y i k = false) := by show _ = _; rw [UB.out]; simp; omega
             have g2':decide (0 ≤ r) = false := decide_eq_false (by omega)
             go_wp2
             go_roundw
             case rel => exact ⟨k + 1,by omega,by omega,by go_num,hX.out.to rfl rfl (by rw [tK_no UN.out]),hV.out⟩
             case measure => simp [intOf]; omega
            ·have g2':decide (0 ≤ r) = true := decide_eq_true (by omega)
             have g2'':0 ≤ r := by omega
             by_cases g3:r < p
             ·have UY:Hid (unB X Y i k = true) := by show _ = _; rw [UB.out]; simp; omega
              obtain ⟨k1,k2⟩ := hX.out.place (i := 2) (by omega)
              have g3':decide (r < p) = true := decide_eq_true g3
              go_wp2
              go_roundw
              case rel => exact ⟨k + 1,by omega,by omega,by go_num,(hX.out.setT HQ.out).to rfl rfl (by rw [tK_yes UY.out,Bool.and_false]),vw_setAway hV.out.1 (fun p hp e => by have := QX.out p hp; rw [e] at this; omega) _,vw_setAway hV.out.2 (fun p hp e => by have := QY.out p hp; rw [e] at this; omega) _⟩
              case measure => simp [intOf]; omega
             ·have UN:Hid (unB X Y i k = false) := by show _ = _; rw [UB.out]; simp; omega
              have g3':decide (r < p) = false := decide_eq_false g3
              go_wp2
              go_roundw
              case rel => exact ⟨k + 1,by omega,by omega,by go_num,hX.out.to rfl rfl (by rw [tK_no UN.out]),hV.out⟩
              case measure => simp [intOf]; omega
          ·have hkx:k = X.length := by omega
           go_wp2
           go_roundw
           case rel => exact ⟨i + 1,by omega,by go_num,hX.out.to rfl rfl (by rw [hkx]; exact tI_step X Y i _),hV.out⟩
           case measure => simp [intOf]; omega
        ·have hix:i = X.length := by omega
         have XC:Hid (FX h len w Q wr FF CC (tA h m && tC h m (c + 1))) := hX.out.to rfl rfl (by rw [hix,EX.out.1,EY.out.1]; exact tC_step h m c _)
         go_wp2
         go_roundw
         case rel => exact ⟨c + 1,by omega,by go_num,XC.out,hV.out.1⟩
         case measure => simp [intOf]; omega
      ·have hcm:c = m := by omega
       have XA:Hid (FX h len w Q wr FF CC (tA h (m + 1))) := hX.out.to rfl rfl (by rw [hcm,tA_step])
       go_wp2
       go_roundw
       case rel => exact ⟨m + 1,by omega,by go_num,XA.out⟩
       case measure => simp [intOf]; omega
    ·have hm5:m = 5 := by omega
     subst hm5
     obtain ⟨TT,eT⟩:∃ b,b = tA h 5 := ⟨_,rfl⟩
     rw [← eT] at hX
     have ET:Hid (TT = tA h 5) := eT
     clear eT
     have c0:wr.cell? ⟨w.heap.size + 1,0,none⟩ = some (.bool FF) := (hX.out.place (i := 0) (by omega)).1
     have c1:wr.cell? ⟨w.heap.size + 1,1,none⟩ = some (.bool CC) := (hX.out.place (i := 1) (by omega)).1
     have c2:wr.cell? ⟨w.heap.size + 1,2,none⟩ = some (.bool TT) := (hX.out.place (i := 2) (by omega)).1
     have r0 := World.rowIs.cell hX.out.2.2.1 (i := 0) (by omega)
     have r1 := World.rowIs.cell hX.out.2.2.1 (i := 1) (by omega)
     have r2 := World.rowIs.cell hX.out.2.2.1 (i := 2) (by omega)
     have f0 := World.rowIs.frozen hX.out.2.2.1 0
     have f1 := World.rowIs.frozen hX.out.2.2.1 1
     have f2 := World.rowIs.frozen hX.out.2.2.1 2
     go_wp2
     have t3 := ((World.rowIs.set hX.out.2.2.1 0 (.bool FF)).set 1 (.bool CC)).set 2 (.bool TT)
     have y0 := t3.cell (i := 0) (by omega)
     have y1 := t3.cell (i := 1) (by omega)
     have y2 := t3.cell (i := 2) (by omega)
     simp at y0 y1 y2
     refine bodyPost_ret (v := .agg #[.bool FF,.bool CC,.bool TT]) ?_ rfl ?_
     ·exact ret3f rfl rfl y0 y1 y2
     refine ⟨by rw [EFC.out.1,EFC.out.2,ET.out],?_⟩
     exact ((hX.out.1.setCell (p := ⟨_,_,none⟩) (Nat.le_refl _) _).setCell (p := ⟨_,_,none⟩) (Nat.le_refl _) _).setCell (p := ⟨_,_,none⟩) (Nat.le_refl _) _
end Go.Proofs.YtdmniblonikjlakGreatDoor.His
