/-
  Texts put together: RefA, RefFm.
-/
import Derived.Test.YtdmniblonikjlakGreatDoorPrF
import Derived.Test.YtdmniblonikjlakGreatDoorPsM
import Derived.Test.YtdmniblonikjlakGreatDoorPsN


namespace Go.Proofs.YtdmniblonikjlakGreatDoor.His
open Go.RowKit
open Vec
theorem refAt (a:Option Addr) (len cap:Nat) (xs:List Int) (n:Int) (w:World) (hm:len ≤ maxLen) (hv:Vw w a len xs) :
  Calls Tryz.prog 107 #[.slice a len cap,.int .i64 n] w fun e w' => e = .returned (.int .i64 (ixI xs n)) ∧ w' = w := by
 unfold maxLen at hm
 have G:Hid (Vw w a len xs) := hv
 clear hv
 go_enter Tryz.func107,Tryz.ntmps107
 go_wp2
 go_loopw [5] (fun i wr => ∃ k:Nat,k ≤ len ∧ i = .int .i64 k ∧ wr = w ∧ Hid (∀ j,j < k → xs.getD j 0 ≠ n)) (fun i _ => len - (intOf i).toNat)
 case atStart => exact ⟨0,by omega,rfl,rfl,fun j hj => absurd hj (by omega)⟩
 case round =>
  obtain ⟨k,hk,rfl,rfl,hp⟩ := hrel
  by_cases hlt:k < len
  ·obtain ⟨b,off,rfl,_,hcs⟩ := G.out.2 (by omega)
   have c0 := hcs k hlt
   obtain ⟨x,ex⟩:∃ x,x = xs.getD k 0 := ⟨_,rfl⟩
   rw [← ex] at c0
   have EX:Hid (x = xs.getD k 0) := ex
   have hk0:(0:Int) ≤ (k:Int) := by omega
   have hkl:(k:Int) < (len:Int) := by omega
   clear hcs ex
   by_cases hx:x = n
   ·subst hx
    have ht:(x == x) = true := by simp
    go_wp2
    go_ret
    exact ⟨ret_int (ix_hit (by rw [G.out.1]; exact hlt) EX.out.symm hp.out).symm,rfl⟩
   ·have ht:(x == n) = false := by simp [hx]
    have HX:Hid (x ≠ n) := hx
    go_wp2
    go_roundw
    case rel => exact ⟨k + 1,by omega,by go_num,by first | rfl | trivial,fun j hj => if e:j < k then hp.out j e else by rw [show j = k by omega,← EX.out]; exact HX.out⟩
    case measure => simp [intOf]; omega
  ·go_wp2
   go_ret
   exact ⟨ret_int (ix_miss fun j hj => hp.out j (by have := G.out.1; omega)).symm,rfl⟩
set_option maxRecDepth 100000 in
set_option maxHeartbeats 4000000 in
theorem refHeard (a:Option Addr) (len cap:Nat) (h:List Ev) (who:Int) (w:World) (h60:len ≤ 60) (hv:Ew w a len h) :
  Calls Tryz.prog 65 #[.slice a len cap,.int .i64 who] w fun x w' => (∃ v,x = .returned v ∧ w'.ownsRow w.heap.size 3 1 v (hrd h who).length ((hrd h who).map (Value.int .i64))) ∧ Below w.heap.size w w' := by
 have G:Hid (Ew w a len h) := hv
 obtain ⟨ie,hi,hz0,hz1,hz2⟩ := info_int
 have HI:Hid (Tryz.prog.info? 3 = some ie ∧ ie.zero = some (.int .i64 0) ∧ ie.size = 1 ∧ ie.bytes = 8) := ⟨hi,hz0,hz1,hz2⟩
 clear hv hi hz0 hz1 hz2
 go_enter Tryz.func65,Tryz.ntmps65
 go_wp2
 go_loopw [5,6] (fun v x wr => ∃ k:Nat,k ≤ len ∧ x = .int .i64 k ∧ Hid (Below w.heap.size w wr) ∧ Hid (wr.ownsRow w.heap.size 3 1 v (hrd (h.take k) who).length ((hrd (h.take k) who).map (Value.int .i64)))) (fun _ x _ => len - (intOf x).toNat)
 case atStart => exact ⟨0,by omega,rfl,Below.refl _ _,World.ownsRow_nil _ _ _ _⟩
 case round =>
  obtain ⟨k,hk,rfl,hbel,hO⟩ := hrel
  by_cases hlt:k < len
  ·have hk0:(0:Int) ≤ (k:Int) := by omega
   have hkl:(k:Int) < (len:Int) := by omega
   obtain ⟨p,pc,rfl,-⟩ := own_vw hO.out
   have hkx:Hid (k < h.length) := by rw [← G.out.1] at hlt; exact hlt
   obtain ⟨b1,off,rfl,_,hcs⟩ := (G.out.later hbel.out).2 (by omega)
   obtain ⟨c0,c1,c2⟩ := hcs k hlt
   obtain ⟨q,eq⟩:∃ q,q = ev h k := ⟨_,rfl⟩
   rw [← eq] at c0 c1 c2
   obtain ⟨q0,q1,q2⟩ := q
   have EQ:Hid _ := eq
   have BL:Hid ((hrd (h.take k) who).length ≤ k) := Nat.le_trans (hrd_len _ _) (by rw [List.length_take]; exact Nat.min_le_left _ _)
   have B1:Hid (Below w.heap.size w wr) := hbel.out
   have O1:Hid _ := hO.out
   have S0:Hid (hrd (h.take (k + 1)) who = hrd (h.take k) who ++ (if has who (q0,q1,q2) then [q2] else [])) := by show _ = _; rw [hrd_step h who hkx.out,← EQ.out]
   clear hcs eq
   have SZ:Hid (w.heap.size ≤ wr.heap.size) := hbel.out.size
   by_cases g0:q0 = who
   ·subst g0
    by_cases g1:q1 = 1
    ·subst g1
     have S1:Hid (hrd (h.take (k + 1)) q0 = hrd (h.take k) q0) := by show _ = _; rw [S0.out]; simp [has]
     go_wp2
     go_roundw
     case rel =>
      refine ⟨k + 1,by omega,by go_num,B1.out,?_⟩
      show World.ownsRow _ _ _ _ _ _ _
      rw [S1.out]
      exact O1.out
     case measure => simp [intOf]; omega
    ·have g1':(q1 != 1) = true := by rw [bne_iff_ne]; exact g1
     have S1:Hid (hrd (h.take (k + 1)) q0 = hrd (h.take k) q0 ++ [q2]) := by show _ = _; rw [S0.out]; simp [has,g1]
     go_wp2_with (at_builtin; refine wpList_append_own _ rfl _ _ 30 rfl w.heap.size 3 ie (.int .i64 0) 1 8 Tryz.underlying30 HI.out.1 HI.out.2.1 HI.out.2.2.1 HI.out.2.2.2 rfl (by decide) _ (hrd (h.take k) q0).length _ rfl (by exact own_later O1.out ((Below.refl _ _).alloc (Nat.le_refl _) _)) ⟨wr.heap.size,0,none⟩ 1 1 [.int .i64 q2] rfl rfl (by exact new_int _ _ (by simp) q2 3) (int_one _) (by have := BL.out; unfold maxLen; omega) (by have := BL.out; omega) (by have := SZ.out; simp; omega) ?_; intro v' wn hown hgrow _; have HO:Hid _ := hown; have HGr:Hid _ := hgrow; clear hown hgrow)
     go_roundw
     case rel =>
      refine ⟨k + 1,by omega,by go_num,?_,?_⟩
      ·exact (B1.out.alloc B1.out.size _).grown HGr.out (by have := SZ.out; simp; omega) (own_base O1.out)
      ·show World.ownsRow _ _ _ _ _ _ _
       rw [S1.out,List.length_append,List.map_append]
       exact HO.out
     case measure => simp [intOf]; omega
   ·have g0':(q0 == who) = false := by simp [g0]
    have S1:Hid (hrd (h.take (k + 1)) who = hrd (h.take k) who) := by show _ = _; rw [S0.out]; simp [has,g0]
    go_wp2
    go_roundw
    case rel =>
     refine ⟨k + 1,by omega,by go_num,B1.out,?_⟩
     show World.ownsRow _ _ _ _ _ _ _
     rw [S1.out]
     exact O1.out
    case measure => simp [intOf]; omega
  ·have hkl:k = len := by omega
   subst hkl
   go_wp2
   go_ret
   refine ⟨⟨_,rfl,?_⟩,hbel.out⟩
   have o := hO.out
   rwa [List.take_of_length_le (by rw [G.out.1]; exact Nat.le_refl _)] at o
end Go.Proofs.YtdmniblonikjlakGreatDoor.His


namespace Go.Proofs.YtdmniblonikjlakGreatDoor.His
open Go.RowKit
open Vec
def fv (F C T:Bool) (j:Nat):Value := if j = 0 then .bool F else if j = 1 then .bool C else .bool T
def FX (h:List Ev) (len:Nat) (w:World) (Q:Nat) (wr:World) (F C T:Bool):Prop :=
 Below w.heap.size w wr ∧ Sq wr Q (wa h len len) ∧ wr.rowIs w.heap.size 44 3 (fun _ => .bool false) ∧ wr.rowIs (w.heap.size + 1) 44 3 (fv F C T)
theorem FX.later {h:List Ev} {len:Nat} {w:World} {Q:Nat} {wr w':World} {F C T:Bool} (g:FX h len w Q wr F C T) (hb:Below wr.heap.size wr w'):FX h len w Q w' F C T :=
 ⟨below_up rfl g.1 hb,Sq.later g.2.1 hb,rowIs_later g.2.2.1 hb,rowIs_later g.2.2.2 hb⟩
theorem FX.drewN {h:List Ev} {len:Nat} {w:World} {Q:Nat} {wr:World} {F C T:Bool} (g:FX h len w Q wr F C T) (n:Nat):FX h len w Q (wr.drewN n) F C T := g.later (below_drewN (Below.refl _ _) n)
theorem FX.set {h:List Ev} {len:Nat} {w:World} {Q:Nat} {wr:World} {F C T F' C' T':Bool} (g:FX h len w Q wr F C T) (hQ:w.heap.size + 2 ≤ Q) (i:Nat) (hv:∀ j,j < 3 → (if j = i then Value.bool false else fv F C T j) = fv F' C' T' j):FX h len w Q (wr.setCell ⟨w.heap.size + 1,i,none⟩ (.bool false)) F' C' T' :=
 ⟨g.1.setCell (p := ⟨_,_,none⟩) (Nat.le_succ _) _,World.rowIs.setOther g.2.1 (a := ⟨_,_,none⟩) (by show Q ≠ w.heap.size + 1; omega) _,World.rowIs.setOther g.2.2.1 (a := ⟨_,_,none⟩) (by show w.heap.size ≠ w.heap.size + 1; omega) _,(World.rowIs.set g.2.2.2 i _).congr hv⟩
theorem FX.setF {h:List Ev} {len:Nat} {w:World} {Q:Nat} {wr:World} {F C T:Bool} (g:FX h len w Q wr F C T) (hQ:w.heap.size + 2 ≤ Q):FX h len w Q (wr.setCell ⟨w.heap.size + 1,0,none⟩ (.bool false)) false C T :=
 g.set hQ 0 fun j hj => by rcases j with _ | _ | _ | j <;> first | rfl | omega
theorem FX.setC {h:List Ev} {len:Nat} {w:World} {Q:Nat} {wr:World} {F C T:Bool} (g:FX h len w Q wr F C T) (hQ:w.heap.size + 2 ≤ Q):FX h len w Q (wr.setCell ⟨w.heap.size + 1,1,none⟩ (.bool false)) F false T :=
 g.set hQ 1 fun j hj => by rcases j with _ | _ | _ | j <;> first | rfl | omega
theorem FX.setT {h:List Ev} {len:Nat} {w:World} {Q:Nat} {wr:World} {F C T:Bool} (g:FX h len w Q wr F C T) (hQ:w.heap.size + 2 ≤ Q):FX h len w Q (wr.setCell ⟨w.heap.size + 1,2,none⟩ (.bool false)) F C false :=
 g.set hQ 2 fun j hj => by rcases j with _ | _ | _ | j <;> first | rfl | omega
theorem FX.place {h:List Ev} {len:Nat} {w:World} {Q:Nat} {wr:World} {F C T:Bool} (g:FX h len w Q wr F C T) {i:Nat} (hi:i < 3):wr.cell? ⟨w.heap.size + 1,i,none⟩ = some (fv F C T i) ∧ wr.frozen? ⟨w.heap.size + 1,i,none⟩ = false := ⟨World.rowIs.cell g.2.2.2 hi,World.rowIs.frozen g.2.2.2 i⟩
theorem FX.to {h:List Ev} {len:Nat} {w:World} {Q:Nat} {wr:World} {F C T F' C' T':Bool} (g:FX h len w Q wr F C T) (hF:F = F') (hC:C = C') (hT:T = T'):FX h len w Q wr F' C' T' := by
 subst hF hC hT
 exact g
theorem FX.bef {h:List Ev} {len:Nat} {w:World} {Q:Nat} {wr:World} {F C T:Bool} (g:FX h len w Q wr F C T) (hg:Good h len) (h60:len ≤ 60) {i k:Nat} (hi:i < len) (hk:k < len):wr.cell? ⟨Q,i * 60 + k,none⟩ = some (.bool (bef h i k)) := by
 rw [Sq.cell g.2.1 (by omega) (by omega),wa_eq hg hi hk]
def Ev3 (w:World) (b off:Nat) (k:Nat) (e:Ev):Prop := w.cell? ⟨b,off + k * 3,none⟩ = some (.int .i64 e.1) ∧ w.cell? ⟨b,off + k * 3 + 1,none⟩ = some (.int .i64 e.2.1) ∧ w.cell? ⟨b,off + k * 3 + 2,none⟩ = some (.int .i64 e.2.2)
theorem Ew.ev3 {w w':World} {b off len:Nat} {h:List Ev} (g:Ew w (some ⟨b,off,none⟩) len h) (hb:Below w.heap.size w w') {k:Nat} (hk:k < len):Ev3 w' b off k (ev h k) := by
 obtain ⟨_,_,e,_,hc⟩ := (g.later hb).2 (by omega)
 cases e
 exact hc k hk
theorem all_skip (p:Nat → Bool) (n:Nat) (hp:∀ j,j < n → p j = true):(List.range n).all p = true := by
 rw [List.all_eq_true]
 exact fun j hj => hp j (List.mem_range.1 hj)
theorem fK_start (h:List Ev) (N i:Nat):fK h N i (i + 1) = true := all_skip _ _ fun j hj => by simp [pairB,show ¬ i < j by omega]
theorem cK_start (h:List Ev) (N i:Nat):cK h N i (i + 1) = true := all_skip _ _ fun j hj => by simp [pairB,show ¬ i < j by omega]
theorem cJ_start (h:List Ev) (i k:Nat):cJ h i k (k + 1) = true := all_skip _ _ fun j hj => by simp [missB,show ¬ k < j by omega]
theorem fJ_start (h:List Ev) (i k:Nat):fJ h i k (k + 1) = true := by simp [fJ,cJ_start]
theorem fI_step (h:List Ev) (N i:Nat):fI h N (i + 1) = (fI h N i && fK h N i N) := all_step _ _
theorem cI_step (h:List Ev) (N i:Nat):cI h N (i + 1) = (cI h N i && cK h N i N) := all_step _ _
theorem fK_no {h:List Ev} {N i k:Nat} (hp:pairB h i k = false) (a:Bool):(a && fK h N i k) = (a && fK h N i (k + 1)) := by
 rw [fK,fK,all_step,hp]; simp
theorem cK_no {h:List Ev} {N i k:Nat} (hp:pairB h i k = false) (a:Bool):(a && cK h N i k) = (a && cK h N i (k + 1)) := by
 rw [cK,cK,all_step,hp]; simp
theorem fK_yes {h:List Ev} {N i k:Nat} (hp:pairB h i k = true) (a:Bool):((a && fK h N i k) && fJ h i k N) = (a && fK h N i (k + 1)) := by
 rw [fK,fK,all_step,hp,Bool.and_assoc]; simp
theorem cK_yes {h:List Ev} {N i k:Nat} (hp:pairB h i k = true) (a:Bool):((a && cK h N i k) && cJ h i k N) = (a && cK h N i (k + 1)) := by
 rw [cK,cK,all_step,hp,Bool.and_assoc]; simp
theorem cJ_no {h:List Ev} {i k j:Nat} (hm:missB h i k j = false):cJ h i k j = cJ h i k (j + 1) := by
 rw [cJ,cJ,all_step,hm]; simp
theorem fJ_no {h:List Ev} {i k j:Nat} (hm:missB h i k j = false):fJ h i k j = fJ h i k (j + 1) := by
 rw [fJ,fJ,cJ_no hm]
theorem cJ_yes {h:List Ev} {i k j:Nat} (hm:missB h i k j = true):cJ h i k (j + 1) = false := by
 rw [cJ,all_step,hm]; simp
theorem fJ_same {h:List Ev} {i k j:Nat} (hm:missB h i k j = true) (hs:smB h i k = true):fJ h i k (j + 1) = false := by
 rw [fJ,cJ_yes hm,hs]; rfl
theorem fJ_other {h:List Ev} {i k j:Nat} (hs:smB h i k = false):fJ h i k j = fJ h i k (j + 1) := by
 rw [fJ,fJ,hs]; rfl
theorem hadB_step (h:List Ev) (i j m:Nat):hadB h i j (m + 1) = (hadB h i j m || (decide ((ev h m).1 = (ev h j).1) && decide ((ev h m).2.2 = (ev h i).2.2) && decide ((ev h m).2.1 ≠ 1))) := any_step _ _
theorem tC_zero (h:List Ev) (a:Nat):tC h a 0 = true := rfl
theorem tI_zero (x y:List Int):tI x y 0 = true := rfl
theorem tK_start (x y:List Int) (i:Nat):tK x y i (i + 1) = true := all_skip _ _ fun j hj => by simp [unB,show ¬ i < j by omega]
theorem tA_step (h:List Ev) (a:Nat):tA h (a + 1) = (tA h a && tC h a a) := all_step _ _
theorem tC_step (h:List Ev) (a c:Nat) (b:Bool):((b && tC h a c) && tI (hrd h a) (hrd h c) (hrd h a).length) = (b && tC h a (c + 1)) := by
 rw [tC,tC,all_step,Bool.and_assoc]
theorem tI_step (x y:List Int) (i:Nat) (b:Bool):((b && tI x y i) && tK x y i x.length) = (b && tI x y (i + 1)) := by
 rw [tI,tI,all_step,Bool.and_assoc]
theorem tK_no {x y:List Int} {i k:Nat} (hu:unB x y i k = false):tK x y i k = tK x y i (k + 1) := by
 rw [tK,tK,all_step,hu]; simp
theorem tK_yes {x y:List Int} {i k:Nat} (hu:unB x y i k = true):tK x y i (k + 1) = false := by
 rw [tK,all_step,hu]; simp
theorem unB_eq {x y:List Int} {i k:Nat} (hik:i < k):unB x y i k = (decide (0 ≤ ixI y (x.getD i 0)) && decide (0 ≤ ixI y (x.getD k 0)) && decide (ixI y (x.getD k 0) < ixI y (x.getD i 0))) := by
 unfold unB ixI
 by_cases h1:x.getD i 0 ∈ y
 ·by_cases h2:x.getD k 0 ∈ y
  ·rw [if_pos h1,if_pos h2]
   simp only [hik,h1,h2,decide_true,Bool.true_and]
   rw [Bool.eq_iff_iff]
   simp only [decide_eq_true_eq,Bool.and_eq_true]
   omega
  ·rw [if_neg h2,decide_eq_false h2,Bool.and_false,Bool.false_and,decide_eq_false (show ¬ (0:Int) ≤ -1 by omega),Bool.and_false,Bool.false_and]
 ·rw [if_neg h1,decide_eq_false h1,Bool.and_false,Bool.false_and,Bool.false_and,decide_eq_false (show ¬ (0:Int) ≤ -1 by omega),Bool.false_and,Bool.false_and]
end Go.Proofs.YtdmniblonikjlakGreatDoor.His
