/-
  Texts put together: RefV.
-/
import Derived.Test.YtdmniblonikjlakGreatDoorPsM
import Derived.Test.YtdmniblonikjlakGreatDoorPrH
import Derived.Test.YtdmniblonikjlakGreatDoorPsN
import Derived.Deep.AppendLies
import Derived.Deep.RegionHeld3


namespace Go.Proofs.YtdmniblonikjlakGreatDoor.His
open Go.RowKit
open Vec
def vrow (h:List Ev) (k i:Nat):List Int := [vcnt h k 0 i,vcnt h k 1 i,vcnt h k 2 i,vcnt h k 3 i,vcnt h k 4 i]
theorem vrow_get (h:List Ev) (k i m:Nat) (hm:m < 5):(vrow h k i).getD m 0 = vcnt h k m i := by
 rcases m with _ | _ | _ | _ | _ | m
 ·rfl
 ·rfl
 ·rfl
 ·rfl
 ·rfl
 ·omega
theorem vcnt_bd (h:List Ev) (k m:Nat):∀ i,0 ≤ vcnt h k m i ∧ vcnt h k m i ≤ i := by
 intro i
 induction i with
 | zero => exact ⟨Int.le_refl _,Int.le_refl _⟩
 | succ i ih => rw [vcnt_step]; split <;> omega
def VC (h:List Ev) (w:World) (B k i:Nat):Prop := w.rowIs B 3 5 (fun m => .int .i64 (vcnt h k m i))
theorem VC.start (h:List Ev) (w:World) (k:Nat):VC h (w.alloc (.cells #[.int .i64 0,.int .i64 0,.int .i64 0,.int .i64 0,.int .i64 0] 3)) w.heap.size k 0 := by
 refine World.rowIs_alloc w _ _ _ fun i hi => ?_
 have:i < 5 := hi
 rcases i with _ | _ | _ | _ | _ | i
 ·rfl
 ·rfl
 ·rfl
 ·rfl
 ·rfl
 ·omega
theorem VC.hit {h:List Ev} {w:World} {B k i:Nat} (g:VC h w B k i) (hh:i = k ∨ bef h i k = true):VC h (w.setCell ⟨B,W h i,none⟩ (.int .i64 (vcnt h k (W h i) i + 1))) B k (i + 1) := by
 refine (World.rowIs.set g (W h i) _).congr fun m _ => ?_
 rw [vcnt_step]
 by_cases e:m = W h i
 ·subst e
  rw [if_pos rfl,if_pos ⟨rfl,hh⟩]
 ·rw [if_neg e,if_neg (fun q => e q.1.symm)]
  simp
theorem VC.miss {h:List Ev} {w:World} {B k i:Nat} (g:VC h w B k i) (hh:¬ (i = k ∨ bef h i k = true)):VC h w B k (i + 1) := by
 refine World.rowIs.congr g fun m _ => ?_
 rw [vcnt_step,if_neg (fun q => hh q.2)]
 simp
theorem VC.vw {h:List Ev} {w:World} {B N k:Nat} (g:VC h w B k (k + 1)) (hg:Good h N) (hk:k < N):Vw w (some ⟨B,0,none⟩) 5 (row h k) := by
 refine ⟨row_len h k,fun _ => ⟨B,0,rfl,World.rowIs.lt g,fun m hm => ?_⟩⟩
 rw [Nat.zero_add,← vcnt_row hg hk m]
 exact World.rowIs.cell g hm
def Lo (h:List Ev) (w:World) (base:Nat) (v:Value) (k:Nat):Prop :=
 ∃ vs:List Value,w.ownsRow base 30 1 v k vs ∧ ∀ j,j < k → ∃ g,vs[j]? = some (.slice (some ⟨g,0,none⟩) 5 5) ∧ Vw w (some ⟨g,0,none⟩) 5 (row h j) ∧ v.ownBlock ≠ some g
theorem Lo.later {h:List Ev} {w w':World} {base:Nat} {v:Value} {k:Nat} (g:Lo h w base v k) (hb:Below w.heap.size w w'):Lo h w' base v k := by
 obtain ⟨vs,o,x⟩ := g
 refine ⟨vs,own_later o hb,fun j hj => ?_⟩
 obtain ⟨q,e,v,hne⟩ := x j hj
 exact ⟨q,e,v.later hb,hne⟩
theorem Lo.lw {h:List Ev} {w:World} {base:Nat} {v:Value} {k:Nat} (g:Lo h w base v k):∃ p pc,v = .slice p k pc ∧ Lw w p k (rows h k) := by
 obtain ⟨vs,⟨h1,h2⟩,x⟩ := g
 have hl:vs.length = k := by simpa using h1
 rcases h2 with ⟨h2,rfl⟩ | ⟨g,cap,cur,hv,_,hh,_,_,hsz,ht⟩
 ·exact ⟨none,0,h2,rows_length h 0,fun q => absurd q (by omega)⟩
 ·refine ⟨_,cap,hv,rows_length h k,fun _ => ⟨g,0,rfl,?_,fun j hj => ?_⟩⟩
  ·rcases Nat.lt_or_ge g w.heap.size with hlt | hge
   ·exact hlt
   ·rw [Array.getElem?_eq_none hge] at hh; cases hh
  ·obtain ⟨q,e,v,_⟩ := x j hj
   rw [rows_get h hj,row_len]
   refine ⟨_,5,?_,v⟩
   rw [Nat.zero_add,World.cell?,hh]
   rw [← ht,Nat.mul_one,List.getElem?_take_of_lt hj] at e
   simp only [Option.isSome_none,Bool.false_eq_true,if_false]
   rw [← Array.getElem?_toList]
   exact e
theorem vw_lt {w:World} {g o n:Nat} {xs:List Int} (hv:Vw w (some ⟨g,o,none⟩) n xs) (hn:0 < n):g < w.heap.size := by
 obtain ⟨b,off,e,hlt,_⟩ := hv.2 hn
 cases e
 exact hlt
theorem vw_grown {w w':World} {r:Option Nat} {g o n:Nat} {xs:List Int} (hv:Vw w (some ⟨g,o,none⟩) n xs) (hg:w.grownBy w' r) (hne:r ≠ some g):Vw w' (some ⟨g,o,none⟩) n xs := by
 refine ⟨hv.1,fun hn => ?_⟩
 obtain ⟨b,off,e,hlt,hc⟩ := hv.2 hn
 cases e
 refine ⟨g,o,rfl,Nat.lt_of_lt_of_le hlt hg.size,fun k hk => ?_⟩
 rw [World.cell?_of_block (a := ⟨g,o + k,none⟩) (hg.block g hlt (fun e => hne e.symm))]
 exact hc k hk
theorem Lo.step {h:List Ev} {w w':World} {base g' cap' B:Nat} {v:Value} {k:Nat} {vs:List Value} (x:∀ j,j < k → ∃ g,vs[j]? = some (.slice (some ⟨g,0,none⟩) 5 5) ∧ Vw w (some ⟨g,0,none⟩) 5 (row h j) ∧ v.ownBlock ≠ some g) (hl:vs.length = k)
  (o:w'.ownsRow base 30 1 (.slice (some ⟨g',0,none⟩) (k + 1) cap') (k + 1) (vs ++ [.slice (some ⟨B,0,none⟩) 5 5])) (hg:w.grownBy w' v.ownBlock) (hat:v.ownBlock = some g' ∨ g' = w.heap.size) (hB:Vw w (some ⟨B,0,none⟩) 5 (row h k)) (hne:v.ownBlock ≠ some B):Lo h w' base (.slice (some ⟨g',0,none⟩) (k + 1) cap') (k + 1) := by
 have key:∀ g xs,Vw w (some ⟨g,0,none⟩) 5 xs → v.ownBlock ≠ some g → Vw w' (some ⟨g,0,none⟩) 5 xs ∧ Value.ownBlock (.slice (some ⟨g',0,none⟩) (k + 1) cap') ≠ some g := by
  intro g xs hv hn
  refine ⟨vw_grown hv hg hn,?_⟩
  intro e
  have e2:g' = g := by simpa [Value.ownBlock] using e
  rcases hat with q | q
  ·exact hn (by rw [q,e2])
  ·have := vw_lt hv (by omega)
   omega
 refine ⟨_,o,fun j hj => ?_⟩
 rcases Nat.lt_or_ge j k with a | a
 ·obtain ⟨g,e,hv,hn⟩ := x j a
  exact ⟨g,by rw [List.getElem?_append_left (by omega)]; exact e,key g _ hv hn⟩
 ·obtain rfl:j = k := by omega
  exact ⟨B,by rw [List.getElem?_append_right (by omega),hl]; simp,key B _ hB hne⟩
theorem new_val (w:World) (B:Nat) (hB:B = w.heap.size) (v:Value) (t:TypeId):∀ j u,[v][j]? = some u → (w.alloc (.cells #[v] t)).cell? ((⟨B,0,none⟩:Addr).add j) = some u := by
 subst hB
 intro j u hj
 rw [Addr.add_lit,Nat.zero_add]
 rcases j with _ | j
 ·simpa using hj
 ·simp at hj
theorem info_list:∃ i,Tryz.prog.info? 30 = some i ∧ i.zero = some (.slice none 0 0) ∧ i.size = 1 ∧ i.bytes = 24 := by
 obtain ⟨i,hi,hzz⟩ := Option.map_eq_some_iff.1 mkl_info
 simp only [Prod.mk.injEq] at hzz
 exact ⟨i,hi,hzz.1,hzz.2.1,hzz.2.2⟩
theorem slice_one (g:Nat):∀ u ∈ [Value.slice (some ⟨g,0,none⟩) 5 5],u.oneCell' = true := by
 intro u hu
 obtain rfl := List.mem_singleton.1 hu
 rfl
set_option maxRecDepth 100000 in
set_option maxHeartbeats 8000000 in
theorem refVectors (a:Option Addr) (len cap:Nat) (h:List Ev) (w:World) (h60:len ≤ 60) (hv:Ew w a len h) (hg:Good h len) :
  Calls Tryz.prog 66 #[.slice a len cap] w fun x w' => (∃ v,x = .returned v ∧ Lo h w' w.heap.size v len) ∧ Below w.heap.size w w' := by
 have G:Hid (Ew w a len h) := hv
 have HG:Hid (Good h len) := hg
 obtain ⟨ie,hi,hz0,hz1,hz2⟩ := info_list
 have HI:Hid (Tryz.prog.info? 30 = some ie ∧ ie.zero = some (.slice none 0 0) ∧ ie.size = 1 ∧ ie.bytes = 24) := ⟨hi,hz0,hz1,hz2⟩
 obtain ⟨Z,hZ⟩:∃ Z,Z = Array.replicate 3600 (Value.bool false) := ⟨_,rfl⟩
 have hz := (zero_of_info sqInfo).1
 rw [← hZ] at hz
 have ZS:Hid (Z.size = 3600) := by rw [hZ]; exact Array.size_replicate
 have hmk:∀ w,(Instr.makeSlice 30 (.int .i64 5) (.int .i64 5)).run Tryz.prog w = .ok (.slice (some ⟨w.heap.size,0,none⟩) 5 5) (w.alloc (.cells #[.int .i64 0,.int .i64 0,.int .i64 0,.int .i64 0,.int .i64 0] 3)) := fun _ => by kernel_rfl
 clear hv hg hi hz0 hz1 hz2 hZ
 go_enter Tryz.func66,Tryz.ntmps66
 go_wp2_with fail
 refine (refBefores a len cap h _ h60 G.out).mono ?_
 rintro e w1 ⟨⟨c,rfl,hc⟩,hb1⟩
 have C:Hid (SqV c (wa h len len)) := hc
 have B1:Hid (Below w.heap.size w w1) := hb1
 have HST:Hid ((Instr.storeAt 196 (.pointer (some ⟨w1.heap.size,0,none⟩)) (.agg c)).run Tryz.prog (w1.alloc (.cells Z 196)) = .ok () (w1.alloc (.cells c 196))) := run_storeAt_new w1 _ Z c (by rw [sqSize,hc.1]) (by rw [ZS.out,hc.1]) (sq_one hc)
 clear hc hb1
 go_wp2_with (refine wpList_store_row rfl 196 (.tmp 3) (.tmp 9) rfl HST.out ?_)
 have B2:Hid (Below w.heap.size w (w1.alloc (.cells c 196))) := B1.out.alloc B1.out.size _
 have S2:Hid (Sq (w1.alloc (.cells c 196)) w1.heap.size (wa h len len)) := by
  have q := World.rowIs_alloc w1 c 196 (fun x => .bool (wa h len len (x / 60) (x % 60))) (fun i hi => C.out.2 i (by rw [← C.out.1]; exact hi))
  rw [C.out.1] at q
  exact q
 obtain ⟨Q,eQ⟩:∃ Q,Q = w1.heap.size := ⟨_,rfl⟩
 rw [← eQ] at S2 ⊢
 have S2':Hid (Sq (w1.alloc (.cells c 196)) Q (wa h len len) ∧ w.heap.size ≤ Q) := ⟨S2.out,by rw [eQ]; exact B1.out.size⟩
 clear eQ HST C S2 hz
 go_loopw [4,5] (fun v x wr => ∃ k:Nat,k ≤ len ∧ x = .int .i64 k ∧ Hid (Below w.heap.size w wr) ∧ Hid (Sq wr Q (wa h len len)) ∧ Hid (Lo h wr w.heap.size v k ∧ v.ownBlock ≠ some Q)) (fun _ x _ => len - (intOf x).toNat)
 case atStart => exact ⟨0,by omega,rfl,B2.out,S2'.out.1,⟨[],World.ownsRow_nil _ _ _ _,fun j hj => absurd hj (by omega)⟩,fun q => by cases q⟩
 case round =>
  clear B2 S2'
  obtain ⟨k,hk,rfl,hbel,hS,hO⟩ := hrel
  obtain ⟨wo,ewo⟩:∃ wo,wo = wr := ⟨_,rfl⟩
  subst ewo
  by_cases hlt:k < len
  ·have hk0:(0:Int) ≤ (k:Int) := by omega
   have hkl:(k:Int) < (len:Int) := by omega
   have hk60:(k:Int) < 60 := by omega
   have SZ:Hid (w.heap.size ≤ wo.heap.size) := hbel.out.size
   have V0:Hid (VC h (wo.alloc (.cells #[.int .i64 0,.int .i64 0,.int .i64 0,.int .i64 0,.int .i64 0] 3)) wo.heap.size k 0) := VC.start h wo k
   have BA:Hid (Below wo.heap.size wo (wo.alloc (.cells #[.int .i64 0,.int .i64 0,.int .i64 0,.int .i64 0,.int .i64 0] 3))) := (Below.refl _ _).alloc (Nat.le_refl _) _
   go_wp2
   go_loopw [7] (fun x wi => ∃ i:Nat,i ≤ k + 1 ∧ x = .int .i64 i ∧ Hid (Below wo.heap.size wo wi) ∧ Hid (VC h wi wo.heap.size k i)) (fun x _ => k + 1 - (intOf x).toNat)
   case atStart => exact ⟨0,by omega,rfl,BA.out,V0.out⟩
   case round =>
    clear V0 BA hmk
    obtain ⟨i,hi,rfl,hbi,hV⟩ := hrel
    by_cases hlti:i ≤ k
    ·have hi0:(0:Int) ≤ (i:Int) := by omega
     have hil:(i:Int) ≤ (k:Int) := by omega
     have hil':(i:Int) < (len:Int) := by omega
     have hi60:(i:Int) < 60 := by omega
     have hiN:i < len := by omega
     obtain ⟨b,off,rfl,hpb,hcs⟩ := ((G.out.later hbel.out).later hbi.out).2 (by omega)
     have c0 := (hcs i hiN).1
     have hw5 := W_lt HG.out hiN
     rw [← W_cast HG.out hiN] at c0
     have u0 := World.rowIs.cell hV.out hw5
     have z0 := World.rowIs.frozen hV.out (W h i)
     have hvb := vcnt_bd h k (W h i) i
     obtain ⟨m,em⟩:∃ m,m = W h i := ⟨_,rfl⟩
     rw [← em] at c0 hw5 u0 z0 hvb
     obtain ⟨y,ey⟩:∃ y,y = vcnt h k m i := ⟨_,rfl⟩
     rw [← ey] at u0 hvb
     have EM:Hid (m = W h i ∧ y = vcnt h k m i) := ⟨em,ey⟩
     have hm0:(0:Int) ≤ (m:Int) := by omega
     have hm5:(m:Int) < 5 := by omega
     clear hcs hpb em ey
     by_cases hik:i = k
     ·have ht:((i:Int) == (k:Int)) = true := by simp [hik]
      have HK:Hid (i = k) := hik
      clear hik
      go_wp2
      go_roundw
      case rel =>
       refine ⟨i + 1,by omega,by go_num,hbi.out.setCell (p := ⟨_,_,none⟩) (Nat.le_refl _) _,?_⟩
       have q := hV.out.hit (.inl HK.out)
       rw [← EM.out.1,← EM.out.2] at q
       exact q
      case measure => simp [intOf]; omega
     ·have ht:((i:Int) == (k:Int)) = false := by simp; omega
      have HK:Hid (i ≠ k) := hik
      have v1 := (hS.out.later hbi.out).cell (i := i) (k := k) (by omega) (by omega)
      rw [wa_eq HG.out hiN hlt] at v1
      clear hik
      cases hbf:bef h i k
      ·rw [hbf] at v1
       go_wp2
       go_roundw
       case rel =>
        refine ⟨i + 1,by omega,by go_num,hbi.out,hV.out.miss ?_⟩
        rintro (q | q)
        ·exact HK.out q
        ·rw [hbf] at q; exact absurd q (by decide)
       case measure => simp [intOf]; omega
      ·rw [hbf] at v1
       go_wp2
       go_roundw
       case rel =>
        refine ⟨i + 1,by omega,by go_num,hbi.out.setCell (p := ⟨_,_,none⟩) (Nat.le_refl _) _,?_⟩
        have q := hV.out.hit (.inr hbf)
        rw [← EM.out.1,← EM.out.2] at q
        exact q
       case measure => simp [intOf]; omega
    ·have hik:i = k + 1 := by omega
     subst hik
     have VW:Hid (Vw wr (some ⟨wo.heap.size,0,none⟩) 5 (row h k)) := hV.out.vw HG.out hlt
     have SS:Hid (Sq wr Q (wa h len len)) := hS.out.later hbi.out
     have hQ:Hid (Q < wo.heap.size) := hS.out.lt
     obtain ⟨vs,ho,hx⟩ := hO.out.1.later hbi.out
     have OO:Hid (wr.ownsRow w.heap.size 30 1 u4 k vs) := ho
     have XX:Hid (∀ j,j < k → ∃ g,vs[j]? = some (.slice (some ⟨g,0,none⟩) 5 5) ∧ Vw wr (some ⟨g,0,none⟩) 5 (row h j) ∧ u4.ownBlock ≠ some g) := hx
     have LV:Hid (vs.length = k) := by show vs.length = k; have := ho.1; simpa using this
     have NE:Hid (u4.ownBlock ≠ some wo.heap.size ∧ u4.ownBlock ≠ some Q) := by
      refine ⟨?_,hO.out.2⟩
      obtain ⟨vs',ho',_⟩ := hO.out.1
      intro q
      rcases ho'.2 with ⟨e2,_⟩ | ⟨g',cap',cur,e2,_,hh,_⟩
      ·rw [e2] at q; cases q
      ·rw [e2] at q
       have:g' = wo.heap.size := by simpa [Value.ownBlock] using q
       rw [this,Array.getElem?_eq_none (Nat.le_refl _)] at hh
       cases hh
     have BI:Hid (Below w.heap.size w wr) := below_up rfl hbel.out hbi.out
     have SI:Hid (w.heap.size ≤ wr.heap.size) := BI.out.size
     clear ho hx
     go_wp2_with (at_builtin; refine wpList_append_lies _ rfl _ _ 22 rfl w.heap.size 30 ie (.slice none 0 0) 1 24 Tryz.underlying22 HI.out.1 HI.out.2.1 HI.out.2.2.1 HI.out.2.2.2 rfl (by decide) _ k _ rfl (by exact own_later OO.out ((Below.refl _ _).alloc (Nat.le_refl _) _)) ⟨wr.heap.size,0,none⟩ 1 1 [.slice (some ⟨wo.heap.size,0,none⟩) 5 5] rfl rfl (by exact new_val wr _ rfl _ 30) (slice_one _) (by omega) (by unfold maxLen; omega) (by omega) (by have := SI.out; simp; omega) _ rfl ?_; intro g capg wg hown hgrow hat hltg; have HO:Hid _ := hown; have HGr:Hid _ := hgrow; have HAT:Hid _ := hat; clear hown hgrow hat hltg)
     go_roundw
     case rel =>
      have BL := (Below.refl wr.heap.size wr).alloc (Nat.le_refl _) (.cells #[.slice (some ⟨wo.heap.size,0,none⟩) 5 5] 30)
      refine ⟨k + 1,by omega,by go_num,?_,?_,?_,?_⟩
      ·exact (BI.out.alloc SI.out _).grown HGr.out (by have := SI.out; simp; omega) (own_base OO.out)
      ·refine (World.rowIs.of_block (SS.out.later BL) (HGr.out.block Q ?_ (fun q => NE.out.2 q.symm)))
       have := SS.out.lt
       simp
       omega
      ·refine Lo.step (v := u4) (fun j hj => ?_) LV.out HO.out HGr.out HAT.out (VW.out.later BL) NE.out.1
       obtain ⟨g2,e2,v2,n2⟩ := XX.out j hj
       exact ⟨g2,e2,v2.later BL,n2⟩
      ·intro q
       have e2:g = Q := by simpa [Value.ownBlock] using q
       rcases HAT.out with a1 | a1
       ·have a2:u4.ownBlock = some g := a1
        exact NE.out.2 (by rw [a2,e2])
       ·have := SS.out.lt
        have:g = wr.heap.size + 1 := by simpa using a1
        omega
     case measure => simp [intOf]; omega
  ·have hkl:k = len := by omega
   subst hkl
   go_wp2
   go_ret
   exact ⟨⟨_,rfl,hO.out.1⟩,hbel.out⟩
end Go.Proofs.YtdmniblonikjlakGreatDoor.His
