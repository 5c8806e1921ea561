/-
  Texts put together: FacA, FacB, FacC, FacD, FacE, FacF, FacG.
-/
import Derived.Test.YtdmniblonikjlakGreatDoorPrB
import Derived.Test.YtdmniblonikjlakGreatDoorPrH
import Derived.Deep.QuietTactic
import Derived.BigQuiet
import Derived.Deep.RegionHeld3
import Derived.Handy
import Derived.Deep.RegionWith
import Derived.Laws.ResultCell


namespace Go.Proofs.YtdmniblonikjlakGreatDoor.His
open Go.RowKit
open Vec
def ixI (xs:List Int) (n:Int):Int := if n ∈ xs then (ix xs n:Nat) else -1
theorem getD_get {xs:List Int} {j:Nat} (hj:j < xs.length):xs.getD j 0 = xs[j] := by simp [List.getD,hj]
theorem ix_hit {xs:List Int} {n:Int} {k:Nat} (hk:k < xs.length) (hp:xs.getD k 0 = n) (hb:∀ j,j < k → xs.getD j 0 ≠ n):ixI xs n = (k:Int) := by
 have hm:n ∈ xs := by rw [← hp,getD_get hk]; exact List.getElem_mem hk
 have hi:ix xs n = k := by
  rw [ix,List.findIdx_eq hk]
  refine ⟨by rw [← getD_get hk,hp]; simp,fun j hj => ?_⟩
  have := hb j hj
  rw [getD_get (by omega)] at this
  simpa using this
 rw [ixI,if_pos hm,hi]
theorem ix_miss {xs:List Int} {n:Int} (hb:∀ j,j < xs.length → xs.getD j 0 ≠ n):ixI xs n = -1 := by
 rw [ixI,if_neg]
 intro hm
 obtain ⟨j,hj,e⟩ := List.getElem_of_mem hm
 exact hb j hj (by rw [getD_get hj,e])
theorem Vw.take {w:World} {a:Option Addr} {len:Nat} {xs:List Int} (g:Vw w a len xs) {k:Nat} (hk:k ≤ len):Vw w a k (xs.take k) := by
 refine ⟨by rw [List.length_take,g.1]; omega,fun h0 => ?_⟩
 obtain ⟨b,off,e,hlt,hc⟩ := g.2 (by omega)
 refine ⟨b,off,e,hlt,fun j hj => ?_⟩
 rw [show (xs.take k).getD j 0 = xs.getD j 0 by simp [List.getD,List.getElem?_take_of_lt hj]]
 exact hc j (by omega)
theorem idx_ints (a:Option Addr) (len cap:Nat) (xs:List Int) (n:Int) (w:World) (hm:len ≤ maxLen) (hv:Vw w a len xs) :
  Calls Tryz.prog 163 #[.slice a len cap,.int .i64 n] w fun e w' => e = .returned (.int .i64 (ixI xs n)) ∧ w' = w := by
 unfold maxLen at hm
 have G:Hid (Vw w a len xs) := hv
 clear hv
 go_enter Tryz.func163,Tryz.ntmps163
 go_wp2
 go_loopw [8] (fun i wr => ∃ k:Nat,k ≤ len ∧ i = .int .i64 k ∧ wr = w ∧ Hid (∀ j,j < k → xs.getD j 0 ≠ n)) (fun i _ => len - (intOf i).toNat)
 case atStart => exact ⟨0,by omega,rfl,rfl,fun j hj => absurd hj (by omega)⟩
 case round =>
  obtain ⟨k,hk,rfl,rfl,hp⟩ := hrel
  by_cases hlt:k < len
  ·obtain ⟨b,off,rfl,_,hcs⟩ := G.out.2 (by omega)
   have c0 := hcs k hlt
   obtain ⟨x,ex⟩:∃ x,x = xs.getD k 0 := ⟨_,rfl⟩
   rw [← ex] at c0
   have EX:Hid (x = xs.getD k 0) := ex
   have hk0:(0:Int) ≤ (k:Int) := by omega
   have hkl:(k:Int) < (len:Int) := by omega
   clear hcs ex
   by_cases hx:x = n
   ·subst hx
    have ht:(x == x) = true := by simp
    go_wp2
    go_ret
    exact ⟨ret_int (ix_hit (by rw [G.out.1]; exact hlt) EX.out.symm hp.out).symm,rfl⟩
   ·have ht:(n == x) = false := by simp; exact fun e => hx e.symm
    have HX:Hid (x ≠ n) := hx
    go_wp2
    go_roundw
    case rel => exact ⟨k + 1,by omega,by go_num,by first | rfl | trivial,fun j hj => if e:j < k then hp.out j e else by rw [show j = k by omega,← EX.out]; exact HX.out⟩
    case measure => simp [intOf]; omega
  ·go_wp2
   go_ret
   exact ⟨ret_int (ix_miss fun j hj => hp.out j (by have := G.out.1; omega)).symm,rfl⟩
theorem cont_ints (a:Option Addr) (len cap:Nat) (xs:List Int) (n:Int) (w:World) (hm:len ≤ maxLen) (hv:Vw w a len xs) :
  Calls Tryz.prog 164 #[.slice a len cap,.int .i64 n] w fun e w' => e = .returned (.bool (xs.contains n)) ∧ w' = w := by
 go_enter Tryz.func164,Tryz.ntmps164
 go_wp2_with fail
 refine (idx_ints a len cap xs n _ hm hv).mono ?_
 rintro e w1 ⟨rfl,rfl⟩
 clear hv
 go_wp2
 go_ret
 refine ⟨ret_bool ?_,rfl⟩
 rw [ixI]
 by_cases hx:n ∈ xs <;> simp [hx]
theorem equal_ints (a b:Option Addr) (len cap len' cap':Nat) (xs ys:List Int) (w:World) (hv:Vw w a len xs) (hv':Vw w b len' ys) (hm:len ≤ maxLen) :
  Calls Tryz.prog 133 #[.slice a len cap,.slice b len' cap'] w fun e w' => e = .returned (.bool (xs == ys)) ∧ Below w.heap.size w w' := by
 unfold maxLen at hm
 have h1 := hv.1
 have h2 := hv'.1
 by_cases hl:len = len'
 ·subst hl
  have HL:Hid (xs.length = ys.length) := by show xs.length = ys.length; omega
  have H1:Hid (xs.length = len) := h1
  obtain ⟨-,gv⟩ := hv
  obtain ⟨-,gv'⟩ := hv'
  have G:Hid _ := gv
  have G':Hid _ := gv'
  have hq:((len:Int) != (len:Int)) = false := by simp
  clear gv gv' h1 h2
  go_enter Tryz.func133,Tryz.ntmps133
  go_wp2
  go_loopw [13] (fun i wr => ∃ k:Nat,k ≤ len ∧ i = .int .i64 k ∧ (∃ n,wr = w.drewN n) ∧ Hid (∀ j,j < k → xs.getD j 0 = ys.getD j 0)) (fun i _ => len - (intOf i).toNat)
  case atStart => exact ⟨0,by omega,rfl,⟨0,rfl⟩,fun j hj => absurd hj (by omega)⟩
  case round =>
   obtain ⟨k,hk,rfl,⟨n,rfl⟩,hp⟩ := hrel
   by_cases hlt:k < len
   ·obtain ⟨p,off,rfl,hpb,hc⟩ := G.out (by omega)
    obtain ⟨p',off',rfl,hpb',hc'⟩ := G'.out (by omega)
    have hx := hc k hlt
    have hy := hc' k hlt
    obtain ⟨x,ex⟩:∃ x,x = xs.getD k 0 := ⟨_,rfl⟩
    obtain ⟨y,ey⟩:∃ y,y = ys.getD k 0 := ⟨_,rfl⟩
    rw [← ex] at hx
    rw [← ey] at hy
    have EX:Hid _ := ex
    have EY:Hid _ := ey
    have hk0:(0:Int) ≤ (k:Int) := by omega
    have hkl:(k:Int) < (len:Int) := by omega
    clear hc hc' ex ey hpb hpb'
    by_cases hxy:x = y
    ·have hne:(x != y) = false := by simp [hxy]
     have HXY:Hid _ := hxy
     clear hxy
     go_wp2
     go_quiet (fail)
     go_wp2
     go_roundw
     case rel => exact ⟨k + 1,by omega,by go_num,⟨_,rfl⟩,fun j hj => if e:j < k then hp.out j e else by rw [show j = k by omega,← EX.out,← EY.out]; exact HXY.out⟩
     case measure => simp [intOf]; omega
    ·have hne:(x != y) = true := by simp [hxy]
     have HXY:Hid _ := hxy
     clear hxy
     go_wp2
     go_quiet (fail)
     go_wp2
     go_ret
     refine ⟨ret_bool ?_,below_drewN (below_drewN (Below.refl _ _) _) _⟩
     symm
     rw [beq_eq_false_iff_ne]
     intro e
     exact HXY.out (by rw [EX.out,EY.out,e])
   ·go_wp2
    go_ret
    refine ⟨ret_bool ?_,below_drewN (Below.refl _ _) _⟩
    symm
    rw [beq_iff_eq]
    refine List.ext_getElem HL.out fun j h1 h2 => ?_
    have := hp.out j (by have := H1.out; omega)
    rwa [getD_get h1,getD_get h2] at this
 ·have hq:((len:Int) != (len':Int)) = true := by rw [bne_iff_ne]; omega
  have HN:Hid (xs ≠ ys) := by
   intro e
   rw [e] at h1
   omega
  clear hv hv' h1 h2
  go_enter Tryz.func133,Tryz.ntmps133
  go_wp2
  go_ret
  refine ⟨ret_bool ?_,Below.refl _ _⟩
  symm
  rw [beq_eq_false_iff_ne]
  exact HN.out
theorem own_sl {w:World} {base n:Nat} {t:TypeId} {v:Value} {xs:List Int} (h:w.ownsRow base t 1 v n (xs.map (Value.int .i64))):∃ a cap,v = .slice a n cap ∧ Vw w a n xs ∧ n ≤ cap ∧ cap ≤ maxLen ∧ ∀ p,a = some p → base ≤ p.block := by
 obtain ⟨a,cap,rfl,hv⟩ := own_vw h
 refine ⟨a,cap,rfl,hv,?_⟩
 rcases h.2 with ⟨h2,h3⟩ | ⟨g,cap',cur,h2,hg,_,hc,hm,_⟩
 ·injection h2 with e1 e2 e3
  subst e3
  exact ⟨by omega,by unfold maxLen; omega,fun p hp => by rw [e1] at hp; cases hp⟩
 ·injection h2 with e1 e2 e3
  subst e3
  exact ⟨hc,hm,fun p hp => by rw [e1] at hp; cases hp; exact hg⟩
theorem both_step (xs ys:List Int) {n:Nat} (hn:n < xs.length):both (xs.take (n + 1)) ys = both (xs.take n) ys ++ (if ys.contains (xs.getD n 0) then [xs.getD n 0] else []) := by
 rw [getD_get hn,List.take_succ_eq_append_getElem hn]
 unfold both
 rw [List.filter_append]
 congr 1
 by_cases hh:ys.contains xs[n] = true
 ·rw [if_pos hh,List.filter_cons_of_pos hh,List.filter_nil]
 ·rw [if_neg hh,List.filter_cons_of_neg hh,List.filter_nil]
theorem both_len (xs ys:List Int):(both xs ys).length ≤ xs.length := List.length_filter_le _ _
set_option maxRecDepth 100000 in
set_option maxHeartbeats 4000000 in
theorem both_any (a b:Option Addr) (len cap len' cap':Nat) (xs ys:List Int) (w:World) (hv:Vw w a len xs) (hv':Vw w b len' ys) (h60:len ≤ 60) (hm':len' ≤ maxLen) :
  Calls Tryz.prog 134 #[.slice a len cap,.slice b len' cap'] w fun x w' => (∃ v,x = .returned v ∧ w'.ownsRow w.heap.size 3 1 v (both xs ys).length ((both xs ys).map (Value.int .i64))) ∧ Below w.heap.size w w' := by
 have G:Hid (Vw w a len xs) := hv
 have G':Hid (Vw w b len' ys) := hv'
 have HM:Hid (len' ≤ maxLen) := hm'
 obtain ⟨ie,hi,hz0,hz1,hz2⟩ := info_int
 have HI:Hid (Tryz.prog.info? 3 = some ie ∧ ie.zero = some (.int .i64 0) ∧ ie.size = 1 ∧ ie.bytes = 8) := ⟨hi,hz0,hz1,hz2⟩
 clear hv hv' hm' hi hz0 hz1 hz2
 go_enter Tryz.func134,Tryz.ntmps134
 go_wp2
 go_loopw [5,10] (fun v x wr => ∃ k:Nat,k ≤ len ∧ x = .int .i64 k ∧ Hid (Below w.heap.size w wr) ∧ Hid (wr.ownsRow w.heap.size 3 1 v (both (xs.take k) ys).length ((both (xs.take k) ys).map (Value.int .i64)))) (fun _ x _ => len - (intOf x).toNat)
 case atStart => exact ⟨0,by omega,rfl,Below.refl _ _,World.ownsRow_nil _ _ _ _⟩
 case round =>
  obtain ⟨k,hk,rfl,hbel,hO⟩ := hrel
  by_cases hlt:k < len
  ·have hk0:(0:Int) ≤ (k:Int) := by omega
   have hkl:(k:Int) < (len:Int) := by omega
   obtain ⟨p,pc,rfl,-⟩ := own_vw hO.out
   have hkx:Hid (k < xs.length) := by rw [← G.out.1] at hlt; exact hlt
   obtain ⟨b1,off,rfl,_,hcs⟩ := (Vw.later G.out hbel.out).2 (by omega)
   have c0 := hcs k hlt
   obtain ⟨x,ex⟩:∃ x,x = xs.getD k 0 := ⟨_,rfl⟩
   rw [← ex] at c0
   have EX:Hid (x = xs.getD k 0) := ex
   have V1:Hid (Vw wr b len' ys) := Vw.later G'.out hbel.out
   have BL:Hid ((both (xs.take k) ys).length ≤ k) := Nat.le_trans (both_len _ _) (by rw [List.length_take]; exact Nat.min_le_left _ _)
   clear hcs ex
   go_wp2_with fail
   refine (cont_ints b len' cap' ys x _ HM.out V1.out).mono ?_
   rintro e w1 ⟨rfl,rfl⟩
   have B1:Hid (Below w.heap.size w w1) := hbel.out
   have O1:Hid _ := hO.out
   cases hc:ys.contains x with
   | true =>
    have S1:Hid (both (xs.take (k + 1)) ys = both (xs.take k) ys ++ [x]) := by show _ = _; rw [both_step xs ys hkx.out,← EX.out,hc,if_pos rfl]
    have SZ:Hid (w.heap.size ≤ w1.heap.size) := B1.out.size
    go_wp2_with (at_builtin; refine wpList_append_own _ rfl _ _ 30 rfl w.heap.size 3 ie (.int .i64 0) 1 8 Tryz.underlying30 HI.out.1 HI.out.2.1 HI.out.2.2.1 HI.out.2.2.2 rfl (by decide) _ (both (xs.take k) ys).length _ rfl (by exact own_later O1.out ((Below.refl _ _).alloc (Nat.le_refl _) _)) ⟨w1.heap.size,0,none⟩ 1 1 [.int .i64 x] rfl rfl (by exact new_int w1 _ rfl x 3) (int_one _) (by have := BL.out; unfold maxLen; omega) (by have := BL.out; omega) (by have := SZ.out; simp; omega) ?_; intro v' wn hown hgrow _; have HO:Hid _ := hown; have HGr:Hid _ := hgrow; clear hown hgrow)
    go_roundw
    case rel =>
     refine ⟨k + 1,by omega,by go_num,?_,?_⟩
     ·exact (B1.out.alloc SZ.out _).grown HGr.out (by have := SZ.out; simp; omega) (own_base O1.out)
     ·show World.ownsRow _ _ _ _ _ _ _
      rw [S1.out,List.length_append,List.map_append]
      exact HO.out
    case measure => simp [intOf]; omega
   | false =>
    have S1:Hid (both (xs.take (k + 1)) ys = both (xs.take k) ys) := by show _ = _; rw [both_step xs ys hkx.out,← EX.out,hc]; simp
    go_wp2
    go_roundw
    case rel =>
     refine ⟨k + 1,by omega,by go_num,B1.out,?_⟩
     show World.ownsRow _ _ _ _ _ _ _
     rw [S1.out]
     exact O1.out
    case measure => simp [intOf]; omega
  ·have hkl:k = len := by omega
   subst hkl
   go_wp2
   go_ret
   refine ⟨⟨_,rfl,?_⟩,hbel.out⟩
   have o := hO.out
   rwa [List.take_of_length_le (by rw [G.out.1]; exact Nat.le_refl _)] at o
set_option maxRecDepth 100000 in
set_option maxHeartbeats 4000000 in
theorem heardBy_any (a:Option Addr) (len cap:Nat) (h:List Ev) (who:Int) (w:World) (h60:len ≤ 60) (hv:Ew w a len h) :
  Calls Tryz.prog 130 #[.slice a len cap,.int .i64 who] w fun x w' => (∃ v,x = .returned v ∧ w'.ownsRow w.heap.size 3 1 v (hrd h who).length ((hrd h who).map (Value.int .i64))) ∧ Below w.heap.size w w' := by
 have G:Hid (Ew w a len h) := hv
 obtain ⟨ie,hi,hz0,hz1,hz2⟩ := info_int
 have HI:Hid (Tryz.prog.info? 3 = some ie ∧ ie.zero = some (.int .i64 0) ∧ ie.size = 1 ∧ ie.bytes = 8) := ⟨hi,hz0,hz1,hz2⟩
 clear hv hi hz0 hz1 hz2
 go_enter Tryz.func130,Tryz.ntmps130
 go_wp2
 go_loopw [5,10] (fun v x wr => ∃ k:Nat,k ≤ len ∧ x = .int .i64 k ∧ Hid (Below w.heap.size w wr) ∧ Hid (wr.ownsRow w.heap.size 3 1 v (hrd (h.take k) who).length ((hrd (h.take k) who).map (Value.int .i64)))) (fun _ x _ => len - (intOf x).toNat)
 case atStart => exact ⟨0,by omega,rfl,Below.refl _ _,World.ownsRow_nil _ _ _ _⟩
 case round =>
  obtain ⟨k,hk,rfl,hbel,hO⟩ := hrel
  by_cases hlt:k < len
  ·have hk0:(0:Int) ≤ (k:Int) := by omega
   have hkl:(k:Int) < (len:Int) := by omega
   obtain ⟨p,pc,rfl,-⟩ := own_vw hO.out
   have hkx:Hid (k < h.length) := by rw [← G.out.1] at hlt; exact hlt
   obtain ⟨b1,off,rfl,_,hcs⟩ := (G.out.later hbel.out).2 (by omega)
   obtain ⟨c0,c1,c2⟩ := hcs k hlt
   obtain ⟨q,eq⟩:∃ q,q = ev h k := ⟨_,rfl⟩
   rw [← eq] at c0 c1 c2
   obtain ⟨q0,q1,q2⟩ := q
   have EQ:Hid _ := eq
   have BL:Hid ((hrd (h.take k) who).length ≤ k) := Nat.le_trans (hrd_len _ _) (by rw [List.length_take]; exact Nat.min_le_left _ _)
   have B1:Hid (Below w.heap.size w (wr.alloc (.cells #[.int .i64 q0,.int .i64 q1,.int .i64 q2] 40))) := hbel.out.alloc hbel.out.size _
   have O1:Hid _ := own_later hO.out ((Below.refl wr.heap.size wr).alloc (Nat.le_refl _) (.cells #[.int .i64 q0,.int .i64 q1,.int .i64 q2] 40))
   have S0:Hid (hrd (h.take (k + 1)) who = hrd (h.take k) who ++ (if has who (q0,q1,q2) then [q2] else [])) := by show _ = _; rw [hrd_step h who hkx.out,← EQ.out]
   clear hcs eq
   have SZ:Hid (w.heap.size ≤ wr.heap.size) := hbel.out.size
   by_cases g0:q0 = who
   ·subst g0
    by_cases g1:q1 = 1
    ·subst g1
     have S1:Hid (hrd (h.take (k + 1)) q0 = hrd (h.take k) q0) := by show _ = _; rw [S0.out]; simp [has]
     go_wp2
     go_roundw
     case rel =>
      refine ⟨k + 1,by omega,by go_num,B1.out,?_⟩
      show World.ownsRow _ _ _ _ _ _ _
      rw [S1.out]
      exact O1.out
     case measure => simp [intOf]; omega
    ·have g1':(q1 != 1) = true := by rw [bne_iff_ne]; exact g1
     have S1:Hid (hrd (h.take (k + 1)) q0 = hrd (h.take k) q0 ++ [q2]) := by show _ = _; rw [S0.out]; simp [has,g1]
     go_wp2_with (at_builtin; refine wpList_append_own _ rfl _ _ 30 rfl w.heap.size 3 ie (.int .i64 0) 1 8 Tryz.underlying30 HI.out.1 HI.out.2.1 HI.out.2.2.1 HI.out.2.2.2 rfl (by decide) _ (hrd (h.take k) q0).length _ rfl (by exact own_later O1.out ((Below.refl _ _).alloc (Nat.le_refl _) _)) ⟨wr.heap.size + 1,0,none⟩ 1 1 [.int .i64 q2] rfl rfl (by exact new_int _ _ (by simp) q2 3) (int_one _) (by have := BL.out; unfold maxLen; omega) (by have := BL.out; omega) (by have := SZ.out; simp; omega) ?_; intro v' wn hown hgrow _; have HO:Hid _ := hown; have HGr:Hid _ := hgrow; clear hown hgrow)
     go_roundw
     case rel =>
      refine ⟨k + 1,by omega,by go_num,?_,?_⟩
      ·exact (B1.out.alloc B1.out.size _).grown HGr.out (by have := SZ.out; simp; omega) (own_base O1.out)
      ·show World.ownsRow _ _ _ _ _ _ _
       rw [S1.out,List.length_append,List.map_append]
       exact HO.out
     case measure => simp [intOf]; omega
   ·have g0':(q0 == who) = false := by simp [g0]
    have S1:Hid (hrd (h.take (k + 1)) who = hrd (h.take k) who) := by show _ = _; rw [S0.out]; simp [has,g0]
    go_wp2
    go_roundw
    case rel =>
     refine ⟨k + 1,by omega,by go_num,B1.out,?_⟩
     show World.ownsRow _ _ _ _ _ _ _
     rw [S1.out]
     exact O1.out
    case measure => simp [intOf]; omega
  ·have hkl:k = len := by omega
   subst hkl
   go_wp2
   go_ret
   refine ⟨⟨_,rfl,?_⟩,hbel.out⟩
   have o := hO.out
   rwa [List.take_of_length_le (by rw [G.out.1]; exact Nat.le_refl _)] at o
end Go.Proofs.YtdmniblonikjlakGreatDoor.His


namespace Go.Proofs.YtdmniblonikjlakGreatDoor.His
open Go.RowKit
open Vec
def ln (h:List Ev) (m:Nat):Nat := (hrd h (m:Int)).length
def Al (h:List Ev) (w:World) (m:Nat) (q:Option Addr) (d:Nat):Prop := Vw w q (ln h m) (hrd h (m:Int)) ∧ ln h m ≤ d ∧ d ≤ maxLen
theorem Al.later {h:List Ev} {w w':World} {m:Nat} {q:Option Addr} {d:Nat} (g:Al h w m q d) (hb:Below w.heap.size w w'):Al h w' m q d := ⟨Vw.later g.1 hb,g.2⟩
theorem ln_le (h:List Ev) (m:Nat):ln h m ≤ h.length := hrd_len h _
def Rw (h:List Ev) (w:World) (B C k:Nat):Prop := ∃ f,w.rowIs B 174 5 f ∧ ∀ j,j < k → ∃ q d,f j = .slice q (ln h j) d ∧ Al h w j q d ∧ ∀ p,q = some p → C ≤ p.block
theorem Rw.later {h:List Ev} {w w':World} {B C k:Nat} (g:Rw h w B C k) (hb:Below w.heap.size w w'):Rw h w' B C k := by
 obtain ⟨f,r,x⟩ := g
 refine ⟨f,rowIs_later r hb,fun j hj => ?_⟩
 obtain ⟨q,d,e,v,o⟩ := x j hj
 exact ⟨q,d,e,v.later hb,o⟩
theorem vw_setAway {w:World} {q:Option Addr} {n:Nat} {xs:List Int} (hv:Vw w q n xs) {B i:Nat} (hne:∀ p,q = some p → p.block ≠ B) (v:Value):Vw (w.setCell ⟨B,i,none⟩ v) q n xs := by
 refine ⟨hv.1,fun hn => ?_⟩
 obtain ⟨b,off,e,hlt,hc⟩ := hv.2 hn
 subst e
 have hb := hne _ rfl
 refine ⟨b,off,rfl,by simpa [World.setCell] using hlt,fun k hk => ?_⟩
 rw [World.cell?_setCell_other _ _ _ _ (fun e => hb (congrArg Addr.block e).symm)]
 exact hc k hk
theorem Al.set {h:List Ev} {w:World} {m:Nat} {q:Option Addr} {d:Nat} (g:Al h w m q d) {B C:Nat} (ho:∀ p,q = some p → C ≤ p.block) (hBC:B < C) (i:Nat) (v:Value):Al h (w.setCell ⟨B,i,none⟩ v) m q d := ⟨vw_setAway g.1 (fun p hp e => by have := ho p hp; omega) v,g.2⟩
theorem Al.set5 {h:List Ev} {w:World} {m:Nat} {q:Option Addr} {d:Nat} (g:Al h w m q d) {B C:Nat} (ho:∀ p,q = some p → C ≤ p.block) (hBC:B < C) (v0 v1 v2 v3 v4:Value):Al h (((((w.setCell ⟨B,0,none⟩ v0).setCell ⟨B,1,none⟩ v1).setCell ⟨B,2,none⟩ v2).setCell ⟨B,3,none⟩ v3).setCell ⟨B,4,none⟩ v4) m q d :=
 ((((g.set ho hBC 0 v0).set ho hBC 1 v1).set ho hBC 2 v2).set ho hBC 3 v3).set ho hBC 4 v4
theorem results_cellA {fn:Func} {p:Tmp} {ty:TypeId} (h:fn.results = #[.cell p ty]) (tmps:Array Value) (P:Program) (w:World) :
  (results fn tmps).run P w = ((asAddr (tmps.getD p undef)).run P w).andThen fun a w₁ => (loadVar ty a).run P w₁ := by
 simp only [results,h]
 simp [Sem.run_bind]
theorem ret5 {fn:Func} {tmps:Array Value} {w:World} {p:Tmp} {B:Nat} {v0 v1 v2 v3 v4:Value} (h:(results fn tmps).run Tryz.prog w = ((asAddr (tmps.getD p undef)).run Tryz.prog w).andThen fun a w₁ => (loadVar 174 a).run Tryz.prog w₁) (hp:tmps.getD p undef = .pointer (some ⟨B,0,none⟩))
  (y0:w.cell? ⟨B,0,none⟩ = some v0) (y1:w.cell? ⟨B,1,none⟩ = some v1) (y2:w.cell? ⟨B,2,none⟩ = some v2) (y3:w.cell? ⟨B,3,none⟩ = some v3) (y4:w.cell? ⟨B,4,none⟩ = some v4):(results fn tmps).run Tryz.prog w = .ok (.agg #[v0,v1,v2,v3,v4]) w := by
 rw [h,hp]
 simp [asAddr,go_sem,y0,y1,y2,y3,y4]
theorem Rw.step {h:List Ev} {w:World} {B C k d:Nat} {q:Option Addr} (x:Rw h w B C k) (hBC:B < C) (hv:Al h w k q d) (ho:∀ p,q = some p → C ≤ p.block):Rw h (w.setCell ⟨B,k,none⟩ (.slice q (ln h k) d)) B C (k + 1) := by
 obtain ⟨f,r,y⟩ := x
 refine ⟨_,r.set k _,fun j hj => ?_⟩
 have key:∀ (v:Value) {q:Option Addr} {j d:Nat},Al h w j q d → (∀ p,q = some p → C ≤ p.block) → Al h (w.setCell ⟨B,k,none⟩ v) j q d := fun v _ _ _ g go => ⟨vw_setAway g.1 (fun p hp e => by have := go p hp; omega) v,g.2⟩
 rcases Nat.lt_or_ge j k with hjk | hjk
 ·obtain ⟨q',d',e,v,o⟩ := y j hjk
  refine ⟨q',d',?_,key _ v o,o⟩
  show (if j = k then _ else _) = _
  rw [if_neg (by omega)]
  exact e
 ·obtain rfl:j = k := by omega
  exact ⟨q,d,if_pos rfl,key _ hv ho,ho⟩
set_option maxRecDepth 100000 in
set_option maxHeartbeats 4000000 in
theorem heardAll (a:Option Addr) (len cap:Nat) (h:List Ev) (w:World) (h60:len ≤ 60) (hv:Ew w a len h) :
  Calls Tryz.prog 92 #[.slice a len cap] w fun x w' => (∃ q0 q1 q2 q3 q4 d0 d1 d2 d3 d4,x = .returned (.agg #[.slice q0 (ln h 0) d0,.slice q1 (ln h 1) d1,.slice q2 (ln h 2) d2,.slice q3 (ln h 3) d3,.slice q4 (ln h 4) d4]) ∧ Al h w' 0 q0 d0 ∧ Al h w' 1 q1 d1 ∧ Al h w' 2 q2 d2 ∧ Al h w' 3 q3 d3 ∧ Al h w' 4 q4 d4) ∧ Below w.heap.size w w' := by
 have G:Hid (Ew w a len h) := hv
 obtain ⟨W0,eW⟩:∃ W,W = (w.alloc (.cells #[.slice none 0 0,.slice none 0 0,.slice none 0 0,.slice none 0 0,.slice none 0 0] 174)) := ⟨_,rfl⟩
 have B0:Hid (Below w.heap.size w (W0.alloc (.cells #[.slice none 0 0,.slice none 0 0,.slice none 0 0,.slice none 0 0,.slice none 0 0] 174))) := by
  subst eW
  exact ((Below.refl _ _).alloc (Nat.le_refl _) _).alloc (by simp) _
 have hz:∀ i,i < 5 → (#[.slice none 0 0,.slice none 0 0,.slice none 0 0,.slice none 0 0,.slice none 0 0]:Array Value)[i]? = some ((fun _:Nat => Value.slice none 0 0) i) := by
  intro i hi
  rcases i with _ | _ | _ | _ | _ | i <;> first | rfl | omega
 have R0:Hid (Rw h (W0.alloc (.cells #[.slice none 0 0,.slice none 0 0,.slice none 0 0,.slice none 0 0,.slice none 0 0] 174)) (w.heap.size + 1) (w.heap.size + 2) 0) := by
  refine ⟨fun _ => .slice none 0 0,?_,fun j hj => absurd hj (by omega)⟩
  have := World.rowIs_alloc W0 #[.slice none 0 0,.slice none 0 0,.slice none 0 0,.slice none 0 0,.slice none 0 0] 174 (fun _ => .slice none 0 0) hz
  rw [show W0.heap.size = w.heap.size + 1 by rw [eW]; simp] at this
  exact this
 have T0:Hid ((W0.alloc (.cells #[.slice none 0 0,.slice none 0 0,.slice none 0 0,.slice none 0 0,.slice none 0 0] 174)).rowIs w.heap.size 174 5 (fun _ => .slice none 0 0)) := by
  refine World.rowIs.alloc ?_ _
  rw [eW]
  exact World.rowIs_alloc w #[.slice none 0 0,.slice none 0 0,.slice none 0 0,.slice none 0 0,.slice none 0 0] 174 (fun _ => .slice none 0 0) hz
 clear hv hz
 go_enter Tryz.func92,Tryz.ntmps92
 go_wp2
 rw [← eW]
 go_loopw [5] (fun i wr => ∃ k:Nat,k ≤ 5 ∧ i = .int .i64 k ∧ Hid (Below w.heap.size w wr) ∧ Hid (Rw h wr (w.heap.size + 1) (w.heap.size + 2) k) ∧ Hid (w.heap.size + 2 ≤ wr.heap.size) ∧ Hid (wr.rowIs w.heap.size 174 5 (fun _ => .slice none 0 0))) (fun i _ => 5 - (intOf i).toNat)
 case atStart => exact ⟨0,by omega,rfl,B0.out,R0.out,by rw [eW]; show _ ≤ _; simp,T0.out⟩
 case round =>
  obtain ⟨k,hk,rfl,hbel,hR,hS,hT⟩ := hrel
  by_cases hlt:k < 5
  ·have hk0:(0:Int) ≤ (k:Int) := by omega
   have hkl:(k:Int) < 5 := by omega
   go_wp2_with fail
   refine (heardBy_any a len cap h (k:Int) _ h60 (G.out.later hbel.out)).mono ?_
   rintro e w1 ⟨⟨v,rfl,ho⟩,hb⟩
   obtain ⟨q,d,rfl,hvw,hd1,hd2,hq⟩ := own_sl ho
   have R1:Hid (Rw h w1 (w.heap.size + 1) (w.heap.size + 2) k) := Rw.later hR.out hb
   have A1:Hid (Al h w1 k q d ∧ ∀ p,q = some p → w.heap.size + 2 ≤ p.block) := ⟨⟨hvw,hd1,hd2⟩,fun p hp => Nat.le_trans hS.out (hq p hp)⟩
   have B1:Hid (Below w.heap.size w w1) := below_up rfl hbel.out hb
   have S1:Hid (w.heap.size + 2 ≤ w1.heap.size) := Nat.le_trans hS.out hb.size
   have T1:Hid (w1.rowIs w.heap.size 174 5 (fun _ => .slice none 0 0)) := rowIs_later hT.out hb
   obtain ⟨y,u0,z0⟩:∃ y,w1.cell? ⟨w.heap.size + 1,k,none⟩ = some y ∧ w1.frozen? ⟨w.heap.size + 1,k,none⟩ = false := by
    obtain ⟨f,r,_⟩ := R1.out
    exact ⟨_,r.cell hlt,r.frozen k⟩
   clear ho hb hvw hd1 hd2 hq
   go_wp2
   go_roundw
   case rel => exact ⟨k + 1,by omega,by go_num,B1.out.setCell (p := ⟨_,_,none⟩) (Nat.le_succ _) _,Rw.step R1.out (Nat.lt_succ_self _) A1.out.1 A1.out.2,by show _ ≤ _; simpa [World.setCell] using S1.out,World.rowIs.setOther T1.out (a := ⟨_,_,none⟩) (Nat.ne_of_lt (Nat.lt_succ_self _)) _⟩
   case measure => simp [intOf]; omega
  ·have hkl:k = 5 := by omega
   subst hkl
   obtain ⟨f,r,x⟩ := hR.out
   obtain ⟨q0,d0,e0,v0,o0⟩ := x 0 (by omega)
   obtain ⟨q1,d1,e1,v1,o1⟩ := x 1 (by omega)
   obtain ⟨q2,d2,e2,v2,o2⟩ := x 2 (by omega)
   obtain ⟨q3,d3,e3,v3,o3⟩ := x 3 (by omega)
   obtain ⟨q4,d4,e4,v4,o4⟩ := x 4 (by omega)
   have c0 := (r.cell (i := 0) (by omega)).trans (congrArg some e0)
   have c1 := (r.cell (i := 1) (by omega)).trans (congrArg some e1)
   have c2 := (r.cell (i := 2) (by omega)).trans (congrArg some e2)
   have c3 := (r.cell (i := 3) (by omega)).trans (congrArg some e3)
   have c4 := (r.cell (i := 4) (by omega)).trans (congrArg some e4)
   have t0 := hT.out.cell (i := 0) (by omega)
   have t1 := hT.out.cell (i := 1) (by omega)
   have t2 := hT.out.cell (i := 2) (by omega)
   have t3 := hT.out.cell (i := 3) (by omega)
   have t4 := hT.out.cell (i := 4) (by omega)
   have f0 := hT.out.frozen 0
   have f1 := hT.out.frozen 1
   have f2 := hT.out.frozen 2
   have f3 := hT.out.frozen 3
   have f4 := hT.out.frozen 4
   have V:Hid (Al h wr 0 q0 d0 ∧ Al h wr 1 q1 d1 ∧ Al h wr 2 q2 d2 ∧ Al h wr 3 q3 d3 ∧ Al h wr 4 q4 d4) := ⟨v0,v1,v2,v3,v4⟩
   have O:Hid ((∀ p,q0 = some p → w.heap.size + 2 ≤ p.block) ∧ (∀ p,q1 = some p → w.heap.size + 2 ≤ p.block) ∧ (∀ p,q2 = some p → w.heap.size + 2 ≤ p.block) ∧ (∀ p,q3 = some p → w.heap.size + 2 ≤ p.block) ∧ (∀ p,q4 = some p → w.heap.size + 2 ≤ p.block)) := ⟨o0,o1,o2,o3,o4⟩
   clear r x e0 e1 e2 e3 e4 v0 v1 v2 v3 v4 o0 o1 o2 o3 o4
   go_wp2
   have r5 := ((((World.rowIs.set hT.out 0 (.slice q0 (ln h 0) d0)).set 1 (.slice q1 (ln h 1) d1)).set 2 (.slice q2 (ln h 2) d2)).set 3 (.slice q3 (ln h 3) d3)).set 4 (.slice q4 (ln h 4) d4)
   have y0 := r5.cell (i := 0) (by omega)
   have y1 := r5.cell (i := 1) (by omega)
   have y2 := r5.cell (i := 2) (by omega)
   have y3 := r5.cell (i := 3) (by omega)
   have y4 := r5.cell (i := 4) (by omega)
   simp at y0 y1 y2 y3 y4
   refine bodyPost_ret (v := .agg #[.slice q0 (ln h 0) d0,.slice q1 (ln h 1) d1,.slice q2 (ln h 2) d2,.slice q3 (ln h 3) d3,.slice q4 (ln h 4) d4]) ?_ rfl ?_
   ·exact ret5 (results_cellA rfl _ _ _) rfl y0 y1 y2 y3 y4
   have hlt2:w.heap.size < w.heap.size + 2 := by omega
   refine ⟨⟨q0,q1,q2,q3,q4,d0,d1,d2,d3,d4,rfl,V.out.1.set5 O.out.1 hlt2 _ _ _ _ _,V.out.2.1.set5 O.out.2.1 hlt2 _ _ _ _ _,V.out.2.2.1.set5 O.out.2.2.1 hlt2 _ _ _ _ _,V.out.2.2.2.1.set5 O.out.2.2.2.1 hlt2 _ _ _ _ _,V.out.2.2.2.2.set5 O.out.2.2.2.2 hlt2 _ _ _ _ _⟩,?_⟩
   exact ((((hbel.out.setCell (p := ⟨_,_,none⟩) (Nat.le_refl _) _).setCell (p := ⟨_,_,none⟩) (Nat.le_refl _) _).setCell (p := ⟨_,_,none⟩) (Nat.le_refl _) _).setCell (p := ⟨_,_,none⟩) (Nat.le_refl _) _).setCell (p := ⟨_,_,none⟩) (Nat.le_refl _) _
theorem of1 (a:Option Addr) (len cap:Nat) (h:List Ev) (P x y:Nat) (w:World) (hx:x < len) (hy:y < len) (hp:w.cell? ⟨P,0,none⟩ = some (.slice a len cap)) (hv:Ew w a len h) :
  Calls Tryz.prog 90 #[.int .i64 (x:Int),.int .i64 (y:Int),.pointer (some ⟨P,0,none⟩)] w fun e w' => e = .returned (.bool (smB h x y)) ∧ Below w.heap.size w w' := by
 obtain ⟨b,off,rfl,hb,hcs⟩ := hv.2 (by omega)
 have c0 := (hcs x hx).1
 have c1 := (hcs y hy).1
 have ED:Hid (smB h x y = decide ((ev h x).1 = (ev h y).1)) := rfl
 obtain ⟨j0,g0⟩:∃ i,i = (ev h x).1 := ⟨_,rfl⟩
 obtain ⟨j1,g1⟩:∃ i,i = (ev h y).1 := ⟨_,rfl⟩
 rw [← g0,← g1] at ED
 rw [← g0] at c0
 rw [← g1] at c1
 have hx0:(0:Int) ≤ (x:Int) := by omega
 have hxl:(x:Int) < (len:Int) := by omega
 have hy0:(0:Int) ≤ (y:Int) := by omega
 have hyl:(y:Int) < (len:Int) := by omega
 clear hv hcs g0 g1 hb
 go_enter Tryz.func90,Tryz.ntmps90
 go_wp2
 go_quiet (fail)
 go_wp2
 go_ret
 exact ⟨ret_bool (by rw [ED.out,Bool.eq_iff_iff]; simp),below_drewN (Below.refl _ _) _⟩
theorem of2 (a:Option Addr) (len cap:Nat) (h:List Ev) (P A Q x y:Nat) (w:World) (hx:x < len) (hy:y < len) (hxy:x < y) (hg:Good h len) (hp:w.cell? ⟨P,0,none⟩ = some (.slice (some ⟨A,0,none⟩) len len)) (hq:w.cell? ⟨Q,0,none⟩ = some (.slice a len cap)) (hv:Ew w a len h) (hl:Lw w (some ⟨A,0,none⟩) len (rows h len)) :
  Calls Tryz.prog 91 #[.int .i64 (x:Int),.int .i64 (y:Int),.pointer (some ⟨P,0,none⟩),.pointer (some ⟨Q,0,none⟩)] w fun e w' => e = .returned (.bool (bef h x y)) ∧ Below w.heap.size w w' := by
 obtain ⟨b,off,rfl,hb,hcs⟩ := hv.2 (by omega)
 obtain ⟨_,_,e,hA,hrs⟩ := hl.2 (by omega)
 cases e
 obtain ⟨q1,k1,d1,v1⟩ := hrs x hx
 obtain ⟨q2,k2,d2,v2⟩ := hrs y hy
 rw [rows_get _ hx,row_len,Nat.zero_add] at d1
 rw [rows_get _ hx,row_len] at v1
 rw [rows_get _ hy,row_len,Nat.zero_add] at d2
 rw [rows_get _ hy,row_len] at v2
 obtain ⟨b1,o1,rfl,hb1,n1⟩ := v1.2 (by omega)
 obtain ⟨b2,o2,rfl,hb2,n2⟩ := v2.2 (by omega)
 have c0 := (hcs x hx).1
 rw [← W_cast hg hx] at c0
 have hW := W_lt hg hx
 have r1 := n1 (W h x) hW
 have r2 := n2 (W h x) hW
 have ED:Hid (bef h x y = decide ((row h x).getD (W h x) 0 ≤ (row h y).getD (W h x) 0)) := by
  show bef h x y = _
  unfold bef
  rw [decide_eq_true (show x ≠ y by omega),Bool.true_and]
 obtain ⟨m,em⟩:∃ i,i = W h x := ⟨_,rfl⟩
 rw [← em] at c0 hW r1 r2 ED
 obtain ⟨j0,g0⟩:∃ i,i = (row h x).getD m 0 := ⟨_,rfl⟩
 obtain ⟨j1,g1⟩:∃ i,i = (row h y).getD m 0 := ⟨_,rfl⟩
 rw [← g0,← g1] at ED
 rw [← g0] at r1
 rw [← g1] at r2
 have hx0:(0:Int) ≤ (x:Int) := by omega
 have hxl:(x:Int) < (len:Int) := by omega
 have hy0:(0:Int) ≤ (y:Int) := by omega
 have hyl:(y:Int) < (len:Int) := by omega
 have hm0:(0:Int) ≤ (m:Int) := by omega
 have hml:(m:Int) < 5 := by omega
 clear hv hl hcs hrs g0 g1 hb hb1 hb2 n1 n2 v1 v2 hA hg em
 go_enter Tryz.func91,Tryz.ntmps91
 go_wp2
 go_quiet (fail)
 go_wp2
 go_ret
 exact ⟨ret_bool (by rw [ED.out]),below_drewN (Below.refl _ _) _⟩
end Go.Proofs.YtdmniblonikjlakGreatDoor.His


namespace Go.Proofs.YtdmniblonikjlakGreatDoor.His
open Go.RowKit
open Vec
def Al5 (h:List Ev) (w:World) (q0 q1 q2 q3 q4:Option Addr) (d0 d1 d2 d3 d4:Nat):Prop := Al h w 0 q0 d0 ∧ Al h w 1 q1 d1 ∧ Al h w 2 q2 d2 ∧ Al h w 3 q3 d3 ∧ Al h w 4 q4 d4
theorem Al5.later {h:List Ev} {w w':World} {q0 q1 q2 q3 q4:Option Addr} {d0 d1 d2 d3 d4:Nat} (g:Al5 h w q0 q1 q2 q3 q4 d0 d1 d2 d3 d4) (hb:Below w.heap.size w w'):Al5 h w' q0 q1 q2 q3 q4 d0 d1 d2 d3 d4 := ⟨g.1.later hb,g.2.1.later hb,g.2.2.1.later hb,g.2.2.2.1.later hb,g.2.2.2.2.later hb⟩
theorem Al.max {h:List Ev} {w:World} {m:Nat} {q:Option Addr} {d:Nat} (g:Al h w m q d):ln h m ≤ maxLen := Nat.le_trans g.2.1 g.2.2
theorem hv1_own (words:List Int) (lw ew lword:Int):hv1 words lw lw ew lword = true := by simp [hv1]
theorem hv1_not {words:List Int} {who lw ew lword:Int} (h:lword ∉ words):hv1 words who lw ew lword = true := by simp [hv1,h]
theorem hv1_in {words:List Int} {who lw ew lword:Int} (hw:who ≠ lw) (h:lword ∈ words):hv1 words who lw ew lword = (words.take (ix words lword)).contains ew := by simp [hv1,h,hw]
theorem hv5_step {h:List Ev} {l0 e2 l2:Int} {k:Nat} (hp:∀ j:Nat,j < k → hv1 (hrd h (j:Int)) (j:Int) l0 e2 l2 = true) (hk:hv1 (hrd h (k:Int)) (k:Int) l0 e2 l2 = true):∀ j:Nat,j < k + 1 → hv1 (hrd h (j:Int)) (j:Int) l0 e2 l2 = true := by
 intro j hj
 rcases Nat.lt_or_ge j k with a | a
 ·exact hp j a
 ·obtain rfl:j = k := by omega
  exact hk
theorem hv5_all {h:List Ev} {e l:Ev} (hp:∀ j:Nat,j < 5 → hv1 (hrd h (j:Int)) (j:Int) l.1 e.2.2 l.2.2 = true):hv5 h e l = true := by
 unfold hv5
 rw [List.all_eq_true]
 exact fun j hj => hp j (List.mem_range.1 hj)
theorem hv5_no {h:List Ev} {e l:Ev} {k:Nat} (hk:k < 5) (hp:hv1 (hrd h (k:Int)) (k:Int) l.1 e.2.2 l.2.2 = false):hv5 h e l = false := by
 rw [Bool.eq_false_iff]
 intro hx
 unfold hv5 at hx
 rw [List.all_eq_true] at hx
 rw [hx k (List.mem_range.2 hk)] at hp
 exact absurd hp (by decide)
theorem quiet_plus {P:Program} {f:FuncId} {args:Array Value} {w:World} {n m:Nat} {v:Value} (h:Calls P f args (w.drewN (n + m)) fun e w' => e = .returned v ∧ w' = w.drewN (n + m)):Calls P f args (w.drewN (n + m)) fun e w'' => e = .returned v ∧ ∃ k,w'' = w.drewN (n + k) :=
 h.mono fun _ _ ⟨he,hm⟩ => ⟨he,m,hm⟩
theorem idx5 (v0 v1 v2 v3 v4:Value) (W:World) :
  (Instr.index 174 (.agg #[v0,v1,v2,v3,v4]) (.int .i64 0)).run Tryz.prog W = .ok v0 W ∧ (Instr.index 174 (.agg #[v0,v1,v2,v3,v4]) (.int .i64 1)).run Tryz.prog W = .ok v1 W ∧ (Instr.index 174 (.agg #[v0,v1,v2,v3,v4]) (.int .i64 2)).run Tryz.prog W = .ok v2 W ∧ (Instr.index 174 (.agg #[v0,v1,v2,v3,v4]) (.int .i64 3)).run Tryz.prog W = .ok v3 W ∧ (Instr.index 174 (.agg #[v0,v1,v2,v3,v4]) (.int .i64 4)).run Tryz.prog W = .ok v4 W := by
 refine ⟨?_,?_,?_,?_,?_⟩ <;> simp [Instr.index,run_underlying Tryz.underlying174,asIntOf,go_sem]
theorem sel5 {h:List Ev} {w:World} {q0 q1 q2 q3 q4:Option Addr} {d0 d1 d2 d3 d4:Nat} (g:Al5 h w q0 q1 q2 q3 q4 d0 d1 d2 d3 d4) {k:Nat} (hk:k < 5):∃ q d,(∀ W,(Instr.index 174 (.agg #[.slice q0 (ln h 0) d0,.slice q1 (ln h 1) d1,.slice q2 (ln h 2) d2,.slice q3 (ln h 3) d3,.slice q4 (ln h 4) d4]) (.int .i64 (k:Int))).run Tryz.prog W = .ok (.slice q (ln h k) d) W) ∧ Al h w k q d := by
 have e := idx5 (.slice q0 (ln h 0) d0) (.slice q1 (ln h 1) d1) (.slice q2 (ln h 2) d2) (.slice q3 (ln h 3) d3) (.slice q4 (ln h 4) d4)
 obtain ⟨g0,g1,g2,g3,g4⟩ := g
 rcases k with _ | _ | _ | _ | _ | k
 ·exact ⟨q0,d0,fun W => (e W).1,g0⟩
 ·exact ⟨q1,d1,fun W => (e W).2.1,g1⟩
 ·exact ⟨q2,d2,fun W => (e W).2.2.1,g2⟩
 ·exact ⟨q3,d3,fun W => (e W).2.2.2.1,g3⟩
 ·exact ⟨q4,d4,fun W => (e W).2.2.2.2,g4⟩
 ·omega
set_option maxRecDepth 100000 in
set_option maxHeartbeats 8000000 in
theorem have_any (h:List Ev) (q0 q1 q2 q3 q4:Option Addr) (d0 d1 d2 d3 d4:Nat) (e0 e1 e2 l0 l1 l2:Int) (w:World) (ha:Al5 h w q0 q1 q2 q3 q4 d0 d1 d2 d3 d4) :
  Calls Tryz.prog 131 #[.agg #[.slice q0 (ln h 0) d0,.slice q1 (ln h 1) d1,.slice q2 (ln h 2) d2,.slice q3 (ln h 3) d3,.slice q4 (ln h 4) d4],.agg #[.int .i64 e0,.int .i64 e1,.int .i64 e2],.agg #[.int .i64 l0,.int .i64 l1,.int .i64 l2]] w fun x w' => x = .returned (.bool (hv5 h (e0,e1,e2) (l0,l1,l2))) ∧ Below w.heap.size w w' := by
 obtain ⟨W0,eW⟩:∃ W,W = ((w.alloc (.cells #[.slice q0 (ln h 0) d0,.slice q1 (ln h 1) d1,.slice q2 (ln h 2) d2,.slice q3 (ln h 3) d3,.slice q4 (ln h 4) d4] 174)).alloc (.cells #[.int .i64 e0,.int .i64 e1,.int .i64 e2] 40)).alloc (.cells #[.int .i64 l0,.int .i64 l1,.int .i64 l2] 40) := ⟨_,rfl⟩
 have B0:Hid (Below w.heap.size w W0) := by
  subst eW
  exact (((Below.refl _ _).alloc (Nat.le_refl _) _).alloc (by simp) _).alloc (by simp; omega) _
 have D0:Hid (Al5 h W0 q0 q1 q2 q3 q4 d0 d1 d2 d3 d4) := Al5.later ha B0.out
 have c0:W0.cell? ⟨w.heap.size + 1,2,none⟩ = some (.int .i64 e2) := by rw [eW]; go_cell
 have c1:W0.cell? ⟨w.heap.size + 1 + 1,0,none⟩ = some (.int .i64 l0) := by rw [eW]; go_cell
 have c2:W0.cell? ⟨w.heap.size + 1 + 1,2,none⟩ = some (.int .i64 l2) := by rw [eW]; go_cell
 clear ha
 go_enter Tryz.func131,Tryz.ntmps131
 go_wp2
 rw [← eW]
 clear eW
 go_loopw [11] (fun i wr => ∃ k:Nat,k ≤ 5 ∧ i = .int .i64 (k:Int) ∧ (∃ n,wr = W0.drewN n) ∧ Hid (∀ j:Nat,j < k → hv1 (hrd h (j:Int)) (j:Int) l0 e2 l2 = true)) (fun i _ => 5 - (intOf i).toNat)
 case atStart => exact ⟨0,by omega,rfl,⟨0,rfl⟩,fun j hj => absurd hj (by omega)⟩
 case round =>
  obtain ⟨k,hk,rfl,⟨nd,rfl⟩,hp⟩ := hrel
  by_cases hlt:k < 5
  ·obtain ⟨q,d,hidx,al⟩ := sel5 D0.out hlt
   have hk0:(0:Int) ≤ (k:Int) := by omega
   have hkl:(k:Int) < 5 := by omega
   have V0:Hid (Vw W0 q (ln h k) (hrd h (k:Int)) ∧ ln h k ≤ d ∧ ln h k ≤ maxLen ∧ d ≤ maxLen) := ⟨al.1,al.2.1,al.max,al.2.2⟩
   clear al
   go_wp2_with fail
   refine (idx_ints q (ln h k) d (hrd h (k:Int)) l2 _ V0.out.2.2.1 (by exact V0.out.1)).mono ?_
   rintro e w1 ⟨rfl,rfl⟩
   by_cases hl:(k:Int) = l0
   ·have hne:((k:Int) != l0) = false := by simp [hl]
    have HL:Hid ((k:Int) = l0) := hl
    clear hl
    go_wp2
    go_quiet (fail)
    go_wp2
    go_roundw
    case rel => exact ⟨k + 1,by omega,by go_num,⟨_,rfl⟩,hv5_step (hp.out) (by rw [HL.out]; exact hv1_own _ _ _ _)⟩
    case measure => simp [intOf]; omega
   ·have hne:((k:Int) != l0) = true := by rw [bne_iff_ne]; exact hl
    by_cases hin:l2 ∈ hrd h (k:Int)
    ·have HIX:Hid (ixI (hrd h (k:Int)) l2 = (ix (hrd h (k:Int)) l2:Nat) ∧ ix (hrd h (k:Int)) l2 < ln h k) := ⟨if_pos hin,ix_lt hin⟩
     have HV:Hid (hv1 (hrd h (k:Int)) (k:Int) l0 e2 l2 = ((hrd h (k:Int)).take (ix (hrd h (k:Int)) l2)).contains e2) := hv1_in hl hin
     rw [HIX.out.1]
     obtain ⟨x,ex⟩:∃ x,x = ix (hrd h (k:Int)) l2 := ⟨_,rfl⟩
     rw [← ex] at HIX HV ⊢
     have hx0:(0:Int) ≤ (x:Int) := by omega
     have hxd:x ≤ d := Nat.le_trans (Nat.le_of_lt HIX.out.2) V0.out.2.1
     have hxd':(x:Int) ≤ (d:Int) := by omega
     have XM:Hid (x ≤ maxLen ∧ x ≤ ln h k) := ⟨Nat.le_trans hxd V0.out.2.2.2,Nat.le_of_lt HIX.out.2⟩
     obtain ⟨b,off,rfl,-,-⟩ := V0.out.1.2 (by have := HIX.out.2; omega)
     clear ex hin
     have hcall:∀ n,Calls Tryz.prog 164 #[.slice (some ⟨b,off,none⟩) x d,.int .i64 e2] (W0.drewN n) fun e w' => e = .returned (.bool (((hrd h (k:Int)).take x).contains e2)) ∧ w' = W0.drewN n := fun n => cont_ints (some ⟨b,off,none⟩) x d ((hrd h (k:Int)).take x) e2 _ XM.out.1 (by exact Vw.take V0.out.1 XM.out.2)
     obtain ⟨r,er⟩:∃ r,r = ((hrd h (k:Int)).take x).contains e2 := ⟨_,rfl⟩
     rw [← er] at hcall HV
     clear er
     cases r with
     | true =>
      go_wp2
      go_quiet (first | (go_at_call 164; refine quiet_plus (hcall _)))
      go_wp2
      go_roundw
      case rel => exact ⟨k + 1,by omega,by go_num,⟨_,rfl⟩,hv5_step (hp.out) (HV.out)⟩
      case measure => simp [intOf]; omega
     | false =>
      have HN:Hid _ := hv5_no (h := h) (e := (e0,e1,e2)) (l := (l0,l1,l2)) (k := k) hlt (HV.out)
      go_wp2
      go_quiet (first | (go_at_call 164; refine quiet_plus (hcall _)))
      go_wp2
      go_ret
      exact ⟨ret_bool HN.out.symm,below_drewN (below_drewN B0.out _) _⟩
    ·have HIX:ixI (hrd h (k:Int)) l2 = -1 := if_neg hin
     have HIN:Hid (l2 ∉ hrd h (k:Int)) := hin
     rw [HIX]
     clear HIX hin
     go_wp2
     go_quiet (fail)
     go_wp2
     go_roundw
     case rel => exact ⟨k + 1,by omega,by go_num,⟨_,rfl⟩,hv5_step (hp.out) (hv1_not HIN.out)⟩
     case measure => simp [intOf]; omega
  ·have hk5:k = 5 := by omega
   subst hk5
   go_wp2
   go_ret
   exact ⟨ret_bool (hv5_all (e := (e0,e1,e2)) (l := (l0,l1,l2)) hp.out).symm,below_drewN B0.out _⟩
end Go.Proofs.YtdmniblonikjlakGreatDoor.His


namespace Go.Proofs.YtdmniblonikjlakGreatDoor.His
open Go.RowKit
open Vec
def K1 (w:World) (a:Option Addr) (len cap:Nat) (h:List Ev) (P:Nat):Prop := Ew w a len h ∧ P < w.heap.size ∧ w.cell? ⟨P,0,none⟩ = some (.slice a len cap)
theorem K1.later {w w':World} {a:Option Addr} {len cap:Nat} {h:List Ev} {P:Nat} (g:K1 w a len cap h P) (hb:Below w.heap.size w w'):K1 w' a len cap h P := ⟨g.1.later hb,Nat.lt_of_lt_of_le g.2.1 hb.size,(hb.cell (p := ⟨P,0,none⟩) g.2.1).trans g.2.2⟩
def K2 (w:World) (a:Option Addr) (len cap:Nat) (h:List Ev) (P A Q:Nat):Prop := K1 w a len cap h Q ∧ Good h len ∧ P < w.heap.size ∧ w.cell? ⟨P,0,none⟩ = some (.slice (some ⟨A,0,none⟩) len len) ∧ Lw w (some ⟨A,0,none⟩) len (rows h len)
theorem K2.later {w w':World} {a:Option Addr} {len cap:Nat} {h:List Ev} {P A Q:Nat} (g:K2 w a len cap h P A Q) (hb:Below w.heap.size w w'):K2 w' a len cap h P A Q := ⟨K1.later g.1 hb,g.2.1,Nat.lt_of_lt_of_le g.2.2.1 hb.size,(hb.cell (p := ⟨P,0,none⟩) g.2.2.1).trans g.2.2.2.1,g.2.2.2.2.later hb⟩
theorem of1k (a:Option Addr) (len cap:Nat) (h:List Ev) (P x y:Nat) (w:World) (hxy:x < y) (hy:y < len) (g:K1 w a len cap h P) :
  Calls Tryz.prog 90 #[.int .i64 (x:Int),.int .i64 (y:Int),.pointer (some ⟨P,0,none⟩)] w fun e w' => e = .returned (.bool (smB h x y)) ∧ Below w.heap.size w w' := of1 a len cap h P x y w (by omega) hy g.2.2 g.1
theorem of2k (a:Option Addr) (len cap:Nat) (h:List Ev) (P A Q x y:Nat) (w:World) (hxy:x < y) (hy:y < len) (g:K2 w a len cap h P A Q) :
  Calls Tryz.prog 91 #[.int .i64 (x:Int),.int .i64 (y:Int),.pointer (some ⟨P,0,none⟩),.pointer (some ⟨Q,0,none⟩)] w fun e w' => e = .returned (.bool (bef h x y)) ∧ Below w.heap.size w w' := of2 a len cap h P A Q x y w (by omega) hy hxy g.2.1 g.2.2.2.1 g.1.2.2 g.1.1 g.2.2.2.2
def B5 (w:World) (B:Nat) (v0 v1 v2 v3 v4:Value):Prop := w.cell? ⟨B,0,none⟩ = some v0 ∧ w.cell? ⟨B,1,none⟩ = some v1 ∧ w.cell? ⟨B,2,none⟩ = some v2 ∧ w.cell? ⟨B,3,none⟩ = some v3 ∧ w.cell? ⟨B,4,none⟩ = some v4
theorem B5.later {w w':World} {B:Nat} {v0 v1 v2 v3 v4:Value} (g:B5 w B v0 v1 v2 v3 v4) (hB:B < w.heap.size) (hb:Below w.heap.size w w'):B5 w' B v0 v1 v2 v3 v4 :=
 ⟨(hb.cell (p := ⟨B,0,none⟩) hB).trans g.1,(hb.cell (p := ⟨B,1,none⟩) hB).trans g.2.1,(hb.cell (p := ⟨B,2,none⟩) hB).trans g.2.2.1,(hb.cell (p := ⟨B,3,none⟩) hB).trans g.2.2.2.1,(hb.cell (p := ⟨B,4,none⟩) hB).trans g.2.2.2.2⟩
def E3 (w:World) (B:Nat) (x0 x1 x2:Int):Prop := w.cell? ⟨B,0,none⟩ = some (.int .i64 x0) ∧ w.cell? ⟨B,1,none⟩ = some (.int .i64 x1) ∧ w.cell? ⟨B,2,none⟩ = some (.int .i64 x2)
theorem E3.later {w w':World} {B:Nat} {x0 x1 x2:Int} (g:E3 w B x0 x1 x2) (hB:B < w.heap.size) (hb:Below w.heap.size w w'):E3 w' B x0 x1 x2 :=
 ⟨(hb.cell (p := ⟨B,0,none⟩) hB).trans g.1,(hb.cell (p := ⟨B,1,none⟩) hB).trans g.2.1,(hb.cell (p := ⟨B,2,none⟩) hB).trans g.2.2⟩
theorem E3.new (w:World) (x0 x1 x2:Int) (t:TypeId):E3 (w.alloc (.cells #[.int .i64 x0,.int .i64 x1,.int .i64 x2] t)) w.heap.size x0 x1 x2 := by
 refine ⟨?_,?_,?_⟩ <;> go_cell
theorem B5.new (w:World) (v0 v1 v2 v3 v4:Value) (t:TypeId):B5 (w.alloc (.cells #[v0,v1,v2,v3,v4] t)) w.heap.size v0 v1 v2 v3 v4 := by
 refine ⟨?_,?_,?_,?_,?_⟩ <;> go_cell
theorem kp1_a {h:List Ev} {p:Nat → Nat → Bool} {i k:Nat} (hk:(ev h k).2.1 ≠ 2):kp1 h p i k = true := by simp [kp1,hk]
theorem kp1_b {h:List Ev} {p:Nat → Nat → Bool} {i k:Nat} (hi:(ev h i).2.1 ≠ 2):kp1 h p i k = true := by simp [kp1,hi]
theorem kp1_c {h:List Ev} {p:Nat → Nat → Bool} {i k:Nat} (hp:p i k = false):kp1 h p i k = true := by simp [kp1,hp]
theorem kp1_d {h:List Ev} {p:Nat → Nat → Bool} {i k:Nat} (hi:(ev h i).2.1 = 2) (hk:(ev h k).2.1 = 2) (hp:p i k = true):kp1 h p i k = hv5 h (ev h i) (ev h k) := by simp [kp1,hp,hi,hk]
theorem keep_all {h:List Ev} {p:Nat → Nat → Bool} (hx:∀ k,k < h.length → ∀ i,i < k → kp1 h p i k = true):keepB h p = true := by
 unfold keepB
 simp only [List.all_eq_true,List.mem_range]
 exact hx
theorem keep_not {h:List Ev} {p:Nat → Nat → Bool} {i k:Nat} (hk:k < h.length) (hi:i < k) (hn:kp1 h p i k = false):keepB h p = false := by
 rw [Bool.eq_false_iff]
 intro hx
 unfold keepB at hx
 simp only [List.all_eq_true,List.mem_range] at hx
 rw [hx k hk i hi] at hn
 exact absurd hn (by decide)
theorem up_step {p:Nat → Bool} {k:Nat} (hp:∀ j,j < k → p j = true) (hk:p k = true):∀ j,j < k + 1 → p j = true := by
 intro j hj
 rcases Nat.lt_or_ge j k with a | a
 ·exact hp j a
 ·obtain rfl:j = k := by omega
  exact hk
theorem up_row {p:Nat → Nat → Bool} {k:Nat} (hp:∀ k',k' < k → ∀ i,i < k' → p i k' = true) (hk:∀ i,i < k → p i k = true):∀ k',k' < k + 1 → ∀ i,i < k' → p i k' = true := by
 intro j hj
 rcases Nat.lt_or_ge j k with a | a
 ·exact hp j a
 ·obtain rfl:j = k := by omega
  exact hk
set_option maxRecDepth 100000 in
set_option maxHeartbeats 8000000 in
theorem keep1 (a:Option Addr) (len cap:Nat) (h:List Ev) (P:Nat) (q0 q1 q2 q3 q4:Option Addr) (d0 d1 d2 d3 d4:Nat) (w:World) (h60:len ≤ 60) (hlc:len ≤ cap) (hm:cap ≤ maxLen) (hk:K1 w a len cap h P) (ha:Al5 h w q0 q1 q2 q3 q4 d0 d1 d2 d3 d4) :
  Calls Tryz.prog 93 #[.agg #[.slice q0 (ln h 0) d0,.slice q1 (ln h 1) d1,.slice q2 (ln h 2) d2,.slice q3 (ln h 3) d3,.slice q4 (ln h 4) d4],.slice a len cap,.func (.func 90) #[] #[.pointer (some ⟨P,0,none⟩)]] w fun x w' => x = .returned (.bool (keepB h (smB h))) ∧ Below w.heap.size w w' := by
 unfold maxLen at hm
 obtain ⟨W0,eW⟩:∃ W,W = w.alloc (.cells #[.slice q0 (ln h 0) d0,.slice q1 (ln h 1) d1,.slice q2 (ln h 2) d2,.slice q3 (ln h 3) d3,.slice q4 (ln h 4) d4] 174) := ⟨_,rfl⟩
 have B0:Hid (Below w.heap.size w W0) := by
  subst eW
  exact (Below.refl _ _).alloc (Nat.le_refl _) _
 have D0:Hid (Al5 h W0 q0 q1 q2 q3 q4 d0 d1 d2 d3 d4) := Al5.later ha B0.out
 have K0:Hid (K1 W0 a len cap h P) := K1.later hk B0.out
 have F0:Hid (B5 W0 w.heap.size (.slice q0 (ln h 0) d0) (.slice q1 (ln h 1) d1) (.slice q2 (ln h 2) d2) (.slice q3 (ln h 3) d3) (.slice q4 (ln h 4) d4) ∧ w.heap.size < W0.heap.size) := by
  subst eW
  exact ⟨B5.new _ _ _ _ _ _ _,by simp⟩
 have HL:Hid (h.length = len) := hk.1.1
 clear ha hk
 go_enter Tryz.func93,Tryz.ntmps93
 go_wp2
 rw [← eW]
 clear eW
 go_loopw [13] (fun x wr => ∃ k:Nat,k ≤ len ∧ x = .int .i64 (k:Int) ∧ Hid (Below W0.heap.size W0 wr) ∧ Hid (∀ k',k' < k → ∀ i,i < k' → kp1 h (smB h) i k' = true)) (fun x _ => len - (intOf x).toNat)
 case atStart => exact ⟨0,by omega,rfl,Below.refl _ _,fun j hj => absurd hj (by omega)⟩
 case round =>
  obtain ⟨k,hk,rfl,hbel,hp⟩ := hrel
  by_cases hlt:k < len
  ·have KW:Hid (K1 wr a len cap h P) := K1.later K0.out hbel.out
   obtain ⟨b,off,rfl,hpb,hcs⟩ := KW.out.1.2 (by omega)
   obtain ⟨c0,c1,c2⟩ := hcs k hlt
   obtain ⟨s,es⟩:∃ s,s = ev h k := ⟨_,rfl⟩
   rw [← es] at c0 c1 c2
   obtain ⟨s0,s1,s2⟩ := s
   have ES:Hid _ := es
   have hk0:(0:Int) ≤ (k:Int) := by omega
   have hkl:(k:Int) < (len:Int) := by omega
   have hkc:(k:Int) ≤ (cap:Int) := by omega
   obtain ⟨W1,eW1⟩:∃ W,W = wr.alloc (.cells #[.int .i64 s0,.int .i64 s1,.int .i64 s2] 40) := ⟨_,rfl⟩
   have B1:Hid (Below wr.heap.size wr W1) := by
    subst eW1
    exact (Below.refl _ _).alloc (Nat.le_refl _) _
   have E1:Hid (E3 W1 wr.heap.size s0 s1 s2 ∧ wr.heap.size < W1.heap.size) := by
    subst eW1
    exact ⟨E3.new _ _ _ _ _,by simp⟩
   clear hcs es hpb
   by_cases g1:s1 = 2
   ·subst g1
    have B01:Hid (Below W0.heap.size W0 W1) := below_up rfl hbel.out B1.out
    go_wp2
    rw [← eW1]
    clear eW1 c0 c1 c2
    obtain ⟨Wr,eWr⟩:∃ W,W = wr := ⟨_,rfl⟩
    subst eWr
    go_loopw [25] (fun x wi => ∃ i:Nat,i ≤ k ∧ x = .int .i64 (i:Int) ∧ Hid (Below W1.heap.size W1 wi) ∧ Hid (∀ j,j < i → kp1 h (smB h) j k = true)) (fun x _ => k - (intOf x).toNat)
    case atStart => exact ⟨0,by omega,rfl,Below.refl _ _,fun j hj => absurd hj (by omega)⟩
    case round =>
     obtain ⟨i,hi,rfl,hbi,hpi⟩ := hrel
     by_cases hlti:i < k
     ·have B0i:Hid (Below W0.heap.size W0 wr) := below_up rfl B01.out hbi.out
      have KW:Hid (K1 wr (some ⟨b,off,none⟩) len cap h P) := K1.later K0.out B0i.out
      obtain ⟨_,_,e,-,hcs⟩ := KW.out.1.2 (by omega)
      cases e
      obtain ⟨c0,c1,c2⟩ := hcs i (by omega)
      obtain ⟨t,et⟩:∃ t,t = ev h i := ⟨_,rfl⟩
      rw [← et] at c0 c1 c2
      obtain ⟨t0,t1,t2⟩ := t
      have ET:Hid _ := et
      have hi0:(0:Int) ≤ (i:Int) := by omega
      have hil:(i:Int) < (k:Int) := by omega
      obtain ⟨W2,eW2⟩:∃ W,W = wr.alloc (.cells #[.int .i64 t0,.int .i64 t1,.int .i64 t2] 40) := ⟨_,rfl⟩
      have B2:Hid (Below wr.heap.size wr W2) := by
       subst eW2
       exact (Below.refl _ _).alloc (Nat.le_refl _) _
      have E2:Hid (E3 W2 wr.heap.size t0 t1 t2 ∧ wr.heap.size < W2.heap.size) := by
       subst eW2
       exact ⟨E3.new _ _ _ _ _,by simp⟩
      have B12:Hid (Below W1.heap.size W1 W2) := below_up rfl hbi.out B2.out
      clear hcs et
      by_cases g2:t1 = 2
      ·subst g2
       have hLT:Hid (i < k ∧ k < len) := ⟨hlti,hlt⟩
       go_wp2_with fail
       rw [← eW2]
       refine (of1k (some ⟨b,off,none⟩) len cap h P i k _ hLT.out.1 hLT.out.2 (K1.later KW.out B2.out)).mono ?_
       rintro e w3 ⟨rfl,hb⟩
       have B3:Hid (Below W2.heap.size W2 w3) := hb
       have B13:Hid (Below W1.heap.size W1 w3) := below_up rfl B12.out hb
       obtain ⟨m0,m1,m2⟩ := E3.later E2.out.1 E2.out.2 hb
       obtain ⟨n0,n1,n2⟩ := E3.later E1.out.1 E1.out.2 B13.out
       obtain ⟨f0,f1,f2,f3,f4⟩ := B5.later F0.out.1 F0.out.2 (below_up rfl B01.out B13.out)
       have D3:Hid (Al5 h w3 q0 q1 q2 q3 q4 d0 d1 d2 d3 d4) := Al5.later D0.out (below_up rfl B01.out B13.out)
       clear hb eW2 c0 c1 c2
       cases hpx:smB h i k with
       | false =>
        go_wp2
        go_roundw
        case rel => exact ⟨i + 1,by omega,by go_num,B13.out,up_step (p := fun j => kp1 h (smB h) j k) hpi.out (kp1_c hpx)⟩
        case measure => simp [intOf]; omega
       | true =>
        have HK:Hid (kp1 h (smB h) i k = hv5 h (t0,2,t2) (s0,2,s2)) := by
         have e1:(ev h i).2.1 = 2 := by rw [← ET.out]
         have e2:(ev h k).2.1 = 2 := by rw [← ES.out]
         show _ = _
         rw [kp1_d e1 e2 hpx,ET.out,ES.out]
        go_wp2_with fail
        refine (have_any h q0 q1 q2 q3 q4 d0 d1 d2 d3 d4 t0 2 t2 s0 2 s2 _ D3.out).mono ?_
        rintro e w4 ⟨rfl,hb⟩
        have B14:Hid (Below W1.heap.size W1 w4) := below_up rfl B13.out hb
        clear hb m0 m1 m2 n0 n1 n2 f0 f1 f2 f3 f4
        cases hvx:hv5 h (t0,2,t2) (s0,2,s2) with
        | true =>
         go_wp2
         go_roundw
         case rel => exact ⟨i + 1,by omega,by go_num,B14.out,up_step (p := fun j => kp1 h (smB h) j k) hpi.out (HK.out.trans hvx)⟩
         case measure => simp [intOf]; omega
        | false =>
         have HN:Hid (keepB h (smB h) = false) := keep_not (by rw [HL.out]; exact hLT.out.2) hLT.out.1 (HK.out.trans hvx)
         go_wp2
         go_ret
         exact ⟨ret_bool HN.out.symm,below_up rfl B0.out (below_up rfl B01.out B14.out)⟩
      ·have g2':(t1 == 2) = false := by simp [g2]
       have HK:Hid (kp1 h (smB h) i k = true) := kp1_b (by rw [← ET.out]; exact g2)
       go_wp2
       rw [← eW2]
       go_roundw
       case rel => exact ⟨i + 1,by omega,by go_num,B12.out,up_step (p := fun j => kp1 h (smB h) j k) hpi.out HK.out⟩
       case measure => simp [intOf]; omega
     ·have hik:i = k := by omega
      subst hik
      go_wp2
      go_roundw
      case rel => exact ⟨i + 1,by omega,by go_num,below_up rfl B01.out hbi.out,up_row hp.out hpi.out⟩
      case measure => simp [intOf]; omega
   ·have g1':(s1 != 2) = true := by rw [bne_iff_ne]; exact g1
    have HK:Hid (∀ i,i < k → kp1 h (smB h) i k = true) := fun i _ => kp1_a (by rw [← ES.out]; exact g1)
    go_wp2
    rw [← eW1]
    go_roundw
    case rel => exact ⟨k + 1,by omega,by go_num,below_up rfl hbel.out B1.out,up_row hp.out HK.out⟩
    case measure => simp [intOf]; omega
  ·have hkl:k = len := by omega
   subst hkl
   go_wp2
   go_ret
   exact ⟨ret_bool (keep_all (by rw [HL.out]; exact hp.out)).symm,below_up rfl B0.out hbel.out⟩
set_option maxRecDepth 100000 in
set_option maxHeartbeats 8000000 in
theorem keep2 (a:Option Addr) (len cap:Nat) (h:List Ev) (P A Q:Nat) (q0 q1 q2 q3 q4:Option Addr) (d0 d1 d2 d3 d4:Nat) (w:World) (h60:len ≤ 60) (hlc:len ≤ cap) (hm:cap ≤ maxLen) (hk:K2 w a len cap h P A Q) (ha:Al5 h w q0 q1 q2 q3 q4 d0 d1 d2 d3 d4) :
  Calls Tryz.prog 93 #[.agg #[.slice q0 (ln h 0) d0,.slice q1 (ln h 1) d1,.slice q2 (ln h 2) d2,.slice q3 (ln h 3) d3,.slice q4 (ln h 4) d4],.slice a len cap,.func (.func 91) #[] #[.pointer (some ⟨P,0,none⟩),.pointer (some ⟨Q,0,none⟩)]] w fun x w' => x = .returned (.bool (keepB h (bef h))) ∧ Below w.heap.size w w' := by
 unfold maxLen at hm
 obtain ⟨W0,eW⟩:∃ W,W = w.alloc (.cells #[.slice q0 (ln h 0) d0,.slice q1 (ln h 1) d1,.slice q2 (ln h 2) d2,.slice q3 (ln h 3) d3,.slice q4 (ln h 4) d4] 174) := ⟨_,rfl⟩
 have B0:Hid (Below w.heap.size w W0) := by
  subst eW
  exact (Below.refl _ _).alloc (Nat.le_refl _) _
 have D0:Hid (Al5 h W0 q0 q1 q2 q3 q4 d0 d1 d2 d3 d4) := Al5.later ha B0.out
 have K0:Hid (K2 W0 a len cap h P A Q) := K2.later hk B0.out
 have F0:Hid (B5 W0 w.heap.size (.slice q0 (ln h 0) d0) (.slice q1 (ln h 1) d1) (.slice q2 (ln h 2) d2) (.slice q3 (ln h 3) d3) (.slice q4 (ln h 4) d4) ∧ w.heap.size < W0.heap.size) := by
  subst eW
  exact ⟨B5.new _ _ _ _ _ _ _,by simp⟩
 have HL:Hid (h.length = len) := hk.1.1.1
 clear ha hk
 go_enter Tryz.func93,Tryz.ntmps93
 go_wp2
 rw [← eW]
 clear eW
 go_loopw [13] (fun x wr => ∃ k:Nat,k ≤ len ∧ x = .int .i64 (k:Int) ∧ Hid (Below W0.heap.size W0 wr) ∧ Hid (∀ k',k' < k → ∀ i,i < k' → kp1 h (bef h) i k' = true)) (fun x _ => len - (intOf x).toNat)
 case atStart => exact ⟨0,by omega,rfl,Below.refl _ _,fun j hj => absurd hj (by omega)⟩
 case round =>
  obtain ⟨k,hk,rfl,hbel,hp⟩ := hrel
  by_cases hlt:k < len
  ·have KW:Hid (K2 wr a len cap h P A Q) := K2.later K0.out hbel.out
   obtain ⟨b,off,rfl,hpb,hcs⟩ := KW.out.1.1.2 (by omega)
   obtain ⟨c0,c1,c2⟩ := hcs k hlt
   obtain ⟨s,es⟩:∃ s,s = ev h k := ⟨_,rfl⟩
   rw [← es] at c0 c1 c2
   obtain ⟨s0,s1,s2⟩ := s
   have ES:Hid _ := es
   have hk0:(0:Int) ≤ (k:Int) := by omega
   have hkl:(k:Int) < (len:Int) := by omega
   have hkc:(k:Int) ≤ (cap:Int) := by omega
   obtain ⟨W1,eW1⟩:∃ W,W = wr.alloc (.cells #[.int .i64 s0,.int .i64 s1,.int .i64 s2] 40) := ⟨_,rfl⟩
   have B1:Hid (Below wr.heap.size wr W1) := by
    subst eW1
    exact (Below.refl _ _).alloc (Nat.le_refl _) _
   have E1:Hid (E3 W1 wr.heap.size s0 s1 s2 ∧ wr.heap.size < W1.heap.size) := by
    subst eW1
    exact ⟨E3.new _ _ _ _ _,by simp⟩
   clear hcs es hpb
   by_cases g1:s1 = 2
   ·subst g1
    have B01:Hid (Below W0.heap.size W0 W1) := below_up rfl hbel.out B1.out
    go_wp2
    rw [← eW1]
    clear eW1 c0 c1 c2
    obtain ⟨Wr,eWr⟩:∃ W,W = wr := ⟨_,rfl⟩
    subst eWr
    go_loopw [25] (fun x wi => ∃ i:Nat,i ≤ k ∧ x = .int .i64 (i:Int) ∧ Hid (Below W1.heap.size W1 wi) ∧ Hid (∀ j,j < i → kp1 h (bef h) j k = true)) (fun x _ => k - (intOf x).toNat)
    case atStart => exact ⟨0,by omega,rfl,Below.refl _ _,fun j hj => absurd hj (by omega)⟩
    case round =>
     obtain ⟨i,hi,rfl,hbi,hpi⟩ := hrel
     by_cases hlti:i < k
     ·have B0i:Hid (Below W0.heap.size W0 wr) := below_up rfl B01.out hbi.out
      have KW:Hid (K2 wr (some ⟨b,off,none⟩) len cap h P A Q) := K2.later K0.out B0i.out
      obtain ⟨_,_,e,-,hcs⟩ := KW.out.1.1.2 (by omega)
      cases e
      obtain ⟨c0,c1,c2⟩ := hcs i (by omega)
      obtain ⟨t,et⟩:∃ t,t = ev h i := ⟨_,rfl⟩
      rw [← et] at c0 c1 c2
      obtain ⟨t0,t1,t2⟩ := t
      have ET:Hid _ := et
      have hi0:(0:Int) ≤ (i:Int) := by omega
      have hil:(i:Int) < (k:Int) := by omega
      obtain ⟨W2,eW2⟩:∃ W,W = wr.alloc (.cells #[.int .i64 t0,.int .i64 t1,.int .i64 t2] 40) := ⟨_,rfl⟩
      have B2:Hid (Below wr.heap.size wr W2) := by
       subst eW2
       exact (Below.refl _ _).alloc (Nat.le_refl _) _
      have E2:Hid (E3 W2 wr.heap.size t0 t1 t2 ∧ wr.heap.size < W2.heap.size) := by
       subst eW2
       exact ⟨E3.new _ _ _ _ _,by simp⟩
      have B12:Hid (Below W1.heap.size W1 W2) := below_up rfl hbi.out B2.out
      clear hcs et
      by_cases g2:t1 = 2
      ·subst g2
       have hLT:Hid (i < k ∧ k < len) := ⟨hlti,hlt⟩
       go_wp2_with fail
       rw [← eW2]
       refine (of2k (some ⟨b,off,none⟩) len cap h P A Q i k _ hLT.out.1 hLT.out.2 (K2.later KW.out B2.out)).mono ?_
       rintro e w3 ⟨rfl,hb⟩
       have B3:Hid (Below W2.heap.size W2 w3) := hb
       have B13:Hid (Below W1.heap.size W1 w3) := below_up rfl B12.out hb
       obtain ⟨m0,m1,m2⟩ := E3.later E2.out.1 E2.out.2 hb
       obtain ⟨n0,n1,n2⟩ := E3.later E1.out.1 E1.out.2 B13.out
       obtain ⟨f0,f1,f2,f3,f4⟩ := B5.later F0.out.1 F0.out.2 (below_up rfl B01.out B13.out)
       have D3:Hid (Al5 h w3 q0 q1 q2 q3 q4 d0 d1 d2 d3 d4) := Al5.later D0.out (below_up rfl B01.out B13.out)
       clear hb eW2 c0 c1 c2
       cases hpx:bef h i k with
       | false =>
        go_wp2
        go_roundw
        case rel => exact ⟨i + 1,by omega,by go_num,B13.out,up_step (p := fun j => kp1 h (bef h) j k) hpi.out (kp1_c hpx)⟩
        case measure => simp [intOf]; omega
       | true =>
        have HK:Hid (kp1 h (bef h) i k = hv5 h (t0,2,t2) (s0,2,s2)) := by
         have e1:(ev h i).2.1 = 2 := by rw [← ET.out]
         have e2:(ev h k).2.1 = 2 := by rw [← ES.out]
         show _ = _
         rw [kp1_d e1 e2 hpx,ET.out,ES.out]
        go_wp2_with fail
        refine (have_any h q0 q1 q2 q3 q4 d0 d1 d2 d3 d4 t0 2 t2 s0 2 s2 _ D3.out).mono ?_
        rintro e w4 ⟨rfl,hb⟩
        have B14:Hid (Below W1.heap.size W1 w4) := below_up rfl B13.out hb
        clear hb m0 m1 m2 n0 n1 n2 f0 f1 f2 f3 f4
        cases hvx:hv5 h (t0,2,t2) (s0,2,s2) with
        | true =>
         go_wp2
         go_roundw
         case rel => exact ⟨i + 1,by omega,by go_num,B14.out,up_step (p := fun j => kp1 h (bef h) j k) hpi.out (HK.out.trans hvx)⟩
         case measure => simp [intOf]; omega
        | false =>
         have HN:Hid (keepB h (bef h) = false) := keep_not (by rw [HL.out]; exact hLT.out.2) hLT.out.1 (HK.out.trans hvx)
         go_wp2
         go_ret
         exact ⟨ret_bool HN.out.symm,below_up rfl B0.out (below_up rfl B01.out B14.out)⟩
      ·have g2':(t1 == 2) = false := by simp [g2]
       have HK:Hid (kp1 h (bef h) i k = true) := kp1_b (by rw [← ET.out]; exact g2)
       go_wp2
       rw [← eW2]
       go_roundw
       case rel => exact ⟨i + 1,by omega,by go_num,B12.out,up_step (p := fun j => kp1 h (bef h) j k) hpi.out HK.out⟩
       case measure => simp [intOf]; omega
     ·have hik:i = k := by omega
      subst hik
      go_wp2
      go_roundw
      case rel => exact ⟨i + 1,by omega,by go_num,below_up rfl B01.out hbi.out,up_row hp.out hpi.out⟩
      case measure => simp [intOf]; omega
   ·have g1':(s1 != 2) = true := by rw [bne_iff_ne]; exact g1
    have HK:Hid (∀ i,i < k → kp1 h (bef h) i k = true) := fun i _ => kp1_a (by rw [← ES.out]; exact g1)
    go_wp2
    rw [← eW1]
    go_roundw
    case rel => exact ⟨k + 1,by omega,by go_num,below_up rfl hbel.out B1.out,up_row hp.out HK.out⟩
    case measure => simp [intOf]; omega
  ·have hkl:k = len := by omega
   subst hkl
   go_wp2
   go_ret
   exact ⟨ret_bool (keep_all (by rw [HL.out]; exact hp.out)).symm,below_up rfl B0.out hbel.out⟩
end Go.Proofs.YtdmniblonikjlakGreatDoor.His


namespace Go.Proofs.YtdmniblonikjlakGreatDoor.His
open Go.RowKit
open Vec
set_option maxRecDepth 100000 in
set_option maxHeartbeats 4000000 in
theorem agree1 (h:List Ev) (m B Q:Nat) (q qo:Option Addr) (d no co:Nat) (ys:List Int) (w:World) (hm5:m < 5) (hB:B < w.heap.size) (hQ:Q < w.heap.size) (cq:w.cell? ⟨Q,0,none⟩ = some (.int .i64 (m:Int))) (cb:w.cell? ⟨B,m,none⟩ = some (.slice q (ln h m) d)) (hv:Vw w q (ln h m) (hrd h (m:Int))) (hl:ln h m ≤ 60) (hv':Vw w qo no ys) (hl':no ≤ 60) :
  Calls Tryz.prog 132 #[.slice qo no co,.pointer (some ⟨B,0,none⟩),.pointer (some ⟨Q,0,none⟩)] w fun e w' => e = .returned (.bool (!ag1 (hrd h (m:Int)) ys)) ∧ Below w.heap.size w w' := by
 have VV:Hid (Vw w q (ln h m) (hrd h (m:Int)) ∧ Vw w qo no ys) := ⟨hv,hv'⟩
 have LL:Hid (ln h m ≤ 60 ∧ no ≤ 60 ∧ ln h m ≤ maxLen ∧ no ≤ maxLen) := ⟨hl,hl',by unfold maxLen; omega,by unfold maxLen; omega⟩
 have CC:Hid (B < w.heap.size ∧ Q < w.heap.size ∧ w.cell? ⟨Q,0,none⟩ = some (.int .i64 (m:Int)) ∧ w.cell? ⟨B,m,none⟩ = some (.slice q (ln h m) d)) := ⟨hB,hQ,cq,cb⟩
 have hm0:(0:Int) ≤ (m:Int) := by omega
 have hml:(m:Int) < 5 := by omega
 have ED:Hid (ag1 (hrd h (m:Int)) ys = (both (hrd h (m:Int)) ys == both ys (hrd h (m:Int)))) := rfl
 have LB:Hid ((both (hrd h (m:Int)) ys).length ≤ maxLen) := Nat.le_trans (both_len _ _) LL.out.2.2.1
 clear hv hv' hl hl' hB hQ
 go_enter Tryz.func132,Tryz.ntmps132
 go_wp2_with fail
 go_region_held3 (fun w' => w'.cell? ⟨Q,0,none⟩ = some (.int .i64 (m:Int)) ∧ w'.cell? ⟨B,m,none⟩ = some (.slice q (ln h m) d)) (go_keep)
  (first
   | (go_at_call_of 134 (#[Value.slice q (ln h m) d,Value.slice qo no co]); refine (both_any q qo (ln h m) d no co (hrd h (m:Int)) ys _ ?_ ?_ LL.out.1 LL.out.2.2.2).mono ?_; exact Vw.later VV.out.1 (Below.refl _ _).drew; exact Vw.later VV.out.2 (Below.refl _ _).drew; rintro e w1 ⟨⟨v1,rfl,o1⟩,hb⟩; obtain ⟨p1,k1,rfl,u1,-,-,-⟩ := own_sl o1; have U1:Hid (Vw w1 p1 (both (hrd h (m:Int)) ys).length (both (hrd h (m:Int)) ys)) := u1; have B1:Hid (Below w.heap.size w w1) := below_up rfl (Below.refl w.heap.size w).drew hb; have x1 := (B1.out.cell (p := ⟨Q,0,none⟩) CC.out.2.1).trans CC.out.2.2.1; have x2 := (B1.out.cell (p := ⟨B,m,none⟩) CC.out.1).trans CC.out.2.2.2; clear hb o1 u1)
   | (go_at_call_of 134 (#[Value.slice qo no co,Value.slice q (ln h m) d]); refine (both_any qo q no co (ln h m) d ys (hrd h (m:Int)) _ ?_ ?_ LL.out.2.1 LL.out.2.2.1).mono ?_; exact Vw.later VV.out.2 B1.out; exact Vw.later VV.out.1 B1.out; rintro e w2 ⟨⟨v2,rfl,o2⟩,hb⟩; obtain ⟨p2,k2,rfl,u2,-,-,-⟩ := own_sl o2; have U2:Hid (Vw w2 p2 (both ys (hrd h (m:Int))).length (both ys (hrd h (m:Int)))) := u2; have B12:Hid (Below w1.heap.size w1 w2) := hb; have B2:Hid (Below w.heap.size w w2) := below_up rfl B1.out hb; have x3 := (B2.out.cell (p := ⟨Q,0,none⟩) CC.out.2.1).trans CC.out.2.2.1; have x4 := (B2.out.cell (p := ⟨B,m,none⟩) CC.out.1).trans CC.out.2.2.2; clear hb o2 u2)
   | (go_at_call 133; refine (equal_ints p1 p2 (both (hrd h (m:Int)) ys).length k1 (both ys (hrd h (m:Int))).length k2 (both (hrd h (m:Int)) ys) (both ys (hrd h (m:Int))) _ ?_ ?_ LB.out).mono ?_; exact Vw.later U1.out B12.out; exact U2.out; rintro e w3 ⟨rfl,hb⟩; have B3:Hid (Below w.heap.size w w3) := below_up rfl B2.out hb; have x5 := (B3.out.cell (p := ⟨Q,0,none⟩) CC.out.2.1).trans CC.out.2.2.1; have x6 := (B3.out.cell (p := ⟨B,m,none⟩) CC.out.1).trans CC.out.2.2.2; clear hb))
 all_goals go_wp2
 go_ret
 exact ⟨ret_bool (by rw [ED.out]),B3.out⟩
def Lx (h:List Ev) (w:World) (B:Nat):Prop := B < w.heap.size ∧ ∀ j,j < 5 → ∃ q d,w.cell? ⟨B,j,none⟩ = some (.slice q (ln h j) d) ∧ Vw w q (ln h j) (hrd h (j:Int))
theorem Lx.later {h:List Ev} {w w':World} {B:Nat} (g:Lx h w B) (hb:Below w.heap.size w w'):Lx h w' B := by
 refine ⟨Nat.lt_of_lt_of_le g.1 hb.size,fun j hj => ?_⟩
 obtain ⟨q,d,c,v⟩ := g.2 j hj
 exact ⟨q,d,(hb.cell (p := ⟨B,j,none⟩) g.1).trans c,Vw.later v hb⟩
def agM (h:List Ev) (m n:Nat):Bool := (List.range n).all fun o => ag1 (hrd h (m:Int)) (hrd h (o:Int))
theorem agM_all {h:List Ev} {m n:Nat} (hx:∀ o,o < n → ag1 (hrd h (m:Int)) (hrd h (o:Int)) = true):agM h m n = true := by
 unfold agM
 simp only [List.all_eq_true,List.mem_range]
 exact hx
theorem agM_not {h:List Ev} {m n o:Nat} (ho:o < n) (hx:ag1 (hrd h (m:Int)) (hrd h (o:Int)) = false):agM h m n = false := by
 rw [Bool.eq_false_iff]
 intro ha
 unfold agM at ha
 simp only [List.all_eq_true,List.mem_range] at ha
 rw [ha o ho] at hx
 exact absurd hx (by decide)
set_option maxRecDepth 100000 in
theorem idxLists (h:List Ev) (m B Q:Nat) (w:World) (hm5:m < 5) (h60:h.length ≤ 60) (hL:Lx h w B) (hQ:Q < w.heap.size) (cq:w.cell? ⟨Q,0,none⟩ = some (.int .i64 (m:Int))) :
  Calls Tryz.prog 165 #[.slice (some ⟨B,0,none⟩) m 5,.func (.func 132) #[] #[.pointer (some ⟨B,0,none⟩),.pointer (some ⟨Q,0,none⟩)]] w fun e w' => (∃ z,e = .returned (.int .i64 z) ∧ decide (0 ≤ z) = !agM h m m) ∧ Below w.heap.size w w' := by
 have LX:Hid (Lx h w B ∧ Q < w.heap.size ∧ w.cell? ⟨Q,0,none⟩ = some (.int .i64 (m:Int))) := ⟨hL,hQ,cq⟩
 have L60:Hid (∀ j,ln h j ≤ 60) := fun j => Nat.le_trans (ln_le h j) h60
 clear hL hQ cq
 go_enter Tryz.func165,Tryz.ntmps165
 go_wp2
 go_loopw [8] (fun x wr => ∃ k:Nat,k ≤ m ∧ x = .int .i64 (k:Int) ∧ Hid (Below w.heap.size w wr) ∧ Hid (∀ o,o < k → ag1 (hrd h (m:Int)) (hrd h (o:Int)) = true)) (fun x _ => m - (intOf x).toNat)
 case atStart => exact ⟨0,by omega,rfl,Below.refl _ _,fun j hj => absurd hj (by omega)⟩
 case round =>
  obtain ⟨k,hk,rfl,hbel,hp⟩ := hrel
  by_cases hlt:k < m
  ·have LW := Lx.later LX.out.1 hbel.out
   have cq:wr.cell? ⟨Q,0,none⟩ = some (.int .i64 (m:Int)) := (hbel.out.cell (p := ⟨Q,0,none⟩) LX.out.2.1).trans LX.out.2.2
   obtain ⟨q,d,c,v⟩ := LW.2 m hm5
   obtain ⟨qo,co,c0,vo⟩ := LW.2 k (by omega)
   have FX:Hid (B < wr.heap.size ∧ Q < wr.heap.size ∧ wr.cell? ⟨Q,0,none⟩ = some (.int .i64 (m:Int)) ∧ wr.cell? ⟨B,m,none⟩ = some (.slice q (ln h m) d) ∧ Vw wr q (ln h m) (hrd h (m:Int)) ∧ Vw wr qo (ln h k) (hrd h (k:Int))) := ⟨LW.1,Nat.lt_of_lt_of_le LX.out.2.1 hbel.out.size,cq,c,v,vo⟩
   have hk0:(0:Int) ≤ (k:Int) := by omega
   have hkl:(k:Int) < (m:Int) := by omega
   clear LW cq c v vo
   go_wp2_with fail
   refine (agree1 h m B Q q qo d (ln h k) co (hrd h (k:Int)) _ hm5 FX.out.1 FX.out.2.1 FX.out.2.2.1 FX.out.2.2.2.1 FX.out.2.2.2.2.1 (L60.out m) FX.out.2.2.2.2.2 (L60.out k)).mono ?_
   rintro e w1 ⟨rfl,hb⟩
   have B1:Hid (Below w.heap.size w w1) := below_up rfl hbel.out hb
   clear hb
   cases hx:ag1 (hrd h (m:Int)) (hrd h (k:Int)) with
   | true =>
    go_wp2
    go_roundw
    case rel => exact ⟨k + 1,by omega,by go_num,B1.out,up_step (p := fun o => ag1 (hrd h (m:Int)) (hrd h (o:Int))) hp.out hx⟩
    case measure => simp [intOf]; omega
   | false =>
    have HN:Hid (agM h m m = false) := agM_not hlt hx
    go_wp2
    go_ret
    refine ⟨⟨(k:Int),rfl,?_⟩,B1.out⟩
    rw [HN.out]
    simp
  ·have hkm:k = m := by omega
   subst hkm
   go_wp2
   go_ret
   refine ⟨⟨-1,rfl,?_⟩,hbel.out⟩
   rw [agM_all hp.out]
   simp
theorem contLists (h:List Ev) (m B Q:Nat) (w:World) (hm5:m < 5) (h60:h.length ≤ 60) (hL:Lx h w B) (hQ:Q < w.heap.size) (cq:w.cell? ⟨Q,0,none⟩ = some (.int .i64 (m:Int))) :
  Calls Tryz.prog 135 #[.slice (some ⟨B,0,none⟩) m 5,.func (.func 132) #[] #[.pointer (some ⟨B,0,none⟩),.pointer (some ⟨Q,0,none⟩)]] w fun e w' => e = .returned (.bool (!agM h m m)) ∧ Below w.heap.size w w' := by
 go_enter Tryz.func135,Tryz.ntmps135
 go_wp2_with fail
 refine (idxLists h m B Q _ hm5 h60 hL hQ cq).mono ?_
 rintro e w1 ⟨⟨z,rfl,hz⟩,hb⟩
 have HZ:Hid (decide (0 ≤ z) = !agM h m m) := hz
 clear hL cq hz
 go_wp2
 go_ret
 exact ⟨ret_bool HZ.out,hb⟩
set_option maxRecDepth 100000 in
set_option maxHeartbeats 4000000 in
theorem agree_any (h:List Ev) (q0 q1 q2 q3 q4:Option Addr) (d0 d1 d2 d3 d4:Nat) (w:World) (h60:h.length ≤ 60) (ha:Al5 h w q0 q1 q2 q3 q4 d0 d1 d2 d3 d4) :
  Calls Tryz.prog 94 #[.agg #[.slice q0 (ln h 0) d0,.slice q1 (ln h 1) d1,.slice q2 (ln h 2) d2,.slice q3 (ln h 3) d3,.slice q4 (ln h 4) d4]] w fun x w' => x = .returned (.bool (totB h)) ∧ Below w.heap.size w w' := by
 obtain ⟨W0,eW⟩:∃ W,W = w.alloc (.cells #[.slice q0 (ln h 0) d0,.slice q1 (ln h 1) d1,.slice q2 (ln h 2) d2,.slice q3 (ln h 3) d3,.slice q4 (ln h 4) d4] 174) := ⟨_,rfl⟩
 have B0:Hid (Below w.heap.size w W0) := by
  subst eW
  exact (Below.refl _ _).alloc (Nat.le_refl _) _
 have L0:Hid (Lx h W0 w.heap.size) := by
  have D0:Al5 h W0 q0 q1 q2 q3 q4 d0 d1 d2 d3 d4 := Al5.later ha B0.out
  have F0:B5 W0 w.heap.size (.slice q0 (ln h 0) d0) (.slice q1 (ln h 1) d1) (.slice q2 (ln h 2) d2) (.slice q3 (ln h 3) d3) (.slice q4 (ln h 4) d4) := by
   rw [eW]
   exact B5.new _ _ _ _ _ _ _
  refine ⟨by rw [eW]; simp,fun j hj => ?_⟩
  obtain ⟨f0,f1,f2,f3,f4⟩ := F0
  obtain ⟨g0,g1,g2,g3,g4⟩ := D0
  rcases j with _ | _ | _ | _ | _ | j
  ·exact ⟨q0,d0,f0,g0.1⟩
  ·exact ⟨q1,d1,f1,g1.1⟩
  ·exact ⟨q2,d2,f2,g2.1⟩
  ·exact ⟨q3,d3,f3,g3.1⟩
  ·exact ⟨q4,d4,f4,g4.1⟩
  ·omega
 clear ha
 go_enter Tryz.func94,Tryz.ntmps94
 go_wp2
 rw [← eW]
 clear eW
 go_loopw [5] (fun x wr => ∃ k:Nat,k ≤ 5 ∧ x = .int .i64 (k:Int) ∧ Hid (Below W0.heap.size W0 wr) ∧ Hid (∀ m,m < k → agM h m m = true)) (fun x _ => 5 - (intOf x).toNat)
 case atStart => exact ⟨0,by omega,rfl,Below.refl _ _,fun j hj => absurd hj (by omega)⟩
 case round =>
  obtain ⟨k,hk,rfl,hbel,hp⟩ := hrel
  by_cases hlt:k < 5
  ·have hk0:(0:Int) ≤ (k:Int) := by omega
   have hkl:(k:Int) < 5 := by omega
   have hkl':(k:Int) ≤ 5 := by omega
   obtain ⟨W1,eW1⟩:∃ W,W = wr.alloc (.cells #[.int .i64 (k:Int)] 3) := ⟨_,rfl⟩
   have B1:Hid (Below wr.heap.size wr W1) := by
    subst eW1
    exact (Below.refl _ _).alloc (Nat.le_refl _) _
   have C1:Hid (W1.cell? ⟨wr.heap.size,0,none⟩ = some (.int .i64 (k:Int)) ∧ wr.heap.size < W1.heap.size) := by
    subst eW1
    exact ⟨by go_cell,by simp⟩
   have B01:Hid (Below W0.heap.size W0 W1) := below_up rfl hbel.out B1.out
   go_wp2_with fail
   rw [← eW1]
   refine (contLists h k w.heap.size wr.heap.size _ hlt h60 (Lx.later L0.out B01.out) C1.out.2 C1.out.1).mono ?_
   rintro e w2 ⟨rfl,hb⟩
   have B02:Hid (Below W0.heap.size W0 w2) := below_up rfl B01.out hb
   clear hb eW1
   cases hx:agM h k k with
   | true =>
    go_wp2
    go_roundw
    case rel => exact ⟨k + 1,by omega,by go_num,B02.out,up_step (p := fun m => agM h m m) hp.out hx⟩
    case measure => simp [intOf]; omega
   | false =>
    have HN:Hid (totB h = false) := by
     rw [Bool.eq_false_iff]
     intro ht
     unfold totB at ht
     rw [List.all_eq_true] at ht
     have hk':agM h k k = true := ht k (List.mem_range.2 hlt)
     rw [hx] at hk'
     exact absurd hk' (by decide)
    go_wp2
    go_ret
    exact ⟨ret_bool HN.out.symm,below_up rfl B0.out B02.out⟩
  ·have hk5:k = 5 := by omega
   subst hk5
   have HT:Hid (totB h = true) := by
    show totB h = true
    unfold totB
    rw [List.all_eq_true]
    exact fun m hm => hp.out m (List.mem_range.1 hm)
   go_wp2
   go_ret
   exact ⟨ret_bool HT.out.symm,below_up rfl B0.out hbel.out⟩
end Go.Proofs.YtdmniblonikjlakGreatDoor.His


namespace Go.Proofs.YtdmniblonikjlakGreatDoor.His
open Go.RowKit
open Vec
theorem ret3 {fn:Func} {tmps:Array Value} {w:World} {p u:Tmp} {B:Nat} {v0 v1 v2 x:Value} (h:fn.results = #[.cell p 44,.tmp u]) (hp:tmps.getD p undef = .pointer (some ⟨B,0,none⟩)) (hu:tmps.getD u undef = x)
  (y0:w.cell? ⟨B,0,none⟩ = some v0) (y1:w.cell? ⟨B,1,none⟩ = some v1) (y2:w.cell? ⟨B,2,none⟩ = some v2):(results fn tmps).run Tryz.prog w = .ok (.tuple #[.agg #[v0,v1,v2],x]) w := by
 rw [results_cell_tmp h,hp,hu]
 simp [asAddr,go_sem,y0,y1,y2]
theorem zero3:∀ i,i < (#[.bool false,.bool false,.bool false]:Array Value).size → (#[.bool false,.bool false,.bool false]:Array Value)[i]? = some ((fun _:Nat => Value.bool false) i) := by
 intro i hi
 have hi':i < 3 := hi
 rcases i with _ | _ | _ | i <;> first | rfl | omega
set_option maxRecDepth 100000 in
set_option maxHeartbeats 4000000 in
theorem of_no (a:Option Addr) (len cap:Nat) (h:List Ev) (w:World) (hlc:len ≤ cap) (hm:cap ≤ maxLen) (hv:Ew w a len h) (hc:chkC h ≠ 0) :
  Calls Tryz.prog 41 #[.slice a len cap] w fun e w' => e = .returned (.tuple #[.agg #[.bool false,.bool false,.bool false],.iface 70 (.int .i64 (chkC h))]) ∧ Below w.heap.size w w' := by
 obtain ⟨W0,eW⟩:∃ W,W = (w.alloc (.cells #[.slice a len cap] 34)).alloc (.cells #[.bool false,.bool false,.bool false] 44) := ⟨_,rfl⟩
 have B0:Hid (Below w.heap.size w W0) := by
  subst eW
  exact ((Below.refl _ _).alloc (Nat.le_refl _) _).alloc (by simp) _
 have R0:Hid (W0.rowIs (w.heap.size + 1) 44 3 (fun _ => .bool false)) := by
  have := World.rowIs_alloc (w.alloc (.cells #[.slice a len cap] 34)) #[.bool false,.bool false,.bool false] 44 (fun _ => .bool false) zero3
  rw [← eW,show (w.alloc (.cells #[.slice a len cap] 34)).heap.size = w.heap.size + 1 by simp] at this
  exact this
 have G0:Hid (Ew W0 a len h) := hv.later B0.out
 have HM:Hid (len ≤ cap ∧ cap ≤ maxLen ∧ chkC h ≠ 0) := ⟨hlc,hm,hc⟩
 clear hv hm hc
 go_enter Tryz.func41,Tryz.ntmps41
 go_wp2_with fail
 rw [← eW]
 refine (vectors_no a len cap h _ HM.out.1 HM.out.2.1 G0.out HM.out.2.2).mono ?_
 rintro e w1 ⟨rfl,hb⟩
 have B1:Hid (Below W0.heap.size W0 w1) := hb
 have R1:Hid ((w1.alloc (.cells #[.slice none 0 0] 22)).rowIs (w.heap.size + 1) 44 3 (fun _ => .bool false)) := World.rowIs.alloc (rowIs_later R0.out hb) _
 have c0 := R1.out.cell (i := 0) (by omega)
 have c1 := R1.out.cell (i := 1) (by omega)
 have c2 := R1.out.cell (i := 2) (by omega)
 have f0 := R1.out.frozen 0
 have f1 := R1.out.frozen 1
 have f2 := R1.out.frozen 2
 clear hb
 go_wp2
 have r3 := ((World.rowIs.set R1.out 0 (.bool false)).set 1 (.bool false)).set 2 (.bool false)
 have y0 := r3.cell (i := 0) (by omega)
 have y1 := r3.cell (i := 1) (by omega)
 have y2 := r3.cell (i := 2) (by omega)
 simp at y0 y1 y2
 refine bodyPost_ret (v := .tuple #[.agg #[.bool false,.bool false,.bool false],.iface 70 (.int .i64 (chkC h))]) ?_ rfl ?_
 ·exact ret3 rfl rfl rfl y0 y1 y2
 refine ⟨rfl,?_⟩
 have hB:w.heap.size ≤ w1.heap.size := Nat.le_trans B0.out.size B1.out.size
 exact (((below_up rfl B0.out B1.out).alloc hB _).setCell (p := ⟨_,_,none⟩) (Nat.le_succ _) _ |>.setCell (p := ⟨_,_,none⟩) (Nat.le_succ _) _).setCell (p := ⟨_,_,none⟩) (Nat.le_succ _) _
def OfS (h:List Ev) (w:World) (R B H:Nat) (a:Option Addr) (len cap:Nat) (q0 q1 q2 q3 q4:Option Addr) (d0 d1 d2 d3 d4:Nat):Prop :=
 (w.cell? ⟨B,0,none⟩ = some (.slice q0 (ln h 0) d0) ∧ w.cell? ⟨B,1,none⟩ = some (.slice q1 (ln h 1) d1) ∧ w.cell? ⟨B,2,none⟩ = some (.slice q2 (ln h 2) d2) ∧ w.cell? ⟨B,3,none⟩ = some (.slice q3 (ln h 3) d3) ∧ w.cell? ⟨B,4,none⟩ = some (.slice q4 (ln h 4) d4)) ∧ w.cell? ⟨H,0,none⟩ = some (.slice a len cap) ∧ w.rowIs R 44 3 (fun _ => .bool false)
theorem OfS.later {h:List Ev} {w w':World} {R B H:Nat} {a:Option Addr} {len cap:Nat} {q0 q1 q2 q3 q4:Option Addr} {d0 d1 d2 d3 d4:Nat} (g:OfS h w R B H a len cap q0 q1 q2 q3 q4 d0 d1 d2 d3 d4) (hB:B < w.heap.size) (hH:H < w.heap.size) (hb:Below w.heap.size w w'):OfS h w' R B H a len cap q0 q1 q2 q3 q4 d0 d1 d2 d3 d4 :=
 ⟨B5.later g.1 hB hb,(hb.cell (p := ⟨H,0,none⟩) hH).trans g.2.1,rowIs_later g.2.2 hb⟩
set_option maxRecDepth 100000 in
set_option maxHeartbeats 4000000 in
theorem of_ok (a:Option Addr) (len cap:Nat) (h:List Ev) (w:World) (hlc:len ≤ cap) (hm:cap ≤ maxLen) (hv:Ew w a len h) (hc:chkC h = 0) :
  Calls Tryz.prog 41 #[.slice a len cap] w fun e w' => e = .returned (.tuple #[.agg #[.bool (fifoB h),.bool (causB h),.bool (totB h)],.nilIface]) ∧ Below w.heap.size w w' := by
 obtain ⟨W0,eW⟩:∃ W,W = (w.alloc (.cells #[.slice a len cap] 34)).alloc (.cells #[.bool false,.bool false,.bool false] 44) := ⟨_,rfl⟩
 have B0:Hid (Below w.heap.size w W0) := by
  subst eW
  exact ((Below.refl _ _).alloc (Nat.le_refl _) _).alloc (by simp) _
 have R0:Hid (W0.rowIs (w.heap.size + 1) 44 3 (fun _ => .bool false)) := by
  have := World.rowIs_alloc (w.alloc (.cells #[.slice a len cap] 34)) #[.bool false,.bool false,.bool false] 44 (fun _ => .bool false) zero3
  rw [← eW,show (w.alloc (.cells #[.slice a len cap] 34)).heap.size = w.heap.size + 1 by simp] at this
  exact this
 have H0:Hid (w.heap.size < W0.heap.size ∧ W0.cell? ⟨w.heap.size,0,none⟩ = some (.slice a len cap)) := by
  rw [eW]
  exact ⟨by simp; omega,by go_cell⟩
 have G0:Hid (Ew W0 a len h) := hv.later B0.out
 obtain ⟨h60,hg⟩ := chk_zero hc
 have HM:Hid (len ≤ cap ∧ cap ≤ maxLen ∧ chkC h = 0 ∧ len ≤ 60 ∧ Good h len ∧ h.length ≤ 60) := ⟨hlc,hm,hc,by rw [← hv.1]; exact h60,by rw [← hv.1]; exact hg,h60⟩
 clear hv hm hc h60 hg
 go_enter Tryz.func41,Tryz.ntmps41
 go_wp2_with fail
 rw [← eW]
 refine (vectors_ok a len cap h _ HM.out.1 HM.out.2.1 G0.out HM.out.2.2.1).mono ?_
 rintro e w1 ⟨A,rfl,hb,hl⟩
 obtain ⟨W2,eW2⟩:∃ W,W = w1.alloc (.cells #[.slice (some ⟨A,0,none⟩) len len] 22) := ⟨_,rfl⟩
 have B12:Below w1.heap.size w1 W2 := by
  subst eW2
  exact (Below.refl _ _).alloc (Nat.le_refl _) _
 have B2:Hid (Below W0.heap.size W0 W2) := below_up rfl hb B12
 have X2:Hid (K2 W2 a len cap h w1.heap.size A w.heap.size) := by
  refine ⟨⟨G0.out.later B2.out,Nat.lt_of_lt_of_le H0.out.1 B2.out.size,(B2.out.cell (p := ⟨w.heap.size,0,none⟩) H0.out.1).trans H0.out.2⟩,HM.out.2.2.2.2.1,?_,?_,hl.later B12⟩
  ·rw [eW2]; simp
  ·rw [eW2]; go_cell
 have z0:(w1.alloc (.cells #[.slice (some ⟨A,0,none⟩) len len] 22)).cell? ⟨w.heap.size,0,none⟩ = some (.slice a len cap) := by rw [← eW2]; exact X2.out.1.2.2
 clear hb hl B12
 go_wp2_with fail
 rw [← eW2]
 refine (heardAll a len cap h _ HM.out.2.2.2.1 X2.out.1.1).mono ?_
 rintro e w3 ⟨⟨q0,q1,q2,q3,q4,d0,d1,d2,d3,d4,rfl,ha0,ha1,ha2,ha3,ha4⟩,hb⟩
 obtain ⟨W4,eW4⟩:∃ W,W = w3.alloc (.cells #[.slice q0 (ln h 0) d0,.slice q1 (ln h 1) d1,.slice q2 (ln h 2) d2,.slice q3 (ln h 3) d3,.slice q4 (ln h 4) d4] 174) := ⟨_,rfl⟩
 have B34:Below w3.heap.size w3 W4 := by
  subst eW4
  exact (Below.refl _ _).alloc (Nat.le_refl _) _
 have B24:Hid (Below W2.heap.size W2 W4) := below_up rfl hb B34
 have B4:Hid (Below W0.heap.size W0 W4) := below_up rfl B2.out B24.out
 have A4:Hid (Al5 h W4 q0 q1 q2 q3 q4 d0 d1 d2 d3 d4) := Al5.later ⟨ha0,ha1,ha2,ha3,ha4⟩ B34
 have X4:Hid (K2 W4 a len cap h w1.heap.size A w.heap.size) := X2.out.later B24.out
 have S4:Hid (OfS h W4 (w.heap.size + 1) w3.heap.size w.heap.size a len cap q0 q1 q2 q3 q4 d0 d1 d2 d3 d4 ∧ w3.heap.size < W4.heap.size ∧ w.heap.size < W4.heap.size) := by
  refine ⟨⟨?_,X4.out.1.2.2,rowIs_later R0.out B4.out⟩,?_,X4.out.1.2.1⟩
  ·rw [eW4]
   exact B5.new _ _ _ _ _ _ _
  ·rw [eW4]; simp
 have hne1:w.heap.size + 1 ≠ w3.heap.size := by
  have h1 := World.rowIs.lt R0.out
  have h2 := B2.out.size
  have h3 := hb.size
  omega
 have hne2:w3.heap.size ≠ w.heap.size + 1 := fun e => hne1 e.symm
 clear hb ha0 ha1 ha2 ha3 ha4 B34 z0 eW eW2
 go_wp2_with fail
 rw [← eW4]
 clear eW4
 obtain ⟨⟨b0,b1,b2,b3,b4⟩,bh,-⟩ := S4.out.1
 go_region_held3 (fun w' => w'.cell? ⟨w3.heap.size,0,none⟩ = some (.slice q0 (ln h 0) d0) ∧ w'.cell? ⟨w3.heap.size,1,none⟩ = some (.slice q1 (ln h 1) d1) ∧ w'.cell? ⟨w3.heap.size,2,none⟩ = some (.slice q2 (ln h 2) d2) ∧ w'.cell? ⟨w3.heap.size,3,none⟩ = some (.slice q3 (ln h 3) d3) ∧ w'.cell? ⟨w3.heap.size,4,none⟩ = some (.slice q4 (ln h 4) d4) ∧ w'.cell? ⟨w.heap.size,0,none⟩ = some (.slice a len cap)) (go_keep)
  (first
   | (go_at_call_of 93 (#[Value.pointer (some (⟨w.heap.size,0,none⟩:Addr))]); refine (keep1 a len cap h w.heap.size q0 q1 q2 q3 q4 d0 d1 d2 d3 d4 _ HM.out.2.2.2.1 HM.out.1 HM.out.2.1 ?_ ?_).mono ?_; exact X4.out.1.later (Below.refl _ _).drew; exact A4.out.later (Below.refl _ _).drew; rintro e w5 ⟨rfl,hb⟩; have B5':Hid (Below W4.heap.size W4 w5) := below_up rfl (Below.refl W4.heap.size W4).drew hb; obtain ⟨⟨m0,m1,m2,m3,m4⟩,mh,-⟩ := OfS.later S4.out.1 S4.out.2.1 S4.out.2.2 B5'.out; clear hb)
   | (go_at_call 93; refine (keep2 a len cap h w1.heap.size A w.heap.size q0 q1 q2 q3 q4 d0 d1 d2 d3 d4 _ HM.out.2.2.2.1 HM.out.1 HM.out.2.1 ?_ ?_).mono ?_; exact X4.out.later B5'.out; exact A4.out.later B5'.out; rintro e w6 ⟨rfl,hb⟩; have B6':Hid (Below W4.heap.size W4 w6) := below_up rfl B5'.out hb; obtain ⟨⟨n0,n1,n2,n3,n4⟩,nh,-⟩ := OfS.later S4.out.1 S4.out.2.1 S4.out.2.2 B6'.out; clear hb)
   | (go_at_call 94; refine (agree_any h q0 q1 q2 q3 q4 d0 d1 d2 d3 d4 _ HM.out.2.2.2.2.2 ?_).mono ?_; exact A4.out.later B6'.out; rintro e w7 ⟨rfl,hb⟩; have B7':Hid (Below W4.heap.size W4 w7) := below_up rfl B6'.out hb; obtain ⟨⟨k0,k1,k2,k3,k4⟩,kh,kr⟩ := OfS.later S4.out.1 S4.out.2.1 S4.out.2.2 B7'.out; have R7:Hid (w7.rowIs (w.heap.size + 1) 44 3 (fun _ => .bool false)) := kr; have r0 := kr.cell (i := 0) (by omega); have r1 := kr.cell (i := 1) (by omega); have r2 := kr.cell (i := 2) (by omega); have g0 := kr.frozen 0; have g1 := kr.frozen 1; have g2 := kr.frozen 2; clear hb kr))
 go_wp2
 have t3 := ((World.rowIs.set R7.out 0 (.bool (keepB h (smB h)))).set 1 (.bool (keepB h (bef h)))).set 2 (.bool (totB h))
 have y0 := t3.cell (i := 0) (by omega)
 have y1 := t3.cell (i := 1) (by omega)
 have y2 := t3.cell (i := 2) (by omega)
 simp at y0 y1 y2
 refine bodyPost_ret (v := .tuple #[.agg #[.bool (fifoB h),.bool (causB h),.bool (totB h)],.nilIface]) ?_ rfl ?_
 ·exact ret3 rfl rfl rfl y0 y1 y2
 refine ⟨rfl,?_⟩
 exact (((below_up rfl B0.out (below_up rfl B4.out B7'.out)).setCell (p := ⟨_,_,none⟩) (Nat.le_succ _) _).setCell (p := ⟨_,_,none⟩) (Nat.le_succ _) _).setCell (p := ⟨_,_,none⟩) (Nat.le_succ _) _
end Go.Proofs.YtdmniblonikjlakGreatDoor.His


namespace Go.Proofs.YtdmniblonikjlakGreatDoor.His
open Go.RowKit
open Vec
def hdC (h:List Ev) (who:Int):Int := if chkC h = 0 then (if who < 0 ∨ 4 < who then 1 else 0) else chkC h
def hdL (h:List Ev) (who:Int):List Int := if hdC h who = 0 then hrd h who else []
theorem hdC_no {h:List Ev} {who:Int} (hc:chkC h ≠ 0):hdC h who = chkC h := if_neg hc
theorem hdC_out {h:List Ev} {who:Int} (hc:chkC h = 0) (hw:who < 0 ∨ 4 < who):hdC h who = 1 := by rw [hdC,if_pos hc,if_pos hw]
theorem hdC_ok {h:List Ev} {who:Int} (hc:chkC h = 0) (hw:¬ (who < 0 ∨ 4 < who)):hdC h who = 0 := by rw [hdC,if_pos hc,if_neg hw]
theorem hdL_no {h:List Ev} {who:Int} (hc:hdC h who ≠ 0):hdL h who = [] := if_neg hc
theorem hdL_ok {h:List Ev} {who:Int} (hc:hdC h who = 0):hdL h who = hrd h who := if_pos hc
theorem Vw.none (w:World):Vw w none 0 [] := ⟨rfl,fun h => absurd h (by omega)⟩
set_option maxRecDepth 100000 in
theorem heard_any (a:Option Addr) (len cap:Nat) (h:List Ev) (who:Int) (w:World) (hlc:len ≤ cap) (hm:cap ≤ maxLen) (hv:Ew w a len h) :
  Calls Tryz.prog 150 #[.slice a len cap,.int .i64 who] w fun e w' => (∃ q d,e = .returned (.tuple #[.slice q (hdL h who).length d,errV (hdC h who)]) ∧ Vw w' q (hdL h who).length (hdL h who)) ∧ Below w.heap.size w w' := by
 have V0:Hid (Ew w a len h) := hv
 by_cases hc:chkC h = 0
 ·have h60:Hid (len ≤ 60) := by
   have := (chk_zero hc).1
   rw [hv.1] at this
   exact this
  by_cases hw:who < 0 ∨ 4 < who
  ·have E:Hid (hdC h who = 1 ∧ hdL h who = []) := ⟨hdC_out hc hw,hdL_no (by rw [hdC_out hc hw]; decide)⟩
   rw [E.out.1,E.out.2]
   by_cases hw0:who < 0
   ·go_enter Tryz.func150,Tryz.ntmps150
    go_wp2_with fail
    refine (check_any a len cap h w hlc hm hv).mono ?_
    rintro e w1 ⟨rfl,hb⟩
    rw [hc,errV_ok]
    clear hv
    go_wp2
    go_ret2
    exact ⟨⟨none,0,rfl,Vw.none _⟩,hb⟩
   ·have hw5:5 ≤ who := by omega
    go_enter Tryz.func150,Tryz.ntmps150
    go_wp2_with fail
    refine (check_any a len cap h w hlc hm hv).mono ?_
    rintro e w1 ⟨rfl,hb⟩
    rw [hc,errV_ok]
    clear hv
    go_wp2
    go_ret2
    exact ⟨⟨none,0,rfl,Vw.none _⟩,hb⟩
  ·have E:Hid (hdC h who = 0 ∧ hdL h who = hrd h who) := ⟨hdC_ok hc hw,hdL_ok (hdC_ok hc hw)⟩
   rw [E.out.1,E.out.2]
   have hw0:0 ≤ who := by omega
   have hw5:who < 5 := by omega
   go_enter Tryz.func150,Tryz.ntmps150
   go_wp2_with fail
   refine (check_any a len cap h w hlc hm hv).mono ?_
   rintro e w1 ⟨rfl,hb⟩
   rw [hc,errV_ok]
   have B1:Hid (Below w.heap.size w w1) := hb
   clear hv hb
   go_wp2_with fail
   refine (heardBy_any a len cap h who _ h60.out (V0.out.later B1.out)).mono ?_
   rintro e w2 ⟨⟨v,rfl,ho⟩,hb⟩
   obtain ⟨q,d,rfl,hvw,-,-,-⟩ := own_sl ho
   have B2:Hid (Below w.heap.size w w2) := below_up rfl B1.out hb
   have V2:Hid (Vw w2 q (hrd h who).length (hrd h who)) := hvw
   clear ho hb hvw
   go_wp2
   go_ret2
   exact ⟨⟨q,d,rfl,V2.out⟩,B2.out⟩
 ·have E:Hid (hdC h who = chkC h ∧ hdL h who = []) := ⟨hdC_no hc,hdL_no (by rw [hdC_no hc]; exact hc)⟩
  rw [E.out.1,E.out.2,errV_no hc]
  go_enter Tryz.func150,Tryz.ntmps150
  go_wp2_with fail
  refine (check_any a len cap h w hlc hm hv).mono ?_
  rintro e w1 ⟨rfl,hb⟩
  rw [errV_no hc]
  clear hv
  go_wp2
  go_ret2
  exact ⟨⟨none,0,rfl,Vw.none _⟩,hb⟩
end Go.Proofs.YtdmniblonikjlakGreatDoor.His
