/-
  Texts put together: HisA, HisB, HisC, RowG, ClkM, ClkA, ClkR, ClkB, OwnV, ClkC.
-/
import Derived.Test.YtdmniblonikjlakGreatDoorRows
import Derived.Test.YtdmniblonikjlakGreatDoorPrB
import Derived.WalkKit
import Derived.WalkSmall
import Derived.Deep.QuietTactic
import Derived.BigQuiet
import Derived.Deep.RegionWith
import Derived.Deep.OwnRows
import Derived.LoopN
import Derived.Deep.CutRange
import Derived.Deep.RegionHeld3
import Derived.Test.YtdmniblonikjlakGreatDoorPrA
import Derived.Deep.AppendLies
import Derived.WalkLawsBesides


namespace Go.Proofs.YtdmniblonikjlakGreatDoor.His
open Go.RowKit
theorem ret_bool {a b:Bool} (h:a = b):Ending.returned (.bool a) = .returned (.bool b) := by rw [h]
theorem below_up {w w1 w2:World} {B:Nat} (hB:B = w.heap.size) (h:Below B w w1) (h':Below w1.heap.size w1 w2):Below B w w2 := by
 subst hB
 exact h.trans (h'.mono h.size)
theorem says1 (who what wd:Int) (word:Int) (B:Nat) (w:World) (hv:w.cell? ⟨B,0,none⟩ = some (.int .i64 word)) :
  Calls Tryz.prog 157 #[.agg #[.int .i64 who,.int .i64 what,.int .i64 wd],.pointer (some ⟨B,0,none⟩)] w fun x w' => x = .returned (.bool (says word (who,what,wd))) ∧ Below w.heap.size w w' := by
 have hB := block_lt_of_cell hv
 by_cases h2:what = 2
 ·subst h2
  go_enter Tryz.func157,Tryz.ntmps157
  go_wp2
  go_ret
  exact ⟨ret_bool (by rw [Bool.eq_iff_iff]; simp [says]),(Below.refl _ _).alloc (Nat.le_refl _) _⟩
 ·have h2':(what == 2) = false := by simp [h2]
  go_enter Tryz.func157,Tryz.ntmps157
  go_wp2
  go_ret
  exact ⟨ret_bool (by simp [says,h2]),(Below.refl _ _).alloc (Nat.le_refl _) _⟩
theorem one1 (who what wd:Int) (w:World) :
  Calls Tryz.prog 127 #[.agg #[.int .i64 who,.int .i64 what,.int .i64 wd]] w fun x w' => x = .returned (.bool (isOne (who,what,wd))) ∧ Below w.heap.size w w' := by
 by_cases h0:who < 0
 ·go_enter Tryz.func127,Tryz.ntmps127
  go_wp2
  go_ret
  exact ⟨ret_bool (by simp [isOne]; omega),(Below.refl _ _).alloc (Nat.le_refl _) _⟩
 by_cases h5:5 ≤ who
 ·go_enter Tryz.func127,Tryz.ntmps127
  go_wp2
  go_ret
  exact ⟨ret_bool (by simp [isOne]; omega),(Below.refl _ _).alloc (Nat.le_refl _) _⟩
 by_cases h1:what = 1
 ·subst h1
  go_enter Tryz.func127,Tryz.ntmps127
  go_wp2
  go_ret
  exact ⟨ret_bool (by rw [Bool.eq_iff_iff]; simp [isOne]; omega),(Below.refl _ _).alloc (Nat.le_refl _) _⟩
 have h1':(what == 1) = false := by simp [h1]
 by_cases h23:what = 2 ∨ what = 3
 ·by_cases hw:1 ≤ wd
  ·rcases h23 with rfl | rfl
   ·go_enter Tryz.func127,Tryz.ntmps127
    go_wp2
    go_ret
    exact ⟨ret_bool (by rw [Bool.eq_iff_iff]; simp [isOne]; omega),(Below.refl _ _).alloc (Nat.le_refl _) _⟩
   ·go_enter Tryz.func127,Tryz.ntmps127
    go_wp2
    go_ret
    exact ⟨ret_bool (by rw [Bool.eq_iff_iff]; simp [isOne]; omega),(Below.refl _ _).alloc (Nat.le_refl _) _⟩
  ·have hw':wd < 1 := by omega
   rcases h23 with rfl | rfl
   ·go_enter Tryz.func127,Tryz.ntmps127
    go_wp2
    go_ret
    exact ⟨ret_bool (by simp [isOne]; omega),(Below.refl _ _).alloc (Nat.le_refl _) _⟩
   ·go_enter Tryz.func127,Tryz.ntmps127
    go_wp2
    go_ret
    exact ⟨ret_bool (by simp [isOne]; omega),(Below.refl _ _).alloc (Nat.le_refl _) _⟩
 ·have h2':(what == 2) = false := by simp; omega
  have h3':(what == 3) = false := by simp; omega
  go_enter Tryz.func127,Tryz.ntmps127
  go_wp2
  go_ret
  exact ⟨ret_bool (by simp [isOne]; omega),(Below.refl _ _).alloc (Nat.le_refl _) _⟩
def Ew (w:World) (a:Option Addr) (len:Nat) (h:List Ev):Prop :=
 h.length = len ∧ (0 < len → ∃ b off,a = some ⟨b,off,none⟩ ∧ b < w.heap.size ∧ ∀ k,k < len → w.cell? ⟨b,off + k * 3,none⟩ = some (.int .i64 (ev h k).1) ∧ w.cell? ⟨b,off + k * 3 + 1,none⟩ = some (.int .i64 (ev h k).2.1) ∧ w.cell? ⟨b,off + k * 3 + 2,none⟩ = some (.int .i64 (ev h k).2.2))
theorem Ew.later {w w':World} {a:Option Addr} {len:Nat} {h:List Ev} (g:Ew w a len h) (hb:Below w.heap.size w w'):Ew w' a len h := by
 refine ⟨g.1,fun hl => ?_⟩
 obtain ⟨b,off,e,hlt,hc⟩ := g.2 hl
 exact ⟨b,off,e,Nat.lt_of_lt_of_le hlt hb.size,fun k hk => ⟨(hb.cell (p := ⟨b,off + k * 3,none⟩) hlt).trans (hc k hk).1,(hb.cell (p := ⟨b,off + k * 3 + 1,none⟩) hlt).trans (hc k hk).2.1,(hb.cell (p := ⟨b,off + k * 3 + 2,none⟩) hlt).trans (hc k hk).2.2⟩⟩
def idxI (p:Ev → Bool) (h:List Ev):Int := if h.any p = true then (h.findIdx p:Nat) else -1
theorem idx_hit {p:Ev → Bool} {h:List Ev} {k:Nat} (hk:k < h.length) (hp:p (ev h k) = true) (hb:∀ j,j < k → p (ev h j) = false):idxI p h = (k:Int) := by
 have e:∀ j (hj:j < h.length),ev h j = h[j] := by
  intro j hj
  show h.getD j _ = _
  rw [List.getD,List.getElem?_eq_getElem hj]
  rfl
 have ha:h.any p = true := List.any_eq_true.2 ⟨h[k],List.getElem_mem hk,by rw [← e k hk]; exact hp⟩
 have hf:h.findIdx p = k := by
  rw [List.findIdx_eq hk]
  exact ⟨by rw [← e k hk]; exact hp,fun j hj => by rw [← e j (by omega)]; simpa using hb j hj⟩
 rw [idxI,if_pos ha,hf]
theorem idx_miss {p:Ev → Bool} {h:List Ev} (hb:∀ j,j < h.length → p (ev h j) = false):h.any p = false := by
 rw [List.any_eq_false]
 intro x hx
 obtain ⟨j,hj,rfl⟩ := List.getElem_of_mem hx
 have := hb j hj
 have e:ev h j = h[j] := by
  show h.getD j _ = _
  rw [List.getD,List.getElem?_eq_getElem hj]
  rfl
 rw [e] at this
 simp [this]
theorem ret_int {a b:Int} (h:a = b):Ending.returned (.int .i64 a) = .returned (.int .i64 b) := by rw [h]
theorem idxFunc (a:Option Addr) (len cap:Nat) (h:List Ev) (word:Int) (B:Nat) (w:World) (hm:len ≤ maxLen) (hv:Ew w a len h) (hB:B < w.heap.size) (hc:w.cell? ⟨B,0,none⟩ = some (.int .i64 word)) :
  Calls Tryz.prog 111 #[.slice a len cap,.func (.func 157) #[] #[.pointer (some ⟨B,0,none⟩)]] w fun x w' => x = .returned (.int .i64 (idxI (says word) h)) ∧ Below w.heap.size w w' := by
 unfold maxLen at hm
 have H1:Hid (h.length = len) := hv.1
 have G:Hid (Ew w a len h) := hv
 have HC:Hid (B < w.heap.size ∧ w.cell? ⟨B,0,none⟩ = some (.int .i64 word)) := ⟨hB,hc⟩
 clear hv hB hc
 go_enter Tryz.func111,Tryz.ntmps111
 go_wp2
 go_loopw [8] (fun i wr => ∃ k:Nat,k ≤ len ∧ i = .int .i64 k ∧ Hid (Below w.heap.size w wr) ∧ Hid (∀ j,j < k → says word (ev h j) = false)) (fun i _ => len - (intOf i).toNat)
 case atStart => exact ⟨0,by omega,rfl,Below.refl _ _,fun j hj => absurd hj (by omega)⟩
 case round =>
  obtain ⟨k,hk,rfl,hbel,hp⟩ := hrel
  by_cases hlt:k < len
  ·obtain ⟨b,off,rfl,hpb,hcs⟩ := (G.out.later hbel.out).2 (by omega)
   obtain ⟨c0,c1,c2⟩ := hcs k hlt
   have hBw:wr.cell? ⟨B,0,none⟩ = some (.int .i64 word) := (hbel.out.cell (p := ⟨B,0,none⟩) HC.out.1).trans HC.out.2
   obtain ⟨q,eq⟩:∃ q,q = ev h k := ⟨_,rfl⟩
   rw [← eq] at c0 c1 c2
   obtain ⟨q0,q1,q2⟩ := q
   have EQ:Hid _ := eq
   have HBW:Hid _ := hBw
   clear hcs eq hBw hpb
   have hk0:(0:Int) ≤ (k:Int) := by omega
   have hkl:(k:Int) < (len:Int) := by omega
   cases hb:says word (ev h k)
   ·go_wp2_with (go_at_call 157; refine (says1 q0 q1 q2 word B _ HBW.out).mono ?_; rintro e w' ⟨rfl,hb2⟩; rw [EQ.out,hb])
    go_roundw
    case rel => exact ⟨k + 1,by omega,by go_num,below_up rfl hbel.out hb2,fun j hj => if e:j < k then hp.out j e else by rw [show j = k by omega]; exact hb⟩
    case measure => simp [intOf]; omega
   ·go_wp2_with (go_at_call 157; refine (says1 q0 q1 q2 word B _ HBW.out).mono ?_; rintro e w' ⟨rfl,hb2⟩; rw [EQ.out,hb])
    go_ret
    exact ⟨ret_int (idx_hit (by rw [H1.out]; exact hlt) hb hp.out).symm,below_up rfl hbel.out hb2⟩
  ·go_wp2
   go_ret
   refine ⟨ret_int ?_,hbel.out⟩
   rw [idxI,if_neg]
   rw [idx_miss fun j hj => hp.out j (by have := H1.out; omega)]
   decide
theorem contFunc (a:Option Addr) (len cap:Nat) (h:List Ev) (word:Int) (B:Nat) (w:World) (hm:len ≤ maxLen) (hv:Ew w a len h) (hB:B < w.heap.size) (hc:w.cell? ⟨B,0,none⟩ = some (.int .i64 word)) :
  Calls Tryz.prog 128 #[.slice a len cap,.func (.func 157) #[] #[.pointer (some ⟨B,0,none⟩)]] w fun x w' => x = .returned (.bool (h.any (says word))) ∧ Below w.heap.size w w' := by
 go_enter Tryz.func128,Tryz.ntmps128
 go_wp2_with fail
 refine (idxFunc a len cap h word B _ hm hv hB hc).mono ?_
 rintro e w1 ⟨rfl,hb⟩
 clear hv hc
 go_wp2
 go_ret
 refine ⟨ret_bool ?_,hb⟩
 rw [idxI]
 cases h.any (says word) <;> simp
theorem says0 (word:Int) (w:World) :
  Calls Tryz.prog 112 #[.int .i64 word] w fun x w' => x = .returned (.func (.func 157) #[] #[.pointer (some ⟨w.heap.size,0,none⟩)]) ∧ w' = w.alloc (.cells #[.int .i64 word] 3) := by
 go_enter Tryz.func112,Tryz.ntmps112
 go_wp2
 go_ret
 exact ⟨rfl,rfl⟩
theorem eqGd:Tryz.prog.eqGuardType Tryz.prog.depth 40 = false := by kernel_rfl
theorem eqEv (a b c d e f:Int) (w:World):(Op.equalIn 10000 40 (.agg #[.int .i64 a,.int .i64 b,.int .i64 c]) (.agg #[.int .i64 d,.int .i64 e,.int .i64 f])).run Tryz.prog w = .ok (((d,e,f):Ev) == (a,b,c)) w := by
 have u3 := Tryz.underlying3
 have a3 := Tryz.isAgg3
 have z3 := Tryz.sizeOf3
 have hS:Tryz.prog.underlying 40 = some (.struct (Tryz.prog.fieldsOf 40)) := by kernel_rfl
 have hp:Tryz.prog.stoodInHeld 40 = false := by kernel_rfl
 rw [show (10000:Nat) = 9999 + 1 from rfl,run_equalIn_agg w 9999 40 _ _ hS hp]
 simp only [Program.fieldsOf,Tryz.underlying40]
 go_simp
 have e1:(d = a) = (a = d) := propext eq_comm
 have e2:(e = b) = (b = e) := propext eq_comm
 have e3:(f = c) = (c = f) := propext eq_comm
 have h0:(((d,e,f):Ev) == (a,b,c)) = (decide (a = d) && (decide (b = e) && decide (c = f))) := by
  rw [Bool.eq_iff_iff]
  simp [e1,e2,e3]
 rw [h0]
 by_cases h1:a = d <;> by_cases h2:b = e <;> by_cases h3:c = f <;> simp [h1,h2,h3]
theorem idxEv (a:Option Addr) (len cap:Nat) (h:List Ev) (x0 x1 x2:Int) (w:World) (hm:len ≤ maxLen) (hv:Ew w a len h) :
  Calls Tryz.prog 162 #[.slice a len cap,.agg #[.int .i64 x0,.int .i64 x1,.int .i64 x2]] w fun x w' => x = .returned (.int .i64 (idxI (fun y => y == (x0,x1,x2)) h)) ∧ Below w.heap.size w w' := by
 unfold maxLen at hm
 have H1:Hid (h.length = len) := hv.1
 have G:Hid (Ew w a len h) := hv
 clear hv
 go_enter Tryz.func162,Tryz.ntmps162
 go_wp2
 go_loopw [8] (fun i wr => ∃ k:Nat,k ≤ len ∧ i = .int .i64 k ∧ (∃ n,wr = (w.alloc (.cells #[.int .i64 x0,.int .i64 x1,.int .i64 x2] 40)).drewN n) ∧ Hid (∀ j,j < k → (ev h j == (x0,x1,x2)) = false)) (fun i _ => len - (intOf i).toNat)
 case atStart => exact ⟨0,by omega,rfl,⟨0,rfl⟩,fun j hj => absurd hj (by omega)⟩
 case round =>
  obtain ⟨k,hk,rfl,⟨n,rfl⟩,hp⟩ := hrel
  by_cases hlt:k < len
  ·obtain ⟨b,off,rfl,hpb,hcs⟩ := (G.out.later ((Below.refl _ _).alloc (Nat.le_refl _) (.cells #[.int .i64 x0,.int .i64 x1,.int .i64 x2] 40))).2 (by omega)
   obtain ⟨c0,c1,c2⟩ := hcs k hlt
   obtain ⟨q,eq⟩:∃ q,q = ev h k := ⟨_,rfl⟩
   rw [← eq] at c0 c1 c2
   obtain ⟨q0,q1,q2⟩ := q
   have EQ:Hid _ := eq
   clear hcs eq hpb
   have hk0:(0:Int) ≤ (k:Int) := by omega
   have hkl:(k:Int) < (len:Int) := by omega
   obtain ⟨r,er⟩:∃ r:Bool,r = (((q0,q1,q2):Ev) == (x0,x1,x2)) := ⟨_,rfl⟩
   have hgd := eqGd
   have hev := eqEv x0 x1 x2 q0 q1 q2
   rw [← er] at hev
   have ER:Hid (r = (ev h k == (x0,x1,x2))) := by rw [← EQ.out]; exact er
   clear er
   cases r
   ·go_wp2
    go_quiet (fail)
    go_wp2
    go_roundw
    case rel => exact ⟨k + 1,by omega,by go_num,⟨_,rfl⟩,fun j hj => if e:j < k then hp.out j e else by rw [show j = k by omega]; exact ER.out.symm⟩
    case measure => simp [intOf]; omega
   ·go_wp2
    go_quiet (fail)
    go_wp2
    go_ret
    refine ⟨ret_int (idx_hit (by rw [H1.out]; exact hlt) ER.out.symm hp.out).symm,?_⟩
    exact below_drewN (below_drewN ((Below.refl _ _).alloc (Nat.le_refl _) _) _) _
  ·go_wp2
   go_ret
   refine ⟨ret_int ?_,below_drewN ((Below.refl _ _).alloc (Nat.le_refl _) _) _⟩
   rw [idxI,if_neg]
   rw [idx_miss fun j hj => hp.out j (by have := H1.out; omega)]
   decide
theorem contEv (a:Option Addr) (len cap:Nat) (h:List Ev) (x0 x1 x2:Int) (w:World) (hm:len ≤ maxLen) (hv:Ew w a len h) :
  Calls Tryz.prog 129 #[.slice a len cap,.agg #[.int .i64 x0,.int .i64 x1,.int .i64 x2]] w fun x w' => x = .returned (.bool (h.any (fun y => y == (x0,x1,x2)))) ∧ Below w.heap.size w w' := by
 go_enter Tryz.func129,Tryz.ntmps129
 go_wp2_with fail
 refine (idxEv a len cap h x0 x1 x2 _ hm (hv.later ((Below.refl _ _).alloc (Nat.le_refl _) _))).mono ?_
 rintro e w1 ⟨rfl,hb⟩
 clear hv
 go_wp2
 go_ret
 refine ⟨ret_bool ?_,below_up rfl ((Below.refl _ _).alloc (Nat.le_refl _) _) hb⟩
 rw [idxI]
 cases h.any (fun y => y == (x0,x1,x2)) <;> simp
def errV (c:Int):Value := if c = 0 then .nilIface else .iface 70 (.int .i64 c)
end Go.Proofs.YtdmniblonikjlakGreatDoor.His


namespace Go.Proofs.YtdmniblonikjlakGreatDoor.His
open Go.RowKit
theorem next_cases (p:List Ev) (e:Ev) :
  (isOne e = false ∧ next p e = 1) ∨ (isOne e = true ∧ e.2.1 = 2 ∧ p.any (says e.2.2) = true ∧ next p e = 7) ∨ (isOne e = true ∧ e.2.1 = 2 ∧ p.any (says e.2.2) = false ∧ next p e = 0) ∨
  (isOne e = true ∧ e.2.1 = 1 ∧ next p e = 0) ∨
  (isOne e = true ∧ e.2.1 = 3 ∧ p.any (fun y => y == e) = true ∧ next p e = 7) ∨
  (isOne e = true ∧ e.2.1 = 3 ∧ p.any (fun y => y == e) = false ∧ p.any (says e.2.2) = false ∧ next p e = 5) ∨
  (isOne e = true ∧ e.2.1 = 3 ∧ p.any (fun y => y == e) = false ∧ p.any (says e.2.2) = true ∧ p.any (fun y => y == (e.1,2,e.2.2)) = true ∧ next p e = 3) ∨
  (isOne e = true ∧ e.2.1 = 3 ∧ p.any (fun y => y == e) = false ∧ p.any (says e.2.2) = true ∧ p.any (fun y => y == (e.1,2,e.2.2)) = false ∧ next p e = 0) := by
 unfold next
 cases h0:isOne e with
 | false => exact .inl ⟨rfl,rfl⟩
 | true =>
  right
  rcases isOne_what h0 with ⟨h1,_⟩ | ⟨h2 | h3,_⟩
  ·refine .inr (.inr (.inl ⟨rfl,h1,?_⟩))
   simp [h1]
  ·cases hs:p.any (says e.2.2) with
   | true => exact .inl ⟨rfl,h2,rfl,by simp [h2]⟩
   | false => exact .inr (.inl ⟨rfl,h2,rfl,by simp [h2]⟩)
  ·cases hc:p.any (fun y => y == e) with
   | true => exact .inr (.inr (.inr (.inl ⟨rfl,h3,rfl,by simp [h3]⟩)))
   | false =>
    cases hs:p.any (says e.2.2) with
    | false => exact .inr (.inr (.inr (.inr (.inl ⟨rfl,h3,rfl,rfl,by simp [h3]⟩))))
    | true =>
     cases hd:p.any (fun y => y == (e.1,2,e.2.2)) with
     | true => exact .inr (.inr (.inr (.inr (.inr (.inl ⟨rfl,h3,rfl,rfl,rfl,by simp [h3]⟩)))))
     | false => exact .inr (.inr (.inr (.inr (.inr (.inr ⟨rfl,h3,rfl,rfl,rfl,by simp [h3]⟩)))))
def Bx (w:World) (B:Nat) (x0 x1 x2:Int):Prop := B < w.heap.size ∧ w.cell? ⟨B,0,none⟩ = some (.int .i64 x0) ∧ w.cell? ⟨B,1,none⟩ = some (.int .i64 x1) ∧ w.cell? ⟨B,2,none⟩ = some (.int .i64 x2)
theorem Bx.later {w w':World} {B:Nat} {x0 x1 x2:Int} (h:Bx w B x0 x1 x2) (hb:Below w.heap.size w w'):Bx w' B x0 x1 x2 :=
 ⟨Nat.lt_of_lt_of_le h.1 hb.size,(hb.cell (p := ⟨B,0,none⟩) h.1).trans h.2.1,(hb.cell (p := ⟨B,1,none⟩) h.1).trans h.2.2.1,(hb.cell (p := ⟨B,2,none⟩) h.1).trans h.2.2.2⟩
theorem Bx.lit (w:World) (x0 x1 x2:Int) (t:TypeId):Bx (w.alloc (.cells #[.int .i64 x0,.int .i64 x1,.int .i64 x2] t)) w.heap.size x0 x1 x2 := by
 refine ⟨by simp,?_,?_,?_⟩ <;> simp
set_option maxRecDepth 100000 in
theorem checkNext_any (a:Option Addr) (len cap:Nat) (p:List Ev) (x0 x1 x2:Int) (w:World) (hm:len ≤ maxLen) (hv:Ew w a len p) :
  Calls Tryz.prog 89 #[.slice a len cap,.agg #[.int .i64 x0,.int .i64 x1,.int .i64 x2]] w fun x w' => x = .returned (errV (next p (x0,x1,x2))) ∧ Below w.heap.size w w' := by
 rcases next_cases p (x0,x1,x2) with ⟨h0,hn⟩ | ⟨h0,h2,hs,hn⟩ | ⟨h0,h2,hs,hn⟩ | ⟨h0,h1,hn⟩ | ⟨h0,h3,hc,hn⟩ | ⟨h0,h3,hc,hs,hn⟩ | ⟨h0,h3,hc,hs,hd,hn⟩ | ⟨h0,h3,hc,hs,hd,hn⟩
 ·rw [hn]
  have HV:Hid (Ew w a len p) := hv
  clear hv hn
  go_enter Tryz.func89,Tryz.ntmps89
  go_wp2_with fail
  have b1 := (Below.refl w.heap.size w).alloc (Nat.le_refl _) (.cells #[.int .i64 x0,.int .i64 x1,.int .i64 x2] 40)
  have bx := Bx.lit w x0 x1 x2 40
  refine (one1 x0 x1 x2 _).mono ?_
  rintro e w1 ⟨rfl,hb⟩
  rw [h0]
  have V1:Hid (Below w.heap.size w w1) := below_up rfl b1 hb
  have X1:Hid (Bx w1 w.heap.size x0 x1 x2) := bx.later hb
  clear hb bx b1
  go_wp2
  go_ret
  exact ⟨rfl,V1.out⟩
 ·subst h2
  rw [hn]
  have HV:Hid (Ew w a len p) := hv
  clear hv hn
  go_enter Tryz.func89,Tryz.ntmps89
  go_wp2_with fail
  have b1 := (Below.refl w.heap.size w).alloc (Nat.le_refl _) (.cells #[.int .i64 x0,.int .i64 2,.int .i64 x2] 40)
  have bx := Bx.lit w x0 2 x2 40
  refine (one1 x0 2 x2 _).mono ?_
  rintro e w1 ⟨rfl,hb⟩
  rw [h0]
  have V1:Hid (Below w.heap.size w w1) := below_up rfl b1 hb
  have X1:Hid (Bx w1 w.heap.size x0 2 x2) := bx.later hb
  clear hb bx b1
  obtain ⟨_,c0,c1,c2⟩ := X1.out
  go_wp2_with fail
  refine (says0 x2 _).mono ?_
  rintro e w2 ⟨rfl,e2⟩
  have b2:Below w1.heap.size w1 w2 := by rw [e2]; exact (Below.refl _ _).alloc (Nat.le_refl _) _
  have B2:Hid (Below w1.heap.size w1 w2) := b2
  have k2:w2.cell? ⟨w1.heap.size,0,none⟩ = some (.int .i64 x2) := by rw [e2]; simp
  have K2:Hid (w2.cell? ⟨w1.heap.size,0,none⟩ = some (.int .i64 x2)) := k2
  have V2:Hid (Below w.heap.size w w2) := below_up rfl V1.out b2
  have X2:Hid (Bx w2 w.heap.size x0 2 x2) := X1.out.later b2
  clear e2 b2 k2 c0 c1 c2
  go_wp2_with fail
  refine (contFunc a len cap p x2 w1.heap.size _ hm (HV.out.later V2.out) (block_lt_of_cell K2.out) K2.out).mono ?_
  rintro e w3 ⟨rfl,b3⟩
  rw [hs]
  have V3:Hid (Below w.heap.size w w3) := below_up rfl V2.out b3
  have X3:Hid (Bx w3 w.heap.size x0 2 x2) := X2.out.later b3
  obtain ⟨_,c0,c1,c2⟩ := X3.out
  clear b3 V1 X1 V2 X2 B2 K2
  go_wp2
  go_ret
  exact ⟨rfl,V3.out⟩
 ·subst h2
  rw [hn]
  have HV:Hid (Ew w a len p) := hv
  clear hv hn
  go_enter Tryz.func89,Tryz.ntmps89
  go_wp2_with fail
  have b1 := (Below.refl w.heap.size w).alloc (Nat.le_refl _) (.cells #[.int .i64 x0,.int .i64 2,.int .i64 x2] 40)
  have bx := Bx.lit w x0 2 x2 40
  refine (one1 x0 2 x2 _).mono ?_
  rintro e w1 ⟨rfl,hb⟩
  rw [h0]
  have V1:Hid (Below w.heap.size w w1) := below_up rfl b1 hb
  have X1:Hid (Bx w1 w.heap.size x0 2 x2) := bx.later hb
  clear hb bx b1
  obtain ⟨_,c0,c1,c2⟩ := X1.out
  go_wp2_with fail
  refine (says0 x2 _).mono ?_
  rintro e w2 ⟨rfl,e2⟩
  have b2:Below w1.heap.size w1 w2 := by rw [e2]; exact (Below.refl _ _).alloc (Nat.le_refl _) _
  have B2:Hid (Below w1.heap.size w1 w2) := b2
  have k2:w2.cell? ⟨w1.heap.size,0,none⟩ = some (.int .i64 x2) := by rw [e2]; simp
  have K2:Hid (w2.cell? ⟨w1.heap.size,0,none⟩ = some (.int .i64 x2)) := k2
  have V2:Hid (Below w.heap.size w w2) := below_up rfl V1.out b2
  have X2:Hid (Bx w2 w.heap.size x0 2 x2) := X1.out.later b2
  clear e2 b2 k2 c0 c1 c2
  go_wp2_with fail
  refine (contFunc a len cap p x2 w1.heap.size _ hm (HV.out.later V2.out) (block_lt_of_cell K2.out) K2.out).mono ?_
  rintro e w3 ⟨rfl,b3⟩
  rw [hs]
  have V3:Hid (Below w.heap.size w w3) := below_up rfl V2.out b3
  have X3:Hid (Bx w3 w.heap.size x0 2 x2) := X2.out.later b3
  obtain ⟨_,c0,c1,c2⟩ := X3.out
  clear b3 V1 X1 V2 X2 B2 K2
  go_wp2
  go_ret
  exact ⟨rfl,V3.out⟩
 ·subst h1
  rw [hn]
  have HV:Hid (Ew w a len p) := hv
  clear hv hn
  go_enter Tryz.func89,Tryz.ntmps89
  go_wp2_with fail
  have b1 := (Below.refl w.heap.size w).alloc (Nat.le_refl _) (.cells #[.int .i64 x0,.int .i64 1,.int .i64 x2] 40)
  have bx := Bx.lit w x0 1 x2 40
  refine (one1 x0 1 x2 _).mono ?_
  rintro e w1 ⟨rfl,hb⟩
  rw [h0]
  have V1:Hid (Below w.heap.size w w1) := below_up rfl b1 hb
  have X1:Hid (Bx w1 w.heap.size x0 1 x2) := bx.later hb
  clear hb bx b1
  generalize hq:p.any (says x2) = q
  obtain ⟨_,c0,c1,c2⟩ := X1.out
  go_wp2_with fail
  refine (says0 x2 _).mono ?_
  rintro e w2 ⟨rfl,e2⟩
  have b2:Below w1.heap.size w1 w2 := by rw [e2]; exact (Below.refl _ _).alloc (Nat.le_refl _) _
  have B2:Hid (Below w1.heap.size w1 w2) := b2
  have k2:w2.cell? ⟨w1.heap.size,0,none⟩ = some (.int .i64 x2) := by rw [e2]; simp
  have K2:Hid (w2.cell? ⟨w1.heap.size,0,none⟩ = some (.int .i64 x2)) := k2
  have V2:Hid (Below w.heap.size w w2) := below_up rfl V1.out b2
  have X2:Hid (Bx w2 w.heap.size x0 1 x2) := X1.out.later b2
  clear e2 b2 k2 c0 c1 c2
  go_wp2_with fail
  refine (contFunc a len cap p x2 w1.heap.size _ hm (HV.out.later V2.out) (block_lt_of_cell K2.out) K2.out).mono ?_
  rintro e w3 ⟨rfl,b3⟩
  rw [hq]
  have V3:Hid (Below w.heap.size w w3) := below_up rfl V2.out b3
  have X3:Hid (Bx w3 w.heap.size x0 1 x2) := X2.out.later b3
  obtain ⟨_,c0,c1,c2⟩ := X3.out
  clear b3 V1 X1 V2 X2 B2 K2
  go_wp2
  go_ret
  exact ⟨rfl,V3.out⟩
 ·subst h3
  rw [hn]
  have HV:Hid (Ew w a len p) := hv
  clear hv hn
  go_enter Tryz.func89,Tryz.ntmps89
  go_wp2_with fail
  have b1 := (Below.refl w.heap.size w).alloc (Nat.le_refl _) (.cells #[.int .i64 x0,.int .i64 3,.int .i64 x2] 40)
  have bx := Bx.lit w x0 3 x2 40
  refine (one1 x0 3 x2 _).mono ?_
  rintro e w1 ⟨rfl,hb⟩
  rw [h0]
  have V1:Hid (Below w.heap.size w w1) := below_up rfl b1 hb
  have X1:Hid (Bx w1 w.heap.size x0 3 x2) := bx.later hb
  clear hb bx b1
  generalize hq:p.any (says x2) = q
  obtain ⟨_,c0,c1,c2⟩ := X1.out
  go_wp2_with fail
  refine (says0 x2 _).mono ?_
  rintro e w2 ⟨rfl,e2⟩
  have b2:Below w1.heap.size w1 w2 := by rw [e2]; exact (Below.refl _ _).alloc (Nat.le_refl _) _
  have B2:Hid (Below w1.heap.size w1 w2) := b2
  have k2:w2.cell? ⟨w1.heap.size,0,none⟩ = some (.int .i64 x2) := by rw [e2]; simp
  have K2:Hid (w2.cell? ⟨w1.heap.size,0,none⟩ = some (.int .i64 x2)) := k2
  have V2:Hid (Below w.heap.size w w2) := below_up rfl V1.out b2
  have X2:Hid (Bx w2 w.heap.size x0 3 x2) := X1.out.later b2
  clear e2 b2 k2 c0 c1 c2
  go_wp2_with fail
  refine (contFunc a len cap p x2 w1.heap.size _ hm (HV.out.later V2.out) (block_lt_of_cell K2.out) K2.out).mono ?_
  rintro e w3 ⟨rfl,b3⟩
  rw [hq]
  have V3:Hid (Below w.heap.size w w3) := below_up rfl V2.out b3
  have X3:Hid (Bx w3 w.heap.size x0 3 x2) := X2.out.later b3
  obtain ⟨_,c0,c1,c2⟩ := X3.out
  clear b3 V1 X1 V2 X2 B2 K2
  go_wp2_with fail
  refine (contEv a len cap p x0 3 x2 _ hm (HV.out.later V3.out)).mono ?_
  rintro e w4 ⟨rfl,b4⟩
  rw [hc]
  have V4:Hid (Below w.heap.size w w4) := below_up rfl V3.out b4
  have X4:Hid (Bx w4 w.heap.size x0 3 x2) := X3.out.later b4
  clear b4 c0 c1 c2
  obtain ⟨_,c0,c1,c2⟩ := X4.out
  go_wp2
  go_ret
  exact ⟨rfl,V4.out⟩
 ·subst h3
  rw [hn]
  have HV:Hid (Ew w a len p) := hv
  clear hv hn
  go_enter Tryz.func89,Tryz.ntmps89
  go_wp2_with fail
  have b1 := (Below.refl w.heap.size w).alloc (Nat.le_refl _) (.cells #[.int .i64 x0,.int .i64 3,.int .i64 x2] 40)
  have bx := Bx.lit w x0 3 x2 40
  refine (one1 x0 3 x2 _).mono ?_
  rintro e w1 ⟨rfl,hb⟩
  rw [h0]
  have V1:Hid (Below w.heap.size w w1) := below_up rfl b1 hb
  have X1:Hid (Bx w1 w.heap.size x0 3 x2) := bx.later hb
  clear hb bx b1
  obtain ⟨_,c0,c1,c2⟩ := X1.out
  go_wp2_with fail
  refine (says0 x2 _).mono ?_
  rintro e w2 ⟨rfl,e2⟩
  have b2:Below w1.heap.size w1 w2 := by rw [e2]; exact (Below.refl _ _).alloc (Nat.le_refl _) _
  have B2:Hid (Below w1.heap.size w1 w2) := b2
  have k2:w2.cell? ⟨w1.heap.size,0,none⟩ = some (.int .i64 x2) := by rw [e2]; simp
  have K2:Hid (w2.cell? ⟨w1.heap.size,0,none⟩ = some (.int .i64 x2)) := k2
  have V2:Hid (Below w.heap.size w w2) := below_up rfl V1.out b2
  have X2:Hid (Bx w2 w.heap.size x0 3 x2) := X1.out.later b2
  clear e2 b2 k2 c0 c1 c2
  go_wp2_with fail
  refine (contFunc a len cap p x2 w1.heap.size _ hm (HV.out.later V2.out) (block_lt_of_cell K2.out) K2.out).mono ?_
  rintro e w3 ⟨rfl,b3⟩
  rw [hs]
  have V3:Hid (Below w.heap.size w w3) := below_up rfl V2.out b3
  have X3:Hid (Bx w3 w.heap.size x0 3 x2) := X2.out.later b3
  obtain ⟨_,c0,c1,c2⟩ := X3.out
  clear b3 V1 X1 V2 X2 B2 K2
  go_wp2_with fail
  refine (contEv a len cap p x0 3 x2 _ hm (HV.out.later V3.out)).mono ?_
  rintro e w4 ⟨rfl,b4⟩
  rw [hc]
  have V4:Hid (Below w.heap.size w w4) := below_up rfl V3.out b4
  have X4:Hid (Bx w4 w.heap.size x0 3 x2) := X3.out.later b4
  clear b4 c0 c1 c2
  obtain ⟨_,c0,c1,c2⟩ := X4.out
  go_wp2
  go_ret
  exact ⟨rfl,V4.out⟩
 ·subst h3
  rw [hn]
  have HV:Hid (Ew w a len p) := hv
  clear hv hn
  go_enter Tryz.func89,Tryz.ntmps89
  go_wp2_with fail
  have b1 := (Below.refl w.heap.size w).alloc (Nat.le_refl _) (.cells #[.int .i64 x0,.int .i64 3,.int .i64 x2] 40)
  have bx := Bx.lit w x0 3 x2 40
  refine (one1 x0 3 x2 _).mono ?_
  rintro e w1 ⟨rfl,hb⟩
  rw [h0]
  have V1:Hid (Below w.heap.size w w1) := below_up rfl b1 hb
  have X1:Hid (Bx w1 w.heap.size x0 3 x2) := bx.later hb
  clear hb bx b1
  obtain ⟨_,c0,c1,c2⟩ := X1.out
  go_wp2_with fail
  refine (says0 x2 _).mono ?_
  rintro e w2 ⟨rfl,e2⟩
  have b2:Below w1.heap.size w1 w2 := by rw [e2]; exact (Below.refl _ _).alloc (Nat.le_refl _) _
  have B2:Hid (Below w1.heap.size w1 w2) := b2
  have k2:w2.cell? ⟨w1.heap.size,0,none⟩ = some (.int .i64 x2) := by rw [e2]; simp
  have K2:Hid (w2.cell? ⟨w1.heap.size,0,none⟩ = some (.int .i64 x2)) := k2
  have V2:Hid (Below w.heap.size w w2) := below_up rfl V1.out b2
  have X2:Hid (Bx w2 w.heap.size x0 3 x2) := X1.out.later b2
  clear e2 b2 k2 c0 c1 c2
  go_wp2_with fail
  refine (contFunc a len cap p x2 w1.heap.size _ hm (HV.out.later V2.out) (block_lt_of_cell K2.out) K2.out).mono ?_
  rintro e w3 ⟨rfl,b3⟩
  rw [hs]
  have V3:Hid (Below w.heap.size w w3) := below_up rfl V2.out b3
  have X3:Hid (Bx w3 w.heap.size x0 3 x2) := X2.out.later b3
  obtain ⟨_,c0,c1,c2⟩ := X3.out
  clear b3 V1 X1 V2 X2 B2 K2
  go_wp2_with fail
  refine (contEv a len cap p x0 3 x2 _ hm (HV.out.later V3.out)).mono ?_
  rintro e w4 ⟨rfl,b4⟩
  rw [hc]
  have V4:Hid (Below w.heap.size w w4) := below_up rfl V3.out b4
  have X4:Hid (Bx w4 w.heap.size x0 3 x2) := X3.out.later b4
  clear b4 c0 c1 c2
  obtain ⟨_,c0,c1,c2⟩ := X4.out
  go_wp2_with fail
  refine (contEv a len cap p x0 2 x2 _ hm (HV.out.later V4.out)).mono ?_
  rintro e w5 ⟨rfl,b5⟩
  rw [hd]
  have V5:Hid (Below w.heap.size w w5) := below_up rfl V4.out b5
  clear b5 c0 c1 c2
  go_wp2
  go_ret
  exact ⟨rfl,V5.out⟩
 ·subst h3
  rw [hn]
  have HV:Hid (Ew w a len p) := hv
  clear hv hn
  go_enter Tryz.func89,Tryz.ntmps89
  go_wp2_with fail
  have b1 := (Below.refl w.heap.size w).alloc (Nat.le_refl _) (.cells #[.int .i64 x0,.int .i64 3,.int .i64 x2] 40)
  have bx := Bx.lit w x0 3 x2 40
  refine (one1 x0 3 x2 _).mono ?_
  rintro e w1 ⟨rfl,hb⟩
  rw [h0]
  have V1:Hid (Below w.heap.size w w1) := below_up rfl b1 hb
  have X1:Hid (Bx w1 w.heap.size x0 3 x2) := bx.later hb
  clear hb bx b1
  obtain ⟨_,c0,c1,c2⟩ := X1.out
  go_wp2_with fail
  refine (says0 x2 _).mono ?_
  rintro e w2 ⟨rfl,e2⟩
  have b2:Below w1.heap.size w1 w2 := by rw [e2]; exact (Below.refl _ _).alloc (Nat.le_refl _) _
  have B2:Hid (Below w1.heap.size w1 w2) := b2
  have k2:w2.cell? ⟨w1.heap.size,0,none⟩ = some (.int .i64 x2) := by rw [e2]; simp
  have K2:Hid (w2.cell? ⟨w1.heap.size,0,none⟩ = some (.int .i64 x2)) := k2
  have V2:Hid (Below w.heap.size w w2) := below_up rfl V1.out b2
  have X2:Hid (Bx w2 w.heap.size x0 3 x2) := X1.out.later b2
  clear e2 b2 k2 c0 c1 c2
  go_wp2_with fail
  refine (contFunc a len cap p x2 w1.heap.size _ hm (HV.out.later V2.out) (block_lt_of_cell K2.out) K2.out).mono ?_
  rintro e w3 ⟨rfl,b3⟩
  rw [hs]
  have V3:Hid (Below w.heap.size w w3) := below_up rfl V2.out b3
  have X3:Hid (Bx w3 w.heap.size x0 3 x2) := X2.out.later b3
  obtain ⟨_,c0,c1,c2⟩ := X3.out
  clear b3 V1 X1 V2 X2 B2 K2
  go_wp2_with fail
  refine (contEv a len cap p x0 3 x2 _ hm (HV.out.later V3.out)).mono ?_
  rintro e w4 ⟨rfl,b4⟩
  rw [hc]
  have V4:Hid (Below w.heap.size w w4) := below_up rfl V3.out b4
  have X4:Hid (Bx w4 w.heap.size x0 3 x2) := X3.out.later b4
  clear b4 c0 c1 c2
  obtain ⟨_,c0,c1,c2⟩ := X4.out
  go_wp2_with fail
  refine (contEv a len cap p x0 2 x2 _ hm (HV.out.later V4.out)).mono ?_
  rintro e w5 ⟨rfl,b5⟩
  rw [hd]
  have V5:Hid (Below w.heap.size w w5) := below_up rfl V4.out b5
  clear b5 c0 c1 c2
  go_wp2
  go_ret
  exact ⟨rfl,V5.out⟩
end Go.Proofs.YtdmniblonikjlakGreatDoor.His


namespace Go.Proofs.YtdmniblonikjlakGreatDoor.His
open Go.RowKit
def firstBad (h:List Ev):Option Nat := (List.range h.length).find? fun i => decide (next (h.take i) (ev h i) ≠ 0)
def chkC (h:List Ev):Int := if 60 < h.length then 4 else (match firstBad h with | none => 0 | some i => next (h.take i) (ev h i))
def chkAt (h:List Ev):Int := if 60 < h.length then 0 else (match firstBad h with | none => 0 | some i => (i:Int))
theorem chk_full {h:List Ev} (hl:60 < h.length):chkC h = 4 ∧ chkAt h = 0 := by
 unfold chkC chkAt
 exact ⟨if_pos hl,if_pos hl⟩
theorem find_range_some {p:Nat → Bool} {n i:Nat} (hi:i < n) (hp:p i = true) (hb:∀ j,j < i → p j = false):(List.range n).find? p = some i := by
 rw [List.find?_range_eq_some]
 exact ⟨hp,List.mem_range.2 hi,fun j hj => by simp [hb j hj]⟩
theorem chk_bad {h:List Ev} {i:Nat} (hl:h.length ≤ 60) (hi:i < h.length) (hg:Good h i) (hn:next (h.take i) (ev h i) ≠ 0):chkC h = next (h.take i) (ev h i) ∧ chkAt h = (i:Int) := by
 have hf:firstBad h = some i := find_range_some hi (decide_eq_true hn) fun j hj => decide_eq_false (by simp [hg j hj])
 unfold chkC chkAt
 rw [if_neg (by omega),if_neg (by omega),hf]
 exact ⟨rfl,rfl⟩
theorem chk_ok {h:List Ev} (hl:h.length ≤ 60) (hg:Good h h.length):chkC h = 0 ∧ chkAt h = 0 := by
 have hf:firstBad h = none := by
  unfold firstBad
  rw [List.find?_eq_none]
  intro i hi
  rw [List.mem_range] at hi
  simp [hg i hi]
 unfold chkC chkAt
 rw [if_neg (by omega),if_neg (by omega),hf]
 exact ⟨rfl,rfl⟩
theorem chk_zero {h:List Ev} (hc:chkC h = 0):h.length ≤ 60 ∧ Good h h.length := by
 by_cases hl:60 < h.length
 ·rw [(chk_full hl).1] at hc
  omega
 ·refine ⟨by omega,?_⟩
  cases hf:firstBad h with
  | none =>
   unfold firstBad at hf
   rw [List.find?_eq_none] at hf
   intro i hi
   have := hf i (List.mem_range.2 hi)
   simpa using this
  | some i =>
   exfalso
   have hp := List.find?_some hf
   unfold chkC at hc
   rw [if_neg hl,hf] at hc
   simp [hc] at hp
theorem ev_take {h:List Ev} {k j:Nat} (hj:j < k):ev (h.take k) j = ev h j := by
 simp [ev,List.getD,List.getElem?_take_of_lt hj]
theorem Ew.take {w:World} {a:Option Addr} {len:Nat} {h:List Ev} (g:Ew w a len h) {k:Nat} (hk:k ≤ len):Ew w a k (h.take k) := by
 refine ⟨by rw [List.length_take,g.1]; omega,fun h0 => ?_⟩
 obtain ⟨b,off,e,hlt,hc⟩ := g.2 (by omega)
 refine ⟨b,off,e,hlt,fun j hj => ?_⟩
 rw [ev_take hj]
 exact hc j (by omega)
theorem errV_ok:errV 0 = .nilIface := rfl
theorem errV_no {c:Int} (h:c ≠ 0):errV c = .iface 70 (.int .i64 c) := by simp [errV,h]
set_option maxRecDepth 100000 in
theorem check_any (a:Option Addr) (len cap:Nat) (h:List Ev) (w:World) (hlc:len ≤ cap) (hm:cap ≤ maxLen) (hv:Ew w a len h) :
  Calls Tryz.prog 39 #[.slice a len cap] w fun x w' => x = .returned (.tuple #[.int .i64 (chkAt h),errV (chkC h)]) ∧ Below w.heap.size w w' := by
 have HL:Hid (h.length = len) := hv.1
 by_cases h60:60 < len
 ·have h60':(60:Int) < (len:Int) := by omega
  have E := chk_full (h := h) (by rw [HL.out]; exact h60)
  rw [E.1,E.2]
  clear E hv
  go_enter Tryz.func39,Tryz.ntmps39
  go_wp2
  go_ret2
  exact ⟨rfl,Below.refl _ _⟩
 ·have h60':(len:Int) ≤ 60 := by omega
  have G:Hid (Ew w a len h) := hv
  have HM:Hid (len ≤ cap ∧ cap ≤ maxLen) := ⟨hlc,hm⟩
  unfold maxLen at hm
  clear hv
  go_enter Tryz.func39,Tryz.ntmps39
  go_wp2
  go_loopw [13] (fun i wr => ∃ k:Nat,k ≤ len ∧ i = .int .i64 k ∧ Hid (Below w.heap.size w wr) ∧ Hid (Good h k)) (fun i _ => len - (intOf i).toNat)
  case atStart => exact ⟨0,by omega,rfl,Below.refl _ _,fun j hj => absurd hj (by omega)⟩
  case round =>
   obtain ⟨k,hk,rfl,hbel,hp⟩ := hrel
   by_cases hlt:k < len
   ·obtain ⟨b,off,rfl,hpb,hcs⟩ := (G.out.later hbel.out).2 (by omega)
    obtain ⟨c0,c1,c2⟩ := hcs k hlt
    obtain ⟨q,eq⟩:∃ q,q = ev h k := ⟨_,rfl⟩
    rw [← eq] at c0 c1 c2
    obtain ⟨q0,q1,q2⟩ := q
    have EQ:Hid _ := eq
    clear hcs eq hpb
    have hk0:(0:Int) ≤ (k:Int) := by omega
    have hkl:(k:Int) < (len:Int) := by omega
    have hkc:(k:Int) ≤ (cap:Int) := by omega
    have BQ:Hid (Below w.heap.size w (wr.alloc (.cells #[.int .i64 q0,.int .i64 q1,.int .i64 q2] 40)).drew) := (hbel.out.alloc hbel.out.size _).drew
    have g1:Hid (k ≤ maxLen) := by have := HM.out; show k ≤ maxLen; omega
    have hkl':Hid (k ≤ len) := by show k ≤ len; omega
    by_cases hn:next (h.take k) (ev h k) = 0
    ·go_wp2_with fail
     go_region_with (go_at_call 89; refine (checkNext_any (some ⟨b,off,none⟩) k cap (h.take k) q0 q1 q2 _ g1.out ((G.out.later BQ.out).take hkl'.out)).mono ?_; rintro e w1 ⟨rfl,hb⟩; rw [EQ.out,hn,errV_ok])
     go_wp2
     go_roundw
     case rel => exact ⟨k + 1,by omega,by go_num,below_up rfl BQ.out hb,fun j hj => if e:j < k then hp.out j e else by rw [show j = k by omega]; exact hn⟩
     case measure => simp [intOf]; omega
    ·have HN:Hid (next (h.take k) (ev h k) ≠ 0) := hn
     have E:Hid _ := chk_bad (h := h) (by rw [HL.out]; omega) (by rw [HL.out]; exact hlt) hp.out hn
     go_wp2_with fail
     go_region_with (go_at_call 89; refine (checkNext_any (some ⟨b,off,none⟩) k cap (h.take k) q0 q1 q2 _ g1.out ((G.out.later BQ.out).take hkl'.out)).mono ?_; rintro e w1 ⟨rfl,hb⟩; rw [EQ.out,errV_no hn])
     go_wp2
     go_ret2
     refine ⟨?_,below_up rfl BQ.out hb⟩
     rw [E.out.1,E.out.2,errV_no HN.out]
     rfl
   ·have hkl:k = len := by omega
    subst hkl
    have E:Hid _ := chk_ok (h := h) (by rw [HL.out]; omega) (by rw [HL.out]; exact hp.out)
    go_wp2
    go_ret2
    refine ⟨?_,hbel.out⟩
    rw [E.out.1,E.out.2]
    rfl
end Go.Proofs.YtdmniblonikjlakGreatDoor.His


namespace Go.Proofs.YtdmniblonikjlakGreatDoor.His
open Go.RowKit
theorem rowIs_later {w w':World} {b:Nat} {t:TypeId} {n:Nat} {f:Nat → Value} (h:w.rowIs b t n f) (hb:Below w.heap.size w w'):w'.rowIs b t n f := h.of_block (hb.block b h.lt)
theorem wp_gen {P:Program} {c:Code} {Q:Exit → Act → World → Prop} {a:Act} {w:World} (R:World → Prop) (h:R w) (k:∀ w',R w' → Code.wp P c Q a w'):Code.wp P c Q a w := k w h
theorem list5 {r:List Int} (h:r.length = 5):[r.getD 0 0,r.getD 1 0,r.getD 2 0,r.getD 3 0,r.getD 4 0] = r := by
 match r,h with
 | [a,b,c,d,e],_ => rfl
theorem last_bd {h:List Ev} {N n:Nat} (hg:Good h N) (hn:n < N) (m:Nat):0 ≤ (last h n (W h n)).getD m 0 ∧ (last h n (W h n)).getD m 0 ≤ n := by
 rcases last_spec h (W h n) n with ⟨j,h1,h2,h3,h4⟩ | ⟨_,h2⟩
 ·rw [h4]
  have := row_nonneg hg (show j < N by omega) m
  have := row_le hg (show j < N by omega) m
  have := cnt_le h m (j + 1)
  omega
 ·rw [h2]
  rcases m with _ | _ | _ | _ | _ | m <;> simp [zero5]
theorem row_bd {h:List Ev} {N n:Nat} (hg:Good h N) (hn:n < N) (m:Nat):0 ≤ (row h n).getD m 0 ∧ (row h n).getD m 0 ≤ n + 1 := by
 have := row_nonneg hg hn m
 have := row_le hg hn m
 have := cnt_le h m (n + 1)
 omega
theorem row_plain {h:List Ev} {n:Nat} (h3:(ev h n).2.1 ≠ 3):row h n = upd (last h n (W h n)) (W h n) := by
 unfold row far
 rw [if_neg h3]
 rfl
theorem row_hear {h:List Ev} {N n:Nat} (hg:Good h N) (hn:n < N) (h3:(ev h n).2.1 = 3):row h n = upd (joinR (last h n (W h n)) (row h (sayAt h (ev h n).2.2))) (W h n) := by
 have e:row h n = upd (if (ev h n).2.1 = 3 then joinR (last h n (W h n)) ((st h n).1.getD (sayAt h (ev h n).2.2) zero5) else last h n (W h n)) (W h n) := rfl
 rw [e,if_pos h3,st_get h n _ (sayAt_lt hg hn h3).1]
theorem Bx.set {w:World} {B F i:Nat} {x0 x1 x2:Int} (h:Bx w B x0 x1 x2) (hne:B ≠ F) (v:Value):Bx (w.setCell ⟨F,i,none⟩ v) B x0 x1 x2 := by
 have key:∀ j,(w.setCell ⟨F,i,none⟩ v).cell? ⟨B,j,none⟩ = w.cell? ⟨B,j,none⟩ := fun j => World.cell?_setCell_other _ _ _ _ (fun e => hne (congrArg Addr.block e).symm)
 refine ⟨?_,by rw [key]; exact h.2.1,by rw [key]; exact h.2.2.1,by rw [key]; exact h.2.2.2⟩
 have := h.1
 simpa [World.setCell] using this
end Go.Proofs.YtdmniblonikjlakGreatDoor.His


namespace Go.Proofs.YtdmniblonikjlakGreatDoor.His
end Go.Proofs.YtdmniblonikjlakGreatDoor.His


namespace Go.Proofs.YtdmniblonikjlakGreatDoor.His
open Go.RowKit
theorem said1 (who what wd:Int) (word:Int) (B:Nat) (w:World) (hv:w.cell? ⟨B,0,none⟩ = some (.int .i64 word)) :
  Calls Tryz.prog 136 #[.agg #[.int .i64 who,.int .i64 what,.int .i64 wd],.pointer (some ⟨B,0,none⟩)] w fun x w' => x = .returned (.bool (says word (who,what,wd))) ∧ Below w.heap.size w w' := by
 have hB := block_lt_of_cell hv
 by_cases h2:what = 2
 ·subst h2
  go_enter Tryz.func136,Tryz.ntmps136
  go_wp2
  go_ret
  exact ⟨ret_bool (by rw [Bool.eq_iff_iff]; simp [says]),(Below.refl _ _).alloc (Nat.le_refl _) _⟩
 ·have h2':(what == 2) = false := by simp [h2]
  go_enter Tryz.func136,Tryz.ntmps136
  go_wp2
  go_ret
  exact ⟨ret_bool (by simp [says,h2]),(Below.refl _ _).alloc (Nat.le_refl _) _⟩
theorem idxFunc2 (a:Option Addr) (len cap:Nat) (h:List Ev) (word:Int) (B:Nat) (w:World) (hm:len ≤ maxLen) (hv:Ew w a len h) (hB:B < w.heap.size) (hc:w.cell? ⟨B,0,none⟩ = some (.int .i64 word)) :
  Calls Tryz.prog 111 #[.slice a len cap,.func (.func 136) #[] #[.pointer (some ⟨B,0,none⟩)]] w fun x w' => x = .returned (.int .i64 (idxI (says word) h)) ∧ Below w.heap.size w w' := by
 unfold maxLen at hm
 have H1:Hid (h.length = len) := hv.1
 have G:Hid (Ew w a len h) := hv
 have HC:Hid (B < w.heap.size ∧ w.cell? ⟨B,0,none⟩ = some (.int .i64 word)) := ⟨hB,hc⟩
 clear hv hB hc
 go_enter Tryz.func111,Tryz.ntmps111
 go_wp2
 go_loopw [8] (fun i wr => ∃ k:Nat,k ≤ len ∧ i = .int .i64 k ∧ Hid (Below w.heap.size w wr) ∧ Hid (∀ j,j < k → says word (ev h j) = false)) (fun i _ => len - (intOf i).toNat)
 case atStart => exact ⟨0,by omega,rfl,Below.refl _ _,fun j hj => absurd hj (by omega)⟩
 case round =>
  obtain ⟨k,hk,rfl,hbel,hp⟩ := hrel
  by_cases hlt:k < len
  ·obtain ⟨b,off,rfl,hpb,hcs⟩ := (G.out.later hbel.out).2 (by omega)
   obtain ⟨c0,c1,c2⟩ := hcs k hlt
   have hBw:wr.cell? ⟨B,0,none⟩ = some (.int .i64 word) := (hbel.out.cell (p := ⟨B,0,none⟩) HC.out.1).trans HC.out.2
   obtain ⟨q,eq⟩:∃ q,q = ev h k := ⟨_,rfl⟩
   rw [← eq] at c0 c1 c2
   obtain ⟨q0,q1,q2⟩ := q
   have EQ:Hid _ := eq
   have HBW:Hid _ := hBw
   clear hcs eq hBw hpb
   have hk0:(0:Int) ≤ (k:Int) := by omega
   have hkl:(k:Int) < (len:Int) := by omega
   cases hb:says word (ev h k)
   ·go_wp2_with (go_at_call 136; refine (said1 q0 q1 q2 word B _ HBW.out).mono ?_; rintro e w' ⟨rfl,hb2⟩; rw [EQ.out,hb])
    go_roundw
    case rel => exact ⟨k + 1,by omega,by go_num,below_up rfl hbel.out hb2,fun j hj => if e:j < k then hp.out j e else by rw [show j = k by omega]; exact hb⟩
    case measure => simp [intOf]; omega
   ·go_wp2_with (go_at_call 136; refine (said1 q0 q1 q2 word B _ HBW.out).mono ?_; rintro e w' ⟨rfl,hb2⟩; rw [EQ.out,hb])
    go_ret
    exact ⟨ret_int (idx_hit (by rw [H1.out]; exact hlt) hb hp.out).symm,below_up rfl hbel.out hb2⟩
  ·go_wp2
   go_ret
   refine ⟨ret_int ?_,hbel.out⟩
   rw [idxI,if_neg]
   rw [idx_miss fun j hj => hp.out j (by have := H1.out; omega)]
   decide
theorem saidAt1 (a:Option Addr) (len cap:Nat) (h:List Ev) (word:Int) (w:World) (hm:len ≤ maxLen) (hv:Ew w a len h) :
  Calls Tryz.prog 95 #[.slice a len cap,.int .i64 word] w fun x w' => x = .returned (.int .i64 (idxI (says word) h)) ∧ Below w.heap.size w w' := by
 have B1:Hid (Below w.heap.size w (w.alloc (.cells #[.int .i64 word] 3))) := (Below.refl _ _).alloc (Nat.le_refl _) _
 go_enter Tryz.func95,Tryz.ntmps95
 go_wp2_with fail
 refine (idxFunc2 a len cap h word w.heap.size _ hm (hv.later B1.out) (by simp) (by simp)).mono ?_
 rintro e w1 ⟨rfl,hb⟩
 clear hv
 go_wp2
 go_ret
 exact ⟨rfl,below_up rfl B1.out hb⟩
theorem idx_say2 {h:List Ev} {N n:Nat} (hg:Good h N) (hn:n < N) (h3:(ev h n).2.1 = 3):idxI (says (ev h n).2.2) h = (sayAt h (ev h n).2.2:Nat) := by
 have ha:h.any (says (ev h n).2.2) = true := by
  obtain ⟨x,hx,hp⟩ := List.any_eq_true.1 (good_said hg hn h3)
  exact List.any_eq_true.2 ⟨x,List.mem_of_mem_take hx,hp⟩
 rw [idxI,if_pos ha]
 rfl
set_option maxRecDepth 100000 in
set_option maxHeartbeats 4000000 in
theorem nextVector1 (m:Nat) (hm:m < 5) (a0 a1 a2 a3 a4 b0 b1 b2 b3 b4:Int) (w:World)
  (ha:(0 ≤ a0 ∧ a0 ≤ 60) ∧ (0 ≤ a1 ∧ a1 ≤ 60) ∧ (0 ≤ a2 ∧ a2 ≤ 60) ∧ (0 ≤ a3 ∧ a3 ≤ 60) ∧ (0 ≤ a4 ∧ a4 ≤ 60)) (hb:(0 ≤ b0 ∧ b0 ≤ 60) ∧ (0 ≤ b1 ∧ b1 ≤ 60) ∧ (0 ≤ b2 ∧ b2 ≤ 60) ∧ (0 ≤ b3 ∧ b3 ≤ 60) ∧ (0 ≤ b4 ∧ b4 ≤ 60)) :
  Calls Tryz.prog 43 #[.int .i64 (m:Int),.agg #[.int .i64 a0,.int .i64 a1,.int .i64 a2,.int .i64 a3,.int .i64 a4],.agg #[.int .i64 b0,.int .i64 b1,.int .i64 b2,.int .i64 b3,.int .i64 b4]] w
   fun x w' => (∃ r0 r1 r2 r3 r4:Int,x = .returned (.agg #[.int .i64 r0,.int .i64 r1,.int .i64 r2,.int .i64 r3,.int .i64 r4]) ∧ [r0,r1,r2,r3,r4] = upd (joinR [a0,a1,a2,a3,a4] [b0,b1,b2,b3,b4]) m) ∧ Below w.heap.size w w' := by
 have i0:∀ w:World,(Instr.index 98 (.agg #[.int .i64 b0,.int .i64 b1,.int .i64 b2,.int .i64 b3,.int .i64 b4]) (.int .i64 0)).run Tryz.prog w = .ok (.int .i64 b0) w := fun _ => by kernel_rfl
 have i1:∀ w:World,(Instr.index 98 (.agg #[.int .i64 b0,.int .i64 b1,.int .i64 b2,.int .i64 b3,.int .i64 b4]) (.int .i64 1)).run Tryz.prog w = .ok (.int .i64 b1) w := fun _ => by kernel_rfl
 have i2:∀ w:World,(Instr.index 98 (.agg #[.int .i64 b0,.int .i64 b1,.int .i64 b2,.int .i64 b3,.int .i64 b4]) (.int .i64 2)).run Tryz.prog w = .ok (.int .i64 b2) w := fun _ => by kernel_rfl
 have i3:∀ w:World,(Instr.index 98 (.agg #[.int .i64 b0,.int .i64 b1,.int .i64 b2,.int .i64 b3,.int .i64 b4]) (.int .i64 3)).run Tryz.prog w = .ok (.int .i64 b3) w := fun _ => by kernel_rfl
 have i4:∀ w:World,(Instr.index 98 (.agg #[.int .i64 b0,.int .i64 b1,.int .i64 b2,.int .i64 b3,.int .i64 b4]) (.int .i64 4)).run Tryz.prog w = .ok (.int .i64 b4) w := fun _ => by kernel_rfl
 have m0:(if a0 < b0 then b0 else a0) = max a0 b0 := by omega
 have m1:(if a1 < b1 then b1 else a1) = max a1 b1 := by omega
 have m2:(if a2 < b2 then b2 else a2) = max a2 b2 := by omega
 have m3:(if a3 < b3 then b3 else a3) = max a3 b3 := by omega
 have m4:(if a4 < b4 then b4 else a4) = max a4 b4 := by omega
 obtain ⟨c0,e0⟩:∃ c,c = max a0 b0 := ⟨_,rfl⟩
 obtain ⟨c1,e1⟩:∃ c,c = max a1 b1 := ⟨_,rfl⟩
 obtain ⟨c2,e2⟩:∃ c,c = max a2 b2 := ⟨_,rfl⟩
 obtain ⟨c3,e3⟩:∃ c,c = max a3 b3 := ⟨_,rfl⟩
 obtain ⟨c4,e4⟩:∃ c,c = max a4 b4 := ⟨_,rfl⟩
 rw [← e0] at m0
 rw [← e1] at m1
 rw [← e2] at m2
 rw [← e3] at m3
 rw [← e4] at m4
 have hc:(0 ≤ c0 ∧ c0 ≤ 60) ∧ (0 ≤ c1 ∧ c1 ≤ 60) ∧ (0 ≤ c2 ∧ c2 ≤ 60) ∧ (0 ≤ c3 ∧ c3 ≤ 60) ∧ (0 ≤ c4 ∧ c4 ≤ 60) := by omega
 have HJ:Hid (joinR [a0,a1,a2,a3,a4] [b0,b1,b2,b3,b4] = [c0,c1,c2,c3,c4]) := by rw [e0,e1,e2,e3,e4]; rfl
 obtain ⟨hc0,hc1,hc2,hc3,hc4⟩ := hc
 clear e0 e1 e2 e3 e4 ha hb
 have hm':m = 0 ∨ m = 1 ∨ m = 2 ∨ m = 3 ∨ m = 4 := by omega
 clear hm
 rcases hm' with rfl | rfl | rfl | rfl | rfl
 ·go_enter Tryz.func43,Tryz.ntmps43
  go_wp2
  refine wp_loop_rounds 6 ?_
  rw [rounds_succ]; go_wp2
  rw [rounds_succ]; go_wp2
  rw [rounds_succ]; go_wp2
  rw [rounds_succ]; go_wp2
  rw [rounds_succ]; go_wp2
  rw [rounds_succ]; go_wp2
  refine bodyPost_ret (v := .agg #[.int .i64 (c0 + 1),.int .i64 c1,.int .i64 c2,.int .i64 c3,.int .i64 c4]) ?_ rfl ?_
  ·have u3 := Tryz.underlying3
   simp [results,Tryz.results43,go_sem]
  ·exact ⟨⟨(c0 + 1),c1,c2,c3,c4,rfl,by rw [HJ.out]; rfl⟩,(((Below.refl _ _).alloc (Nat.le_refl _) _).alloc (by simp) _).alloc (by simp; omega) _⟩
 ·go_enter Tryz.func43,Tryz.ntmps43
  go_wp2
  refine wp_loop_rounds 6 ?_
  rw [rounds_succ]; go_wp2
  rw [rounds_succ]; go_wp2
  rw [rounds_succ]; go_wp2
  rw [rounds_succ]; go_wp2
  rw [rounds_succ]; go_wp2
  rw [rounds_succ]; go_wp2
  refine bodyPost_ret (v := .agg #[.int .i64 c0,.int .i64 (c1 + 1),.int .i64 c2,.int .i64 c3,.int .i64 c4]) ?_ rfl ?_
  ·have u3 := Tryz.underlying3
   simp [results,Tryz.results43,go_sem]
  ·exact ⟨⟨c0,(c1 + 1),c2,c3,c4,rfl,by rw [HJ.out]; rfl⟩,(((Below.refl _ _).alloc (Nat.le_refl _) _).alloc (by simp) _).alloc (by simp; omega) _⟩
 ·go_enter Tryz.func43,Tryz.ntmps43
  go_wp2
  refine wp_loop_rounds 6 ?_
  rw [rounds_succ]; go_wp2
  rw [rounds_succ]; go_wp2
  rw [rounds_succ]; go_wp2
  rw [rounds_succ]; go_wp2
  rw [rounds_succ]; go_wp2
  rw [rounds_succ]; go_wp2
  refine bodyPost_ret (v := .agg #[.int .i64 c0,.int .i64 c1,.int .i64 (c2 + 1),.int .i64 c3,.int .i64 c4]) ?_ rfl ?_
  ·have u3 := Tryz.underlying3
   simp [results,Tryz.results43,go_sem]
  ·exact ⟨⟨c0,c1,(c2 + 1),c3,c4,rfl,by rw [HJ.out]; rfl⟩,(((Below.refl _ _).alloc (Nat.le_refl _) _).alloc (by simp) _).alloc (by simp; omega) _⟩
 ·go_enter Tryz.func43,Tryz.ntmps43
  go_wp2
  refine wp_loop_rounds 6 ?_
  rw [rounds_succ]; go_wp2
  rw [rounds_succ]; go_wp2
  rw [rounds_succ]; go_wp2
  rw [rounds_succ]; go_wp2
  rw [rounds_succ]; go_wp2
  rw [rounds_succ]; go_wp2
  refine bodyPost_ret (v := .agg #[.int .i64 c0,.int .i64 c1,.int .i64 c2,.int .i64 (c3 + 1),.int .i64 c4]) ?_ rfl ?_
  ·have u3 := Tryz.underlying3
   simp [results,Tryz.results43,go_sem]
  ·exact ⟨⟨c0,c1,c2,(c3 + 1),c4,rfl,by rw [HJ.out]; rfl⟩,(((Below.refl _ _).alloc (Nat.le_refl _) _).alloc (by simp) _).alloc (by simp; omega) _⟩
 ·go_enter Tryz.func43,Tryz.ntmps43
  go_wp2
  refine wp_loop_rounds 6 ?_
  rw [rounds_succ]; go_wp2
  rw [rounds_succ]; go_wp2
  rw [rounds_succ]; go_wp2
  rw [rounds_succ]; go_wp2
  rw [rounds_succ]; go_wp2
  rw [rounds_succ]; go_wp2
  refine bodyPost_ret (v := .agg #[.int .i64 c0,.int .i64 c1,.int .i64 c2,.int .i64 c3,.int .i64 (c4 + 1)]) ?_ rfl ?_
  ·have u3 := Tryz.underlying3
   simp [results,Tryz.results43,go_sem]
  ·exact ⟨⟨c0,c1,c2,c3,(c4 + 1),rfl,by rw [HJ.out]; rfl⟩,(((Below.refl _ _).alloc (Nat.le_refl _) _).alloc (by simp) _).alloc (by simp; omega) _⟩
end Go.Proofs.YtdmniblonikjlakGreatDoor.His


namespace Go.Proofs.YtdmniblonikjlakGreatDoor.His
open Go.RowKit
def CReached (h:List Ev) (w:World) (base A L len k:Nat):Prop :=
 ∃ fa fl,w.rowIs A 98 (len * 5) fa ∧ w.rowIs L 177 25 fl ∧ A ≠ L ∧ base ≤ A ∧ base ≤ L ∧ (∀ j,j < k → ∀ i,i < 5 → fa (j * 5 + i) = .int .i64 ((row h j).getD i 0)) ∧ (∀ m,m < 5 → ∀ i,i < 5 → fl (m * 5 + i) = .int .i64 ((last h k m).getD i 0))
theorem mkc_info:(Tryz.prog.info? 98).map (fun i => (i.zero,i.size,i.bytes)) = some (some (.agg #[.int .i64 0,.int .i64 0,.int .i64 0,.int .i64 0,.int .i64 0]),5,40) := by kernel_rfl
theorem mk_counts (n:Nat) (hn:n ≤ 60) (w:World) :
  (Instr.makeSlice 95 (.int .i64 (n:Int)) (.int .i64 (n:Int))).run Tryz.prog w = .ok (.slice (some ⟨w.heap.size,0,none⟩) n n) (w.alloc (.cells (madeCells #[.int .i64 0,.int .i64 0,.int .i64 0,.int .i64 0,.int .i64 0] (n * 5)) 98)) := by
 obtain ⟨i,hi,hzz⟩ := Option.map_eq_some_iff.1 mkc_info
 simp only [Prod.mk.injEq] at hzz
 obtain ⟨hz,hs,hb⟩ := hzz
 have hr := run_make (P := Tryz.prog) w 95 98 i _ (by kernel_rfl) hi hz .i64 .i64 n n (by omega) (Int.le_refl _) (by rw [hb]; omega) (by omega)
 simp only [Int.toNat_natCast,hs] at hr
 exact hr
def CFr (w:World) (F:Nat) (r:List Int):Prop := w.rowIs F 98 5 (fun i => .int .i64 (r.getD i 0))
theorem CFr.lit (w:World) (a b c d e:Int):CFr (w.alloc (.cells #[.int .i64 a,.int .i64 b,.int .i64 c,.int .i64 d,.int .i64 e] 98)) w.heap.size [a,b,c,d,e] := by
 refine World.rowIs_alloc w _ _ _ fun i hi => ?_
 have:i < 5 := hi
 rcases i with _ | _ | _ | _ | _ | i
 ·rfl
 ·rfl
 ·rfl
 ·rfl
 ·rfl
 ·omega
theorem CFr.later {w w':World} {F:Nat} {r:List Int} (h:CFr w F r) (hb:Below w.heap.size w w'):CFr w' F r := rowIs_later h hb
theorem CFr.cells {w:World} {F:Nat} {a b c d e:Int} (h:CFr w F [a,b,c,d,e]):w.cell? ⟨F,0,none⟩ = some (.int .i64 a) ∧ w.cell? ⟨F,1,none⟩ = some (.int .i64 b) ∧ w.cell? ⟨F,2,none⟩ = some (.int .i64 c) ∧ w.cell? ⟨F,3,none⟩ = some (.int .i64 d) ∧ w.cell? ⟨F,4,none⟩ = some (.int .i64 e) :=
 ⟨World.rowIs.cell h (by omega),World.rowIs.cell h (by omega),World.rowIs.cell h (by omega),World.rowIs.cell h (by omega),World.rowIs.cell h (by omega)⟩
theorem CFr.set {w:World} {F:Nat} {r:List Int} (h:CFr w F r) (hr:r.length = 5) (m:Nat) (hm:m < 5) (x:Int):CFr (w.setCell ⟨F,m,none⟩ (.int .i64 x)) F (r.set m x) := by
 refine (World.rowIs.set h m _).congr fun i hi => ?_
 by_cases e:i = m
 ·subst e
  simp [List.getD,hr,hm]
 ·simp [e,List.getD,List.getElem?_set_ne (Ne.symm e)]
def c9fact (w:World) (A s:Nat) (s0 s1 s2 s3 s4:Int):Prop := w.cell? ⟨A,s * 5,none⟩ = some (.int .i64 s0) ∧ w.cell? ⟨A,s * 5 + 1,none⟩ = some (.int .i64 s1) ∧ w.cell? ⟨A,s * 5 + 2,none⟩ = some (.int .i64 s2) ∧ w.cell? ⟨A,s * 5 + 3,none⟩ = some (.int .i64 s3) ∧ w.cell? ⟨A,s * 5 + 4,none⟩ = some (.int .i64 s4)
theorem c9fact.later {w w':World} {A s:Nat} {s0 s1 s2 s3 s4:Int} (h:c9fact w A s s0 s1 s2 s3 s4) (hA:A < w.heap.size) (hb:Below w.heap.size w w'):c9fact w' A s s0 s1 s2 s3 s4 :=
 ⟨(hb.cell (p := ⟨A,_,none⟩) hA).trans h.1,(hb.cell (p := ⟨A,_,none⟩) hA).trans h.2.1,(hb.cell (p := ⟨A,_,none⟩) hA).trans h.2.2.1,(hb.cell (p := ⟨A,_,none⟩) hA).trans h.2.2.2.1,(hb.cell (p := ⟨A,_,none⟩) hA).trans h.2.2.2.2⟩
theorem made5c (n i:Nat) (hi:i < n):(madeCells #[.int .i64 0,.int .i64 0,.int .i64 0,.int .i64 0,.int .i64 0] n)[i]? = some (.int .i64 0) := by
 unfold madeCells
 have:∀ j,j < 5 → (#[Value.int .i64 0,.int .i64 0,.int .i64 0,.int .i64 0,.int .i64 0]:Array Value)[j]! = .int .i64 0 := by
  intro j hj
  rcases j with _ | _ | _ | _ | _ | j
  ·rfl
  ·rfl
  ·rfl
  ·rfl
  ·rfl
  ·omega
 simp only [Array.getElem?_map,Array.getElem?_range,hi,if_true,Option.map_some]
 exact congrArg some (this _ (Nat.mod_lt _ (by decide)))
theorem zero25c (i:Nat) (hi:i < 25):(Array.replicate 25 (Value.int .i64 0))[i]? = some (.int .i64 0) := by simp [hi]
theorem CReached.start (h:List Ev) (w:World) (len:Nat) (c:Array Value) (hc:c.size = 25) (hz:∀ i,i < 25 → c[i]? = some (.int .i64 0)) :
  CReached h ((w.alloc (.cells (madeCells #[.int .i64 0,.int .i64 0,.int .i64 0,.int .i64 0,.int .i64 0] (len * 5)) 98)).alloc (.cells c 177)) w.heap.size w.heap.size (w.heap.size + 1) len 0 := by
 have ra := World.rowIs_alloc w (madeCells #[.int .i64 0,.int .i64 0,.int .i64 0,.int .i64 0,.int .i64 0] (len * 5)) 98 (fun _ => .int .i64 0) (fun i hi => made5c _ i (by rwa [size_madeCells] at hi))
 rw [size_madeCells] at ra
 have rl := World.rowIs_alloc (w.alloc (.cells (madeCells #[.int .i64 0,.int .i64 0,.int .i64 0,.int .i64 0,.int .i64 0] (len * 5)) 98)) c 177 (fun _ => .int .i64 0) (fun i hi => hz i (by omega))
 have es:(w.alloc (.cells (madeCells #[.int .i64 0,.int .i64 0,.int .i64 0,.int .i64 0,.int .i64 0] (len * 5)) 98)).heap.size = w.heap.size + 1 := by simp
 rw [es,hc] at rl
 refine ⟨_,_,ra.alloc _,rl,by omega,Nat.le_refl _,by omega,fun j hj => by omega,fun m hm i hi => ?_⟩
 show _ = Value.int .i64 (zero5.getD i 0)
 rcases i with _ | _ | _ | _ | _ | i
 ·rfl
 ·rfl
 ·rfl
 ·rfl
 ·rfl
 ·omega
def CMid (h:List Ev) (w:World) (base A L len k:Nat) (r0 r1 r2 r3 r4:Int):Prop :=
 ∃ fa fl,w.rowIs A 98 (len * 5) fa ∧ w.rowIs L 177 25 fl ∧ A ≠ L ∧ base ≤ A ∧ base ≤ L ∧ (∀ j,j < k → ∀ i,i < 5 → fa (j * 5 + i) = .int .i64 ((row h j).getD i 0)) ∧ (∀ m,m < 5 → ∀ i,i < 5 → fl (m * 5 + i) = .int .i64 ((last h k m).getD i 0))
  ∧ (fa (k * 5) = .int .i64 r0 ∧ fa (k * 5 + 1) = .int .i64 r1 ∧ fa (k * 5 + 2) = .int .i64 r2 ∧ fa (k * 5 + 3) = .int .i64 r3 ∧ fa (k * 5 + 4) = .int .i64 r4)
theorem CReached.later {h:List Ev} {w w':World} {base A L len k:Nat} (g:CReached h w base A L len k) (hb:Below w.heap.size w w'):CReached h w' base A L len k := by
 obtain ⟨fa,fl,ra,rl,x⟩ := g
 exact ⟨fa,fl,rowIs_later ra hb,rowIs_later rl hb,x⟩
theorem CReached.mid {h:List Ev} {w:World} {base A L len k:Nat} (g:CReached h w base A L len k) (r0 r1 r2 r3 r4:Int) :
  CMid h (((((w.setCell ⟨A,k * 5,none⟩ (.int .i64 r0)).setCell ⟨A,k * 5 + 1,none⟩ (.int .i64 r1)).setCell ⟨A,k * 5 + 2,none⟩ (.int .i64 r2)).setCell ⟨A,k * 5 + 3,none⟩ (.int .i64 r3)).setCell ⟨A,k * 5 + 4,none⟩ (.int .i64 r4)) base A L len k r0 r1 r2 r3 r4 := by
 obtain ⟨fa,fl,ra,rl,hAL,hA,hL,ha,hl⟩ := g
 have ra5 := (((((ra.set (k * 5) (.int .i64 r0)).set (k * 5 + 1) (.int .i64 r1)).set (k * 5 + 2) (.int .i64 r2)).set (k * 5 + 3) (.int .i64 r3)).set (k * 5 + 4) (.int .i64 r4))
 have rl5 := (((((rl.setOther (a := ⟨A,k * 5,none⟩) (Ne.symm hAL) (.int .i64 r0)).setOther (a := ⟨A,k * 5 + 1,none⟩) (Ne.symm hAL) (.int .i64 r1)).setOther (a := ⟨A,k * 5 + 2,none⟩) (Ne.symm hAL) (.int .i64 r2)).setOther (a := ⟨A,k * 5 + 3,none⟩) (Ne.symm hAL) (.int .i64 r3)).setOther (a := ⟨A,k * 5 + 4,none⟩) (Ne.symm hAL) (.int .i64 r4))
 refine ⟨_,_,ra5,rl5,hAL,hA,hL,?_,hl,?_,?_,?_,?_,?_⟩
 ·intro j hj i hi
  show (if j * 5 + i = k * 5 + 4 then _ else if j * 5 + i = k * 5 + 3 then _ else if j * 5 + i = k * 5 + 2 then _ else if j * 5 + i = k * 5 + 1 then _ else if j * 5 + i = k * 5 then _ else _) = _
  rw [if_neg (by omega),if_neg (by omega),if_neg (by omega),if_neg (by omega),if_neg (by omega)]
  exact ha j hj i hi
 ·show (if k * 5 = k * 5 + 4 then _ else if k * 5 = k * 5 + 3 then _ else if k * 5 = k * 5 + 2 then _ else if k * 5 = k * 5 + 1 then _ else if k * 5 = k * 5 then _ else _) = _
  rw [if_neg (by omega),if_neg (by omega),if_neg (by omega),if_neg (by omega),if_pos rfl]
 ·show (if k * 5 + 1 = k * 5 + 4 then _ else if k * 5 + 1 = k * 5 + 3 then _ else if k * 5 + 1 = k * 5 + 2 then _ else if k * 5 + 1 = k * 5 + 1 then _ else _) = _
  rw [if_neg (by omega),if_neg (by omega),if_neg (by omega),if_pos rfl]
 ·show (if k * 5 + 2 = k * 5 + 4 then _ else if k * 5 + 2 = k * 5 + 3 then _ else if k * 5 + 2 = k * 5 + 2 then _ else _) = _
  rw [if_neg (by omega),if_neg (by omega),if_pos rfl]
 ·show (if k * 5 + 3 = k * 5 + 4 then _ else if k * 5 + 3 = k * 5 + 3 then _ else _) = _
  rw [if_neg (by omega),if_pos rfl]
 ·show (if k * 5 + 4 = k * 5 + 4 then _ else _) = _
  rw [if_pos rfl]
theorem CReached.drew {h:List Ev} {w:World} {base A L len k:Nat} (g:CReached h w base A L len k):CReached h w.drew base A L len k := g
theorem CMid.step {h:List Ev} {w:World} {base A L len k m:Nat} {r0 r1 r2 r3 r4:Int} (g:CMid h w base A L len k r0 r1 r2 r3 r4) (hm:m = W h k) (hr:[r0,r1,r2,r3,r4] = row h k) :
  CReached h (((((w.setCell ⟨L,m * 5,none⟩ (.int .i64 r0)).setCell ⟨L,m * 5 + 1,none⟩ (.int .i64 r1)).setCell ⟨L,m * 5 + 2,none⟩ (.int .i64 r2)).setCell ⟨L,m * 5 + 3,none⟩ (.int .i64 r3)).setCell ⟨L,m * 5 + 4,none⟩ (.int .i64 r4)) base A L len (k + 1) := by
 obtain ⟨fa,fl,ra,rl,hAL,hA,hL,ha,hl,h0,h1,h2,h3,h4⟩ := g
 have ra5 := (((((ra.setOther (a := ⟨L,m * 5,none⟩) hAL (.int .i64 r0)).setOther (a := ⟨L,m * 5 + 1,none⟩) hAL (.int .i64 r1)).setOther (a := ⟨L,m * 5 + 2,none⟩) hAL (.int .i64 r2)).setOther (a := ⟨L,m * 5 + 3,none⟩) hAL (.int .i64 r3)).setOther (a := ⟨L,m * 5 + 4,none⟩) hAL (.int .i64 r4))
 have rl5 := (((((rl.set (m * 5) (.int .i64 r0)).set (m * 5 + 1) (.int .i64 r1)).set (m * 5 + 2) (.int .i64 r2)).set (m * 5 + 3) (.int .i64 r3)).set (m * 5 + 4) (.int .i64 r4))
 refine ⟨_,_,ra5,rl5,hAL,hA,hL,?_,?_⟩
 ·intro j hj i hi
  rcases Nat.lt_or_ge j k with hjk | hjk
  ·exact ha j hjk i hi
  ·obtain rfl:j = k := by omega
   rw [← hr]
   rcases i with _ | _ | _ | _ | _ | i
   ·exact h0
   ·exact h1
   ·exact h2
   ·exact h3
   ·exact h4
   ·omega
 ·intro m' hm' i hi
  show (if m' * 5 + i = m * 5 + 4 then _ else if m' * 5 + i = m * 5 + 3 then _ else if m' * 5 + i = m * 5 + 2 then _ else if m' * 5 + i = m * 5 + 1 then _ else if m' * 5 + i = m * 5 then _ else _) = _
  rw [last_step]
  by_cases e:m' = m
  ·rw [if_pos (e.trans hm),← hr]
   rcases i with _ | _ | _ | _ | _ | i
   ·rw [if_neg (by omega),if_neg (by omega),if_neg (by omega),if_neg (by omega),if_pos (by omega)]; rfl
   ·rw [if_neg (by omega),if_neg (by omega),if_neg (by omega),if_pos (by omega)]; rfl
   ·rw [if_neg (by omega),if_neg (by omega),if_pos (by omega)]; rfl
   ·rw [if_neg (by omega),if_pos (by omega)]; rfl
   ·rw [if_pos (by omega)]; rfl
   ·omega
  ·rw [if_neg (by omega),if_neg (by omega),if_neg (by omega),if_neg (by omega),if_neg (by omega),if_neg (fun q => e (q.trans hm.symm))]
   exact hl m' hm' i hi
theorem below_five {base:Nat} {w w9:World} {A p0 p1 p2 p3 p4:Nat} {r0 r1 r2 r3 r4:Int} (hb:Below base w w9) (hA:base ≤ A) :
  Below base w (((((w9.setCell ⟨A,p0,none⟩ (.int .i64 r0)).setCell ⟨A,p1,none⟩ (.int .i64 r1)).setCell ⟨A,p2,none⟩ (.int .i64 r2)).setCell ⟨A,p3,none⟩ (.int .i64 r3)).setCell ⟨A,p4,none⟩ (.int .i64 r4)) :=
 (((((hb.setCell (p := ⟨A,_,none⟩) hA _).setCell (p := ⟨A,_,none⟩) hA _).setCell (p := ⟨A,_,none⟩) hA _).setCell (p := ⟨A,_,none⟩) hA _).setCell (p := ⟨A,_,none⟩) hA _)
theorem bx_five {w:World} {B A p0 p1 p2 p3 p4:Nat} {x0 x1 x2 r0 r1 r2 r3 r4:Int} (h:Bx w B x0 x1 x2) (hne:B ≠ A) :
  Bx (((((w.setCell ⟨A,p0,none⟩ (.int .i64 r0)).setCell ⟨A,p1,none⟩ (.int .i64 r1)).setCell ⟨A,p2,none⟩ (.int .i64 r2)).setCell ⟨A,p3,none⟩ (.int .i64 r3)).setCell ⟨A,p4,none⟩ (.int .i64 r4)) B x0 x1 x2 :=
 ((((h.set hne _).set hne _).set hne _).set hne _).set hne _
theorem join_zero {a0 a1 a2 a3 a4:Int} (h0:0 ≤ a0) (h1:0 ≤ a1) (h2:0 ≤ a2) (h3:0 ≤ a3) (h4:0 ≤ a4):joinR [a0,a1,a2,a3,a4] [0,0,0,0,0] = [a0,a1,a2,a3,a4] := by
 show [max a0 0,max a1 0,max a2 0,max a3 0,max a4 0] = _
 rw [show max a0 0 = a0 by omega,show max a1 0 = a1 by omega,show max a2 0 = a2 by omega,show max a3 0 = a3 by omega,show max a4 0 = a4 by omega]
end Go.Proofs.YtdmniblonikjlakGreatDoor.His


namespace Go.Proofs.YtdmniblonikjlakGreatDoor.His
open Go.RowKit
set_option maxRecDepth 100000 in
set_option maxHeartbeats 8000000 in
theorem alongV (a:Option Addr) (len cap:Nat) (h:List Ev) (w:World) (hlen:len ≤ 60) (hv:Ew w a len h) (hg:Good h len) :
  Calls Tryz.prog 42 #[.slice a len cap,.func (.func 43) #[] #[]] w fun x w' => ∃ A,x = .returned (.slice (some ⟨A,0,none⟩) len len) ∧ Below w.heap.size w w' ∧ (∃ L,CReached h w' w.heap.size A L len len) := by
 have HG:Hid (Good h len) := hg
 have G:Hid (Ew w a len h) := hv
 have hmk := mk_counts len hlen
 have HM:Hid (len ≤ maxLen) := by show len ≤ maxLen; unfold maxLen; omega
 clear hg hv
 go_enter Tryz.func42,Tryz.ntmps42
 go_wp2
 go_loopw [15] (fun i wr => ∃ k:Nat,k ≤ len ∧ i = .int .i64 k ∧ Hid (Below w.heap.size w wr) ∧ Hid (CReached h wr w.heap.size w.heap.size (w.heap.size + 1) len k)) (fun i _ => len - (intOf i).toNat)
 case atStart =>
  refine ⟨0,by omega,rfl,((Below.refl _ _).alloc (Nat.le_refl _) _).alloc (by simp) _,CReached.start h w len _ rfl ?_⟩
  intro i hi
  exact zero25c i hi
 case round =>
  obtain ⟨k,hk,rfl,hbel,hR⟩ := hrel
  clear hmk
  by_cases hlt:k < len
  ·obtain ⟨b,off,rfl,hpb,hcs⟩ := (G.out.later hbel.out).2 (by omega)
   obtain ⟨c0,c1,c2⟩ := hcs k hlt
   have hw5 := W_lt HG.out hlt
   have hwc := W_cast HG.out hlt
   rw [← hwc] at c0
   obtain ⟨q1,eq1⟩:∃ q,q = (ev h k).2.1 := ⟨_,rfl⟩
   obtain ⟨q2,eq2⟩:∃ q,q = (ev h k).2.2 := ⟨_,rfl⟩
   obtain ⟨m,em⟩:∃ m,m = W h k := ⟨_,rfl⟩
   rw [← eq1] at c1
   rw [← eq2] at c2
   rw [← em] at c0 hw5
   have EQ:Hid (m = W h k ∧ q1 = (ev h k).2.1 ∧ q2 = (ev h k).2.2) := And.intro em (And.intro eq1 eq2)
   have hk0:(0:Int) ≤ (k:Int) := by omega
   have hkl:(k:Int) < (len:Int) := by omega
   have hm0:(0:Int) ≤ (m:Int) := by omega
   have hm5:(m:Int) < 5 := by omega
   clear hcs hpb hwc em eq1 eq2
   have hFw:w.heap.size ≤ wr.heap.size + 1 := Nat.le_succ_of_le hbel.out.size
   have hAne:Hid (wr.heap.size ≠ w.heap.size) := by
    obtain ⟨fa,fl,ra,rl,hAL,hA,hL,ha,hl⟩ := hR.out
    exact Ne.symm (Nat.ne_of_lt ra.lt)
   have hbd := fun i (_:i < 5) => last_bd HG.out hlt i
   rw [← EQ.out.1] at hbd
   obtain ⟨l0,el0⟩:∃ x,x = (last h k m).getD 0 0 := ⟨_,rfl⟩
   obtain ⟨l1,el1⟩:∃ x,x = (last h k m).getD 1 0 := ⟨_,rfl⟩
   obtain ⟨l2,el2⟩:∃ x,x = (last h k m).getD 2 0 := ⟨_,rfl⟩
   obtain ⟨l3,el3⟩:∃ x,x = (last h k m).getD 3 0 := ⟨_,rfl⟩
   obtain ⟨l4,el4⟩:∃ x,x = (last h k m).getD 4 0 := ⟨_,rfl⟩
   have b0 := hbd 0 (by omega)
   have b1 := hbd 1 (by omega)
   have b2 := hbd 2 (by omega)
   have b3 := hbd 3 (by omega)
   have b4 := hbd 4 (by omega)
   rw [← el0] at b0
   rw [← el1] at b1
   rw [← el2] at b2
   rw [← el3] at b3
   rw [← el4] at b4
   have EL:Hid (last h k m = [l0,l1,l2,l3,l4]) := by rw [el0,el1,el2,el3,el4]; exact (list5 (last_len h k m)).symm
   have LB:Hid ((0 ≤ l0 ∧ l0 ≤ 60) ∧ (0 ≤ l1 ∧ l1 ≤ 60) ∧ (0 ≤ l2 ∧ l2 ≤ 60) ∧ (0 ≤ l3 ∧ l3 ≤ 60) ∧ (0 ≤ l4 ∧ l4 ≤ 60)) := by
    show _ ∧ _
    omega
   clear el0 el1 el2 el3 el4 hbd b0 b1 b2 b3 b4
   go_upto_if 22 with fail
   go_cut [15] from 15 to 49 (fun i wc => i = .int .i64 k ∧ ∃ s0 s1 s2 s3 s4:Int,Hid ((0 ≤ s0 ∧ s0 ≤ 60) ∧ (0 ≤ s1 ∧ s1 ≤ 60) ∧ (0 ≤ s2 ∧ s2 ≤ 60) ∧ (0 ≤ s3 ∧ s3 ≤ 60) ∧ (0 ≤ s4 ∧ s4 ≤ 60)) ∧ Hid (row h k = upd (joinR [l0,l1,l2,l3,l4] [s0,s1,s2,s3,s4]) m) ∧ Hid (Below w.heap.size w wc) ∧ Hid (Below wr.heap.size wr wc) ∧ Hid (Bx wc wr.heap.size m q1 q2) ∧ Hid (CFr wc (wr.heap.size + 1) [s0,s1,s2,s3,s4]))
   case first =>
    by_cases h3:q1 = 3
    ·subst h3
     have h3:(ev h k).2.1 = 3 := EQ.out.2.1.symm
     have hs := sayAt_lt HG.out hlt h3
     have hx := idx_say2 HG.out hlt h3
     rw [← EQ.out.2.2] at hs hx
     obtain ⟨s,es⟩:∃ s,s = sayAt h q2 := ⟨_,rfl⟩
     rw [← es] at hs hx
     have HX:Hid (idxI (says q2) h = (s:Int)) := hx
     have hsk:s < k := hs.1
     have hsl:(s:Int) < (len:Int) := by omega
     have hs0:(0:Int) ≤ (s:Int) := by omega
     have hrow := row_hear HG.out hlt h3
     rw [← EQ.out.2.2,← EQ.out.1,← es,EL.out] at hrow
     have hsb := fun i => row_bd HG.out (show s < len by omega) i
     obtain ⟨s0,e0⟩:∃ x,x = (row h s).getD 0 0 := ⟨_,rfl⟩
     obtain ⟨s1,e1⟩:∃ x,x = (row h s).getD 1 0 := ⟨_,rfl⟩
     obtain ⟨s2,e2⟩:∃ x,x = (row h s).getD 2 0 := ⟨_,rfl⟩
     obtain ⟨s3,e3⟩:∃ x,x = (row h s).getD 3 0 := ⟨_,rfl⟩
     obtain ⟨s4,e4⟩:∃ x,x = (row h s).getD 4 0 := ⟨_,rfl⟩
     have t0 := hsb 0
     have t1 := hsb 1
     have t2 := hsb 2
     have t3 := hsb 3
     have t4 := hsb 4
     have HS:Hid (c9fact wr w.heap.size s s0 s1 s2 s3 s4 ∧ w.heap.size < wr.heap.size) := by
      obtain ⟨fa,fl,ra,rl,hAL,hA,hL,ha,hl⟩ := hR.out
      refine ⟨⟨?_,?_,?_,?_,?_⟩,ra.lt⟩
      ·rw [e0]; exact (ra.cell (i := s * 5) (by omega)).trans (congrArg some (ha s hsk 0 (by omega)))
      ·rw [e1]; exact (ra.cell (i := s * 5 + 1) (by omega)).trans (congrArg some (ha s hsk 1 (by omega)))
      ·rw [e2]; exact (ra.cell (i := s * 5 + 2) (by omega)).trans (congrArg some (ha s hsk 2 (by omega)))
      ·rw [e3]; exact (ra.cell (i := s * 5 + 3) (by omega)).trans (congrArg some (ha s hsk 3 (by omega)))
      ·rw [e4]; exact (ra.cell (i := s * 5 + 4) (by omega)).trans (congrArg some (ha s hsk 4 (by omega)))
     have hrs:row h s = [s0,s1,s2,s3,s4] := by rw [e0,e1,e2,e3,e4]; exact (list5 (row_len h s)).symm
     rw [hrs] at hrow
     rw [← e0] at t0
     rw [← e1] at t1
     rw [← e2] at t2
     rw [← e3] at t3
     rw [← e4] at t4
     have ROW:Hid (row h k = upd (joinR [l0,l1,l2,l3,l4] [s0,s1,s2,s3,s4]) m) := hrow
     have SB:Hid ((0 ≤ s0 ∧ s0 ≤ 60) ∧ (0 ≤ s1 ∧ s1 ≤ 60) ∧ (0 ≤ s2 ∧ s2 ≤ 60) ∧ (0 ≤ s3 ∧ s3 ≤ 60) ∧ (0 ≤ s4 ∧ s4 ≤ 60)) := by
      show _ ∧ _
      omega
     clear hrow hrs e0 e1 e2 e3 e4 hsb hs hx h3 es t0 t1 t2 t3 t4
     have B8:Hid (Below wr.heap.size wr ((wr.alloc (.cells #[.int .i64 (m:Int),.int .i64 3,.int .i64 q2] 40)).alloc (.cells #[.int .i64 0,.int .i64 0,.int .i64 0,.int .i64 0,.int .i64 0] 98))) := ((Below.refl _ _).alloc (Nat.le_refl _) _).alloc (by simp) _
     have X8:Hid (Bx ((wr.alloc (.cells #[.int .i64 (m:Int),.int .i64 3,.int .i64 q2] 40)).alloc (.cells #[.int .i64 0,.int .i64 0,.int .i64 0,.int .i64 0,.int .i64 0] 98)) wr.heap.size m 3 q2) := (Bx.lit _ _ _ _ _).later ((Below.refl _ _).alloc (Nat.le_refl _) _)
     have F8:Hid (CFr ((wr.alloc (.cells #[.int .i64 (m:Int),.int .i64 3,.int .i64 q2] 40)).alloc (.cells #[.int .i64 0,.int .i64 0,.int .i64 0,.int .i64 0,.int .i64 0] 98)) (wr.heap.size + 1) [0,0,0,0,0]) := by
      have F := CFr.lit (wr.alloc (.cells #[.int .i64 (m:Int),.int .i64 3,.int .i64 q2] 40)) 0 0 0 0 0
      simp only [World.size_alloc] at F
      exact F
     go_wp2_with fail
     ·clear c0 c1 c2
      refine (saidAt1 (some ⟨b,off,none⟩) len cap h q2 _ HM.out ((G.out.later hbel.out).later B8.out)).mono ?_
      rintro e w9 ⟨rfl,hb9⟩
      rw [HX.out]
      have H9:Hid (Below wr.heap.size wr w9) := below_up rfl B8.out hb9
      have X9:Hid (Bx w9 wr.heap.size m 3 q2) := X8.out.later hb9
      have F9:Hid (CFr w9 (wr.heap.size + 1) [0,0,0,0,0]) := F8.out.later hb9
      obtain ⟨g0,g1,g2,g3,g4⟩ := HS.out.1.later HS.out.2 H9.out
      obtain ⟨f0,f1,f2,f3,f4⟩ := F9.out.cells
      have z9 := fun i => World.rowIs.frozen F9.out i
      clear hb9
      go_wp2
      go_meet
      case rel =>
       refine ⟨rfl,s0,s1,s2,s3,s4,SB.out,ROW.out,?_,?_,?_,?_⟩
       ·exact below_five (below_up rfl hbel.out H9.out) hFw
       ·exact below_five H9.out (Nat.le_succ _)
       ·exact bx_five X9.out (Nat.ne_of_lt (Nat.lt_succ_self _))
       ·exact (((((F9.out.set rfl 0 (by omega) _).set rfl 1 (by omega) _).set rfl 2 (by omega) _).set rfl 3 (by omega) _).set rfl 4 (by omega) _)
    ·have h3':(q1 == 3) = false := by simp [h3]
     have hrow := row_plain (h := h) (n := k) (by rw [← EQ.out.2.1]; exact h3)
     rw [← EQ.out.1,EL.out] at hrow
     have ROW:Hid (row h k = upd (joinR [l0,l1,l2,l3,l4] [0,0,0,0,0]) m) := by
      obtain ⟨y0,y1,y2,y3,y4⟩ := LB.out
      show _ = _
      rw [hrow,join_zero y0.1 y1.1 y2.1 y3.1 y4.1]
     clear hrow
     go_wp2
     go_meet
     case rel =>
      refine ⟨rfl,0,0,0,0,0,⟨by omega,by omega,by omega,by omega,by omega⟩,ROW.out,?_,?_,?_,?_⟩
      ·exact ((hbel.out.alloc hbel.out.size _).alloc (by simp; have := hbel.out.size; omega) _)
      ·exact ((Below.refl _ _).alloc (Nat.le_refl _) _).alloc (by simp) _
      ·exact (Bx.lit _ _ _ _ _).later ((Below.refl _ _).alloc (Nat.le_refl _) _)
      ·have F := CFr.lit (wr.alloc (.cells #[.int .i64 (m:Int),.int .i64 q1,.int .i64 q2] 40)) 0 0 0 0 0
       simp only [World.size_alloc] at F
       exact F
   case rest =>
    obtain ⟨rfl,s0,s1,s2,s3,s4,SB,hrow,hB,hBr,hX,hF⟩ := hcut
    clear c0 c1 c2
    obtain ⟨hx,x0,x1,x2⟩ := hX.out
    obtain ⟨f0,f1,f2,f3,f4⟩ := hF.out.cells
    have hFr:wr.heap.size + 1 < wc.heap.size := World.rowIs.lt hF.out
    have RC:Hid (CReached h wc w.heap.size w.heap.size (w.heap.size + 1) len k) := hR.out.later hBr.out
    have dd:c9fact wc (w.heap.size + 1) m l0 l1 l2 l3 l4 := by
     obtain ⟨fa,fl,ra,rl,hAL,hA,hL,ha,hl⟩ := RC.out
     have hl := hl m hw5
     rw [EL.out] at hl
     have q := fun i (hi:i < 5) => (rl.cell (i := m * 5 + i) (by omega)).trans (congrArg some (hl i hi))
     exact ⟨q 0 (by omega),q 1 (by omega),q 2 (by omega),q 3 (by omega),q 4 (by omega)⟩
    obtain ⟨d0,d1,d2,d3,d4⟩ := dd
    have hk5:k * 5 + 4 < len * 5 := by omega
    have uu:∃ y0 y1 y2 y3 y4,wc.cell? ⟨w.heap.size,k * 5,none⟩ = some y0 ∧ wc.cell? ⟨w.heap.size,k * 5 + 1,none⟩ = some y1 ∧ wc.cell? ⟨w.heap.size,k * 5 + 2,none⟩ = some y2 ∧ wc.cell? ⟨w.heap.size,k * 5 + 3,none⟩ = some y3 ∧ wc.cell? ⟨w.heap.size,k * 5 + 4,none⟩ = some y4 ∧ ∀ i,wc.frozen? ⟨w.heap.size,i,none⟩ = false := by
     obtain ⟨fa,fl,ra,rl,hAL,hA,hL,ha,hl⟩ := RC.out
     exact ⟨_,_,_,_,_,ra.cell (i := k * 5) (by omega),ra.cell (i := k * 5 + 1) (by omega),ra.cell (i := k * 5 + 2) (by omega),ra.cell (i := k * 5 + 3) (by omega),ra.cell (i := k * 5 + 4) (by omega),ra.frozen⟩
    obtain ⟨y0,y1,y2,y3,y4,u0,u1,u2,u3,u4,z0⟩ := uu
    have UU:Hid (wc.cell? ⟨w.heap.size,k * 5,none⟩ = some y0 ∧ wc.cell? ⟨w.heap.size,k * 5 + 1,none⟩ = some y1 ∧ wc.cell? ⟨w.heap.size,k * 5 + 2,none⟩ = some y2 ∧ wc.cell? ⟨w.heap.size,k * 5 + 3,none⟩ = some y3 ∧ wc.cell? ⟨w.heap.size,k * 5 + 4,none⟩ = some y4 ∧ (∀ i,wc.frozen? ⟨w.heap.size,i,none⟩ = false) ∧ w.heap.size < wc.heap.size) := ⟨u0,u1,u2,u3,u4,z0,block_lt_of_cell u0⟩
    go_wp2_with fail
    have CC:Hid (Bx wc wr.heap.size m q1 q2 ∧ c9fact wc (w.heap.size + 1) m l0 l1 l2 l3 l4 ∧ w.heap.size + 1 < wc.heap.size ∧ CFr wc (wr.heap.size + 1) [s0,s1,s2,s3,s4]) := ⟨hX.out,⟨d0,d1,d2,d3,d4⟩,block_lt_of_cell d0,hF.out⟩
    have hne1:wr.heap.size ≠ w.heap.size := hAne.out
    have hne2:wr.heap.size + 1 ≠ w.heap.size := by have := hbel.out.size; omega
    have hne3:w.heap.size ≠ wr.heap.size := Ne.symm hne1
    have hne4:w.heap.size ≠ wr.heap.size + 1 := Ne.symm hne2
    go_region_held3 (fun w' => w'.cell? ⟨wr.heap.size,0,none⟩ = some (.int .i64 (m:Int)) ∧ w'.cell? ⟨w.heap.size + 1,m * 5,none⟩ = some (.int .i64 l0) ∧ w'.cell? ⟨w.heap.size + 1,m * 5 + 1,none⟩ = some (.int .i64 l1) ∧ w'.cell? ⟨w.heap.size + 1,m * 5 + 2,none⟩ = some (.int .i64 l2) ∧ w'.cell? ⟨w.heap.size + 1,m * 5 + 3,none⟩ = some (.int .i64 l3) ∧ w'.cell? ⟨w.heap.size + 1,m * 5 + 4,none⟩ = some (.int .i64 l4)
      ∧ w'.cell? ⟨wr.heap.size + 1,0,none⟩ = some (.int .i64 s0) ∧ w'.cell? ⟨wr.heap.size + 1,1,none⟩ = some (.int .i64 s1) ∧ w'.cell? ⟨wr.heap.size + 1,2,none⟩ = some (.int .i64 s2) ∧ w'.cell? ⟨wr.heap.size + 1,3,none⟩ = some (.int .i64 s3) ∧ w'.cell? ⟨wr.heap.size + 1,4,none⟩ = some (.int .i64 s4)) (go_keep)
     (first | (go_at_call 43; refine (nextVector1 m hw5 l0 l1 l2 l3 l4 s0 s1 s2 s3 s4 _ LB.out SB.out).mono ?_; rintro e w91 ⟨⟨r0,r1,r2,r3,r4,rfl,hr⟩,hb91⟩; have HR:Hid ([r0,r1,r2,r3,r4] = row h k) := hr.trans hrow.out.symm; have H91:Hid (Below wc.heap.size wc w91) := below_up rfl (Below.refl wc.heap.size wc).drew hb91; have R91:Hid (CReached h w91 w.heap.size w.heap.size (w.heap.size + 1) len k) := RC.out.later H91.out; have X91:Hid (Bx w91 wr.heap.size m q1 q2) := hX.out.later H91.out; have n0 := (H91.out.cell (p := ⟨w.heap.size,k * 5,none⟩) UU.out.2.2.2.2.2.2).trans UU.out.1; have n1 := (H91.out.cell (p := ⟨w.heap.size,k * 5 + 1,none⟩) UU.out.2.2.2.2.2.2).trans UU.out.2.1; have n2 := (H91.out.cell (p := ⟨w.heap.size,k * 5 + 2,none⟩) UU.out.2.2.2.2.2.2).trans UU.out.2.2.1; have n3 := (H91.out.cell (p := ⟨w.heap.size,k * 5 + 3,none⟩) UU.out.2.2.2.2.2.2).trans UU.out.2.2.2.1; have n4 := (H91.out.cell (p := ⟨w.heap.size,k * 5 + 4,none⟩) UU.out.2.2.2.2.2.2).trans UU.out.2.2.2.2.1; have nz := fun i => (H91.out.frozen (p := ⟨w.heap.size,i,none⟩) UU.out.2.2.2.2.2.2).trans (UU.out.2.2.2.2.2.1 i); obtain ⟨-,j0,-,-⟩ := CC.out.1.later H91.out; obtain ⟨j1,j2,j3,j4,j5⟩ := CC.out.2.1.later CC.out.2.2.1 H91.out; obtain ⟨j6,j7,j8,j9,j10⟩ := (CC.out.2.2.2.later H91.out).cells; clear hr hb91))
    all_goals
     go_wp2_with fail
     refine wp_gen (fun w10 => Hid (Below w.heap.size w w10) ∧ Hid (Bx w10 wr.heap.size m q1 q2) ∧ Hid (CMid h w10 w.heap.size w.heap.size (w.heap.size + 1) len k r0 r1 r2 r3 r4)) ?_ ?_
     ·refine ⟨?_,?_,?_⟩
      ·exact below_five (below_up rfl hB.out H91.out) (Nat.le_refl _)
      ·exact bx_five X91.out hAne.out
      ·exact R91.out.mid _ _ _ _ _
     ·rintro w10 ⟨B10,X10,M10⟩
      clear x0 x1 x2 hx d0 d1 d2 d3 d4 u0 u1 u2 u3 u4 z0 f0 f1 f2 f3 f4 n0 n1 n2 n3 n4 nz j0 j1 j2 j3 j4 j5 j6 j7 j8 j9 j10
      obtain ⟨hx,x0,x1,x2⟩ := X10.out
      have uu:c9fact w10 w.heap.size k r0 r1 r2 r3 r4 ∧ ∃ y0 y1 y2 y3 y4,w10.cell? ⟨w.heap.size + 1,m * 5,none⟩ = some y0 ∧ w10.cell? ⟨w.heap.size + 1,m * 5 + 1,none⟩ = some y1 ∧ w10.cell? ⟨w.heap.size + 1,m * 5 + 2,none⟩ = some y2 ∧ w10.cell? ⟨w.heap.size + 1,m * 5 + 3,none⟩ = some y3 ∧ w10.cell? ⟨w.heap.size + 1,m * 5 + 4,none⟩ = some y4 ∧ ∀ i,w10.frozen? ⟨w.heap.size + 1,i,none⟩ = false := by
       obtain ⟨fa,fl,ra,rl,hAL,hA,hL,ha,hl,k0,k1,k2,k3,k4⟩ := M10.out
       exact ⟨⟨(ra.cell (i := k * 5) (by omega)).trans (congrArg some k0),(ra.cell (i := k * 5 + 1) (by omega)).trans (congrArg some k1),(ra.cell (i := k * 5 + 2) (by omega)).trans (congrArg some k2),(ra.cell (i := k * 5 + 3) (by omega)).trans (congrArg some k3),(ra.cell (i := k * 5 + 4) (by omega)).trans (congrArg some k4)⟩,
        _,_,_,_,_,rl.cell (i := m * 5) (by omega),rl.cell (i := m * 5 + 1) (by omega),rl.cell (i := m * 5 + 2) (by omega),rl.cell (i := m * 5 + 3) (by omega),rl.cell (i := m * 5 + 4) (by omega),rl.frozen⟩
      obtain ⟨⟨g0,g1,g2,g3,g4⟩,v0,v1,v2,v3,v4,p0,p1,p2,p3,p4,z1⟩ := uu
      go_region
      go_wp2
      go_roundw
      case rel =>
       exact ⟨k + 1,by omega,by go_num,(below_five (A := w.heap.size + 1) B10.out (Nat.le_succ _)).drew,(M10.out.step EQ.out.1 HR.out).drew⟩
      case measure => simp [intOf]; omega
  ·have hkl:k = len := by omega
   subst hkl
   go_wp2
   go_ret
   exact ⟨_,rfl,hbel.out,_,hR.out⟩
end Go.Proofs.YtdmniblonikjlakGreatDoor.His


namespace Go.Proofs.YtdmniblonikjlakGreatDoor.His
open Go.RowKit
open Vec
theorem own_vw {w:World} {base n:Nat} {t:TypeId} {v:Value} {xs:List Int} (h:w.ownsRow base t 1 v n (xs.map (Value.int .i64))):∃ a cap,v = .slice a n cap ∧ Vw w a n xs := by
 obtain ⟨h1,h2⟩ := h
 have hl:xs.length = n := by simpa using h1
 rcases h2 with ⟨h2,rfl⟩ | ⟨g,cap,cur,hv,_,hh,_,_,hsz,ht⟩
 ·exact ⟨none,0,h2,hl,fun q => absurd q (by omega)⟩
 ·refine ⟨_,cap,hv,hl,fun _ => ⟨g,0,rfl,?_,fun k hk => ?_⟩⟩
  ·rcases Nat.lt_or_ge g w.heap.size with hlt | hge
   ·exact hlt
   ·rw [Array.getElem?_eq_none hge] at hh; cases hh
  ·rw [Nat.zero_add,World.cell?,hh]
   have:(cur.toList.take (n * 1))[k]? = (xs.map (Value.int .i64))[k]? := by rw [ht]
   rw [Nat.mul_one,List.getElem?_take_of_lt hk,List.getElem?_map] at this
   have hx:k < xs.length := by omega
   simp only [Option.isSome_none,Bool.false_eq_true,if_false]
   rw [← Array.getElem?_toList,this]
   simp [hx,List.getD]
theorem infoI:(Tryz.prog.info? 3).map (fun i => (i.zero,i.size,i.bytes)) = some (some (.int .i64 0),1,8) := by kernel_rfl
theorem info_int:∃ i,Tryz.prog.info? 3 = some i ∧ i.zero = some (.int .i64 0) ∧ i.size = 1 ∧ i.bytes = 8 := by
 obtain ⟨i,hi,hzz⟩ := Option.map_eq_some_iff.1 infoI
 simp only [Prod.mk.injEq] at hzz
 exact ⟨i,hi,hzz.1,hzz.2.1,hzz.2.2⟩
theorem new_int (w:World) (B:Nat) (hB:B = w.heap.size) (x:Int) (t:TypeId):∀ j u,[Value.int .i64 x][j]? = some u → (w.alloc (.cells #[.int .i64 x] t)).cell? ((⟨B,0,none⟩:Addr).add j) = some u := by
 subst hB
 intro j u hj
 rw [Addr.add_lit,Nat.zero_add]
 rcases j with _ | j
 ·simpa using hj
 ·simp at hj
theorem int_one (x:Int):∀ u ∈ [Value.int .i64 x],u.oneCell' = true := by
 intro u hu
 obtain rfl := List.mem_singleton.1 hu
 rfl
theorem own_base {w:World} {base:Nat} {t:TypeId} {s:Nat} {v:Value} {n:Nat} {xs:List Value} (o:w.ownsRow base t s v n xs):∀ k,v.ownBlock = some k → base ≤ k := by
 intro k hk
 rcases o.2 with ⟨h2,_⟩ | ⟨g',cap',cur,hv,hbg,_⟩
 ·rw [h2] at hk; cases hk
 ·rw [hv] at hk
  have:g' = k := by simpa [Value.ownBlock] using hk
  omega
theorem own_later {w w':World} {base:Nat} {t:TypeId} {s:Nat} {v:Value} {n:Nat} {xs:List Value} (o:w.ownsRow base t s v n xs) (hb:Below w.heap.size w w'):w'.ownsRow base t s v n xs := by
 obtain ⟨h1,h2⟩ := o
 refine ⟨h1,?_⟩
 rcases h2 with h2 | ⟨g',cap',cur,hv,hbg,hh,hc,hm,hsz,ht⟩
 ·exact .inl h2
 ·refine .inr ⟨g',cap',cur,hv,hbg,?_,hc,hm,hsz,ht⟩
  rw [hb.block g' ?_]
  ·exact hh
  ·rcases Nat.lt_or_ge g' w.heap.size with hlt | hge
   ·exact hlt
   ·rw [Array.getElem?_eq_none hge] at hh; cases hh
end Go.Proofs.YtdmniblonikjlakGreatDoor.His


namespace Go.Proofs.YtdmniblonikjlakGreatDoor.His
open Go.RowKit
open Vec
def Lw (w:World) (a:Option Addr) (n:Nat) (ls:List (List Int)):Prop :=
 ls.length = n ∧ (0 < n → ∃ b off,a = some ⟨b,off,none⟩ ∧ b < w.heap.size ∧ ∀ k,k < n → ∃ q c,w.cell? ⟨b,off + k,none⟩ = some (.slice q (ls.getD k []).length c) ∧ Vw w q (ls.getD k []).length (ls.getD k []))
theorem Lw.later {w w':World} {a:Option Addr} {n:Nat} {ls:List (List Int)} (g:Lw w a n ls) (hb:Below w.heap.size w w'):Lw w' a n ls := by
 refine ⟨g.1,fun hn => ?_⟩
 obtain ⟨b,off,e,hlt,hc⟩ := g.2 hn
 refine ⟨b,off,e,Nat.lt_of_lt_of_le hlt hb.size,fun k hk => ?_⟩
 obtain ⟨q,c,h1,h2⟩ := hc k hk
 exact ⟨q,c,(hb.cell (p := ⟨b,off + k,none⟩) hlt).trans h1,h2.later hb⟩
theorem five_cells {w:World} {a:Option Addr} {xs:List Int} (hv:Vw w a 5 xs):∃ b off,a = some ⟨b,off,none⟩ ∧ b < w.heap.size ∧ ∀ j u,(xs.map (Value.int .i64))[j]? = some u → w.cell? ((⟨b,off,none⟩:Addr).add j) = some u := by
 obtain ⟨b,off,rfl,hlt,hc⟩ := hv.2 (by omega)
 refine ⟨b,off,rfl,hlt,fun j u hu => ?_⟩
 rw [Addr.add_lit]
 rw [List.getElem?_map] at hu
 obtain ⟨x,hx,rfl⟩ := Option.map_eq_some_iff.1 hu
 have hj:j < 5 := by
  have := (List.getElem?_eq_some_iff.1 hx).1
  have := hv.1
  omega
 rw [hc j hj]
 simp [List.getD,hx]
theorem map_one (xs:List Int):∀ u ∈ xs.map (Value.int .i64),u.oneCell' = true := by
 intro u hu
 obtain ⟨x,_,rfl⟩ := List.mem_map.1 hu
 rfl
theorem own_none (w:World):(w.alloc (.cells #[] 3)).ownsRow w.heap.size 3 1 (.slice (some ⟨w.heap.size,0,none⟩) 0 0) 0 ([]:List Value) := by
 refine ⟨rfl,.inr ⟨w.heap.size,0,#[],rfl,Nat.le_refl _,?_,Nat.le_refl _,by unfold maxLen; omega,rfl,rfl⟩⟩
 show (w.heap.push _)[w.heap.size]? = _
 simp
set_option maxRecDepth 100000 in
set_option maxHeartbeats 1000000 in
theorem clone5 (a:Option Addr) (cap:Nat) (xs:List Int) (w:World) (hv:Vw w a 5 xs) :
  Calls Tryz.prog 44 #[.slice a 5 cap] w fun e w' => (∃ g c,e = .returned (.slice (some ⟨g,0,none⟩) 5 c) ∧ w.heap.size ≤ g ∧ Vw w' (some ⟨g,0,none⟩) 5 xs) ∧ Below w.heap.size w w' := by
 obtain ⟨b,off,rfl,hlt,hcs⟩ := five_cells hv
 have HL:Hid (xs.length = 5) := hv.1
 have HC:Hid (∀ j u,(xs.map (Value.int .i64))[j]? = some u → (w.alloc (.cells #[] 3)).cell? ((⟨b,off,none⟩:Addr).add j) = some u) := by
  intro j u hu
  have := hcs j u hu
  rw [Addr.add_lit] at this ⊢
  exact (((Below.refl w.heap.size w).alloc (Nat.le_refl _) _).cell (p := ⟨b,off + j,none⟩) hlt).trans this
 obtain ⟨ie,hi,hz0,hz1,hz2⟩ := info_int
 have HI:Hid (Tryz.prog.info? 3 = some ie ∧ ie.zero = some (.int .i64 0) ∧ ie.size = 1 ∧ ie.bytes = 8) := ⟨hi,hz0,hz1,hz2⟩
 have hnil := fun W:World => Lib.run_eql_slice_nil (P := Tryz.prog) W 30 3 (some ⟨b,off,none⟩) 5 cap 0 0 Tryz.underlying30
 clear hv hlt hcs hi hz0 hz1 hz2
 go_enter Tryz.func44,Tryz.ntmps44
 go_wp2_with (at_builtin; refine wpList_append_own _ rfl _ _ 30 rfl w.heap.size 3 ie (.int .i64 0) 1 8 Tryz.underlying30 HI.out.1 HI.out.2.1 HI.out.2.2.1 HI.out.2.2.2 rfl (by decide) _ 0 _ rfl (own_none w) ⟨b,off,none⟩ 5 cap (xs.map (Value.int .i64)) rfl (by rw [List.length_map]; exact HL.out) HC.out (map_one xs) (by unfold maxLen; omega) (by omega) (by simp) ?_; intro v' wn hown hgrow _; have HO:Hid _ := hown; have HGr:Hid _ := hgrow; clear hown hgrow)
 go_ret
 refine ⟨?_,((Below.refl w.heap.size w).alloc (Nat.le_refl _) _).grown HGr.out (by simp) (own_base (own_none w))⟩
 have o := HO.out
 rw [List.nil_append] at o
 obtain ⟨q,c,e,hq⟩ := own_vw o
 obtain ⟨g,off',rfl,_⟩ := hq.2 (by omega)
 rcases o.2 with ⟨e2,_⟩ | ⟨g',cap',cur,e2,hg,_⟩
 ·rw [e] at e2; cases e2
 ·rw [e] at e2
  cases e2
  subst e
  exact ⟨g,c,rfl,hg,hq⟩
def rows (h:List Ev) (n:Nat):List (List Int) := (List.range n).map (row h)
theorem rows_length (h:List Ev) (n:Nat):(rows h n).length = n := by simp [rows]
theorem rows_get (h:List Ev) {n k:Nat} (hk:k < n):(rows h n).getD k [] = row h k := by simp [rows,List.getD,hk]
def VApart (h:List Ev) (w:World) (B len k:Nat):Prop :=
 ∃ f,w.rowIs B 30 len f ∧ ∀ j,j < k → ∃ g o c,f j = .slice (some ⟨g,o,none⟩) 5 c ∧ g ≠ B ∧ Vw w (some ⟨g,o,none⟩) 5 (row h j)
theorem VApart.later {h:List Ev} {w w':World} {B len k:Nat} (g:VApart h w B len k) (hb:Below w.heap.size w w'):VApart h w' B len k := by
 obtain ⟨f,r,x⟩ := g
 refine ⟨f,rowIs_later r hb,fun j hj => ?_⟩
 obtain ⟨q,o,c,e,hne,v⟩ := x j hj
 exact ⟨q,o,c,e,hne,v.later hb⟩
theorem vw_setOther {w:World} {g o n:Nat} {xs:List Int} (hv:Vw w (some ⟨g,o,none⟩) n xs) {B i:Nat} (hne:g ≠ B) (v:Value):Vw (w.setCell ⟨B,i,none⟩ v) (some ⟨g,o,none⟩) n xs := by
 refine ⟨hv.1,fun hn => ?_⟩
 obtain ⟨b,off,e,hlt,hc⟩ := hv.2 hn
 cases e
 refine ⟨g,o,rfl,by simpa [World.setCell] using hlt,fun k hk => ?_⟩
 rw [World.cell?_setCell_other _ _ _ _ (fun e => hne (congrArg Addr.block e).symm)]
 exact hc k hk
theorem VApart.step {h:List Ev} {w:World} {B len k g o c:Nat} (x:VApart h w B len k) (hne:g ≠ B) (hv:Vw w (some ⟨g,o,none⟩) 5 (row h k)):VApart h (w.setCell ⟨B,k,none⟩ (.slice (some ⟨g,o,none⟩) 5 c)) B len (k + 1) := by
 obtain ⟨f,r,y⟩ := x
 refine ⟨_,r.set k _,fun j hj => ?_⟩
 rcases Nat.lt_or_ge j k with hjk | hjk
 ·obtain ⟨g',o',c',e,hn,v⟩ := y j hjk
  refine ⟨g',o',c',?_,hn,vw_setOther v hn _⟩
  show (if j = k then _ else _) = _
  rw [if_neg (by omega)]
  exact e
 ·obtain rfl:j = k := by omega
  exact ⟨g,o,c,if_pos rfl,hne,vw_setOther hv hne _⟩
theorem VApart.lw {h:List Ev} {w:World} {B len:Nat} (x:VApart h w B len len):Lw w (some ⟨B,0,none⟩) len (rows h len) := by
 obtain ⟨f,r,y⟩ := x
 refine ⟨rows_length h len,fun _ => ⟨B,0,rfl,r.lt,fun k hk => ?_⟩⟩
 obtain ⟨g,o,c,e,_,v⟩ := y k hk
 rw [rows_get h hk,row_len,Nat.zero_add]
 exact ⟨_,c,(r.cell hk).trans (congrArg some e),v⟩
theorem mkl_info:(Tryz.prog.info? 30).map (fun i => (i.zero,i.size,i.bytes)) = some (some (.slice none 0 0),1,24) := by kernel_rfl
theorem mk_lists (n:Nat) (hn:n ≤ 60) (w:World) :
  (Instr.makeSlice 22 (.int .i64 (n:Int)) (.int .i64 (n:Int))).run Tryz.prog w = .ok (.slice (some ⟨w.heap.size,0,none⟩) n n) (w.alloc (.cells (madeCells #[.slice none 0 0] n) 30)) := by
 obtain ⟨i,hi,hzz⟩ := Option.map_eq_some_iff.1 mkl_info
 simp only [Prod.mk.injEq] at hzz
 obtain ⟨hz,hs,hb⟩ := hzz
 have hr := run_make (P := Tryz.prog) w 22 30 i _ (by kernel_rfl) hi hz .i64 .i64 n n (by omega) (Int.le_refl _) (by rw [hb]; omega) (by omega)
 simp only [Int.toNat_natCast,hs,Nat.mul_one] at hr
 exact hr
theorem CReached.cells {h:List Ev} {w:World} {base A L len:Nat} (g:CReached h w base A L len len):A < w.heap.size ∧ ∀ j,j < len → c9fact w A j ((row h j).getD 0 0) ((row h j).getD 1 0) ((row h j).getD 2 0) ((row h j).getD 3 0) ((row h j).getD 4 0) := by
 obtain ⟨fa,fl,ra,rl,_,_,_,ha,_⟩ := g
 refine ⟨ra.lt,fun j hj => ?_⟩
 have q := fun i (hi:i < 5) => (ra.cell (i := j * 5 + i) (by omega)).trans (congrArg some (ha j hj i hi))
 exact ⟨q 0 (by omega),q 1 (by omega),q 2 (by omega),q 3 (by omega),q 4 (by omega)⟩
set_option maxRecDepth 100000 in
set_option maxHeartbeats 2000000 in
theorem vectors_ok (a:Option Addr) (len cap:Nat) (h:List Ev) (w:World) (hlc:len ≤ cap) (hm:cap ≤ maxLen) (hv:Ew w a len h) (hc:chkC h = 0) :
  Calls Tryz.prog 17 #[.slice a len cap] w fun e w' => ∃ A,e = .returned (.tuple #[.slice (some ⟨A,0,none⟩) len len,.nilIface]) ∧ Below w.heap.size w w' ∧ Lw w' (some ⟨A,0,none⟩) len (rows h len) := by
 obtain ⟨h60,hg⟩ := chk_zero hc
 rw [hv.1] at h60 hg
 have hmk := mk_lists len h60
 go_enter Tryz.func17,Tryz.ntmps17
 go_wp2_with fail
 refine (check_any a len cap h w hlc hm hv).mono ?_
 rintro e w1 ⟨rfl,hb⟩
 rw [hc,errV_ok]
 have V1:Hid (Below w.heap.size w w1) := hb
 have B2:Hid (Below w1.heap.size w1 (w1.alloc (.cells (madeCells #[.slice none 0 0] len) 30))) := (Below.refl _ _).alloc (Nat.le_refl _) _
 have E1:Hid (Ew (w1.alloc (.cells (madeCells #[.slice none 0 0] len) 30)) a len h) := (hv.later hb).later B2.out
 have D1:Hid (VApart h (w1.alloc (.cells (madeCells #[.slice none 0 0] len) 30)) w1.heap.size len 0) := ⟨_,World.rowIs_made w1 _ len _,fun j hj => absurd hj (by omega)⟩
 have HG:Hid (Good h len) := hg
 clear hv hb hg
 go_wp2_with fail
 refine (alongV a len cap h _ h60 E1.out HG.out).mono ?_
 rintro e w2 ⟨A,rfl,hb,L,hR⟩
 have V2:Hid (Below w.heap.size w w2) := below_up rfl V1.out (below_up rfl B2.out hb)
 have D2:Hid (VApart h w2 w1.heap.size len 0) := D1.out.later hb
 have C2:Hid _ := hR.cells
 have HA1:Hid (A ≠ w1.heap.size) := by
  obtain ⟨fa,fl,ra,rl,hAL,hA,_⟩ := hR
  have:w1.heap.size + 1 ≤ A := by simpa using hA
  show A ≠ _
  omega
 clear hb hR hmk
 go_wp2
 go_loopw [23] (fun i wr => ∃ k:Nat,k ≤ len ∧ i = .int .i64 k ∧ Hid (Below w.heap.size w wr) ∧ Hid (A < wr.heap.size ∧ ∀ j,j < len → c9fact wr A j ((row h j).getD 0 0) ((row h j).getD 1 0) ((row h j).getD 2 0) ((row h j).getD 3 0) ((row h j).getD 4 0)) ∧ Hid (VApart h wr w1.heap.size len k)) (fun i _ => len - (intOf i).toNat)
 case atStart => exact ⟨0,by omega,rfl,V2.out,C2.out,D2.out⟩
 case round =>
  obtain ⟨k,hk,rfl,hbel,hC,hD⟩ := hrel
  by_cases hlt:k < len
  ·obtain ⟨g0,g1,g2,g3,g4⟩ := hC.out.2 k hlt
   obtain ⟨r0,e0⟩:∃ x,x = (row h k).getD 0 0 := ⟨_,rfl⟩
   obtain ⟨r1,e1⟩:∃ x,x = (row h k).getD 1 0 := ⟨_,rfl⟩
   obtain ⟨r2,e2⟩:∃ x,x = (row h k).getD 2 0 := ⟨_,rfl⟩
   obtain ⟨r3,e3⟩:∃ x,x = (row h k).getD 3 0 := ⟨_,rfl⟩
   obtain ⟨r4,e4⟩:∃ x,x = (row h k).getD 4 0 := ⟨_,rfl⟩
   have hrs:Hid (row h k = [r0,r1,r2,r3,r4]) := by show _ = _; rw [e0,e1,e2,e3,e4]; exact (list5 (row_len h k)).symm
   rw [← e0] at g0
   rw [← e1] at g1
   rw [← e2] at g2
   rw [← e3] at g3
   rw [← e4] at g4
   clear e0 e1 e2 e3 e4
   have hk0:(0:Int) ≤ (k:Int) := by omega
   have hkl:(k:Int) < (len:Int) := by omega
   have B3:Hid (Below wr.heap.size wr (wr.alloc (.cells #[.int .i64 r0,.int .i64 r1,.int .i64 r2,.int .i64 r3,.int .i64 r4] 98))) := (Below.refl _ _).alloc (Nat.le_refl _) _
   go_wp2_with fail
   refine (clone5 _ 5 [r0,r1,r2,r3,r4] _ (Vw.lit wr r0 r1 r2 r3 r4 _)).mono ?_
   rintro e w3 ⟨⟨g,c,rfl,hge,hq⟩,hb⟩
   have H3:Hid (Below wr.heap.size wr w3) := below_up rfl B3.out hb
   have Q3:Hid (Vw w3 (some ⟨g,0,none⟩) 5 (row h k)) := by show Vw _ _ _ _; rw [hrs.out]; exact hq
   have D3:Hid (VApart h w3 w1.heap.size len k) := hD.out.later H3.out
   have hB1:w1.heap.size < wr.heap.size := by
    obtain ⟨f,r,_⟩ := hD.out
    exact r.lt
   have hA1:Hid (A ≠ w1.heap.size) := HA1
   have hgB:Hid (g ≠ w1.heap.size) := by
    have:wr.heap.size + 1 ≤ g := by simpa using hge
    show g ≠ _
    omega
   have hu:∃ y,w3.cell? ⟨w1.heap.size,k,none⟩ = some y ∧ w3.frozen? ⟨w1.heap.size,k,none⟩ = false := by
    obtain ⟨f,r,_⟩ := D3.out
    exact ⟨_,r.cell hlt,r.frozen k⟩
   obtain ⟨y,u0,z0⟩ := hu
   have C3:Hid (A < w3.heap.size ∧ ∀ j,j < len → c9fact w3 A j ((row h j).getD 0 0) ((row h j).getD 1 0) ((row h j).getD 2 0) ((row h j).getD 3 0) ((row h j).getD 4 0)) := ⟨Nat.lt_of_lt_of_le hC.out.1 H3.out.size,fun j hj => (hC.out.2 j hj).later hC.out.1 H3.out⟩
   clear hge hq hb g0 g1 g2 g3 g4
   go_wp2
   go_roundw
   case rel =>
    refine ⟨k + 1,by omega,by go_num,(below_up rfl hbel.out H3.out).setCell (p := ⟨_,_,none⟩) V1.out.size _,⟨?_,fun j hj => ?_⟩,D3.out.step hgB.out Q3.out⟩
    ·simpa [World.setCell] using C3.out.1
    ·have key:∀ i,(w3.setCell ⟨w1.heap.size,k,none⟩ (.slice (some ⟨g,0,none⟩) 5 c)).cell? ⟨A,i,none⟩ = w3.cell? ⟨A,i,none⟩ := fun i => World.cell?_setCell_other _ _ _ _ (fun e => hA1.out (congrArg Addr.block e).symm)
     obtain ⟨g0,g1,g2,g3,g4⟩ := C3.out.2 j hj
     exact ⟨(key _).trans g0,(key _).trans g1,(key _).trans g2,(key _).trans g3,(key _).trans g4⟩
   case measure => simp [intOf]; omega
  ·have hkl:k = len := by omega
   subst hkl
   go_wp2
   go_ret2
   exact ⟨_,rfl,hbel.out,hD.out.lw⟩
set_option maxRecDepth 100000 in
theorem vectors_no (a:Option Addr) (len cap:Nat) (h:List Ev) (w:World) (hlc:len ≤ cap) (hm:cap ≤ maxLen) (hv:Ew w a len h) (hc:chkC h ≠ 0) :
  Calls Tryz.prog 17 #[.slice a len cap] w fun e w' => e = .returned (.tuple #[.slice none 0 0,.iface 70 (.int .i64 (chkC h))]) ∧ Below w.heap.size w w' := by
 go_enter Tryz.func17,Tryz.ntmps17
 go_wp2_with fail
 refine (check_any a len cap h w hlc hm hv).mono ?_
 rintro e w1 ⟨rfl,hb⟩
 rw [errV_no hc]
 have V1:Hid (Below w.heap.size w w1) := hb
 clear hv hb hc
 go_wp2
 go_ret2
 exact ⟨rfl,V1.out⟩
end Go.Proofs.YtdmniblonikjlakGreatDoor.His
