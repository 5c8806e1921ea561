/-
  Texts put together: RefB, RefC.
-/
import Derived.Test.YtdmniblonikjlakGreatDoorPsM
import Derived.Test.YtdmniblonikjlakGreatDoorPrH
import Derived.Deep.WholeRow
import Derived.Deep.QuietTactic
import Derived.BigQuiet


namespace Go.Proofs.YtdmniblonikjlakGreatDoor.His
open Go.RowKit
def Sq (w:World) (B:Nat) (f:Nat → Nat → Bool):Prop := w.rowIs B 196 3600 (fun x => .bool (f (x / 60) (x % 60)))
theorem Sq.cell {w:World} {B:Nat} {f:Nat → Nat → Bool} (h:Sq w B f) {i k:Nat} (hi:i < 60) (hk:k < 60):w.cell? ⟨B,i * 60 + k,none⟩ = some (.bool (f i k)) := by
 have := World.rowIs.cell h (i := i * 60 + k) (by omega)
 rwa [show (i * 60 + k) / 60 = i by omega,show (i * 60 + k) % 60 = k by omega] at this
theorem Sq.set {w:World} {B:Nat} {f g:Nat → Nat → Bool} (h:Sq w B f) {i k:Nat} (hk:k < 60) (hg:∀ x y,x < 60 → y < 60 → g x y = if x = i ∧ y = k then true else f x y):Sq (w.setCell ⟨B,i * 60 + k,none⟩ (.bool true)) B g := by
 refine (World.rowIs.set h _ _).congr fun x hx => ?_
 rw [hg _ _ (by omega) (by omega)]
 by_cases e:x = i * 60 + k
 ·subst e
  rw [if_pos rfl,if_pos ⟨by omega,by omega⟩]
 ·rw [if_neg e,if_neg (by omega)]
theorem Sq.congr {w:World} {B:Nat} {f g:Nat → Nat → Bool} (h:Sq w B f) (hg:∀ x y,x < 60 → y < 60 → f x y = g x y):Sq w B g :=
 World.rowIs.congr h fun x hx => by rw [hg _ _ (by omega) (by omega)]
theorem Sq.frozen {w:World} {B:Nat} {f:Nat → Nat → Bool} (h:Sq w B f) (i:Nat):w.frozen? ⟨B,i,none⟩ = false := World.rowIs.frozen h i
theorem Sq.lt {w:World} {B:Nat} {f:Nat → Nat → Bool} (h:Sq w B f):B < w.heap.size := World.rowIs.lt h
theorem Sq.later {w w':World} {B:Nat} {f:Nat → Nat → Bool} (h:Sq w B f) (hb:Below w.heap.size w w'):Sq w' B f := rowIs_later h hb
def sq1 (h:List Ev) (n i k:Nat) (x y:Nat):Bool := edge h x y && decide (y < n) && (decide (x < i) || (decide (x = i) && decide (y < k)))
def sq2 (h:List Ev) (n m i k:Nat) (x y:Nat):Bool := wa h n m x y || ((decide (x < i) || (decide (x = i) && decide (y < k))) && (wa h n m x m && wa h n m m y))
theorem sq1_start (h:List Ev) (n:Nat) (x y:Nat):sq1 h n 0 0 x y = false := by simp [sq1]
theorem sq1_row (h:List Ev) (n i:Nat) (x y:Nat):sq1 h n i (i + 1) x y = sq1 h n i 0 x y := by
 unfold sq1
 by_cases e:x = i
 ·subst e
  by_cases hy:y < x + 1
  ·have:edge h x y = false := by
    unfold edge
    rw [decide_eq_false (by omega)]
    rfl
   simp [this]
  ·simp [hy]
 ·simp [e]
theorem sq1_next (h:List Ev) (n i:Nat) (x y:Nat):sq1 h n i n x y = sq1 h n (i + 1) 0 x y := by
 rw [Bool.eq_iff_iff]
 simp only [sq1,Bool.and_eq_true,Bool.or_eq_true,decide_eq_true_eq]
 constructor <;> (rintro ⟨⟨q,r⟩,t⟩; exact ⟨⟨q,r⟩,by omega⟩)
theorem sq1_end (h:List Ev) (n:Nat) (x y:Nat):sq1 h n n 0 x y = wa h n 0 x y := by
 show _ = (edge h x y && decide (y < n))
 rw [Bool.eq_iff_iff]
 simp only [sq1,Bool.and_eq_true,Bool.or_eq_true,decide_eq_true_eq]
 constructor
 ·rintro ⟨q,_⟩
  exact q
 ·intro q
  refine ⟨q,.inl ?_⟩
  have := q.1
  simp only [edge,Bool.and_eq_true,decide_eq_true_eq] at this
  omega
theorem sq1_hit {h:List Ev} {n i k:Nat} (hk:k < n) (he:edge h i k = true) (x y:Nat):sq1 h n i (k + 1) x y = if x = i ∧ y = k then true else sq1 h n i k x y := by
 by_cases e:x = i ∧ y = k
 ·obtain ⟨rfl,rfl⟩ := e
  simp [sq1,he,hk]
 ·rw [if_neg e,Bool.eq_iff_iff]
  simp only [sq1,Bool.and_eq_true,Bool.or_eq_true,decide_eq_true_eq]
  constructor <;> (rintro ⟨⟨q,r⟩,t⟩; exact ⟨⟨q,r⟩,by omega⟩)
theorem sq1_miss {h:List Ev} {n i k:Nat} (he:edge h i k = false) (x y:Nat):sq1 h n i (k + 1) x y = sq1 h n i k x y := by
 by_cases e:x = i ∧ y = k
 ·obtain ⟨rfl,rfl⟩ := e
  simp [sq1,he]
 ·rw [Bool.eq_iff_iff]
  simp only [sq1,Bool.and_eq_true,Bool.or_eq_true,decide_eq_true_eq]
  constructor <;> (rintro ⟨⟨q,r⟩,t⟩; exact ⟨⟨q,r⟩,by omega⟩)
theorem sq2_start (h:List Ev) (n m:Nat) (x y:Nat):sq2 h n m 0 0 x y = wa h n m x y := by simp [sq2]
theorem sq2_next (h:List Ev) (n m i:Nat) (x y:Nat):sq2 h n m i n x y = sq2 h n m (i + 1) 0 x y := by
 rw [Bool.eq_iff_iff]
 simp only [sq2,Bool.and_eq_true,Bool.or_eq_true,decide_eq_true_eq]
 constructor
 ·rintro (q | ⟨q,r⟩)
  ·exact .inl q
  ·exact .inr ⟨.inl (by omega),r⟩
 ·rintro (q | ⟨q,r⟩)
  ·exact .inl q
  ·have := (wa_lt h n m m y r.2).2
   exact .inr ⟨by omega,r⟩
theorem sq2_skip {h:List Ev} {n m i k:Nat} (hb:wa h n m i m = false) (x y:Nat):sq2 h n m i k x y = sq2 h n m (i + 1) 0 x y := by
 rw [Bool.eq_iff_iff]
 simp only [sq2,Bool.and_eq_true,Bool.or_eq_true,decide_eq_true_eq]
 constructor
 ·rintro (q | ⟨q,r⟩)
  ·exact .inl q
  ·exact .inr ⟨.inl (by omega),r⟩
 ·rintro (q | ⟨q,r⟩)
  ·exact .inl q
  ·by_cases e:x = i
   ·subst e
    rw [hb] at r
    exact absurd r.1 (by decide)
   ·exact .inr ⟨.inl (by omega),r⟩
theorem sq2_row (h:List Ev) (n m i:Nat) (x y:Nat):sq2 h n m i (m + 1) x y = sq2 h n m i 0 x y := by
 rw [Bool.eq_iff_iff]
 simp only [sq2,Bool.and_eq_true,Bool.or_eq_true,decide_eq_true_eq]
 constructor
 ·rintro (q | ⟨q,r⟩)
  ·exact .inl q
  ·have := (wa_lt h n m m y r.2).1
   exact .inr ⟨by omega,r⟩
 ·rintro (q | ⟨q,r⟩)
  ·exact .inl q
  ·exact .inr ⟨by omega,r⟩
theorem sq2_hit {h:List Ev} {n m i k:Nat} (h1:wa h n m i m = true) (h2:wa h n m m k = true) (x y:Nat):sq2 h n m i (k + 1) x y = if x = i ∧ y = k then true else sq2 h n m i k x y := by
 by_cases e:x = i ∧ y = k
 ·obtain ⟨rfl,rfl⟩ := e
  simp [sq2,h1,h2]
 ·rw [if_neg e,Bool.eq_iff_iff]
  simp only [sq2,Bool.and_eq_true,Bool.or_eq_true,decide_eq_true_eq]
  constructor
  ·rintro (q | ⟨q,r⟩)
   ·exact .inl q
   ·exact .inr ⟨by omega,r⟩
  ·rintro (q | ⟨q,r⟩)
   ·exact .inl q
   ·exact .inr ⟨by omega,r⟩
theorem sq2_miss {h:List Ev} {n m i k:Nat} (h2:wa h n m m k = false) (x y:Nat):sq2 h n m i (k + 1) x y = sq2 h n m i k x y := by
 rw [Bool.eq_iff_iff]
 simp only [sq2,Bool.and_eq_true,Bool.or_eq_true,decide_eq_true_eq]
 constructor
 ·rintro (q | ⟨q,r⟩)
  ·exact .inl q
  ·by_cases e:y = k
   ·subst e
    rw [h2] at r
    exact absurd r.2 (by decide)
   ·exact .inr ⟨by omega,r⟩
 ·rintro (q | ⟨q,r⟩)
  ·exact .inl q
  ·exact .inr ⟨by omega,r⟩
theorem sq2_col (h:List Ev) (n m i k x:Nat):sq2 h n m i k x m = wa h n m x m := by
 have:wa h n m m m = false := by
  cases e:wa h n m m m with
  | false => rfl
  | true => have := wa_lt h n m m m e; omega
 simp [sq2,this]
theorem sq2_rowm {h:List Ev} {n m i k y:Nat}:sq2 h n m i k m y = wa h n m m y := by
 have:wa h n m m m = false := by
  cases e:wa h n m m m with
  | false => rfl
  | true => have := wa_lt h n m m m e; omega
 simp [sq2,this]
theorem sq2_end (h:List Ev) (n m:Nat) (x y:Nat):sq2 h n m m 0 x y = wa h n (m + 1) x y := by
 show _ = (wa h n m x y || (wa h n m x m && wa h n m m y))
 rw [Bool.eq_iff_iff]
 simp only [sq2,Bool.and_eq_true,Bool.or_eq_true,decide_eq_true_eq]
 constructor
 ·rintro (q | ⟨q,r⟩)
  ·exact .inl q
  ·exact .inr r
 ·rintro (q | r)
  ·exact .inl q
  ·have := (wa_lt h n m x m r.1).1
   exact .inr ⟨by omega,r⟩
theorem sqInfo:(Tryz.prog.info? 196).map (fun i => (i.zero,i.size)) = some (some (.agg (Array.replicate 3600 (.bool false))),3600) := by kernel_rfl
theorem sqSize:(Tryz.prog.info? 196).map (·.size) = some 3600 := (zero_of_info sqInfo).2
theorem loadAt_row (w:World) (g:Nat) (fr:Nat × Nat) (c:Array Value) (hg:w.heap[g]? = some (.cells c 196 fr)) (hi:(Tryz.prog.info? 196).map (·.size) = some c.size) :
  (Instr.loadAt 196 (.pointer (some ⟨g,0,none⟩))).run Tryz.prog w = .ok (.agg c) w := by
 simp only [Instr.loadAt,Instr.sureAddr,Sem.run_bind,Sem.run_pure,Result.andThen]
 exact run_loadVar_row w g _ _ c fr (.array 60 195) hg (by kernel_rfl) rfl hi
theorem storeAt_row (w:World) (g:Nat) (t:TypeId) (old c:Array Value) (hg:w.heap[g]? = some (.cells old t (0,0))) (hi:(Tryz.prog.info? 196).map (·.size) = some c.size) (ho:old.size = c.size) (h1:c.all (·.oneCell') = true) :
  (Instr.storeAt 196 (.pointer (some ⟨g,0,none⟩)) (.agg c)).run Tryz.prog w = .ok () (w.setRow g c) := by
 simp only [Instr.storeAt,Instr.sureAddr,Sem.run_bind,Sem.run_pure,Result.andThen]
 exact run_storeVar_row w g t _ old c hg hi ho h1
theorem setRow_same {w:World} {g:Nat} {t:TypeId} {old:Array Value} (hg:w.heap[g]? = some (.cells old t (0,0))) (c:Array Value):(w.setRow g c).heap[g]? = some (.cells c t (0,0)) := by
 simp [World.setRow,Array.getElem?_modify,hg]
theorem below_setRow {B:Nat} {a w:World} (h:Below B a w) {g:Nat} (hg:B ≤ g) (c:Array Value):Below B a (w.setRow g c) :=
 h.trans ⟨rfl,rfl,rfl,by simp [World.setRow],fun k hk => by
  simp only [World.setRow,Array.getElem?_modify]
  rw [if_neg (by omega)]⟩
theorem wp_load_row {P:Program} {o:Oper} {a:Act} {K:Act → World → Prop} {Q:Exit → Act → World → Prop} {w:World} {v:Value} {t:TypeId} {p:Operand} (ho:o.op = .load t p) (h:(Instr.loadAt t (a.eval p)).run P w = .ok v w) (hk:K (a.put o.dst v) w):o.wp P a w K Q := by
 unfold Oper.wp execOp
 simp only [ho,Sem.run_bind,h,Result.andThen_ok,Sem.run_pure]
 exact hk
theorem wp_store_row {P:Program} {o:Oper} {a:Act} {K:Act → World → Prop} {Q:Exit → Act → World → Prop} {w w':World} {t:TypeId} {p x:Operand} (ho:o.op = .store t p x) (h:(Instr.storeAt t (a.eval p) (a.eval x)).run P w = .ok () w') (hk:K (a.put o.dst undef) w'):o.wp P a w K Q := by
 unfold Oper.wp execOp
 simp only [ho,Sem.run_bind,h,Result.andThen_ok,Sem.run_pure]
 exact hk
theorem wpList_load_row {P:Program} {ops:Array Oper} {rest:List Oper} {o:Oper} {a:Act} {Q:Exit → Act → World → Prop} {w:World} {v:Value} (hgd:o.guard = none) (t:TypeId) (p:Operand) (ho:o.op = .load t p) (h:(Instr.loadAt t (a.eval p)).run P w = .ok v w) (hk:wpList P ops Q rest (a.put o.dst v) w):wpList P ops Q (o :: rest) a w :=
 wpList_plain hgd fun _ hK => wp_load_row ho h (hK _ _ hk)
theorem wpList_store_row {P:Program} {ops:Array Oper} {rest:List Oper} {o:Oper} {a:Act} {Q:Exit → Act → World → Prop} {w w':World} (hgd:o.guard = none) (t:TypeId) (p x:Operand) (ho:o.op = .store t p x) (h:(Instr.storeAt t (a.eval p) (a.eval x)).run P w = .ok () w') (hk:wpList P ops Q rest (a.put o.dst undef) w'):wpList P ops Q (o :: rest) a w :=
 wpList_plain hgd fun _ hK => wp_store_row ho h (hK _ _ hk)
theorem results_cell {fn:Func} {p:Tmp} {ty:TypeId} (h:fn.results = #[.cell p ty]) (tmps:Array Value) (P:Program) (w:World) :
  (results fn tmps).run P w = ((asAddr (tmps.getD p undef)).run P w).andThen fun a w₁ => (loadVar ty a).run P w₁ := by
 simp only [results,h]
 simp [Sem.run_bind]
def SqV (c:Array Value) (f:Nat → Nat → Bool):Prop := c.size = 3600 ∧ ∀ x,x < 3600 → c[x]? = some (.bool (f (x / 60) (x % 60)))
theorem sq_one {c:Array Value} {f:Nat → Nat → Bool} (h:SqV c f):c.all (·.oneCell') = true := by
 rw [Array.all_eq_true]
 intro i hi
 have := h.2 i (by rw [← h.1]; exact hi)
 rw [Array.getElem?_eq_getElem hi] at this
 injection this with this
 rw [this]
 rfl
end Go.Proofs.YtdmniblonikjlakGreatDoor.His


namespace Go.Proofs.YtdmniblonikjlakGreatDoor.His
open Go.RowKit
set_option maxRecDepth 100000 in
set_option maxHeartbeats 8000000 in
theorem refBefores (a:Option Addr) (len cap:Nat) (h:List Ev) (w:World) (h60:len ≤ 60) (hv:Ew w a len h) :
  Calls Tryz.prog 106 #[.slice a len cap] w fun x w' => (∃ c,x = .returned (.agg c) ∧ SqV c (wa h len len)) ∧ Below w.heap.size w w' := by
 have G:Hid (Ew w a len h) := hv
 obtain ⟨Z,hZ⟩:∃ Z,Z = Array.replicate 3600 (Value.bool false) := ⟨_,rfl⟩
 have hz := (zero_of_info sqInfo).1
 rw [← hZ] at hz
 have HZ:Hid (Z = Array.replicate 3600 (Value.bool false)) := hZ
 have ZR:Hid (∀ x,x < Z.size → Z[x]? = some (.bool (sq1 h len 0 0 (x / 60) (x % 60)))) := by
  intro x hx
  rw [hZ] at hx ⊢
  rw [sq1_start]
  simp at hx
  simp [hx]
 have ZS:Hid (Z.size = 3600) := by rw [hZ]; exact Array.size_replicate
 clear hv hZ
 go_enter Tryz.func106,Tryz.ntmps106
 go_wp2
 go_loopw [4] (fun x wr => ∃ i:Nat,i ≤ len ∧ x = .int .i64 i ∧ Hid (Below w.heap.size w wr) ∧ Hid (Sq wr (w.heap.size + 1) (sq1 h len i 0)) ∧ Hid (wr.rowIs w.heap.size 196 3600 (fun x => .bool false))) (fun x _ => len - (intOf x).toNat)
 case atStart =>
  refine ⟨0,by omega,rfl,((Below.refl _ _).alloc (Nat.le_refl _) _).alloc (by simp) _,?_,?_⟩
  ·have q := World.rowIs_alloc (w.alloc (.cells Z 196)) Z 196 (fun x => .bool (sq1 h len 0 0 (x / 60) (x % 60))) ZR.out
   rw [ZS.out] at q
   simp only [World.size_alloc] at q
   exact q
  ·have q := World.rowIs_alloc w Z 196 (fun x => .bool (sq1 h len 0 0 (x / 60) (x % 60))) ZR.out
   rw [ZS.out] at q
   exact (q.congr fun x hx => by rw [sq1_start]).alloc _
 case round =>
  obtain ⟨i,hi,rfl,hbel,hS,hR⟩ := hrel
  by_cases hlt:i < len
  ·obtain ⟨b,off,rfl,hpb,hcs⟩ := (G.out.later hbel.out).2 (by omega)
   have hi0:(0:Int) ≤ (i:Int) := by omega
   have hil:(i:Int) < (len:Int) := by omega
   have hi60:(i:Int) < 60 := by omega
   clear hpb hcs hz
   go_wp2
   go_loopw [5] (fun x wi => ∃ k:Nat,i + 1 ≤ k ∧ k ≤ len ∧ x = .int .i64 k ∧ Hid (Below w.heap.size w wi) ∧ Hid (Sq wi (w.heap.size + 1) (sq1 h len i k)) ∧ Hid (wi.rowIs w.heap.size 196 3600 (fun x => .bool false))) (fun x _ => len - (intOf x).toNat)
   case atStart => exact ⟨i + 1,by omega,by omega,by go_num,hbel.out,hS.out.congr (fun x y _ _ => (sq1_row h len i x y).symm),hR.out⟩
   case round =>
    obtain ⟨k,hk1,hk,rfl,hbel',hS',hR'⟩ := hrel
    by_cases hkl:k < len
    ·obtain ⟨b',off',eb,hpb,hcs⟩ := (G.out.later hbel'.out).2 (by omega)
     injection eb with eb
     injection eb with eb1 eb2 _
     subst eb1 eb2
     have hk0:(0:Int) ≤ (k:Int) := by omega
     have hkl':(k:Int) < (len:Int) := by omega
     have hk60:(k:Int) < 60 := by omega
     obtain ⟨c0,c1,c2⟩ := hcs i hlt
     obtain ⟨x0,x1,x2⟩ := hcs k hkl
     have v := hS'.out.cell (i := i) (k := k) (by omega) (by omega)
     have fz := hS'.out.frozen (i * 60 + k)
     obtain ⟨q,eq⟩:∃ q,q = ev h i := ⟨_,rfl⟩
     obtain ⟨s,es⟩:∃ s,s = ev h k := ⟨_,rfl⟩
     rw [← eq] at c0 c1 c2
     rw [← es] at x0 x1 x2
     obtain ⟨q0,q1,q2⟩ := q
     obtain ⟨s0,s1,s2⟩ := s
     have ED:Hid (edge h i k = (decide (q0 = s0) || (decide (q1 = 2) && decide (s1 = 3) && decide (q2 = s2)))) := by
      show edge h i k = _
      unfold edge
      rw [← eq,← es,decide_eq_true (show i < k by omega)]
      rfl
     clear hcs hpb eq es
     by_cases g0:q0 = s0
     ·have E1:Hid (edge h i k = true) := by show edge h i k = true; rw [ED.out]; simp [g0]
      subst g0
      go_wp2
      go_quiet (fail)
      go_wp2
      go_roundw
      case rel =>
       refine ⟨k + 1,by omega,by omega,by go_num,?_,?_,?_⟩
       ·exact (below_drewN hbel'.out _).setCell (p := ⟨w.heap.size + 1,_,none⟩) (Nat.le_succ _) _
       ·exact (hS'.out.later (below_drewN (Below.refl _ _) _)).set (by omega) (fun x y _ _ => sq1_hit hkl E1.out x y)
       ·exact (rowIs_later hR'.out (below_drewN (Below.refl _ _) _)).setOther (a := ⟨w.heap.size + 1,_,none⟩) (Nat.ne_of_lt (Nat.lt_succ_self _)) _
      case measure => simp [intOf]; omega
     ·have g0':(q0 == s0) = false := by simp [g0]
      by_cases g1:q1 = 2
      ·subst g1
       by_cases g2:s1 = 3
       ·subst g2
        by_cases g3:q2 = s2
        ·have E1:Hid (edge h i k = true) := by show edge h i k = true; rw [ED.out]; simp [g3]
         subst g3
         go_wp2
         go_quiet (fail)
         go_wp2
         go_roundw
         case rel =>
          refine ⟨k + 1,by omega,by omega,by go_num,?_,?_,?_⟩
          ·exact (below_drewN hbel'.out _).setCell (p := ⟨w.heap.size + 1,_,none⟩) (Nat.le_succ _) _
          ·exact (hS'.out.later (below_drewN (Below.refl _ _) _)).set (by omega) (fun x y _ _ => sq1_hit hkl E1.out x y)
          ·exact (rowIs_later hR'.out (below_drewN (Below.refl _ _) _)).setOther (a := ⟨w.heap.size + 1,_,none⟩) (Nat.ne_of_lt (Nat.lt_succ_self _)) _
         case measure => simp [intOf]; omega
        ·have g3':(q2 == s2) = false := by simp [g3]
         have E1:Hid (edge h i k = false) := by show edge h i k = false; rw [ED.out]; simp [g0,g3]
         go_wp2
         go_quiet (fail)
         go_wp2
         go_roundw
         case rel =>
          refine ⟨k + 1,by omega,by omega,by go_num,?_,?_,?_⟩
          ·exact below_drewN hbel'.out _
          ·exact (hS'.out.later (below_drewN (Below.refl _ _) _)).congr (fun x y _ _ => (sq1_miss E1.out x y).symm)
          ·exact rowIs_later hR'.out (below_drewN (Below.refl _ _) _)
         case measure => simp [intOf]; omega
       ·have g2':(s1 == 3) = false := by simp [g2]
        have E1:Hid (edge h i k = false) := by show edge h i k = false; rw [ED.out]; simp [g0,g2]
        go_wp2
        go_quiet (fail)
        go_wp2
        go_roundw
        case rel =>
         refine ⟨k + 1,by omega,by omega,by go_num,?_,?_,?_⟩
         ·exact below_drewN hbel'.out _
         ·exact (hS'.out.later (below_drewN (Below.refl _ _) _)).congr (fun x y _ _ => (sq1_miss E1.out x y).symm)
         ·exact rowIs_later hR'.out (below_drewN (Below.refl _ _) _)
        case measure => simp [intOf]; omega
      ·have g1':(q1 == 2) = false := by simp [g1]
       have E1:Hid (edge h i k = false) := by show edge h i k = false; rw [ED.out]; simp [g0,g1]
       go_wp2
       go_quiet (fail)
       go_wp2
       go_roundw
       case rel =>
        refine ⟨k + 1,by omega,by omega,by go_num,?_,?_,?_⟩
        ·exact below_drewN hbel'.out _
        ·exact (hS'.out.later (below_drewN (Below.refl _ _) _)).congr (fun x y _ _ => (sq1_miss E1.out x y).symm)
        ·exact rowIs_later hR'.out (below_drewN (Below.refl _ _) _)
       case measure => simp [intOf]; omega
    ·have:k = len := by omega
     subst this
     go_wp2
     go_roundw
     case rel => exact ⟨i + 1,by omega,by go_num,hbel'.out,hS'.out.congr (fun x y _ _ => sq1_next h k i x y),hR'.out⟩
     case measure => simp [intOf]; omega
  ·have:i = len := by omega
   subst this
   clear hz
   go_wp2
   go_loopw [6] (fun x wr => ∃ m:Nat,m ≤ i ∧ x = .int .i64 m ∧ Hid (Below w.heap.size w wr) ∧ Hid (Sq wr (w.heap.size + 1) (wa h i m)) ∧ Hid (wr.rowIs w.heap.size 196 3600 (fun x => .bool false))) (fun x _ => i - (intOf x).toNat)
   case atStart => exact ⟨0,by omega,rfl,hbel.out,hS.out.congr (fun x y _ _ => sq1_end h i x y),hR.out⟩
   case round =>
    clear hbel hS hR
    obtain ⟨m,hm,rfl,hbel,hS,hR⟩ := hrel
    by_cases hml:m < i
    ·have hm0:(0:Int) ≤ (m:Int) := by omega
     have hml':(m:Int) < (i:Int) := by omega
     have hm60:(m:Int) < 60 := by omega
     go_wp2
     go_loopw [7] (fun x wr => ∃ j:Nat,j ≤ m ∧ x = .int .i64 j ∧ Hid (Below w.heap.size w wr) ∧ Hid (Sq wr (w.heap.size + 1) (sq2 h i m j 0)) ∧ Hid (wr.rowIs w.heap.size 196 3600 (fun x => .bool false))) (fun x _ => m - (intOf x).toNat)
     case atStart => exact ⟨0,by omega,rfl,hbel.out,hS.out.congr (fun x y _ _ => (sq2_start h i m x y).symm),hR.out⟩
     case round =>
      clear hbel hS hR
      obtain ⟨j,hj,rfl,hbel,hS,hR⟩ := hrel
      by_cases hjm:j < m
      ·have hj0:(0:Int) ≤ (j:Int) := by omega
       have hjm':(j:Int) < (m:Int) := by omega
       have hj60:(j:Int) < 60 := by omega
       go_wp2
       go_loopw [8] (fun x wr => ∃ k:Nat,m + 1 ≤ k ∧ k ≤ i ∧ x = .int .i64 k ∧ Hid (Below w.heap.size w wr) ∧ Hid (Sq wr (w.heap.size + 1) (sq2 h i m j k)) ∧ Hid (wr.rowIs w.heap.size 196 3600 (fun x => .bool false))) (fun x _ => i - (intOf x).toNat)
       case atStart => exact ⟨m + 1,by omega,by omega,by go_num,hbel.out,hS.out.congr (fun x y _ _ => (sq2_row h i m j x y).symm),hR.out⟩
       case round =>
        clear hbel hS hR
        obtain ⟨k,hk1,hk,rfl,hbel,hS,hR⟩ := hrel
        by_cases hki:k < i
        ·have hk0:(0:Int) ≤ (k:Int) := by omega
         have hki':(k:Int) < (i:Int) := by omega
         have hk60:(k:Int) < 60 := by omega
         have v1 := hS.out.cell (i := j) (k := m) (by omega) (by omega)
         have v2 := hS.out.cell (i := m) (k := k) (by omega) (by omega)
         have v3 := hS.out.cell (i := j) (k := k) (by omega) (by omega)
         have fz := hS.out.frozen (j * 60 + k)
         rw [sq2_col] at v1
         rw [sq2_rowm] at v2
         cases g1:wa h i m j m
         ·rw [g1] at v1
          go_wp2
          go_roundw
          case rel => exact ⟨j + 1,by omega,by go_num,hbel.out,hS.out.congr (fun x y _ _ => sq2_skip g1 x y),hR.out⟩
          case measure => simp [intOf]; omega
         ·rw [g1] at v1
          cases g2:wa h i m m k
          ·rw [g2] at v2
           go_wp2
           go_roundw
           case rel => exact ⟨k + 1,by omega,by omega,by go_num,hbel.out,hS.out.congr (fun x y _ _ => (sq2_miss g2 x y).symm),hR.out⟩
           case measure => simp [intOf]; omega
          ·rw [g2] at v2
           go_wp2
           go_roundw
           case rel => exact ⟨k + 1,by omega,by omega,by go_num,hbel.out.setCell (p := ⟨w.heap.size + 1,_,none⟩) (Nat.le_succ _) _,hS.out.set (by omega) (fun x y _ _ => sq2_hit g1 g2 x y),hR.out.setOther (a := ⟨w.heap.size + 1,_,none⟩) (Nat.ne_of_lt (Nat.lt_succ_self _)) _⟩
           case measure => simp [intOf]; omega
        ·have:k = i := by omega
         subst this
         go_wp2
         go_roundw
         case rel => exact ⟨j + 1,by omega,by go_num,hbel.out,hS.out.congr (fun x y _ _ => sq2_next h k m j x y),hR.out⟩
         case measure => simp [intOf]; omega
      ·have:j = m := by omega
       subst this
       go_wp2
       go_roundw
       case rel => exact ⟨j + 1,by omega,by go_num,hbel.out,hS.out.congr (fun x y _ _ => sq2_end h i j x y),hR.out⟩
       case measure => simp [intOf]; omega
    ·have:m = i := by omega
     subst this
     obtain ⟨c,hc1,hc2,hc3⟩ := hS.out
     obtain ⟨d,hd1,hd2,hd3⟩ := hR.out
     have C:Hid (SqV c (wa h m m)) := ⟨hc2,hc3⟩
     have hld:(Instr.loadAt 196 (.pointer (some ⟨w.heap.size + 1,0,none⟩))).run Tryz.prog wr = .ok (.agg c) wr := loadAt_row _ _ _ c hc1 (by rw [sqSize,hc2])
     have hst:(Instr.storeAt 196 (.pointer (some ⟨w.heap.size,0,none⟩)) (.agg c)).run Tryz.prog wr = .ok () (wr.setRow w.heap.size c) := storeAt_row _ _ _ d c hd1 (by rw [sqSize,hc2]) (hd2.trans hc2.symm) (sq_one C.out)
     have HR':Hid ((wr.setRow w.heap.size c).heap[w.heap.size]? = some (.cells c 196 (0,0))) := setRow_same hd1 c
     have HB':Hid (Below w.heap.size w (wr.setRow w.heap.size c)) := below_setRow hbel.out (Nat.le_refl _) c
     clear hc1 hc2 hc3 hd1 hd2 hd3
     have HLD:Hid _ := hld
     have HST:Hid _ := hst
     clear hld hst
     go_wp2_with (first | refine wpList_load_row rfl 196 (.tmp 3) rfl HLD.out ?_ | refine wpList_store_row rfl 196 (.tmp 2) (.tmp 102) rfl HST.out ?_)
     refine bodyPost_ret (v := .agg c) ?_ rfl ⟨⟨c,rfl,C.out⟩,HB'.out⟩
     have hl2 := run_loadVar_row (P := Tryz.prog) (wr.setRow w.heap.size c) w.heap.size _ 196 c (0,0) (.array 60 195) HR'.out (by kernel_rfl) rfl (by rw [sqSize,C.out.1])
     refine (results_cell rfl _ _ _).trans ?_
     show ((asAddr (.pointer (some ⟨w.heap.size,0,none⟩))).run Tryz.prog (wr.setRow w.heap.size c)).andThen _ = _
     simp [asAddr,hl2]
end Go.Proofs.YtdmniblonikjlakGreatDoor.His
