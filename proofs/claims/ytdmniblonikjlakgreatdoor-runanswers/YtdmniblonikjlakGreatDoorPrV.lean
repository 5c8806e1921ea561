/-
  Texts put together: RunRd, RunRe.
-/
import Derived.Test.YtdmniblonikjlakGreatDoorPrU
import Derived.Deep.QuietTactic
import Derived.BigQuiet


namespace Go.Proofs.YtdmniblonikjlakGreatDoor.Run
open Go.RowKit
open As (Laid)
set_option linter.unusedVariables false
theorem piece_len (c:UInt8):∀ (t:T),∀ p ∈ cut c t,p.length ≤ t.length
 | [],p,hp => by simp [cut] at hp; rw [hp]; simp
 | x :: t,p,hp => by
  have ih := piece_len c t
  unfold cut at hp
  split at hp
  ·rcases List.mem_cons.1 hp with rfl | hp
   ·simp
   ·have := ih p hp
    simp
    omega
  ·match e:cut c t,cut_ne c t with
   | q :: qs,_ =>
    rw [e] at hp
    simp only at hp
    rcases List.mem_cons.1 hp with rfl | hp
    ·have := ih q (by rw [e]; simp)
     simp
     omega
    ·have := ih p (by rw [e]; exact List.mem_cons_of_mem _ hp)
     simp
     omega
structure Rd (w:World) (M:Nat):Prop where
 fit:Fit w
 wm:WM w M
theorem Rd.later {w w':World} {M:Nat} (h:Rd w M) (hb:Below w.heap.size w w'):Rd w' M := ⟨h.fit.later hb,h.wm.keep (hb.block _ h.wm.lt)⟩
theorem ret_read {fn:Func} {tmps:Array Value} {w:World} {s p u:Tmp} {B:Nat} {v0 v1 x y:Value} (h:fn.results = #[.tmp s,.cell p 185,.tmp u]) (hs:tmps.getD s undef = y) (hp:tmps.getD p undef = .pointer (some ⟨B,0,none⟩)) (hu:tmps.getD u undef = x)
  (y0:w.cell? ⟨B,0,none⟩ = some v0) (y1:w.cell? ⟨B,1,none⟩ = some v1):(results fn tmps).run Tryz.prog w = .ok (.tuple #[y,.agg #[v0,v1],x]) w := by
 have e:(results fn tmps).run Tryz.prog w = ((asAddr (tmps.getD p undef)).run Tryz.prog w).andThen fun a w₁ => ((loadVar 185 a).run Tryz.prog w₁).andThen fun v w₂ => .ok (.tuple #[tmps.getD s undef,v,tmps.getD u undef]) w₂ := by
  simp only [results,h]
  simp [Sem.run_bind,Result.andThen]
 rw [e,hs,hp,hu]
 simp [asAddr,go_sem,y0,y1]
structure Rs (w w1:World) (P M:Nat) (ws:List T):Prop where
 bel:Below w.heap.size w w1
 d0:w1.cell? ⟨w.heap.size,0,none⟩ = some (.pointer (some ⟨P,0,none⟩))
 d1:w1.cell? ⟨w.heap.size,1,none⟩ = some (.map (some M))
 z0:w1.cell? ⟨w.heap.size + 1,0,none⟩ = some (.int .i64 0)
 z1:w1.cell? ⟨w.heap.size + 1,1,none⟩ = some (.int .i64 0)
 f0:w1.frozen? ⟨w.heap.size + 1,0,none⟩ = false
 f1:w1.frozen? ⟨w.heap.size + 1,1,none⟩ = false
 wd:∀ i x,ws[i]? = some x → w1.cell? ⟨w.heap.size + 2,i,none⟩ = some (.string (tx x))
 size:w1.heap.size = w.heap.size + 3
theorem Rs.of (w:World) (P M:Nat) (ws:List T):Rs w (((w.alloc (.cells #[.pointer (some ⟨P,0,none⟩),.map (some M)] 108)).alloc (.cells #[.int .i64 0,.int .i64 0] 185)).alloc (.cells (ws.map fun x => Value.string (tx x)).toArray 9)) P M ws := by
 refine ⟨(((Below.refl _ _).alloc (Nat.le_refl _) _).alloc (by simp) _).alloc (by simp <;> omega) _,?_,?_,?_,?_,?_,?_,fun i x hx => ?_,by simp⟩
 ·rw [World.cell?_alloc_lt _ _ ⟨w.heap.size,0,none⟩ (by simp <;> omega),World.cell?_alloc_lt _ _ ⟨w.heap.size,0,none⟩ (by simp)]; simp
 ·rw [World.cell?_alloc_lt _ _ ⟨w.heap.size,1,none⟩ (by simp <;> omega),World.cell?_alloc_lt _ _ ⟨w.heap.size,1,none⟩ (by simp)]; simp
 ·rw [World.cell?_alloc_lt _ _ ⟨w.heap.size + 1,0,none⟩ (by simp),World.cell?_alloc_at _ _ _ _ (by simp)]; rfl
 ·rw [World.cell?_alloc_lt _ _ ⟨w.heap.size + 1,1,none⟩ (by simp),World.cell?_alloc_at _ _ _ _ (by simp)]; rfl
 ·rw [World.frozen?_alloc_past _ _ _ (by simp)]; exact World.frozen?_alloc_at _ _ _ _ (by simp)
 ·rw [World.frozen?_alloc_past _ _ _ (by simp)]; exact World.frozen?_alloc_at _ _ _ _ (by simp)
 ·rw [World.cell?_alloc_at _ _ _ _ (by simp)]
  simp [hx]
set_option maxRecDepth 100000 in
set_option maxHeartbeats 2000000 in
theorem read_many (P M:Nat) (l:T) (w0 p:T) (ns:List T) (w:World) (h:Rd w M) (hl:l.length ≤ 3000) (hc:cut 32 l = w0 :: p :: ns) (hn:(p :: ns).length ≠ wantN w0) (h9:ns.length ≤ 3000) :
  Calls Tryz.prog 101 #[.agg #[.pointer (some ⟨P,0,none⟩),.map (some M)],.string (tx l)] w fun e w' => e = .returned (.tuple #[.string (ByteArray.mk #[]),.agg #[.int .i64 0,.int .i64 0],lineE]) ∧ Below w.heap.size w w' := by
 have HR:Hid (Rd w M ∧ l.length ≤ 3000) := ⟨h,hl⟩
 clear h hl
 go_enter Tryz.func101,Tryz.ntmps101
 go_wp2_with fail
 refine (splitP l 32 _ ((w.alloc (.cells #[.pointer (some ⟨P,0,none⟩),.map (some M)] 108)).alloc (.cells #[.int .i64 0,.int .i64 0] 185)) rfl ((HR.out.1.later (((Below.refl _ _).alloc (Nat.le_refl _) _).alloc (by simp) _)).fit.mx) (by have := HR.out.2; omega)).mono ?_
 rw [hc]
 rintro e w1 ⟨he,hw1⟩
 obtain ⟨n,eN⟩:∃ n,n = (p :: ns).length := ⟨_,rfl⟩
 have he':e = .returned (.slice (some ⟨w.heap.size + 2,0,none⟩) (n + 1) (n + 1)) := by rw [he,eN]; simp
 subst he'
 clear he
 have RS:Hid (Rs w w1 P M (w0 :: p :: ns)) := by rw [hw1]; exact Rs.of w P M _
 have RD:Hid (Rd w1 M) := HR.out.1.later RS.out.bel
 have PL:Hid (∀ x ∈ (w0 :: p :: ns:List T),x.length ≤ 3000) := fun x hx => by have := piece_len 32 l x (by rw [hc]; exact hx); have := HR.out.2; omega
 have d0 := RS.out.d0
 have d1 := RS.out.d1
 have z0 := RS.out.z0
 have z1 := RS.out.z1
 have f0 := RS.out.f0
 have f1 := RS.out.f1
 obtain ⟨k,ek⟩:∃ k,k = wantN w0 := ⟨_,rfl⟩
 have LK:Hid (∀ W:World,W.heap[M]? = w1.heap[M]? → (Instr.lookup 106 (.map (some M)) (.string (tx w0)) false).run Tryz.prog W = .ok (.int .i64 (k:Nat)) W) := fun W hW => by
  have z := (RD.out.wm.keep hW).look (tx w0) (by rw [tx_size]; have := PL.out w0 (by simp); unfold maxLen; omega)
  rw [bs_tx,← ek] at z
  exact z
 have c0 := RS.out.wd 0 w0 rfl
 have hN2:(1:Int) ≤ (n:Int) := by rw [eN]; simp; omega
 have hN9:(n:Int) ≤ 3001 := by rw [eN]; simp; omega
 have h0N:(0:Int) < (n:Int) + 1 := by omega
 have h1N:(1:Int) ≤ (n:Int) + 1 := by omega
 have h1n:¬ n = 0 := by omega
 have hne:((n:Int) == (k:Int)) = false := beq_eq_false_iff_ne.2 (by rw [eN,ek]; simp at hn ⊢; omega)
 clear ek eN hn h9
 clear hw1 hc
 go_upto_region 2 with fail
 go_region
 go_upto_region 3 with fail
 have lk := LK.out w1.drew rfl
 go_wp2_with fail
 have y0:((w1.drew.setCell ⟨w.heap.size + 1,0,none⟩ (.int .i64 0)).setCell ⟨w.heap.size + 1,1,none⟩ (.int .i64 0)).cell? ⟨w.heap.size + 1,0,none⟩ = some (.int .i64 0) := by
  rw [World.cell?_setCell_other _ _ _ _ (by intro e; cases e)]
  exact World.cell?_setCell_same _ _ _ z0
 have y1:((w1.drew.setCell ⟨w.heap.size + 1,0,none⟩ (.int .i64 0)).setCell ⟨w.heap.size + 1,1,none⟩ (.int .i64 0)).cell? ⟨w.heap.size + 1,1,none⟩ = some (.int .i64 0) := by
  refine World.cell?_setCell_same _ _ _ (u := .int .i64 0) ?_
  rw [World.cell?_setCell_other _ _ _ _ (by intro e; cases e)]
  exact z1
 refine bodyPost_ret (ret_read rfl rfl rfl rfl y0 y1) rfl ?_
 exact ⟨rfl,((RS.out.bel.drew).setCell (p := ⟨w.heap.size + 1,0,none⟩) (Nat.le_succ _) _).setCell (p := ⟨w.heap.size + 1,1,none⟩) (Nat.le_succ _) _⟩
set_option maxRecDepth 100000 in
set_option maxHeartbeats 2000000 in
theorem read_none_no (P M:Nat) (l:T) (w0:T) (w:World) (h:Rd w M) (hl:l.length ≤ 3000) (hc:cut 32 l = [w0]) (hn:0 ≠ wantN w0) :
  Calls Tryz.prog 101 #[.agg #[.pointer (some ⟨P,0,none⟩),.map (some M)],.string (tx l)] w fun e w' => e = .returned (.tuple #[.string (ByteArray.mk #[]),.agg #[.int .i64 0,.int .i64 0],lineE]) ∧ Below w.heap.size w w' := by
 have HR:Hid (Rd w M ∧ l.length ≤ 3000) := ⟨h,hl⟩
 clear h hl
 go_enter Tryz.func101,Tryz.ntmps101
 go_wp2_with fail
 refine (splitP l 32 _ ((w.alloc (.cells #[.pointer (some ⟨P,0,none⟩),.map (some M)] 108)).alloc (.cells #[.int .i64 0,.int .i64 0] 185)) rfl ((HR.out.1.later (((Below.refl _ _).alloc (Nat.le_refl _) _).alloc (by simp) _)).fit.mx) (by have := HR.out.2; omega)).mono ?_
 rw [hc]
 rintro e w1 ⟨he,hw1⟩
 have he':e = .returned (.slice (some ⟨w.heap.size + 2,0,none⟩) 1 1) := by rw [he]; simp
 subst he'
 clear he
 have RS:Hid (Rs w w1 P M ([w0])) := by rw [hw1]; exact Rs.of w P M _
 have RD:Hid (Rd w1 M) := HR.out.1.later RS.out.bel
 have PL:Hid (∀ x ∈ ([w0]:List T),x.length ≤ 3000) := fun x hx => by have := piece_len 32 l x (by rw [hc]; exact hx); have := HR.out.2; omega
 have d0 := RS.out.d0
 have d1 := RS.out.d1
 have z0 := RS.out.z0
 have z1 := RS.out.z1
 have f0 := RS.out.f0
 have f1 := RS.out.f1
 obtain ⟨k,ek⟩:∃ k,k = wantN w0 := ⟨_,rfl⟩
 have LK:Hid (∀ W:World,W.heap[M]? = w1.heap[M]? → (Instr.lookup 106 (.map (some M)) (.string (tx w0)) false).run Tryz.prog W = .ok (.int .i64 (k:Nat)) W) := fun W hW => by
  have z := (RD.out.wm.keep hW).look (tx w0) (by rw [tx_size]; have := PL.out w0 (by simp); unfold maxLen; omega)
  rw [bs_tx,← ek] at z
  exact z
 have c0 := RS.out.wd 0 w0 rfl
 have hne:((0:Int) == (k:Int)) = false := beq_eq_false_iff_ne.2 (by rw [ek]; omega)
 clear ek hn
 clear hw1 hc
 go_upto_region 2 with fail
 go_region
 go_upto_region 3 with fail
 have lk := LK.out w1.drew rfl
 go_wp2_with fail
 have y0:((w1.drew.setCell ⟨w.heap.size + 1,0,none⟩ (.int .i64 0)).setCell ⟨w.heap.size + 1,1,none⟩ (.int .i64 0)).cell? ⟨w.heap.size + 1,0,none⟩ = some (.int .i64 0) := by
  rw [World.cell?_setCell_other _ _ _ _ (by intro e; cases e)]
  exact World.cell?_setCell_same _ _ _ z0
 have y1:((w1.drew.setCell ⟨w.heap.size + 1,0,none⟩ (.int .i64 0)).setCell ⟨w.heap.size + 1,1,none⟩ (.int .i64 0)).cell? ⟨w.heap.size + 1,1,none⟩ = some (.int .i64 0) := by
  refine World.cell?_setCell_same _ _ _ (u := .int .i64 0) ?_
  rw [World.cell?_setCell_other _ _ _ _ (by intro e; cases e)]
  exact z1
 refine bodyPost_ret (ret_read rfl rfl rfl rfl y0 y1) rfl ?_
 exact ⟨rfl,((RS.out.bel.drew).setCell (p := ⟨w.heap.size + 1,0,none⟩) (Nat.le_succ _) _).setCell (p := ⟨w.heap.size + 1,1,none⟩) (Nat.le_succ _) _⟩
end Go.Proofs.YtdmniblonikjlakGreatDoor.Run


namespace Go.Proofs.YtdmniblonikjlakGreatDoor.Run
open Go.RowKit
set_option linter.unusedVariables false
structure Rt (w X:World) (P M:Nat) (ws:List T) (a b:Int):Prop where
 bel:Below w.heap.size w X
 z0:X.cell? ⟨w.heap.size + 1,0,none⟩ = some (.int .i64 0)
 z1:X.cell? ⟨w.heap.size + 1,1,none⟩ = some (.int .i64 0)
 f0:X.frozen? ⟨w.heap.size + 1,0,none⟩ = false
 f1:X.frozen? ⟨w.heap.size + 1,1,none⟩ = false
 n0:X.cell? ⟨w.heap.size + 3,0,none⟩ = some (.int .i64 a)
 n1:X.cell? ⟨w.heap.size + 3,1,none⟩ = some (.int .i64 b)
 g0:X.frozen? ⟨w.heap.size + 3,0,none⟩ = false
 g1:X.frozen? ⟨w.heap.size + 3,1,none⟩ = false
 wd:∀ i x,ws[i]? = some x → X.cell? ⟨w.heap.size + 2,i,none⟩ = some (.string (tx x))
 size:w.heap.size + 3 < X.heap.size
theorem Rt.of {w w1:World} {P M:Nat} {ws:List T} (h:Rs w w1 P M ws):Rt w (w1.alloc (.cells #[.int .i64 0,.int .i64 0] 185)).drew P M ws 0 0 := by
 have hs := h.size
 have k:∀ q:Addr,q.block < w1.heap.size → (w1.alloc (.cells #[.int .i64 0,.int .i64 0] 185)).drew.cell? q = w1.cell? q := fun q hq => World.cell?_alloc_lt _ _ q hq
 have kf:∀ (n i:Nat),n < w1.heap.size → (w1.alloc (.cells #[.int .i64 0,.int .i64 0] 185)).drew.frozen? ⟨n,i,none⟩ = w1.frozen? ⟨n,i,none⟩ := fun n i hq => World.frozen?_alloc_past _ n i hq
 refine ⟨(h.bel.alloc (by omega) _).drew,(k _ (by show w.heap.size + 1 < _; omega)).trans h.z0,(k _ (by show w.heap.size + 1 < _; omega)).trans h.z1,(kf _ _ (by omega)).trans h.f0,(kf _ _ (by omega)).trans h.f1,?_,?_,?_,?_,fun i x hx => (k _ (by show w.heap.size + 2 < _; omega)).trans (h.wd i x hx),?_⟩
 ·rw [← hs]
  show (w1.alloc _).cell? _ = _
  simp
 ·rw [← hs]
  show (w1.alloc _).cell? _ = _
  simp
 ·rw [← hs]
  exact World.frozen?_alloc_at _ _ _ _ rfl
 ·rw [← hs]
  exact World.frozen?_alloc_at _ _ _ _ rfl
 ·show w.heap.size + 3 < (w1.alloc _).heap.size
  simp
  omega
theorem Rt.later {w X Y:World} {P M:Nat} {ws:List T} {a b:Int} (h:Rt w X P M ws a b) (hb:Below X.heap.size X Y):Rt w Y P M ws a b := by
 have hs := h.size
 have k:∀ (n i:Nat),n ≤ w.heap.size + 3 → Y.cell? ⟨n,i,none⟩ = X.cell? ⟨n,i,none⟩ := fun n i hn => hb.cell (p := ⟨n,i,none⟩) (by show n < _; omega)
 have kf:∀ (n i:Nat),n ≤ w.heap.size + 3 → Y.frozen? ⟨n,i,none⟩ = X.frozen? ⟨n,i,none⟩ := fun n i hn => hb.frozen (p := ⟨n,i,none⟩) (by show n < _; omega)
 exact ⟨h.bel.trans (hb.mono h.bel.size),(k _ _ (by omega)).trans h.z0,(k _ _ (by omega)).trans h.z1,(kf _ _ (by omega)).trans h.f0,(kf _ _ (by omega)).trans h.f1,(k _ _ (by omega)).trans h.n0,(k _ _ (by omega)).trans h.n1,(kf _ _ (by omega)).trans h.g0,(kf _ _ (by omega)).trans h.g1,fun i x hx => (k _ _ (by omega)).trans (h.wd i x hx),Nat.lt_of_lt_of_le hs hb.size⟩
theorem far_cell {X:World} {m n:Nat} (i j:Nat) (v:Value) (h:m ≠ n):(X.setCell ⟨m,i,none⟩ v).cell? ⟨n,j,none⟩ = X.cell? ⟨n,j,none⟩ := World.cell?_setCell_other _ _ _ _ (fun e => h (congrArg Addr.block e))
theorem Rt.set0 {w X:World} {P M:Nat} {ws:List T} {a b:Int} (h:Rt w X P M ws a b) (c:Int):Rt w (X.setCell ⟨w.heap.size + 3,0,none⟩ (.int .i64 c)) P M ws c b := by
 refine ⟨h.bel.setCell (p := ⟨w.heap.size + 3,0,none⟩) (by show w.heap.size ≤ w.heap.size + 3; omega) _,(far_cell _ _ _ (by omega)).trans h.z0,(far_cell _ _ _ (by omega)).trans h.z1,?_,?_,World.cell?_setCell_same _ _ _ h.n0,?_,?_,?_,fun i x hx => (far_cell _ _ _ (by omega)).trans (h.wd i x hx),?_⟩
 ·rw [World.frozen?_setCell]; exact h.f0
 ·rw [World.frozen?_setCell]; exact h.f1
 ·rw [World.cell?_setCell_other _ _ _ _ (by intro e; cases e)]; exact h.n1
 ·rw [World.frozen?_setCell]; exact h.g0
 ·rw [World.frozen?_setCell]; exact h.g1
 ·rw [show (X.setCell ⟨w.heap.size + 3,0,none⟩ (.int .i64 c)).heap.size = X.heap.size from Array.size_modify]; exact h.size
theorem Rt.set1 {w X:World} {P M:Nat} {ws:List T} {a b:Int} (h:Rt w X P M ws a b) (c:Int):Rt w (X.setCell ⟨w.heap.size + 3,1,none⟩ (.int .i64 c)) P M ws a c := by
 refine ⟨h.bel.setCell (p := ⟨w.heap.size + 3,1,none⟩) (by show w.heap.size ≤ w.heap.size + 3; omega) _,(far_cell _ _ _ (by omega)).trans h.z0,(far_cell _ _ _ (by omega)).trans h.z1,?_,?_,?_,World.cell?_setCell_same _ _ _ h.n1,?_,?_,fun i x hx => (far_cell _ _ _ (by omega)).trans (h.wd i x hx),?_⟩
 ·rw [World.frozen?_setCell]; exact h.f0
 ·rw [World.frozen?_setCell]; exact h.f1
 ·rw [World.cell?_setCell_other _ _ _ _ (by intro e; cases e)]; exact h.n0
 ·rw [World.frozen?_setCell]; exact h.g0
 ·rw [World.frozen?_setCell]; exact h.g1
 ·rw [show (X.setCell ⟨w.heap.size + 3,1,none⟩ (.int .i64 c)).heap.size = X.heap.size from Array.size_modify]; exact h.size
set_option maxRecDepth 100000 in
set_option maxHeartbeats 2000000 in
theorem read_none_ok (P M:Nat) (l:T) (w0:T) (w:World) (h:Rd w M) (hl:l.length ≤ 3000) (hc:cut 32 l = [w0]) (hn:wantN w0 = 0) :
  Calls Tryz.prog 101 #[.agg #[.pointer (some ⟨P,0,none⟩),.map (some M)],.string (tx l)] w fun e w' => e = .returned (.tuple #[.string (tx w0),.agg #[.int .i64 0,.int .i64 0],.nilIface]) ∧ Below w.heap.size w w' := by
 have HR:Hid (Rd w M ∧ l.length ≤ 3000) := ⟨h,hl⟩
 clear h hl
 go_enter Tryz.func101,Tryz.ntmps101
 go_wp2_with fail
 refine (splitP l 32 _ ((w.alloc (.cells #[.pointer (some ⟨P,0,none⟩),.map (some M)] 108)).alloc (.cells #[.int .i64 0,.int .i64 0] 185)) rfl ((HR.out.1.later (((Below.refl _ _).alloc (Nat.le_refl _) _).alloc (by simp) _)).fit.mx) (by have := HR.out.2; omega)).mono ?_
 rw [hc]
 rintro e w1 ⟨he,hw1⟩
 have he':e = .returned (.slice (some ⟨w.heap.size + 2,0,none⟩) 1 1) := by rw [he]; simp
 subst he'
 clear he
 have RS:Hid (Rs w w1 P M ([w0])) := by rw [hw1]; exact Rs.of w P M _
 have RD:Hid (Rd w1 M) := HR.out.1.later RS.out.bel
 have PL:Hid (∀ x ∈ ([w0]:List T),x.length ≤ 3000) := fun x hx => by have := piece_len 32 l x (by rw [hc]; exact hx); have := HR.out.2; omega
 have d0 := RS.out.d0
 have d1 := RS.out.d1
 have z0 := RS.out.z0
 have z1 := RS.out.z1
 have f0 := RS.out.f0
 have f1 := RS.out.f1
 obtain ⟨k,ek⟩:∃ k,k = wantN w0 := ⟨_,rfl⟩
 have LK:Hid (∀ W:World,W.heap[M]? = w1.heap[M]? → (Instr.lookup 106 (.map (some M)) (.string (tx w0)) false).run Tryz.prog W = .ok (.int .i64 (k:Nat)) W) := fun W hW => by
  have z := (RD.out.wm.keep hW).look (tx w0) (by rw [tx_size]; have := PL.out w0 (by simp); unfold maxLen; omega)
  rw [bs_tx,← ek] at z
  exact z
 have c0 := RS.out.wd 0 w0 rfl
 have hne:((0:Int) == (k:Int)) = true := by rw [ek,hn]; rfl
 have hsz := RS.out.size
 clear ek hn
 clear hw1 hc
 go_upto_region 2 with fail
 go_region
 go_upto_region 3 with fail
 have lk := LK.out w1.drew rfl
 go_wp2_with fail
 refine wp_loop_rounds 1 ?_
 rw [rounds_succ]
 go_wp2_with fail
 obtain ⟨X0,eX⟩:∃ X,X = (w1.alloc (.cells #[.int .i64 0,.int .i64 0] 185)).drew := ⟨_,rfl⟩
 have RT0:Hid (Rt w X0 P M [w0] 0 0) := by rw [eX]; exact Rt.of RS.out
 rw [← eX]
 clear d0 d1 z0 z1 f0 f1 c0 lk hne hsz eX
 have z0 := RT0.out.z0
 have z1 := RT0.out.z1
 have f0 := RT0.out.f0
 have f1 := RT0.out.f1
 have n0 := RT0.out.n0
 have n1 := RT0.out.n1
 have g0 := RT0.out.g0
 have g1 := RT0.out.g1
 go_region
 all_goals (go_wp2_with fail)
 have y0:((X0.drew.setCell ⟨w.heap.size + 1,0,none⟩ (.int .i64 0)).setCell ⟨w.heap.size + 1,1,none⟩ (.int .i64 0)).cell? ⟨w.heap.size + 1,0,none⟩ = some (.int .i64 0) := by
  rw [World.cell?_setCell_other _ _ _ _ (by intro e; cases e)]
  exact World.cell?_setCell_same _ _ _ z0
 have y1:((X0.drew.setCell ⟨w.heap.size + 1,0,none⟩ (.int .i64 0)).setCell ⟨w.heap.size + 1,1,none⟩ (.int .i64 0)).cell? ⟨w.heap.size + 1,1,none⟩ = some (.int .i64 0) := by
  refine World.cell?_setCell_same _ _ _ (u := .int .i64 0) ?_
  rw [World.cell?_setCell_other _ _ _ _ (by intro e; cases e)]
  exact z1
 (try simp only [Exit.inBlock,Exit.then])
 refine bodyPost_ret (ret_read rfl rfl rfl rfl y0 y1) rfl ?_
 exact ⟨rfl,((RT0.out.bel.drew).setCell (p := ⟨w.heap.size + 1,0,none⟩) (Nat.le_succ _) _).setCell (p := ⟨w.heap.size + 1,1,none⟩) (Nat.le_succ _) _⟩
set_option maxRecDepth 100000 in
set_option maxHeartbeats 2000000 in
theorem read_one_no (P M:Nat) (l:T) (w0 p:T) (w:World) (h:Rd w M) (hl:l.length ≤ 3000) (hc:cut 32 l = [w0,p]) (hn:wantN w0 = 1) (hp:isNum p = false) :
  Calls Tryz.prog 101 #[.agg #[.pointer (some ⟨P,0,none⟩),.map (some M)],.string (tx l)] w fun e w' => e = .returned (.tuple #[.string (ByteArray.mk #[]),.agg #[.int .i64 0,.int .i64 0],lineE]) ∧ Below w.heap.size w w' := by
 have HR:Hid (Rd w M ∧ l.length ≤ 3000) := ⟨h,hl⟩
 have HP:Hid (isNum p = false) := hp
 clear hp
 clear h hl
 go_enter Tryz.func101,Tryz.ntmps101
 go_wp2_with fail
 refine (splitP l 32 _ ((w.alloc (.cells #[.pointer (some ⟨P,0,none⟩),.map (some M)] 108)).alloc (.cells #[.int .i64 0,.int .i64 0] 185)) rfl ((HR.out.1.later (((Below.refl _ _).alloc (Nat.le_refl _) _).alloc (by simp) _)).fit.mx) (by have := HR.out.2; omega)).mono ?_
 rw [hc]
 rintro e w1 ⟨he,hw1⟩
 have he':e = .returned (.slice (some ⟨w.heap.size + 2,0,none⟩) 2 2) := by rw [he]; simp
 subst he'
 clear he
 have RS:Hid (Rs w w1 P M ([w0,p])) := by rw [hw1]; exact Rs.of w P M _
 have RD:Hid (Rd w1 M) := HR.out.1.later RS.out.bel
 have PL:Hid (∀ x ∈ ([w0,p]:List T),x.length ≤ 3000) := fun x hx => by have := piece_len 32 l x (by rw [hc]; exact hx); have := HR.out.2; omega
 have d0 := RS.out.d0
 have d1 := RS.out.d1
 have z0 := RS.out.z0
 have z1 := RS.out.z1
 have f0 := RS.out.f0
 have f1 := RS.out.f1
 obtain ⟨k,ek⟩:∃ k,k = wantN w0 := ⟨_,rfl⟩
 have LK:Hid (∀ W:World,W.heap[M]? = w1.heap[M]? → (Instr.lookup 106 (.map (some M)) (.string (tx w0)) false).run Tryz.prog W = .ok (.int .i64 (k:Nat)) W) := fun W hW => by
  have z := (RD.out.wm.keep hW).look (tx w0) (by rw [tx_size]; have := PL.out w0 (by simp); unfold maxLen; omega)
  rw [bs_tx,← ek] at z
  exact z
 have c0 := RS.out.wd 0 w0 rfl
 have hne:((1:Int) == (k:Int)) = true := by rw [ek,hn]; rfl
 have c1 := RS.out.wd 1 p rfl
 have hsz := RS.out.size
 clear ek hn
 clear hw1 hc
 go_upto_region 2 with fail
 go_region
 go_upto_region 3 with fail
 have lk := LK.out w1.drew rfl
 go_wp2_with fail
 refine wp_loop_rounds 2 ?_
 rw [rounds_succ]
 go_wp2_with fail
 obtain ⟨X0,eX⟩:∃ X,X = (w1.alloc (.cells #[.int .i64 0,.int .i64 0] 185)).drew := ⟨_,rfl⟩
 have RT0:Hid (Rt w X0 P M [w0,p] 0 0) := by rw [eX]; exact Rt.of RS.out
 rw [← eX]
 clear d0 d1 z0 z1 f0 f1 c0 lk hne hsz eX
 clear c1
 refine (number_no (tx p) X0 (by rw [tx_size]; have := PL.out p (by simp); omega) (HR.out.1.later RT0.out.bel).fit (by rw [bs_tx]; exact HP.out)).mono ?_
 rw [show lineE = .iface 181 (.agg #[.int .i64 2]) from rfl]
 rintro e w2 ⟨rfl,hb⟩
 have RT1:Hid (Rt w w2 P M [w0,p] 0 0) := RT0.out.later hb
 clear hb
 have z0 := RT1.out.z0
 have z1 := RT1.out.z1
 have f0 := RT1.out.f0
 have f1 := RT1.out.f1
 have n0 := RT1.out.n0
 have n1 := RT1.out.n1
 have g0 := RT1.out.g0
 have g1 := RT1.out.g1
 go_wp2_with fail
 have y0:((w2.setCell ⟨w.heap.size + 1,0,none⟩ (.int .i64 0)).setCell ⟨w.heap.size + 1,1,none⟩ (.int .i64 0)).cell? ⟨w.heap.size + 1,0,none⟩ = some (.int .i64 0) := by
  rw [World.cell?_setCell_other _ _ _ _ (by intro e; cases e)]
  exact World.cell?_setCell_same _ _ _ z0
 have y1:((w2.setCell ⟨w.heap.size + 1,0,none⟩ (.int .i64 0)).setCell ⟨w.heap.size + 1,1,none⟩ (.int .i64 0)).cell? ⟨w.heap.size + 1,1,none⟩ = some (.int .i64 0) := by
  refine World.cell?_setCell_same _ _ _ (u := .int .i64 0) ?_
  rw [World.cell?_setCell_other _ _ _ _ (by intro e; cases e)]
  exact z1
 (try simp only [Exit.inBlock,Exit.then])
 refine bodyPost_ret (ret_read rfl rfl rfl rfl y0 y1) rfl ?_
 exact ⟨rfl,((RT1.out.bel).setCell (p := ⟨w.heap.size + 1,0,none⟩) (Nat.le_succ _) _).setCell (p := ⟨w.heap.size + 1,1,none⟩) (Nat.le_succ _) _⟩
set_option maxRecDepth 100000 in
set_option maxHeartbeats 2000000 in
theorem read_one_ok (P M:Nat) (l:T) (w0 p:T) (w:World) (h:Rd w M) (hl:l.length ≤ 3000) (hc:cut 32 l = [w0,p]) (hn:wantN w0 = 1) (hp:isNum p = true) :
  Calls Tryz.prog 101 #[.agg #[.pointer (some ⟨P,0,none⟩),.map (some M)],.string (tx l)] w fun e w' => e = .returned (.tuple #[.string (tx w0),.agg #[.int .i64 (numV p:Int),.int .i64 0],.nilIface]) ∧ Below w.heap.size w w' := by
 have HR:Hid (Rd w M ∧ l.length ≤ 3000) := ⟨h,hl⟩
 have HP:Hid (isNum p = true) := hp
 clear hp
 clear h hl
 go_enter Tryz.func101,Tryz.ntmps101
 go_wp2_with fail
 refine (splitP l 32 _ ((w.alloc (.cells #[.pointer (some ⟨P,0,none⟩),.map (some M)] 108)).alloc (.cells #[.int .i64 0,.int .i64 0] 185)) rfl ((HR.out.1.later (((Below.refl _ _).alloc (Nat.le_refl _) _).alloc (by simp) _)).fit.mx) (by have := HR.out.2; omega)).mono ?_
 rw [hc]
 rintro e w1 ⟨he,hw1⟩
 have he':e = .returned (.slice (some ⟨w.heap.size + 2,0,none⟩) 2 2) := by rw [he]; simp
 subst he'
 clear he
 have RS:Hid (Rs w w1 P M ([w0,p])) := by rw [hw1]; exact Rs.of w P M _
 have RD:Hid (Rd w1 M) := HR.out.1.later RS.out.bel
 have PL:Hid (∀ x ∈ ([w0,p]:List T),x.length ≤ 3000) := fun x hx => by have := piece_len 32 l x (by rw [hc]; exact hx); have := HR.out.2; omega
 have d0 := RS.out.d0
 have d1 := RS.out.d1
 have z0 := RS.out.z0
 have z1 := RS.out.z1
 have f0 := RS.out.f0
 have f1 := RS.out.f1
 obtain ⟨k,ek⟩:∃ k,k = wantN w0 := ⟨_,rfl⟩
 have LK:Hid (∀ W:World,W.heap[M]? = w1.heap[M]? → (Instr.lookup 106 (.map (some M)) (.string (tx w0)) false).run Tryz.prog W = .ok (.int .i64 (k:Nat)) W) := fun W hW => by
  have z := (RD.out.wm.keep hW).look (tx w0) (by rw [tx_size]; have := PL.out w0 (by simp); unfold maxLen; omega)
  rw [bs_tx,← ek] at z
  exact z
 have c0 := RS.out.wd 0 w0 rfl
 have hne:((1:Int) == (k:Int)) = true := by rw [ek,hn]; rfl
 have c1 := RS.out.wd 1 p rfl
 have hsz := RS.out.size
 clear ek hn
 clear hw1 hc
 go_upto_region 2 with fail
 go_region
 go_upto_region 3 with fail
 have lk := LK.out w1.drew rfl
 go_wp2_with fail
 refine wp_loop_rounds 2 ?_
 rw [rounds_succ]
 go_wp2_with fail
 obtain ⟨X0,eX⟩:∃ X,X = (w1.alloc (.cells #[.int .i64 0,.int .i64 0] 185)).drew := ⟨_,rfl⟩
 have RT0:Hid (Rt w X0 P M [w0,p] 0 0) := by rw [eX]; exact Rt.of RS.out
 rw [← eX]
 clear d0 d1 z0 z1 f0 f1 c0 lk hne hsz eX
 clear c1
 refine (number_ok (tx p) X0 (by rw [tx_size]; have := PL.out p (by simp); omega) (HR.out.1.later RT0.out.bel).fit (by rw [bs_tx]; exact HP.out)).mono ?_
 rw [bs_tx]
 rintro e w2 ⟨rfl,hb⟩
 have RT1:Hid (Rt w w2 P M [w0,p] 0 0) := RT0.out.later hb
 clear hb
 have z0 := RT1.out.z0
 have z1 := RT1.out.z1
 have f0 := RT1.out.f0
 have f1 := RT1.out.f1
 have n0 := RT1.out.n0
 have n1 := RT1.out.n1
 have g0 := RT1.out.g0
 have g1 := RT1.out.g1
 go_wp2_with fail
 rw [rounds_succ]
 go_wp2_with fail
 obtain ⟨X2,eX2⟩:∃ X,X = w2.setCell ⟨w.heap.size + 3,0,none⟩ (.int .i64 (numV p:Int)) := ⟨_,rfl⟩
 have RT2:Hid (Rt w X2 P M [w0,p] (numV p) 0) := by rw [eX2]; exact RT1.out.set0 _
 rw [← eX2]
 clear eX2 z0 z1 f0 f1 n0 n1 g0 g1
 have z0 := RT2.out.z0
 have z1 := RT2.out.z1
 have f0 := RT2.out.f0
 have f1 := RT2.out.f1
 have n0 := RT2.out.n0
 have n1 := RT2.out.n1
 have g0 := RT2.out.g0
 have g1 := RT2.out.g1
 go_region
 all_goals (go_wp2_with fail)
 have y0:((X2.drew.setCell ⟨w.heap.size + 1,0,none⟩ (.int .i64 (numV p:Int))).setCell ⟨w.heap.size + 1,1,none⟩ (.int .i64 0)).cell? ⟨w.heap.size + 1,0,none⟩ = some (.int .i64 (numV p:Int)) := by
  rw [World.cell?_setCell_other _ _ _ _ (by intro e; cases e)]
  exact World.cell?_setCell_same _ _ _ z0
 have y1:((X2.drew.setCell ⟨w.heap.size + 1,0,none⟩ (.int .i64 (numV p:Int))).setCell ⟨w.heap.size + 1,1,none⟩ (.int .i64 0)).cell? ⟨w.heap.size + 1,1,none⟩ = some (.int .i64 0) := by
  refine World.cell?_setCell_same _ _ _ (u := .int .i64 0) ?_
  rw [World.cell?_setCell_other _ _ _ _ (by intro e; cases e)]
  exact z1
 (try simp only [Exit.inBlock,Exit.then])
 refine bodyPost_ret (ret_read rfl rfl rfl rfl y0 y1) rfl ?_
 exact ⟨rfl,((RT2.out.bel.drew).setCell (p := ⟨w.heap.size + 1,0,none⟩) (Nat.le_succ _) _).setCell (p := ⟨w.heap.size + 1,1,none⟩) (Nat.le_succ _) _⟩
set_option maxRecDepth 100000 in
set_option maxHeartbeats 2000000 in
theorem read_two_no (P M:Nat) (l:T) (w0 p q:T) (w:World) (h:Rd w M) (hl:l.length ≤ 3000) (hc:cut 32 l = [w0,p,q]) (hn:wantN w0 = 2) (hp:isNum p = false) :
  Calls Tryz.prog 101 #[.agg #[.pointer (some ⟨P,0,none⟩),.map (some M)],.string (tx l)] w fun e w' => e = .returned (.tuple #[.string (ByteArray.mk #[]),.agg #[.int .i64 0,.int .i64 0],lineE]) ∧ Below w.heap.size w w' := by
 have HR:Hid (Rd w M ∧ l.length ≤ 3000) := ⟨h,hl⟩
 have HP:Hid (isNum p = false) := hp
 clear hp
 clear h hl
 go_enter Tryz.func101,Tryz.ntmps101
 go_wp2_with fail
 refine (splitP l 32 _ ((w.alloc (.cells #[.pointer (some ⟨P,0,none⟩),.map (some M)] 108)).alloc (.cells #[.int .i64 0,.int .i64 0] 185)) rfl ((HR.out.1.later (((Below.refl _ _).alloc (Nat.le_refl _) _).alloc (by simp) _)).fit.mx) (by have := HR.out.2; omega)).mono ?_
 rw [hc]
 rintro e w1 ⟨he,hw1⟩
 have he':e = .returned (.slice (some ⟨w.heap.size + 2,0,none⟩) 3 3) := by rw [he]; simp
 subst he'
 clear he
 have RS:Hid (Rs w w1 P M ([w0,p,q])) := by rw [hw1]; exact Rs.of w P M _
 have RD:Hid (Rd w1 M) := HR.out.1.later RS.out.bel
 have PL:Hid (∀ x ∈ ([w0,p,q]:List T),x.length ≤ 3000) := fun x hx => by have := piece_len 32 l x (by rw [hc]; exact hx); have := HR.out.2; omega
 have d0 := RS.out.d0
 have d1 := RS.out.d1
 have z0 := RS.out.z0
 have z1 := RS.out.z1
 have f0 := RS.out.f0
 have f1 := RS.out.f1
 obtain ⟨k,ek⟩:∃ k,k = wantN w0 := ⟨_,rfl⟩
 have LK:Hid (∀ W:World,W.heap[M]? = w1.heap[M]? → (Instr.lookup 106 (.map (some M)) (.string (tx w0)) false).run Tryz.prog W = .ok (.int .i64 (k:Nat)) W) := fun W hW => by
  have z := (RD.out.wm.keep hW).look (tx w0) (by rw [tx_size]; have := PL.out w0 (by simp); unfold maxLen; omega)
  rw [bs_tx,← ek] at z
  exact z
 have c0 := RS.out.wd 0 w0 rfl
 have hne:((2:Int) == (k:Int)) = true := by rw [ek,hn]; rfl
 have c1 := RS.out.wd 1 p rfl
 have c2 := RS.out.wd 2 q rfl
 have hsz := RS.out.size
 clear ek hn
 clear hw1 hc
 go_upto_region 2 with fail
 go_region
 go_upto_region 3 with fail
 have lk := LK.out w1.drew rfl
 go_wp2_with fail
 refine wp_loop_rounds 3 ?_
 rw [rounds_succ]
 go_wp2_with fail
 obtain ⟨X0,eX⟩:∃ X,X = (w1.alloc (.cells #[.int .i64 0,.int .i64 0] 185)).drew := ⟨_,rfl⟩
 have RT0:Hid (Rt w X0 P M [w0,p,q] 0 0) := by rw [eX]; exact Rt.of RS.out
 rw [← eX]
 clear d0 d1 z0 z1 f0 f1 c0 lk hne hsz eX
 clear c1 c2
 refine (number_no (tx p) X0 (by rw [tx_size]; have := PL.out p (by simp); omega) (HR.out.1.later RT0.out.bel).fit (by rw [bs_tx]; exact HP.out)).mono ?_
 rw [show lineE = .iface 181 (.agg #[.int .i64 2]) from rfl]
 rintro e w2 ⟨rfl,hb⟩
 have RT1:Hid (Rt w w2 P M [w0,p,q] 0 0) := RT0.out.later hb
 clear hb
 have z0 := RT1.out.z0
 have z1 := RT1.out.z1
 have f0 := RT1.out.f0
 have f1 := RT1.out.f1
 have n0 := RT1.out.n0
 have n1 := RT1.out.n1
 have g0 := RT1.out.g0
 have g1 := RT1.out.g1
 go_wp2_with fail
 have y0:((w2.setCell ⟨w.heap.size + 1,0,none⟩ (.int .i64 0)).setCell ⟨w.heap.size + 1,1,none⟩ (.int .i64 0)).cell? ⟨w.heap.size + 1,0,none⟩ = some (.int .i64 0) := by
  rw [World.cell?_setCell_other _ _ _ _ (by intro e; cases e)]
  exact World.cell?_setCell_same _ _ _ z0
 have y1:((w2.setCell ⟨w.heap.size + 1,0,none⟩ (.int .i64 0)).setCell ⟨w.heap.size + 1,1,none⟩ (.int .i64 0)).cell? ⟨w.heap.size + 1,1,none⟩ = some (.int .i64 0) := by
  refine World.cell?_setCell_same _ _ _ (u := .int .i64 0) ?_
  rw [World.cell?_setCell_other _ _ _ _ (by intro e; cases e)]
  exact z1
 (try simp only [Exit.inBlock,Exit.then])
 refine bodyPost_ret (ret_read rfl rfl rfl rfl y0 y1) rfl ?_
 exact ⟨rfl,((RT1.out.bel).setCell (p := ⟨w.heap.size + 1,0,none⟩) (Nat.le_succ _) _).setCell (p := ⟨w.heap.size + 1,1,none⟩) (Nat.le_succ _) _⟩
set_option maxRecDepth 100000 in
set_option maxHeartbeats 2000000 in
theorem read_two_one (P M:Nat) (l:T) (w0 p q:T) (w:World) (h:Rd w M) (hl:l.length ≤ 3000) (hc:cut 32 l = [w0,p,q]) (hn:wantN w0 = 2) (hp:isNum p = true) (hq:isNum q = false) :
  Calls Tryz.prog 101 #[.agg #[.pointer (some ⟨P,0,none⟩),.map (some M)],.string (tx l)] w fun e w' => e = .returned (.tuple #[.string (ByteArray.mk #[]),.agg #[.int .i64 0,.int .i64 0],lineE]) ∧ Below w.heap.size w w' := by
 have HR:Hid (Rd w M ∧ l.length ≤ 3000) := ⟨h,hl⟩
 have HP:Hid (isNum p = true) := hp
 clear hp
 have HQ:Hid (isNum q = false) := hq
 clear hq
 clear h hl
 go_enter Tryz.func101,Tryz.ntmps101
 go_wp2_with fail
 refine (splitP l 32 _ ((w.alloc (.cells #[.pointer (some ⟨P,0,none⟩),.map (some M)] 108)).alloc (.cells #[.int .i64 0,.int .i64 0] 185)) rfl ((HR.out.1.later (((Below.refl _ _).alloc (Nat.le_refl _) _).alloc (by simp) _)).fit.mx) (by have := HR.out.2; omega)).mono ?_
 rw [hc]
 rintro e w1 ⟨he,hw1⟩
 have he':e = .returned (.slice (some ⟨w.heap.size + 2,0,none⟩) 3 3) := by rw [he]; simp
 subst he'
 clear he
 have RS:Hid (Rs w w1 P M ([w0,p,q])) := by rw [hw1]; exact Rs.of w P M _
 have RD:Hid (Rd w1 M) := HR.out.1.later RS.out.bel
 have PL:Hid (∀ x ∈ ([w0,p,q]:List T),x.length ≤ 3000) := fun x hx => by have := piece_len 32 l x (by rw [hc]; exact hx); have := HR.out.2; omega
 have d0 := RS.out.d0
 have d1 := RS.out.d1
 have z0 := RS.out.z0
 have z1 := RS.out.z1
 have f0 := RS.out.f0
 have f1 := RS.out.f1
 obtain ⟨k,ek⟩:∃ k,k = wantN w0 := ⟨_,rfl⟩
 have LK:Hid (∀ W:World,W.heap[M]? = w1.heap[M]? → (Instr.lookup 106 (.map (some M)) (.string (tx w0)) false).run Tryz.prog W = .ok (.int .i64 (k:Nat)) W) := fun W hW => by
  have z := (RD.out.wm.keep hW).look (tx w0) (by rw [tx_size]; have := PL.out w0 (by simp); unfold maxLen; omega)
  rw [bs_tx,← ek] at z
  exact z
 have c0 := RS.out.wd 0 w0 rfl
 have hne:((2:Int) == (k:Int)) = true := by rw [ek,hn]; rfl
 have c1 := RS.out.wd 1 p rfl
 have c2 := RS.out.wd 2 q rfl
 have hsz := RS.out.size
 clear ek hn
 clear hw1 hc
 go_upto_region 2 with fail
 go_region
 go_upto_region 3 with fail
 have lk := LK.out w1.drew rfl
 go_wp2_with fail
 refine wp_loop_rounds 3 ?_
 rw [rounds_succ]
 go_wp2_with fail
 obtain ⟨X0,eX⟩:∃ X,X = (w1.alloc (.cells #[.int .i64 0,.int .i64 0] 185)).drew := ⟨_,rfl⟩
 have RT0:Hid (Rt w X0 P M [w0,p,q] 0 0) := by rw [eX]; exact Rt.of RS.out
 rw [← eX]
 clear d0 d1 z0 z1 f0 f1 c0 lk hne hsz eX
 clear c1 c2
 refine (number_ok (tx p) X0 (by rw [tx_size]; have := PL.out p (by simp); omega) (HR.out.1.later RT0.out.bel).fit (by rw [bs_tx]; exact HP.out)).mono ?_
 rw [bs_tx]
 rintro e w2 ⟨rfl,hb⟩
 have RT1:Hid (Rt w w2 P M [w0,p,q] 0 0) := RT0.out.later hb
 clear hb
 have z0 := RT1.out.z0
 have z1 := RT1.out.z1
 have f0 := RT1.out.f0
 have f1 := RT1.out.f1
 have n0 := RT1.out.n0
 have n1 := RT1.out.n1
 have g0 := RT1.out.g0
 have g1 := RT1.out.g1
 have c2 := RT1.out.wd 2 q rfl
 go_wp2_with fail
 rw [rounds_succ]
 go_wp2_with fail
 obtain ⟨X2,eX2⟩:∃ X,X = w2.setCell ⟨w.heap.size + 3,0,none⟩ (.int .i64 (numV p:Int)) := ⟨_,rfl⟩
 have RT2:Hid (Rt w X2 P M [w0,p,q] (numV p) 0) := by rw [eX2]; exact RT1.out.set0 _
 rw [← eX2]
 clear eX2 z0 z1 f0 f1 n0 n1 g0 g1 c2
 refine (number_no (tx q) X2 (by rw [tx_size]; have := PL.out q (by simp); omega) (HR.out.1.later RT2.out.bel).fit (by rw [bs_tx]; exact HQ.out)).mono ?_
 rw [show lineE = .iface 181 (.agg #[.int .i64 2]) from rfl]
 rintro e w4 ⟨rfl,hb⟩
 have RT3:Hid (Rt w w4 P M [w0,p,q] (numV p) 0) := RT2.out.later hb
 clear hb
 have z0 := RT3.out.z0
 have z1 := RT3.out.z1
 have f0 := RT3.out.f0
 have f1 := RT3.out.f1
 have n0 := RT3.out.n0
 have n1 := RT3.out.n1
 have g0 := RT3.out.g0
 have g1 := RT3.out.g1
 go_wp2_with fail
 have y0:((w4.setCell ⟨w.heap.size + 1,0,none⟩ (.int .i64 0)).setCell ⟨w.heap.size + 1,1,none⟩ (.int .i64 0)).cell? ⟨w.heap.size + 1,0,none⟩ = some (.int .i64 0) := by
  rw [World.cell?_setCell_other _ _ _ _ (by intro e; cases e)]
  exact World.cell?_setCell_same _ _ _ z0
 have y1:((w4.setCell ⟨w.heap.size + 1,0,none⟩ (.int .i64 0)).setCell ⟨w.heap.size + 1,1,none⟩ (.int .i64 0)).cell? ⟨w.heap.size + 1,1,none⟩ = some (.int .i64 0) := by
  refine World.cell?_setCell_same _ _ _ (u := .int .i64 0) ?_
  rw [World.cell?_setCell_other _ _ _ _ (by intro e; cases e)]
  exact z1
 (try simp only [Exit.inBlock,Exit.then])
 refine bodyPost_ret (ret_read rfl rfl rfl rfl y0 y1) rfl ?_
 exact ⟨rfl,((RT3.out.bel).setCell (p := ⟨w.heap.size + 1,0,none⟩) (Nat.le_succ _) _).setCell (p := ⟨w.heap.size + 1,1,none⟩) (Nat.le_succ _) _⟩
set_option maxRecDepth 100000 in
set_option maxHeartbeats 2000000 in
theorem read_two_ok (P M:Nat) (l:T) (w0 p q:T) (w:World) (h:Rd w M) (hl:l.length ≤ 3000) (hc:cut 32 l = [w0,p,q]) (hn:wantN w0 = 2) (hp:isNum p = true) (hq:isNum q = true) :
  Calls Tryz.prog 101 #[.agg #[.pointer (some ⟨P,0,none⟩),.map (some M)],.string (tx l)] w fun e w' => e = .returned (.tuple #[.string (tx w0),.agg #[.int .i64 (numV p:Int),.int .i64 (numV q:Int)],.nilIface]) ∧ Below w.heap.size w w' := by
 have HR:Hid (Rd w M ∧ l.length ≤ 3000) := ⟨h,hl⟩
 have HP:Hid (isNum p = true) := hp
 clear hp
 have HQ:Hid (isNum q = true) := hq
 clear hq
 clear h hl
 go_enter Tryz.func101,Tryz.ntmps101
 go_wp2_with fail
 refine (splitP l 32 _ ((w.alloc (.cells #[.pointer (some ⟨P,0,none⟩),.map (some M)] 108)).alloc (.cells #[.int .i64 0,.int .i64 0] 185)) rfl ((HR.out.1.later (((Below.refl _ _).alloc (Nat.le_refl _) _).alloc (by simp) _)).fit.mx) (by have := HR.out.2; omega)).mono ?_
 rw [hc]
 rintro e w1 ⟨he,hw1⟩
 have he':e = .returned (.slice (some ⟨w.heap.size + 2,0,none⟩) 3 3) := by rw [he]; simp
 subst he'
 clear he
 have RS:Hid (Rs w w1 P M ([w0,p,q])) := by rw [hw1]; exact Rs.of w P M _
 have RD:Hid (Rd w1 M) := HR.out.1.later RS.out.bel
 have PL:Hid (∀ x ∈ ([w0,p,q]:List T),x.length ≤ 3000) := fun x hx => by have := piece_len 32 l x (by rw [hc]; exact hx); have := HR.out.2; omega
 have d0 := RS.out.d0
 have d1 := RS.out.d1
 have z0 := RS.out.z0
 have z1 := RS.out.z1
 have f0 := RS.out.f0
 have f1 := RS.out.f1
 obtain ⟨k,ek⟩:∃ k,k = wantN w0 := ⟨_,rfl⟩
 have LK:Hid (∀ W:World,W.heap[M]? = w1.heap[M]? → (Instr.lookup 106 (.map (some M)) (.string (tx w0)) false).run Tryz.prog W = .ok (.int .i64 (k:Nat)) W) := fun W hW => by
  have z := (RD.out.wm.keep hW).look (tx w0) (by rw [tx_size]; have := PL.out w0 (by simp); unfold maxLen; omega)
  rw [bs_tx,← ek] at z
  exact z
 have c0 := RS.out.wd 0 w0 rfl
 have hne:((2:Int) == (k:Int)) = true := by rw [ek,hn]; rfl
 have c1 := RS.out.wd 1 p rfl
 have c2 := RS.out.wd 2 q rfl
 have hsz := RS.out.size
 clear ek hn
 clear hw1 hc
 go_upto_region 2 with fail
 go_region
 go_upto_region 3 with fail
 have lk := LK.out w1.drew rfl
 go_wp2_with fail
 refine wp_loop_rounds 3 ?_
 rw [rounds_succ]
 go_wp2_with fail
 obtain ⟨X0,eX⟩:∃ X,X = (w1.alloc (.cells #[.int .i64 0,.int .i64 0] 185)).drew := ⟨_,rfl⟩
 have RT0:Hid (Rt w X0 P M [w0,p,q] 0 0) := by rw [eX]; exact Rt.of RS.out
 rw [← eX]
 clear d0 d1 z0 z1 f0 f1 c0 lk hne hsz eX
 clear c1 c2
 refine (number_ok (tx p) X0 (by rw [tx_size]; have := PL.out p (by simp); omega) (HR.out.1.later RT0.out.bel).fit (by rw [bs_tx]; exact HP.out)).mono ?_
 rw [bs_tx]
 rintro e w2 ⟨rfl,hb⟩
 have RT1:Hid (Rt w w2 P M [w0,p,q] 0 0) := RT0.out.later hb
 clear hb
 have z0 := RT1.out.z0
 have z1 := RT1.out.z1
 have f0 := RT1.out.f0
 have f1 := RT1.out.f1
 have n0 := RT1.out.n0
 have n1 := RT1.out.n1
 have g0 := RT1.out.g0
 have g1 := RT1.out.g1
 have c2 := RT1.out.wd 2 q rfl
 go_wp2_with fail
 rw [rounds_succ]
 go_wp2_with fail
 obtain ⟨X2,eX2⟩:∃ X,X = w2.setCell ⟨w.heap.size + 3,0,none⟩ (.int .i64 (numV p:Int)) := ⟨_,rfl⟩
 have RT2:Hid (Rt w X2 P M [w0,p,q] (numV p) 0) := by rw [eX2]; exact RT1.out.set0 _
 rw [← eX2]
 clear eX2 z0 z1 f0 f1 n0 n1 g0 g1 c2
 refine (number_ok (tx q) X2 (by rw [tx_size]; have := PL.out q (by simp); omega) (HR.out.1.later RT2.out.bel).fit (by rw [bs_tx]; exact HQ.out)).mono ?_
 rw [bs_tx]
 rintro e w4 ⟨rfl,hb⟩
 have RT3:Hid (Rt w w4 P M [w0,p,q] (numV p) 0) := RT2.out.later hb
 clear hb
 have z0 := RT3.out.z0
 have z1 := RT3.out.z1
 have f0 := RT3.out.f0
 have f1 := RT3.out.f1
 have n0 := RT3.out.n0
 have n1 := RT3.out.n1
 have g0 := RT3.out.g0
 have g1 := RT3.out.g1
 go_wp2_with fail
 rw [rounds_succ]
 go_wp2_with fail
 obtain ⟨X4,eX4⟩:∃ X,X = w4.setCell ⟨w.heap.size + 3,1,none⟩ (.int .i64 (numV q:Int)) := ⟨_,rfl⟩
 have RT4:Hid (Rt w X4 P M [w0,p,q] (numV p) (numV q)) := by rw [eX4]; exact RT3.out.set1 _
 rw [← eX4]
 clear eX4 z0 z1 f0 f1 n0 n1 g0 g1
 have z0 := RT4.out.z0
 have z1 := RT4.out.z1
 have f0 := RT4.out.f0
 have f1 := RT4.out.f1
 have n0 := RT4.out.n0
 have n1 := RT4.out.n1
 have g0 := RT4.out.g0
 have g1 := RT4.out.g1
 go_region
 all_goals (go_wp2_with fail)
 have y0:((X4.drew.setCell ⟨w.heap.size + 1,0,none⟩ (.int .i64 (numV p:Int))).setCell ⟨w.heap.size + 1,1,none⟩ (.int .i64 (numV q:Int))).cell? ⟨w.heap.size + 1,0,none⟩ = some (.int .i64 (numV p:Int)) := by
  rw [World.cell?_setCell_other _ _ _ _ (by intro e; cases e)]
  exact World.cell?_setCell_same _ _ _ z0
 have y1:((X4.drew.setCell ⟨w.heap.size + 1,0,none⟩ (.int .i64 (numV p:Int))).setCell ⟨w.heap.size + 1,1,none⟩ (.int .i64 (numV q:Int))).cell? ⟨w.heap.size + 1,1,none⟩ = some (.int .i64 (numV q:Int)) := by
  refine World.cell?_setCell_same _ _ _ (u := .int .i64 0) ?_
  rw [World.cell?_setCell_other _ _ _ _ (by intro e; cases e)]
  exact z1
 (try simp only [Exit.inBlock,Exit.then])
 refine bodyPost_ret (ret_read rfl rfl rfl rfl y0 y1) rfl ?_
 exact ⟨rfl,((RT4.out.bel.drew).setCell (p := ⟨w.heap.size + 1,0,none⟩) (Nat.le_succ _) _).setCell (p := ⟨w.heap.size + 1,1,none⟩) (Nat.le_succ _) _⟩
end Go.Proofs.YtdmniblonikjlakGreatDoor.Run
