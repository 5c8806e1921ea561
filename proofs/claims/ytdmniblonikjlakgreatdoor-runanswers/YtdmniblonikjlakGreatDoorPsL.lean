/-
  Texts put together: CasW.
-/
import Derived.Test.YtdmniblonikjlakGreatDoorPsK


namespace Go.Proofs.YtdmniblonikjlakGreatDoor.Cas
open Go.RowKit
open Net (Pk pk RN Po NInv isIn)
open Cau (Sd Es toSd RC Old Keep flatE inc ctk ckC)
open Fif (own_lt own_block own_form own_mono Kp row_grown)
open His (Ev)
open Vec (Vw)
set_option linter.unusedVariables false
def d00 (Q:Nat) (vm:Value) (P:Nat → Nat):Loc := ⟨vm,P,Q,.slice none 0 0,.slice none 0 0,fun _ => [],fun _ => .slice none 0 0,fun _ => (0,0,0),[]⟩
theorem infoM:(Tryz.prog.info? 131).map (fun i => (i.zero,i.size,i.bytes)) = some (some (.pointer none),1,8) := by kernel_rfl
theorem info_mem:∃ i,Tryz.prog.info? 131 = some i ∧ i.zero = some (.pointer none) ∧ i.size = 1 ∧ i.bytes = 8 := by
 obtain ⟨i,hi,hzz⟩ := Option.map_eq_some_iff.1 infoM
 simp only [Prod.mk.injEq] at hzz
 exact ⟨i,hi,hzz.1,hzz.2.1,hzz.2.2⟩
theorem new_ptr (w:World) (B:Nat) (hB:B = w.heap.size) (x:Value) (t:TypeId):∀ j u,[x][j]? = some u → (w.alloc (.cells #[x] t)).cell? ((⟨B,0,none⟩:Addr).add j) = some u := by
 subst hB
 intro j u hj
 rw [Addr.add_lit,Nat.zero_add]
 rcases j with _ | j
 ·simpa using hj
 ·simp at hj
set_option maxRecDepth 100000 in
theorem zero61 (Q:Nat):∀ i,i < 97 → (Tryz.zeroCells130.setIfInBounds 1 (.pointer (some ⟨Q,0,none⟩)))[i]? = some (cgv (start 0) (d00 Q (.slice none 0 0) (fun _ => 0)) i) := by
 intro i hi
 rcases i with _ | _ | _ | _ | _ | _ | _ | _ | _ | _ | _ | _ | _ | _ | _ | _ | _ | _ | _ | _ | _ | _ | _ | _ | _ | _ | _ | _ | _ | _ | _ | _ | _ | _ | _ | _ | _ | _ | _ | _ | _ | _ | _ | _ | _ | _ | _ | _ | _ | _ | _ | _ | _ | _ | _ | _ | _ | _ | _ | _ | _ | _ | _ | _ | _ | _ | _ | _ | _ | _ | _ | _ | _ | _ | _ | _ | _ | _ | _ | _ | _ | _ | _ | _ | _ | _ | _ | _ | _ | _ | _ | _ | _ | _ | _ | _ | _ | i <;> first | rfl | omega
theorem size61:Tryz.zeroCells130.size = 97 := by kernel_rfl
def netZ:Array Value := #[.slice none 0 0,.bool false,.bool false,.bool false,.bool false,.bool false,.bool false,.bool false,.bool false,.bool false,.bool false,.bool false,.bool false,.bool false,.bool false,.bool false,.bool false,.bool false,.bool false,.bool false,.bool false,.bool false,.bool false,.bool false,.bool false,.bool false]
theorem zero54:∀ i,i < 26 → netZ[i]? = some (Net.rnv (fun _ _ => false) (.slice none 0 0) i) := by
 intro i hi
 rcases i with _ | _ | _ | _ | _ | _ | _ | _ | _ | _ | _ | _ | _ | _ | _ | _ | _ | _ | _ | _ | _ | _ | _ | _ | _ | _ | i <;> first | rfl | omega
structure NI (w wr:World) (i:Nat) (vm:Value) (P:Nat → Nat):Prop where
 rg:RG wr w.heap.size (w.heap.size + 1) (start i) (d00 w.heap.size vm P)
 bel:Below w.heap.size w wr
theorem ptrs_snoc (Q:Nat) (vm vm':Value) (P:Nat → Nat) (i B:Nat):ptrs (d00 Q vm' (fun j => if j = i then B else P j)) (i + 1) = ptrs (d00 Q vm P) i ++ [.pointer (some ⟨B,0,none⟩)] := by
 unfold ptrs
 rw [List.range_succ,List.map_append]
 congr 1
 ·apply List.map_congr_left
  intro j hj
  have := List.mem_range.1 hj
  show Value.pointer (some ⟨(if j = i then B else P j),0,none⟩) = .pointer (some ⟨P j,0,none⟩)
  rw [if_neg (by omega)]
 ·show [Value.pointer (some ⟨(if i = i then B else P i),0,none⟩)] = _
  rw [if_pos rfl]
theorem NI.more {w wr w5:World} {i:Nat} {vm vm':Value} {P:Nat → Nat} (h:NI w wr i vm P) {t:TypeId}
  (hg:((wr.alloc (.cells #[.int .i64 (i:Int),.int .i64 0,.int .i64 0,.int .i64 0,.int .i64 0,.int .i64 0,.slice none 0 0] 134)).alloc (.cells #[.pointer (some ⟨wr.heap.size,0,none⟩)] t)).grownBy w5 vm.ownBlock)
  (ho:w5.ownsRow w.heap.size 131 1 vm' (i + 1) (ptrs (d00 w.heap.size vm P) i ++ [.pointer (some ⟨wr.heap.size,0,none⟩)])) :
  NI w (w5.setCell ⟨w.heap.size + 1,0,none⟩ vm') (i + 1) vm' (fun j => if j = i then wr.heap.size else P j) := by
 have r := h.rg
 obtain ⟨W1,eW1⟩:∃ W1,W1 = wr.alloc (.cells #[.int .i64 (i:Int),.int .i64 0,.int .i64 0,.int .i64 0,.int .i64 0,.int .i64 0,.slice none 0 0] 134) := ⟨_,rfl⟩
 rw [← eW1] at hg
 have b1:Below wr.heap.size wr W1 := by rw [eW1]; exact (Below.refl _ _).alloc (Nat.le_refl _) _
 have s1:W1.heap.size = wr.heap.size + 1 := by rw [eW1]; simp
 have b2:Below W1.heap.size W1 (W1.alloc (.cells #[.pointer (some ⟨wr.heap.size,0,none⟩)] t)) := (Below.refl _ _).alloc (Nat.le_refl _) _
 have blk:∀ b,b < wr.heap.size → vm.ownBlock ≠ some b → w5.heap[b]? = wr.heap[b]? := fun b hb hne => (hg.block b (by simp; omega) (fun e => hne e.symm)).trans ((b2.block b (by omega)).trans (b1.block b hb))
 have blkP:w5.heap[wr.heap.size]? = W1.heap[wr.heap.size]? := (hg.block wr.heap.size (by simp; omega) (fun e => by have := (own_lt r.mem _ e.symm).2; omega)).trans (b2.block _ (by omega))
 have rowP:W1.rowIs wr.heap.size 134 7 (Cau.rcv (i:Int) [0,0,0,0,0] (.slice none 0 0)) := by
  rw [eW1]
  exact World.rowIs_alloc wr #[.int .i64 (i:Int),.int .i64 0,.int .i64 0,.int .i64 0,.int .i64 0,.int .i64 0,.slice none 0 0] 134 _ (fun j hj => by rcases j with _ | _ | _ | _ | _ | _ | _ | j <;> first | rfl | (exfalso; have:_ < 7 := hj; omega))
 have hCl := World.rowIs.lt r.row
 have hC5:w5.heap[w.heap.size + 1]? = wr.heap[w.heap.size + 1]? := blk _ hCl fun e => ty_ne (r.tyM e) r.tyC (by decide) rfl
 have hne:∀ b,b ≠ w.heap.size + 1 → (w5.setCell ⟨w.heap.size + 1,0,none⟩ vm').heap[b]? = w5.heap[b]? := fun b q => Deep.blk_setCell_other _ _ _ _ q
 have hszw:w.heap.size ≤ wr.heap.size := h.bel.size
 have hs5:wr.heap.size ≤ (w5.setCell ⟨w.heap.size + 1,0,none⟩ vm').heap.size := by
  have := hg.size
  simp [World.setCell] at this ⊢
  omega
 have tyV:∀ k,vm.ownBlock = some k → tyOf wr k = some 131 := fun k hk => r.tyM hk
 refine ⟨⟨(World.rowIs.set (World.rowIs.of_block r.row hC5) 0 _).congr fun j hj => ?_,?_,fun j hj => ?_,?_,World.ownsRow_nil _ _ _ _,fun x s q => (by cases q),fun b hb => absurd hb List.not_mem_nil,fun j k hj hk hjk => ?_,Nat.le_succ _⟩,?_⟩
 ·unfold cgv
  by_cases e:j = 0
  ·rw [if_pos e,if_pos e]
   rfl
  ·rw [if_neg e,if_neg e,if_neg e]
   rfl
 ·show (w5.setCell ⟨w.heap.size + 1,0,none⟩ vm').ownsRow w.heap.size 131 1 vm' (i + 1) (ptrs (d00 w.heap.size vm' (fun j => if j = i then wr.heap.size else P j)) (i + 1))
  rw [ptrs_snoc w.heap.size vm vm' P i wr.heap.size]
  exact own_block ho fun k q => hne k (ty_ne (ty_own ho q) ((ty_same hC5).trans r.tyC) (by decide))
 ·have hj':j < i + 1 := hj
  show RC _ w.heap.size (· ∈ ([]:List Nat)) (if j = i then wr.heap.size else P j) (j:Int) [0,0,0,0,0] [] (.slice none 0 0) ∧ ([]:List Es).map toSd = []
  refine ⟨?_,rfl⟩
  by_cases e:j = i
  ·rw [if_pos e,e]
   refine ⟨World.rowIs.of_block rowP ((hne _ (fun q => ?_)).trans blkP),World.ownsRow_nil _ _ _ _,fun e he => absurd he List.not_mem_nil,rfl,hszw,List.not_mem_nil,fun k q => (by cases q),fun b hb => absurd hb List.not_mem_nil⟩
   omega
  ·rw [if_neg e]
   have q := (r.rc j (show j < i by omega)).1
   have hPl := World.rowIs.lt q.row
   refine ⟨World.rowIs.of_block q.row ((hne _ (ty_ne (ty_row q.row) r.tyC (by decide))).trans (blk _ hPl fun z => ty_ne (tyV _ z) (ty_row q.row) (by decide) rfl)),World.ownsRow_nil _ _ _ _,fun e he => absurd he List.not_mem_nil,rfl,q.low,List.not_mem_nil,fun k z => (by cases z),fun b hb => absurd hb List.not_mem_nil⟩
 ·refine r.rn.of_blocks ?_ (fun k q => by cases q)
  exact (hne _ (ty_ne r.tyQ r.tyC (by decide))).trans (blk _ (World.rowIs.lt r.rn.row) fun z => ty_ne (tyV _ z) r.tyQ (by decide) rfl)
 ·have hj':j < i + 1 := hj
  have hk':k < i + 1 := hk
  refine ⟨?_,fun b q => (by cases q)⟩
  show (if j = i then wr.heap.size else P j) ≠ (if k = i then wr.heap.size else P k)
  by_cases e1:j = i
  ·rw [if_pos e1,if_neg (by omega)]
   have := World.rowIs.lt (r.rc k (show k < i by omega)).1.row
   exact fun z => by
    have z':wr.heap.size = P k := z
    have:P k < wr.heap.size := this
    omega
  ·rw [if_neg e1]
   by_cases e2:k = i
   ·rw [if_pos e2]
    have := World.rowIs.lt (r.rc j (show j < i by omega)).1.row
    exact fun z => by
     have:P j < wr.heap.size := this
     omega
   ·rw [if_neg e2]
    exact (r.sep j k (show j < i by omega) (show k < i by omega) hjk).1
 ·refine Below.setCell (p := ⟨w.heap.size + 1,0,none⟩) ?_ (Nat.le_succ _) _
  have q1:Below w.heap.size w (W1.alloc (.cells #[.pointer (some ⟨wr.heap.size,0,none⟩)] t)) := (h.bel.trans (b1.mono hszw)).trans (b2.mono (by omega))
  exact q1.grown hg (by simp; omega) (fun k hk => (own_lt r.mem k hk).1)
set_option maxRecDepth 100000 in
set_option maxHeartbeats 2000000 in
theorem castNew (n:Nat) (h2:2 ≤ n) (h5:n ≤ 5) (w:World) :
  Calls Tryz.prog 25 #[.int .i64 (n:Int)] w fun x w' => ∃ C d,x = .returned (.pointer (some ⟨C,0,none⟩)) ∧ RG w' w.heap.size C (start n) d ∧ Below w.heap.size w w' := by
 have hn5:(n:Int) ≤ 5 := by omega
 have hn2:(2:Int) ≤ (n:Int) := by omega
 go_enter Tryz.func25,Tryz.ntmps25
 go_wp2_with fail
 obtain ⟨W,eW⟩:∃ W,W = (w.alloc (.cells netZ 126)).alloc (.cells (Tryz.zeroCells130.setIfInBounds 1 (.pointer (some ⟨w.heap.size,0,none⟩))) 130) := ⟨_,rfl⟩
 unfold netZ at eW
 rw [← eW]
 have M0:Hid (NI w W 0 (.slice none 0 0) (fun _ => 0)) := by
  have hr1 := World.rowIs_alloc w netZ 126 (Net.rnv (fun _ _ => false) (.slice none 0 0)) (fun i hi => zero54 i (by simpa [netZ] using hi))
  have hr2 := World.rowIs_alloc (w.alloc (.cells netZ 126)) (Tryz.zeroCells130.setIfInBounds 1 (.pointer (some ⟨w.heap.size,0,none⟩))) 130 (cgv (start 0) (d00 w.heap.size (.slice none 0 0) (fun _ => 0))) (fun i hi => zero61 w.heap.size i (by rw [Array.size_setIfInBounds,size61] at hi; exact hi))
  have eW':W = (w.alloc (.cells netZ 126)).alloc (.cells (Tryz.zeroCells130.setIfInBounds 1 (.pointer (some ⟨w.heap.size,0,none⟩))) 130) := eW
  have hsz:(w.alloc (.cells netZ 126)).heap.size = w.heap.size + 1 := by simp
  rw [← eW',hsz,Array.size_setIfInBounds,size61] at hr2
  have hr1':W.rowIs w.heap.size 126 26 (Net.rnv (fun _ _ => false) (.slice none 0 0)) := by
   rw [eW']
   exact World.rowIs.of_block hr1 (Below.heap_alloc _ _ _ (by simp))
  refine ⟨⟨hr2,World.ownsRow_nil _ _ _ _,fun i hi => absurd hi (Nat.not_lt_zero i),⟨hr1',World.ownsRow_nil _ _ _ _,Nat.le_refl _⟩,World.ownsRow_nil _ _ _ _,fun x s q => (by cases q),fun b hb => absurd hb List.not_mem_nil,fun i j hi => absurd hi (Nat.not_lt_zero i),Nat.le_succ _⟩,?_⟩
  rw [eW']
  exact ((Below.refl _ _).alloc (Nat.le_refl _) _).alloc (by simp) _
 obtain ⟨ie,hie,hz0,hz1,hz2⟩ := info_mem
 have HI:Hid (Tryz.prog.info? 131 = some ie ∧ ie.zero = some (.pointer none) ∧ ie.size = 1 ∧ ie.bytes = 8) := ⟨hie,hz0,hz1,hz2⟩
 clear eW hie hz0 hz1 hz2
 go_loopw [4] (fun y wr => ∃ i:Nat,i ≤ n ∧ y = .int .i64 (i:Int) ∧ Hid (∃ vm P,NI w wr i vm P)) (fun y _ => n - (intOf y).toNat)
 case atStart => exact ⟨0,by omega,rfl,_,_,M0.out⟩
 case round =>
  clear M0
  obtain ⟨i,hin,rfl,hQ⟩ := hrel
  by_cases hlt:i < n
  ·obtain ⟨vm,P,hN⟩ := hQ.out
   obtain ⟨c0,z0⟩ := hN.rg.c0
   obtain ⟨qm,cm,evm⟩ := own_form hN.rg.mem
   have evm':vm = .slice qm i cm := evm
   subst evm'
   have R:Hid (NI w wr i (.slice qm i cm) P ∧ w.heap.size ≤ wr.heap.size ∧ w.heap.size + 1 < wr.heap.size) := ⟨hN,hN.bel.size,World.rowIs.lt hN.rg.row⟩
   have hlti:(i:Int) < (n:Int) := by omega
   have NC:Hid (some (w.heap.size + 1) ≠ (Value.slice qm i cm).ownBlock) := fun e => ty_ne (hN.rg.tyM e.symm) hN.rg.tyC (by decide) rfl
   have hWC:w.heap.size + 1 < wr.heap.size := World.rowIs.lt hN.rg.row
   have c0':wr.cell? ⟨w.heap.size + 1,0,none⟩ = some (.slice qm i cm) := c0
   clear hN hQ c0 evm
   go_wp2_with (at_builtin; refine wpList_append_lies _ rfl _ _ 127 rfl w.heap.size 131 ie (.pointer none) 1 8 Tryz.underlying127 HI.out.1 HI.out.2.1 HI.out.2.2.1 HI.out.2.2.2 rfl (by decide) (.slice qm i cm) i (ptrs (d00 w.heap.size (.slice qm i cm) P) i) rfl (by exact own_block R.out.1.rg.mem (fun b hb => by have q := (own_lt R.out.1.rg.mem b hb).2; exact ((((Below.refl wr.heap.size wr).alloc (Nat.le_refl _) _).alloc (by simp) _).block b q))) ⟨wr.heap.size + 1,0,none⟩ 1 1 [.pointer (some ⟨wr.heap.size,0,none⟩)] rfl rfl (by exact new_ptr _ _ (by simp) _ _) (by intro u hu; rw [List.mem_singleton.1 hu]; rfl) (by omega) (by unfold maxLen; omega) (by omega) (by have := R.out.2.1; simp; omega) (wr.heap.size + 2) (by simp) ?_; intro gg gc w5 hown hgrow hat _; have G5:Hid _ := hgrow; have O5:Hid (w5.ownsRow w.heap.size 131 1 (.slice (some ⟨gg,0,none⟩) (i + 1) gc) (i + 1) (ptrs (d00 w.heap.size (.slice qm i cm) P) i ++ [.pointer (some ⟨wr.heap.size,0,none⟩)])) := hown; have l5:w5.cell? ⟨w.heap.size + 1,0,none⟩ = some (.slice qm i cm) := ((G5.out.cell_far ⟨w.heap.size + 1,0,none⟩ (by have := R.out.2.2; simp; omega) NC.out).trans (((((Below.refl wr.heap.size wr).alloc (Nat.le_refl _) _).alloc (by simp) _).cell (p := ⟨w.heap.size + 1,0,none⟩) R.out.2.2).trans c0')); have m5:w5.frozen? ⟨w.heap.size + 1,0,none⟩ = false := ((G5.out.frozen_far ⟨w.heap.size + 1,0,none⟩ (by have := R.out.2.2; simp; omega) NC.out).trans (((((Below.refl wr.heap.size wr).alloc (Nat.le_refl _) _).alloc (by simp) _).frozen (p := ⟨w.heap.size + 1,0,none⟩) R.out.2.2).trans z0)); clear hown hgrow hat)
   go_roundw
   case rel => exact ⟨i + 1,by omega,by go_num,_,_,R.out.1.more G5.out O5.out⟩
   case measure => simp [intOf]; omega
  ·have hi:i = n := by omega
   subst hi
   go_wp2
   go_ret
   obtain ⟨vm,P,hN⟩ := hQ.out
   exact ⟨_,_,rfl,hN.rg,hN.bel⟩
end Go.Proofs.YtdmniblonikjlakGreatDoor.Cas
