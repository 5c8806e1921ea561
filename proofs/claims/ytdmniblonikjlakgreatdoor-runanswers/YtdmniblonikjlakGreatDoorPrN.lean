/-
  Texts put together: NetK, NetF, NetG, NetD, NetH, NetI, NetJ, NetP.
-/
import Derived.Test.YtdmniblonikjlakGreatDoorPrB
import Derived.Maps.OwnSet
import Derived.DeepKeys4
import Derived.MapViews
import Derived.WalkLawsBesides
import Derived.Deep.QuietTactic
import Derived.BigQuiet
import Derived.Deep.RegionHeld3
import Derived.Handy
import Derived.Laws.ResultCell
import Derived.Deep.RegionLaw
import Derived.Lib.SliceRun
import Derived.Lib.LazyBuf
import Derived.Deep.AppendLies
import Derived.Laws.AppendOwnNone


namespace Go.Proofs.YtdmniblonikjlakGreatDoor.Nw
open Go.RowKit Go.Maps
open Net
set_option linter.unusedVariables false
theorem laidOut:laidOutB Tryz.prog = true := by kernel_rfl
theorem wideK:(match Tryz.prog.underlying 211 with | some (.array _ _) | some (.struct _) => true | _ => false) = true := by kernel_rfl
theorem rowK:(211:TypeId) < Tryz.prog.types.size := of_decide_eq_true (by kernel_rfl)
set_option maxRecDepth 100000 in
theorem law:Keyed Tryz.prog 211 := Keyed.of_law (deep_law_laid laidOut (m := 2) (by omega) rowK (by kernel_rfl) wideK)
def kl (a b:Int):Lit := .string (keyBytes [.int .i64 a,.int .i64 b])
def okK (a b:Int):Prop := (Lit.int .i64 a).wf = true ∧ (Lit.int .i64 b).wf = true
theorem deepK:Tryz.prog.keyType 211 = true := by kernel_rfl
theorem cellsK:Tryz.prog.cellsOf 211 = 2 := by kernel_rfl
theorem cellsI:Tryz.prog.cellsOf 3 = 1 := by kernel_rfl
set_option maxRecDepth 100000 in
theorem keyK {a b:Int} (h:okK a b):keyOf Tryz.prog 211 (.agg #[.int .i64 a,.int .i64 b]) = some (kl a b) := by
 unfold keyOf
 simp only [Tryz.underlying211,deepK,Bool.true_and]
 have hf:(Value.agg #[.int .i64 a,.int .i64 b]).formed Tryz.prog 211 = true := by simp [Value.formed,Tryz.underlying211,cellsK]
 rw [hf]
 obtain ⟨k,hk⟩:∃ k,Tryz.prog.types.size = k + 1 := ⟨Tryz.prog.types.size - 1,by have h0:0 < Tryz.prog.types.size := Nat.lt_of_le_of_lt (Nat.zero_le _) rowK; omega⟩
 rw [hk]
 simp only [Value.cells,Program.keyLits,Tryz.underlying211]
 simp [List.mapM_cons,Tryz.underlying3,cellsK,cellsI,h.1,h.2,kl]
theorem mem5_num {a:Int} (h:mem5 a = true):0 ≤ a ∧ a ≤ 4 := by
 simp [mem5] at h
 exact h
theorem mem5_of {a:Int} (h1:0 ≤ a) (h2:a ≤ 4):mem5 a = true := by simp [mem5]; omega
theorem mem5_no {a:Int} (h:mem5 a = false):a < 0 ∨ 4 < a := by
 simp [mem5] at h
 omega
theorem okK_of {a b:Int} (ha:mem5 a = true) (hb:mem5 b = true):okK (min a b) (max a b) := by
 have h1 := mem5_num ha
 have h2 := mem5_num hb
 refine ⟨?_,?_⟩ <;> simp [Lit.wf,IntKind.min,IntKind.max,IntKind.bits,IntKind.signed] <;> omega
def wk (a b:Int):Lit := kl (min a b) (max a b)
def RV (v:Value):Option (DataW Value × List MemPlace) := some (.held v,[])
theorem RV_inv {u v:Value} {ps:List MemPlace} (h:RV u = some (.held v,ps)):u = v := by
 have h1:(DataW.held u,([]:List MemPlace)) = (DataW.held v,ps) := Option.some.inj h
 have h2:DataW.held u = DataW.held v := (Prod.mk.inj h1).1
 exact DataW.held.inj h2
def cnt (no:Int → Int → Bool):Nat := (no 0 1).toNat + (no 0 2).toNat + (no 0 3).toNat + (no 0 4).toNat + (no 1 2).toNat + (no 1 3).toNat + (no 1 4).toNat + (no 2 3).toNat + (no 2 4).toNat + (no 3 4).toNat
structure MC (D:DataW Value) (no:Int → Int → Bool):Prop where
 tidy:Tidy D
 has:∀ a b,mem5 a = true → mem5 b = true → a ≠ b → Maps.has D (wk a b) = no a b
 at_:∀ k,Maps.has D k = true → ∀ z,D.atKey k z = .held (.agg #[])
 size:Maps.size D = cnt no
theorem MC.start:MC (.map []) (fun _ _ => false) := ⟨tidy_empty,fun _ _ _ _ _ => rfl,fun k h => by simp [Maps.has] at h,rfl⟩
theorem own_heap {k:TypeId} {w w':World} {b n:Nat} {D:DataW Value} (h:w.ownsMap Tryz.prog k RV b n D) (he:w'.heap[b]? = w.heap[b]?):w'.ownsMap Tryz.prog k RV b n D := by
 obtain ⟨es,clock,hb,r⟩ := h
 exact ⟨es,clock,by rw [he]; exact hb,r⟩
end Go.Proofs.YtdmniblonikjlakGreatDoor.Nw


namespace Go.Proofs.YtdmniblonikjlakGreatDoor.Nw
open Go.RowKit Go.Maps
open Net
open Fif (own_lt own_block own_form own_mono Kp ret_bool)
set_option linter.unusedVariables false
def nsv (v:Value) (mb:Nat) (j:Nat):Value := if j = 0 then v else .map (some mb)
structure NF (w:World) (base P mb:Nat) (no:Int → Int → Bool) (l:List Pk) (v:Value):Prop where
 row:w.rowIs P 155 2 (nsv v mb)
 map:∃ D,w.ownsMap Tryz.prog 211 RV mb (Maps.size D) D ∧ MC D no
 own:Po w base v l
 low:base ≤ P ∧ base ≤ mb
def fpOf (P mb:Nat) (v:Value):List Nat := P :: mb :: v.ownBlock.toList
variable {w w':World} {base P mb:Nat} {no:Int → Int → Bool} {l:List Pk} {v:Value}
theorem NF.list (g:NF w base P mb no l v):w.cell? ⟨P,0,none⟩ = some v ∧ w.frozen? ⟨P,0,none⟩ = false := ⟨World.rowIs.cell g.row (i := 0) (by omega),World.rowIs.frozen g.row 0⟩
theorem NF.cut (g:NF w base P mb no l v):w.cell? ⟨P,1,none⟩ = some (.map (some mb)) ∧ w.frozen? ⟨P,1,none⟩ = false := ⟨World.rowIs.cell g.row (i := 1) (by omega),World.rowIs.frozen g.row 1⟩
theorem NF.lt (g:NF w base P mb no l v):P < w.heap.size ∧ mb < w.heap.size := by
 obtain ⟨D,h,_⟩ := g.map
 exact ⟨World.rowIs.lt g.row,h.lt⟩
theorem row_apart {f:Nat → Value} (r:w.rowIs P 155 2 f) {b t s n:Nat} (ht:t ≠ 155) {u:Value} {xs:List Value} (o:w.ownsRow b t s u n xs) {k:Nat} (hk:u.ownBlock = some k):k ≠ P := by
 rcases o.2 with ⟨h2,_⟩ | ⟨g',cap',cur,hv,hbg,hh,_⟩
 ·rw [h2] at hk; cases hk
 ·rw [hv] at hk
  have:g' = k := by simpa [Value.ownBlock] using hk
  subst this
  intro e
  subst e
  obtain ⟨c,hc,_⟩ := r
  rw [hc] at hh
  injection hh with hh
  injection hh with _ hh _
  exact ht hh.symm
theorem map_apart {k':TypeId} {D:DataW Value} {nn:Nat} (r:w.ownsMap Tryz.prog k' RV mb nn D) {b t s n:Nat} {u:Value} {xs:List Value} (o:w.ownsRow b t s u n xs) {k:Nat} (hk:u.ownBlock = some k):k ≠ mb := by
 rcases o.2 with ⟨h2,_⟩ | ⟨g',cap',cur,hv,hbg,hh,_⟩
 ·rw [h2] at hk; cases hk
 ·rw [hv] at hk
  have:g' = k := by simpa [Value.ownBlock] using hk
  subst this
  intro e
  subst e
  obtain ⟨es',clock,hb,_⟩ := r
  rw [hb] at hh
  cases hh
theorem NF.vP (g:NF w base P mb no l v) {k:Nat} (hk:v.ownBlock = some k):k ≠ P := row_apart g.row (by decide) g.own hk
theorem NF.vM (g:NF w base P mb no l v) {k:Nat} (hk:v.ownBlock = some k):k ≠ mb := by
 obtain ⟨D,h,_⟩ := g.map
 exact map_apart h g.own hk
theorem NF.fp (g:NF w base P mb no l v):∀ b ∈ fpOf P mb v,base ≤ b ∧ b < w.heap.size := by
 intro b hb
 rcases List.mem_cons.1 hb with rfl | hb
 ·exact ⟨g.low.1,g.lt.1⟩
 ·rcases List.mem_cons.1 hb with rfl | hb
  ·exact ⟨g.low.2,g.lt.2⟩
  ·exact own_lt g.own b (by simpa using hb)
theorem NF.of_blocks (g:NF w base P mb no l v) (h:∀ b ∈ fpOf P mb v,w'.heap[b]? = w.heap[b]?):NF w' base P mb no l v := by
 obtain ⟨D,hm,q⟩ := g.map
 exact ⟨World.rowIs.of_block g.row (h P (by simp [fpOf])),⟨D,own_heap hm (h mb (by simp [fpOf])),q⟩,own_block g.own fun k hk => h k (by simp [fpOf,hk]),g.low⟩
theorem NF.later (g:NF w base P mb no l v) (hb:Below w.heap.size w w'):NF w' base P mb no l v := g.of_blocks fun b h => hb.block b (g.fp b h).2
theorem NF.setV {v':Value} {l':List Pk} (r:w.rowIs P 155 2 (nsv v mb)) (m:∃ D,w.ownsMap Tryz.prog 211 RV mb (Maps.size D) D ∧ MC D no) (hl:base ≤ P ∧ base ≤ mb) (o:Po w base v' l'):NF (w.setCell ⟨P,0,none⟩ v') base P mb no l' v' := by
 obtain ⟨D,hm,q⟩ := m
 have hne:mb ≠ P := by
  obtain ⟨es',clock,hb,_⟩ := hm
  obtain ⟨c,hc,_⟩ := r
  intro e
  rw [← e,hb] at hc
  cases hc
 refine ⟨(World.rowIs.set r 0 _).congr fun j hj => ?_,⟨D,own_heap hm (Deep.blk_setCell_other _ _ _ _ hne),q⟩,own_block o fun k hk => Deep.blk_setCell_other _ _ _ _ (row_apart r (by decide) o hk),hl⟩
 unfold nsv
 by_cases e:j = 0
 ·rw [if_pos e,if_pos e]
 ·rw [if_neg e,if_neg e,if_neg e]
theorem zeroE (W:World):(zeroValue 208).run Tryz.prog W = .ok (.agg #[]) W := by kernel_rfl
theorem NF.look (g:NF w base P mb no l v) {a b:Int} (ha:mem5 a = true) (hb:mem5 b = true) (hne:a ≠ b):∀ W:World,W.heap[mb]? = w.heap[mb]? → (Instr.lookup 153 (.map (some mb)) (.agg #[.int .i64 (min a b),.int .i64 (max a b)]) true).run Tryz.prog W = .ok (.tuple #[.agg #[],.bool (no a b)]) W := by
 intro W hW
 obtain ⟨D,h,q⟩ := g.map
 have h':W.ownsMap Tryz.prog 211 RV mb (Maps.size D) D := own_heap h hW
 obtain ⟨u,ps,e1,e2⟩ := h'.look_ok law Tryz.underlying153 (zeroE W) (zd := .held _) (zp := []) rfl (keyK (okK_of ha hb))
 have hh:Maps.has D (kl (min a b) (max a b)) = no a b := q.has a b ha hb hne
 rw [hh] at e1
 have:u = .agg #[] := by
  cases hn:no a b
  ·rw [hn] at hh
   rw [atKey_of_not_has hh] at e2
   exact RV_inv e2
  ·rw [hn] at hh
   rw [q.at_ _ hh] at e2
   exact RV_inv e2
 rw [e1,this]
end Go.Proofs.YtdmniblonikjlakGreatDoor.Nw


namespace Go.Proofs.YtdmniblonikjlakGreatDoor.Nw
open Go.RowKit Go.Maps
open Net
open Fif (own_lt own_block own_form own_mono Kp ret_bool)
set_option linter.unusedVariables false
theorem member_yes (x:Int) (w:World) (h1:0 ≤ x) (h2:x ≤ 4):Calls Tryz.prog 158 #[.int .i64 x] w fun e w' => e = .returned (.bool true) ∧ w' = w := by
 go_enter Tryz.func158,Tryz.ntmps158
 go_wp2
 go_ret
 exact ⟨ret_bool (decide_eq_true (by omega)),rfl⟩
theorem member_no (x:Int) (w:World) (h:x < 0 ∨ 4 < x):Calls Tryz.prog 158 #[.int .i64 x] w fun e w' => e = .returned (.bool false) ∧ w' = w := by
 by_cases h1:0 ≤ x
 ·have h2:¬ x ≤ 4 := by omega
  have h3:¬ x < 4 + 1 := by omega
  go_enter Tryz.func158,Tryz.ntmps158
  go_wp2
  go_ret
  exact ⟨ret_bool (decide_eq_false (by omega)),rfl⟩
 ·go_enter Tryz.func158,Tryz.ntmps158
  go_wp2
  go_ret
  exact ⟨rfl,rfl⟩
theorem member_any (x:Int) (w:World):Calls Tryz.prog 158 #[.int .i64 x] w fun e w' => e = .returned (.bool (mem5 x)) ∧ w' = w := by
 cases h:mem5 x
 ·exact member_no x w (mem5_no h)
 ·exact member_yes x w (mem5_num h).1 (mem5_num h).2
theorem word_yes (x:Int) (w:World) (h1:1 ≤ x) (h2:x ≤ 30):Calls Tryz.prog 114 #[.int .i64 x] w fun e w' => e = .returned (.bool true) ∧ w' = w := by
 go_enter Tryz.func114,Tryz.ntmps114
 go_wp2
 go_ret
 exact ⟨rfl,rfl⟩
theorem word_no (x:Int) (w:World) (h:x < 1 ∨ 30 < x):Calls Tryz.prog 114 #[.int .i64 x] w fun e w' => e = .returned (.bool false) ∧ w' = w := by
 by_cases h1:1 ≤ x
 ·have h2:¬ x ≤ 30 := by omega
  have h3:¬ x < 30 + 1 := by omega
  go_enter Tryz.func114,Tryz.ntmps114
  go_wp2
  go_ret
  exact ⟨rfl,rfl⟩
 ·go_enter Tryz.func114,Tryz.ntmps114
  go_wp2
  go_ret
  exact ⟨rfl,rfl⟩
theorem two_any (a b:Int) (w:World):Calls Tryz.prog 115 #[.int .i64 a,.int .i64 b] w fun e w' => e = .returned (errF (cutC a b)) ∧ w' = w := by
 cases ha:mem5 a
 ·have hc:cutC a b = 1 := if_neg fun q => by rw [ha] at q; cases q.1
  rw [hc,errF_no (by decide)]
  go_enter Tryz.func115,Tryz.ntmps115
  go_wp2_with fail
  refine (member_any a w).mono ?_
  rintro e w1 ⟨rfl,rfl⟩
  rw [ha]
  go_wp2
  go_ret
  exact ⟨rfl,rfl⟩
 ·cases hb:mem5 b
  ·have hc:cutC a b = 1 := if_neg fun q => by rw [hb] at q; cases q.2
   rw [hc,errF_no (by decide)]
   go_enter Tryz.func115,Tryz.ntmps115
   go_wp2_with fail
   refine (member_any a w).mono ?_
   rintro e w1 ⟨rfl,rfl⟩
   rw [ha]
   go_wp2_with fail
   refine (member_any b _).mono ?_
   rintro e w1 ⟨rfl,rfl⟩
   rw [hb]
   go_wp2
   go_ret
   exact ⟨rfl,rfl⟩
  ·by_cases hne:a = b
   ·have hc:cutC a b = 3 := by unfold cutC; rw [if_pos ⟨ha,hb⟩,if_pos hne]
    rw [hc,errF_no (by decide)]
    subst hne
    go_enter Tryz.func115,Tryz.ntmps115
    go_wp2_with fail
    refine (member_any a w).mono ?_
    rintro e w1 ⟨rfl,rfl⟩
    rw [ha]
    go_wp2_with fail
    refine (member_any a _).mono ?_
    rintro e w1 ⟨rfl,rfl⟩
    rw [ha]
    go_wp2
    go_ret
    exact ⟨rfl,rfl⟩
   ·have hc:cutC a b = 0 := by unfold cutC; rw [if_pos ⟨ha,hb⟩,if_neg hne]
    rw [hc,errF_ok]
    have hd:decide (a = b) = false := decide_eq_false hne
    go_enter Tryz.func115,Tryz.ntmps115
    go_wp2_with fail
    refine (member_any a w).mono ?_
    rintro e w1 ⟨rfl,rfl⟩
    rw [ha]
    go_wp2_with fail
    refine (member_any b _).mono ?_
    rintro e w1 ⟨rfl,rfl⟩
    rw [hb]
    go_wp2
    go_ret
    exact ⟨rfl,rfl⟩
theorem results_one {fn:Func} {p:Tmp} {ty:TypeId} (h:fn.results = #[.cell p ty]) (tmps:Array Value) (P:Program) (w:World) :
  (results fn tmps).run P w = ((asAddr (tmps.getD p undef)).run P w).andThen fun a w₁ => (loadVar ty a).run P w₁ := by
 simp only [results,h]
 simp [Sem.run_bind]
theorem retW {fn:Func} {tmps:Array Value} {w:World} {p:Tmp} {B:Nat} {v0 v1:Value} (h:fn.results = #[.cell p 211]) (hp:tmps.getD p undef = .pointer (some ⟨B,0,none⟩))
  (y0:w.cell? ⟨B,0,none⟩ = some v0) (y1:w.cell? ⟨B,1,none⟩ = some v1):(results fn tmps).run Tryz.prog w = .ok (.agg #[v0,v1]) w := by
 rw [results_one h,hp]
 simp [asAddr,go_sem,y0,y1]
set_option maxRecDepth 100000 in
theorem way_any (a b:Int) (w:World):Calls Tryz.prog 117 #[.int .i64 a,.int .i64 b] w fun e w' => e = .returned (.agg #[.int .i64 (min a b),.int .i64 (max a b)]) ∧ Below w.heap.size w w' := by
 have e1:(if b < a then b else a) = min a b := by split <;> omega
 have e2:(if a < b then b else a) = max a b := by split <;> omega
 go_enter Tryz.func117,Tryz.ntmps117
 go_wp2
 refine bodyPost_ret (v := .agg #[.int .i64 (min a b),.int .i64 (max a b)]) (retW (B := w.heap.size) rfl rfl (by go_cell) (by go_cell)) rfl ?_
 exact ⟨rfl,(Below.refl _ _).alloc (Nat.le_refl _) _⟩
variable {base P mb:Nat} {no:Int → Int → Bool} {l:List Pk} {v:Value}
theorem has_any (i:Int) (w:World) (g:NF w base P mb no l v):Calls Tryz.prog 81 #[.pointer (some ⟨P,0,none⟩),.int .i64 i] w fun e w' => e = .returned (.bool (isIn l i)) ∧ w' = w := by
 obtain ⟨c0,z0⟩ := g.list
 obtain ⟨q,cap,rfl⟩ := own_form g.own
 have e:isIn l i = (decide (0 ≤ i) && decide (i < (l.length:Int))) := rfl
 rw [e]
 clear g e
 by_cases h0:0 ≤ i
 ·have hd:decide (i ≥ 0) = true := decide_eq_true h0
  go_enter Tryz.func81,Tryz.ntmps81
  go_wp2
  go_ret
  exact ⟨ret_bool (by simp [h0]),rfl⟩
 ·have hd:decide (i ≥ 0) = false := decide_eq_false h0
  go_enter Tryz.func81,Tryz.ntmps81
  go_wp2
  go_ret
  exact ⟨ret_bool (by simp),rfl⟩
set_option maxRecDepth 100000 in
theorem newF (w:World):Calls Tryz.prog 29 #[] w fun x w' => x = .returned (.pointer (some ⟨w.heap.size + 1,0,none⟩)) ∧ NF w' w.heap.size (w.heap.size + 1) w.heap.size (fun _ _ => false) [] (.slice none 0 0) ∧ Below w.heap.size w w' := by
 have hmk:∀ W:World,(Instr.makeMap 153 none).run Tryz.prog W = .ok (.map (some W.heap.size)) (W.alloc (.map #[] 0)) := fun _ => rfl
 have A0:Hid (((w.alloc (.map #[] 0)).alloc (.cells #[.slice none 0 0,.map (some w.heap.size)] 155)).rowIs (w.heap.size + 1) 155 2 (nsv (.slice none 0 0) w.heap.size)) := by
  have q := World.rowIs_alloc (w.alloc (.map #[] 0)) #[.slice none 0 0,.map (some w.heap.size)] 155 (nsv (.slice none 0 0) w.heap.size) (fun i hi => by
   rcases i with _ | _ | i <;> first | rfl | (exfalso; have:_ < 2 := hi; omega))
  show World.rowIs _ _ _ _ _
  simpa using q
 go_enter Tryz.func29,Tryz.ntmps29
 go_wp2
 go_ret
 refine ⟨rfl,⟨A0.out,⟨.map [],own_heap (World.ownsMap_made w _ _ _) ?_,MC.start⟩,World.ownsRow_nil _ _ _ _,⟨Nat.le_succ _,Nat.le_refl _⟩⟩,((Below.refl _ _).alloc (Nat.le_refl _) _).alloc (by simp) _⟩
 rw [Below.heap_alloc _ _ _ (by simp)]
theorem below_push {w X w':World} {ob:Obj} (h:Below X.heap.size X w') (e:X.heap = w.heap.push ob) (e1:X.os = w.os) (e2:X.tape = w.tape) (e3:X.output = w.output):Below w.heap.size w w' := by
 have hs:X.heap.size = w.heap.size + 1 := by rw [e]; simp
 exact ⟨h.os.trans e1,h.tape.trans e2,h.output.trans e3,by have := h.size; omega,fun k hk => (h.block k (by omega)).trans (blk_push e hk)⟩
set_option maxRecDepth 100000 in
theorem cut_any (a b:Int) (w:World) (g:NF w base P mb no l v) (ha:mem5 a = true) (hb:mem5 b = true) (hne:a ≠ b):Calls Tryz.prog 82 #[.pointer (some ⟨P,0,none⟩),.int .i64 a,.int .i64 b] w fun e w' => e = .returned (.bool (no a b)) ∧ Below w.heap.size w w' := by
 have HF:Hid (∀ w':World,(∀ k,k < w.heap.size → w'.heap[k]? = w.heap[k]?) → w'.cell? ⟨P,1,none⟩ = some (.map (some mb)) ∧ (Instr.lookup 153 (.map (some mb)) (.agg #[.int .i64 (min a b),.int .i64 (max a b)]) true).run Tryz.prog w' = .ok (.tuple #[.agg #[],.bool (no a b)]) w') := by
  intro w' h
  exact ⟨(World.cell?_of_block (a := ⟨P,1,none⟩) (h P g.lt.1)).trans g.cut.1,g.look ha hb hne w' (h mb g.lt.2)⟩
 obtain ⟨n,en⟩:∃ n,n = no a b := ⟨_,rfl⟩
 rw [← en] at HF ⊢
 clear g ha hb hne en
 go_enter Tryz.func82,Tryz.ntmps82
 go_wp2_with fail
 go_region_held3 (fun w' => w'.cell? ⟨P,1,none⟩ = some (.map (some mb)) ∧ (Instr.lookup 153 (.map (some mb)) (.agg #[.int .i64 (min a b),.int .i64 (max a b)]) true).run Tryz.prog w' = .ok (.tuple #[.agg #[],.bool n]) w') (first | exact HF.out _ (fun _ _ => rfl) | exact HF.out _ B4.out.block | exact HF.out _ (fun k hk => blk_push rfl hk) | exact HF.out _ (fun k hk => (blk_push rfl (Nat.lt_of_lt_of_le hk B4.out.size)).trans (B4.out.block k hk))) (first
  | (go_at_call 117; refine (way_any a b _).mono ?_; rintro e4 w4 ⟨rfl,hb⟩; have B4:Hid (Below w.heap.size w w4) := (by first | exact below_same hb rfl rfl rfl rfl | exact below_push hb rfl rfl rfl rfl); clear hb))
 all_goals go_wp2
 all_goals go_ret
 all_goals first | exact ⟨rfl,B4.out⟩ | exact ⟨rfl,B4.out.alloc B4.out.size _⟩ | exact ⟨rfl,below_drews B4.out _⟩ | exact ⟨rfl,below_drews (B4.out.alloc B4.out.size _) _⟩
end Go.Proofs.YtdmniblonikjlakGreatDoor.Nw


namespace Go.Proofs.YtdmniblonikjlakGreatDoor.Nw
open Go.RowKit
open Net
open Fif (own_lt own_block own_form own_mono Kp ret_bool)
set_option linter.unusedVariables false
theorem below_cells {B b:Nat} {a:World} (hb:B ≤ b) (vs:List Value) (o:Nat) (w:World) (h:Below B a w):Below B a (w.setCells b o vs) := Go.below_setCells hb vs o w h
theorem cells_other {b k:Nat}:∀ (vs:List Value) (o:Nat) (w:World),k ≠ b → (w.setCells b o vs).heap[k]? = w.heap[k]?
 | [],_,_,_ => rfl
 | v :: r,o,w,h => (cells_other r (o + 1) _ h).trans (Deep.blk_setCell_other _ _ _ _ h)
def delF (f:Nat → Value) (l:List Pk) (i j:Nat):Value := if (l.length - 1) * 3 ≤ j ∧ j < (l.length - 1) * 3 + 3 then .int .i64 0 else if i * 3 ≤ j ∧ j < i * 3 + (flat (l.drop (i + 1))).length then (flat (l.drop (i + 1)))[j - i * 3]?.getD default else f j
theorem del_take {cur cur2:Array Value} {l:List Pk} {i cap:Nat} (hi:i < l.length) (hc:l.length ≤ cap) (hs:cur.size = cap * 3) (hs2:cur2.size = cap * 3) (ht:cur.toList.take (l.length * 3) = flat l)
  (h2:∀ j,j < cap * 3 → cur2[j]? = some (delF (fun j => cur[j]?.getD default) l i j)):cur2.toList.take ((l.length - 1) * 3) = flat (l.eraseIdx i) := by
 have hf:(flat l).length = l.length * 3 := flat_len l
 have e:flat (l.eraseIdx i) = (flat l).take (i * 3) ++ (flat l).drop ((i + 1) * 3) := by
  rw [List.eraseIdx_eq_take_drop_succ,flat_append,flat_take,flat_drop]
 have hdl:(flat (l.drop (i + 1))).length = l.length * 3 - (i + 1) * 3 := by rw [flat_drop,List.length_drop,hf]
 have hcur:∀ j,j < l.length * 3 → cur[j]? = (flat l)[j]? := by
  intro j hj
  rw [← ht,List.getElem?_take_of_lt hj,Array.getElem?_toList]
 rw [e]
 apply List.ext_getElem?
 intro j
 by_cases hj:j < (l.length - 1) * 3
 ·rw [List.getElem?_take_of_lt hj,Array.getElem?_toList,h2 j (by omega),delF,if_neg (by omega)]
  by_cases hji:j < i * 3
  ·rw [if_neg (by omega),hcur j (by omega),List.getElem?_append_left (by rw [List.length_take]; omega),List.getElem?_take_of_lt hji]
   rw [List.getElem?_eq_getElem (by omega)]
   rfl
  ·rw [if_pos (by rw [hdl]; omega),List.getElem?_append_right (by rw [List.length_take]; omega),List.length_take,Nat.min_eq_left (by omega),flat_drop]
   rw [List.getElem?_eq_getElem (by rw [List.length_drop]; omega)]
   rfl
 ·rw [List.getElem?_take_eq_none (by omega),List.getElem?_eq_none (by rw [List.length_append,List.length_take,List.length_drop]; omega)]
theorem run_clear3 (w:World) (ty:TypeId) (b o c:Nat) (hc:∀ j,j < 3 → (w.cell? ⟨b,o + j,none⟩).isSome = true) (hf:∀ j,j < 3 → w.frozen? ⟨b,o + j,none⟩ = false) :
  (Builtin.clear_ #[122] ty #[.slice (some ⟨b,o,none⟩) 1 c]).run Tryz.prog w = .ok (.tuple #[]) (w.setCells b o [.int .i64 0,.int .i64 0,.int .i64 0]) := by
 have hst := run_storeCells_cells (P := Tryz.prog) b o [.int .i64 0,.int .i64 0,.int .i64 0] 0 w (by simpa using hc) (by simpa using hf) (by intro v hv; simp at hv; subst hv; rfl)
 simp only [Nat.add_zero] at hst
 have hz:(Builtin.zeroCells (Value.agg #[.int .i64 0,.int .i64 0,.int .i64 0]).cells 1).toList = [.int .i64 0,.int .i64 0,.int .i64 0] := by kernel_rfl
 simp [Builtin.clear_,run_underlying Tryz.underlying122,hz,hst]
theorem row_of {w:World} {g cap:Nat} {t:TypeId} {cur:Array Value} (h:w.heap[g]? = some (.cells cur t (0,0))) (hs:cur.size = cap):w.rowIs g t cap (fun j => cur[j]?.getD default) :=
 ⟨cur,h,hs,fun i hi => by simp [Array.getElem?_eq_getElem (show i < cur.size by omega)]⟩
set_option maxRecDepth 100000 in
set_option maxHeartbeats 1000000 in
theorem del_raw (g cap i j n:Nat) (l:List Pk) (w:World) (cur:Array Value) (hn:n = l.length) (hj:j = i + 1) (hi:i < n) (hh:w.heap[g]? = some (.cells cur 83 (0,0))) (hc:n ≤ cap) (hm:cap ≤ maxLen) (hsz:cur.size = cap * 3) (ht:cur.toList.take (n * 3) = flat l) :
  Calls Tryz.prog 118 #[.slice (some ⟨g,0,none⟩) n cap,.int .i64 (i:Int),.int .i64 (j:Int)] w fun x w' => x = .returned (.slice (some ⟨g,0,none⟩) (n - 1) cap) ∧ w' = (w.drew.setCells g (i * 3) (flat (l.drop (i + 1)))).setCells g ((n - 1) * 3) [.int .i64 0,.int .i64 0,.int .i64 0] := by
 obtain ⟨ie,hie,hz0,hz1,hz2⟩ := info_pk
 have R0:w.drew.rowIs g 83 (cap * 3) (fun j => cur[j]?.getD default) := row_of hh hsz
 obtain ⟨news,hnews⟩:∃ news,news = flat (l.drop (i + 1)) := ⟨_,rfl⟩
 have hlen:news.length = (n - j) * 3 := by rw [hnews,flat_len,List.length_drop]; omega
 have hget:∀ t u,news[t]? = some u → w.cell? ⟨g,j * 3 + t,none⟩ = some u := by
  intro t u hu
  have hlt := (List.getElem?_eq_some_iff.1 hu).1
  rw [hlen] at hlt
  rw [hnews,flat_drop,List.getElem?_drop,← ht,← hj,List.getElem?_take_of_lt (by omega)] at hu
  simp only [World.cell?,hh]
  simpa using hu
 obtain ⟨A,hA,hsrc⟩:∃ A:Addr,(if cap = j then some (⟨g,0,none⟩:Addr) else some ⟨g,j * 3,none⟩) = some A ∧ Hid (∀ t u,news[t]? = some u → w.drew.cell? (A.add t) = some u) := by
  by_cases h:cap = j
  ·refine ⟨⟨g,0,none⟩,by simp [h],fun t u hu => ?_⟩
   have h0:news.length = 0 := by rw [hlen]; omega
   rw [List.length_eq_zero_iff.1 h0] at hu
   simp at hu
  ·refine ⟨⟨g,j * 3,none⟩,by simp [h],fun t u hu => ?_⟩
   rw [Addr.add_lit]
   exact hget t u hu
 have s1:Hid (news.length = (n - j) * 3) := hlen
 have s2:Hid (∀ u ∈ news,u.oneCell' = true) := by rw [hnews]; exact flat_one _
 have s3:Hid (∀ t,t < news.length → (w.drew.cell? ⟨g,0 + i * 3 + t,none⟩).isSome = true ∧ w.drew.frozen? ⟨g,0 + i * 3 + t,none⟩ = false) := by
  intro t htl
  rw [hlen] at htl
  rw [R0.cell (i := 0 + i * 3 + t) (by omega)]
  exact ⟨rfl,R0.frozen _⟩
 obtain ⟨W1,hW1⟩:∃ W1,W1 = w.drew.setCells g (0 + i * 3) news := ⟨_,rfl⟩
 have R1 := rowIs_setCells news (0 + i * 3) w.drew _ R0
 rw [← hW1] at R1
 have hcl:∀ ty,(Builtin.clear_ #[122] ty #[.slice (some ⟨g,(i + (n - j)) * 3,none⟩) (n - (i + (n - j))) (cap - (i + (n - j)))]).run Tryz.prog W1 = .ok (.tuple #[]) (W1.setCells g ((n - 1) * 3) [.int .i64 0,.int .i64 0,.int .i64 0]) := by
  intro ty
  rw [show n - (i + (n - j)) = 1 by omega,show (i + (n - j)) * 3 = (n - 1) * 3 by omega]
  refine run_clear3 W1 ty g ((n - 1) * 3) _ (fun k hk => ?_) (fun k hk => R1.frozen _)
  rw [R1.cell (i := (n - 1) * 3 + k) (by omega)]
  rfl
 have X:Hid (W1 = w.drew.setCells g (i * 3) (flat (l.drop (i + 1)))) := (by rw [hW1,Nat.zero_add,hnews]:W1 = w.drew.setCells g (i * 3) (flat (l.drop (i + 1))))
 have hW:Hid (W1 = w.drew.setCells g (0 + i * 3) news) := hW1
 have hic:i ≤ cap := by omega
 have hjc:j ≤ cap := by omega
 have hij:i ≤ j := by omega
 have hjn:j ≤ n := by omega
 have hlt:i < j := by omega
 have HI:Hid (Tryz.prog.info? 83 = some ie ∧ ie.size = 3) := ⟨hie,hz1⟩
 have HN:Hid (i + (n - j) = n - 1) := (by omega:i + (n - j) = n - 1)
 have hm2:cap ≤ 9223372036854775807 := by unfold maxLen at hm; omega
 clear hW1 R0 R1 hget hnews hlen hie hz0 hz1 hz2 hh hsz ht hn hj hm
 go_enter Tryz.func118,Tryz.ntmps118
 go_wp2_with fail
 go_region_law (refine step_append_room rfl (.tmp 22) (.tmp 25) 122 rfl 83 ie 3 Tryz.underlying122 HI.out.1 HI.out.2 g 0 i cap (by simp [Act.eval,Act.put]) A (n - j) (cap - j) news (by simp [Act.eval,Act.put]) s1.out hsrc.out s2.out (by omega) s3.out ?_; rw [← hW.out])
 go_wp2
 go_ret
 rw [HN.out]
 exact ⟨rfl,by rw [X.out]⟩
theorem del_any (base i:Nat) (v:Value) (l:List Pk) (w:World) (g:Po w base v l) (hi:i < l.length) :
  Calls Tryz.prog 118 #[v,.int .i64 (i:Int),.int .i64 ((i:Int) + 1)] w fun x w' => ∃ v',x = .returned v' ∧ Po w' base v' (l.eraseIdx i) ∧ v'.ownBlock = v.ownBlock ∧ w.grownBy w' v.ownBlock := by
 rcases g.2 with ⟨_,h3⟩ | ⟨b,cap,cur,rfl,hb,hh,hc,hm,hsz,ht⟩
 ·omega
 ·have e:((i:Int) + 1) = ((i + 1:Nat):Int) := by omega
  rw [e]
  refine (del_raw b cap i (i + 1) l.length l w cur rfl rfl hi hh hc hm hsz ht).mono ?_
  rintro x w' ⟨rfl,hw⟩
  have R0:w.drew.rowIs b 83 (cap * 3) (fun j => cur[j]?.getD default) := row_of hh hsz
  have R2 := rowIs_setCells [.int .i64 0,.int .i64 0,.int .i64 0] ((l.length - 1) * 3) _ _ (rowIs_setCells (flat (l.drop (i + 1))) (i * 3) w.drew _ R0)
  rw [← hw] at R2
  obtain ⟨cur2,h21,h22,h23⟩ := R2
  have hlt:b < w.heap.size := by
   rcases Nat.lt_or_ge b w.heap.size with a | a
   ·exact a
   ·rw [Array.getElem?_eq_none a] at hh; cases hh
  have hel:(l.eraseIdx i).length = l.length - 1 := by rw [List.length_eraseIdx,if_pos hi]
  have hd:cur2.toList.take ((l.length - 1) * 3) = flat (l.eraseIdx i) := by
   refine del_take hi hc hsz h22 ht fun j hj => ?_
   rw [h23 j hj]
   unfold delF
   dsimp only
   by_cases q:(l.length - 1) * 3 ≤ j ∧ j < (l.length - 1) * 3 + 3
   ·rw [if_pos q,if_pos (by simpa using q)]
    obtain ⟨q1,q2⟩ := q
    have:j - (l.length - 1) * 3 = 0 ∨ j - (l.length - 1) * 3 = 1 ∨ j - (l.length - 1) * 3 = 2 := by omega
    rcases this with e | e | e <;> rw [e] <;> rfl
   ·rw [if_neg q,if_neg (by simpa using q)]
  refine ⟨_,rfl,?_,rfl,?_⟩
  ·unfold Po
   rw [hel]
   exact ⟨by rw [flat_len,hel],.inr ⟨b,cap,cur2,rfl,hb,h21,by omega,hm,h22,hd⟩⟩
  ·have hB:Below b w w' := by
    rw [hw]
    exact below_cells (Nat.le_refl _) _ _ _ (below_cells (Nat.le_refl _) _ _ _ (Below.refl b w).drew)
   refine ⟨hB.os,hB.tape,hB.output,hB.size,fun k hk hne => ?_⟩
   have hkb:k ≠ b := fun q => hne (by rw [q]; rfl)
   rw [hw]
   exact (cells_other _ _ _ hkb).trans (cells_other _ _ _ hkb)
end Go.Proofs.YtdmniblonikjlakGreatDoor.Nw


namespace Go.Proofs.YtdmniblonikjlakGreatDoor.Nw
open Go.RowKit Go.Maps
open Net
open Fif (own_lt own_block own_form own_mono Kp ret_bool row_grown)
set_option linter.unusedVariables false
variable {base P mb:Nat} {no:Int → Int → Bool} {l:List Pk} {v:Value}
structure Res (w w':World) (base P mb:Nat) (no:Int → Int → Bool) (l:List Pk) (v:Value) (no':Int → Int → Bool) (l':List Pk) (v':Value):Prop where
 nf:NF w' base P mb no' l' v'
 bel:Below base w w'
 kp:KpL w w' (fpOf P mb v)
 new:NewL w (fpOf P mb v) (fpOf P mb v')
theorem Res.still {w w':World} (g:NF w base P mb no l v) (hbw:base ≤ w.heap.size) (h:Below w.heap.size w w'):Res w w' base P mb no l v no l v :=
 ⟨g.later h,h.mono hbw,⟨h.size,fun b hb _ => h.block b hb⟩,fun b hb => .inl hb⟩
theorem Res.behind {w w1 w':World} {no':Int → Int → Bool} {l':List Pk} {v':Value} (h:Below w.heap.size w w1) (hbw:base ≤ w.heap.size) (r:Res w1 w' base P mb no l v no' l' v'):Res w w' base P mb no l v no' l' v' :=
 ⟨r.nf,(h.mono hbw).trans r.bel,⟨Nat.le_trans h.size r.kp.1,fun b hb hn => (r.kp.2 b (Nat.lt_of_lt_of_le hb h.size) hn).trans (h.block b hb)⟩,fun b hb => (r.new b hb).imp id fun q => Nat.le_trans h.size q⟩
theorem Res.setV {w w1:World} {l':List Pk} {v':Value} (g:NF w base P mb no l v) (hbw:base ≤ w.heap.size) (hg:w.grownBy w1 v.ownBlock) (o:Po w1 base v' l') (hn:∀ k,v'.ownBlock = some k → v.ownBlock = some k ∨ w.heap.size ≤ k):Res w (w1.setCell ⟨P,0,none⟩ v') base P mb no l v no l' v' := by
 have hP:w1.heap[P]? = w.heap[P]? := hg.block P g.lt.1 fun e => g.vP e.symm rfl
 have hM:w1.heap[mb]? = w.heap[mb]? := hg.block mb g.lt.2 fun e => g.vM e.symm rfl
 obtain ⟨D,hm,q⟩ := g.map
 refine ⟨NF.setV (World.rowIs.of_block g.row hP) ⟨D,own_heap hm hM,q⟩ g.low o,((Below.refl base w).grown hg hbw fun k hk => (own_lt g.own k hk).1).setCell (p := ⟨P,0,none⟩) g.low.1 _,⟨by simpa [World.setCell] using hg.size,fun b hb hn => ?_⟩,fun b hb => ?_⟩
 ·rw [Deep.blk_setCell_other _ _ _ _ (fun e => hn (by simp [fpOf]; exact .inl e))]
  exact hg.block b hb fun e => hn (by simp [fpOf,← e])
 ·rcases List.mem_cons.1 hb with rfl | hb
  ·exact .inl (by simp [fpOf])
  ·rcases List.mem_cons.1 hb with rfl | hb
   ·exact .inl (by simp [fpOf])
   ·rcases hn b (by simpa using hb) with e | e
    ·exact .inl (by simp [fpOf,e])
    ·exact .inr e
theorem remove_any (i:Nat) (w:World) (g:NF w base P mb no l v) (hi:i < l.length) (h40:l.length ≤ 40) (hbw:base ≤ w.heap.size):Calls Tryz.prog 83 #[.pointer (some ⟨P,0,none⟩),.int .i64 (i:Int)] w fun x w' => x = .returned (.tuple #[]) ∧ ∃ v',Res w w' base P mb no l v no (l.eraseIdx i) v' := by
 obtain ⟨c0,z0⟩ := g.list
 obtain ⟨q,cap,rfl⟩ := own_form g.own
 have HG:Hid (NF w base P mb no l (.slice q l.length cap) ∧ base ≤ w.heap.size ∧ i < l.length) := ⟨g,hbw,hi⟩
 have hi40:(i:Int) < 40 := by omega
 clear g hbw hi h40
 go_enter Tryz.func83,Tryz.ntmps83
 go_wp2_with fail
 refine (del_any base i (.slice q l.length cap) l w HG.out.1.own HG.out.2.2).mono ?_
 rintro x w1 ⟨v',rfl,ho,hb,hg⟩
 obtain ⟨q1,k1,rfl⟩ := own_form ho
 have hP:w1.heap[P]? = w.heap[P]? := hg.block P HG.out.1.lt.1 fun e => HG.out.1.vP e.symm rfl
 have c1:w1.cell? ⟨P,0,none⟩ = some (.slice q l.length cap) := (World.cell?_of_block (a := ⟨P,0,none⟩) hP).trans c0
 have z1:w1.frozen? ⟨P,0,none⟩ = false := (World.frozen?_of_block (a := ⟨P,0,none⟩) hP).trans z0
 have R:Hid _ := And.intro ho (And.intro hb hg)
 clear ho hb hg hP
 go_wp2
 go_end0
 exact ⟨rfl,_,Res.setV HG.out.1 HG.out.2.1 R.out.2.2 R.out.1 fun k hk => .inl (by rw [← R.out.2.1]; exact hk)⟩
theorem add_full (a b c:Int) (w:World) (g:NF w base P mb no l v) (hf:40 ≤ l.length) :
  Calls Tryz.prog 116 #[.pointer (some ⟨P,0,none⟩),.agg #[.int .i64 a,.int .i64 b,.int .i64 c]] w fun x w' => x = .returned (errF 4) ∧ Below w.heap.size w w' := by
 rw [errF_no (by decide)]
 have hP := g.lt.1
 obtain ⟨c0,z0⟩ := g.list
 obtain ⟨q,cap,rfl⟩ := own_form g.own
 obtain ⟨n,en⟩:∃ n,n = l.length := ⟨_,rfl⟩
 rw [← en] at c0 hf
 have hn:(40:Int) ≤ (n:Int) := by omega
 clear g en
 go_enter Tryz.func116,Tryz.ntmps116
 go_wp2
 go_ret
 exact ⟨rfl,(Below.refl _ _).alloc (Nat.le_refl _) _⟩
set_option maxRecDepth 100000 in
set_option maxHeartbeats 1000000 in
theorem add_ok (a b c:Int) (w:World) (g:NF w base P mb no l v) (hbw:base ≤ w.heap.size) (hf:l.length < 40) :
  Calls Tryz.prog 116 #[.pointer (some ⟨P,0,none⟩),.agg #[.int .i64 a,.int .i64 b,.int .i64 c]] w fun x w' => x = .returned (errF 0) ∧ ∃ v',Res w w' base P mb no l v no (l ++ [(a,b,c)]) v' := by
 rw [errF_ok]
 obtain ⟨q,cap,rfl⟩ := own_form g.own
 obtain ⟨n,en⟩:∃ n,n = l.length := ⟨_,rfl⟩
 have HG:Hid (NF w base P mb no l (.slice q n cap) ∧ base ≤ w.heap.size ∧ n = l.length) := ⟨by rw [en]; exact g,hbw,en⟩
 rw [← en] at hf ⊢
 obtain ⟨W,eW⟩:∃ W,W = w.alloc (.cells #[.int .i64 a,.int .i64 b,.int .i64 c] 83) := ⟨_,rfl⟩
 have BW:Hid (Below w.heap.size w W ∧ W.heap.size = w.heap.size + 1) := ⟨by rw [eW]; exact (Below.refl _ _).alloc (Nat.le_refl _) _,by rw [eW]; simp⟩
 have GW:Hid (NF W base P mb no l (.slice q n cap)) := HG.out.1.later BW.out.1
 obtain ⟨c0,z0⟩ := GW.out.list
 have s0:W.cell? ⟨w.heap.size,0,none⟩ = some (.int .i64 a) := by rw [eW]; go_cell
 have s1:W.cell? ⟨w.heap.size,1,none⟩ = some (.int .i64 b) := by rw [eW]; go_cell
 have s2:W.cell? ⟨w.heap.size,2,none⟩ = some (.int .i64 c) := by rw [eW]; go_cell
 have d0:w.cell? ⟨P,0,none⟩ = some (.slice q n cap) := HG.out.1.list.1
 have hP := HG.out.1.lt.1
 have hn:(n:Int) < 40 := by omega
 obtain ⟨ie,hi,hz0,hz1,hz2⟩ := info_pk
 have HI:Hid (Tryz.prog.info? 83 = some ie ∧ ie.zero = some (.agg #[.int .i64 0,.int .i64 0,.int .i64 0]) ∧ ie.size = 3 ∧ ie.bytes = 24) := ⟨hi,hz0,hz1,hz2⟩
 have OW:Hid (W.ownsRow base 83 3 (.slice q n cap) n (flat l) ∧ P < W.heap.size ∧ base ≤ W.heap.size ∧ w.heap.size < W.heap.size) := by
  have o := GW.out.own
  unfold Po at o
  rw [← HG.out.2.2] at o
  have := BW.out.2
  exact ⟨o,by omega,by have := HG.out.2.1; omega,by omega⟩
 have NQ:Hid (some P ≠ (Value.slice q n cap).ownBlock) := fun e => HG.out.1.vP e.symm rfl
 have NB:Hid (some w.heap.size ≠ (Value.slice q n cap).ownBlock) := fun e => by have := (own_lt HG.out.1.own _ e.symm).2; omega
 have h24:(n + 1) * 24 ≤ 140737488355328 := by omega
 have HF:Hid (∀ X:World,(∀ k,k < W.heap.size → some k ≠ (Value.slice q n cap).ownBlock → X.heap[k]? = W.heap[k]?) → X.cell? ⟨P,0,none⟩ = some (.slice q n cap) ∧ X.cell? ⟨w.heap.size,0,none⟩ = some (.int .i64 a) ∧ X.cell? ⟨w.heap.size,1,none⟩ = some (.int .i64 b) ∧ X.cell? ⟨w.heap.size,2,none⟩ = some (.int .i64 c)) := by
  intro X h
  have bQ := h P OW.out.2.1 NQ.out
  have bB := h w.heap.size OW.out.2.2.2 NB.out
  exact ⟨(World.cell?_of_block (a := ⟨P,0,none⟩) bQ).trans c0,(World.cell?_of_block (a := ⟨w.heap.size,0,none⟩) bB).trans s0,(World.cell?_of_block (a := ⟨w.heap.size,1,none⟩) bB).trans s1,(World.cell?_of_block (a := ⟨w.heap.size,2,none⟩) bB).trans s2⟩
 clear g hbw en hi hz0 hz1 hz2
 go_enter Tryz.func116,Tryz.ntmps116
 go_wp2_with fail
 rw [← eW]
 have hQW:P < W.heap.size := OW.out.2.1
 have hBW:w.heap.size < W.heap.size := OW.out.2.2.2
 clear eW d0
 go_region_law ((refine step_append_lies _ (by rfl) _ _ _ (by rfl) base 83 ie (.agg #[.int .i64 0,.int .i64 0,.int .i64 0]) 3 24 Tryz.underlying122 HI.out.1 HI.out.2.1 HI.out.2.2.1 HI.out.2.2.2 rfl (by omega) (.slice q n cap) n (flat l) (by rfl) (by exact own_push OW.out.1 rfl) ⟨W.heap.size,0,none⟩ 1 1 (flat [(a,b,c)]) (by rfl) (by rfl) (by exact pk_push rfl) (flat_one _) (by omega) (by unfold maxLen; omega) h24 (by have := OW.out.2.2.1; simp; omega) (W.heap.size + 1) (by simp) ?_; intro gg gc w3 hown hgrow hat hlt3; have G3:Hid ((W.alloc (.cells #[.int .i64 a,.int .i64 b,.int .i64 c] 83)).grownBy w3 (Value.slice q n cap).ownBlock) := grown_push hgrow rfl rfl rfl rfl; have O3:Hid (w3.ownsRow base 83 3 (.slice (some ⟨gg,0,none⟩) (n + 1) gc) (n + 1) (flat l ++ flat [(a,b,c)])) := hown; have AT:Hid ((Value.slice q n cap).ownBlock = some gg ∨ gg = W.heap.size + 1) := hat; have r3 := row_grown (World.rowIs.alloc GW.out.row (.cells #[.int .i64 a,.int .i64 b,.int .i64 c] 83)) G3.out NQ.out; have k0 := World.rowIs.cell r3 (i := 0) (by omega); have l3:w3.cell? ⟨P,0,none⟩ = some (.slice q n cap) := k0; have m3 := World.rowIs.frozen r3 0; clear hown hgrow hat hlt3 r3 k0))
 all_goals
  go_wp2
  go_ret
  have g3:w.grownBy w3 (Value.slice q n cap).ownBlock := by
   have b2 := BW.out.1.alloc (Nat.le_of_lt OW.out.2.2.2) (.cells #[.int .i64 a,.int .i64 b,.int .i64 c] 83)
   have h3 := G3.out
   exact ⟨h3.os.trans b2.os,h3.tape.trans b2.tape,h3.output.trans b2.output,Nat.le_trans b2.size h3.size,fun k hk hne => (h3.block k (Nat.lt_of_lt_of_le hk b2.size) hne).trans (b2.block k hk)⟩
  have o3:Po w3 base (.slice (some ⟨gg,0,none⟩) (n + 1) gc) (l ++ [(a,b,c)]) := by
   unfold Po
   rw [flat_append,List.length_append,← HG.out.2.2]
   exact O3.out
  refine ⟨rfl,_,(Res.setV HG.out.1 HG.out.2.1 g3 o3 fun k hk => ?_)⟩
  have e:gg = k := by simpa [Value.ownBlock] using hk
  subst e
  rcases AT.out with h | h
  ·exact .inl h
  ·exact .inr (by have := OW.out.2.2.2; omega)
end Go.Proofs.YtdmniblonikjlakGreatDoor.Nw


namespace Go.Proofs.YtdmniblonikjlakGreatDoor.Nw
open Go.RowKit Go.Maps
open Net
open Fif (own_lt own_block own_form own_mono Kp ret_bool row_grown)
set_option linter.unusedVariables false
variable {base P mb:Nat} {no:Int → Int → Bool} {l:List Pk} {v:Value}
theorem send_word {a b c:Int} (h:c < 1 ∨ 30 < c):sendC l (a,b,c) = 1 := by
 unfold sendC
 rw [if_pos]
 simp [pkBad]
 omega
theorem send_two {a b c:Int} (h1:1 ≤ c) (h2:c ≤ 30) (h:cutC a b ≠ 0):sendC l (a,b,c) = cutC a b := by
 unfold sendC cutC at *
 by_cases hm:mem5 a = true ∧ mem5 b = true
 ·rw [if_pos hm] at h ⊢
  have ha := mem5_num hm.1
  have hb := mem5_num hm.2
  have e:a = b := by
   by_cases e:a = b
   ·exact e
   ·rw [if_neg e] at h; exact absurd rfl h
  have hp:¬ pkBad (a,b,c) = true := by simp [pkBad]; omega
  rw [if_neg hp,if_pos e,if_pos e]
 ·rw [if_neg hm]
  have hp:pkBad (a,b,c) = true := by
   cases q:pkBad (a,b,c)
   ·obtain ⟨p1,p2,_⟩ := pkBad_no q
    exact absurd ⟨mem5_of p1.1 p1.2,mem5_of p2.1 p2.2⟩ hm
   ·rfl
  rw [if_pos hp]
theorem cut_zero {a b:Int} (h:cutC a b = 0):mem5 a = true ∧ mem5 b = true ∧ a ≠ b := by
 unfold cutC at h
 by_cases hm:mem5 a = true ∧ mem5 b = true
 ·rw [if_pos hm] at h
  by_cases e:a = b
  ·rw [if_pos e] at h; omega
  ·exact ⟨hm.1,hm.2,e⟩
 ·rw [if_neg hm] at h; omega
theorem send_room {a b c:Int} (h1:1 ≤ c) (h2:c ≤ 30) (h:cutC a b = 0):sendC l (a,b,c) = if 40 ≤ l.length then 4 else 0 := by
 obtain ⟨ma,mb,hne⟩ := cut_zero h
 have ha := mem5_num ma
 have hb := mem5_num mb
 unfold sendC
 have hp:¬ pkBad (a,b,c) = true := by simp [pkBad]; omega
 rw [if_neg hp,if_neg hne]
theorem sendL_no {p:Pk} (h:sendC l p ≠ 0):sendL l p = l := if_neg h
theorem sendL_ok {p:Pk} (h:sendC l p = 0):sendL l p = l ++ [p] := if_pos h
set_option maxRecDepth 100000 in
theorem send_any (a b c:Int) (w:World) (g:NF w base P mb no l v) (hbw:base ≤ w.heap.size) :
  Calls Tryz.prog 80 #[.pointer (some ⟨P,0,none⟩),.agg #[.int .i64 a,.int .i64 b,.int .i64 c]] w fun x w' => ∃ v',x = .returned (errF (sendC l (a,b,c))) ∧ Res w w' base P mb no l v no (sendL l (a,b,c)) v' := by
 have BW:Hid (Below w.heap.size w (w.alloc (.cells #[.int .i64 a,.int .i64 b,.int .i64 c] 83))) := (Below.refl _ _).alloc (Nat.le_refl _) _
 have HG:Hid (NF w base P mb no l v ∧ base ≤ w.heap.size) := ⟨g,hbw⟩
 clear g hbw
 by_cases hw:1 ≤ c ∧ c ≤ 30
 ·obtain ⟨h1,h2⟩ := hw
  by_cases hc:cutC a b = 0
  ·by_cases hf:40 ≤ l.length
   ·have e:sendC l (a,b,c) = 4 := by rw [send_room h1 h2 hc,if_pos hf]
    rw [sendL_no (by rw [e]; decide),e]
    have HC:Hid (cutC a b = 0 ∧ 40 ≤ l.length) := ⟨hc,hf⟩
    clear hc hf e
    go_enter Tryz.func80,Tryz.ntmps80
    go_wp2_with fail
    refine (word_yes c _ h1 h2).mono ?_
    rintro e w1 ⟨rfl,rfl⟩
    go_wp2_with fail
    refine (two_any a b _).mono ?_
    rintro e w1 ⟨rfl,rfl⟩
    rw [HC.out.1,errF_ok]
    go_wp2_with fail
    refine (add_full a b c _ (HG.out.1.later BW.out) HC.out.2).mono ?_
    rintro e w1 ⟨rfl,hb⟩
    rw [errF_no (by decide)]
    have B1:Hid (Below w.heap.size w w1) := BW.out.trans (hb.mono BW.out.size)
    clear hb
    go_wp2
    go_ret
    exact ⟨v,rfl,Res.still HG.out.1 HG.out.2 B1.out⟩
   ·have e:sendC l (a,b,c) = 0 := by rw [send_room h1 h2 hc,if_neg hf]
    rw [sendL_ok e,e]
    have HC:Hid (cutC a b = 0 ∧ l.length < 40) := ⟨hc,by omega⟩
    clear hc hf e
    go_enter Tryz.func80,Tryz.ntmps80
    go_wp2_with fail
    refine (word_yes c _ h1 h2).mono ?_
    rintro e w1 ⟨rfl,rfl⟩
    go_wp2_with fail
    refine (two_any a b _).mono ?_
    rintro e w1 ⟨rfl,rfl⟩
    rw [HC.out.1,errF_ok]
    go_wp2_with fail
    refine (add_ok a b c _ (HG.out.1.later BW.out) (Nat.le_trans HG.out.2 BW.out.size) HC.out.2).mono ?_
    rintro e w1 ⟨rfl,v',hr⟩
    have R:Hid (Res _ w1 base P mb no l v no (l ++ [(a,b,c)]) v') := hr
    clear hr
    rw [errF_ok]
    go_wp2
    go_ret
    exact ⟨v',rfl,Res.behind BW.out HG.out.2 R.out⟩
  ·have e:sendC l (a,b,c) = cutC a b := send_two h1 h2 hc
   rw [sendL_no (by rw [e]; exact hc),e]
   have HC:Hid (cutC a b ≠ 0) := hc
   clear hc e
   rw [errF_no HC.out]
   go_enter Tryz.func80,Tryz.ntmps80
   go_wp2_with fail
   refine (word_yes c _ h1 h2).mono ?_
   rintro e w1 ⟨rfl,rfl⟩
   go_wp2_with fail
   refine (two_any a b _).mono ?_
   rintro e w1 ⟨rfl,rfl⟩
   rw [errF_no HC.out]
   go_wp2
   go_ret
   exact ⟨v,rfl,Res.still HG.out.1 HG.out.2 BW.out⟩
 ·have hw':c < 1 ∨ 30 < c := by omega
  have e:sendC l (a,b,c) = 1 := send_word hw'
  rw [sendL_no (by rw [e]; decide),e,errF_no (by decide)]
  clear e hw
  go_enter Tryz.func80,Tryz.ntmps80
  go_wp2_with fail
  refine (word_no c _ hw').mono ?_
  rintro e w1 ⟨rfl,rfl⟩
  go_wp2
  go_ret
  exact ⟨v,rfl,Res.still HG.out.1 HG.out.2 BW.out⟩
theorem drop_any (i:Int) (w:World) (g:NF w base P mb no l v) (hbw:base ≤ w.heap.size) (h40:l.length ≤ 40) :
  Calls Tryz.prog 170 #[.pointer (some ⟨P,0,none⟩),.int .i64 i] w fun x w' => ∃ v',x = .returned (errF (dropC l i)) ∧ Res w w' base P mb no l v no (dropL l i) v' := by
 have HG:Hid (NF w base P mb no l v ∧ base ≤ w.heap.size ∧ l.length ≤ 40) := ⟨g,hbw,h40⟩
 clear g hbw h40
 cases hi:isIn l i
 ·have e1:dropC l i = 1 := if_neg (by rw [hi]; decide)
  have e2:dropL l i = l := if_neg (by rw [hi]; decide)
  rw [e1,e2,errF_no (by decide)]
  clear e1 e2
  go_enter Tryz.func170,Tryz.ntmps170
  go_wp2_with fail
  refine (has_any i w HG.out.1).mono ?_
  rintro e w1 ⟨rfl,rfl⟩
  rw [hi]
  go_wp2
  go_ret
  exact ⟨v,rfl,Res.still HG.out.1 HG.out.2.1 (Below.refl _ _)⟩
 ·obtain ⟨k,rfl,hk⟩ := isIn_yes hi
  have e1:dropC l (k:Int) = 0 := if_pos hi
  have e2:dropL l (k:Int) = l.eraseIdx k := by unfold dropL; rw [if_pos hi,Int.toNat_natCast]
  rw [e1,e2,errF_ok]
  clear e1 e2
  go_enter Tryz.func170,Tryz.ntmps170
  go_wp2_with fail
  refine (has_any (k:Int) w HG.out.1).mono ?_
  rintro e w1 ⟨rfl,rfl⟩
  rw [hi]
  go_wp2_with fail
  refine (remove_any k _ HG.out.1 hk HG.out.2.2 HG.out.2.1).mono ?_
  rintro e w1 ⟨rfl,v',hr⟩
  have R:Hid _ := hr
  clear hr
  go_wp2
  go_ret
  exact ⟨v',rfl,R.out⟩
theorem all_any (w:World) (g:NF w base P mb no l v) (h40:l.length ≤ 40):Calls Tryz.prog 113 #[.pointer (some ⟨P,0,none⟩)] w fun x w' => ∃ v',x = .returned v' ∧ Po w' w.heap.size v' l ∧ Below w.heap.size w w' := by
 obtain ⟨c0,z0⟩ := g.list
 obtain ⟨ie,hi,hz0,hz1,hz2⟩ := info_pk
 have HI:Hid (Tryz.prog.info? 83 = some ie ∧ ie.zero = some (.agg #[.int .i64 0,.int .i64 0,.int .i64 0]) ∧ ie.size = 3 ∧ ie.bytes = 24) := ⟨hi,hz0,hz1,hz2⟩
 rcases g.own.2 with ⟨rfl,h3⟩ | ⟨g0,cap,cur,rfl,hb,hh,hc,hm,hsz,ht⟩
 ·have el:l = [] := List.eq_nil_of_length_eq_zero h3
  subst el
  clear g h3 h40 hi hz0 hz1 hz2
  go_enter Tryz.func113,Tryz.ntmps113
  go_wp2
  go_ret
  exact ⟨_,rfl,World.ownsRow_nil _ _ _ _,Below.refl _ _⟩
 ·have HC:Hid (∀ j u,(flat l)[j]? = some u → w.cell? ((⟨g0,0,none⟩:Addr).add j) = some u) := by
   intro j u hj
   have hjl:j < l.length * 3 := by
    have := (List.getElem?_eq_some_iff.1 hj).1
    rwa [flat_len] at this
   rw [Addr.add_lit,Nat.zero_add]
   rw [← ht,List.getElem?_take_of_lt hjl] at hj
   simp only [World.cell?,hh]
   simpa using hj
  obtain ⟨n,en⟩:∃ n,n = l.length := ⟨_,rfl⟩
  have HN:Hid (n = l.length) := en
  rw [← en] at c0 h40
  clear g hb hh hc hm hsz ht hi hz0 hz1 hz2 en
  go_enter Tryz.func113,Tryz.ntmps113
  go_wp2_with (at_builtin; refine wpList_append_own _ rfl _ _ 122 rfl w.heap.size 83 ie (.agg #[.int .i64 0,.int .i64 0,.int .i64 0]) 3 24 Tryz.underlying122 HI.out.1 HI.out.2.1 HI.out.2.2.1 HI.out.2.2.2 rfl (by decide) (.slice none 0 0) 0 [] rfl (World.ownsRow_nil _ _ _ _) ⟨g0,0,none⟩ n cap (flat l) rfl (by rw [flat_len,HN.out]) HC.out (flat_one _) (by unfold maxLen; omega) (by omega) (Nat.le_refl _) ?_; intro v' wn hown hgrow _; rw [Nat.zero_add,List.nil_append] at hown; have HO:Hid (wn.ownsRow w.heap.size 83 3 v' n (flat l)) := hown; have HGr:Hid (w.grownBy wn none) := hgrow; clear hown hgrow)
  go_ret
  refine ⟨_,rfl,?_,(Below.refl w.heap.size w).grown HGr.out (Nat.le_refl _) (fun k e => by cases e)⟩
  have o := HO.out
  unfold Po
  rw [HN.out] at o
  exact o
end Go.Proofs.YtdmniblonikjlakGreatDoor.Nw


namespace Go.Proofs.YtdmniblonikjlakGreatDoor.Nw
open Go.RowKit Go.Maps
open Net
open Fif (own_lt own_block own_form own_mono Kp ret_bool row_grown)
set_option linter.unusedVariables false
variable {base P mb:Nat} {no:Int → Int → Bool} {l:List Pk} {v:Value}
set_option maxRecDepth 100000 in
theorem twice_any (i:Int) (w:World) (g:NF w base P mb no l v) (hi:NInv l) (hbw:base ≤ w.heap.size) :
  Calls Tryz.prog 171 #[.pointer (some ⟨P,0,none⟩),.int .i64 i] w fun x w' => ∃ v',x = .returned (errF (twC l i)) ∧ Res w w' base P mb no l v no (twL l i) v' := by
 have HG:Hid (NF w base P mb no l v ∧ base ≤ w.heap.size ∧ NInv l) := ⟨g,hbw,hi⟩
 clear g hbw hi
 cases hi:isIn l i
 ·have e1:twC l i = 1 := if_neg (by rw [hi]; decide)
  have e2:twL l i = l := if_neg (by rw [hi]; decide)
  rw [e1,e2,errF_no (by decide)]
  clear e1 e2
  go_enter Tryz.func171,Tryz.ntmps171
  go_wp2_with fail
  refine (has_any i w HG.out.1).mono ?_
  rintro e w1 ⟨rfl,rfl⟩
  rw [hi]
  go_wp2
  go_ret
  exact ⟨v,rfl,Res.still HG.out.1 HG.out.2.1 (Below.refl _ _)⟩
 ·obtain ⟨k,rfl,hk⟩ := isIn_yes hi
  have e0 := send_old HG.out.2.2 hk
  have e1:twC l (k:Int) = sendC l (pk l k) := by unfold twC; rw [if_pos hi,Int.toNat_natCast]
  have e2:twL l (k:Int) = sendL l (pk l k) := by unfold twL; rw [if_pos hi,Int.toNat_natCast]
  rw [e1,e2]
  obtain ⟨c0,z0⟩ := HG.out.1.list
  obtain ⟨q,cap,rfl,hlc,hcm,hform⟩ := HG.out.1.own.form
  obtain ⟨g0,rfl,_,hg0,hcs⟩ := hform (by omega)
  obtain ⟨x0,x1,x2⟩ := c3_of hcs hk
  obtain ⟨p,ep⟩:∃ p,p = pk l k := ⟨_,rfl⟩
  rw [← ep] at x0 x1 x2 e0 ⊢
  obtain ⟨a,b,c⟩ := p
  simp only at x0 x1 x2
  have hk0:(0:Int) ≤ (k:Int) := by omega
  have hkn:(k:Int) < (l.length:Int) := by omega
  clear e1 e2 hcs hform hcm hg0 ep
  by_cases hf:40 ≤ l.length
  ·rw [if_pos hf] at e0
   rw [sendL_no (by rw [e0]; decide),e0]
   clear e0
   go_enter Tryz.func171,Tryz.ntmps171
   go_wp2_with fail
   refine (has_any (k:Int) w HG.out.1).mono ?_
   rintro e w1 ⟨rfl,rfl⟩
   rw [hi]
   go_wp2_with fail
   refine (add_full a b c _ HG.out.1 hf).mono ?_
   rintro e w1 ⟨rfl,hb⟩
   rw [errF_no (by decide)]
   have B1:Hid (Below _ _ w1) := hb
   clear hb
   go_wp2
   go_ret
   exact ⟨_,rfl,Res.still HG.out.1 HG.out.2.1 B1.out⟩
  ·rw [if_neg hf] at e0
   rw [sendL_ok e0,e0]
   clear e0
   go_enter Tryz.func171,Tryz.ntmps171
   go_wp2_with fail
   refine (has_any (k:Int) w HG.out.1).mono ?_
   rintro e w1 ⟨rfl,rfl⟩
   rw [hi]
   go_wp2_with fail
   refine (add_ok a b c _ HG.out.1 HG.out.2.1 (by omega)).mono ?_
   rintro e w1 ⟨rfl,v',hr⟩
   have R:Hid _ := hr
   clear hr
   rw [errF_ok]
   go_wp2
   go_ret
   exact ⟨v',rfl,R.out⟩
theorem ret3 {fn:Func} {tmps:Array Value} {w:World} {p u:Tmp} {B:Nat} {v0 v1 v2 x:Value} (h:fn.results = #[.cell p 83,.tmp u]) (hp:tmps.getD p undef = .pointer (some ⟨B,0,none⟩)) (hu:tmps.getD u undef = x)
  (y0:w.cell? ⟨B,0,none⟩ = some v0) (y1:w.cell? ⟨B,1,none⟩ = some v1) (y2:w.cell? ⟨B,2,none⟩ = some v2):(results fn tmps).run Tryz.prog w = .ok (.tuple #[.agg #[v0,v1,v2],x]) w := by
 rw [results_cell_tmp h,hp,hu]
 simp [asAddr,go_sem,y0,y1,y2]
theorem set3 {B:Nat} {a w:World} (h:Below B a w) {b:Nat} (hb:B ≤ b) (v0 v1 v2:Value):Below B a (((w.setCell ⟨b,0,none⟩ v0).setCell ⟨b,1,none⟩ v1).setCell ⟨b,2,none⟩ v2) := ((h.setCell (p := ⟨b,0,none⟩) hb _).setCell (p := ⟨b,1,none⟩) hb _).setCell (p := ⟨b,2,none⟩) hb _
theorem give_out (i:Int) (w:World) (g:NF w base P mb no l v) (h:isIn l i = false) :
  Calls Tryz.prog 35 #[.pointer (some ⟨P,0,none⟩),.int .i64 i] w fun x w' => x = .returned (.tuple #[.agg #[.int .i64 0,.int .i64 0,.int .i64 0],errF 1]) ∧ Below w.heap.size w w' := by
 rw [errF_no (by decide)]
 have HG:Hid (NF (w.alloc (.cells #[.int .i64 0,.int .i64 0,.int .i64 0] 83)) base P mb no l v) := g.later ((Below.refl _ _).alloc (Nat.le_refl _) _)
 clear g
 go_enter Tryz.func35,Tryz.ntmps35
 go_wp2_with fail
 refine (has_any i _ HG.out).mono ?_
 rintro e w1 ⟨rfl,rfl⟩
 rw [h]
 go_wp2
 refine bodyPost_ret (v := .tuple #[.agg #[.int .i64 0,.int .i64 0,.int .i64 0],.iface 70 (.int .i64 1)]) (ret3 (B := w.heap.size) rfl rfl rfl (by go_cell) (by go_cell) (by go_cell)) rfl ?_
 exact ⟨rfl,(Below.refl _ _).alloc (Nat.le_refl _) _⟩
set_option maxRecDepth 100000 in
set_option maxHeartbeats 1000000 in
theorem give_in (k:Nat) (w:World) (hk:k < l.length) (g:NF w base P mb no l v) (hbw:base ≤ w.heap.size) (hi:NInv l) (is:Bool) (his:no (pk l k).1 (pk l k).2.1 = is) :
  Calls Tryz.prog 35 #[.pointer (some ⟨P,0,none⟩),.int .i64 (k:Int)] w fun x w' => (is = true ∧ x = .returned (.tuple #[.agg #[.int .i64 0,.int .i64 0,.int .i64 0],errF 6]) ∧ Below w.heap.size w w') ∨ (is = false ∧ ∃ v',x = .returned (.tuple #[.agg #[.int .i64 (pk l k).1,.int .i64 (pk l k).2.1,.int .i64 (pk l k).2.2],errF 0]) ∧ Res w w' base P mb no l v no (l.eraseIdx k) v') := by
 rw [errF_no (c := 6) (by decide),errF_ok]
 have hkI := isIn_of hk
 have hok := hi.ok _ (List.getElem_mem hk)
 rw [← pk_get hk] at hok
 obtain ⟨c0,z0⟩ := g.list
 obtain ⟨q,cap,rfl,hlc,hcm,hform⟩ := g.own.form
 obtain ⟨g0,rfl,_,hg0,hcs⟩ := hform (by omega)
 obtain ⟨x0,x1,x2⟩ := c3_of hcs hk
 have HG:Hid (NF w base P mb no l (.slice (some ⟨g0,0,none⟩) l.length cap) ∧ base ≤ w.heap.size ∧ k < l.length ∧ l.length ≤ 40) := ⟨g,hbw,hk,hi.len⟩
 obtain ⟨p,ep⟩:∃ p,p = pk l k := ⟨_,rfl⟩
 rw [← ep] at x0 x1 x2 hok his ⊢
 obtain ⟨a,b,c⟩ := p
 obtain ⟨⟨ha,ha'⟩,⟨hb,hb'⟩,_,_⟩ := pkBad_no hok.1
 have hne := hok.2
 simp only at x0 x1 x2 his ha ha' hb hb' hne ⊢
 have HA:Hid (mem5 a = true ∧ mem5 b = true ∧ a ≠ b ∧ no a b = is) := ⟨mem5_of ha ha',mem5_of hb hb',hne,his⟩
 have hk0:(0:Int) ≤ (k:Int) := by omega
 have hkn:(k:Int) < (l.length:Int) := by omega
 have hP := g.lt.1
 obtain ⟨W0,eW0⟩:∃ W0,W0 = w.alloc (.cells #[.int .i64 0,.int .i64 0,.int .i64 0] 83) := ⟨_,rfl⟩
 obtain ⟨W,eW⟩:∃ W,W = W0.alloc (.cells #[.int .i64 a,.int .i64 b,.int .i64 c] 83) := ⟨_,rfl⟩
 have BW0:Hid (Below w.heap.size w W0 ∧ W0.heap.size = w.heap.size + 1) := ⟨by rw [eW0]; exact (Below.refl _ _).alloc (Nat.le_refl _) _,by rw [eW0]; simp⟩
 have BW:Hid (Below w.heap.size w W ∧ W.heap.size = w.heap.size + 2) := ⟨by rw [eW]; exact BW0.out.1.alloc BW0.out.1.size _,by rw [eW]; simp [BW0.out.2]⟩
 have RW:Hid (W.rowIs w.heap.size 83 3 (fun _ => .int .i64 0) ∧ W.rowIs (w.heap.size + 1) 83 3 (fun j => if j = 0 then .int .i64 a else if j = 1 then .int .i64 b else .int .i64 c)) := by
  have q1 := World.rowIs_alloc w #[.int .i64 0,.int .i64 0,.int .i64 0] 83 (fun _ => .int .i64 0) (fun i hi => by rcases i with _ | _ | _ | i <;> first | rfl | (exfalso; have:_ < 3 := hi; omega))
  have q2 := World.rowIs_alloc W0 #[.int .i64 a,.int .i64 b,.int .i64 c] 83 (fun j => if j = 0 then .int .i64 a else if j = 1 then .int .i64 b else .int .i64 c) (fun i hi => by rcases i with _ | _ | _ | i <;> first | rfl | (exfalso; have:_ < 3 := hi; omega))
  rw [← eW0] at q1
  rw [← eW,BW0.out.2] at q2
  refine ⟨World.rowIs.of_block q1 ?_,q2⟩
  rw [eW]
  exact Below.heap_alloc _ _ _ (by rw [BW0.out.2]; omega)
 have hkd:(l.length:Int) = (l.length:Int) := rfl
 have y0:W0.cell? ⟨g0,k * 3,none⟩ = some (.int .i64 a) := (BW0.out.1.cell (p := ⟨g0,k * 3,none⟩) hg0).trans x0
 have y1:W0.cell? ⟨g0,k * 3 + 1,none⟩ = some (.int .i64 b) := (BW0.out.1.cell (p := ⟨g0,k * 3 + 1,none⟩) hg0).trans x1
 have y2:W0.cell? ⟨g0,k * 3 + 2,none⟩ = some (.int .i64 c) := (BW0.out.1.cell (p := ⟨g0,k * 3 + 2,none⟩) hg0).trans x2
 have d0:W0.cell? ⟨P,0,none⟩ = some (.slice (some ⟨g0,0,none⟩) l.length cap) := (BW0.out.1.cell (p := ⟨P,0,none⟩) hP).trans c0
 have s0:W.cell? ⟨w.heap.size + 1,0,none⟩ = some (.int .i64 a) := World.rowIs.cell RW.out.2 (i := 0) (by omega)
 have s1:W.cell? ⟨w.heap.size + 1,1,none⟩ = some (.int .i64 b) := World.rowIs.cell RW.out.2 (i := 1) (by omega)
 have hS0:W0.heap.size = w.heap.size + 1 := BW0.out.2
 clear g hbw hi hcs hform hcm hok ep hne his x0 x1 x2 c0 z0 hkd
 go_enter Tryz.func35,Tryz.ntmps35
 go_wp2_with fail
 rw [← eW0]
 clear eW0
 refine (has_any (k:Int) _ (HG.out.1.later BW0.out.1)).mono ?_
 rintro e w1 ⟨rfl,rfl⟩
 rw [hkI]
 go_wp2_with fail
 rw [← eW]
 clear eW y0 y1 y2 d0 hS0
 refine (cut_any a b _ (HG.out.1.later BW.out.1) HA.out.1 HA.out.2.1 HA.out.2.2.1).mono ?_
 rintro e w2 ⟨rfl,hb2⟩
 rw [HA.out.2.2.2]
 have B2:Hid (Below W.heap.size W w2 ∧ Below w.heap.size w w2 ∧ NF w2 base P mb no l (.slice (some ⟨g0,0,none⟩) l.length cap)) := ⟨hb2,BW.out.1.trans (hb2.mono BW.out.1.size),HG.out.1.later (BW.out.1.trans (hb2.mono BW.out.1.size))⟩
 have R2:Hid (w2.rowIs w.heap.size 83 3 (fun _ => .int .i64 0) ∧ w2.rowIs (w.heap.size + 1) 83 3 (fun j => if j = 0 then .int .i64 a else if j = 1 then .int .i64 b else .int .i64 c)) := ⟨World.rowIs.of_block RW.out.1 (hb2.block _ (by have := BW.out.2; omega)),World.rowIs.of_block RW.out.2 (hb2.block _ (by have := BW.out.2; omega))⟩
 clear hb2 s0 s1
 cases is
 ·go_wp2_with fail
  refine (remove_any k w2 B2.out.2.2 HG.out.2.2.1 HG.out.2.2.2 (Nat.le_trans HG.out.2.1 B2.out.2.1.size)).mono ?_
  rintro e w3 ⟨rfl,v',hr⟩
  have hf0:∀ d,w.heap.size ≤ d → d ∉ fpOf P mb (.slice (some ⟨g0,0,none⟩) l.length cap) := fun d hd hm => by have := (HG.out.1.fp d hm).2; omega
  have R3:Hid (w3.rowIs w.heap.size 83 3 (fun _ => .int .i64 0) ∧ w3.rowIs (w.heap.size + 1) 83 3 (fun j => if j = 0 then .int .i64 a else if j = 1 then .int .i64 b else .int .i64 c)) := ⟨World.rowIs.of_block R2.out.1 (hr.kp.2 _ (World.rowIs.lt R2.out.1) (hf0 _ (Nat.le_refl _))),World.rowIs.of_block R2.out.2 (hr.kp.2 _ (World.rowIs.lt R2.out.2) (hf0 _ (Nat.le_succ _)))⟩
  have RR:Hid (Res w w3 base P mb no l (.slice (some ⟨g0,0,none⟩) l.length cap) no (l.eraseIdx k) v') := Res.behind B2.out.2.1 HG.out.2.1 hr
  have NV:Hid (∀ d ∈ fpOf P mb v',d ≠ w.heap.size) := fun d hd e => by
   rcases hr.new d hd with q | q
   ·have := (HG.out.1.fp d q).2; omega
   ·have := World.rowIs.lt R2.out.1; omega
  have s0 := World.rowIs.cell R3.out.2 (i := 0) (by omega)
  have s1 := World.rowIs.cell R3.out.2 (i := 1) (by omega)
  have s2 := World.rowIs.cell R3.out.2 (i := 2) (by omega)
  simp at s0 s1 s2
  have t0 := World.rowIs.cell R3.out.1 (i := 0) (by omega)
  have t1 := World.rowIs.cell R3.out.1 (i := 1) (by omega)
  have t2 := World.rowIs.cell R3.out.1 (i := 2) (by omega)
  have f0 := World.rowIs.frozen R3.out.1 0
  have f1 := World.rowIs.frozen R3.out.1 1
  have f2 := World.rowIs.frozen R3.out.1 2
  clear hr hf0
  go_wp2
  have r3 := ((World.rowIs.set R3.out.1 0 (.int .i64 a)).set 1 (.int .i64 b)).set 2 (.int .i64 c)
  have u0 := r3.cell (i := 0) (by omega)
  have u1 := r3.cell (i := 1) (by omega)
  have u2 := r3.cell (i := 2) (by omega)
  simp at u0 u1 u2
  refine bodyPost_ret (v := .tuple #[.agg #[.int .i64 a,.int .i64 b,.int .i64 c],.nilIface]) (ret3 (B := w.heap.size) rfl rfl rfl u0 u1 u2) rfl ?_
  refine ⟨rfl,v',?_⟩
  have hr := RR.out
  have o3:∀ d,d ≠ w.heap.size → (((w3.setCell ⟨w.heap.size,0,none⟩ (.int .i64 a)).setCell ⟨w.heap.size,1,none⟩ (.int .i64 b)).setCell ⟨w.heap.size,2,none⟩ (.int .i64 c)).heap[d]? = w3.heap[d]? := fun d hd => ((Deep.blk_setCell_other _ _ _ _ hd).trans (Deep.blk_setCell_other _ _ _ _ hd)).trans (Deep.blk_setCell_other _ _ _ _ hd)
  exact ⟨hr.nf.of_blocks fun d hd => o3 d (NV.out d hd),set3 hr.bel HG.out.2.1 _ _ _,⟨by simpa [World.setCell] using hr.kp.1,fun d hd hn => (o3 d (by omega)).trans (hr.kp.2 d hd hn)⟩,hr.new⟩
 ·have t0 := World.rowIs.cell R2.out.1 (i := 0) (by omega)
  have t1 := World.rowIs.cell R2.out.1 (i := 1) (by omega)
  have t2 := World.rowIs.cell R2.out.1 (i := 2) (by omega)
  have f0 := World.rowIs.frozen R2.out.1 0
  have f1 := World.rowIs.frozen R2.out.1 1
  have f2 := World.rowIs.frozen R2.out.1 2
  go_wp2
  have r3 := ((World.rowIs.set R2.out.1 0 (.int .i64 0)).set 1 (.int .i64 0)).set 2 (.int .i64 0)
  have u0 := r3.cell (i := 0) (by omega)
  have u1 := r3.cell (i := 1) (by omega)
  have u2 := r3.cell (i := 2) (by omega)
  simp at u0 u1 u2
  refine bodyPost_ret (v := .tuple #[.agg #[.int .i64 0,.int .i64 0,.int .i64 0],.iface 70 (.int .i64 6)]) (ret3 (B := w.heap.size) rfl rfl rfl u0 u1 u2) rfl ?_
  exact ⟨rfl,set3 B2.out.2.1 (Nat.le_refl _) _ _ _⟩
end Go.Proofs.YtdmniblonikjlakGreatDoor.Nw


namespace Go.Proofs.YtdmniblonikjlakGreatDoor.Net
open Go.RowKit
open Nw (NF Res fpOf)
set_option linter.unusedVariables false
def NS (w:World) (base P:Nat) (no:Int → Int → Bool) (l:List Pk) (fp:List Nat):Prop := ∃ mb v,NF w base P mb no l v ∧ fp = fpOf P mb v
theorem NS.of_blocks {w w':World} {base P:Nat} {no:Int → Int → Bool} {l:List Pk} {fp:List Nat} (g:NS w base P no l fp) (hs:w.heap.size ≤ w'.heap.size) (h:∀ b ∈ fp,w'.heap[b]? = w.heap[b]?):NS w' base P no l fp := by
 obtain ⟨mb,v,g,rfl⟩ := g
 exact ⟨mb,v,g.of_blocks h,rfl⟩
theorem NS.fp {w:World} {base P:Nat} {no:Int → Int → Bool} {l:List Pk} {fp:List Nat} (g:NS w base P no l fp):∀ b ∈ fp,base ≤ b ∧ b < w.heap.size := by
 obtain ⟨mb,v,g,rfl⟩ := g
 exact g.fp
theorem newN (w:World):Calls Tryz.prog 29 #[] w fun x w' => ∃ P fp,x = .returned (.pointer (some ⟨P,0,none⟩)) ∧ NS w' w.heap.size P (fun _ _ => false) [] fp ∧ Below w.heap.size w w' := by
 refine (Nw.newF w).mono ?_
 rintro x w' ⟨rfl,g,hb⟩
 exact ⟨_,_,rfl,⟨_,_,g,rfl⟩,hb⟩
theorem sendN (base P:Nat) (no:Int → Int → Bool) (l:List Pk) (fp:List Nat) (p:Pk) (w:World) (g:NS w base P no l fp) (hi:NInv l) (hbw:base ≤ w.heap.size):Calls Tryz.prog 80 #[.pointer (some ⟨P,0,none⟩),.agg #[.int .i64 p.1,.int .i64 p.2.1,.int .i64 p.2.2]] w fun x w' => ∃ fp',x = .returned (errF (sendC l p)) ∧ NS w' base P no (sendL l p) fp' ∧ Below base w w' ∧ KpL w w' fp ∧ NewL w fp fp' := by
 obtain ⟨mb,v,g,rfl⟩ := g
 refine (Nw.send_any p.1 p.2.1 p.2.2 w g hbw).mono ?_
 rintro x w' ⟨v',rfl,r⟩
 exact ⟨_,rfl,⟨mb,v',r.nf,rfl⟩,r.bel,r.kp,r.new⟩
theorem dropN (base P:Nat) (no:Int → Int → Bool) (l:List Pk) (fp:List Nat) (i:Int) (w:World) (g:NS w base P no l fp) (hi:NInv l) (hbw:base ≤ w.heap.size):Calls Tryz.prog 170 #[.pointer (some ⟨P,0,none⟩),.int .i64 i] w fun x w' => ∃ fp',x = .returned (errF (dropC l i)) ∧ NS w' base P no (dropL l i) fp' ∧ Below base w w' ∧ KpL w w' fp ∧ NewL w fp fp' := by
 obtain ⟨mb,v,g,rfl⟩ := g
 refine (Nw.drop_any i w g hbw hi.len).mono ?_
 rintro x w' ⟨v',rfl,r⟩
 exact ⟨_,rfl,⟨mb,v',r.nf,rfl⟩,r.bel,r.kp,r.new⟩
theorem twiceN (base P:Nat) (no:Int → Int → Bool) (l:List Pk) (fp:List Nat) (i:Int) (w:World) (g:NS w base P no l fp) (hi:NInv l) (hbw:base ≤ w.heap.size):Calls Tryz.prog 171 #[.pointer (some ⟨P,0,none⟩),.int .i64 i] w fun x w' => ∃ fp',x = .returned (errF (twC l i)) ∧ NS w' base P no (twL l i) fp' ∧ Below base w w' ∧ KpL w w' fp ∧ NewL w fp fp' := by
 obtain ⟨mb,v,g,rfl⟩ := g
 refine (Nw.twice_any i w g hi hbw).mono ?_
 rintro x w' ⟨v',rfl,r⟩
 exact ⟨_,rfl,⟨mb,v',r.nf,rfl⟩,r.bel,r.kp,r.new⟩
theorem giveN (base P:Nat) (no:Int → Int → Bool) (l:List Pk) (fp:List Nat) (i:Int) (w:World) (g:NS w base P no l fp) (hi:NInv l) (hbw:base ≤ w.heap.size):Calls Tryz.prog 35 #[.pointer (some ⟨P,0,none⟩),.int .i64 i] w fun x w' => ∃ fp',x = .returned (.tuple #[.agg #[.int .i64 (giveP no l i).1,.int .i64 (giveP no l i).2.1,.int .i64 (giveP no l i).2.2],errF (giveC no l i)]) ∧ NS w' base P no (giveL no l i) fp' ∧ Below base w w' ∧ KpL w w' fp ∧ NewL w fp fp' := by
 obtain ⟨mb,v,g,rfl⟩ := g
 cases h:isIn l i
 ·have e1:giveC no l i = 1 := if_neg (by rw [h]; decide)
  have e2:giveL no l i = l := if_neg (by rw [e1]; decide)
  have e3:giveP no l i = (0,0,0) := if_neg (by rw [e1]; decide)
  rw [e1,e2,e3]
  refine (Nw.give_out i w g h).mono ?_
  rintro x w' ⟨rfl,hb⟩
  have r := Res.still g hbw hb
  exact ⟨_,rfl,⟨mb,v,r.nf,rfl⟩,r.bel,r.kp,r.new⟩
 ·obtain ⟨k,rfl,hk⟩ := isIn_yes h
  have e0:giveC no l (k:Int) = if no (pk l k).1 (pk l k).2.1 = true then 6 else 0 := by
   unfold giveC
   rw [if_pos h,Int.toNat_natCast]
  refine (Nw.give_in k w hk g hbw hi _ rfl).mono ?_
  rintro x w' (⟨his,rfl,hb⟩ | ⟨his,v',rfl,r⟩)
  ·rw [if_pos his] at e0
   have e2:giveL no l (k:Int) = l := if_neg (by rw [e0]; decide)
   have e3:giveP no l (k:Int) = (0,0,0) := if_neg (by rw [e0]; decide)
   rw [e0,e2,e3]
   have r := Res.still g hbw hb
   exact ⟨_,rfl,⟨mb,v,r.nf,rfl⟩,r.bel,r.kp,r.new⟩
  ·rw [if_neg (by rw [his]; decide)] at e0
   have e2:giveL no l (k:Int) = l.eraseIdx k := by unfold giveL; rw [if_pos e0,Int.toNat_natCast]
   have e3:giveP no l (k:Int) = pk l k := by unfold giveP; rw [if_pos e0,Int.toNat_natCast]
   rw [e0,e2,e3]
   exact ⟨_,rfl,⟨mb,v',r.nf,rfl⟩,r.bel,r.kp,r.new⟩
theorem allN (base P:Nat) (no:Int → Int → Bool) (l:List Pk) (fp:List Nat) (w:World) (g:NS w base P no l fp) (hi:NInv l):Calls Tryz.prog 113 #[.pointer (some ⟨P,0,none⟩)] w fun x w' => ∃ v,x = .returned v ∧ Po w' w.heap.size v l ∧ Below w.heap.size w w' := by
 obtain ⟨mb,v,g,rfl⟩ := g
 exact Nw.all_any w g hi.len
end Go.Proofs.YtdmniblonikjlakGreatDoor.Net
