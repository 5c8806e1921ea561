/-
  Texts put together: CasU.
-/
import Derived.Test.YtdmniblonikjlakGreatDoorPsI
import Derived.Test.YtdmniblonikjlakGreatDoorPsF


namespace Go.Proofs.YtdmniblonikjlakGreatDoor.Cas
open Go.RowKit
open Net (Pk pk RN Po NInv)
open Cau (Sd Es toSd RC Old Keep flatE inc)
open Fif (own_lt own_block own_form own_mono Kp)
open His (Ev)
set_option linter.unusedVariables false
variable {w w':World} {base C:Nat} {g:G} {d:Loc}
theorem RG.mform (h:RG w base C g d):∃ q cap,d.vm = .slice q g.n cap := own_form h.mem
theorem castSay_bad (who word:Int) (h:RG w base C g d) (h5:g.n ≤ 5) (hb:who < 0 ∨ (g.n:Int) ≤ who ∨ word < 1 ∨ 30 < word) :
  Calls Tryz.prog 58 #[.pointer (some ⟨C,0,none⟩),.int .i64 who,.int .i64 word] w fun x w' => x = .returned (.int .i64 1) ∧ Below w.heap.size w w' := by
 obtain ⟨c0,z0⟩ := h.c0
 obtain ⟨q,cap,e⟩ := h.mform
 rw [e] at c0
 obtain ⟨n,en⟩:∃ n,n = g.n := ⟨_,rfl⟩
 rw [← en] at c0 hb h5
 clear h e en
 have h4:who < 0 ∨ (0 ≤ who ∧ (n:Int) ≤ who) ∨ (0 ≤ who ∧ who < (n:Int) ∧ word < 1) ∨ (0 ≤ who ∧ who < (n:Int) ∧ 1 ≤ word ∧ 30 < word) := by omega
 clear hb
 rcases h4 with h1 | ⟨h1,h2⟩ | ⟨h1,h2,h3⟩ | ⟨h1,h2,h3,h4⟩
 all_goals
  go_enter Tryz.func58,Tryz.ntmps58
  go_wp2
  go_ret
  exact ⟨rfl,Below.refl _ _⟩
theorem castSay_clash (who:Int) (x:Nat) (s:Sd) (h:RG w base C g d) (h5:g.n ≤ 5) (h1:0 ≤ who) (h2:who < (g.n:Int)) (h3:1 ≤ x) (h4:x ≤ 30) (hs:g.said (x:Int) = some s) (hsx:s.2.1 = (x:Int)) :
  Calls Tryz.prog 58 #[.pointer (some ⟨C,0,none⟩),.int .i64 who,.int .i64 (x:Int)] w fun y w' => y = .returned (.int .i64 7) ∧ Below w.heap.size w w' := by
 obtain ⟨c0,z0⟩ := h.c0
 obtain ⟨q,cap,e⟩ := h.mform
 rw [e] at c0
 have c2 := (h.said0 h4 (show 1 < 3 by omega)).1
 rw [saidV,hs] at c2
 simp [hsx] at c2
 obtain ⟨n,en⟩:∃ n,n = g.n := ⟨_,rfl⟩
 rw [← en] at c0 h2 h5
 have hx1:(1:Int) ≤ (x:Int) := by omega
 have hx2:(x:Int) ≤ 30 := by omega
 have hx0:((x:Int) != 0) = true := by simp; omega
 clear h e en hs hsx
 go_enter Tryz.func58,Tryz.ntmps58
 go_wp2
 go_ret
 exact ⟨rfl,Below.refl _ _⟩
set_option maxRecDepth 100000 in
set_option maxHeartbeats 1000000 in
theorem castSay_full (who:Int) (x:Nat) (h:RG w base C g d) (h2':2 ≤ g.n) (h5:g.n ≤ 5) (hm:g.many ≤ 30) (hl:g.l.length ≤ 40) (h1:0 ≤ who) (h2:who < (g.n:Int)) (h3:1 ≤ x) (h4:x ≤ 30) (hs:g.said (x:Int) = none) (hf:40 < g.l.length + (g.n - 1) ∨ 60 < (g.many + 1) * g.n) :
  Calls Tryz.prog 58 #[.pointer (some ⟨C,0,none⟩),.int .i64 who,.int .i64 (x:Int)] w fun y w' => y = .returned (.int .i64 4) ∧ Below w.heap.size w w' := by
 obtain ⟨c0,z0⟩ := h.c0
 obtain ⟨c1,z1⟩ := h.c1
 obtain ⟨c95,z95⟩ := h.c95
 obtain ⟨q,cap,e⟩ := h.mform
 rw [e] at c0
 obtain ⟨cN,zN⟩ := h.rn.all
 obtain ⟨qN,capN,eN⟩ := own_form h.rn.own
 rw [eN] at cN
 have c2 := (h.said0 h4 (show 1 < 3 by omega)).1
 rw [saidV,hs] at c2
 simp only at c2
 rw [if_neg (by decide)] at c2
 obtain ⟨n,en⟩:∃ n,n = g.n := ⟨_,rfl⟩
 obtain ⟨ll,el⟩:∃ ll,ll = g.l.length := ⟨_,rfl⟩
 obtain ⟨mm,em⟩:∃ mm,mm = g.many := ⟨_,rfl⟩
 rw [← en] at c0 h2 h5 h2' hf
 rw [← el] at cN hf hl
 rw [← em] at c95 hf hm
 have hx1:(1:Int) ≤ (x:Int) := by omega
 have hx2:(x:Int) ≤ 30 := by omega
 have hn:n = 2 ∨ n = 3 ∨ n = 4 ∨ n = 5 := by omega
 obtain ⟨QN,eQ⟩:∃ QN,QN = d.Q := ⟨_,rfl⟩
 rw [← eQ] at c1 cN zN
 clear h e eN en el em hs h5 h2' eQ
 by_cases f1:40 < ll + (n - 1)
 ·have f2:(40:Int) < (ll:Int) + (n:Int) - 1 := by omega
  have hn5:(n:Int) ≤ 5 := by omega
  have hn2:(2:Int) ≤ (n:Int) := by omega
  clear hf hn f1
  go_enter Tryz.func58,Tryz.ntmps58
  go_wp2
  go_ret
  exact ⟨rfl,Below.refl _ _⟩
 ·have f2:¬ (40:Int) < (ll:Int) + (n:Int) - 1 := by omega
  have f4:(60:Int) < ((mm:Int) + 1) * (n:Int) := by
   rcases hn with rfl | rfl | rfl | rfl <;> omega
  have f5:((mm:Int) + 1) * (n:Int) ≤ 155 := by
   rcases hn with rfl | rfl | rfl | rfl <;> omega
  have hn5:(n:Int) ≤ 5 := by omega
  have hn2:(2:Int) ≤ (n:Int) := by omega
  clear hf f1 hn
  go_enter Tryz.func58,Tryz.ntmps58
  go_wp2
  go_ret
  exact ⟨rfl,Below.refl _ _⟩
theorem RG.mcell (h:RG w base C g d) {i:Nat} (hi:i < g.n):∃ bm cap,d.vm = .slice (some ⟨bm,0,none⟩) g.n cap ∧ bm < w.heap.size ∧ w.cell? ⟨bm,i,none⟩ = some (.pointer (some ⟨d.P i,0,none⟩)) := by
 rcases h.mem.2 with ⟨_,h3⟩ | ⟨b,cap,cur,hv,hb,hh,hc,hm,hsz,ht⟩
 ·omega
 ·refine ⟨b,cap,hv,?_,?_⟩
  ·rcases Nat.lt_or_ge b w.heap.size with q | q
   ·exact q
   ·rw [Array.getElem?_eq_none q] at hh; cases hh
  ·have q:(ptrs d g.n)[i]? = some (.pointer (some ⟨d.P i,0,none⟩)) := by simp [ptrs,hi]
   rw [← ht,Nat.mul_one,List.getElem?_take_of_lt hi] at q
   simp only [World.cell?,hh]
   simpa using q
theorem pks_succ (n:Nat) (who word:Int):pks (n + 1) who word = pks n who word ++ (if (n:Int) = who then [] else [(who,(n:Int),word)]) := by
 unfold pks
 rw [List.range_succ,List.filter_append,List.map_append]
 congr 1
 by_cases e:(n:Int) = who
 ·rw [if_pos e]; simp [e]
 ·rw [if_neg e]; simp [e]
theorem pks_le:∀ (n b:Nat) (word:Int),(pks n (b:Int) word).length + (if b < n then 1 else 0) = n := by
 intro n b word
 induction n with
 | zero => simp [pks]
 | succ n ih =>
  rw [pks_succ,List.length_append]
  by_cases e:n = b
  ·subst e
   rw [if_pos rfl,if_pos (by omega)]
   rw [if_neg (by omega)] at ih
   simp
   omega
  ·rw [if_neg (by omega)]
   by_cases q:b < n
   ·rw [if_pos q] at ih
    rw [if_pos (by omega)]
    simp
    omega
   ·rw [if_neg q] at ih
    rw [if_neg (by omega)]
    simp
    omega
def said1 (g:G) (b x:Nat) (l:List Pk):G := { n := g.n,K := fun i => if i = b then inc (g.K i) (b:Int) else g.K i,ws := g.ws,said := fun w => if w = (x:Int) then some ((b:Int),(x:Int),inc (g.K b) (b:Int)) else g.said w,l := l,many := g.many + 1,H := g.H ++ [((b:Int),2,(x:Int))] }
theorem infoE:(Tryz.prog.info? 40).map (fun i => (i.zero,i.size,i.bytes)) = some (some (.agg #[.int .i64 0,.int .i64 0,.int .i64 0]),3,24) := by kernel_rfl
theorem info_ev:∃ i,Tryz.prog.info? 40 = some i ∧ i.zero = some (.agg #[.int .i64 0,.int .i64 0,.int .i64 0]) ∧ i.size = 3 ∧ i.bytes = 24 := by
 obtain ⟨i,hi,hzz⟩ := Option.map_eq_some_iff.1 infoE
 simp only [Prod.mk.injEq] at hzz
 exact ⟨i,hi,hzz.1,hzz.2.1,hzz.2.2⟩
set_option maxRecDepth 100000 in
set_option maxHeartbeats 2000000 in
theorem castSay_ok (b x:Nat) (h:RG w base C g d) (hi:GI g) (hbw:base ≤ w.heap.size) (hb:b < g.n) (h3:1 ≤ x) (h4:x ≤ 30) (hs:g.said (x:Int) = none) (hl:g.l.length + (g.n - 1) ≤ 40) (h60:(g.many + 1) * g.n ≤ 60) :
  Calls Tryz.prog 58 #[.pointer (some ⟨C,0,none⟩),.int .i64 (b:Int),.int .i64 (x:Int)] w fun y w' => ∃ d',y = .returned (.int .i64 0) ∧ CRes w w' base C g d (said1 g b x (g.l ++ pks g.n (b:Int) (x:Int))) d' := by
 have h25 := hi.i0.n2
 have hm30 := hi.i0.many30
 have hb5:b < 5 := by omega
 obtain ⟨c0,z0⟩ := h.c0
 obtain ⟨c1,z1⟩ := h.c1
 obtain ⟨c95,z95⟩ := h.c95
 obtain ⟨cN,zN⟩ := h.rn.all
 obtain ⟨qN,capN,eN⟩ := own_form h.rn.own
 rw [eN] at cN
 have c2 := (h.said0 h4 (show 1 < 3 by omega)).1
 rw [saidV,hs] at c2
 simp only at c2
 rw [if_neg (by decide)] at c2
 obtain ⟨bm,capm,evm,hbm,cm⟩ := h.mcell hb
 rw [evm] at c0
 have hlen := hi.net.len
 have HH:Hid (RG w base C g d ∧ GI g ∧ base ≤ w.heap.size ∧ b < g.n ∧ g.said (x:Int) = none ∧ g.l.length + (g.n - 1) ≤ 40 ∧ (g.many + 1) * g.n ≤ 60) := ⟨h,hi,hbw,hb,hs,hl,h60⟩
 obtain ⟨n,en⟩:∃ n,n = g.n := ⟨_,rfl⟩
 obtain ⟨ll,el⟩:∃ ll,ll = g.l.length := ⟨_,rfl⟩
 obtain ⟨mm,em⟩:∃ mm,mm = g.many := ⟨_,rfl⟩
 have EN:Hid (n = g.n ∧ ll = g.l.length ∧ mm = g.many) := ⟨en,el,em⟩
 rw [← en] at c0 h25 hb hl h60
 rw [← el] at cN hl hlen
 rw [← em] at c95 hm30 h60
 have hx1:(1:Int) ≤ (x:Int) := by omega
 have hx2:(x:Int) ≤ 30 := by omega
 have hb0:(0:Int) ≤ (b:Int) := by omega
 have hbn:(b:Int) < (n:Int) := by omega
 have f2:¬ (40:Int) < (ll:Int) + (n:Int) - 1 := by omega
 have hn:n = 2 ∨ n = 3 ∨ n = 4 ∨ n = 5 := by omega
 have f4:¬ (60:Int) < ((mm:Int) + 1) * (n:Int) := by
  rcases hn with rfl | rfl | rfl | rfl <;> omega
 have f5:0 ≤ ((mm:Int) + 1) * (n:Int) := by
  rcases hn with rfl | rfl | rfl | rfl <;> omega
 have hn5:(n:Int) ≤ 5 := by omega
 have hn2:(2:Int) ≤ (n:Int) := by omega
 clear hs hbw hi h60 hn en el em
 clear h evm eN
 go_enter Tryz.func58,Tryz.ntmps58
 go_wp2_with fail
 obtain ⟨w1,ew1⟩:∃ w1,w1 = w.setCell ⟨C,95,none⟩ (.int .i64 ((mm:Int) + 1)) := ⟨_,rfl⟩
 rw [← ew1]
 have R1:Hid (CRes w w1 base C g d { g with many := g.many + 1 } d) := by
  have e:((mm:Int) + 1) = ((g.many + 1:Nat):Int) := by have := EN.out.2.2; omega
  rw [ew1,e]
  exact HH.out.1.many (g.many + 1)
 clear ew1 c0 c1 c95 cN zN z0 z1 z95 c2 cm hbm
 have S1:Hid (base ≤ w1.heap.size) := Nat.le_trans HH.out.2.2.1 R1.out.bel.size
 have RB:Hid (RC w1 base (· ∈ d.cl) (d.P b) (b:Int) (g.K b) (d.es b) (d.vs b) ∧ (d.es b).map toSd = g.ws b) := R1.out.rg.rc b HH.out.2.2.2.1
 have CI:Hid (Cau.CInv (b:Int) (g.K b) ((d.es b).map toSd) ∧ Cau.sayC (b:Int) (g.K b) (x:Int) = 0) := by
  refine ⟨by rw [RB.out.2]; exact HH.out.2.1.i0.cinv hb5,?_⟩
  unfold Cau.sayC
  rw [if_neg (by omega),if_neg]
  have q := (HH.out.2.1.i0.kk b hb5).2 b hb5
  have q2 := HH.out.2.1.i0.hc30 b hb5 g.H.length (Nat.le_refl _)
  have q3 := HH.out.2.1.i0.many30
  rw [Int.toNat_natCast,q]
  omega
 refine (Cau.refSay base (· ∈ d.cl) (d.P b) (b:Int) (g.K b) (d.es b) (d.vs b) (x:Int) w1 RB.out.1 CI.out.1 S1.out).mono ?_
 rintro e w2 ⟨s0,s1,vc,rfl,hc,⟨e0,e1,ho⟩,hbl,hkp⟩
 rw [CI.out.2,if_pos rfl] at e0 e1
 subst e0 e1
 have hsl:Cau.sayL (b:Int) (g.K b) (x:Int) = inc (g.K b) (b:Int) := if_pos CI.out.2
 have hsk:Cau.sayK (b:Int) (g.K b) (x:Int) = inc (g.K b) (b:Int) := if_pos CI.out.2
 have hk5 := (HH.out.2.1.i0.kk b hb5).1
 rw [hsl,inc_len,hk5] at ho
 rw [hsk] at hc
 rw [CI.out.2]
 obtain ⟨bc,capc,rfl,hbc⟩:∃ bc capc,vc = .slice (some ⟨bc,0,none⟩) 5 capc ∧ w1.heap.size ≤ bc := by
  rcases ho.2 with ⟨_,q⟩ | ⟨bc,capc,cur,q,q2,_⟩
  ·omega
  ·exact ⟨bc,capc,q,q2⟩
 have R2:Hid (CRes w w2 base C g d (upd { g with many := g.many + 1 } b (inc (g.K b) (b:Int)) ((d.es b).map toSd) g.H) { d with es := fun j => if j = b then d.es b else d.es j,vs := fun j => if j = b then d.vs b else d.vs j }) := R1.out.trans (R1.out.rg.member HH.out.2.2.2.1 (r := none) hkp hbl (by simp) hc (fun k hk => .inl hk))
 have OC:Hid (w2.ownsRow w1.heap.size 3 1 (.slice (some ⟨bc,0,none⟩) 5 capc) 5 ((inc (g.K b) (b:Int)).map (Value.int .i64)) ∧ w1.heap.size ≤ bc) := ⟨ho,hbc⟩
 clear hc ho hbl hkp hsl hsk hbc
 go_wp2_with fail
 obtain ⟨W3,eW3⟩:∃ W3,W3 = w2.alloc (.cells #[.int .i64 (b:Int),.int .i64 (x:Int),.slice (some ⟨bc,0,none⟩) 5 capc] 51) := ⟨_,rfl⟩
 rw [← eW3]
 have B3:Hid (Below w2.heap.size w2 W3 ∧ w2.heap.size < W3.heap.size) := ⟨by rw [eW3]; exact (Below.refl _ _).alloc (Nat.le_refl _) _,by rw [eW3]; simp⟩
 have s0:W3.cell? ⟨w2.heap.size,0,none⟩ = some (.int .i64 (b:Int)) := by rw [eW3]; go_cell
 have s1:W3.cell? ⟨w2.heap.size,1,none⟩ = some (.int .i64 (x:Int)) := by rw [eW3]; go_cell
 have s2:W3.cell? ⟨w2.heap.size,2,none⟩ = some (.slice (some ⟨bc,0,none⟩) 5 capc) := by rw [eW3]; go_cell
 have R3:Hid (CRes w W3 base C g d (upd { g with many := g.many + 1 } b (inc (g.K b) (b:Int)) ((d.es b).map toSd) g.H) { d with es := fun j => if j = b then d.es b else d.es j,vs := fun j => if j = b then d.vs b else d.vs j }) := R2.out.later HH.out.2.2.1 B3.out.1
 obtain ⟨t0,u0⟩ := R3.out.rg.said0 h4 (show 0 < 3 by omega)
 obtain ⟨t1,u1⟩ := R3.out.rg.said0 h4 (show 1 < 3 by omega)
 obtain ⟨t2,u2⟩ := R3.out.rg.said0 h4 (show 2 < 3 by omega)
 have hns:(upd { g with many := g.many + 1 } b (inc (g.K b) (b:Int)) ((d.es b).map toSd) g.H).said (x:Int) = none := HH.out.2.2.2.2.1
 rw [saidV,hns] at t0 t1 t2
 simp at t0 t1 t2
 simp only [Nat.add_zero] at u0
 have hCw:C < w2.heap.size := World.rowIs.lt R2.out.rg.row
 have R4:Hid (CRes w (((W3.setCell ⟨C,2 + x * 3,none⟩ (.int .i64 (b:Int))).setCell ⟨C,2 + x * 3 + 1,none⟩ (.int .i64 (x:Int))).setCell ⟨C,2 + x * 3 + 2,none⟩ (.slice (some ⟨bc,0,none⟩) 5 capc)) base C g d
   { upd { g with many := g.many + 1 } b (inc (g.K b) (b:Int)) ((d.es b).map toSd) g.H with said := fun y => if y = (x:Int) then some ((b:Int),(x:Int),inc (g.K b) (b:Int)) else g.said y }
   { d with es := fun j => if j = b then d.es b else d.es j,vs := fun j => if j = b then d.vs b else d.vs j,at_ := fun y => if y = (x:Int) then (bc,0,capc) else d.at_ y,cl := bc :: d.cl }) := by
  have oc:W3.ownsRow base 3 1 (.slice (some ⟨bc,0,none⟩) 5 capc) 5 ((inc (g.K b) (b:Int)).map (Value.int .i64)) := own_mono (own_block OC.out.1 fun k hk => B3.out.1.block k (own_lt OC.out.1 k hk).2) S1.out
  refine R3.out.word h4 oc (fun q => ?_) (Nat.le_trans R1.out.bel.size OC.out.2)
  have := (HH.out.1.cty bc q).2.2
  have := R1.out.bel.size
  have := OC.out.2
  omega
 clear eW3 hns
 go_region
 obtain ⟨W4,eW4⟩:∃ W4,W4 = (((W3.setCell ⟨C,2 + x * 3,none⟩ (.int .i64 (b:Int))).setCell ⟨C,2 + x * 3 + 1,none⟩ (.int .i64 (x:Int))).setCell ⟨C,2 + x * 3 + 2,none⟩ (.slice (some ⟨bc,0,none⟩) 5 capc)).drew := ⟨_,rfl⟩
 rw [← eW4]
 obtain ⟨g4,eg4⟩:∃ g4:G,g4 = { upd { g with many := g.many + 1 } b (inc (g.K b) (b:Int)) ((d.es b).map toSd) g.H with said := fun y => if y = (x:Int) then some ((b:Int),(x:Int),inc (g.K b) (b:Int)) else g.said y } := ⟨_,rfl⟩
 obtain ⟨d4,ed4⟩:∃ d4:Loc,d4 = { d with es := fun j => if j = b then d.es b else d.es j,vs := fun j => if j = b then d.vs b else d.vs j,at_ := fun y => if y = (x:Int) then (bc,0,capc) else d.at_ y,cl := bc :: d.cl } := ⟨_,rfl⟩
 have Q4:Hid (CRes w W4 base C g d g4 d4 ∧ g4.H = g.H ∧ g4.l = g.l ∧ g4.n = g.n ∧ g4.many = g.many + 1 ∧ g4.K = (fun i => if i = b then inc (g.K b) (b:Int) else g.K i) ∧ g4.ws = g.ws ∧ g4.said = fun y => if y = (x:Int) then some ((b:Int),(x:Int),inc (g.K b) (b:Int)) else g.said y) := by
  refine ⟨?_,by rw [eg4]; rfl,by rw [eg4]; rfl,by rw [eg4]; rfl,by rw [eg4]; rfl,by rw [eg4]; rfl,?_,by rw [eg4]⟩
  ·rw [eW4,eg4,ed4]
   exact R4.out.later HH.out.2.2.1 (Below.refl _ _).drew
  ·rw [eg4]
   show (fun i => if i = b then (d.es b).map toSd else g.ws i) = g.ws
   funext i
   by_cases e:i = b
   ·rw [if_pos e,RB.out.2,e]
   ·rw [if_neg e]
 clear eW4 eg4 ed4 t0 t1 t2 u0 u1 u2 s0 s1 s2 hCw R4
 obtain ⟨c96,z96⟩ := Q4.out.1.rg.c96
 obtain ⟨qh,caph,evh⟩ := own_form Q4.out.1.rg.evs
 rw [evh] at c96
 obtain ⟨lh,elh⟩:∃ lh,lh = g4.H.length := ⟨_,rfl⟩
 rw [← elh] at c96
 have hl60:lh ≤ 60 := by rw [elh,Q4.out.2.1]; exact len60 HH.out.2.1
 have HE:Hid (W4.ownsRow base 40 3 (.slice qh lh caph) lh (Net.flat g4.H) ∧ d4.vH = .slice qh lh caph ∧ lh = g4.H.length ∧ base ≤ W4.heap.size ∧ C < W4.heap.size) := by
  have o := Q4.out.1.rg.evs
  rw [evh,← elh] at o
  exact ⟨o,by rw [evh,elh],elh,Nat.le_trans HH.out.2.2.1 Q4.out.1.bel.size,World.rowIs.lt Q4.out.1.rg.row⟩
 have NC:Hid (some C ≠ (Value.slice qh lh caph).ownBlock) := fun e => ty_ne Q4.out.1.rg.tyC (ty_own HE.out.1 e.symm) (by decide) rfl
 obtain ⟨ie,hie,hz0,hz1,hz2⟩ := info_ev
 have HI:Hid (Tryz.prog.info? 40 = some ie ∧ ie.zero = some (.agg #[.int .i64 0,.int .i64 0,.int .i64 0]) ∧ ie.size = 3 ∧ ie.bytes = 24) := ⟨hie,hz0,hz1,hz2⟩
 clear evh elh hie hz0 hz1 hz2
 go_wp2_with (at_builtin; refine wpList_append_lies _ rfl _ _ 34 rfl base 40 ie (.agg #[.int .i64 0,.int .i64 0,.int .i64 0]) 3 24 Tryz.underlying34 HI.out.1 HI.out.2.1 HI.out.2.2.1 HI.out.2.2.2 rfl (by decide) (.slice qh lh caph) lh (Net.flat g4.H) rfl (by exact Net.own_push HE.out.1 rfl) ⟨W4.heap.size,0,none⟩ 1 1 (Net.flat [((b:Int),2,(x:Int))]) rfl rfl (by exact Net.pk_push rfl) (Net.flat_one _) (by omega) (by unfold maxLen; omega) (by omega) (by have := HE.out.2.2.2.1; simp; omega) (W4.heap.size + 1) (by simp) ?_; intro gg5 k5 w5 hown hgrow hat _; have HAT:Hid ((Value.slice qh lh caph).ownBlock = some gg5 ∨ gg5 = W4.heap.size + 1) := hat; have O5:Hid (w5.ownsRow base 40 3 (.slice (some ⟨gg5,0,none⟩) (lh + 1) k5) (lh + 1) (Net.flat g4.H ++ Net.flat [((b:Int),2,(x:Int))])) := hown; have G5:Hid ((W4.alloc (.cells #[.int .i64 (b:Int),.int .i64 2,.int .i64 (x:Int)] 40)).grownBy w5 (Value.slice qh lh caph).ownBlock) := hgrow; have l5:w5.cell? ⟨C,96,none⟩ = some (.slice qh lh caph) := ((G5.out.cell_far ⟨C,96,none⟩ (by have := HE.out.2.2.2.2; simp; omega) NC.out).trans ((((Below.refl W4.heap.size W4).alloc (Nat.le_refl _) _).cell (p := ⟨C,96,none⟩) HE.out.2.2.2.2).trans c96)); have m5:w5.frozen? ⟨C,96,none⟩ = false := ((G5.out.frozen_far ⟨C,96,none⟩ (by have := HE.out.2.2.2.2; simp; omega) NC.out).trans ((((Below.refl W4.heap.size W4).alloc (Nat.le_refl _) _).frozen (p := ⟨C,96,none⟩) HE.out.2.2.2.2).trans z96)); clear hown hgrow hat)
 obtain ⟨W6,eW6⟩:∃ W6,W6 = w5.setCell ⟨C,96,none⟩ (.slice (some ⟨gg5,0,none⟩) (lh + 1) k5) := ⟨_,rfl⟩
 rw [← eW6]
 have Q6:Hid (∃ d',CRes w W6 base C g d (said1 g b x (g.l ++ pks 0 (b:Int) (x:Int))) d') := by
  have q := Q4.out
  have hg:W4.grownBy w5 d4.vH.ownBlock := by
   rw [HE.out.2.1]
   have b2 := (Below.refl W4.heap.size W4).alloc (Nat.le_refl _) (.cells #[.int .i64 (b:Int),.int .i64 2,.int .i64 (x:Int)] 40)
   have h5 := G5.out
   exact ⟨h5.os.trans b2.os,h5.tape.trans b2.tape,h5.output.trans b2.output,Nat.le_trans b2.size h5.size,fun k hk hne => (h5.block k (Nat.lt_of_lt_of_le hk b2.size) hne).trans (b2.block k hk)⟩
  have o5:w5.ownsRow base 40 3 (.slice (some ⟨gg5,0,none⟩) (lh + 1) k5) (g4.H ++ [((b:Int),2,(x:Int))]).length (Net.flat (g4.H ++ [((b:Int),2,(x:Int))])) := by
   have o := O5.out
   rw [← Net.flat_append,HE.out.2.2.1] at o
   rw [HE.out.2.2.1,List.length_append]
   exact o
  have hv:∀ k,(Value.slice (some ⟨gg5,0,none⟩) (lh + 1) k5).ownBlock = some k → d4.vH.ownBlock = some k ∨ W4.heap.size ≤ k := by
   intro k hk
   rw [HE.out.2.1]
   have e:gg5 = k := by simpa [Value.ownBlock] using hk
   subst e
   rcases HAT.out with a | a
   ·exact .inl a
   ·exact .inr (by omega)
  have r := q.1.trans (q.1.rg.hist hg HE.out.2.2.2.1 o5 hv)
  have eg:({ g4 with H := g4.H ++ [((b:Int),2,(x:Int))] }:G) = said1 g b x (g.l ++ pks 0 (b:Int) (x:Int)) := by
   show G.mk g4.n g4.K g4.ws g4.said g4.l g4.many (g4.H ++ [((b:Int),2,(x:Int))]) = _
   rw [q.2.1,q.2.2.1,q.2.2.2.1,q.2.2.2.2.1,q.2.2.2.2.2.1,q.2.2.2.2.2.2.1,q.2.2.2.2.2.2.2]
   unfold said1
   have e0:pks 0 (b:Int) (x:Int) = [] := rfl
   rw [e0,List.append_nil]
   congr 1
   funext i
   by_cases e:i = b
   ·rw [if_pos e,if_pos e,e]
   ·rw [if_neg e,if_neg e]
  rw [eg,← eW6] at r
  exact ⟨_,r⟩
 clear eW6 l5 m5 c96 z96
 go_loopw [10] (fun y wr => ∃ i:Nat,i ≤ n ∧ y = .int .i64 (i:Int) ∧ Hid (∃ d',CRes w wr base C g d (said1 g b x (g.l ++ pks i (b:Int) (x:Int))) d')) (fun y _ => n - (intOf y).toNat)
 case atStart => exact ⟨0,by omega,rfl,Q6⟩
 case round =>
  clear Q6
  obtain ⟨i,hin,rfl,hQ⟩ := hrel
  by_cases hlt:i < n
  ·obtain ⟨d',hR⟩ := hQ.out
   have R:Hid (CRes w wr base C g d (said1 g b x (g.l ++ pks i (b:Int) (x:Int))) d') := hR
   have hlti:(i:Int) < (n:Int) := by omega
   obtain ⟨c1,z1⟩ := hR.rg.c1
   clear hR hQ
   by_cases e:i = b
   ·subst e
    go_wp2
    go_roundw
    case rel =>
     refine ⟨i + 1,by omega,by go_num,d',?_⟩
     rw [pks_succ,if_pos rfl,List.append_nil]
     exact R.out
    case measure => simp [intOf]; omega
   ·have hne:((i:Int) != (b:Int)) = true := by simp; omega
    have HS:Hid (Net.sendC (g.l ++ pks i (b:Int) (x:Int)) ((b:Int),(i:Int),(x:Int)) = 0 ∧ ¬ (i:Int) = (b:Int)) := by
     refine ⟨?_,by omega⟩
     have hp := pks_le i b (x:Int)
     have hb':b < n := by omega
     unfold Net.sendC
     rw [if_neg,if_neg,if_neg]
     ·rw [List.length_append]
      have := EN.out.2.1
      split at hp <;> omega
     ·show ¬ (b:Int) = (i:Int)
      omega
     ·simp [Net.pkBad]
      omega
    clear e
    go_wp2_with fail
    refine (Net.refSend (base := base) ((b:Int),(i:Int),(x:Int)) R.out.rg.rn (Nat.le_trans HH.out.2.2.1 R.out.bel.size)).mono ?_
    rintro e w7 ⟨v',rfl,hn7,hb7,hk7,hv7⟩
    have R7:Hid (∃ d'',CRes w w7 base C g d (said1 g b x (g.l ++ pks (i + 1) (b:Int) (x:Int))) d'') := by
     have r := R.out.trans (R.out.rg.net hk7 hb7 (fun k hk => hk) hn7 hv7)
     have el:Net.sendL (said1 g b x (g.l ++ pks i (b:Int) (x:Int))).l ((b:Int),(i:Int),(x:Int)) = g.l ++ pks (i + 1) (b:Int) (x:Int) := by
      show Net.sendL (g.l ++ pks i (b:Int) (x:Int)) _ = _
      unfold Net.sendL
      rw [if_pos HS.out.1,pks_succ,if_neg HS.out.2,List.append_assoc]
     rw [el] at r
     exact ⟨_,r⟩
    clear hn7 hb7 hk7 hv7
    go_wp2
    go_roundw
    case rel => exact ⟨i + 1,by omega,by go_num,R7.out⟩
    case measure => simp [intOf]; omega
  ·have hi:i = n := by omega
   subst hi
   go_wp2
   go_ret
   obtain ⟨d',hR⟩ := hQ.out
   rw [EN.out.1] at hR
   exact ⟨d',rfl,hR⟩
theorem castSay (who word:Int) (h:RG w base C g d) (hi:GI g) (hbw:base ≤ w.heap.size) :
  Calls Tryz.prog 58 #[.pointer (some ⟨C,0,none⟩),.int .i64 who,.int .i64 word] w fun y w' => ∃ d',y = .returned (.int .i64 (sayC g who word)) ∧ CRes w w' base C g d (say g who word) d' := by
 have h25 := hi.i0.n2
 have no:∀ k:Int,k ≠ 0 → sayC g who word = k → ∀ y w',(y = Ending.returned (.int .i64 k) ∧ Below w.heap.size w w') → ∃ d',y = .returned (.int .i64 (sayC g who word)) ∧ CRes w w' base C g d (say g who word) d' := by
  rintro k hk0 hk y w' ⟨rfl,hb⟩
  rw [say_no (by rw [hk]; exact hk0),hk]
  exact ⟨d,rfl,CRes.still h hbw hb⟩
 by_cases h1:who < 0 ∨ (g.n:Int) ≤ who ∨ word < 1 ∨ 30 < word
 ·exact (castSay_bad who word h h25.2 h1).mono (no 1 (by decide) (if_pos h1))
 ·obtain ⟨b,rfl⟩:∃ b:Nat,who = (b:Int) := ⟨who.toNat,by omega⟩
  obtain ⟨x,rfl⟩:∃ x:Nat,word = (x:Int) := ⟨word.toNat,by omega⟩
  cases hs:g.said (x:Int) with
  | some s =>
   obtain ⟨_,_,_,hsx,_⟩ := hi.i0.word hs
   exact (castSay_clash (b:Int) x s h h25.2 (by omega) (by omega) (by omega) (by omega) hs hsx).mono (no 7 (by decide) (by unfold sayC; rw [if_neg h1,hs]; rfl))
  | none =>
   by_cases hf:40 < g.l.length + (g.n - 1) ∨ 60 < (g.many + 1) * g.n
   ·exact (castSay_full (b:Int) x h h25.1 h25.2 hi.i0.many30 hi.net.len (by omega) (by omega) (by omega) (by omega) hs hf).mono (no 4 (by decide) (by unfold sayC; rw [if_neg h1,hs,if_neg (by decide),if_pos hf]))
   ·have e0:sayC g (b:Int) (x:Int) = 0 := by unfold sayC; rw [if_neg h1,hs,if_neg (by decide),if_neg hf]
    have e1:say g (b:Int) (x:Int) = said1 g b x (g.l ++ pks g.n (b:Int) (x:Int)) := by
     unfold say said1
     rw [if_pos e0,Int.toNat_natCast]
    rw [e0,e1]
    exact castSay_ok b x h hi hbw (by omega) (by omega) (by omega) hs (by omega) (by omega)
end Go.Proofs.YtdmniblonikjlakGreatDoor.Cas
