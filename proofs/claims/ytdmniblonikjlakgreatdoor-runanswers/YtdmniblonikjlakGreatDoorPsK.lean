/-
  Texts put together: CasV.
-/
import Derived.Test.YtdmniblonikjlakGreatDoorPsJ


namespace Go.Proofs.YtdmniblonikjlakGreatDoor.Cas
open Go.RowKit
open Net (Pk pk RN Po NInv isIn)
open Cau (Sd Es toSd RC Old Keep flatE inc ctk ckC)
open Fif (own_lt own_block own_form own_mono Kp)
open His (Ev)
open Vec (Vw)
set_option linter.unusedVariables false
variable {w w':World} {base C:Nat} {g:G} {d:Loc}
theorem CRes.out {g':G} {d':Loc} (r:CRes w w' base C g d g' d') {b:Nat} (hb:b < w.heap.size) (hn:¬ Fp C g.n d b):w'.heap[b]? = w.heap[b]? ∧ ¬ Fp C g'.n d' b := ⟨r.kp b hb hn,fun q => (r.new b q).elim hn (fun z => by omega)⟩
theorem RG.not_pk (h:RG w base C g d) {b:Nat} (ht:tyOf w b = some 83) (hN:d.vN.ownBlock ≠ some b):¬ Fp C g.n d b := by
 rintro (q | q | q | q | q | ⟨i,hi,q | q⟩ | q)
 ·exact ty_ne ht h.tyC (by decide) q
 ·exact ty_ne ht h.tyQ (by decide) q
 ·exact ty_ne ht (h.tyM q) (by decide) rfl
 ·exact hN q
 ·exact ty_ne ht (h.tyH q) (by decide) rfl
 ·exact ty_ne ht (h.tyP hi) (by decide) q
 ·exact ty_ne ht (h.tyS hi q) (by decide) rfl
 ·exact ty_ne ht (h.cty b q).1 (by decide) rfl
theorem RG.not_int (h:RG w base C g d) {b:Nat} (ht:tyOf w b = some 3) (hc:b ∉ d.cl):¬ Fp C g.n d b := by
 rintro (q | q | q | q | q | ⟨i,hi,q | q⟩ | q)
 ·exact ty_ne ht h.tyC (by decide) q
 ·exact ty_ne ht h.tyQ (by decide) q
 ·exact ty_ne ht (h.tyM q) (by decide) rfl
 ·exact ty_ne ht (h.tyN q) (by decide) rfl
 ·exact ty_ne ht (h.tyH q) (by decide) rfl
 ·exact ty_ne ht (h.tyP hi) (by decide) q
 ·exact ty_ne ht (h.tyS hi q) (by decide) rfl
 ·exact hc q
theorem lt_of_same {w w':World} {b:Nat} (h:w'.heap[b]? = w.heap[b]?) (hb:b < w.heap.size):b < w'.heap.size := by
 rw [Array.getElem?_eq_getElem hb] at h
 exact (Array.getElem?_eq_some_iff.1 h).1
theorem hear_take {l:List Int} {i:Nat} (hi:i < l.length) (m:Int):hear m (l.take (i + 1)) = hear m (l.take i) ++ [(m,3,l.getD i 0)] := by
 unfold hear
 rw [List.take_succ_eq_append_getElem hi,List.map_append]
 simp [List.getD,hi]
theorem below_eq {B:Nat} {X W w':World} (h:Below B X w') (e:X.heap = W.heap) (e1:X.os = W.os) (e2:X.tape = W.tape) (e3:X.output = W.output):Below B W w' :=
 ⟨h.os.trans e1,h.tape.trans e2,h.output.trans e3,by rw [← e]; exact h.size,fun k hk => by rw [← e]; exact h.block k hk⟩
theorem kp_eq {X W w':World} {P:Nat} {r:Option Nat} (h:Kp X w' P r) (e:X.heap = W.heap):Kp W w' P r := ⟨by rw [← e]; exact h.1,fun b hb h1 h2 => by rw [← e]; exact h.2 b (by rw [e]; exact hb) h1 h2⟩
theorem castGive_no (i:Int) (h:RG w base C g d) (hi:GI g) (hbw:base ≤ w.heap.size) (hin:isIn g.l i = false) :
  Calls Tryz.prog 60 #[.pointer (some ⟨C,0,none⟩),.int .i64 i] w fun y w' => ∃ d',y = .returned (.tuple #[.slice none 0 0,.int .i64 1]) ∧ CRes w w' base C g d g d' := by
 obtain ⟨c1,z1⟩ := h.c1
 have HH:Hid (RG w base C g d ∧ GI g ∧ base ≤ w.heap.size) := ⟨h,hi,hbw⟩
 have e1:Net.giveC (fun _ _ => false) g.l i = 1 := by unfold Net.giveC; rw [if_neg (by rw [hin]; decide)]
 have e2:Net.giveL (fun _ _ => false) g.l i = g.l := by unfold Net.giveL; rw [if_neg (by rw [e1]; decide)]
 have E:Hid (Net.giveC (fun _ _ => false) g.l i = 1 ∧ Net.giveL (fun _ _ => false) g.l i = g.l) := ⟨e1,e2⟩
 clear h hi hbw e1 e2 hin
 go_enter Tryz.func60,Tryz.ntmps60
 go_wp2_with fail
 refine (Net.refGive i HH.out.1.rn HH.out.2.1.net HH.out.2.2).mono ?_
 rintro e w1 ⟨v',rfl,hn,hb,hk,hv⟩
 rw [E.out.1]
 have R:Hid (CRes w w1 base C g d g { d with vN := v' }) := by
  have r := HH.out.1.net hk hb (by simp) hn hv
  rw [E.out.2] at r
  exact r
 clear hn hb hk hv
 go_wp2
 go_ret2
 exact ⟨_,rfl,R.out.later HH.out.2.2 ((Below.refl _ _).alloc (Nat.le_refl _) _)⟩
set_option maxRecDepth 100000 in
set_option maxHeartbeats 2000000 in
theorem castGive_ok (k m:Nat) (s:Sd) (h:RG w base C g d) (hi:GI g) (hbw:base ≤ w.heap.size) (hk:k < g.l.length) (em:(pk g.l k).2.1 = (m:Int)) (hm:m < g.n) (hs:g.said (pk g.l k).2.2 = some s) (es:s.2.1 = (pk g.l k).2.2) :
  Calls Tryz.prog 60 #[.pointer (some ⟨C,0,none⟩),.int .i64 (k:Int)] w fun y w' => ∃ d' vo,y = .returned (.tuple #[vo,.int .i64 0]) ∧ w'.ownsRow w.heap.size 3 1 vo (ctk (m:Int) (g.K m) (g.ws m) s).1.length ((ctk (m:Int) (g.K m) (g.ws m) s).1.map (Value.int .i64)) ∧ (∀ b,vo.ownBlock = some b → ¬ Fp C g.n d' b) ∧
   CRes w w' base C g d (setL (upd g m (ctk (m:Int) (g.K m) (g.ws m) s).2.1 (ctk (m:Int) (g.K m) (g.ws m) s).2.2 (g.H ++ hear (m:Int) (ctk (m:Int) (g.K m) (g.ws m) s).1)) (g.l.eraseIdx k)) d' := by
 have h25 := hi.i0.n2
 have hok := hi.i0.sdOk hs
 obtain ⟨x,ex⟩:∃ x:Nat,(pk g.l k).2.2 = (x:Int) := ⟨(pk g.l k).2.2.toNat,by have := hok.word; rw [es] at this; omega⟩
 have hx:1 ≤ x ∧ x ≤ 30 := by have := hok.word; rw [es,ex] at this; omega
 obtain ⟨a0,ea0⟩:∃ a0,a0 = (pk g.l k).1 := ⟨_,rfl⟩
 obtain ⟨c1,z1⟩ := h.c1
 have hkI := Net.isIn_of hk
 have e1:Net.giveC (fun _ _ => false) g.l (k:Int) = 0 := by unfold Net.giveC; rw [if_pos hkI,if_neg (by simp)]
 have e2:Net.giveL (fun _ _ => false) g.l (k:Int) = g.l.eraseIdx k := by unfold Net.giveL; rw [if_pos e1,Int.toNat_natCast]
 have e3:Net.giveP (fun _ _ => false) g.l (k:Int) = (a0,(m:Int),(x:Int)) := by
  unfold Net.giveP
  rw [if_pos e1,Int.toNat_natCast,ea0,← em,← ex]
 have E:Hid (Net.giveC (fun _ _ => false) g.l (k:Int) = 0 ∧ Net.giveL (fun _ _ => false) g.l (k:Int) = g.l.eraseIdx k ∧ Net.giveP (fun _ _ => false) g.l (k:Int) = (a0,(m:Int),(x:Int))) := ⟨e1,e2,e3⟩
 rw [ex] at hs es
 obtain ⟨s1,s2,s3⟩ := s
 have es2:s2 = (x:Int) := es
 subst es2
 have HH:Hid (RG w base C g d ∧ GI g ∧ base ≤ w.heap.size ∧ m < g.n ∧ g.said (x:Int) = some (s1,(x:Int),s3)) := ⟨h,hi,hbw,hm,hs⟩
 obtain ⟨l1,el1⟩:∃ l1,l1 = g.l.eraseIdx k := ⟨_,rfl⟩
 have FIN:Hid ((g.H ++ hear (m:Int) (ctk (m:Int) (g.K m) (g.ws m) (s1,(x:Int),s3)).1).length ≤ 60) := by
  have q := len60 (give_gi hi (k:Int))
  rw [(give_eq hi hk em (by rw [ex]; exact hs)).1] at q
  exact q
 rw [← el1] at E ⊢
 have hm5:m < 5 := by omega
 have hm0:(0:Int) ≤ (m:Int) := by omega
 have hmn:(m:Int) < (g.n:Int) := by omega
 have hx1:(1:Int) ≤ (x:Int) := by omega
 have hx2:(x:Int) ≤ 30 := by omega
 have hx0:(0:Int) ≤ (x:Int) := by omega
 have hx3:(x:Int) < 31 := by omega
 clear h hi hbw e1 e2 e3 hs es ea0 ex em hkI hk hok
 go_enter Tryz.func60,Tryz.ntmps60
 go_wp2_with fail
 refine (Net.refGive (k:Int) HH.out.1.rn HH.out.2.1.net HH.out.2.2.1).mono ?_
 rintro e w1 ⟨v',rfl,hn,hb,hkp,hv⟩
 rw [E.out.1,E.out.2.2]
 have R1:Hid (CRes w w1 base C g d (setL g l1) { d with vN := v' }) := by
  have r := HH.out.1.net hkp hb (by simp) hn hv
  rw [E.out.2.1] at r
  exact r
 clear hn hb hkp hv c1 z1
 go_wp2_with fail
 obtain ⟨W,eW⟩:∃ W,W = w1.alloc (.cells #[.int .i64 a0,.int .i64 (m:Int),.int .i64 (x:Int)] 83) := ⟨_,rfl⟩
 rw [← eW]
 have BW:Hid (Below w1.heap.size w1 W ∧ W.heap.size = w1.heap.size + 1) := ⟨by rw [eW]; exact (Below.refl _ _).alloc (Nat.le_refl _) _,by rw [eW]; simp⟩
 have R2:Hid (CRes w W base C g d (setL g l1) { d with vN := v' }) := R1.out.later HH.out.2.2.1 BW.out.1
 have rowB:W.rowIs w1.heap.size 83 3 (fun j => if j = 0 then .int .i64 a0 else if j = 1 then .int .i64 (m:Int) else .int .i64 (x:Int)) := by
  rw [eW]
  exact World.rowIs_alloc w1 #[.int .i64 a0,.int .i64 (m:Int),.int .i64 (x:Int)] 83 _ (fun i hi => by rcases i with _ | _ | _ | i <;> first | rfl | (exfalso; have:_ < 3 := hi; omega))
 have RB:Hid (W.rowIs w1.heap.size 83 3 (fun j => if j = 0 then .int .i64 a0 else if j = 1 then .int .i64 (m:Int) else .int .i64 (x:Int))) := rowB
 have p1:W.cell? ⟨w1.heap.size,1,none⟩ = some (.int .i64 (m:Int)) := World.rowIs.cell rowB (i := 1) (by omega)
 have p2:W.cell? ⟨w1.heap.size,2,none⟩ = some (.int .i64 (x:Int)) := World.rowIs.cell rowB (i := 2) (by omega)
 have c0 := R2.out.rg.c0.1
 obtain ⟨bm,capm,evm,hbm,cm⟩ := R2.out.rg.mcell (i := m) HH.out.2.2.2.1
 rw [evm] at c0
 have hns:(setL g l1).said (x:Int) = some (s1,(x:Int),s3) := HH.out.2.2.2.2
 have t0 := (R2.out.rg.said0 hx.2 (show 0 < 3 by omega)).1
 have t1 := (R2.out.rg.said0 hx.2 (show 1 < 3 by omega)).1
 have t2 := (R2.out.rg.said0 hx.2 (show 2 < 3 by omega)).1
 rw [saidV,hns] at t0 t1 t2
 simp at t0 t1 t2
 obtain ⟨ad,ead⟩:∃ ad,ad = d.at_ (x:Int) := ⟨_,rfl⟩
 rw [← ead] at t2
 obtain ⟨ad1,ad2,ad3⟩ := ad
 simp only at t2
 have OLDc:Hid (Old W (· ∈ d.cl) (some ⟨ad1,ad2,none⟩) s3) := by
  have q := R2.out.rg.clk (x:Int) _ hns
  have e:({ d with vN := v' }:Loc).at_ (x:Int) = (ad1,ad2,ad3) := ead.symm
  rw [e] at q
  exact q
 have RM:Hid (RC W base (· ∈ d.cl) (d.P m) (m:Int) (g.K m) (d.es m) (d.vs m) ∧ (d.es m).map toSd = g.ws m) := R2.out.rg.rc m HH.out.2.2.2.1
 have CI:Hid (Cau.CInv (m:Int) (g.K m) ((d.es m).map toSd)) := by
  show Cau.CInv _ _ _
  rw [RM.out.2]
  exact HH.out.2.1.i0.cinv hm5
 have hsz:base ≤ W.heap.size := Nat.le_trans HH.out.2.2.1 R2.out.bel.size
 have HT1:Hid (∀ X:World,X.heap = W.heap → RC X base (· ∈ d.cl) (d.P m) (m:Int) (g.K m) (d.es m) (d.vs m)) := fun X e => RM.out.1.of_blocks (w' := X) (by rw [e]; exact Nat.le_refl _) (fun b _ => by rw [e]) (by rw [e]) (fun k _ => by rw [e])
 have HT2:Hid (∀ X:World,X.heap = W.heap → Old X (· ∈ d.cl) (some ⟨ad1,ad2,none⟩) s3) := fun X e => OLDc.out.later (w' := X) (fun b _ => by rw [e])
 have HT3:Hid (∀ X:World,X.heap = W.heap → Vw X (some ⟨ad1,ad2,none⟩) 5 s3) := fun X e => (HT2.out X e).vw (HT1.out X e).flt
 have HT4:Hid (∀ X:World,X.heap = W.heap → base ≤ X.heap.size) := fun X e => by rw [e]; exact hsz
 have HS:Hid (∀ X:World,(∀ b,b < W.heap.size → b ≠ d.P m → (d.vs m).ownBlock ≠ some b → X.heap[b]? = W.heap[b]?) → X.cell? ⟨C,0,none⟩ = some (.slice (some ⟨bm,0,none⟩) g.n capm) ∧ X.cell? ⟨bm,m,none⟩ = some (.pointer (some ⟨d.P m,0,none⟩)) ∧ X.cell? ⟨w1.heap.size,1,none⟩ = some (.int .i64 (m:Int)) ∧ X.cell? ⟨w1.heap.size,2,none⟩ = some (.int .i64 (x:Int)) ∧ X.cell? ⟨C,2 + x * 3,none⟩ = some (.int .i64 s1) ∧ X.cell? ⟨C,2 + x * 3 + 1,none⟩ = some (.int .i64 (x:Int)) ∧ X.cell? ⟨C,2 + x * 3 + 2,none⟩ = some (.slice (some ⟨ad1,ad2,none⟩) 5 ad3)) := by
  intro X hX
  have tP := R2.out.rg.tyP (i := m) HH.out.2.2.2.1
  have hty:∀ {b:Nat} {t:TypeId},tyOf W b = some t → b < W.heap.size → t ≠ 134 → t ≠ 51 → X.heap[b]? = W.heap[b]? := fun {b t} q1 q2 q3 q4 => hX b q2 (ty_ne q1 tP q3) fun e => ty_ne q1 (R2.out.rg.tyS (i := m) HH.out.2.2.2.1 e) q4 rfl
  have hC := hty R2.out.rg.tyC (World.rowIs.lt R2.out.rg.row) (by decide) (by decide)
  have hM := hty (R2.out.rg.tyM (k := bm) (by rw [evm]; rfl)) hbm (by decide) (by decide)
  have hB := hty (ty_row RB.out) (World.rowIs.lt RB.out) (by decide) (by decide)
  exact ⟨(World.cell?_of_block (a := ⟨C,0,none⟩) hC).trans c0,(World.cell?_of_block (a := ⟨bm,m,none⟩) hM).trans cm,(World.cell?_of_block (a := ⟨w1.heap.size,1,none⟩) hB).trans p1,(World.cell?_of_block (a := ⟨w1.heap.size,2,none⟩) hB).trans p2,(World.cell?_of_block (a := ⟨C,2 + x * 3,none⟩) hC).trans t0,(World.cell?_of_block (a := ⟨C,2 + x * 3 + 1,none⟩) hC).trans t1,(World.cell?_of_block (a := ⟨C,2 + x * 3 + 2,none⟩) hC).trans t2⟩
 clear eW rowB hns ead evm hbm hsz p1 p2 c0 cm t0 t1 t2
 go_region_held3 (fun X => X.cell? ⟨C,0,none⟩ = some (.slice (some ⟨bm,0,none⟩) g.n capm) ∧ X.cell? ⟨bm,m,none⟩ = some (.pointer (some ⟨d.P m,0,none⟩)) ∧ X.cell? ⟨w1.heap.size,1,none⟩ = some (.int .i64 (m:Int)) ∧ X.cell? ⟨w1.heap.size,2,none⟩ = some (.int .i64 (x:Int)) ∧ X.cell? ⟨C,2 + x * 3,none⟩ = some (.int .i64 s1) ∧ X.cell? ⟨C,2 + x * 3 + 1,none⟩ = some (.int .i64 (x:Int)) ∧ X.cell? ⟨C,2 + x * 3 + 2,none⟩ = some (.slice (some ⟨ad1,ad2,none⟩) 5 ad3)) (first | exact HS.out _ (fun _ _ _ _ => rfl) | exact HS.out _ K4.out) (first
  | (go_at_call 105; refine (Cau.refTakeC base (· ∈ d.cl) (d.P m) (m:Int) (g.K m) (d.es m) (d.vs m) s1 (x:Int) (some ⟨ad1,ad2,none⟩) 5 ad3 s3 _ (by exact HT1.out _ rfl) CI.out (by exact HT4.out _ rfl) (by exact HT3.out _ rfl) (by exact (fun _ => HT2.out _ rfl))).mono ?_; rintro e4 w4 ⟨vo,v4,es4,rfl,hr4,hes4,ho4,hb4,hk4,hv4⟩; have T4:Hid (RC w4 base (· ∈ d.cl) (d.P m) (m:Int) (ctk (m:Int) (g.K m) ((d.es m).map toSd) (s1,(x:Int),s3)).2.1 es4 v4 ∧ es4.map toSd = (ctk (m:Int) (g.K m) ((d.es m).map toSd) (s1,(x:Int),s3)).2.2 ∧ w4.ownsRow W.heap.size 3 1 vo (ctk (m:Int) (g.K m) ((d.es m).map toSd) (s1,(x:Int),s3)).1.length ((ctk (m:Int) (g.K m) ((d.es m).map toSd) (s1,(x:Int),s3)).1.map (Value.int .i64)) ∧ Below base W w4 ∧ Kp W w4 (d.P m) (d.vs m).ownBlock ∧ ∀ k,v4.ownBlock = some k → (d.vs m).ownBlock = some k ∨ W.heap.size ≤ k) := ⟨hr4,hes4,ho4,below_eq hb4 rfl rfl rfl rfl,kp_eq hk4 rfl,hv4⟩; have K4:Hid (∀ b,b < W.heap.size → b ≠ d.P m → (d.vs m).ownBlock ≠ some b → w4.heap[b]? = W.heap[b]?) := fun b q1 q2 q3 => T4.out.2.2.2.2.1.2 b q1 q2 (fun e => q3 e.symm); clear hr4 hes4 ho4 hb4 hk4 hv4))
 rw [RM.out.2] at T4
 obtain ⟨ct,ect⟩:∃ ct,ct = ctk (m:Int) (g.K m) (g.ws m) (s1,(x:Int),s3) := ⟨_,rfl⟩
 have ECT:Hid (ct = ctk (m:Int) (g.K m) (g.ws m) (s1,(x:Int),s3)) := ect
 rw [← ect] at T4 FIN
 obtain ⟨lv,elv⟩:∃ lv,lv = ct.1.length := ⟨_,rfl⟩
 obtain ⟨qo,co,rfl⟩ := own_form T4.out.2.2.1
 have LV:Hid (lv = ct.1.length) := elv
 have BB:Hid (w4.heap[w1.heap.size]? = W.heap[w1.heap.size]?) := K4.out _ (World.rowIs.lt RB.out) (ty_ne (ty_row RB.out) (R2.out.rg.tyP (i := m) HH.out.2.2.2.1) (by decide)) (fun e => ty_ne (ty_row RB.out) (R2.out.rg.tyS (i := m) HH.out.2.2.2.1 e) (by decide) rfl)
 have R4:Hid (∃ d',CRes w w4 base C g d (upd (setL g l1) m ct.2.1 ct.2.2 (g.H ++ hear (m:Int) (ct.1.take 0))) d' ∧ ¬ Fp C g.n d' w1.heap.size ∧ (∀ b,(Value.slice qo ct.1.length co).ownBlock = some b → ¬ Fp C g.n d' b ∧ w4.heap[b]? = w4.heap[b]?) ∧ w4.heap[w1.heap.size]? = W.heap[w1.heap.size]?) := by
  have r := R2.out.trans (R2.out.rg.member (i := m) HH.out.2.2.2.1 T4.out.2.2.2.2.1 T4.out.2.2.2.1 (fun k hk => hk) T4.out.1 T4.out.2.2.2.2.2)
  rw [T4.out.2.1] at r
  have e0:g.H ++ hear (m:Int) (ct.1.take 0) = g.H := by simp [hear]
  refine ⟨_,by rw [e0]; exact r,?_,fun b hb => ⟨?_,rfl⟩,BB.out⟩
  ·refine r.rg.not_pk (by rw [ty_same BB.out]; exact ty_row RB.out) fun q => ?_
   have := (own_lt R1.out.rg.rn.own _ q).2
   omega
  ·refine r.rg.not_int (ty_own T4.out.2.2.1 hb) fun q => ?_
   have q1 := (own_lt T4.out.2.2.1 b hb).1
   have q2 := (HH.out.1.cty b q).2.2
   have q3 := R2.out.bel.size
   omega
 have OV:Hid (w4.ownsRow W.heap.size 3 1 (.slice qo lv co) lv (ct.1.map (Value.int .i64)) ∧ w.heap.size ≤ W.heap.size) := by
  rw [elv]
  exact ⟨T4.out.2.2.1,R2.out.bel.size⟩
 rw [← elv] at R4 ⊢
 obtain ⟨ie,hie,hz0,hz1,hz2⟩ := info_ev
 have HI:Hid (Tryz.prog.info? 40 = some ie ∧ ie.zero = some (.agg #[.int .i64 0,.int .i64 0,.int .i64 0]) ∧ ie.size = 3 ∧ ie.bytes = 24) := ⟨hie,hz0,hz1,hz2⟩
 have hlv:lv ≤ 60 := by
  have := FIN.out
  rw [List.length_append] at this
  simp [hear] at this
  omega
 clear hie hz0 hz1 hz2 elv ect
 go_wp2
 go_loopw [10] (fun y wr => ∃ i:Nat,i ≤ lv ∧ y = .int .i64 (i:Int) ∧ Hid (∃ d',CRes w wr base C g d (upd (setL g l1) m ct.2.1 ct.2.2 (g.H ++ hear (m:Int) (ct.1.take i))) d' ∧ ¬ Fp C g.n d' w1.heap.size ∧ (∀ b,(Value.slice qo lv co).ownBlock = some b → ¬ Fp C g.n d' b ∧ wr.heap[b]? = w4.heap[b]?) ∧ wr.heap[w1.heap.size]? = W.heap[w1.heap.size]?)) (fun y _ => lv - (intOf y).toNat)
 case atStart =>
  obtain ⟨d',ra,rb,rc,re⟩ := R4.out
  exact ⟨0,by omega,rfl,d',ra,rb,fun b hb => ⟨(rc b hb).1,rfl⟩,re⟩
 case round =>
  clear R4
  obtain ⟨i,hil,rfl,hQ⟩ := hrel
  by_cases hlt:i < lv
  ·obtain ⟨d',hR,hnB,hnV,hBk⟩ := hQ.out
   have R:Hid (CRes w wr base C g d (upd (setL g l1) m ct.2.1 ct.2.2 (g.H ++ hear (m:Int) (ct.1.take i))) d' ∧ ¬ Fp C g.n d' w1.heap.size ∧ (∀ b,(Value.slice qo lv co).ownBlock = some b → ¬ Fp C g.n d' b ∧ wr.heap[b]? = w4.heap[b]?) ∧ wr.heap[w1.heap.size]? = W.heap[w1.heap.size]?) := ⟨hR,hnB,hnV,hBk⟩
   obtain ⟨c96,z96⟩ := hR.rg.c96
   obtain ⟨qh,caph,evh⟩ := own_form hR.rg.evs
   rw [evh] at c96
   obtain ⟨hh,ehh⟩:∃ hh,hh = g.H ++ hear (m:Int) (ct.1.take i) := ⟨_,rfl⟩
   obtain ⟨lh,elh⟩:∃ lh,lh = hh.length := ⟨_,rfl⟩
   have hl60:lh ≤ 60 := by
    have := FIN.out
    rw [List.length_append] at this
    rw [elh,ehh,List.length_append]
    simp [hear] at this ⊢
    omega
   have HE:Hid (wr.ownsRow base 40 3 (.slice qh lh caph) lh (Net.flat hh) ∧ d'.vH = .slice qh lh caph ∧ lh = hh.length ∧ base ≤ wr.heap.size ∧ C < wr.heap.size ∧ hh = g.H ++ hear (m:Int) (ct.1.take i)) := by
    have o := hR.rg.evs
    rw [evh] at o
    rw [elh,ehh]
    exact ⟨o,evh,rfl,Nat.le_trans HH.out.2.2.1 hR.bel.size,World.rowIs.lt hR.rg.row,rfl⟩
   have ec:(upd (setL g l1) m ct.2.1 ct.2.2 (g.H ++ hear (m:Int) (ct.1.take i))).H.length = lh := by rw [elh,ehh]; rfl
   rw [ec] at c96
   have NC:Hid (some C ≠ (Value.slice qh lh caph).ownBlock) := fun e => ty_ne hR.rg.tyC (ty_own HE.out.1 e.symm) (by decide) rfl
   have p1:wr.cell? ⟨w1.heap.size,1,none⟩ = some (.int .i64 (m:Int)) := (World.cell?_of_block (a := ⟨w1.heap.size,1,none⟩) hBk).trans (World.rowIs.cell RB.out (i := 1) (by omega))
   obtain ⟨av,cv,eav,hav⟩ := Fif.own_vw (own_block OV.out.1 (w' := wr) fun b hb => (hnV b hb).2)
   cases eav
   obtain ⟨go,oo,rfl,_,hco⟩ := hav.2 (by omega)
   have ci := hco i hlt
   obtain ⟨y,ey⟩:∃ y,y = ct.1.getD i 0 := ⟨_,rfl⟩
   rw [← ey] at ci
   have EY:Hid (y = ct.1.getD i 0 ∧ i < ct.1.length) := ⟨ey,by rw [← LV.out]; exact hlt⟩
   have hi0:(0:Int) ≤ (i:Int) := by omega
   have hilv:(i:Int) < (lv:Int) := by omega
   have hwr:wr.heap.size = wr.heap.size := rfl
   have h24:(lh + 1) * 24 ≤ 140737488355328 := by omega
   have hBW:w1.heap.size < wr.heap.size := by
    have q1 := World.rowIs.lt RB.out
    have q2 := BB.out
    have q3:wr.heap[w1.heap.size]? = some (W.heap[w1.heap.size]'q1) := hBk.trans (Array.getElem?_eq_getElem q1)
    exact (Array.getElem?_eq_some_iff.1 q3).1
   have hCW:C < wr.heap.size := HE.out.2.2.2.2.1
   clear hR hnB hnV hBk hQ evh elh ehh hav hco ey ec hwr
   go_wp2_with fail
   go_region_law ((refine step_append_lies _ (by rfl) _ _ _ (by rfl) base 40 ie (.agg #[.int .i64 0,.int .i64 0,.int .i64 0]) 3 24 Tryz.underlying34 HI.out.1 HI.out.2.1 HI.out.2.2.1 HI.out.2.2.2 rfl (by omega) (.slice qh lh caph) lh (Net.flat hh) (by rfl) (by exact Net.own_push HE.out.1 rfl) ⟨wr.heap.size,0,none⟩ 1 1 (Net.flat [((m:Int),3,y)]) (by rfl) (by rfl) (by exact Net.pk_push rfl) (Net.flat_one _) (by omega) (by unfold maxLen; omega) h24 (by have := HE.out.2.2.2.1; simp; omega) (wr.heap.size + 1) (by simp) ?_; intro gg gc w5 hown hgrow hat hlt3; have G5:Hid ((wr.alloc (.cells #[.int .i64 (m:Int),.int .i64 3,.int .i64 y] 40)).grownBy w5 (Value.slice qh lh caph).ownBlock) := Net.grown_push hgrow rfl rfl rfl rfl; have O5:Hid (w5.ownsRow base 40 3 (.slice (some ⟨gg,0,none⟩) (lh + 1) gc) (lh + 1) (Net.flat hh ++ Net.flat [((m:Int),3,y)])) := hown; have AT:Hid ((Value.slice qh lh caph).ownBlock = some gg ∨ gg = wr.heap.size + 1) := hat; have l3:w5.cell? ⟨C,96,none⟩ = some (.slice qh lh caph) := ((G5.out.cell_far ⟨C,96,none⟩ (by have := HE.out.2.2.2.2.1; simp; omega) NC.out).trans ((((Below.refl wr.heap.size wr).alloc (Nat.le_refl _) _).cell (p := ⟨C,96,none⟩) HE.out.2.2.2.2.1).trans c96)); have m3:w5.frozen? ⟨C,96,none⟩ = false := ((G5.out.frozen_far ⟨C,96,none⟩ (by have := HE.out.2.2.2.2.1; simp; omega) NC.out).trans ((((Below.refl wr.heap.size wr).alloc (Nat.le_refl _) _).frozen (p := ⟨C,96,none⟩) HE.out.2.2.2.2.1).trans z96)); clear hown hgrow hat hlt3))
   all_goals
    go_wp2
    go_roundw
    case rel =>
     have hg:wr.grownBy w5 d'.vH.ownBlock := by
      rw [HE.out.2.1]
      have b2 := (Below.refl wr.heap.size wr).alloc (Nat.le_refl _) (.cells #[.int .i64 (m:Int),.int .i64 3,.int .i64 y] 40)
      have h5 := G5.out
      exact ⟨h5.os.trans b2.os,h5.tape.trans b2.tape,h5.output.trans b2.output,Nat.le_trans b2.size h5.size,fun k hk hne => (h5.block k (Nat.lt_of_lt_of_le hk b2.size) hne).trans (b2.block k hk)⟩
     have o5:w5.ownsRow base 40 3 (.slice (some ⟨gg,0,none⟩) (lh + 1) gc) (hh ++ [((m:Int),3,y)]).length (Net.flat (hh ++ [((m:Int),3,y)])) := by
      have o := O5.out
      rw [← Net.flat_append] at o
      rw [List.length_append,← HE.out.2.2.1]
      exact o
     have hv:∀ k,(Value.slice (some (⟨gg,0,none⟩:Addr)) (lh + 1) gc).ownBlock = some k → d'.vH.ownBlock = some k ∨ wr.heap.size ≤ k := by
      intro k hk
      rw [HE.out.2.1]
      have e:gg = k := by simpa [Value.ownBlock] using hk
      subst e
      rcases AT.out with a | a
      ·exact .inl a
      ·exact .inr (by omega)
     have r1 := R.out.1.rg.hist hg HE.out.2.2.2.1 o5 hv
     have eH:hh ++ [((m:Int),3,y)] = g.H ++ hear (m:Int) (ct.1.take (i + 1)) := by
      rw [HE.out.2.2.2.2.2,List.append_assoc,EY.out.1,hear_take EY.out.2]
     rw [eH] at r1
     have r := R.out.1.trans r1
     refine ⟨i + 1,by omega,by go_num,_,r,(r1.out hBW R.out.2.1).2,fun b hb => ?_,(r1.out hBW R.out.2.1).1.trans R.out.2.2.2⟩
     have q1 := R.out.2.2.1 b hb
     have q2:b < wr.heap.size := lt_of_same q1.2 (own_lt OV.out.1 b hb).2
     exact ⟨(r1.out q2 q1.1).2,(r1.out q2 q1.1).1.trans q1.2⟩
    case measure => simp [intOf]; omega
  ·have hi:i = lv := by omega
   subst hi
   go_wp2
   go_ret2
   obtain ⟨d',hR,hnB,hnV,hBk⟩ := hQ.out
   rw [← ECT.out]
   rw [LV.out,List.take_length] at hR
   refine ⟨d',_,rfl,?_,fun b hb => (hnV b hb).1,hR⟩
   have o := own_mono (own_block OV.out.1 (w' := wr) fun b hb => (hnV b hb).2) OV.out.2
   rw [LV.out] at o ⊢
   exact o
theorem castGive (i:Int) (h:RG w base C g d) (hi:GI g) (hbw:base ≤ w.heap.size) :
  Calls Tryz.prog 60 #[.pointer (some ⟨C,0,none⟩),.int .i64 i] w fun y w' => ∃ d' vo,y = .returned (.tuple #[vo,.int .i64 (giveC g i)]) ∧ w'.ownsRow w.heap.size 3 1 vo (giveW g i).length ((giveW g i).map (Value.int .i64)) ∧ (∀ b,vo.ownBlock = some b → ¬ Fp C g.n d' b) ∧ CRes w w' base C g d (give g i) d' := by
 cases hin:isIn g.l i with
 | false =>
  have e1:giveC g i = 1 := by unfold giveC; rw [if_neg (by rw [hin]; decide)]
  rw [(give_no hin).1,(give_no hin).2,e1]
  refine (castGive_no i h hi hbw hin).mono ?_
  rintro y w' ⟨d',rfl,r⟩
  exact ⟨d',_,rfl,World.ownsRow_nil _ _ _ _,fun b hb => (by cases hb),r⟩
 | true =>
  obtain ⟨k,rfl,hk⟩ := Net.isIn_yes hin
  obtain ⟨m,s,em,hm,hs,e2,_⟩ := hi.packet hk
  have e1:giveC g (k:Int) = 0 := by unfold giveC; rw [if_pos hin]
  rw [(give_eq hi hk em hs).1,(give_eq hi hk em hs).2,e1]
  exact castGive_ok k m s h hi hbw hk em hm hs e2
end Go.Proofs.YtdmniblonikjlakGreatDoor.Cas
