/-
  Texts put together: CagH.
-/
import Derived.Test.YtdmniblonikjlakGreatDoorPsD


namespace Go.Proofs.YtdmniblonikjlakGreatDoor.Cau
open Go.RowKit
open Vec (Vw code refVector)
open Fif (own_lt own_block own_form own_vw own_mono row_grown Kp info_int new_int int_one ret_bool lenOf set_getD own_two)
set_option linter.unusedVariables false
theorem clk_num {clk:List Int} (h:code clk = 0) {m:Nat} (hm:m < 5):clk.length = 5 ∧ 0 ≤ clk.getD m 0 ∧ clk.getD m 0 ≤ 1000000 := by
 unfold code at h
 split at h
 ·rename_i hl
  split at h
  ·cases h
  ·rename_i hb
   refine ⟨hl,?_⟩
   have:Vec.out (clk.getD m 0) = false := by
    rw [Bool.eq_false_iff]
    intro q
    exact hb (Vec.anyP_true (p := fun k => Vec.out (clk.getD k 0)) hm q)
   simp only [Vec.out,Bool.or_eq_false_iff,decide_eq_false_iff_not] at this
   omega
 ·cases h
theorem CInv.incd {me:Int} {K:List Int} {ws:List Sd} (g:CInv me K ws) {s:Sd} (hs:SdOk s) (hr:rdy K s = true):(∀ j,j < 5 → 0 ≤ (inc K s.1).getD j 0 ∧ (inc K s.1).getD j 0 ≤ 1000000) ∧ (inc K s.1).length = 5 := by
 have hm:s.1.toNat < 5 := by have := hs.who; omega
 have e:((s.1.toNat:Nat):Int) = s.1 := by have := hs.who; omega
 have h1 := rdy_iff.1 hr s.1.toNat hm
 rw [rdyAt_own e] at h1
 have h2 := of_decide_eq_true h1
 have h3 := clk_num hs.clk hm
 have h5 := g.five
 unfold Cau.inc
 refine ⟨fun j hj => ?_,by rw [List.length_set]; exact h5⟩
 rw [set_getD (by omega)]
 split
 ·have := g.num _ hm
  omega
 ·exact g.num j hj
theorem CInv.hear {me:Int} {K:List Int} {ws:List Sd} (g:CInv me K ws) {i:Nat} (hi:i < ws.length) (hr:rdy K (sd ws i) = true):CInv me (inc K (sd ws i).1) (ws.eraseIdx i) := by
 have hs:SdOk (sd ws i) := g.ok _ (by rw [show sd ws i = ws[i] by simp [sd,List.getD,hi]]; exact List.getElem_mem _)
 obtain ⟨a,b⟩ := g.incd hs hr
 exact ⟨g.me,b,a,fun s h => g.ok s (List.mem_of_mem_eraseIdx h),by have := erase_len hi; have := g.len; omega⟩
theorem own_one (w:World) (x:Int) (t:TypeId):(w.alloc (.cells #[.int .i64 x] t)).ownsRow w.heap.size t 1 (.slice (some ⟨w.heap.size,0,none⟩) 1 1) 1 [.int .i64 x] := by
 refine ⟨rfl,.inr ⟨w.heap.size,1,#[.int .i64 x],rfl,Nat.le_refl _,?_,Nat.le_refl _,by unfold maxLen; omega,rfl,rfl⟩⟩
 show (w.heap.push _)[w.heap.size]? = _
 simp
def MidC (w:World) (base:Nat) (F:Nat → Prop) (P:Nat) (me:Int) (vb:Option Nat) (fin:List Int × List Int × List Sd) (wr:World) (vo:Value) (again:Bool):Prop :=
 ∃ K' es' out v',RC wr base F P me K' es' v' ∧ wr.ownsRow w.heap.size 3 1 vo out.length (out.map (Value.int .i64)) ∧ CInv me K' (es'.map toSd) ∧ es'.length + out.length ≤ 41 ∧ Below base w wr ∧ Kp w wr P vb ∧ (∀ k,v'.ownBlock = some k → vb = some k ∨ w.heap.size ≤ k) ∧
  (if again = true then (out ++ (run K' (es'.map toSd)).1,(run K' (es'.map toSd)).2) = fin else (out,K',es'.map toSd) = fin)
def yes:Value → Nat
 | .bool true => 1
 | _ => 0
set_option maxRecDepth 100000 in
set_option maxHeartbeats 4000000 in
theorem takeC_hear (base:Nat) (F:Nat → Prop) (P m:Nat) (me:Int) (K:List Int) (es:List Es) (v:Value) (word:Int) (q:Option Addr) (c:Nat) (clk:List Int) (w:World) (hm:m < 5) (g:RC w base F P me K es v) (hi:CInv me K (es.map toSd)) (hbw:base ≤ w.heap.size) (hv:Vw w q 5 clk) (h1:1 ≤ word) (h2:word ≤ 30) (hc:code clk = 0) (hw:¬ (m:Int) = me) (hz:¬ clk.getD m 0 = 0) (ho:¬ clk.getD m 0 ≤ K.getD m 0) (ha:(es.map toSd).any (same ((m:Int),word,clk)) = false) (hr:rdy K ((m:Int),word,clk) = true) :
  Calls Tryz.prog 105 #[.pointer (some ⟨P,0,none⟩),.agg #[.int .i64 (m:Int),.int .i64 word,.slice q 5 c]] w fun x w' => ∃ vo v' es',x = .returned (.tuple #[vo,.int .i64 0]) ∧ RC w' base F P me (run (inc K (m:Int)) (es.map toSd)).2.1 es' v' ∧ es'.map toSd = (run (inc K (m:Int)) (es.map toSd)).2.2 ∧ w'.ownsRow w.heap.size 3 1 vo (word :: (run (inc K (m:Int)) (es.map toSd)).1).length ((word :: (run (inc K (m:Int)) (es.map toSd)).1).map (Value.int .i64)) ∧ Below base w w' ∧ Kp w w' P v.ownBlock ∧ ∀ k,v'.ownBlock = some k → v.ownBlock = some k ∨ w.heap.size ≤ k := by
 obtain ⟨vb,evb⟩:∃ vb,vb = v.ownBlock := ⟨_,rfl⟩
 rw [← evb]
 obtain ⟨fin,efin⟩:∃ fin,fin = (word :: (run (inc K (m:Int)) (es.map toSd)).1,(run (inc K (m:Int)) (es.map toSd)).2) := ⟨_,rfl⟩
 have EF:Hid (fin = (word :: (run (inc K (m:Int)) (es.map toSd)).1,(run (inc K (m:Int)) (es.map toSd)).2)) := efin
 have OV:Hid (vb = v.ownBlock ∧ ∀ k,v.ownBlock = some k → base ≤ k ∧ k < w.heap.size) := ⟨evb,own_lt g.own⟩
 have FL:Hid (∀ b,F b → b < w.heap.size) := g.flt
 clear efin evb
 obtain ⟨ie,hi',hz0,hz1,hz2⟩ := info_said
 have HI:Hid (Tryz.prog.info? 51 = some ie ∧ ie.zero = some (.agg #[.int .i64 0,.int .i64 0,.slice none 0 0]) ∧ ie.size = 3 ∧ ie.bytes = 40) := ⟨hi',hz0,hz1,hz2⟩
 clear hi' hz0 hz1 hz2
 obtain ⟨ii,hi',hz0,hz1,hz2⟩ := info_int
 have HJ:Hid (Tryz.prog.info? 3 = some ii ∧ ii.zero = some (.int .i64 0) ∧ ii.size = 1 ∧ ii.bytes = 8) := ⟨hi',hz0,hz1,hz2⟩
 clear hi' hz0 hz1 hz2
 have hm0:(0:Int) ≤ (m:Int) := by omega
 have hm4:(m:Int) ≤ 4 := by omega
 have hm5:(m:Int) < 5 := by omega
 obtain ⟨b,off,rfl,hbl,hcs⟩ := hv.2 (by omega)
 obtain ⟨W,eW⟩:∃ W,W = w.alloc (.cells #[.int .i64 (m:Int),.int .i64 word,.slice (some ⟨b,off,none⟩) 5 c] 51) := ⟨_,rfl⟩
 have BW:Hid (Below w.heap.size w W ∧ W.heap.size = w.heap.size + 1) := ⟨by rw [eW]; exact (Below.refl _ _).alloc (Nat.le_refl _) _,by rw [eW]; simp⟩
 have a0:W.cell? ⟨w.heap.size,0,none⟩ = some (.int .i64 (m:Int)) := by rw [eW]; go_cell
 have a1:W.cell? ⟨w.heap.size,1,none⟩ = some (.int .i64 word) := by rw [eW]; go_cell
 have a2:W.cell? ⟨w.heap.size,2,none⟩ = some (.slice (some ⟨b,off,none⟩) 5 c) := by rw [eW]; go_cell
 have GW:Hid (RC W base F P me K es v ∧ CInv me K (es.map toSd) ∧ base ≤ w.heap.size ∧ Vw W (some ⟨b,off,none⟩) 5 clk ∧ code clk = 0 ∧ RC w base F P me K es v) := ⟨g.later BW.out.1,hi,hbw,hv.later BW.out.1,hc,g⟩
 have c0 := GW.out.1.me.1
 have k0 := (GW.out.1.num hm).1
 have t0:W.cell? ⟨b,off + m,none⟩ = some (.int .i64 (clk.getD m 0)) := (BW.out.1.cell (p := ⟨b,off + m,none⟩) hbl).trans (hcs m hm)
 have hy := hi.num m hm
 obtain ⟨x,ex⟩:∃ x,x = clk.getD m 0 := ⟨_,rfl⟩
 obtain ⟨y,ey⟩:∃ y,y = K.getD m 0 := ⟨_,rfl⟩
 rw [← ex] at t0
 rw [← ey] at k0 hy
 have EX:Hid (x = clk.getD m 0 ∧ y = K.getD m 0) := ⟨ex,ey⟩
 rw [← ex] at hz ho
 rw [← ey] at ho
 have hz':(x == 0) = false := by simp [hz]
 have ho':y < x := by omega
 clear hz ho
 obtain ⟨qw,cw,rfl,hlc,hcm,hform⟩ := GW.out.1.form
 have c6 := GW.out.1.wait.1
 have hln := hi.len
 obtain ⟨ln,eln⟩:∃ ln,ln = es.length := ⟨_,rfl⟩
 rw [← eln] at c6 hlc hform
 rw [List.length_map,← eln] at hln
 have LN:Hid (es.length = ln) := eln.symm
 have FM:Hid (0 < ln → ∃ g,qw = some ⟨g,0,none⟩ ∧ base ≤ g ∧ g < W.heap.size ∧ ∀ j u,(flatE es)[j]? = some u → W.cell? ⟨g,j,none⟩ = some u) := hform
 have CM:Hid (cw ≤ maxLen) := hcm
 clear hform eln hcm
 have NA:Hid ((es.map toSd).any (same ((m:Int),word,clk)) = false) := ha
 have RD:Hid (rdy K ((m:Int),word,clk) = true) := hr
 clear ha hr
 have hw':((m:Int) == me) = false := by simp [hw]
 clear hw
 clear g hi hbw hv hcs hbl hc ex ey
 go_enter Tryz.func105,Tryz.ntmps105
 go_wp2_with fail
 rw [← eW]
 refine (refVector (some ⟨b,off,none⟩) 5 c clk W GW.out.2.2.2.1).mono ?_
 rintro e w1 ⟨rfl,e1⟩
 have e1 := e1.symm
 subst e1
 rw [GW.out.2.2.2.2.1]
 clear eW
 go_wp2_with fail
 go_quiet (fail)
 go_wp2_with fail
 go_quiet (fail)
 go_wp2
 go_loopw [7] (fun x wr => ∃ i:Nat,i ≤ ln ∧ x = .int .i64 (i:Int) ∧ (∃ n,wr = W.drewN n) ∧ Hid (∀ j,j < i → same ((m:Int),word,clk) (sd (es.map toSd) j) = false)) (fun x _ => ln - (intOf x).toNat)
 case atStart => exact ⟨0,by omega,rfl,⟨_,by first | rfl | exact World.drewN_drewN _ _ _⟩,fun j hj => absurd hj (by omega)⟩
 case round =>
  obtain ⟨i,hi,rfl,⟨n,rfl⟩,hsc⟩ := hrel
  by_cases hlt:i < ln
  ·obtain ⟨gb,rfl,hbg,hgw,hcs⟩ := FM.out (by omega)
   have hil':i < es.length := by rw [LN.out]; exact hlt
   obtain ⟨x0,x1,x2⟩ := c3_of hcs hil'
   obtain ⟨bi,oi,eqi,hbi,-,hci⟩ := GW.out.1.old (eg es i) (by rw [eg_get hil']; exact List.getElem_mem _)
   have u0 := hci m hm
   have es1 := sd_eg hil'
   obtain ⟨ee,hE⟩:∃ ee,eg es i = ee := ⟨_,rfl⟩
   rw [hE] at x0 x1 x2 u0 eqi es1
   obtain ⟨e1,e2,e3,e4,e5⟩ := ee
   simp only at x0 x1 x2 u0 eqi
   rw [eqi] at x2
   obtain ⟨z,ez⟩:∃ z,z = e5.getD m 0 := ⟨_,rfl⟩
   rw [← ez] at u0
   have ES:Hid (sd (es.map toSd) i = (e1,e2,e5) ∧ z = e5.getD m 0) := ⟨es1,ez⟩
   have hi0:(0:Int) ≤ (i:Int) := by omega
   have hil:(i:Int) < (ln:Int) := by omega
   clear hcs hbg hgw hci es1 ez hE eqi hbi hil'
   by_cases g1:e1 = (m:Int)
   ·have g1':(e1 == (m:Int)) = true := by simp [g1]
    by_cases g2:z = x
    ·have g2':(z == x) = true := by simp [g2]
     exfalso
     have hil2:i < (es.map toSd).length := by rw [List.length_map,LN.out]; exact hlt
     have hs:same ((m:Int),word,clk) (sd (es.map toSd) i) = true := by
      rw [ES.out.1]
      show (decide (e1 = (m:Int)) && decide (e5.getD ((m:Int)).toNat 0 = clk.getD ((m:Int)).toNat 0)) = true
      rw [Int.toNat_natCast,← ES.out.2,← EX.out.1]
      simp [g1,g2]
     have := NA.out
     rw [List.any_eq_false] at this
     exact this _ (by rw [show sd (es.map toSd) i = (es.map toSd)[i] by simp only [sd,List.getD,List.getElem?_eq_getElem hil2,Option.getD_some]] at hs ⊢; exact List.getElem_mem _) hs
    ·have g2':(z == x) = false := by simp [g2]
     have KN:Hid (same ((m:Int),word,clk) (sd (es.map toSd) i) = false) := by
      show _ = _
      rw [ES.out.1]
      show (decide (e1 = (m:Int)) && decide (e5.getD ((m:Int)).toNat 0 = clk.getD ((m:Int)).toNat 0)) = false
      rw [Int.toNat_natCast,← ES.out.2,← EX.out.1]
      simp [g2]
     go_wp2_with fail
     go_quiet (fail)
     go_wp2
     go_roundw
     case rel => exact ⟨i + 1,by omega,by go_num,⟨_,rfl⟩,any_step hsc.out KN.out⟩
     case measure => simp [intOf]; omega
   ·have g1':(e1 == (m:Int)) = false := by simp [g1]
    have KN:Hid (same ((m:Int),word,clk) (sd (es.map toSd) i) = false) := by
     show _ = _
     rw [ES.out.1]
     simp [same,g1]
    go_wp2_with fail
    go_quiet (fail)
    go_wp2
    go_roundw
    case rel => exact ⟨i + 1,by omega,by go_num,⟨_,rfl⟩,any_step hsc.out KN.out⟩
    case measure => simp [intOf]; omega
  ·have hil:i = ln := by omega
   subst hil
   go_wp2_with fail
   refine (ready_any P K (m:Int) word (some ⟨b,off,none⟩) c clk _ (by exact World.rowIs.lt GW.out.1.row) (by exact k5_heap GW.out.1.k5 rfl) GW.out.2.1.num (by exact vw_heap GW.out.2.2.2.1 rfl)).mono ?_
   rintro e w2 ⟨rfl,hb⟩
   rw [RD.out]
   have B2:Hid (Below W.heap.size W w2) := below_same hb rfl rfl rfl rfl
   clear hb
   have G2:RC w2 base F P me K es (.slice qw es.length cw) := GW.out.1.later B2.out
   obtain ⟨d1,f1⟩ := G2.num hm
   rw [← EX.out.2] at d1
   have hBW2 := BW.out.2
   have b0:w2.cell? ⟨w.heap.size,0,none⟩ = some (.int .i64 (m:Int)) := (B2.out.cell (p := ⟨w.heap.size,0,none⟩) (by show w.heap.size < _; omega)).trans a0
   have b1:w2.cell? ⟨w.heap.size,1,none⟩ = some (.int .i64 word) := (B2.out.cell (p := ⟨w.heap.size,1,none⟩) (by show w.heap.size < _; omega)).trans a1
   have GG:Hid (RC w2 base F P me K es (.slice qw es.length cw) ∧ base ≤ w2.heap.size ∧ w.heap.size < w2.heap.size ∧ Below base w w2 ∧ Kp w w2 P vb ∧ P ≠ w.heap.size) := by
    have hsz := B2.out.size
    have := BW.out.2
    have := GW.out.2.2.1
    have := World.rowIs.lt GW.out.2.2.2.2.2.row
    exact ⟨G2,by omega,by omega,(BW.out.1.mono GW.out.2.2.1).trans (B2.out.mono (by omega)),(Kp.below (P := P) BW.out.1 _).trans (Kp.below (P := P) B2.out none) (by simp),by omega⟩
   clear G2 a0 a1 a2 c0 k0 t0 c6
   go_wp2_with fail
   go_region
   obtain ⟨W3,eW3⟩:∃ W3,W3 = (w2.setCell ⟨P,1 + m,none⟩ (.int .i64 (y + 1))).drew := ⟨_,rfl⟩
   rw [← eW3]
   have R3:Hid (RC W3 base F P me (inc K (m:Int)) es (.slice qw es.length cw) ∧ base ≤ W3.heap.size ∧ w.heap.size ≤ W3.heap.size ∧ Below base w W3 ∧ Kp w W3 P vb) := by
    have r := GG.out.1.setK hm (y + 1)
    have ei:inc K (m:Int) = K.set m (y + 1) := by rw [inc,Int.toNat_natCast,EX.out.2]
    rw [ei,eW3]
    refine ⟨r.later (below_drews (Below.refl _ _) 1),?_,?_,(GG.out.2.2.2.1.setCell (p := ⟨P,1 + m,none⟩) GG.out.1.low _).drew,GG.out.2.2.2.2.1.trans (r' := none) (Kp.setCell w2 P (1 + m) _ none) (by simp)⟩
    ·have := GG.out.2.1; simp [World.setCell]; omega
    ·have := GG.out.2.2.1; simp [World.setCell]; omega
   have b3:W3.cell? ⟨w.heap.size,1,none⟩ = some (.int .i64 word) := by
    rw [eW3]
    refine Eq.trans ?_ b1
    exact World.cell?_setCell_other _ _ _ _ (fun e => GG.out.2.2.2.2.2 (congrArg Addr.block e))
   clear eW3 b0 b1 d1 f1
   go_wp2
   obtain ⟨W4,eW4⟩:∃ W4,W4 = W3.alloc (.cells #[.int .i64 word] 3) := ⟨_,rfl⟩
   rw [← eW4]
   have M1:Hid (MidC w base F P me vb fin W4 (.slice (some ⟨W3.heap.size,0,none⟩) 1 1) true) := by
    have hI := GW.out.2.1
    have hinc := hI.incd (s := ((m:Int),word,clk)) ⟨⟨hm0,hm4⟩,⟨h1,h2⟩,GW.out.2.2.2.2.1⟩ RD.out
    refine ⟨inc K (m:Int),es,[word],.slice qw es.length cw,?_,?_,⟨hI.me,hinc.2,hinc.1,hI.ok,hI.len⟩,?_,?_,?_,fun k hk => .inl (by rw [OV.out.1]; exact hk),?_⟩
    ·rw [eW4]; exact R3.out.1.later ((Below.refl _ _).alloc (Nat.le_refl _) _)
    ·rw [eW4]; exact own_mono (own_one W3 word 3) R3.out.2.2.1
    ·have := hI.len; rw [List.length_map] at this; simp; omega
    ·rw [eW4]; exact R3.out.2.2.2.1.alloc R3.out.2.1 _
    ·rw [eW4]; exact R3.out.2.2.2.2.trans (r' := none) (Kp.alloc W3 _ P none) (by simp)
    ·rw [if_pos rfl,EF.out]
     rfl
   clear eW4 b3
   go_loopw [9,10] (fun vo va wr => ∃ ag:Bool,va = .bool ag ∧ Hid (MidC w base F P me vb fin wr vo ag)) (fun vo va _ => 2 * (42 - lenOf vo) + yes va)
   case atStart => exact ⟨true,rfl,M1.out⟩
   case round =>
    clear M1
    obtain ⟨ag,rfl,hM⟩ := hrel
    obtain ⟨K',es',out,v',hR,hO,hI,hL,hB,hKp,hNV,hfin⟩ := hM.out
    obtain ⟨qo,co,rfl⟩ := own_form hO
    obtain ⟨q2,cap2,rfl,hlc2,hcm2,hform2⟩ := hR.form
    cases ag with
    | false =>
     rw [if_neg (by decide)] at hfin
     have FI:Hid ((out,K',es'.map toSd) = fin ∧ RC wr base F P me K' es' (.slice q2 es'.length cap2) ∧ wr.ownsRow w.heap.size 3 1 (.slice qo out.length co) out.length (out.map (Value.int .i64)) ∧ Below base w wr ∧ Kp w wr P vb ∧ ∀ k,(Value.slice q2 es'.length cap2).ownBlock = some k → vb = some k ∨ w.heap.size ≤ k) := ⟨hfin,hR,hO,hB,hKp,hNV⟩
     clear hM hR hO hI hB hKp hNV hfin hform2
     go_wp2
     go_ret2
     have ef := FI.out.1.trans EF.out
     have e1:out = word :: (run (inc K (m:Int)) (es.map toSd)).1 := congrArg Prod.fst ef
     have e2:K' = (run (inc K (m:Int)) (es.map toSd)).2.1 := congrArg (fun z => z.2.1) ef
     have e3:es'.map toSd = (run (inc K (m:Int)) (es.map toSd)).2.2 := congrArg (fun z => z.2.2) ef
     subst e1 e2
     exact ⟨_,_,es',rfl,FI.out.2.1,e3,FI.out.2.2.1,FI.out.2.2.2.1,FI.out.2.2.2.2.1,FI.out.2.2.2.2.2⟩
    | true =>
     rw [if_pos rfl] at hfin
     obtain ⟨l2,el2⟩:∃ l,l = es'.length := ⟨_,rfl⟩
     obtain ⟨lo,elo⟩:∃ l,l = out.length := ⟨_,rfl⟩
     obtain ⟨wo,ewo⟩:∃ wo,wo = wr := ⟨_,rfl⟩
     subst ewo
     rw [← el2] at hlc2 hform2 hL
     rw [← elo] at hL
     have EL2:Hid (es'.length = l2 ∧ out.length = lo) := ⟨el2.symm,elo.symm⟩
     have FM2:Hid (0 < l2 → ∃ g,q2 = some ⟨g,0,none⟩ ∧ base ≤ g ∧ g < wo.heap.size ∧ ∀ j u,(flatE es')[j]? = some u → wo.cell? ⟨g,j,none⟩ = some u) := hform2
     have ST:Hid (RC wo base F P me K' es' (.slice q2 l2 cap2) ∧ wo.ownsRow w.heap.size 3 1 (.slice qo lo co) lo (out.map (Value.int .i64)) ∧ CInv me K' (es'.map toSd) ∧ Below base w wo ∧ Kp w wo P vb ∧ (out ++ (run K' (es'.map toSd)).1,(run K' (es'.map toSd)).2) = fin) := ⟨by rw [el2]; exact hR,by rw [elo]; exact hO,hI,hB,hKp,hfin⟩
     have NV:Hid (∀ k,(Value.slice q2 l2 cap2).ownBlock = some k → vb = some k ∨ w.heap.size ≤ k) := by rw [el2]; exact hNV
     have CM2:Hid (cap2 ≤ maxLen) := hcm2
     rw [← elo]
     have c6 := ST.out.1.wait.1
     have hPo := World.rowIs.lt ST.out.1.row
     clear hM hR hO hI hB hKp hNV hfin hform2 el2 elo hcm2
     go_wp2
     go_loopw [9,10,11] (fun vo va x wi => ∃ i:Nat,x = .int .i64 (i:Int) ∧ ((va = .bool false ∧ vo = .slice qo lo co ∧ i ≤ l2 ∧ Hid (Below wo.heap.size wo wi ∧ ∀ j,j < i → rdy K' (sd (es'.map toSd) j) = false)) ∨ (va = .bool true ∧ i ≤ l2 ∧ Hid (MidC w base F P me vb fin wi vo true) ∧ lenOf vo = lo + 1))) (fun _ va x _ => if yes va = 1 then 0 else l2 + 1 - (intOf x).toNat)
     case atStart => exact ⟨0,rfl,.inl ⟨rfl,rfl,by omega,Below.refl _ _,fun j hj => absurd hj (by omega)⟩⟩
     case round =>
      obtain ⟨i,rfl,hcase⟩ := hrel
      rcases hcase with ⟨rfl,rfl,hi,hsc⟩ | ⟨rfl,hi,hM,hlo⟩
      ·have c6w:wr.cell? ⟨P,6,none⟩ = some (.slice q2 l2 cap2) := (hsc.out.1.cell (p := ⟨P,6,none⟩) hPo).trans c6
       by_cases hlt:i < l2
       ·obtain ⟨g,rfl,hbg,hgw,hcs⟩ := FM2.out (by omega)
        have hil':i < es'.length := by rw [EL2.out.1]; exact hlt
        obtain ⟨x0,x1,x2⟩ := c3_of hcs hil'
        have x0 := (hsc.out.1.cell (p := ⟨g,i * 3,none⟩) hgw).trans x0
        have x1 := (hsc.out.1.cell (p := ⟨g,i * 3 + 1,none⟩) hgw).trans x1
        have x2 := (hsc.out.1.cell (p := ⟨g,i * 3 + 2,none⟩) hgw).trans x2
        have hold := ST.out.1.old (eg es' i) (by rw [eg_get hil']; exact List.getElem_mem _)
        have es1 := sd_eg hil'
        obtain ⟨ee,hE⟩:∃ ee,eg es' i = ee := ⟨_,rfl⟩
        rw [hE] at x0 x1 x2 hold es1
        obtain ⟨e1,e2,e3,e4,e5⟩ := ee
        have ES:Hid (sd (es'.map toSd) i = (e1,e2,e5) ∧ Old wo F e3 e5 ∧ eg es' i = (e1,e2,e3,e4,e5) ∧ i < es'.length) := ⟨es1,hold,hE,hil'⟩
        have GC:Hid (base ≤ g ∧ g < wo.heap.size ∧ ∀ j u,(flatE es')[j]? = some u → wo.cell? ⟨g,j,none⟩ = some u) := ⟨hbg,hgw,hcs⟩
        simp only at x0 x1 x2
        have hi0:(0:Int) ≤ (i:Int) := by omega
        have hil:(i:Int) < (l2:Int) := by omega
        have hbo:Hid (base ≤ wo.heap.size) := Nat.le_trans ST.out.1.low (Nat.le_of_lt hPo)
        clear hcs hbg hgw hold es1 hE hil'
        go_wp2_with fail
        refine (ready_any P K' e1 e2 e3 e4 e5 wr (Nat.lt_of_lt_of_le hPo hsc.out.1.size) (ST.out.1.later hsc.out.1).k5 ST.out.2.2.1.num ((ES.out.2.1.vw ST.out.1.flt).later hsc.out.1)).mono ?_
        rintro e w5 ⟨rfl,hb⟩
        have B5:Hid (Below wo.heap.size wo w5) := hsc.out.1.trans (hb.mono hsc.out.1.size)
        clear hb
        cases hrd:rdy K' (e1,e2,e5) with
        | false =>
         have KN:Hid (rdy K' (sd (es'.map toSd) i) = false) := by show _ = _; rw [ES.out.1]; exact hrd
         clear hrd
         go_wp2
         go_roundw
         case rel =>
          refine ⟨i + 1,by go_num,.inl ⟨rfl,rfl,by omega,B5.out,fun j hj => ?_⟩⟩
          rcases Nat.lt_or_ge j i with a | a
          ·exact hsc.out.2 j a
          ·rw [show j = i by omega]; exact KN.out
         case measure => simp [intOf,yes]; omega
        | true =>
         have FX:Hid (rdy K' (sd (es'.map toSd) i) = true ∧ (es'.map toSd).findIdx? (rdy K') = some i ∧ SdOk (e1,e2,e5)) := by
          have hr:rdy K' (sd (es'.map toSd) i) = true := by rw [ES.out.1]; exact hrd
          have hil2:i < (es'.map toSd).length := by rw [List.length_map]; exact ES.out.2.2.2
          have ok := ST.out.2.2.1.ok (sd (es'.map toSd) i) (by rw [show sd (es'.map toSd) i = (es'.map toSd)[i] by simp only [sd,List.getD,List.getElem?_eq_getElem hil2,Option.getD_some]]; exact List.getElem_mem _)
          rw [ES.out.1] at ok
          exact ⟨hr,idx_some hil2 hr hsc.out.2,ok⟩
         have hwho:0 ≤ e1 ∧ e1 ≤ 4 := FX.out.2.2.who
         obtain ⟨mm,rfl⟩:∃ mm:Nat,e1 = (mm:Int) := ⟨e1.toNat,by omega⟩
         have hmm:mm < 5 := by omega
         have hmm0:(0:Int) ≤ (mm:Int) := by omega
         have hmm5:(mm:Int) < 5 := by omega
         have R5 := ST.out.1.later B5.out
         have hyk := ST.out.2.2.1.num mm hmm
         obtain ⟨yk,eyk⟩:∃ yk,yk = K'.getD mm 0 := ⟨_,rfl⟩
         rw [← eyk] at hyk
         have EYK:Hid (yk = K'.getD mm 0 ∧ RC w5 base F P me K' es' (.slice (some ⟨g,0,none⟩) l2 cap2)) := ⟨eyk,R5⟩
         have c5w := R5.wait.1
         obtain ⟨x0',x1',-⟩ := c3_of GC.out.2.2 ES.out.2.2.2
         rw [ES.out.2.2.1] at x0' x1'
         simp only at x0' x1'
         have x0' := (B5.out.cell (p := ⟨g,i * 3,none⟩) GC.out.2.1).trans x0'
         have x1' := (B5.out.cell (p := ⟨g,i * 3 + 1,none⟩) GC.out.2.1).trans x1'
         have OO:Hid (w5.ownsRow w.heap.size 3 1 (.slice qo lo co) lo (out.map (Value.int .i64))) := own_later0 ST.out.2.1 B5.out
         have AP:Hid ((Value.slice qo lo co).ownBlock ≠ some P ∧ (Value.slice qo lo co).ownBlock ≠ some g ∧ P ≠ g) := ⟨R5.apart OO.out (by decide),own_two (by decide) OO.out R5.own rfl,fun e => R5.apart R5.own (by decide) (by rw [e]; rfl)⟩
         have SZ:Hid (w.heap.size ≤ w5.heap.size ∧ P < w5.heap.size ∧ g < w5.heap.size ∧ base ≤ w5.heap.size) := ⟨Nat.le_trans ST.out.2.2.2.1.size B5.out.size,World.rowIs.lt R5.row,Nat.lt_of_lt_of_le GC.out.2.1 B5.out.size,Nat.le_trans hbo.out B5.out.size⟩
         clear R5 eyk hwho hrd x0 x1 x2 c6w
         go_wp2_with (at_builtin; refine wpList_append_own _ rfl _ _ 30 rfl w.heap.size 3 ii (.int .i64 0) 1 8 Tryz.underlying30 HJ.out.1 HJ.out.2.1 HJ.out.2.2.1 HJ.out.2.2.2 rfl (by decide) (.slice qo lo co) lo (out.map (Value.int .i64)) rfl (by exact own_later0 OO.out ((Below.refl w5.heap.size w5).alloc (Nat.le_refl _) _)) ⟨w5.heap.size,0,none⟩ 1 1 [.int .i64 e2] rfl rfl (by exact new_int w5 _ rfl e2 3) (int_one _) (by unfold maxLen; omega) (by omega) (by have := SZ.out.1; simp; omega) ?_; intro v1 w6 hown hgrow _; obtain ⟨q1,k1,rfl⟩ := own_form hown; have HO1:Hid (w6.ownsRow w.heap.size 3 1 (.slice q1 (lo + 1) k1) (lo + 1) (out.map (Value.int .i64) ++ [.int .i64 e2])) := hown; have HG1:Hid _ := hgrow; clear hown hgrow)
         have KP1:Hid (w5.heap.size ≤ w6.heap.size ∧ ∀ b,b < w5.heap.size → some b ≠ (Value.slice qo lo co).ownBlock → w6.heap[b]? = w5.heap[b]?) := by
          refine ⟨by have := HG1.out.size; simp at this; omega,fun b hb hne => ?_⟩
          exact (HG1.out.block b (by simp; omega) hne).trans (((Below.refl w5.heap.size w5).alloc (Nat.le_refl _) _).block b hb)
         have hp6 := KP1.out.2 P SZ.out.2.1 (fun e => AP.out.1 e.symm)
         have hg6 := KP1.out.2 g SZ.out.2.2.1 (fun e => AP.out.2.1 e.symm)
         have B6:Hid (Below base w5 w6) := ((Below.refl base w5).alloc SZ.out.2.2.2 _).grown HG1.out (by have := SZ.out.2.2.2; simp; omega) (fun k hk => Nat.le_trans GW.out.2.2.1 (own_lt OO.out k hk).1)
         have R6:Hid (RC w6 base F P me K' es' (.slice (some ⟨g,0,none⟩) l2 cap2)) := EYK.out.2.of_blocks KP1.out.1 (fun b hb => KP1.out.2 b (EYK.out.2.flt b hb) (fun e => by have := (own_lt OO.out b e.symm).1; have := FL.out b hb; omega)) hp6 (fun k hk => by have e:g = k := (by simpa [Value.ownBlock] using hk); subst e; exact hg6)
         obtain ⟨dk,fk⟩ := R6.out.num hmm
         rw [← EYK.out.1] at dk
         have d6 := R6.out.wait.1
         have dx:w6.cell? ⟨g,i * 3,none⟩ = some (.int .i64 (mm:Int)) := (World.cell?_of_block (a := ⟨g,i * 3,none⟩) hg6).trans x0'
         clear x0' x1' c5w hp6 hg6
         go_region
         obtain ⟨W2,eW2⟩:∃ W,W = (w6.setCell ⟨P,1 + mm,none⟩ (.int .i64 (yk + 1))).drew := ⟨_,rfl⟩
         rw [← eW2]
         have RS2:Hid (RC W2 base F P me (inc K' (mm:Int)) es' (.slice (some ⟨g,0,none⟩) l2 cap2)) := by
          have r := R6.out.setK hmm (yk + 1)
          have ei:inc K' (mm:Int) = K'.set mm (yk + 1) := by rw [inc,Int.toNat_natCast,EYK.out.1]
          rw [ei,eW2]
          exact r.later (below_drews (Below.refl _ _) 1)
         have BW2:Hid (Below base w W2) := by
          rw [eW2]
          exact (((ST.out.2.2.2.1.trans (B5.out.mono hbo.out)).trans B6.out).setCell (p := ⟨P,1 + mm,none⟩) R6.out.low _).drew
         have KW2:Hid (Kp w W2 P vb ∧ w5.heap.size ≤ W2.heap.size) := by
          have k1:Kp w5 w6 P (Value.slice qo lo co).ownBlock := ⟨KP1.out.1,fun b hb _ hne => KP1.out.2 b hb hne⟩
          have k2 := (ST.out.2.2.2.2.1.trans (Kp.below B5.out none) (by simp)).trans k1 (fun k hk => .inl (own_lt OO.out k hk).1)
          rw [eW2]
          exact ⟨k2.trans (r' := none) (Kp.setCell w6 P (1 + mm) _ none) (by simp),by have := KP1.out.1; simp [World.setCell]; omega⟩
         have OO2:Hid (W2.ownsRow w.heap.size 3 1 (.slice q1 (lo + 1) k1) (lo + 1) (out.map (Value.int .i64) ++ [.int .i64 e2])) := by
          rw [eW2]
          exact own_block HO1.out (fun k hk => Deep.blk_setCell_other _ _ _ _ (fun e => R6.out.apart HO1.out (by decide) (by rw [hk]; exact congrArg some e)))
         obtain ⟨c6,z6⟩ := RS2.out.wait
         have G2:Hid (∀ j u,(flatE es')[j]? = some u → W2.cell? ⟨g,j,none⟩ = some u) := by
          obtain ⟨_,_,e,_,_,hf⟩ := RS2.out.form
          cases e
          obtain ⟨_,e2,_,_,hc⟩ := hf (by have := EL2.out.1; omega)
          cases e2
          exact hc
         have PG:Hid (P < W2.heap.size ∧ g < W2.heap.size) := ⟨Nat.lt_of_lt_of_le SZ.out.2.1 KW2.out.2,Nat.lt_of_lt_of_le SZ.out.2.2.1 KW2.out.2⟩
         have hic:(i:Int) ≤ (cap2:Int) := by omega
         have hic':(i:Int) + 1 ≤ (l2:Int) := by omega
         have hic2:(i:Int) + 1 ≤ (cap2:Int) := by omega
         have BS:Hid (base ≤ W2.heap.size ∧ w.heap.size ≤ W2.heap.size) := ⟨Nat.le_trans GW.out.2.2.1 KW2.out.1.1,KW2.out.1.1⟩
         clear eW2 dk fk d6 dx HO1 HG1 KP1 R6
         have ERS:Hid ((es'.take i ++ es'.drop (i + 1)).map toSd = (es'.map toSd).eraseIdx i ∧ CInv me (inc K' (mm:Int)) ((es'.map toSd).eraseIdx i)) := by
          refine ⟨by rw [List.eraseIdx_eq_take_drop_succ,List.map_append,List.map_take,List.map_drop],?_⟩
          have := ST.out.2.2.1.hear (i := i) (by rw [List.length_map]; exact ES.out.2.2.2) FX.out.1
          rw [ES.out.1] at this
          exact this
         by_cases hcp:cap2 = i + 1
         ·subst hcp
          go_wp2_with (first | (at_builtin; refine wpList_append_own _ rfl _ _ 132 rfl W2.heap.size 51 ie (.agg #[.int .i64 0,.int .i64 0,.slice none 0 0]) 3 40 Tryz.underlying132 HI.out.1 HI.out.2.1 HI.out.2.2.1 HI.out.2.2.2 rfl (by decide) (.slice none 0 0) 0 [] rfl (World.ownsRow_nil _ _ _ _) ⟨g,0,none⟩ i (i + 1) (flatE (es'.take i)) rfl (by rw [flatE_len,List.length_take]; have := EL2.out.1; omega) (fun j u hu => by rw [Addr.add_lit,Nat.zero_add]; rw [flatE_take] at hu; exact G2.out j u ((List.getElem?_take_of_lt (by have := (List.getElem?_eq_some_iff.1 hu).1; rw [List.length_take] at this; omega)).symm.trans hu)) (flatE_one _) (by unfold maxLen; omega) (by omega) (Nat.le_refl _) ?_; intro v3 w3 hown hgrow _; rw [Nat.zero_add,List.nil_append] at hown; obtain ⟨q4,k4,rfl⟩ := own_form hown; have HO3:Hid (w3.ownsRow W2.heap.size 51 3 (.slice q4 i k4) i (flatE (es'.take i))) := hown; have HG3:Hid (W2.grownBy w3 none) := hgrow; have d6:w3.cell? ⟨P,6,none⟩ = some (.slice (some ⟨g,0,none⟩) l2 (i + 1)) := ((HG3.out.cell_far ⟨P,6,none⟩ PG.out.1 (by simp)).trans c6); have e6:w3.frozen? ⟨P,6,none⟩ = false := ((HG3.out.frozen_far ⟨P,6,none⟩ PG.out.1 (by simp)).trans z6); clear hown hgrow) | (at_builtin; refine wpList_append_own _ rfl _ _ 132 rfl W2.heap.size 51 ie (.agg #[.int .i64 0,.int .i64 0,.slice none 0 0]) 3 40 Tryz.underlying132 HI.out.1 HI.out.2.1 HI.out.2.2.1 HI.out.2.2.2 rfl (by decide) (.slice q4 i k4) i (flatE (es'.take i)) rfl HO3.out ⟨g,0,none⟩ 0 0 [] rfl rfl (fun j u hu => by simp at hu) (fun u hu => absurd hu List.not_mem_nil) (by unfold maxLen; omega) (by omega) HG3.out.size ?_; intro v5 w4 hown hgrow _; rw [Nat.add_zero,List.append_nil] at hown; obtain ⟨q6,k6,rfl⟩ := own_form hown; have HO5:Hid (w4.ownsRow W2.heap.size 51 3 (.slice q6 i k6) i (flatE (es'.take i))) := hown; have HG5:Hid (w3.grownBy w4 (Value.slice q4 i k4).ownBlock) := hgrow; have NP:Hid (some P ≠ (Value.slice q4 i k4).ownBlock) := (fun e => by have := (own_lt HO3.out P e.symm).1; have := PG.out.1; omega); have d7:w4.cell? ⟨P,6,none⟩ = some (.slice (some ⟨g,0,none⟩) l2 (i + 1)) := ((HG5.out.cell_far ⟨P,6,none⟩ (Nat.lt_of_lt_of_le PG.out.1 HG3.out.size) NP.out).trans d6); have e7:w4.frozen? ⟨P,6,none⟩ = false := ((HG5.out.frozen_far ⟨P,6,none⟩ (Nat.lt_of_lt_of_le PG.out.1 HG3.out.size) NP.out).trans e6); clear hown hgrow))
          have MN:Hid (MidC w base F P me vb fin (w4.setCell ⟨P,6,none⟩ (.slice q6 i k6)) (.slice q1 (lo + 1) k1) true) := by
           have rP:w4.rowIs P 134 7 (rcv me (inc K' (mm:Int)) (.slice (some ⟨g,0,none⟩) l2 (i + 1))) := row_grown (row_grown RS2.out.row HG3.out (by simp)) HG5.out NP.out
           have bb:Below base W2 w4 := ((Below.refl base W2).grown HG3.out BS.out.1 (by simp)).grown HG5.out (Nat.le_trans BS.out.1 HG3.out.size) (fun k hk => Nat.le_trans BS.out.1 (own_lt HO3.out k hk).1)
           have o5:w4.ownsRow base 51 3 (.slice q6 i k6) (es'.take i ++ es'.drop (i + 1)).length (flatE (es'.take i ++ es'.drop (i + 1))) := by
            rw [List.drop_eq_nil_of_le (by rw [EL2.out.1]; omega),List.append_nil,List.length_take,EL2.out.1,show min i l2 = i by omega]
            exact own_mono HO5.out BS.out.1
           have kf:Keep F W2 w4 := fun b hb => (HG5.out.block b (Nat.lt_of_lt_of_le (RS2.out.flt b hb) HG3.out.size) (fun e => by have := (own_lt HO3.out b e.symm).1; have := RS2.out.flt b hb; omega)).trans (HG3.out.block b (RS2.out.flt b hb) (by simp))
           have hold:∀ e ∈ es'.take i ++ es'.drop (i + 1),Old w4 F e.2.2.1 e.2.2.2.2 := by
            intro e he
            rcases List.mem_append.1 he with a | a
            ·exact (RS2.out.old e (List.mem_of_mem_take a)).later kf
            ·exact (RS2.out.old e (List.mem_of_mem_drop a)).later kf
           have hrs := RC.setV rP o5 hold RS2.out.five RS2.out.low RS2.out.sepP (fun k hk q => by have := (own_lt HO5.out k hk).1; have := RS2.out.flt k q; omega) (fun b hb => Nat.lt_of_lt_of_le (RS2.out.flt b hb) (Nat.le_trans HG3.out.size HG5.out.size))
           have oo:(w4.setCell ⟨P,6,none⟩ (.slice q6 i k6)).ownsRow w.heap.size 3 1 (.slice q1 (lo + 1) k1) (lo + 1) (out.map (Value.int .i64) ++ [.int .i64 e2]) := by
            refine own_block OO2.out fun k hk => ?_
            have hk2 := (own_lt OO2.out k hk).2
            rw [Deep.blk_setCell_other _ _ _ _ (fun e => RS2.out.apart OO2.out (by decide) (by rw [hk]; exact congrArg some e))]
            rw [HG5.out.block k (Nat.lt_of_lt_of_le hk2 HG3.out.size) (fun e => by have := (own_lt HO3.out k e.symm).1; omega)]
            exact HG3.out.block k hk2 (by simp)
           have hfin := ST.out.2.2.2.2.2
           rw [run_go FX.out.2.1,ES.out.1] at hfin
           refine ⟨inc K' (mm:Int),es'.take i ++ es'.drop (i + 1),out ++ [e2],_,hrs,?_,by rw [ERS.out.1]; exact ERS.out.2,?_,?_,?_,fun k hk => .inr (Nat.le_trans BS.out.2 (own_lt HO5.out k hk).1),?_⟩
           ·rw [List.length_append,List.map_append,EL2.out.2]
            exact oo
           ·rw [List.length_append,List.length_take,List.length_drop,List.length_append,EL2.out.1,EL2.out.2]
            simp
            omega
           ·exact (BW2.out.trans bb).setCell (p := ⟨P,6,none⟩) RS2.out.low _
           ·exact ((KW2.out.1.trans (Kp.grown HG3.out P) (by simp)).trans (Kp.grown HG5.out P) (fun k hk => .inl (Nat.le_trans BS.out.2 (own_lt HO3.out k hk).1))).trans (r' := none) (Kp.setCell w4 P 6 _ none) (by simp)
           ·rw [if_pos rfl,List.append_assoc,ERS.out.1]
            exact hfin
          go_wp2
          go_roundw
          case rel => exact ⟨i + 1,by go_num,.inr ⟨rfl,by omega,MN.out,rfl⟩⟩
          case measure => simp [intOf,yes]; omega
         ·have hcp':(i:Int) + 1 < (cap2:Int) := by omega
          go_wp2_with (first | (at_builtin; refine wpList_append_own _ rfl _ _ 132 rfl W2.heap.size 51 ie (.agg #[.int .i64 0,.int .i64 0,.slice none 0 0]) 3 40 Tryz.underlying132 HI.out.1 HI.out.2.1 HI.out.2.2.1 HI.out.2.2.2 rfl (by decide) (.slice none 0 0) 0 [] rfl (World.ownsRow_nil _ _ _ _) ⟨g,0,none⟩ i cap2 (flatE (es'.take i)) rfl (by rw [flatE_len,List.length_take]; have := EL2.out.1; omega) (fun j u hu => by rw [Addr.add_lit,Nat.zero_add]; rw [flatE_take] at hu; exact G2.out j u ((List.getElem?_take_of_lt (by have := (List.getElem?_eq_some_iff.1 hu).1; rw [List.length_take] at this; omega)).symm.trans hu)) (flatE_one _) (by unfold maxLen; omega) (by omega) (Nat.le_refl _) ?_; intro v3 w3 hown hgrow _; rw [Nat.zero_add,List.nil_append] at hown; obtain ⟨q4,k4,rfl⟩ := own_form hown; have HO3:Hid (w3.ownsRow W2.heap.size 51 3 (.slice q4 i k4) i (flatE (es'.take i))) := hown; have HG3:Hid (W2.grownBy w3 none) := hgrow; have d6:w3.cell? ⟨P,6,none⟩ = some (.slice (some ⟨g,0,none⟩) l2 cap2) := ((HG3.out.cell_far ⟨P,6,none⟩ PG.out.1 (by simp)).trans c6); have e6:w3.frozen? ⟨P,6,none⟩ = false := ((HG3.out.frozen_far ⟨P,6,none⟩ PG.out.1 (by simp)).trans z6); clear hown hgrow) | (at_builtin; refine wpList_append_own _ rfl _ _ 132 rfl W2.heap.size 51 ie (.agg #[.int .i64 0,.int .i64 0,.slice none 0 0]) 3 40 Tryz.underlying132 HI.out.1 HI.out.2.1 HI.out.2.2.1 HI.out.2.2.2 rfl (by decide) (.slice q4 i k4) i (flatE (es'.take i)) rfl HO3.out ⟨g,(i + 1) * 3,none⟩ (l2 - (i + 1)) (cap2 - (i + 1)) (flatE (es'.drop (i + 1))) rfl (by rw [flatE_len,List.length_drop,EL2.out.1]) (fun j u hu => by rw [flatE_drop,List.getElem?_drop] at hu; rw [Addr.add_lit]; exact (HG3.out.cell_far ⟨g,(i + 1) * 3 + j,none⟩ PG.out.2 (by simp)).trans (G2.out _ u hu)) (flatE_one _) (by unfold maxLen; omega) (by omega) HG3.out.size ?_; intro v5 w4 hown hgrow _; obtain ⟨q6,k6,rfl⟩ := own_form hown; have HO5:Hid (w4.ownsRow W2.heap.size 51 3 (.slice q6 (i + (l2 - (i + 1))) k6) (i + (l2 - (i + 1))) (flatE (es'.take i) ++ flatE (es'.drop (i + 1)))) := hown; have HG5:Hid (w3.grownBy w4 (Value.slice q4 i k4).ownBlock) := hgrow; have NP:Hid (some P ≠ (Value.slice q4 i k4).ownBlock) := (fun e => by have := (own_lt HO3.out P e.symm).1; have := PG.out.1; omega); have d7:w4.cell? ⟨P,6,none⟩ = some (.slice (some ⟨g,0,none⟩) l2 cap2) := ((HG5.out.cell_far ⟨P,6,none⟩ (Nat.lt_of_lt_of_le PG.out.1 HG3.out.size) NP.out).trans d6); have e7:w4.frozen? ⟨P,6,none⟩ = false := ((HG5.out.frozen_far ⟨P,6,none⟩ (Nat.lt_of_lt_of_le PG.out.1 HG3.out.size) NP.out).trans e6); clear hown hgrow))
          have MN:Hid (MidC w base F P me vb fin (w4.setCell ⟨P,6,none⟩ (.slice q6 (i + (l2 - (i + 1))) k6)) (.slice q1 (lo + 1) k1) true) := by
           have rP:w4.rowIs P 134 7 (rcv me (inc K' (mm:Int)) (.slice (some ⟨g,0,none⟩) l2 cap2)) := row_grown (row_grown RS2.out.row HG3.out (by simp)) HG5.out NP.out
           have bb:Below base W2 w4 := ((Below.refl base W2).grown HG3.out BS.out.1 (by simp)).grown HG5.out (Nat.le_trans BS.out.1 HG3.out.size) (fun k hk => Nat.le_trans BS.out.1 (own_lt HO3.out k hk).1)
           have o5:w4.ownsRow base 51 3 (.slice q6 (i + (l2 - (i + 1))) k6) (es'.take i ++ es'.drop (i + 1)).length (flatE (es'.take i ++ es'.drop (i + 1))) := by
            rw [flatE_append,List.length_append,List.length_take,List.length_drop,EL2.out.1,show min i l2 = i by omega]
            exact own_mono HO5.out BS.out.1
           have kf:Keep F W2 w4 := fun b hb => (HG5.out.block b (Nat.lt_of_lt_of_le (RS2.out.flt b hb) HG3.out.size) (fun e => by have := (own_lt HO3.out b e.symm).1; have := RS2.out.flt b hb; omega)).trans (HG3.out.block b (RS2.out.flt b hb) (by simp))
           have hold:∀ e ∈ es'.take i ++ es'.drop (i + 1),Old w4 F e.2.2.1 e.2.2.2.2 := by
            intro e he
            rcases List.mem_append.1 he with a | a
            ·exact (RS2.out.old e (List.mem_of_mem_take a)).later kf
            ·exact (RS2.out.old e (List.mem_of_mem_drop a)).later kf
           have hrs := RC.setV rP o5 hold RS2.out.five RS2.out.low RS2.out.sepP (fun k hk q => by have := (own_lt HO5.out k hk).1; have := RS2.out.flt k q; omega) (fun b hb => Nat.lt_of_lt_of_le (RS2.out.flt b hb) (Nat.le_trans HG3.out.size HG5.out.size))
           have oo:(w4.setCell ⟨P,6,none⟩ (.slice q6 (i + (l2 - (i + 1))) k6)).ownsRow w.heap.size 3 1 (.slice q1 (lo + 1) k1) (lo + 1) (out.map (Value.int .i64) ++ [.int .i64 e2]) := by
            refine own_block OO2.out fun k hk => ?_
            have hk2 := (own_lt OO2.out k hk).2
            rw [Deep.blk_setCell_other _ _ _ _ (fun e => RS2.out.apart OO2.out (by decide) (by rw [hk]; exact congrArg some e))]
            rw [HG5.out.block k (Nat.lt_of_lt_of_le hk2 HG3.out.size) (fun e => by have := (own_lt HO3.out k e.symm).1; omega)]
            exact HG3.out.block k hk2 (by simp)
           have hfin := ST.out.2.2.2.2.2
           rw [run_go FX.out.2.1,ES.out.1] at hfin
           refine ⟨inc K' (mm:Int),es'.take i ++ es'.drop (i + 1),out ++ [e2],_,hrs,?_,by rw [ERS.out.1]; exact ERS.out.2,?_,?_,?_,fun k hk => .inr (Nat.le_trans BS.out.2 (own_lt HO5.out k hk).1),?_⟩
           ·rw [List.length_append,List.map_append,EL2.out.2]
            exact oo
           ·rw [List.length_append,List.length_take,List.length_drop,List.length_append,EL2.out.1,EL2.out.2]
            simp
            omega
           ·exact (BW2.out.trans bb).setCell (p := ⟨P,6,none⟩) RS2.out.low _
           ·exact ((KW2.out.1.trans (Kp.grown HG3.out P) (by simp)).trans (Kp.grown HG5.out P) (fun k hk => .inl (Nat.le_trans BS.out.2 (own_lt HO3.out k hk).1))).trans (r' := none) (Kp.setCell w4 P 6 _ none) (by simp)
           ·rw [if_pos rfl,List.append_assoc,ERS.out.1]
            exact hfin
          go_wp2
          go_roundw
          case rel => exact ⟨i + 1,by go_num,.inr ⟨rfl,by omega,MN.out,rfl⟩⟩
          case measure => simp [intOf,yes]; omega
       ·have hil:l2 = i := by omega
        have MF:Hid (MidC w base F P me vb fin wr (.slice qo lo co) false) := by
         obtain ⟨hR,hO,hI,hB,hKp,hfin⟩ := ST.out
         have hn:(es'.map toSd).findIdx? (rdy K') = none := idx_none (by rw [List.length_map,EL2.out.1,hil]; exact hsc.out.2)
         rw [run_stop hn,List.append_nil] at hfin
         refine ⟨K',es',out,_,hR.later hsc.out.1,by rw [EL2.out.2]; exact own_later0 hO hsc.out.1,hI,by rw [EL2.out.1,EL2.out.2]; exact hL,hB.trans (hsc.out.1.mono (Nat.le_trans hR.low (Nat.le_of_lt hPo))),hKp.trans (Kp.below hsc.out.1 none) (by simp),by exact NV.out,?_⟩
         rw [if_neg (by decide)]
         exact hfin
        have dl:decide ((i:Int) < (l2:Int)) = false := by simp; omega
        go_wp2
        go_roundw
        case rel => exact ⟨false,rfl,MF.out⟩
        case measure => simp [lenOf,yes]
      ·have c6w:wr.cell? ⟨P,6,none⟩ = wr.cell? ⟨P,6,none⟩ := rfl
       obtain ⟨K2,es2,out2,v2,hR,hO,hI,hL2,hB,hKp,-,hfin⟩ := hM.out
       obtain ⟨q3,cap3,rfl,-⟩ := hR.form
       have c6w := hR.wait.1
       obtain ⟨l3,el3⟩:∃ l,l = es2.length := ⟨_,rfl⟩
       rw [← el3] at c6w
       clear hR hO hI hL2 hB hKp hfin el3
       by_cases hlt3:(i:Int) < (l3:Int)
       ·go_wp2
        go_roundw
        case rel => exact ⟨true,rfl,hM.out⟩
        case measure => have e0:lenOf (Value.slice qo lo co) = lo := rfl; simp [yes]; omega
       ·have dl:decide ((i:Int) < (l3:Int)) = false := by simp; omega
        go_wp2
        go_roundw
        case rel => exact ⟨true,rfl,hM.out⟩
        case measure => have e0:lenOf (Value.slice qo lo co) = lo := rfl; simp [yes]; omega
end Go.Proofs.YtdmniblonikjlakGreatDoor.Cau
