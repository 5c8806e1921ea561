/-
  Texts put together: CagW.
-/
import Derived.Test.YtdmniblonikjlakGreatDoorPsC
import Derived.Deep.RegionLaw


namespace Go.Proofs.YtdmniblonikjlakGreatDoor.Cau
open Go.RowKit
open Vec (Vw code refVector)
open Fif (own_lt own_block own_form own_vw own_mono row_grown Kp info_int new_int int_one ret_bool lenOf)
set_option linter.unusedVariables false
set_option maxRecDepth 100000 in
set_option maxHeartbeats 4000000 in
theorem takeC_wait (base:Nat) (F:Nat → Prop) (P m:Nat) (me:Int) (K:List Int) (es:List Es) (v:Value) (word:Int) (q:Option Addr) (c:Nat) (clk:List Int) (w:World) (hm:m < 5) (g:RC w base F P me K es v) (hi:CInv me K (es.map toSd)) (hbw:base ≤ w.heap.size) (hv:Vw w q 5 clk) (h1:1 ≤ word) (h2:word ≤ 30) (hc:code clk = 0) (hw:¬ (m:Int) = me) (hz:¬ clk.getD m 0 = 0) (ho:¬ clk.getD m 0 ≤ K.getD m 0) (ha:(es.map toSd).any (same ((m:Int),word,clk)) = false) (hr:rdy K ((m:Int),word,clk) = false) (h40:es.length < 40) (hold:Old w F q clk) :
  Calls Tryz.prog 105 #[.pointer (some ⟨P,0,none⟩),.agg #[.int .i64 (m:Int),.int .i64 word,.slice q 5 c]] w fun x w' => ∃ v',x = .returned (.tuple #[.slice none 0 0,.int .i64 0]) ∧ RC w' base F P me K (es ++ [((m:Int),word,q,c,clk)]) v' ∧ Below base w w' ∧ Kp w w' P v.ownBlock ∧ ∀ k,v'.ownBlock = some k → v.ownBlock = some k ∨ w.heap.size ≤ k := by
 have hm0:(0:Int) ≤ (m:Int) := by omega
 have hm4:(m:Int) ≤ 4 := by omega
 have hm5:(m:Int) < 5 := by omega
 obtain ⟨b,off,rfl,hbl,hcs⟩ := hv.2 (by omega)
 obtain ⟨W,eW⟩:∃ W,W = w.alloc (.cells #[.int .i64 (m:Int),.int .i64 word,.slice (some ⟨b,off,none⟩) 5 c] 51) := ⟨_,rfl⟩
 have BW:Hid (Below w.heap.size w W ∧ W.heap.size = w.heap.size + 1) := ⟨by rw [eW]; exact (Below.refl _ _).alloc (Nat.le_refl _) _,by rw [eW]; simp⟩
 have a0:W.cell? ⟨w.heap.size,0,none⟩ = some (.int .i64 (m:Int)) := by rw [eW]; go_cell
 have a1:W.cell? ⟨w.heap.size,1,none⟩ = some (.int .i64 word) := by rw [eW]; go_cell
 have a2:W.cell? ⟨w.heap.size,2,none⟩ = some (.slice (some ⟨b,off,none⟩) 5 c) := by rw [eW]; go_cell
 have GW:Hid (RC W base F P me K es v ∧ CInv me K (es.map toSd) ∧ base ≤ w.heap.size ∧ Vw W (some ⟨b,off,none⟩) 5 clk ∧ code clk = 0 ∧ RC w base F P me K es v) := ⟨g.later BW.out.1,hi,hbw,hv.later BW.out.1,hc,g⟩
 have c0 := GW.out.1.me.1
 have k0 := (GW.out.1.num hm).1
 have t0:W.cell? ⟨b,off + m,none⟩ = some (.int .i64 (clk.getD m 0)) := (BW.out.1.cell (p := ⟨b,off + m,none⟩) hbl).trans (hcs m hm)
 have hy := hi.num m hm
 obtain ⟨x,ex⟩:∃ x,x = clk.getD m 0 := ⟨_,rfl⟩
 obtain ⟨y,ey⟩:∃ y,y = K.getD m 0 := ⟨_,rfl⟩
 rw [← ex] at t0
 rw [← ey] at k0 hy
 have EX:Hid (x = clk.getD m 0 ∧ y = K.getD m 0) := ⟨ex,ey⟩
 rw [← ex] at hz ho
 rw [← ey] at ho
 have hz':(x == 0) = false := by simp [hz]
 have ho':y < x := by omega
 clear hz ho
 obtain ⟨qw,cw,rfl,hlc,hcm,hform⟩ := GW.out.1.form
 have c6 := GW.out.1.wait.1
 have hln := hi.len
 obtain ⟨ln,eln⟩:∃ ln,ln = es.length := ⟨_,rfl⟩
 rw [← eln] at c6 hlc hform
 rw [List.length_map,← eln] at hln
 have LN:Hid (es.length = ln) := eln.symm
 have FM:Hid (0 < ln → ∃ g,qw = some ⟨g,0,none⟩ ∧ base ≤ g ∧ g < W.heap.size ∧ ∀ j u,(flatE es)[j]? = some u → W.cell? ⟨g,j,none⟩ = some u) := hform
 have CM:Hid (cw ≤ maxLen) := hcm
 clear hform eln hcm
 rw [LN.out] at h40
 rw [LN.out]
 have OLD:Hid (Old w F (some ⟨b,off,none⟩) clk) := hold
 clear hold
 obtain ⟨ie,hi',hz0,hz1,hz2⟩ := info_said
 have HI:Hid (Tryz.prog.info? 51 = some ie ∧ ie.zero = some (.agg #[.int .i64 0,.int .i64 0,.slice none 0 0]) ∧ ie.size = 3 ∧ ie.bytes = 40) := ⟨hi',hz0,hz1,hz2⟩
 clear hi' hz0 hz1 hz2
 have NA:Hid ((es.map toSd).any (same ((m:Int),word,clk)) = false) := ha
 have RD:Hid (rdy K ((m:Int),word,clk) = false) := hr
 clear ha hr
 have hw':((m:Int) == me) = false := by simp [hw]
 clear hw
 clear g hi hbw hv hcs hbl hc ex ey
 go_enter Tryz.func105,Tryz.ntmps105
 go_wp2_with fail
 rw [← eW]
 refine (refVector (some ⟨b,off,none⟩) 5 c clk W GW.out.2.2.2.1).mono ?_
 rintro e w1 ⟨rfl,e1⟩
 have e1 := e1.symm
 subst e1
 rw [GW.out.2.2.2.2.1]
 clear eW
 go_wp2_with fail
 go_quiet (fail)
 go_wp2_with fail
 go_quiet (fail)
 go_wp2
 go_loopw [7] (fun x wr => ∃ i:Nat,i ≤ ln ∧ x = .int .i64 (i:Int) ∧ (∃ n,wr = W.drewN n) ∧ Hid (∀ j,j < i → same ((m:Int),word,clk) (sd (es.map toSd) j) = false)) (fun x _ => ln - (intOf x).toNat)
 case atStart => exact ⟨0,by omega,rfl,⟨_,by first | rfl | exact World.drewN_drewN _ _ _⟩,fun j hj => absurd hj (by omega)⟩
 case round =>
  obtain ⟨i,hi,rfl,⟨n,rfl⟩,hsc⟩ := hrel
  by_cases hlt:i < ln
  ·obtain ⟨gb,rfl,hbg,hgw,hcs⟩ := FM.out (by omega)
   have hil':i < es.length := by rw [LN.out]; exact hlt
   obtain ⟨x0,x1,x2⟩ := c3_of hcs hil'
   obtain ⟨bi,oi,eqi,hbi,-,hci⟩ := GW.out.1.old (eg es i) (by rw [eg_get hil']; exact List.getElem_mem _)
   have u0 := hci m hm
   have es1 := sd_eg hil'
   obtain ⟨ee,hE⟩:∃ ee,eg es i = ee := ⟨_,rfl⟩
   rw [hE] at x0 x1 x2 u0 eqi es1
   obtain ⟨e1,e2,e3,e4,e5⟩ := ee
   simp only at x0 x1 x2 u0 eqi
   rw [eqi] at x2
   obtain ⟨z,ez⟩:∃ z,z = e5.getD m 0 := ⟨_,rfl⟩
   rw [← ez] at u0
   have ES:Hid (sd (es.map toSd) i = (e1,e2,e5) ∧ z = e5.getD m 0) := ⟨es1,ez⟩
   have hi0:(0:Int) ≤ (i:Int) := by omega
   have hil:(i:Int) < (ln:Int) := by omega
   clear hcs hbg hgw hci es1 ez hE eqi hbi hil'
   by_cases g1:e1 = (m:Int)
   ·have g1':(e1 == (m:Int)) = true := by simp [g1]
    by_cases g2:z = x
    ·have g2':(z == x) = true := by simp [g2]
     exfalso
     have hil2:i < (es.map toSd).length := by rw [List.length_map,LN.out]; exact hlt
     have hs:same ((m:Int),word,clk) (sd (es.map toSd) i) = true := by
      rw [ES.out.1]
      show (decide (e1 = (m:Int)) && decide (e5.getD ((m:Int)).toNat 0 = clk.getD ((m:Int)).toNat 0)) = true
      rw [Int.toNat_natCast,← ES.out.2,← EX.out.1]
      simp [g1,g2]
     have := NA.out
     rw [List.any_eq_false] at this
     exact this _ (by rw [show sd (es.map toSd) i = (es.map toSd)[i] by simp only [sd,List.getD,List.getElem?_eq_getElem hil2,Option.getD_some]] at hs ⊢; exact List.getElem_mem _) hs
    ·have g2':(z == x) = false := by simp [g2]
     have KN:Hid (same ((m:Int),word,clk) (sd (es.map toSd) i) = false) := by
      show _ = _
      rw [ES.out.1]
      show (decide (e1 = (m:Int)) && decide (e5.getD ((m:Int)).toNat 0 = clk.getD ((m:Int)).toNat 0)) = false
      rw [Int.toNat_natCast,← ES.out.2,← EX.out.1]
      simp [g2]
     go_wp2_with fail
     go_quiet (fail)
     go_wp2
     go_roundw
     case rel => exact ⟨i + 1,by omega,by go_num,⟨_,rfl⟩,any_step hsc.out KN.out⟩
     case measure => simp [intOf]; omega
   ·have g1':(e1 == (m:Int)) = false := by simp [g1]
    have KN:Hid (same ((m:Int),word,clk) (sd (es.map toSd) i) = false) := by
     show _ = _
     rw [ES.out.1]
     simp [same,g1]
    go_wp2_with fail
    go_quiet (fail)
    go_wp2
    go_roundw
    case rel => exact ⟨i + 1,by omega,by go_num,⟨_,rfl⟩,any_step hsc.out KN.out⟩
    case measure => simp [intOf]; omega
  ·have hil:i = ln := by omega
   subst hil
   go_wp2_with fail
   refine (ready_any P K (m:Int) word (some ⟨b,off,none⟩) c clk _ (by exact World.rowIs.lt GW.out.1.row) (by exact k5_heap GW.out.1.k5 rfl) GW.out.2.1.num (by exact vw_heap GW.out.2.2.2.1 rfl)).mono ?_
   rintro e w2 ⟨rfl,hb⟩
   rw [RD.out]
   have B2:Hid (Below W.heap.size W w2) := below_same hb rfl rfl rfl rfl
   clear hb
   have h40':(i:Int) < 40 := by omega
   have G2:RC w2 base F P me K es (.slice qw es.length cw) := GW.out.1.later B2.out
   have b0:w2.cell? ⟨w.heap.size,0,none⟩ = some (.int .i64 (m:Int)) := (B2.out.cell (p := ⟨w.heap.size,0,none⟩) (by have := BW.out.2; show w.heap.size < _; omega)).trans a0
   have b1:w2.cell? ⟨w.heap.size,1,none⟩ = some (.int .i64 word) := (B2.out.cell (p := ⟨w.heap.size,1,none⟩) (by have := BW.out.2; show w.heap.size < _; omega)).trans a1
   have b2:w2.cell? ⟨w.heap.size,2,none⟩ = some (.slice (some ⟨b,off,none⟩) 5 c) := (B2.out.cell (p := ⟨w.heap.size,2,none⟩) (by have := BW.out.2; show w.heap.size < _; omega)).trans a2
   rw [LN.out] at G2
   obtain ⟨d6,f6⟩ := G2.wait
   have GG:Hid (RC w2 base F P me K es (.slice qw i cw) ∧ P < w2.heap.size ∧ base ≤ w2.heap.size ∧ w.heap.size < w2.heap.size ∧ some P ≠ (Value.slice qw i cw).ownBlock) := by
    have hsz := B2.out.size
    have := BW.out.2
    have := GW.out.2.2.1
    exact ⟨G2,World.rowIs.lt G2.row,by omega,by omega,fun e => G2.apart G2.own (by decide) e.symm⟩
   have OG:Hid (w2.ownsRow base 51 3 (.slice qw i cw) i (flatE es)) := by have o := G2.own; rw [LN.out] at o; exact o
   have NB:Hid (some w.heap.size ≠ (Value.slice qw i cw).ownBlock) := fun e => by
    have o := GW.out.2.2.2.2.2.own
    rw [LN.out] at o
    have := (own_lt o _ e.symm).2
    omega
   have HNE:Hid (P ≠ w.heap.size) := by show P ≠ _; have := World.rowIs.lt GW.out.2.2.2.2.2.row; omega
   have hPw:P < w2.heap.size := GG.out.2.1
   have hBw:w.heap.size < w2.heap.size := GG.out.2.2.2.1
   clear G2 a0 a1 a2 c0 k0 t0 c6
   go_wp2_with fail
   go_region_law ((refine step_append_lies _ (by rfl) _ _ _ (by rfl) base 51 ie (.agg #[.int .i64 0,.int .i64 0,.slice none 0 0]) 3 40 Tryz.underlying132 HI.out.1 HI.out.2.1 HI.out.2.2.1 HI.out.2.2.2 rfl (by omega) (.slice qw i cw) i (flatE es) (by rfl) (by exact own_push OG.out rfl) ⟨w2.heap.size,0,none⟩ 1 1 (flatE [((m:Int),word,some ⟨b,off,none⟩,c,clk)]) (by rfl) (by rfl) (by exact news_push rfl) (flatE_one _) (by omega) (by unfold maxLen; omega) (by omega) (by have := GG.out.2.2.1; simp; omega) (w2.heap.size + 1) (by simp) ?_; intro gg gc w3 hown hgrow hat hlt3; have HO3:Hid (w3.ownsRow base 51 3 (.slice (some ⟨gg,0,none⟩) (i + 1) gc) (i + 1) (flatE es ++ flatE [((m:Int),word,some ⟨b,off,none⟩,c,clk)])) := hown; have HG3:Hid ((w2.alloc (.cells #[.int .i64 (m:Int),.int .i64 word,.slice (some ⟨b,off,none⟩) 5 c] 51)).grownBy w3 (Value.slice qw i cw).ownBlock) := grown_push hgrow rfl rfl rfl rfl; have l3:w3.cell? ⟨P,6,none⟩ = some (.slice qw i cw) := ((HG3.out.cell_far ⟨P,6,none⟩ (by have := GG.out.2.1; simp; omega) GG.out.2.2.2.2).trans ((cell_push (w := w2) rfl GG.out.2.1).trans d6)); have m3:w3.frozen? ⟨P,6,none⟩ = false := ((HG3.out.frozen_far ⟨P,6,none⟩ (by have := GG.out.2.1; simp; omega) GG.out.2.2.2.2).trans ((frozen_push (w := w2) rfl GG.out.2.1).trans f6)); have HAT:Hid ((Value.slice qw i cw).ownBlock = some gg ∨ gg = w2.heap.size + 1) := hat; clear hown hgrow hat hlt3))
   all_goals
    go_wp2
    go_ret2
    have g2 := GG.out.1
    have bA:Below base w w2 := (BW.out.1.mono GW.out.2.2.1).trans (B2.out.mono (by have := BW.out.2; have := GW.out.2.2.1; omega))
    have b3:Below base w w3 := (bA.alloc GG.out.2.2.1 _).grown HG3.out (by have := GG.out.2.2.1; simp; omega) (fun k hk => (own_lt OG.out k hk).1)
    have r3 := row_grown (World.rowIs.alloc g2.row (.cells #[.int .i64 (m:Int),.int .i64 word,.slice (some ⟨b,off,none⟩) 5 c] 51)) HG3.out GG.out.2.2.2.2
    have g0 := GW.out.2.2.2.2.2
    have k1:Kp w w2 P (Value.slice qw i cw).ownBlock := (Kp.below (P := P) BW.out.1 _).trans (Kp.below (P := P) B2.out none) (by simp)
    have k3 := (k1.trans (r' := none) (Kp.alloc w2 (.cells #[.int .i64 (m:Int),.int .i64 word,.slice (some ⟨b,off,none⟩) 5 c] 51) P none) (by simp)).trans (Kp.grown HG3.out P) (fun k hk => .inr (.inl hk))
    have kf:Keep F w w3 := fun d hd => k3.2 d (g0.flt d hd) (fun e => g0.sepP (by rw [← e]; exact hd)) (fun e => g0.sepV d ((ownB _ _ _ _ _).trans e.symm) hd)
    have sv:∀ k,(Value.slice (some (⟨gg,0,none⟩:Addr)) (i + 1) gc).ownBlock = some k → ¬ F k := by
     intro k hk hF
     have e:gg = k := by simpa [Value.ownBlock] using hk
     subst e
     rcases HAT.out with a | a
     ·exact g2.sepV gg ((ownB _ _ _ _ _).trans a) hF
     ·have := g2.flt gg hF
      omega
    refine ⟨_,rfl,RC.setV (es' := es ++ [((m:Int),word,some ⟨b,off,none⟩,c,clk)]) r3 ?_ ?_ g2.five g2.low g2.sepP sv (fun d hd => by have := g2.flt d hd; have q := HG3.out.size; simp at q; omega),b3.setCell (p := ⟨P,6,none⟩) g2.low _,?_,fun k hk => ?_⟩
    ·rw [flatE_append,List.length_append,LN.out]
     exact HO3.out
    ·intro e he
     rcases List.mem_append.1 he with a | a
     ·exact (GW.out.2.2.2.2.2.old e a).later kf
     ·rw [List.mem_singleton.1 a]
      exact OLD.out.later kf
    ·have k1:Kp w w2 P (Value.slice qw i cw).ownBlock := (Kp.below (P := P) BW.out.1 _).trans (Kp.below (P := P) B2.out none) (by simp)
     exact ((k1.trans (r' := none) (Kp.alloc w2 _ P none) (by simp)).trans (Kp.grown HG3.out P) (fun k hk => .inr (.inl hk))).trans (r' := none) (Kp.setCell w3 P 6 _ none) (by simp)
    ·have e:gg = k := by simpa [Value.ownBlock] using hk
     subst e
     rcases HAT.out with a | a
     ·exact .inl a
     ·exact .inr (by have := GG.out.2.2.2.1; omega)
end Go.Proofs.YtdmniblonikjlakGreatDoor.Cau
