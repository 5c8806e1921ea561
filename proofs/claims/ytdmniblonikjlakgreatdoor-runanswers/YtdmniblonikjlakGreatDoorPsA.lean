/-
  Texts put together: CagA, CagS.
-/
import Derived.Test.YtdmniblonikjlakGreatDoorPrB
import Derived.Test.YtdmniblonikjlakGreatDoorPrA
import Derived.Deep.QuietTactic
import Derived.BigQuiet
import Derived.Deep.RegionHeld3
import Derived.Handy
import Derived.Test.YtdmniblonikjlakGreatDoorPrC
import Derived.Laws.ResultCell
import Derived.Deep.RegionWith


namespace Go.Proofs.YtdmniblonikjlakGreatDoor.Cau
open Go.RowKit
open Vec (Vw code)
open Fif (own_lt own_block own_form own_vw own_mono row_grown Kp info_int new_int int_one ret_bool lenOf)
set_option linter.unusedVariables false
theorem below_drews {B:Nat} {a w:World} (h:Below B a w) (n:Nat):Below B a (w.drewN n) := ⟨h.os,h.tape,h.output,h.size,h.block⟩
theorem own_later0 {w w':World} {base:Nat} {t:TypeId} {s:Nat} {v:Value} {n:Nat} {xs:List Value} (o:w.ownsRow base t s v n xs) (hb:Below w.heap.size w w'):w'.ownsRow base t s v n xs := own_block o fun k hk => hb.block k (own_lt o k hk).2
abbrev Es := Int × Int × Option Addr × Nat × List Int
def toSd (e:Es):Sd := (e.1,e.2.1,e.2.2.2.2)
def cells3 (e:Es):List Value := [.int .i64 e.1,.int .i64 e.2.1,.slice e.2.2.1 5 e.2.2.2.1]
def flatE (es:List Es):List Value := es.flatMap cells3
theorem flatE_len (es:List Es):(flatE es).length = es.length * 3 := by
 induction es with
 | nil => rfl
 | cons e es ih =>
  have:flatE (e :: es) = cells3 e ++ flatE es := rfl
  rw [this,List.length_append,ih,List.length_cons]
  simp [cells3]
  omega
theorem flatE_append (a b:List Es):flatE (a ++ b) = flatE a ++ flatE b := by simp [flatE]
theorem flatE_one (es:List Es):∀ u ∈ flatE es,u.oneCell' = true := by
 intro u hu
 obtain ⟨e,_,he⟩ := List.mem_flatMap.1 hu
 simp [cells3] at he
 rcases he with rfl | rfl | rfl <;> rfl
def nilE:Es := (0,0,none,0,[])
def eg (es:List Es) (i:Nat):Es := es.getD i nilE
theorem eg_get {es:List Es} {i:Nat} (hi:i < es.length):eg es i = es[i] := by simp [eg,List.getD,hi]
theorem sd_eg {es:List Es} {i:Nat} (hi:i < es.length):sd (es.map toSd) i = toSd (eg es i) := by
 simp [sd,eg,List.getD,hi]
theorem flatE_get (es:List Es):∀ k,k < es.length → (flatE es)[k * 3]? = some (.int .i64 (eg es k).1) ∧ (flatE es)[k * 3 + 1]? = some (.int .i64 (eg es k).2.1) ∧ (flatE es)[k * 3 + 2]? = some (.slice (eg es k).2.2.1 5 (eg es k).2.2.2.1) := by
 induction es with
 | nil => intro k hk; simp at hk
 | cons e es ih =>
  intro k hk
  have e3:flatE (e :: es) = .int .i64 e.1 :: .int .i64 e.2.1 :: .slice e.2.2.1 5 e.2.2.2.1 :: flatE es := rfl
  rw [e3]
  cases k with
  | zero => exact ⟨rfl,rfl,rfl⟩
  | succ k =>
   have := ih k (by simpa using hk)
   have e0:eg (e :: es) (k + 1) = eg es k := rfl
   rw [e0,show (k + 1) * 3 = k * 3 + 3 by omega]
   exact this
theorem flatE_take (es:List Es) (i:Nat):flatE (es.take i) = (flatE es).take (i * 3) := by
 induction es generalizing i with
 | nil => simp [flatE]
 | cons e es ih =>
  cases i with
  | zero => simp [flatE]
  | succ i =>
   have e3:∀ l,flatE (e :: l) = .int .i64 e.1 :: .int .i64 e.2.1 :: .slice e.2.2.1 5 e.2.2.2.1 :: flatE l := fun _ => rfl
   rw [List.take_succ_cons,e3,e3,ih,show (i + 1) * 3 = i * 3 + 1 + 1 + 1 by omega]
   simp
theorem flatE_drop (es:List Es) (i:Nat):flatE (es.drop i) = (flatE es).drop (i * 3) := by
 induction es generalizing i with
 | nil => simp [flatE]
 | cons e es ih =>
  cases i with
  | zero => simp
  | succ i =>
   have e3:∀ l,flatE (e :: l) = .int .i64 e.1 :: .int .i64 e.2.1 :: .slice e.2.2.1 5 e.2.2.2.1 :: flatE l := fun _ => rfl
   rw [List.drop_succ_cons,e3,ih,show (i + 1) * 3 = i * 3 + 1 + 1 + 1 by omega]
   simp
def Keep (F:Nat → Prop) (w w':World):Prop := ∀ b,F b → w'.heap[b]? = w.heap[b]?
def Old (w:World) (F:Nat → Prop) (q:Option Addr) (xs:List Int):Prop := ∃ b off,q = some ⟨b,off,none⟩ ∧ F b ∧ xs.length = 5 ∧ ∀ k,k < 5 → w.cell? ⟨b,off + k,none⟩ = some (.int .i64 (xs.getD k 0))
theorem Old.later {w w':World} {F:Nat → Prop} {q:Option Addr} {xs:List Int} (g:Old w F q xs) (hb:Keep F w w'):Old w' F q xs := by
 obtain ⟨b,off,e,h1,h2,h3⟩ := g
 exact ⟨b,off,e,h1,h2,fun k hk => (World.cell?_of_block (a := ⟨b,off + k,none⟩) (hb b h1)).trans (h3 k hk)⟩
theorem Old.vw {w:World} {F:Nat → Prop} {q:Option Addr} {xs:List Int} (g:Old w F q xs) (hf:∀ b,F b → b < w.heap.size):Vw w q 5 xs := by
 obtain ⟨b,off,e,h1,h2,h3⟩ := g
 exact ⟨h2,fun _ => ⟨b,off,e,hf b h1,h3⟩⟩
theorem ownB (q:Option Addr) (n n' c c':Nat):(Value.slice q n c).ownBlock = (Value.slice q n' c').ownBlock := by cases q <;> rfl
def rcv (me:Int) (K:List Int) (v:Value) (j:Nat):Value := if j = 0 then .int .i64 me else if j = 6 then v else .int .i64 (K.getD (j - 1) 0)
structure RC (w:World) (base:Nat) (F:Nat → Prop) (P:Nat) (me:Int) (K:List Int) (es:List Es) (v:Value):Prop where
 row:w.rowIs P 134 7 (rcv me K v)
 own:w.ownsRow base 51 3 v es.length (flatE es)
 old:∀ e ∈ es,Old w F e.2.2.1 e.2.2.2.2
 five:K.length = 5
 low:base ≤ P
 sepP:¬ F P
 sepV:∀ k,v.ownBlock = some k → ¬ F k
 flt:∀ b,F b → b < w.heap.size
theorem RC.me {w:World} {base:Nat} {F:Nat → Prop} {P:Nat} {me:Int} {K:List Int} {es:List Es} {v:Value} (g:RC w base F P me K es v):w.cell? ⟨P,0,none⟩ = some (.int .i64 me) ∧ w.frozen? ⟨P,0,none⟩ = false := ⟨World.rowIs.cell g.row (i := 0) (by omega),World.rowIs.frozen g.row 0⟩
theorem RC.num {w:World} {base:Nat} {F:Nat → Prop} {P:Nat} {me:Int} {K:List Int} {es:List Es} {v:Value} (g:RC w base F P me K es v) {m:Nat} (hm:m < 5):w.cell? ⟨P,1 + m,none⟩ = some (.int .i64 (K.getD m 0)) ∧ w.frozen? ⟨P,1 + m,none⟩ = false := by
 have := World.rowIs.cell g.row (i := 1 + m) (by omega)
 rw [rcv,if_neg (by omega),if_neg (by omega),show 1 + m - 1 = m by omega] at this
 exact ⟨this,World.rowIs.frozen g.row (1 + m)⟩
theorem RC.wait {w:World} {base:Nat} {F:Nat → Prop} {P:Nat} {me:Int} {K:List Int} {es:List Es} {v:Value} (g:RC w base F P me K es v):w.cell? ⟨P,6,none⟩ = some v ∧ w.frozen? ⟨P,6,none⟩ = false := ⟨World.rowIs.cell g.row (i := 6) (by omega),World.rowIs.frozen g.row 6⟩
theorem RC.keep {w w':World} {base:Nat} {F:Nat → Prop} {P:Nat} {me:Int} {K:List Int} {es:List Es} {v:Value} (g:RC w base F P me K es v) (h:Kp w w' P v.ownBlock):Keep F w w' := fun b hb => h.2 b (g.flt b hb) (fun e => g.sepP (by rw [← e]; exact hb)) (fun e => g.sepV b e.symm hb)
theorem RC.of_blocks {w w':World} {base:Nat} {F:Nat → Prop} {P:Nat} {me:Int} {K:List Int} {es:List Es} {v:Value} (g:RC w base F P me K es v) (hs:w.heap.size ≤ w'.heap.size) (hb:Keep F w w') (h1:w'.heap[P]? = w.heap[P]?) (h2:∀ k,v.ownBlock = some k → w'.heap[k]? = w.heap[k]?):RC w' base F P me K es v :=
 ⟨World.rowIs.of_block g.row h1,own_block g.own h2,fun e he => (g.old e he).later hb,g.five,g.low,g.sepP,g.sepV,fun b h => Nat.lt_of_lt_of_le (g.flt b h) hs⟩
theorem RC.later {w w':World} {base:Nat} {F:Nat → Prop} {P:Nat} {me:Int} {K:List Int} {es:List Es} {v:Value} (g:RC w base F P me K es v) (hb:Below w.heap.size w w'):RC w' base F P me K es v :=
 g.of_blocks hb.size (fun b h => hb.block b (g.flt b h)) (hb.block P (World.rowIs.lt g.row)) (fun k hk => hb.block k (own_lt g.own k hk).2)
theorem RC.form {w:World} {base:Nat} {F:Nat → Prop} {P:Nat} {me:Int} {K:List Int} {es:List Es} {v:Value} (g:RC w base F P me K es v):∃ q cap,v = .slice q es.length cap ∧ es.length ≤ cap ∧ cap ≤ maxLen ∧ (0 < es.length → ∃ b,q = some ⟨b,0,none⟩ ∧ base ≤ b ∧ b < w.heap.size ∧ ∀ j u,(flatE es)[j]? = some u → w.cell? ⟨b,j,none⟩ = some u) := by
 rcases g.own.2 with ⟨h2,h3⟩ | ⟨b,cap,cur,hv,hb,hh,hc,hm,hsz,ht⟩
 ·refine ⟨none,0,by rw [h3]; exact h2,by omega,by unfold maxLen; omega,fun q => absurd q (by omega)⟩
 ·refine ⟨_,cap,hv,hc,hm,fun _ => ⟨b,rfl,hb,?_,fun j u hj => ?_⟩⟩
  ·rcases Nat.lt_or_ge b w.heap.size with hlt | hge
   ·exact hlt
   ·rw [Array.getElem?_eq_none hge] at hh; cases hh
  ·have hlt:j < es.length * 3 := by
    have := (List.getElem?_eq_some_iff.1 hj).1
    rwa [flatE_len] at this
   rw [← ht,List.getElem?_take_of_lt hlt] at hj
   simp only [World.cell?,hh]
   simpa using hj
theorem RC.apart {w:World} {base:Nat} {F:Nat → Prop} {P:Nat} {me:Int} {K:List Int} {es:List Es} {v:Value} (g:RC w base F P me K es v) {b t s n:Nat} {u:Value} {xs:List Value} (o:w.ownsRow b t s u n xs) (ht:t ≠ 134):u.ownBlock ≠ some P := by
 intro e
 rcases o.2 with ⟨h2,_⟩ | ⟨g',cap',cur,hv,hbg,hh,_⟩
 ·rw [h2] at e; cases e
 ·rw [hv] at e
  have:g' = P := by simpa [Value.ownBlock] using e
  subst this
  obtain ⟨c,hc,_⟩ := g.row
  rw [hc] at hh
  injection hh with hh
  injection hh with _ hh _
  exact ht hh.symm
theorem RC.setK {w:World} {base:Nat} {F:Nat → Prop} {P:Nat} {me:Int} {K:List Int} {es:List Es} {v:Value} (g:RC w base F P me K es v) {m:Nat} (hm:m < 5) (x:Int):RC (w.setCell ⟨P,1 + m,none⟩ (.int .i64 x)) base F P me (K.set m x) es v := by
 refine ⟨(World.rowIs.set g.row (1 + m) _).congr fun j hj => ?_,own_block g.own fun k hk => Deep.blk_setCell_other _ _ _ _ (fun e => g.apart g.own (by decide) (by rw [hk]; exact congrArg some e)),fun e he => (g.old e he).later (g.keep (Kp.setCell w P (1 + m) _ _)),by rw [List.length_set]; exact g.five,g.low,g.sepP,g.sepV,fun b h => by have := g.flt b h; simpa [World.setCell] using this⟩
 unfold rcv
 by_cases e0:j = 0
 ·subst e0
  rw [if_neg (by omega),if_pos rfl,if_pos rfl]
 ·rw [if_neg e0,if_neg e0]
  by_cases e6:j = 6
  ·subst e6
   rw [if_neg (by omega),if_pos rfl,if_pos rfl]
  ·rw [if_neg e6,if_neg e6]
   by_cases e:j = 1 + m
   ·subst e
    rw [if_pos rfl,show 1 + m - 1 = m by omega]
    have := g.five
    simp [List.getD,show m < K.length by omega]
   ·rw [if_neg e]
    simp [List.getD,List.getElem?_set_ne (show m ≠ j - 1 by omega)]
theorem RC.setV {w:World} {base:Nat} {F:Nat → Prop} {P:Nat} {me:Int} {K:List Int} {es':List Es} {v v':Value} (r:w.rowIs P 134 7 (rcv me K v)) (o:w.ownsRow base 51 3 v' es'.length (flatE es')) (hold:∀ e ∈ es',Old w F e.2.2.1 e.2.2.2.2) (hl:K.length = 5) (hP:base ≤ P) (sP:¬ F P) (sV:∀ k,v'.ownBlock = some k → ¬ F k) (hf:∀ b,F b → b < w.heap.size):RC (w.setCell ⟨P,6,none⟩ v') base F P me K es' v' := by
 have hap:∀ k,v'.ownBlock = some k → k ≠ P := by
  intro k hk e
  subst e
  rcases o.2 with ⟨h2,_⟩ | ⟨g',cap',cur,hv,hbg,hh,_⟩
  ·rw [h2] at hk; cases hk
  ·rw [hv] at hk
   have:g' = k := by simpa [Value.ownBlock] using hk
   subst this
   obtain ⟨c,hc,_⟩ := r
   rw [hc] at hh
   injection hh with hh
   injection hh with _ hh _
   exact absurd hh (by decide)
 refine ⟨(World.rowIs.set r 6 _).congr fun j hj => ?_,own_block o fun k hk => Deep.blk_setCell_other _ _ _ _ (hap k hk),fun e he => (hold e he).later (fun b hb => Deep.blk_setCell_other _ _ _ _ (fun e => sP (by rw [← show b = P from e]; exact hb))),hl,hP,sP,sV,fun b h => by have := hf b h; simpa [World.setCell] using this⟩
 unfold rcv
 by_cases e6:j = 6
 ·subst e6
  rw [if_pos rfl,if_neg (by omega),if_pos rfl]
 ·rw [if_neg e6,if_neg e6,if_neg e6]
theorem infoS:(Tryz.prog.info? 51).map (fun i => (i.zero,i.size,i.bytes)) = some (some (.agg #[.int .i64 0,.int .i64 0,.slice none 0 0]),3,40) := by kernel_rfl
theorem info_said:∃ i,Tryz.prog.info? 51 = some i ∧ i.zero = some (.agg #[.int .i64 0,.int .i64 0,.slice none 0 0]) ∧ i.size = 3 ∧ i.bytes = 40 := by
 obtain ⟨i,hi,hzz⟩ := Option.map_eq_some_iff.1 infoS
 simp only [Prod.mk.injEq] at hzz
 exact ⟨i,hi,hzz.1,hzz.2.1,hzz.2.2⟩
theorem new_said (w:World) (B:Nat) (hB:B = w.heap.size) (e:Es) (t:TypeId):∀ j u,(flatE [e])[j]? = some u → (w.alloc (.cells #[.int .i64 e.1,.int .i64 e.2.1,.slice e.2.2.1 5 e.2.2.2.1] t)).cell? ((⟨B,0,none⟩:Addr).add j) = some u := by
 subst hB
 intro j u hj
 rw [Addr.add_lit,Nat.zero_add]
 have hlt := (List.getElem?_eq_some_iff.1 hj).1
 rw [flatE_len] at hlt
 simp only [List.length_cons,List.length_nil] at hlt
 rcases j with _ | _ | _ | j
 ·simpa [flatE,cells3] using hj
 ·simpa [flatE,cells3] using hj
 ·simpa [flatE,cells3] using hj
 ·omega
def K5 (w:World) (P:Nat) (K:List Int):Prop := ∀ m,m < 5 → w.cell? ⟨P,1 + m,none⟩ = some (.int .i64 (K.getD m 0))
theorem RC.k5 {w:World} {base:Nat} {F:Nat → Prop} {P:Nat} {me:Int} {K:List Int} {es:List Es} {v:Value} (g:RC w base F P me K es v):K5 w P K := fun _ hm => (g.num hm).1
set_option maxRecDepth 100000 in
theorem ready_any (P:Nat) (K:List Int) (who word:Int) (q:Option Addr) (c:Nat) (clk:List Int) (w:World) (hP:P < w.heap.size) (hk:K5 w P K) (hn:∀ j,j < 5 → 0 ≤ K.getD j 0 ∧ K.getD j 0 ≤ 1000000) (hv:Vw w q 5 clk) :
  Calls Tryz.prog 155 #[.pointer (some ⟨P,0,none⟩),.agg #[.int .i64 who,.int .i64 word,.slice q 5 c]] w fun e w' => e = .returned (.bool (rdy K (who,word,clk))) ∧ Below w.heap.size w w' := by
 obtain ⟨b,off,rfl,hb,hc⟩ := hv.2 (by omega)
 obtain ⟨W,eW⟩:∃ W,W = w.alloc (.cells #[.int .i64 who,.int .i64 word,.slice (some ⟨b,off,none⟩) 5 c] 51) := ⟨_,rfl⟩
 have BW:Hid (Below w.heap.size w W) := by rw [eW]; exact (Below.refl _ _).alloc (Nat.le_refl _) _
 have a0:W.cell? ⟨w.heap.size,0,none⟩ = some (.int .i64 who) := by rw [eW]; go_cell
 have a2:W.cell? ⟨w.heap.size,2,none⟩ = some (.slice (some ⟨b,off,none⟩) 5 c) := by rw [eW]; go_cell
 have HC:Hid (∀ j,j < 5 → W.cell? ⟨b,off + j,none⟩ = some (.int .i64 (clk.getD j 0)) ∧ W.cell? ⟨P,1 + j,none⟩ = some (.int .i64 (K.getD j 0)) ∧ 0 ≤ K.getD j 0 ∧ K.getD j 0 ≤ 1000000) :=
  fun j hj => ⟨(BW.out.cell (p := ⟨b,off + j,none⟩) hb).trans (hc j hj),(BW.out.cell (p := ⟨P,1 + j,none⟩) hP).trans (hk j hj),hn j hj⟩
 clear hv hc hk hn hb hP
 go_enter Tryz.func155,Tryz.ntmps155
 go_wp2
 rw [← eW]
 clear eW
 go_loopw [5] (fun x wr => ∃ i:Nat,i ≤ 5 ∧ x = .int .i64 (i:Int) ∧ (∃ n,wr = W.drewN n) ∧ Hid (∀ j,j < i → rdyAt K (who,word,clk) j = true)) (fun x _ => 5 - (intOf x).toNat)
 case atStart => exact ⟨0,by omega,rfl,⟨0,rfl⟩,fun j hj => absurd hj (by omega)⟩
 case round =>
  obtain ⟨i,hi,rfl,⟨n,rfl⟩,hr⟩ := hrel
  by_cases hlt:i < 5
  ·obtain ⟨x0,x1,x2⟩ := HC.out i hlt
   obtain ⟨x,ex⟩:∃ x,x = clk.getD i 0 := ⟨_,rfl⟩
   obtain ⟨y,ey⟩:∃ y,y = K.getD i 0 := ⟨_,rfl⟩
   rw [← ex] at x0
   rw [← ey] at x1 x2
   have EX:Hid (x = clk.getD i 0 ∧ y = K.getD i 0) := ⟨ex,ey⟩
   have hi0:(0:Int) ≤ (i:Int) := by omega
   have hi5:(i:Int) < 5 := by omega
   clear ex ey
   by_cases hw:(i:Int) = who
   ·have hw':((i:Int) == who) = true := by simp [hw]
    have HW:Hid ((i:Int) = who) := hw
    clear hw
    by_cases hx:x = y + 1
    ·have hx':(x != y + 1) = false := by simp [hx]
     have HX:Hid (x = y + 1) := hx
     clear hx
     go_wp2
     go_quiet (fail)
     go_wp2
     go_roundw
     case rel =>
      refine ⟨i + 1,by omega,by go_num,⟨_,rfl⟩,fun j hj => ?_⟩
      by_cases e:j < i
      ·exact hr.out j e
      ·rw [show j = i by omega,rdyAt_own HW.out]
       show decide (clk.getD i 0 = K.getD i 0 + 1) = true
       rw [← EX.out.1,← EX.out.2]
       exact decide_eq_true HX.out
     case measure => simp [intOf]; omega
    ·have hx':(x != y + 1) = true := by simp [hx]
     have HX:Hid (¬ x = y + 1) := hx
     clear hx
     go_wp2
     go_quiet (fail)
     go_wp2
     go_ret
     refine ⟨ret_bool (rdy_no hlt ?_).symm,below_drews (below_drews BW.out _) _⟩
     rw [rdyAt_own HW.out]
     show decide (clk.getD i 0 = K.getD i 0 + 1) = false
     rw [← EX.out.1,← EX.out.2]
     exact decide_eq_false HX.out
   ·have hw':((i:Int) == who) = false := by simp [hw]
    have HW:Hid (¬ (i:Int) = who) := hw
    clear hw
    by_cases hx:y < x
    ·have HX:Hid (y < x) := hx
     go_wp2
     go_quiet (fail)
     go_wp2
     go_ret
     refine ⟨ret_bool (rdy_no hlt ?_).symm,below_drews (below_drews BW.out _) _⟩
     rw [rdyAt_other HW.out]
     show decide (clk.getD i 0 ≤ K.getD i 0) = false
     rw [← EX.out.1,← EX.out.2]
     exact decide_eq_false (by have := HX.out; omega)
    ·have HX:Hid (¬ y < x) := hx
     go_wp2
     go_quiet (fail)
     go_wp2
     go_roundw
     case rel =>
      refine ⟨i + 1,by omega,by go_num,⟨_,rfl⟩,fun j hj => ?_⟩
      by_cases e:j < i
      ·exact hr.out j e
      ·rw [show j = i by omega,rdyAt_other HW.out]
       show decide (clk.getD i 0 ≤ K.getD i 0) = true
       rw [← EX.out.1,← EX.out.2]
       exact decide_eq_true (by have := HX.out; omega)
     case measure => simp [intOf]; omega
  ·have hi5:i = 5 := by omega
   subst hi5
   go_wp2
   go_ret
   exact ⟨ret_bool (rdy_iff.2 hr.out).symm,below_drews BW.out _⟩
set_option maxRecDepth 100000 in
theorem list_any (P:Nat) (K:List Int) (w:World) (hl:K.length = 5) (hP:P < w.heap.size) (hk:K5 w P K) :
  Calls Tryz.prog 153 #[.pointer (some ⟨P,0,none⟩)] w fun e w' => ∃ v,e = .returned v ∧ w'.ownsRow w.heap.size 3 1 v 5 (K.map (Value.int .i64)) ∧ Below w.heap.size w w' := by
 have HK:Hid (K5 w P K ∧ K.length = 5 ∧ P < w.heap.size) := ⟨hk,hl,hP⟩
 have N7:Hid (w.ownsRow w.heap.size 3 1 (.slice none 0 0) 0 ((K.take 0).map (Value.int .i64)) ∧ Below w.heap.size w w) := ⟨World.ownsRow_nil _ _ _ _,Below.refl _ _⟩
 obtain ⟨ii,hi',hz0,hz1,hz2⟩ := info_int
 have HJ:Hid (Tryz.prog.info? 3 = some ii ∧ ii.zero = some (.int .i64 0) ∧ ii.size = 1 ∧ ii.bytes = 8) := ⟨hi',hz0,hz1,hz2⟩
 clear hi' hz0 hz1 hz2 hl hP hk
 go_enter Tryz.func153,Tryz.ntmps153
 go_wp2
 go_loopw [3,4] (fun vn x wk => ∃ k:Nat,k ≤ 5 ∧ x = .int .i64 (k:Int) ∧ Hid (wk.ownsRow w.heap.size 3 1 vn k ((K.take k).map (Value.int .i64)) ∧ Below w.heap.size w wk)) (fun vn x _ => 5 - (intOf x).toNat)
 case atStart => exact ⟨0,by omega,rfl,N7⟩
 case round =>
  obtain ⟨k,hk,rfl,hN⟩ := hrel
  obtain ⟨wk,ewk⟩:∃ wk,wk = wr := ⟨_,rfl⟩
  subst ewk
  obtain ⟨qn,cn,rfl⟩ := own_form hN.out.1
  by_cases hk5:k < 5
  ·have hk0:(0:Int) ≤ (k:Int) := by omega
   have hk5':(k:Int) < 5 := by omega
   have ck := (hN.out.2.cell (p := ⟨P,1 + k,none⟩) HK.out.2.2).trans (HK.out.1 k hk5)
   obtain ⟨y,ey⟩:∃ y,y = K.getD k 0 := ⟨_,rfl⟩
   rw [← ey] at ck
   have EY:Hid (y = K.getD k 0 ∧ w.heap.size ≤ wk.heap.size) := ⟨ey,hN.out.2.size⟩
   clear ey
   go_wp2_with (at_builtin; refine wpList_append_own _ rfl _ _ 30 rfl w.heap.size 3 ii (.int .i64 0) 1 8 Tryz.underlying30 HJ.out.1 HJ.out.2.1 HJ.out.2.2.1 HJ.out.2.2.2 rfl (by decide) (.slice qn k cn) k ((K.take k).map (Value.int .i64)) rfl (by exact own_later0 hN.out.1 ((Below.refl wk.heap.size wk).alloc (Nat.le_refl _) _)) ⟨wk.heap.size,0,none⟩ 1 1 [.int .i64 y] rfl rfl (by exact new_int wk _ rfl y 3) (int_one _) (by unfold maxLen; omega) (by omega) (by have := EY.out.2; simp; omega) ?_; intro v1 w8 hown hgrow _; obtain ⟨q1,k1',rfl⟩ := own_form hown; have HO1:Hid (w8.ownsRow w.heap.size 3 1 (.slice q1 (k + 1) k1') (k + 1) ((K.take k).map (Value.int .i64) ++ [.int .i64 y])) := hown; have HG1:Hid _ := hgrow; clear hown hgrow)
   go_roundw
   case rel =>
    refine ⟨k + 1,by omega,by go_num,?_,((hN.out.2.alloc EY.out.2 _).grown HG1.out (by have := EY.out.2; simp; omega) (fun b hb => (own_lt hN.out.1 b hb).1))⟩
    have e:K.take (k + 1) = K.take k ++ [y] := by
     have := HK.out.2.1
     rw [List.take_add_one,EY.out.1]
     simp [List.getD,show k < K.length by omega]
    rw [e,List.map_append]
    exact HO1.out
   case measure => simp [intOf]; omega
  ·have hk5:k = 5 := by omega
   subst hk5
   go_wp2
   go_ret
   have o := hN.out
   rw [List.take_of_length_le (by rw [HK.out.2.1]; exact Nat.le_refl _)] at o
   exact ⟨_,rfl,o⟩
end Go.Proofs.YtdmniblonikjlakGreatDoor.Cau


namespace Go.Proofs.YtdmniblonikjlakGreatDoor.Cau
open Go.RowKit
open Vec (Vw code)
open Fif (own_lt own_block own_form own_vw own_mono row_grown Kp info_int new_int int_one ret_bool lenOf)
set_option linter.unusedVariables false
theorem retS {fn:Func} {tmps:Array Value} {w:World} {p u:Tmp} {B:Nat} {v0 v1 v2 x:Value} (h:fn.results = #[.cell p 51,.tmp u]) (hp:tmps.getD p undef = .pointer (some ⟨B,0,none⟩)) (hu:tmps.getD u undef = x)
  (y0:w.cell? ⟨B,0,none⟩ = some v0) (y1:w.cell? ⟨B,1,none⟩ = some v1) (y2:w.cell? ⟨B,2,none⟩ = some v2):(results fn tmps).run Tryz.prog w = .ok (.tuple #[.agg #[v0,v1,v2],x]) w := by
 rw [results_cell_tmp h,hp,hu]
 simp [asAddr,go_sem,y0,y1,y2]
theorem k5_heap {w w':World} {P:Nat} {K:List Int} (g:K5 w P K) (e:w'.heap = w.heap):K5 w' P K := fun m hm => (World.cell?_of_block (w := w) (a := ⟨P,1 + m,none⟩) (by rw [e])).trans (g m hm)
theorem keep_cells {w:World} {B P o:Nat} {u:Value} (hne:B ≠ P) {v0 v1 v2:Value} (h:w.cell? ⟨P,o,none⟩ = some u):(((w.setCell ⟨B,0,none⟩ v0).setCell ⟨B,1,none⟩ v1).setCell ⟨B,2,none⟩ v2).cell? ⟨P,o,none⟩ = some u := by
 rw [World.cell?_setCell_other _ _ _ _ (fun e => hne (congrArg Addr.block e)),World.cell?_setCell_other _ _ _ _ (fun e => hne (congrArg Addr.block e)),World.cell?_setCell_other _ _ _ _ (fun e => hne (congrArg Addr.block e))]
 exact h
theorem below_same {w w1 w2:World} (h:Below w1.heap.size w1 w2) (e:w1.heap = w.heap) (e1:w1.os = w.os) (e2:w1.tape = w.tape) (e3:w1.output = w.output):Below w.heap.size w w2 := by
 rw [e] at h
 exact ⟨h.os.trans e1,h.tape.trans e2,h.output.trans e3,by have := h.size; rw [e] at this; exact this,fun k hk => by rw [h.block k hk,e]⟩
set_option maxRecDepth 100000 in
theorem refSay_bad (base:Nat) (F:Nat → Prop) (P:Nat) (me:Int) (K:List Int) (es:List Es) (v:Value) (word:Int) (w:World) (g:RC w base F P me K es v) (hb:word < 1 ∨ 30 < word) :
  Calls Tryz.prog 103 #[.pointer (some ⟨P,0,none⟩),.int .i64 word] w fun x w' => x = .returned (.tuple #[.agg #[.int .i64 0,.int .i64 0,.slice none 0 0],.int .i64 1]) ∧ Below w.heap.size w w' := by
 clear g
 rcases (show word < 1 ∨ (1 ≤ word ∧ 30 < word) by omega) with h1 | ⟨h1,h2⟩
 all_goals
  clear hb
  go_enter Tryz.func103,Tryz.ntmps103
  go_wp2
  refine bodyPost_ret (v := .tuple #[.agg #[.int .i64 0,.int .i64 0,.slice none 0 0],.int .i64 1]) (retS (B := w.heap.size) rfl rfl rfl (by go_cell) (by go_cell) (by go_cell)) rfl ?_
  exact ⟨rfl,(Below.refl _ _).alloc (Nat.le_refl _) _⟩
set_option maxRecDepth 100000 in
theorem refSay_full (base:Nat) (F:Nat → Prop) (P m:Nat) (K:List Int) (es:List Es) (v:Value) (word:Int) (w:World) (hm:m < 5) (g:RC w base F P (m:Int) K es v) (h1:1 ≤ word) (h2:word ≤ 30) (hf:K.getD m 0 = 1000000) :
  Calls Tryz.prog 103 #[.pointer (some ⟨P,0,none⟩),.int .i64 word] w fun x w' => x = .returned (.tuple #[.agg #[.int .i64 0,.int .i64 0,.slice none 0 0],.int .i64 4]) ∧ Below w.heap.size w w' := by
 have hP := World.rowIs.lt g.row
 obtain ⟨c0,z0⟩ := g.me
 obtain ⟨c1,z1⟩ := g.num hm
 rw [hf] at c1
 have hm0:(0:Int) ≤ (m:Int) := by omega
 have hm5:(m:Int) < 5 := by omega
 clear g
 go_enter Tryz.func103,Tryz.ntmps103
 go_wp2_with fail
 go_quiet (fail)
 go_wp2
 refine bodyPost_ret (v := .tuple #[.agg #[.int .i64 0,.int .i64 0,.slice none 0 0],.int .i64 4]) (retS (B := w.heap.size) rfl rfl rfl (by go_cell) (by go_cell) (by go_cell)) rfl ?_
 exact ⟨rfl,(((below_drews ((Below.refl _ _).alloc (Nat.le_refl _) _) _).setCell (p := ⟨w.heap.size,0,none⟩) (Nat.le_refl _) _).setCell (p := ⟨w.heap.size,1,none⟩) (Nat.le_refl _) _).setCell (p := ⟨w.heap.size,2,none⟩) (Nat.le_refl _) _⟩
set_option maxRecDepth 100000 in
set_option maxHeartbeats 1000000 in
theorem refSay_ok (base:Nat) (F:Nat → Prop) (P m:Nat) (K:List Int) (es:List Es) (v:Value) (word:Int) (w:World) (hm:m < 5) (g:RC w base F P (m:Int) K es v) (hbw:base ≤ w.heap.size) (hn:0 ≤ K.getD m 0 ∧ K.getD m 0 < 1000000) (h1:1 ≤ word) (h2:word ≤ 30) :
  Calls Tryz.prog 103 #[.pointer (some ⟨P,0,none⟩),.int .i64 word] w fun x w' => ∃ vc,x = .returned (.tuple #[.agg #[.int .i64 (m:Int),.int .i64 word,vc],.int .i64 0]) ∧
   RC w' base F P (m:Int) (inc K (m:Int)) es v ∧ w'.ownsRow w.heap.size 3 1 vc 5 ((inc K (m:Int)).map (Value.int .i64)) ∧ Below base w w' ∧ Kp w w' P none := by
 have hP := World.rowIs.lt g.row
 obtain ⟨c0,z0⟩ := g.me
 obtain ⟨c1,z1⟩ := g.num hm
 have HG:Hid (RC w base F P (m:Int) K es v ∧ base ≤ w.heap.size) := ⟨g,hbw⟩
 obtain ⟨y,ey⟩:∃ y,y = K.getD m 0 := ⟨_,rfl⟩
 rw [← ey] at c1 hn
 have EY:Hid (y = K.getD m 0) := ey
 have hy:(y == 1000000) = false := by simp; omega
 have hm0:(0:Int) ≤ (m:Int) := by omega
 have hm5:(m:Int) < 5 := by omega
 obtain ⟨W,eW⟩:∃ W,W = w.alloc (.cells #[.int .i64 0,.int .i64 0,.slice none 0 0] 51) := ⟨_,rfl⟩
 clear g hbw ey
 go_enter Tryz.func103,Tryz.ntmps103
 go_wp2_with fail
 rw [← eW]
 have BW:Hid (Below w.heap.size w W ∧ W.heap.size = w.heap.size + 1) := ⟨by rw [eW]; exact (Below.refl _ _).alloc (Nat.le_refl _) _,by rw [eW]; simp⟩
 have RW:Hid (W.rowIs w.heap.size 51 3 (fun j => if j = 2 then .slice none 0 0 else .int .i64 0)) := by
  rw [eW]
  exact World.rowIs_alloc w _ 51 _ (fun i hi => by rcases i with _ | _ | _ | i <;> first | rfl | (exfalso; have:_ < 3 := hi; omega))
 have GW:Hid (RC W base F P (m:Int) K es v) := HG.out.1.later BW.out.1
 have c0 := GW.out.me.1
 have c1 := (GW.out.num hm).1
 have z1 := (GW.out.num hm).2
 rw [← EY.out] at c1
 clear eW
 go_quiet (fail)
 go_wp2_with fail
 go_region
 obtain ⟨W2,eW2⟩:∃ W2,W2 = (W.drewN (nq + 1)).setCell ⟨P,1 + m,none⟩ (.int .i64 (y + 1)) := ⟨_,rfl⟩
 rw [← eW2]
 have ei:inc K (m:Int) = K.set m (y + 1) := by rw [inc,Int.toNat_natCast,EY.out]
 have R2:Hid (RC W2 base F P (m:Int) (inc K (m:Int)) es v ∧ W2.rowIs w.heap.size 51 3 (fun j => if j = 2 then .slice none 0 0 else .int .i64 0) ∧ Below base w W2 ∧ Kp w W2 P none ∧ w.heap.size < W2.heap.size) := by
  have gd:RC (W.drewN (nq + 1)) base F P (m:Int) K es v := GW.out.later (below_drews (Below.refl _ _) _)
  have hne:w.heap.size ≠ P := by omega
  rw [eW2]
  refine ⟨by rw [ei]; exact gd.setK hm (y + 1),(RW.out.of_block rfl:(W.drewN (nq + 1)).rowIs _ _ _ _).setOther (a := ⟨P,1 + m,none⟩) hne _,((below_drews (BW.out.1.mono HG.out.2) _).setCell (p := ⟨P,1 + m,none⟩) HG.out.1.low _),(Kp.below (below_drews BW.out.1 _) none).trans (Kp.setCell _ P (1 + m) _ none) (by simp),?_⟩
  simp [World.setCell]
  have := BW.out.2
  show w.heap.size < W.heap.size
  omega
 have k2 := R2.out.1.me.1
 have P2:Hid (P < W2.heap.size ∧ (inc K (m:Int)).length = 5) := ⟨World.rowIs.lt R2.out.1.row,R2.out.1.five⟩
 have HNE:Hid (w.heap.size ≠ P) := (by show _ ≠ _; omega)
 clear eW2 c0 c1 z1 z0 RW GW
 go_wp2_with fail
 go_region_held3 (fun w' => w'.cell? ⟨P,0,none⟩ = some (.int .i64 (m:Int))) (first | exact k9 | exact k2 | exact keep_cells HNE.out k9 | go_keep) (first
  | (go_at_call 153; refine (list_any P (inc K (m:Int)) _ P2.out.2 (by exact P2.out.1) (by exact k5_heap R2.out.1.k5 rfl)).mono ?_; rintro e w9 ⟨vc,rfl,hO,hB⟩; obtain ⟨qc,cc,rfl⟩ := own_form hO; have B9:Hid (Below W2.heap.size W2 w9 ∧ w9.ownsRow W2.heap.size 3 1 (.slice qc 5 cc) 5 ((inc K (m:Int)).map (Value.int .i64))) := ⟨below_same hB rfl rfl rfl rfl,hO⟩; have k9 := (B9.out.1.cell (p := ⟨P,0,none⟩) P2.out.1).trans k2; have r9 := World.rowIs.of_block R2.out.2.1 (B9.out.1.block _ R2.out.2.2.2.2); have y0 := World.rowIs.cell r9 (i := 0) (by omega); have y1 := World.rowIs.cell r9 (i := 1) (by omega); have y2 := World.rowIs.cell r9 (i := 2) (by omega); have f0 := World.rowIs.frozen r9 0; have f1 := World.rowIs.frozen r9 1; have f2 := World.rowIs.frozen r9 2; have R9:Hid (w9.rowIs w.heap.size 51 3 (fun j => if j = 2 then .slice none 0 0 else .int .i64 0)) := r9; clear hO hB r9))
 go_wp2
 have r3 := ((World.rowIs.set R9.out 0 (.int .i64 (m:Int))).set 1 (.int .i64 word)).set 2 (.slice qc 5 cc)
 have u0 := r3.cell (i := 0) (by omega)
 have u1 := r3.cell (i := 1) (by omega)
 have u2 := r3.cell (i := 2) (by omega)
 simp at u0 u1 u2
 refine bodyPost_ret (v := .tuple #[.agg #[.int .i64 (m:Int),.int .i64 word,.slice qc 5 cc],.int .i64 0]) (retS (B := w.heap.size) rfl rfl rfl u0 u1 u2) rfl ?_
 have g9 := R2.out.1.later B9.out.1
 have hbb:base ≤ w.heap.size := HG.out.2
 have b9:Below base w w9 := R2.out.2.2.1.trans (B9.out.1.mono (Nat.le_trans hbb (Nat.le_of_lt R2.out.2.2.2.2)))
 have bl:∀ k,k ≠ w.heap.size → (((w9.setCell ⟨w.heap.size,0,none⟩ (.int .i64 (m:Int))).setCell ⟨w.heap.size,1,none⟩ (.int .i64 word)).setCell ⟨w.heap.size,2,none⟩ (.slice qc 5 cc)).heap[k]? = w9.heap[k]? := by
  intro k hk
  rw [Deep.blk_setCell_other _ _ _ _ hk,Deep.blk_setCell_other _ _ _ _ hk,Deep.blk_setCell_other _ _ _ _ hk]
 have bb:∀ (a:World),Below base a w9 → Below base a (((w9.setCell ⟨w.heap.size,0,none⟩ (.int .i64 (m:Int))).setCell ⟨w.heap.size,1,none⟩ (.int .i64 word)).setCell ⟨w.heap.size,2,none⟩ (.slice qc 5 cc)) := fun a h => ((h.setCell (p := ⟨w.heap.size,0,none⟩) hbb _).setCell (p := ⟨w.heap.size,1,none⟩) hbb _).setCell (p := ⟨w.heap.size,2,none⟩) hbb _
 refine ⟨_,rfl,g9.of_blocks (bb w9 (Below.refl _ _)).size (fun b hb => bl b (Nat.ne_of_lt (HG.out.1.flt b hb))) (bl P (Ne.symm HNE.out)) (fun k hk => bl k (Nat.ne_of_lt (own_lt HG.out.1.own k hk).2)),own_mono (own_block B9.out.2 (fun k hk => bl k (by have := (own_lt B9.out.2 k hk).1; have := R2.out.2.2.2.2; omega))) (Nat.le_of_lt R2.out.2.2.2.2),bb w b9,⟨?_,fun b hb hP' hr => ?_⟩⟩
 ·exact (bb w b9).size
 ·rw [bl b (by omega),B9.out.1.block b (by have := R2.out.2.2.2.2; omega)]
  exact R2.out.2.2.2.1.2 b hb hP' hr
theorem refSay (base:Nat) (F:Nat → Prop) (P:Nat) (me:Int) (K:List Int) (es:List Es) (v:Value) (word:Int) (w:World) (g:RC w base F P me K es v) (hi:CInv me K (es.map toSd)) (hbw:base ≤ w.heap.size) :
  Calls Tryz.prog 103 #[.pointer (some ⟨P,0,none⟩),.int .i64 word] w fun x w' => ∃ s0 s1 vc,x = .returned (.tuple #[.agg #[.int .i64 s0,.int .i64 s1,vc],.int .i64 (sayC me K word)]) ∧
   RC w' base F P me (sayK me K word) es v ∧ SayR w' w.heap.size me K word s0 s1 vc ∧ Below base w w' ∧ Kp w w' P none := by
 have no:∀ k:Int,k ≠ 0 → sayC me K word = k → ∀ x w',(x = Ending.returned (.tuple #[.agg #[.int .i64 0,.int .i64 0,.slice none 0 0],.int .i64 k]) ∧ Below w.heap.size w w') → ∃ s0 s1 vc,x = .returned (.tuple #[.agg #[.int .i64 s0,.int .i64 s1,vc],.int .i64 (sayC me K word)]) ∧
   RC w' base F P me (sayK me K word) es v ∧ SayR w' w.heap.size me K word s0 s1 vc ∧ Below base w w' ∧ Kp w w' P none := by
  rintro k hk0 hk x w' ⟨rfl,hb⟩
  have h0:¬ sayC me K word = 0 := by rw [hk]; exact hk0
  refine ⟨0,0,.slice none 0 0,by rw [hk],?_,⟨(if_neg h0).symm,(if_neg h0).symm,?_⟩,hb.mono hbw,Kp.below hb _⟩
  ·rw [sayK,if_neg h0]; exact g.later hb
  ·rw [sayL,if_neg h0]; exact World.ownsRow_nil _ _ _ _
 obtain ⟨m,rfl⟩:∃ m:Nat,me = (m:Int) := ⟨me.toNat,by have := hi.me; omega⟩
 have hm:m < 5 := by have := hi.me; omega
 by_cases h1:word < 1 ∨ 30 < word
 ·exact (refSay_bad base F P (m:Int) K es v word w g h1).mono (no 1 (by decide) (if_pos h1))
 ·by_cases h2:K.getD m 0 = 1000000
  ·exact (refSay_full base F P m K es v word w hm g (by omega) (by omega) h2).mono (no 4 (by decide) (by rw [sayC,if_neg h1,Int.toNat_natCast,if_pos h2]))
  ·have h0:sayC (m:Int) K word = 0 := by rw [sayC,if_neg h1,Int.toNat_natCast,if_neg h2]
   have hn := hi.num m hm
   refine (refSay_ok base F P m K es v word w hm g hbw (by omega) (by omega) (by omega)).mono ?_
   rintro x w' ⟨vc,rfl,r,o,b,k⟩
   refine ⟨(m:Int),word,vc,by rw [h0],by rw [sayK,if_pos h0]; exact r,⟨(if_pos h0).symm,(if_pos h0).symm,?_⟩,b,k⟩
   rw [sayL,if_pos h0]
   have e5:(inc K (m:Int)).length = 5 := r.five
   rw [e5]
   exact o
end Go.Proofs.YtdmniblonikjlakGreatDoor.Cau
