/-
  Texts put together: CagT.
-/
import Derived.Test.YtdmniblonikjlakGreatDoorPsA
import Derived.Test.YtdmniblonikjlakGreatDoorPsB


namespace Go.Proofs.YtdmniblonikjlakGreatDoor.Cau
open Go.RowKit
open Vec (Vw code refVector)
open Fif (own_lt own_block own_form own_vw own_mono row_grown Kp info_int new_int int_one ret_bool lenOf)
set_option linter.unusedVariables false
theorem vw_heap {w w':World} {a:Option Addr} {n:Nat} {xs:List Int} (h:Vw w a n xs) (e:w'.heap = w.heap):Vw w' a n xs :=
 ⟨h.1,fun hn => by
  obtain ⟨b,off,e1,h1,h2⟩ := h.2 hn
  exact ⟨b,off,e1,by rw [e]; exact h1,fun k hk => (World.cell?_of_block (w := w) (by rw [e])).trans (h2 k hk)⟩⟩
def C3 (w:World) (g i:Nat) (e:Es):Prop := w.cell? ⟨g,i * 3,none⟩ = some (.int .i64 e.1) ∧ w.cell? ⟨g,i * 3 + 1,none⟩ = some (.int .i64 e.2.1) ∧ w.cell? ⟨g,i * 3 + 2,none⟩ = some (.slice e.2.2.1 5 e.2.2.2.1)
theorem c3_of {w:World} {g:Nat} {es:List Es} (h:∀ j u,(flatE es)[j]? = some u → w.cell? ⟨g,j,none⟩ = some u) {i:Nat} (hi:i < es.length):C3 w g i (eg es i) := by
 obtain ⟨a,b,c⟩ := flatE_get es i hi
 exact ⟨h _ _ a,h _ _ b,h _ _ c⟩
theorem blk_push {w w':World} {ob:Obj} (e:w'.heap = w.heap.push ob) {k:Nat} (hk:k < w.heap.size):w'.heap[k]? = w.heap[k]? := by
 rw [e]
 exact Below.heap_alloc w ob k hk
theorem own_push {w w':World} {ob:Obj} {base:Nat} {t:TypeId} {s n:Nat} {v:Value} {xs:List Value} (o:w.ownsRow base t s v n xs) (e:w'.heap = w.heap.push ob):w'.ownsRow base t s v n xs := own_block o fun k hk => blk_push e (own_lt o k hk).2
theorem cell_push {w w':World} {ob:Obj} (e:w'.heap = w.heap.push ob) {a:Addr} (ha:a.block < w.heap.size):w'.cell? a = w.cell? a := World.cell?_of_block (blk_push e ha)
theorem frozen_push {w w':World} {ob:Obj} (e:w'.heap = w.heap.push ob) {a:Addr} (ha:a.block < w.heap.size):w'.frozen? a = w.frozen? a := World.frozen?_of_block (blk_push e ha)
theorem news_push {w w':World} {ee:Es} {t:TypeId} (e:w'.heap = w.heap.push (.cells #[.int .i64 ee.1,.int .i64 ee.2.1,.slice ee.2.2.1 5 ee.2.2.2.1] t)):∀ j u,(flatE [ee])[j]? = some u → w'.cell? ((⟨w.heap.size,0,none⟩:Addr).add j) = some u := by
 intro j u hj
 refine Eq.trans (World.cell?_of_block ?_) (new_said w _ rfl ee t j u hj)
 rw [e]
 rfl
theorem grown_push {w2 X w3:World} {ob:Obj} {r:Option Nat} (hg:X.grownBy w3 r) (e:X.heap = w2.heap.push ob) (e1:X.os = w2.os) (e2:X.tape = w2.tape) (e3:X.output = w2.output):(w2.alloc ob).grownBy w3 r := by
 obtain ⟨a1,a2,a3,a4,a5⟩ := hg
 exact ⟨a1.trans e1,a2.trans e2,a3.trans e3,by rw [e] at a4; exact a4,fun k hk hne => (a5 k (by rw [e]; exact hk) hne).trans (by rw [e]; rfl)⟩
theorem any_no {ws:List Sd} {s:Sd} (h:∀ j,j < ws.length → same s (sd ws j) = false):ws.any (same s) = false := by
 rw [List.any_eq_false]
 intro c hc
 obtain ⟨j,hj,rfl⟩ := List.getElem_of_mem hc
 have := h j hj
 simpa [sd,List.getD,hj] using this
theorem any_step {ws:List Sd} {s:Sd} {i:Nat} (h:∀ j,j < i → same s (sd ws j) = false) (hs:same s (sd ws i) = false):∀ j,j < i + 1 → same s (sd ws j) = false := by
 intro j hj
 rcases Nat.lt_or_ge j i with a | a
 ·exact h j a
 ·rw [show j = i by omega]; exact hs
set_option maxRecDepth 100000 in
theorem takeC_bad (base:Nat) (F:Nat → Prop) (P:Nat) (me:Int) (K:List Int) (es:List Es) (v:Value) (who word:Int) (q:Option Addr) (len c:Nat) (clk:List Int) (w:World) (hb:sdBad (who,word,clk) = true) :
  Calls Tryz.prog 105 #[.pointer (some ⟨P,0,none⟩),.agg #[.int .i64 who,.int .i64 word,.slice q len c]] w fun x w' => x = .returned (.tuple #[.slice none 0 0,.int .i64 1]) ∧ Below w.heap.size w w' := by
 have hc:who < 0 ∨ (0 ≤ who ∧ 4 < who) ∨ (0 ≤ who ∧ who ≤ 4 ∧ word < 1) ∨ (0 ≤ who ∧ who ≤ 4 ∧ 1 ≤ word ∧ 30 < word) := by
  simp [sdBad] at hb
  omega
 clear hb
 rcases hc with h1 | ⟨h1,h2⟩ | ⟨h1,h2,h3⟩ | ⟨h1,h2,h3,h4⟩
 all_goals
  go_enter Tryz.func105,Tryz.ntmps105
  go_wp2
  go_ret2
  exact ⟨rfl,(Below.refl _ _).alloc (Nat.le_refl _) _⟩
set_option maxRecDepth 100000 in
theorem takeC_vec (base:Nat) (F:Nat → Prop) (P:Nat) (me:Int) (K:List Int) (es:List Es) (v:Value) (who word:Int) (q:Option Addr) (len c:Nat) (clk:List Int) (w:World) (hv:Vw w q len clk) (hb:sdBad (who,word,clk) = false) (hc:code clk ≠ 0) :
  Calls Tryz.prog 105 #[.pointer (some ⟨P,0,none⟩),.agg #[.int .i64 who,.int .i64 word,.slice q len c]] w fun x w' => x = .returned (.tuple #[.slice none 0 0,.int .i64 (code clk)]) ∧ Below w.heap.size w w' := by
 have hbb:0 ≤ who ∧ who ≤ 4 ∧ 1 ≤ word ∧ word ≤ 30 := by
  simp [sdBad] at hb
  omega
 obtain ⟨h1,h2,h3,h4⟩ := hbb
 have HV:Hid (Vw (w.alloc (.cells #[.int .i64 who,.int .i64 word,.slice q len c] 51)) q len clk) := hv.later ((Below.refl _ _).alloc (Nat.le_refl _) _)
 have hc':(code clk != 0) = true := by simp [hc]
 obtain ⟨cc,ecc⟩:∃ cc,cc = code clk := ⟨_,rfl⟩
 have EC:Hid (code clk = cc) := ecc.symm
 rw [← ecc] at hc' ⊢
 clear hb hv hc ecc
 go_enter Tryz.func105,Tryz.ntmps105
 go_wp2_with fail
 refine (refVector q len c clk _ HV.out).mono ?_
 rintro e w1 ⟨rfl,e1⟩
 have e1 := e1.symm
 subst e1
 rw [EC.out]
 go_wp2
 go_ret2
 exact ⟨rfl,(Below.refl _ _).alloc (Nat.le_refl _) _⟩
set_option maxRecDepth 100000 in
set_option maxHeartbeats 4000000 in
theorem takeC_own (base:Nat) (F:Nat → Prop) (P m:Nat) (me:Int) (K:List Int) (es:List Es) (v:Value) (word:Int) (q:Option Addr) (c:Nat) (clk:List Int) (w:World) (hm:m < 5) (g:RC w base F P me K es v) (hi:CInv me K (es.map toSd)) (hbw:base ≤ w.heap.size) (hv:Vw w q 5 clk) (h1:1 ≤ word) (h2:word ≤ 30) (hc:code clk = 0) (hw:(m:Int) = me) :
  Calls Tryz.prog 105 #[.pointer (some ⟨P,0,none⟩),.agg #[.int .i64 (m:Int),.int .i64 word,.slice q 5 c]] w fun x w' => x = .returned (.tuple #[.slice none 0 0,.int .i64 3]) ∧ Below w.heap.size w w' := by
 have hm0:(0:Int) ≤ (m:Int) := by omega
 have hm4:(m:Int) ≤ 4 := by omega
 have hm5:(m:Int) < 5 := by omega
 obtain ⟨b,off,rfl,hbl,hcs⟩ := hv.2 (by omega)
 obtain ⟨W,eW⟩:∃ W,W = w.alloc (.cells #[.int .i64 (m:Int),.int .i64 word,.slice (some ⟨b,off,none⟩) 5 c] 51) := ⟨_,rfl⟩
 have BW:Hid (Below w.heap.size w W ∧ W.heap.size = w.heap.size + 1) := ⟨by rw [eW]; exact (Below.refl _ _).alloc (Nat.le_refl _) _,by rw [eW]; simp⟩
 have a0:W.cell? ⟨w.heap.size,0,none⟩ = some (.int .i64 (m:Int)) := by rw [eW]; go_cell
 have a1:W.cell? ⟨w.heap.size,1,none⟩ = some (.int .i64 word) := by rw [eW]; go_cell
 have a2:W.cell? ⟨w.heap.size,2,none⟩ = some (.slice (some ⟨b,off,none⟩) 5 c) := by rw [eW]; go_cell
 have GW:Hid (RC W base F P me K es v ∧ CInv me K (es.map toSd) ∧ base ≤ w.heap.size ∧ Vw W (some ⟨b,off,none⟩) 5 clk ∧ code clk = 0 ∧ RC w base F P me K es v) := ⟨g.later BW.out.1,hi,hbw,hv.later BW.out.1,hc,g⟩
 have c0 := GW.out.1.me.1
 have k0 := (GW.out.1.num hm).1
 have t0:W.cell? ⟨b,off + m,none⟩ = some (.int .i64 (clk.getD m 0)) := (BW.out.1.cell (p := ⟨b,off + m,none⟩) hbl).trans (hcs m hm)
 have hy := hi.num m hm
 obtain ⟨x,ex⟩:∃ x,x = clk.getD m 0 := ⟨_,rfl⟩
 obtain ⟨y,ey⟩:∃ y,y = K.getD m 0 := ⟨_,rfl⟩
 rw [← ex] at t0
 rw [← ey] at k0 hy
 have EX:Hid (x = clk.getD m 0 ∧ y = K.getD m 0) := ⟨ex,ey⟩
 have hw':((m:Int) == me) = true := by simp [hw]
 clear hw
 clear g hi hbw hv hcs hbl hc ex ey
 go_enter Tryz.func105,Tryz.ntmps105
 go_wp2_with fail
 rw [← eW]
 refine (refVector (some ⟨b,off,none⟩) 5 c clk W GW.out.2.2.2.1).mono ?_
 rintro e w1 ⟨rfl,e1⟩
 have e1 := e1.symm
 subst e1
 rw [GW.out.2.2.2.2.1]
 clear eW
 go_wp2_with fail
 go_quiet (fail)
 go_wp2
 go_ret2
 exact ⟨rfl,below_drews BW.out.1 _⟩
set_option maxRecDepth 100000 in
set_option maxHeartbeats 4000000 in
theorem takeC_zero (base:Nat) (F:Nat → Prop) (P m:Nat) (me:Int) (K:List Int) (es:List Es) (v:Value) (word:Int) (q:Option Addr) (c:Nat) (clk:List Int) (w:World) (hm:m < 5) (g:RC w base F P me K es v) (hi:CInv me K (es.map toSd)) (hbw:base ≤ w.heap.size) (hv:Vw w q 5 clk) (h1:1 ≤ word) (h2:word ≤ 30) (hc:code clk = 0) (hw:¬ (m:Int) = me) (hz:clk.getD m 0 = 0) :
  Calls Tryz.prog 105 #[.pointer (some ⟨P,0,none⟩),.agg #[.int .i64 (m:Int),.int .i64 word,.slice q 5 c]] w fun x w' => x = .returned (.tuple #[.slice none 0 0,.int .i64 1]) ∧ Below w.heap.size w w' := by
 have hm0:(0:Int) ≤ (m:Int) := by omega
 have hm4:(m:Int) ≤ 4 := by omega
 have hm5:(m:Int) < 5 := by omega
 obtain ⟨b,off,rfl,hbl,hcs⟩ := hv.2 (by omega)
 obtain ⟨W,eW⟩:∃ W,W = w.alloc (.cells #[.int .i64 (m:Int),.int .i64 word,.slice (some ⟨b,off,none⟩) 5 c] 51) := ⟨_,rfl⟩
 have BW:Hid (Below w.heap.size w W ∧ W.heap.size = w.heap.size + 1) := ⟨by rw [eW]; exact (Below.refl _ _).alloc (Nat.le_refl _) _,by rw [eW]; simp⟩
 have a0:W.cell? ⟨w.heap.size,0,none⟩ = some (.int .i64 (m:Int)) := by rw [eW]; go_cell
 have a1:W.cell? ⟨w.heap.size,1,none⟩ = some (.int .i64 word) := by rw [eW]; go_cell
 have a2:W.cell? ⟨w.heap.size,2,none⟩ = some (.slice (some ⟨b,off,none⟩) 5 c) := by rw [eW]; go_cell
 have GW:Hid (RC W base F P me K es v ∧ CInv me K (es.map toSd) ∧ base ≤ w.heap.size ∧ Vw W (some ⟨b,off,none⟩) 5 clk ∧ code clk = 0 ∧ RC w base F P me K es v) := ⟨g.later BW.out.1,hi,hbw,hv.later BW.out.1,hc,g⟩
 have c0 := GW.out.1.me.1
 have k0 := (GW.out.1.num hm).1
 have t0:W.cell? ⟨b,off + m,none⟩ = some (.int .i64 (clk.getD m 0)) := (BW.out.1.cell (p := ⟨b,off + m,none⟩) hbl).trans (hcs m hm)
 have hy := hi.num m hm
 obtain ⟨x,ex⟩:∃ x,x = clk.getD m 0 := ⟨_,rfl⟩
 obtain ⟨y,ey⟩:∃ y,y = K.getD m 0 := ⟨_,rfl⟩
 rw [← ex] at t0
 rw [← ey] at k0 hy
 have EX:Hid (x = clk.getD m 0 ∧ y = K.getD m 0) := ⟨ex,ey⟩
 rw [← ex] at hz
 have hz':(x == 0) = true := by simp [hz]
 clear hz
 have hw':((m:Int) == me) = false := by simp [hw]
 clear hw
 clear g hi hbw hv hcs hbl hc ex ey
 go_enter Tryz.func105,Tryz.ntmps105
 go_wp2_with fail
 rw [← eW]
 refine (refVector (some ⟨b,off,none⟩) 5 c clk W GW.out.2.2.2.1).mono ?_
 rintro e w1 ⟨rfl,e1⟩
 have e1 := e1.symm
 subst e1
 rw [GW.out.2.2.2.2.1]
 clear eW
 go_wp2_with fail
 go_quiet (fail)
 go_wp2
 go_ret2
 exact ⟨rfl,below_drews BW.out.1 _⟩
set_option maxRecDepth 100000 in
set_option maxHeartbeats 4000000 in
theorem takeC_old (base:Nat) (F:Nat → Prop) (P m:Nat) (me:Int) (K:List Int) (es:List Es) (v:Value) (word:Int) (q:Option Addr) (c:Nat) (clk:List Int) (w:World) (hm:m < 5) (g:RC w base F P me K es v) (hi:CInv me K (es.map toSd)) (hbw:base ≤ w.heap.size) (hv:Vw w q 5 clk) (h1:1 ≤ word) (h2:word ≤ 30) (hc:code clk = 0) (hw:¬ (m:Int) = me) (hz:¬ clk.getD m 0 = 0) (ho:clk.getD m 0 ≤ K.getD m 0) :
  Calls Tryz.prog 105 #[.pointer (some ⟨P,0,none⟩),.agg #[.int .i64 (m:Int),.int .i64 word,.slice q 5 c]] w fun x w' => x = .returned (.tuple #[.slice none 0 0,.int .i64 7]) ∧ Below w.heap.size w w' := by
 have hm0:(0:Int) ≤ (m:Int) := by omega
 have hm4:(m:Int) ≤ 4 := by omega
 have hm5:(m:Int) < 5 := by omega
 obtain ⟨b,off,rfl,hbl,hcs⟩ := hv.2 (by omega)
 obtain ⟨W,eW⟩:∃ W,W = w.alloc (.cells #[.int .i64 (m:Int),.int .i64 word,.slice (some ⟨b,off,none⟩) 5 c] 51) := ⟨_,rfl⟩
 have BW:Hid (Below w.heap.size w W ∧ W.heap.size = w.heap.size + 1) := ⟨by rw [eW]; exact (Below.refl _ _).alloc (Nat.le_refl _) _,by rw [eW]; simp⟩
 have a0:W.cell? ⟨w.heap.size,0,none⟩ = some (.int .i64 (m:Int)) := by rw [eW]; go_cell
 have a1:W.cell? ⟨w.heap.size,1,none⟩ = some (.int .i64 word) := by rw [eW]; go_cell
 have a2:W.cell? ⟨w.heap.size,2,none⟩ = some (.slice (some ⟨b,off,none⟩) 5 c) := by rw [eW]; go_cell
 have GW:Hid (RC W base F P me K es v ∧ CInv me K (es.map toSd) ∧ base ≤ w.heap.size ∧ Vw W (some ⟨b,off,none⟩) 5 clk ∧ code clk = 0 ∧ RC w base F P me K es v) := ⟨g.later BW.out.1,hi,hbw,hv.later BW.out.1,hc,g⟩
 have c0 := GW.out.1.me.1
 have k0 := (GW.out.1.num hm).1
 have t0:W.cell? ⟨b,off + m,none⟩ = some (.int .i64 (clk.getD m 0)) := (BW.out.1.cell (p := ⟨b,off + m,none⟩) hbl).trans (hcs m hm)
 have hy := hi.num m hm
 obtain ⟨x,ex⟩:∃ x,x = clk.getD m 0 := ⟨_,rfl⟩
 obtain ⟨y,ey⟩:∃ y,y = K.getD m 0 := ⟨_,rfl⟩
 rw [← ex] at t0
 rw [← ey] at k0 hy
 have EX:Hid (x = clk.getD m 0 ∧ y = K.getD m 0) := ⟨ex,ey⟩
 rw [← ex] at hz ho
 rw [← ey] at ho
 have hz':(x == 0) = false := by simp [hz]
 clear hz
 have hw':((m:Int) == me) = false := by simp [hw]
 clear hw
 clear g hi hbw hv hcs hbl hc ex ey
 go_enter Tryz.func105,Tryz.ntmps105
 go_wp2_with fail
 rw [← eW]
 refine (refVector (some ⟨b,off,none⟩) 5 c clk W GW.out.2.2.2.1).mono ?_
 rintro e w1 ⟨rfl,e1⟩
 have e1 := e1.symm
 subst e1
 rw [GW.out.2.2.2.2.1]
 clear eW
 go_wp2_with fail
 go_quiet (fail)
 go_wp2_with fail
 go_quiet (fail)
 go_wp2
 go_ret2
 exact ⟨rfl,below_drews (below_drews BW.out.1 _) _⟩
set_option maxRecDepth 100000 in
set_option maxHeartbeats 4000000 in
theorem takeC_clash (base:Nat) (F:Nat → Prop) (P m:Nat) (me:Int) (K:List Int) (es:List Es) (v:Value) (word:Int) (q:Option Addr) (c:Nat) (clk:List Int) (w:World) (hm:m < 5) (g:RC w base F P me K es v) (hi:CInv me K (es.map toSd)) (hbw:base ≤ w.heap.size) (hv:Vw w q 5 clk) (h1:1 ≤ word) (h2:word ≤ 30) (hc:code clk = 0) (hw:¬ (m:Int) = me) (hz:¬ clk.getD m 0 = 0) (ho:¬ clk.getD m 0 ≤ K.getD m 0) (ha:(es.map toSd).any (same ((m:Int),word,clk)) = true) :
  Calls Tryz.prog 105 #[.pointer (some ⟨P,0,none⟩),.agg #[.int .i64 (m:Int),.int .i64 word,.slice q 5 c]] w fun x w' => x = .returned (.tuple #[.slice none 0 0,.int .i64 7]) ∧ Below w.heap.size w w' := by
 have hm0:(0:Int) ≤ (m:Int) := by omega
 have hm4:(m:Int) ≤ 4 := by omega
 have hm5:(m:Int) < 5 := by omega
 obtain ⟨b,off,rfl,hbl,hcs⟩ := hv.2 (by omega)
 obtain ⟨W,eW⟩:∃ W,W = w.alloc (.cells #[.int .i64 (m:Int),.int .i64 word,.slice (some ⟨b,off,none⟩) 5 c] 51) := ⟨_,rfl⟩
 have BW:Hid (Below w.heap.size w W ∧ W.heap.size = w.heap.size + 1) := ⟨by rw [eW]; exact (Below.refl _ _).alloc (Nat.le_refl _) _,by rw [eW]; simp⟩
 have a0:W.cell? ⟨w.heap.size,0,none⟩ = some (.int .i64 (m:Int)) := by rw [eW]; go_cell
 have a1:W.cell? ⟨w.heap.size,1,none⟩ = some (.int .i64 word) := by rw [eW]; go_cell
 have a2:W.cell? ⟨w.heap.size,2,none⟩ = some (.slice (some ⟨b,off,none⟩) 5 c) := by rw [eW]; go_cell
 have GW:Hid (RC W base F P me K es v ∧ CInv me K (es.map toSd) ∧ base ≤ w.heap.size ∧ Vw W (some ⟨b,off,none⟩) 5 clk ∧ code clk = 0 ∧ RC w base F P me K es v) := ⟨g.later BW.out.1,hi,hbw,hv.later BW.out.1,hc,g⟩
 have c0 := GW.out.1.me.1
 have k0 := (GW.out.1.num hm).1
 have t0:W.cell? ⟨b,off + m,none⟩ = some (.int .i64 (clk.getD m 0)) := (BW.out.1.cell (p := ⟨b,off + m,none⟩) hbl).trans (hcs m hm)
 have hy := hi.num m hm
 obtain ⟨x,ex⟩:∃ x,x = clk.getD m 0 := ⟨_,rfl⟩
 obtain ⟨y,ey⟩:∃ y,y = K.getD m 0 := ⟨_,rfl⟩
 rw [← ex] at t0
 rw [← ey] at k0 hy
 have EX:Hid (x = clk.getD m 0 ∧ y = K.getD m 0) := ⟨ex,ey⟩
 rw [← ex] at hz ho
 rw [← ey] at ho
 have hz':(x == 0) = false := by simp [hz]
 have ho':y < x := by omega
 clear hz ho
 obtain ⟨qw,cw,rfl,hlc,hcm,hform⟩ := GW.out.1.form
 have c6 := GW.out.1.wait.1
 have hln := hi.len
 obtain ⟨ln,eln⟩:∃ ln,ln = es.length := ⟨_,rfl⟩
 rw [← eln] at c6 hlc hform
 rw [List.length_map,← eln] at hln
 have LN:Hid (es.length = ln) := eln.symm
 have FM:Hid (0 < ln → ∃ g,qw = some ⟨g,0,none⟩ ∧ base ≤ g ∧ g < W.heap.size ∧ ∀ j u,(flatE es)[j]? = some u → W.cell? ⟨g,j,none⟩ = some u) := hform
 have CM:Hid (cw ≤ maxLen) := hcm
 clear hform eln hcm
 have HA:Hid ((es.map toSd).any (same ((m:Int),word,clk)) = true) := ha
 clear ha
 have hw':((m:Int) == me) = false := by simp [hw]
 clear hw
 clear g hi hbw hv hcs hbl hc ex ey
 go_enter Tryz.func105,Tryz.ntmps105
 go_wp2_with fail
 rw [← eW]
 refine (refVector (some ⟨b,off,none⟩) 5 c clk W GW.out.2.2.2.1).mono ?_
 rintro e w1 ⟨rfl,e1⟩
 have e1 := e1.symm
 subst e1
 rw [GW.out.2.2.2.2.1]
 clear eW
 go_wp2_with fail
 go_quiet (fail)
 go_wp2_with fail
 go_quiet (fail)
 go_wp2
 go_loopw [7] (fun x wr => ∃ i:Nat,i ≤ ln ∧ x = .int .i64 (i:Int) ∧ (∃ n,wr = W.drewN n) ∧ Hid (∀ j,j < i → same ((m:Int),word,clk) (sd (es.map toSd) j) = false)) (fun x _ => ln - (intOf x).toNat)
 case atStart => exact ⟨0,by omega,rfl,⟨_,by first | rfl | exact World.drewN_drewN _ _ _⟩,fun j hj => absurd hj (by omega)⟩
 case round =>
  obtain ⟨i,hi,rfl,⟨n,rfl⟩,hsc⟩ := hrel
  by_cases hlt:i < ln
  ·obtain ⟨gb,rfl,hbg,hgw,hcs⟩ := FM.out (by omega)
   have hil':i < es.length := by rw [LN.out]; exact hlt
   obtain ⟨x0,x1,x2⟩ := c3_of hcs hil'
   obtain ⟨bi,oi,eqi,hbi,-,hci⟩ := GW.out.1.old (eg es i) (by rw [eg_get hil']; exact List.getElem_mem _)
   have u0 := hci m hm
   have es1 := sd_eg hil'
   obtain ⟨ee,hE⟩:∃ ee,eg es i = ee := ⟨_,rfl⟩
   rw [hE] at x0 x1 x2 u0 eqi es1
   obtain ⟨e1,e2,e3,e4,e5⟩ := ee
   simp only at x0 x1 x2 u0 eqi
   rw [eqi] at x2
   obtain ⟨z,ez⟩:∃ z,z = e5.getD m 0 := ⟨_,rfl⟩
   rw [← ez] at u0
   have ES:Hid (sd (es.map toSd) i = (e1,e2,e5) ∧ z = e5.getD m 0) := ⟨es1,ez⟩
   have hi0:(0:Int) ≤ (i:Int) := by omega
   have hil:(i:Int) < (ln:Int) := by omega
   clear hcs hbg hgw hci es1 ez hE eqi hbi hil'
   by_cases g1:e1 = (m:Int)
   ·have g1':(e1 == (m:Int)) = true := by simp [g1]
    by_cases g2:z = x
    ·have g2':(z == x) = true := by simp [g2]
     go_wp2_with fail
     go_quiet (fail)
     go_wp2
     go_ret2
     exact ⟨rfl,below_drews (below_drews BW.out.1 _) _⟩
    ·have g2':(z == x) = false := by simp [g2]
     have KN:Hid (same ((m:Int),word,clk) (sd (es.map toSd) i) = false) := by
      show _ = _
      rw [ES.out.1]
      show (decide (e1 = (m:Int)) && decide (e5.getD ((m:Int)).toNat 0 = clk.getD ((m:Int)).toNat 0)) = false
      rw [Int.toNat_natCast,← ES.out.2,← EX.out.1]
      simp [g2]
     go_wp2_with fail
     go_quiet (fail)
     go_wp2
     go_roundw
     case rel => exact ⟨i + 1,by omega,by go_num,⟨_,rfl⟩,any_step hsc.out KN.out⟩
     case measure => simp [intOf]; omega
   ·have g1':(e1 == (m:Int)) = false := by simp [g1]
    have KN:Hid (same ((m:Int),word,clk) (sd (es.map toSd) i) = false) := by
     show _ = _
     rw [ES.out.1]
     simp [same,g1]
    go_wp2_with fail
    go_quiet (fail)
    go_wp2
    go_roundw
    case rel => exact ⟨i + 1,by omega,by go_num,⟨_,rfl⟩,any_step hsc.out KN.out⟩
    case measure => simp [intOf]; omega
  ·have hil:i = ln := by omega
   subst hil
   exfalso
   have := any_no (ws := es.map toSd) (s := ((m:Int),word,clk)) (by rw [List.length_map,LN.out]; exact hsc.out)
   rw [HA.out] at this
   cases this
set_option maxRecDepth 100000 in
set_option maxHeartbeats 4000000 in
theorem takeC_full (base:Nat) (F:Nat → Prop) (P m:Nat) (me:Int) (K:List Int) (es:List Es) (v:Value) (word:Int) (q:Option Addr) (c:Nat) (clk:List Int) (w:World) (hm:m < 5) (g:RC w base F P me K es v) (hi:CInv me K (es.map toSd)) (hbw:base ≤ w.heap.size) (hv:Vw w q 5 clk) (h1:1 ≤ word) (h2:word ≤ 30) (hc:code clk = 0) (hw:¬ (m:Int) = me) (hz:¬ clk.getD m 0 = 0) (ho:¬ clk.getD m 0 ≤ K.getD m 0) (ha:(es.map toSd).any (same ((m:Int),word,clk)) = false) (hr:rdy K ((m:Int),word,clk) = false) (h40:40 ≤ es.length) :
  Calls Tryz.prog 105 #[.pointer (some ⟨P,0,none⟩),.agg #[.int .i64 (m:Int),.int .i64 word,.slice q 5 c]] w fun x w' => x = .returned (.tuple #[.slice none 0 0,.int .i64 4]) ∧ Below w.heap.size w w' := by
 have hm0:(0:Int) ≤ (m:Int) := by omega
 have hm4:(m:Int) ≤ 4 := by omega
 have hm5:(m:Int) < 5 := by omega
 obtain ⟨b,off,rfl,hbl,hcs⟩ := hv.2 (by omega)
 obtain ⟨W,eW⟩:∃ W,W = w.alloc (.cells #[.int .i64 (m:Int),.int .i64 word,.slice (some ⟨b,off,none⟩) 5 c] 51) := ⟨_,rfl⟩
 have BW:Hid (Below w.heap.size w W ∧ W.heap.size = w.heap.size + 1) := ⟨by rw [eW]; exact (Below.refl _ _).alloc (Nat.le_refl _) _,by rw [eW]; simp⟩
 have a0:W.cell? ⟨w.heap.size,0,none⟩ = some (.int .i64 (m:Int)) := by rw [eW]; go_cell
 have a1:W.cell? ⟨w.heap.size,1,none⟩ = some (.int .i64 word) := by rw [eW]; go_cell
 have a2:W.cell? ⟨w.heap.size,2,none⟩ = some (.slice (some ⟨b,off,none⟩) 5 c) := by rw [eW]; go_cell
 have GW:Hid (RC W base F P me K es v ∧ CInv me K (es.map toSd) ∧ base ≤ w.heap.size ∧ Vw W (some ⟨b,off,none⟩) 5 clk ∧ code clk = 0 ∧ RC w base F P me K es v) := ⟨g.later BW.out.1,hi,hbw,hv.later BW.out.1,hc,g⟩
 have c0 := GW.out.1.me.1
 have k0 := (GW.out.1.num hm).1
 have t0:W.cell? ⟨b,off + m,none⟩ = some (.int .i64 (clk.getD m 0)) := (BW.out.1.cell (p := ⟨b,off + m,none⟩) hbl).trans (hcs m hm)
 have hy := hi.num m hm
 obtain ⟨x,ex⟩:∃ x,x = clk.getD m 0 := ⟨_,rfl⟩
 obtain ⟨y,ey⟩:∃ y,y = K.getD m 0 := ⟨_,rfl⟩
 rw [← ex] at t0
 rw [← ey] at k0 hy
 have EX:Hid (x = clk.getD m 0 ∧ y = K.getD m 0) := ⟨ex,ey⟩
 rw [← ex] at hz ho
 rw [← ey] at ho
 have hz':(x == 0) = false := by simp [hz]
 have ho':y < x := by omega
 clear hz ho
 obtain ⟨qw,cw,rfl,hlc,hcm,hform⟩ := GW.out.1.form
 have c6 := GW.out.1.wait.1
 have hln := hi.len
 obtain ⟨ln,eln⟩:∃ ln,ln = es.length := ⟨_,rfl⟩
 rw [← eln] at c6 hlc hform
 rw [List.length_map,← eln] at hln
 have LN:Hid (es.length = ln) := eln.symm
 have FM:Hid (0 < ln → ∃ g,qw = some ⟨g,0,none⟩ ∧ base ≤ g ∧ g < W.heap.size ∧ ∀ j u,(flatE es)[j]? = some u → W.cell? ⟨g,j,none⟩ = some u) := hform
 have CM:Hid (cw ≤ maxLen) := hcm
 clear hform eln hcm
 rw [LN.out] at h40
 have NA:Hid ((es.map toSd).any (same ((m:Int),word,clk)) = false) := ha
 have RD:Hid (rdy K ((m:Int),word,clk) = false) := hr
 clear ha hr
 have hw':((m:Int) == me) = false := by simp [hw]
 clear hw
 clear g hi hbw hv hcs hbl hc ex ey
 go_enter Tryz.func105,Tryz.ntmps105
 go_wp2_with fail
 rw [← eW]
 refine (refVector (some ⟨b,off,none⟩) 5 c clk W GW.out.2.2.2.1).mono ?_
 rintro e w1 ⟨rfl,e1⟩
 have e1 := e1.symm
 subst e1
 rw [GW.out.2.2.2.2.1]
 clear eW
 go_wp2_with fail
 go_quiet (fail)
 go_wp2_with fail
 go_quiet (fail)
 go_wp2
 go_loopw [7] (fun x wr => ∃ i:Nat,i ≤ ln ∧ x = .int .i64 (i:Int) ∧ (∃ n,wr = W.drewN n) ∧ Hid (∀ j,j < i → same ((m:Int),word,clk) (sd (es.map toSd) j) = false)) (fun x _ => ln - (intOf x).toNat)
 case atStart => exact ⟨0,by omega,rfl,⟨_,by first | rfl | exact World.drewN_drewN _ _ _⟩,fun j hj => absurd hj (by omega)⟩
 case round =>
  obtain ⟨i,hi,rfl,⟨n,rfl⟩,hsc⟩ := hrel
  by_cases hlt:i < ln
  ·obtain ⟨gb,rfl,hbg,hgw,hcs⟩ := FM.out (by omega)
   have hil':i < es.length := by rw [LN.out]; exact hlt
   obtain ⟨x0,x1,x2⟩ := c3_of hcs hil'
   obtain ⟨bi,oi,eqi,hbi,-,hci⟩ := GW.out.1.old (eg es i) (by rw [eg_get hil']; exact List.getElem_mem _)
   have u0 := hci m hm
   have es1 := sd_eg hil'
   obtain ⟨ee,hE⟩:∃ ee,eg es i = ee := ⟨_,rfl⟩
   rw [hE] at x0 x1 x2 u0 eqi es1
   obtain ⟨e1,e2,e3,e4,e5⟩ := ee
   simp only at x0 x1 x2 u0 eqi
   rw [eqi] at x2
   obtain ⟨z,ez⟩:∃ z,z = e5.getD m 0 := ⟨_,rfl⟩
   rw [← ez] at u0
   have ES:Hid (sd (es.map toSd) i = (e1,e2,e5) ∧ z = e5.getD m 0) := ⟨es1,ez⟩
   have hi0:(0:Int) ≤ (i:Int) := by omega
   have hil:(i:Int) < (ln:Int) := by omega
   clear hcs hbg hgw hci es1 ez hE eqi hbi hil'
   by_cases g1:e1 = (m:Int)
   ·have g1':(e1 == (m:Int)) = true := by simp [g1]
    by_cases g2:z = x
    ·have g2':(z == x) = true := by simp [g2]
     exfalso
     have hil2:i < (es.map toSd).length := by rw [List.length_map,LN.out]; exact hlt
     have hs:same ((m:Int),word,clk) (sd (es.map toSd) i) = true := by
      rw [ES.out.1]
      show (decide (e1 = (m:Int)) && decide (e5.getD ((m:Int)).toNat 0 = clk.getD ((m:Int)).toNat 0)) = true
      rw [Int.toNat_natCast,← ES.out.2,← EX.out.1]
      simp [g1,g2]
     have := NA.out
     rw [List.any_eq_false] at this
     exact this _ (by rw [show sd (es.map toSd) i = (es.map toSd)[i] by simp only [sd,List.getD,List.getElem?_eq_getElem hil2,Option.getD_some]] at hs ⊢; exact List.getElem_mem _) hs
    ·have g2':(z == x) = false := by simp [g2]
     have KN:Hid (same ((m:Int),word,clk) (sd (es.map toSd) i) = false) := by
      show _ = _
      rw [ES.out.1]
      show (decide (e1 = (m:Int)) && decide (e5.getD ((m:Int)).toNat 0 = clk.getD ((m:Int)).toNat 0)) = false
      rw [Int.toNat_natCast,← ES.out.2,← EX.out.1]
      simp [g2]
     go_wp2_with fail
     go_quiet (fail)
     go_wp2
     go_roundw
     case rel => exact ⟨i + 1,by omega,by go_num,⟨_,rfl⟩,any_step hsc.out KN.out⟩
     case measure => simp [intOf]; omega
   ·have g1':(e1 == (m:Int)) = false := by simp [g1]
    have KN:Hid (same ((m:Int),word,clk) (sd (es.map toSd) i) = false) := by
     show _ = _
     rw [ES.out.1]
     simp [same,g1]
    go_wp2_with fail
    go_quiet (fail)
    go_wp2
    go_roundw
    case rel => exact ⟨i + 1,by omega,by go_num,⟨_,rfl⟩,any_step hsc.out KN.out⟩
    case measure => simp [intOf]; omega
  ·have hil:i = ln := by omega
   subst hil
   go_wp2_with fail
   refine (ready_any P K (m:Int) word (some ⟨b,off,none⟩) c clk _ (by exact World.rowIs.lt GW.out.1.row) (by exact k5_heap GW.out.1.k5 rfl) GW.out.2.1.num (by exact vw_heap GW.out.2.2.2.1 rfl)).mono ?_
   rintro e w2 ⟨rfl,hb⟩
   rw [RD.out]
   have B2:Hid (Below W.heap.size W w2) := below_same hb rfl rfl rfl rfl
   clear hb
   have c6':w2.cell? ⟨P,6,none⟩ = some (.slice qw i cw) := (B2.out.cell (p := ⟨P,6,none⟩) (World.rowIs.lt GW.out.1.row)).trans c6
   have h40':(40:Int) ≤ (i:Int) := by omega
   clear c6
   go_wp2
   go_ret2
   exact ⟨rfl,BW.out.1.trans (B2.out.mono (by have := BW.out.2; omega))⟩
end Go.Proofs.YtdmniblonikjlakGreatDoor.Cau
