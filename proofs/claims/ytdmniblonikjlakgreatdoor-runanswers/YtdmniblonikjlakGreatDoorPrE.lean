/-
  Texts put together: CapU, CapV, CauP.
-/
import Derived.Test.YtdmniblonikjlakGreatDoorPrC
import Derived.Test.YtdmniblonikjlakGreatDoorPrD


namespace Go.Proofs.YtdmniblonikjlakGreatDoor.Cap
open Go.RowKit Go.Maps
open Cau
open Vec (code Vw anyP ret_bool)
open Fif (own_lt own_block own_mono own_vw own_form Kp info_int)
set_option linter.unusedVariables false
variable {base P mb:Nat} {K:List Int} {cn:Int} {es:List En}
theorem retS {fn:Func} {tmps:Array Value} {w:World} {p u:Tmp} {B:Nat} {v0 v1 v2 x:Value} (h:fn.results = #[.cell p 51,.tmp u]) (hp:tmps.getD p undef = .pointer (some ⟨B,0,none⟩)) (hu:tmps.getD u undef = x)
  (y0:w.cell? ⟨B,0,none⟩ = some v0) (y1:w.cell? ⟨B,1,none⟩ = some v1) (y2:w.cell? ⟨B,2,none⟩ = some v2):(results fn tmps).run Tryz.prog w = .ok (.tuple #[.agg #[v0,v1,v2],x]) w := by
 rw [results_cell_tmp h,hp,hu]
 simp [asAddr,go_sem,y0,y1,y2]
theorem keep_cells {w:World} {B P o:Nat} {u:Value} (hne:B ≠ P) {v0 v1 v2:Value} (h:w.cell? ⟨P,o,none⟩ = some u):(((w.setCell ⟨B,0,none⟩ v0).setCell ⟨B,1,none⟩ v1).setCell ⟨B,2,none⟩ v2).cell? ⟨P,o,none⟩ = some u := by
 rw [World.cell?_setCell_other _ _ _ _ (fun e => hne (congrArg Addr.block e)),World.cell?_setCell_other _ _ _ _ (fun e => hne (congrArg Addr.block e)),World.cell?_setCell_other _ _ _ _ (fun e => hne (congrArg Addr.block e))]
 exact h
theorem below_same0 {w w1 w2:World} (h:Below w1.heap.size w1 w2) (e:w1.heap = w.heap) (e1:w1.os = w.os) (e2:w1.tape = w.tape) (e3:w1.output = w.output):Below w.heap.size w w2 := by
 rw [e] at h
 exact ⟨h.os.trans e1,h.tape.trans e2,h.output.trans e3,by have := h.size; rw [e] at this; exact this,fun k hk => by rw [h.block k hk,e]⟩
theorem set3 {B:Nat} {a w:World} (h:Below B a w) {b:Nat} (hb:B ≤ b) (v0 v1 v2:Value):Below B a (((w.setCell ⟨b,0,none⟩ v0).setCell ⟨b,1,none⟩ v1).setCell ⟨b,2,none⟩ v2) := ((h.setCell (p := ⟨b,0,none⟩) hb _).setCell (p := ⟨b,1,none⟩) hb _).setCell (p := ⟨b,2,none⟩) hb _
set_option maxRecDepth 100000 in
theorem say_bad (P:Nat) (word:Int) (w:World) (hb:word < 1 ∨ 30 < word) :
  Calls Tryz.prog 32 #[.pointer (some ⟨P,0,none⟩),.int .i64 word] w fun x w' => x = .returned (.tuple #[.agg #[.int .i64 0,.int .i64 0,.slice none 0 0],.iface 70 (.int .i64 1)]) ∧ Below w.heap.size w w' := by
 go_enter Tryz.func32,Tryz.ntmps32
 go_wp2_with fail
 refine (word_no word _ hb).mono ?_
 rintro e w1 ⟨rfl,rfl⟩
 go_wp2
 refine bodyPost_ret (v := .tuple #[.agg #[.int .i64 0,.int .i64 0,.slice none 0 0],.iface 70 (.int .i64 1)]) (retS (B := w.heap.size) rfl rfl rfl (by go_cell) (by go_cell) (by go_cell)) rfl ?_
 exact ⟨rfl,(Below.refl _ _).alloc (Nat.le_refl _) _⟩
set_option maxRecDepth 100000 in
theorem say_full (m:Nat) (word:Int) (w:World) (hm:m < 5) (g:CF w base P mb (m:Int) K cn es) (h1:1 ≤ word) (h2:word ≤ 30) (hf:K.getD m 0 = 1000000) :
  Calls Tryz.prog 32 #[.pointer (some ⟨P,0,none⟩),.int .i64 word] w fun x w' => x = .returned (.tuple #[.agg #[.int .i64 0,.int .i64 0,.slice none 0 0],.iface 70 (.int .i64 4)]) ∧ Below w.heap.size w w' := by
 have hP := g.lt.1
 obtain ⟨c0,z0⟩ := g.who
 obtain ⟨c1,z1⟩ := g.clock hm
 rw [hf] at c1
 have hm0:(0:Int) ≤ (m:Int) := by omega
 have hm5:(m:Int) < 5 := by omega
 clear g
 go_enter Tryz.func32,Tryz.ntmps32
 go_wp2_with fail
 refine (word_yes word _ h1 h2).mono ?_
 rintro e w1 ⟨rfl,rfl⟩
 go_wp2_with fail
 go_quiet (fail)
 go_wp2
 refine bodyPost_ret (v := .tuple #[.agg #[.int .i64 0,.int .i64 0,.slice none 0 0],.iface 70 (.int .i64 4)]) (retS (B := w.heap.size) rfl rfl rfl (by go_cell) (by go_cell) (by go_cell)) rfl ?_
 exact ⟨rfl,set3 (below_drews ((Below.refl _ _).alloc (Nat.le_refl _) _) _) (Nat.le_refl _) _ _ _⟩
set_option maxRecDepth 100000 in
set_option maxHeartbeats 1000000 in
theorem say_ok (m:Nat) (word:Int) (w:World) (hm:m < 5) (g:CF w base P mb (m:Int) K cn es) (hbw:base ≤ w.heap.size) (hn:K.getD m 0 < 1000000) (h1:1 ≤ word) (h2:word ≤ 30) :
  Calls Tryz.prog 32 #[.pointer (some ⟨P,0,none⟩),.int .i64 word] w fun x w' => ∃ vc,x = .returned (.tuple #[.agg #[.int .i64 (m:Int),.int .i64 word,vc],.nilIface]) ∧
   CF w' base P mb (m:Int) (inc K (m:Int)) cn es ∧ w'.ownsRow w.heap.size 3 1 vc 5 ((inc K (m:Int)).map (Value.int .i64)) ∧ Below base w w' ∧ Kp w w' P none := by
 have hP := g.lt.1
 have HG:Hid (CF w base P mb (m:Int) K cn es ∧ base ≤ w.heap.size) := ⟨g,hbw⟩
 obtain ⟨y,ey⟩:∃ y,y = K.getD m 0 := ⟨_,rfl⟩
 have hn0 := (g.num m hm).1
 rw [← ey] at hn hn0
 have EY:Hid (y = K.getD m 0) := ey
 have hy:(y == 1000000) = false := by simp; omega
 have hm0:(0:Int) ≤ (m:Int) := by omega
 have hm5:(m:Int) < 5 := by omega
 obtain ⟨W,eW⟩:∃ W,W = w.alloc (.cells #[.int .i64 0,.int .i64 0,.slice none 0 0] 51) := ⟨_,rfl⟩
 clear g hbw ey
 go_enter Tryz.func32,Tryz.ntmps32
 go_wp2_with fail
 refine (word_yes word _ h1 h2).mono ?_
 rintro e w1 ⟨rfl,rfl⟩
 rw [← eW]
 have BW:Hid (Below w.heap.size w W ∧ W.heap.size = w.heap.size + 1) := ⟨by rw [eW]; exact (Below.refl _ _).alloc (Nat.le_refl _) _,by rw [eW]; simp⟩
 have RW:Hid (W.rowIs w.heap.size 51 3 (fun j => if j = 2 then .slice none 0 0 else .int .i64 0)) := by
  rw [eW]
  exact World.rowIs_alloc w _ 51 _ (fun i hi => by rcases i with _ | _ | _ | i <;> first | rfl | (exfalso; have:_ < 3 := hi; omega))
 have GW:Hid (CF W base P mb (m:Int) K cn es) := HG.out.1.later BW.out.1
 have c0 := GW.out.who.1
 have c1 := (GW.out.clock hm).1
 have z1 := (GW.out.clock hm).2
 rw [← EY.out] at c1
 clear eW
 go_wp2_with fail
 go_quiet (fail)
 go_wp2_with fail
 go_region
 obtain ⟨W2,eW2⟩:∃ W2,W2 = (W.drewN (nq + 1)).setCell ⟨P,1 + m,none⟩ (.int .i64 (y + 1)) := ⟨_,rfl⟩
 rw [← eW2]
 have R2:Hid (CF W2 base P mb (m:Int) (inc K (m:Int)) cn es ∧ W2.rowIs w.heap.size 51 3 (fun j => if j = 2 then .slice none 0 0 else .int .i64 0) ∧ Below base w W2 ∧ Kp w W2 P none ∧ w.heap.size < W2.heap.size) := by
  have gd:CF (W.drewN (nq + 1)) base P mb (m:Int) K cn es := GW.out.later (below_drews (Below.refl _ _) _)
  have gi := gd.incK hm (by rw [← EY.out]; exact hn)
  rw [← EY.out] at gi
  have hne:w.heap.size ≠ P := by omega
  rw [eW2]
  refine ⟨gi,(RW.out.of_block rfl:(W.drewN (nq + 1)).rowIs _ _ _ _).setOther (a := ⟨P,1 + m,none⟩) hne _,((below_drews (BW.out.1.mono HG.out.2) _).setCell (p := ⟨P,1 + m,none⟩) HG.out.1.low.1 _),(Kp.below (below_drews BW.out.1 _) none).trans (Kp.setCell _ P (1 + m) _ none) (by simp),?_⟩
  simp [World.setCell]
  have := BW.out.2
  show w.heap.size < W.heap.size
  omega
 have k2 := R2.out.1.who.1
 have P2:Hid (P < W2.heap.size) := R2.out.1.lt.1
 have HNE:Hid (w.heap.size ≠ P) := (by show _ ≠ _; omega)
 clear eW2 c0 c1 z1 RW GW
 go_wp2_with fail
 go_region_held3 (fun w' => w'.cell? ⟨P,0,none⟩ = some (.int .i64 (m:Int))) (first | exact k9 | exact k2 | exact keep_cells HNE.out k9 | go_keep) (first
  | (go_at_call 79; refine (clock_any (base := base) (mb := mb) (me := (m:Int)) (K := inc K (m:Int)) (cn := cn) (es := es) (by exact R2.out.1.of_blocks fun _ _ => rfl)).mono ?_; rintro e w9 ⟨vc,rfl,hO,hB⟩; obtain ⟨qc,cc,rfl⟩ := own_form hO; have B9:Hid (Below W2.heap.size W2 w9 ∧ w9.ownsRow W2.heap.size 3 1 (.slice qc 5 cc) 5 ((inc K (m:Int)).map (Value.int .i64))) := ⟨below_same0 hB rfl rfl rfl rfl,hO⟩; have k9 := (B9.out.1.cell (p := ⟨P,0,none⟩) P2.out).trans k2; have r9 := World.rowIs.of_block R2.out.2.1 (B9.out.1.block _ R2.out.2.2.2.2); have y0 := World.rowIs.cell r9 (i := 0) (by omega); have y1 := World.rowIs.cell r9 (i := 1) (by omega); have y2 := World.rowIs.cell r9 (i := 2) (by omega); have f0 := World.rowIs.frozen r9 0; have f1 := World.rowIs.frozen r9 1; have f2 := World.rowIs.frozen r9 2; have R9:Hid (w9.rowIs w.heap.size 51 3 (fun j => if j = 2 then .slice none 0 0 else .int .i64 0)) := r9; clear hO hB r9))
 go_wp2
 have r3 := ((World.rowIs.set R9.out 0 (.int .i64 (m:Int))).set 1 (.int .i64 word)).set 2 (.slice qc 5 cc)
 have u0 := r3.cell (i := 0) (by omega)
 have u1 := r3.cell (i := 1) (by omega)
 have u2 := r3.cell (i := 2) (by omega)
 simp at u0 u1 u2
 refine bodyPost_ret (v := .tuple #[.agg #[.int .i64 (m:Int),.int .i64 word,.slice qc 5 cc],.nilIface]) (retS (B := w.heap.size) rfl rfl rfl u0 u1 u2) rfl ?_
 have g9 := R2.out.1.later B9.out.1
 have hbb:base ≤ w.heap.size := HG.out.2
 have b9:Below base w w9 := R2.out.2.2.1.trans (B9.out.1.mono (Nat.le_trans hbb (Nat.le_of_lt R2.out.2.2.2.2)))
 have bl:∀ k,k ≠ w.heap.size → (((w9.setCell ⟨w.heap.size,0,none⟩ (.int .i64 (m:Int))).setCell ⟨w.heap.size,1,none⟩ (.int .i64 word)).setCell ⟨w.heap.size,2,none⟩ (.slice qc 5 cc)).heap[k]? = w9.heap[k]? := by
  intro k hk
  rw [Deep.blk_setCell_other _ _ _ _ hk,Deep.blk_setCell_other _ _ _ _ hk,Deep.blk_setCell_other _ _ _ _ hk]
 refine ⟨_,rfl,g9.of_blocks (fun k hk => bl k (Nat.ne_of_lt (HG.out.1.fp k hk).2)),own_mono (own_block B9.out.2 (fun k hk => bl k (by have := (own_lt B9.out.2 k hk).1; have := R2.out.2.2.2.2; omega))) (Nat.le_of_lt R2.out.2.2.2.2),set3 b9 hbb _ _ _,⟨?_,fun b hb hP' hr => ?_⟩⟩
 ·exact (set3 b9 hbb (.int .i64 (m:Int)) (.int .i64 word) (.slice qc 5 cc)).size
 ·rw [bl b (by omega),B9.out.1.block b (by have := R2.out.2.2.2.2; omega)]
  exact R2.out.2.2.2.1.2 b hb hP' hr
end Go.Proofs.YtdmniblonikjlakGreatDoor.Cap


namespace Go.Proofs.YtdmniblonikjlakGreatDoor.Cap
open Go.RowKit Go.Maps
open Cau
open Vec (code Vw anyP ret_bool)
open Fif (own_lt own_block own_mono own_vw own_form Kp info_int)
set_option linter.unusedVariables false
variable {base P mb:Nat} {me:Int} {K:List Int} {cn:Int} {es:List En}
set_option maxRecDepth 100000 in
theorem take_no (who word:Int) (q:Option Addr) (len cap:Nat) (clk:List Int) (w:World) (g:CF w base P mb me K cn es) (hv:Vw w q len clk) (hc:ckC me K (es.map En.s) (who,word,clk) ≠ 0) :
  Calls Tryz.prog 36 #[.pointer (some ⟨P,0,none⟩),.agg #[.int .i64 who,.int .i64 word,.slice q len cap]] w fun x w' => x = .returned (.tuple #[.slice none 0 0,errF (ckC me K (es.map En.s) (who,word,clk))]) ∧ Below w.heap.size w w' := by
 obtain ⟨W,eW⟩:∃ W,W = w.alloc (.cells #[.int .i64 who,.int .i64 word,.slice q len cap] 51) := ⟨_,rfl⟩
 have BW:Hid (Below w.heap.size w W) := by rw [eW]; exact (Below.refl _ _).alloc (Nat.le_refl _) _
 have GW:Hid (CF W base P mb me K cn es ∧ Vw W q len clk) := ⟨g.later BW.out,hv.later BW.out⟩
 have HC:Hid (ckC me K (es.map En.s) (who,word,clk) ≠ 0) := hc
 rw [errF_no hc]
 clear g hv hc
 go_enter Tryz.func36,Tryz.ntmps36
 go_wp2_with fail
 rw [← eW]
 refine (check_any who word q len cap clk W GW.out.1 GW.out.2).mono ?_
 rintro e w1 ⟨rfl,hb⟩
 have B1:Hid (Below w.heap.size w w1) := BW.out.trans (hb.mono BW.out.size)
 rw [errF_no HC.out]
 clear hb eW
 go_wp2
 go_ret2
 exact ⟨rfl,B1.out⟩
theorem ck_ok {ws:List Sd} {who word:Int} {clk:List Int} (h:ckC me K ws (who,word,clk) = 0):(0 ≤ who ∧ who ≤ 4) ∧ (1 ≤ word ∧ word ≤ 30) ∧ code clk = 0 ∧ (¬ ws.any (same (who,word,clk)) = true) ∧ (rdy K (who,word,clk) = false → ws.length < 40) := by
 unfold ckC at h
 by_cases h1:sdBad (who,word,clk) = true
 ·rw [if_pos h1] at h; omega
 rw [if_neg h1] at h
 have h1':¬ (who < 0) ∧ ¬ (4 < who) ∧ ¬ (word < 1) ∧ ¬ (30 < word) := by
  simp [sdBad] at h1
  omega
 by_cases h2:code (who,word,clk).2.2 ≠ 0
 ·rw [if_pos h2] at h; exact absurd h h2
 rw [if_neg h2] at h
 have h2':code clk = 0 := by
  rcases Classical.em (code clk = 0) with q | q
  ·exact q
  ·exact absurd q h2
 by_cases h3:(who,word,clk).1 = me
 ·rw [if_pos h3] at h; omega
 rw [if_neg h3] at h
 by_cases h4:(who,word,clk).2.2.getD (who,word,clk).1.toNat 0 = 0
 ·rw [if_pos h4] at h; omega
 rw [if_neg h4] at h
 by_cases h5:(who,word,clk).2.2.getD (who,word,clk).1.toNat 0 ≤ K.getD (who,word,clk).1.toNat 0
 ·rw [if_pos h5] at h; omega
 rw [if_neg h5] at h
 by_cases h6:ws.any (same (who,word,clk)) = true
 ·rw [if_pos h6] at h; omega
 rw [if_neg h6] at h
 by_cases h7:rdy K (who,word,clk) = false ∧ 40 ≤ ws.length
 ·rw [if_pos h7] at h; omega
 refine ⟨by omega,by omega,h2',h6,fun q => ?_⟩
 rcases Nat.lt_or_ge ws.length 40 with a | a
 ·exact a
 ·exact absurd ⟨q,a⟩ h7
def TkW (w w6:World) (base P mb m:Nat) (me cn:Int) (K clk:List Int) (word:Int) (es:List En) (B g c:Nat):Prop :=
 CF w6 base P mb me K (cn + 1) (es ++ [⟨cn + 1,((m:Int),word,clk),g,c⟩]) ∧ Cn K (cn + 1) (es ++ [⟨cn + 1,((m:Int),word,clk),g,c⟩]) ∧ SB w6 B (m:Int) word (.slice (some ⟨g,0,none⟩) 5 c) ∧ Below base w w6 ∧ Kp w w6 P (some mb) ∧ w.heap.size ≤ g
def HearP (w w':World) (base P mb:Nat) (me:Int) (K:List Int) (cn:Int) (es:List En) (i:Nat) (vo:Value) (es':List En):Prop :=
 CF w' base P mb me (go1 K (es.map En.s) i).2.1 cn es' ∧ Cn (go1 K (es.map En.s) i).2.1 cn es' ∧ es'.map En.s = (go1 K (es.map En.s) i).2.2 ∧ (∀ e ∈ es',e ∈ es) ∧
   w'.ownsRow w.heap.size 3 1 vo (go1 K (es.map En.s) i).1.length ((go1 K (es.map En.s) i).1.map (Value.int .i64)) ∧ Below base w w' ∧ Kp w w' P (some mb)
theorem put4 {m g2 c2:Nat} {word n:Int} {clk:List Int} {W3 w4:World} (hm:m < 5) (hn:n = clk.getD m 0) (g:CF W3 base P mb me K (cn + 1) es) (htop:∀ e ∈ es,e.t ≤ cn) (ho:W3.ownsRow base 3 1 (.slice (some ⟨g2,0,none⟩) 5 c2) 5 (clk.map (Value.int .i64))) (hok:SdOk ((m:Int),word,clk)) (hno:∀ e ∈ es,e.key ≠ kl (m:Int) (clk.getD m 0)) (hl:es.length ≤ 40) (h4:Below W3.heap.size W3 w4) :
  ∃ w6,(Instr.mapUpdate 157 (.map (some mb)) (.agg #[.int .i64 (m:Int),.int .i64 n]) (.agg #[.int .i64 (cn + 1),.int .i64 (m:Int),.int .i64 word,.slice (some ⟨g2,0,none⟩) 5 c2])).run Tryz.prog w4 = .ok () w6 ∧
   CF w6 base P mb me K (cn + 1) (es ++ [⟨cn + 1,((m:Int),word,clk),g2,c2⟩]) ∧ w4.mapTurned w6 mb := by
 have q := (g.later h4).put ⟨cn + 1,((m:Int),word,clk),g2,c2⟩ (own_block ho fun k hk => h4.block k (own_lt ho k hk).2) hok hno (fun x hx => by have := htop x hx; show x.t < cn + 1; omega) (Int.le_refl _) (by unfold maxLen; omega)
 rw [hn]
 exact q
set_option maxRecDepth 100000 in
set_option maxHeartbeats 1000000 in
theorem take_ok (m b off cap:Nat) (word:Int) (clk:List Int) (w:World) (hm:m < 5) (g:CF w base P mb me K cn es) (hcn:Cn K cn es) (hv:Vw w (some ⟨b,off,none⟩) 5 clk) (hc:ckC me K (es.map En.s) ((m:Int),word,clk) = 0) (hl:es.length ≤ 40) (hbw:base ≤ w.heap.size) :
  Calls Tryz.prog 36 #[.pointer (some ⟨P,0,none⟩),.agg #[.int .i64 (m:Int),.int .i64 word,.slice (some ⟨b,off,none⟩) 5 cap]] w fun x w' => ∃ g6 c6 w6,TkW w w6 base P mb m me cn K clk word es w.heap.size g6 c6 ∧
   ((rdy K ((m:Int),word,clk) = false ∧ x = .returned (.tuple #[.slice none 0 0,.nilIface]) ∧ Below w6.heap.size w6 w') ∨
    (rdy K ((m:Int),word,clk) = true ∧ ∃ vo es' w8,x = .returned (.tuple #[vo,.nilIface]) ∧ Below w6.heap.size w6 w8 ∧ HearP w8 w' base P mb me K (cn + 1) (es ++ [⟨cn + 1,((m:Int),word,clk),g6,c6⟩]) es.length vo es')) := by
 obtain ⟨_,hwd,hcd,hsm,_⟩ := ck_ok hc
 obtain ⟨W,eW⟩:∃ W,W = w.alloc (.cells #[.int .i64 (m:Int),.int .i64 word,.slice (some ⟨b,off,none⟩) 5 cap] 51) := ⟨_,rfl⟩
 have BW:Hid (Below w.heap.size w W) := by rw [eW]; exact (Below.refl _ _).alloc (Nat.le_refl _) _
 have GW:Hid (CF W base P mb me K cn es ∧ Vw W (some ⟨b,off,none⟩) 5 clk) := ⟨g.later BW.out,hv.later BW.out⟩
 have RW:Hid (W.rowIs w.heap.size 51 3 (fun j => if j = 0 then .int .i64 (m:Int) else if j = 1 then .int .i64 word else .slice (some ⟨b,off,none⟩) 5 cap)) := by
  rw [eW]
  exact World.rowIs_alloc w _ 51 _ (fun i hi => by rcases i with _ | _ | _ | i <;> first | rfl | (exfalso; have:_ < 3 := hi; omega))
 have HC:Hid (ckC me K (es.map En.s) ((m:Int),word,clk) = 0 ∧ code clk = 0 ∧ (1 ≤ word ∧ word ≤ 30) ∧ (∀ e ∈ es,e.key ≠ kl (m:Int) (clk.getD m 0)) ∧ Cn K cn es ∧ base ≤ w.heap.size ∧ es.length ≤ 40) := by
  refine ⟨hc,hcd,hwd,fun e he q => hsm ?_,hcn,hbw,hl⟩
  exact (same_key hm hcd g.ok).2 ⟨e,he,(key_iff hm ((code_num hcd).2 m hm) (g.ok e he)).1 q.symm⟩
 have HG:Hid (CF w base P mb me K cn es) := g
 have hcn5 := g.cn_le hcn
 have hcn0 := hcn.1
 clear g hv hc hwd hcd hsm hcn hbw
 go_enter Tryz.func36,Tryz.ntmps36
 go_wp2_with fail
 rw [← eW]
 refine (check_any (m:Int) word (some ⟨b,off,none⟩) 5 cap clk W GW.out.1 GW.out.2).mono ?_
 rintro e w1 ⟨rfl,hb⟩
 rw [HC.out.1,errF_ok]
 have B1:Hid (Below w.heap.size w w1) := BW.out.trans (hb.mono BW.out.size)
 have R1:Hid (w1.rowIs w.heap.size 51 3 (fun j => if j = 0 then .int .i64 (m:Int) else if j = 1 then .int .i64 word else .slice (some ⟨b,off,none⟩) 5 cap)) := World.rowIs.of_block RW.out (hb.block _ (World.rowIs.lt RW.out))
 have V1:Hid (Vw w1 (some ⟨b,off,none⟩) 5 clk) := GW.out.2.later hb
 have s2:w1.cell? ⟨w.heap.size,2,none⟩ = some (.slice (some ⟨b,off,none⟩) 5 cap) := World.rowIs.cell R1.out (i := 2) (by omega)
 clear hb eW
 go_wp2_with fail
 refine (clone_vw b off cap clk w1 V1.out).mono ?_
 rintro e w2 ⟨v,rfl,hO,hB⟩
 obtain ⟨g2,c2,rfl,hg2⟩:∃ g2 c2,v = .slice (some ⟨g2,0,none⟩) 5 c2 ∧ w1.heap.size ≤ g2 := by
  rcases hO.2 with ⟨h2,_⟩ | ⟨g',cap',cur,hv,hbg,_⟩
  ·obtain ⟨q,c,e,_⟩ := own_vw hO
   rw [e] at h2
   cases h2
  ·exact ⟨g',cap',hv,hbg⟩
 have B2:Hid (Below w1.heap.size w1 w2 ∧ Below w.heap.size w w2) := ⟨hB,B1.out.trans (hB.mono B1.out.size)⟩
 have O2:Hid (w2.ownsRow w1.heap.size 3 1 (.slice (some ⟨g2,0,none⟩) 5 c2) 5 (clk.map (Value.int .i64)) ∧ w1.heap.size ≤ g2) := ⟨hO,hg2⟩
 have R2:Hid (w2.rowIs w.heap.size 51 3 (fun j => if j = 0 then .int .i64 (m:Int) else if j = 1 then .int .i64 word else .slice (some ⟨b,off,none⟩) 5 cap)) := World.rowIs.of_block R1.out (hB.block _ (World.rowIs.lt R1.out))
 have t2:w2.cell? ⟨w.heap.size,2,none⟩ = some (.slice (some ⟨b,off,none⟩) 5 cap) := World.rowIs.cell R2.out (i := 2) (by omega)
 have f2 := World.rowIs.frozen R2.out 2
 have G2:Hid (CF w2 base P mb me K cn es) := HG.out.later B2.out.2
 obtain ⟨p6,z6⟩ := G2.out.came
 have hne:w.heap.size ≠ P := by have := HG.out.lt.1; omega
 clear hO hB hg2 s2
 go_wp2_with fail
 obtain ⟨W3,eW3⟩:∃ W3,W3 = (w2.setCell ⟨w.heap.size,2,none⟩ (.slice (some ⟨g2,0,none⟩) 5 c2)).setCell ⟨P,6,none⟩ (.int .i64 (cn + 1)) := ⟨_,rfl⟩
 rw [← eW3]
 have C3:Hid (CF W3 base P mb me K (cn + 1) es ∧ W3.rowIs w.heap.size 51 3 (fun j => if j = 0 then .int .i64 (m:Int) else if j = 1 then .int .i64 word else .slice (some ⟨g2,0,none⟩) 5 c2) ∧ W3.ownsRow base 3 1 (.slice (some ⟨g2,0,none⟩) 5 c2) 5 (clk.map (Value.int .i64)) ∧ Below base w W3 ∧ Kp w W3 P (some mb) ∧ w.heap.size < W3.heap.size) := by
  have hbw:base ≤ w.heap.size := HC.out.2.2.2.2.2.1
  have hg2:w.heap.size < g2 := Nat.lt_of_lt_of_le (World.rowIs.lt R1.out) O2.out.2
  have ga:CF (w2.setCell ⟨w.heap.size,2,none⟩ (.slice (some ⟨g2,0,none⟩) 5 c2)) base P mb me K cn es := G2.out.of_blocks fun k hk => Deep.blk_setCell_other _ _ _ _ (Nat.ne_of_lt (HG.out.fp k hk).2)
  have b2:Below base w w2 := B2.out.2.mono hbw
  rw [eW3]
  refine ⟨ga.setCn,(World.rowIs.setOther (World.rowIs.set R2.out 2 _) (a := ⟨P,6,none⟩) hne _).congr fun j hj => ?_,own_block (own_mono O2.out.1 (by have := B1.out.size; omega)) fun k hk => ?_,(b2.setCell (p := ⟨w.heap.size,2,none⟩) hbw _).setCell (p := ⟨P,6,none⟩) HG.out.low.1 _,⟨?_,fun k hk hP _ => ?_⟩,?_⟩
  ·rcases j with _ | _ | _ | j
   ·rfl
   ·rfl
   ·rfl
   ·omega
  ·have:g2 = k := by simpa [Value.ownBlock] using hk
   subst this
   rw [Deep.blk_setCell_other _ _ _ _ (by show g2 ≠ P; have := HG.out.lt.1; omega),Deep.blk_setCell_other _ _ _ _ (by show g2 ≠ w.heap.size; omega)]
  ·exact ((b2.setCell (p := ⟨w.heap.size,2,none⟩) hbw (.slice (some ⟨g2,0,none⟩) 5 c2)).setCell (p := ⟨P,6,none⟩) HG.out.low.1 (.int .i64 (cn + 1))).size
  ·rw [Deep.blk_setCell_other _ _ _ _ hP,Deep.blk_setCell_other _ _ _ _ (Nat.ne_of_lt hk)]
   exact B2.out.2.block k hk
  ·have := World.rowIs.lt R2.out
   simpa [World.setCell] using this
 have V3:Hid (Vw W3 (some ⟨g2,0,none⟩) 5 clk) := by
  obtain ⟨q,c,e,hv⟩ := own_vw C3.out.2.2.1
  cases e
  exact hv
 have HS:Hid (∀ w':World,(∀ k,k < W3.heap.size → k ≠ mb → w'.heap[k]? = W3.heap[k]?) → w'.cell? ⟨P,7,none⟩ = some (.map (some mb)) ∧ w'.cell? ⟨P,6,none⟩ = some (.int .i64 (cn + 1)) ∧ w'.cell? ⟨w.heap.size,0,none⟩ = some (.int .i64 (m:Int)) ∧ w'.cell? ⟨w.heap.size,1,none⟩ = some (.int .i64 word) ∧ w'.cell? ⟨w.heap.size,2,none⟩ = some (.slice (some ⟨g2,0,none⟩) 5 c2)) := by
  intro w' h
  have bP := h P C3.out.1.lt.1 C3.out.1.apart
  have bB := h w.heap.size C3.out.2.2.2.2.2 (by have := HG.out.lt.2; omega)
  exact ⟨(World.cell?_of_block (a := ⟨P,7,none⟩) bP).trans C3.out.1.wait.1,(World.cell?_of_block (a := ⟨P,6,none⟩) bP).trans C3.out.1.came.1,(World.cell?_of_block (a := ⟨w.heap.size,0,none⟩) bB).trans (World.rowIs.cell C3.out.2.1 (i := 0) (by omega)),(World.cell?_of_block (a := ⟨w.heap.size,1,none⟩) bB).trans (World.rowIs.cell C3.out.2.1 (i := 1) (by omega)),(World.cell?_of_block (a := ⟨w.heap.size,2,none⟩) bB).trans (World.rowIs.cell C3.out.2.1 (i := 2) (by omega))⟩
 obtain ⟨n,en⟩:∃ n,n = clk.getD m 0 := ⟨_,rfl⟩
 have EN:Hid (n = clk.getD m 0) := en
 have OK:Hid (SdOk ((m:Int),word,clk)) := ⟨by show 0 ≤ (m:Int) ∧ (m:Int) ≤ 4; omega,HC.out.2.2.1,HC.out.2.1⟩
 clear eW3 en p6 z6 t2 f2 RW R1 R2
 go_region_held3 (fun w' => w'.cell? ⟨P,7,none⟩ = some (.map (some mb)) ∧ w'.cell? ⟨P,6,none⟩ = some (.int .i64 (cn + 1)) ∧ w'.cell? ⟨w.heap.size,0,none⟩ = some (.int .i64 (m:Int)) ∧ w'.cell? ⟨w.heap.size,1,none⟩ = some (.int .i64 word) ∧ w'.cell? ⟨w.heap.size,2,none⟩ = some (.slice (some ⟨g2,0,none⟩) 5 c2)) (first | exact HS.out _ (fun _ _ _ => rfl) | exact HS.out _ K6.out | exact HS.out _ K4.out) (first
  | (go_at_call 85; refine (place_any m g2 0 c2 word clk _ hm (by exact V3.out)).mono ?_; rintro e4 w4 ⟨rfl,hb⟩; rw [← EN.out]; have B4:Hid (Below W3.heap.size W3 w4) := below_same hb rfl rfl rfl rfl; obtain ⟨w6,hup,hF6,hT6⟩ := put4 hm EN.out C3.out.1 HG.out.top C3.out.2.2.1 OK.out HC.out.2.2.2.1 HC.out.2.2.2.2.2.2 B4.out; have K4:Hid (∀ k,k < W3.heap.size → k ≠ mb → w4.heap[k]? = W3.heap[k]?) := fun k hk _ => B4.out.block k hk; have F6:Hid (CF w6 base P mb me K (cn + 1) (es ++ [⟨cn + 1,((m:Int),word,clk),g2,c2⟩]) ∧ w4.mapTurned w6 mb) := ⟨hF6,hT6⟩; have K6:Hid (∀ k,k < W3.heap.size → k ≠ mb → w6.heap[k]? = W3.heap[k]?) := fun k hk hne => (g_of_turned F6.out.2 (Nat.lt_of_lt_of_le hk B4.out.size) hne).trans (K4.out k hk hne); clear hb hF6 hT6))
 have T6:Hid (TkW w w6 base P mb m me cn K clk word es w.heap.size g2 c2 ∧ Vw w6 (some ⟨g2,0,none⟩) 5 clk) := by
  have hg2:w.heap.size ≤ g2 := Nat.le_trans B1.out.size O2.out.2
  have hbw:base ≤ w.heap.size := HC.out.2.2.2.2.2.1
  have b4:Below base w w4 := C3.out.2.2.2.1.trans (B4.out.mono (by have := C3.out.2.2.2.2.2; omega))
  have b6:Below base w w6 := b4.trans (turned_below F6.out.2 F6.out.1.low.2)
  obtain ⟨_,_,h0,h1,h2⟩ := HS.out w6 K6.out
  refine ⟨⟨F6.out.1,HC.out.2.2.2.2.1.put _,⟨?_,h0,h1,h2⟩,b6,⟨b6.size,fun k hk hP hne => ?_⟩,hg2⟩,F6.out.1.vw (e := ⟨cn + 1,((m:Int),word,clk),g2,c2⟩) (by simp)⟩
  ·exact Nat.lt_of_lt_of_le C3.out.2.2.2.2.2 (Nat.le_trans B4.out.size F6.out.2.grown.size)
  ·rw [K6.out k (Nat.lt_trans hk C3.out.2.2.2.2.2) (fun e => hne (by rw [e]))]
   exact C3.out.2.2.2.2.1.2 k hk hP hne
 obtain ⟨_,i0,i1,i2⟩ := T6.out.1.2.2.1
 cases hr:rdy K ((m:Int),word,clk)
 ·go_wp2_with fail
  refine (ready_any P m g2 0 c2 K clk word w6 hm T6.out.1.1.k5 T6.out.2).mono ?_
  rintro e w7 ⟨rfl,hb⟩
  rw [hr]
  have B7:Hid (Below w6.heap.size w6 w7) := hb
  clear hb
  go_wp2
  go_ret2
  exact ⟨g2,c2,w6,T6.out.1,.inl ⟨hr,rfl,B7.out⟩⟩
 ·go_wp2_with fail
  refine (ready_any P m g2 0 c2 K clk word w6 hm T6.out.1.1.k5 T6.out.2).mono ?_
  rintro e w7 ⟨rfl,hb⟩
  rw [hr]
  have B7:Hid (Below w6.heap.size w6 w7) := hb
  obtain ⟨_,j0,j1,j2⟩ := T6.out.1.2.2.1.later hb
  have V7:Hid (Vw w7 (some ⟨g2,0,none⟩) 5 clk) := T6.out.2.later hb
  clear hb i0 i1 i2
  go_wp2_with fail
  refine (place_any m g2 0 c2 word clk w7 hm V7.out).mono ?_
  rintro e w8 ⟨rfl,hb⟩
  have B8:Hid (Below w6.heap.size w6 w8) := B7.out.trans (hb.mono B7.out.size)
  have C8:Hid (CF w8 base P mb me K (cn + 1) (es ++ [⟨cn + 1,((m:Int),word,clk),g2,c2⟩])) := T6.out.1.1.later B8.out
  clear hb
  go_wp2_with fail
  refine (hear_any es.length (m:Int) (clk.getD m 0) w8 (by simp) (by simp [En.at,En.n]) C8.out T6.out.1.2.1 (by simpa using hr) (by have := HC.out.2.2.2.2.2.2; simp; omega) (by have := B8.out.size; have := T6.out.1.2.2.2.1.size; have := HC.out.2.2.2.2.2.1; omega)).mono ?_
  rintro e w9 ⟨vo,es',rfl,h9⟩
  have H9:Hid (HearP w8 w9 base P mb me K (cn + 1) (es ++ [⟨cn + 1,((m:Int),word,clk),g2,c2⟩]) es.length vo es') := h9
  clear h9
  go_wp2
  go_ret2
  exact ⟨g2,c2,w6,T6.out.1,.inr ⟨hr,vo,es',w8,rfl,B8.out,H9.out⟩⟩
end Go.Proofs.YtdmniblonikjlakGreatDoor.Cap


namespace Go.Proofs.YtdmniblonikjlakGreatDoor.Cau
open Go.RowKit
open Vec (Vw code)
open Fif (own_lt own_block own_mono Kp)
open Cap (En CF Cn fpOf)
set_option linter.unusedVariables false
def CS (w:World) (base P:Nat) (me:Int) (K:List Int) (ws:List Sd) (fp:List Nat):Prop :=
 ∃ mb cn es,CF w base P mb me K cn es ∧ Cn K cn es ∧ ws = es.map En.s ∧ fp = fpOf P mb es
theorem CS.of_blocks {w w':World} {base P:Nat} {me:Int} {K:List Int} {ws:List Sd} {fp:List Nat} (g:CS w base P me K ws fp) (hs:w.heap.size ≤ w'.heap.size) (h:∀ b ∈ fp,w'.heap[b]? = w.heap[b]?):CS w' base P me K ws fp := by
 obtain ⟨mb,cn,es,g,hc,rfl,rfl⟩ := g
 exact ⟨mb,cn,es,g.of_blocks h,hc,rfl,rfl⟩
theorem CS.fp {w:World} {base P:Nat} {me:Int} {K:List Int} {ws:List Sd} {fp:List Nat} (g:CS w base P me K ws fp):∀ b ∈ fp,base ≤ b ∧ b < w.heap.size := by
 obtain ⟨mb,cn,es,g,hc,rfl,rfl⟩ := g
 exact g.fp
theorem CS.low {w:World} {base base' P:Nat} {me:Int} {K:List Int} {ws:List Sd} {fp:List Nat} (g:CS w base P me K ws fp) (h:base' ≤ base):CS w base' P me K ws fp := by
 obtain ⟨mb,cn,es,g,hc,rfl,rfl⟩ := g
 exact ⟨mb,cn,es,g.lower h,hc,rfl,rfl⟩
theorem newC_ok (me:Int) (w:World) (h:0 ≤ me ∧ me ≤ 4):Calls Tryz.prog 30 #[.int .i64 me] w fun x w' => ∃ P fp,x = .returned (.tuple #[.pointer (some ⟨P,0,none⟩),.nilIface]) ∧ CS w' w.heap.size P me [0,0,0,0,0] [] fp ∧ Below w.heap.size w w' := by
 refine (Cap.new_ok me w h).mono ?_
 rintro x w' ⟨rfl,g,hb⟩
 exact ⟨_,_,rfl,⟨_,0,[],g,⟨Int.le_refl _,by simp [Cap.sumK]⟩,rfl,rfl⟩,hb⟩
theorem kpl_of {w w':World} {P mb:Nat} {es:List En} (h:Kp w w' P (some mb)):KpL w w' (fpOf P mb es) := ⟨h.1,fun b hb hn => h.2 b hb (fun e => hn (by rw [e]; simp [fpOf])) (fun e => hn (by cases e; simp [fpOf]))⟩
theorem newl_refl (w:World) (fp:List Nat):NewL w fp fp := fun b hb => .inl hb
theorem sayP_any (base P:Nat) (me:Int) (K:List Int) (ws:List Sd) (fp:List Nat) (word:Int) (w:World) (g:CS w base P me K ws fp) (hi:CInv me K ws) (hbw:base ≤ w.heap.size):Calls Tryz.prog 32 #[.pointer (some ⟨P,0,none⟩),.int .i64 word] w fun x w' => ∃ s0 s1 vc fp',x = .returned (.tuple #[.agg #[.int .i64 s0,.int .i64 s1,vc],errF (sayC me K word)]) ∧
  CS w' base P me (sayK me K word) ws fp' ∧ SayR w' w.heap.size me K word s0 s1 vc ∧ Below base w w' ∧ KpL w w' fp ∧ NewL w fp fp' ∧ ∀ b,vc.ownBlock = some b → b ∉ fp' := by
 obtain ⟨mb,cn,es,g,hc,rfl,rfl⟩ := g
 obtain ⟨m,rfl⟩:∃ m:Nat,me = (m:Int) := ⟨me.toNat,by have := hi.me; omega⟩
 have hm:m < 5 := by have := hi.me; omega
 have no:∀ k:Int,k ≠ 0 → sayC (m:Int) K word = k → ∀ x w',(x = Ending.returned (.tuple #[.agg #[.int .i64 0,.int .i64 0,.slice none 0 0],.iface 70 (.int .i64 k)]) ∧ Below w.heap.size w w') → ∃ s0 s1 vc fp',x = .returned (.tuple #[.agg #[.int .i64 s0,.int .i64 s1,vc],errF (sayC (m:Int) K word)]) ∧
   CS w' base P (m:Int) (sayK (m:Int) K word) (es.map En.s) fp' ∧ SayR w' w.heap.size (m:Int) K word s0 s1 vc ∧ Below base w w' ∧ KpL w w' (fpOf P mb es) ∧ NewL w (fpOf P mb es) fp' ∧ ∀ b,vc.ownBlock = some b → b ∉ fp' := by
  rintro k hk0 hk x w' ⟨rfl,hb⟩
  have h0:¬ sayC (m:Int) K word = 0 := by rw [hk]; exact hk0
  refine ⟨0,0,.slice none 0 0,_,by rw [hk,errF_no hk0],⟨mb,cn,es,?_,?_,rfl,rfl⟩,⟨(if_neg h0).symm,(if_neg h0).symm,?_⟩,hb.mono hbw,kpl_of (Kp.below hb _),newl_refl _ _,fun b hb => by cases hb⟩
  ·rw [sayK,if_neg h0]; exact g.later hb
  ·rw [sayK,if_neg h0]; exact hc
  ·rw [sayL,if_neg h0]; exact World.ownsRow_nil _ _ _ _
 by_cases h1:word < 1 ∨ 30 < word
 ·exact (Cap.say_bad P word w h1).mono (no 1 (by decide) (if_pos h1))
 ·by_cases h2:K.getD m 0 = 1000000
  ·exact (Cap.say_full m word w hm g (by omega) (by omega) h2).mono (no 4 (by decide) (by rw [sayC,if_neg h1,Int.toNat_natCast,if_pos h2]))
  ·have h0:sayC (m:Int) K word = 0 := by rw [sayC,if_neg h1,Int.toNat_natCast,if_neg h2]
   have hn := hi.num m hm
   refine (Cap.say_ok m word w hm g hbw (by omega) (by omega) (by omega)).mono ?_
   rintro x w' ⟨vc,rfl,g',ho,hb,hk⟩
   refine ⟨(m:Int),word,vc,_,by rw [h0,errF_ok],⟨mb,cn,es,?_,?_,rfl,rfl⟩,⟨(if_pos h0).symm,(if_pos h0).symm,?_⟩,hb,kpl_of ⟨hk.1,fun b hb hP _ => hk.2 b hb hP (by simp)⟩,newl_refl _ _,fun b hb hf => ?_⟩
   ·rw [sayK,if_pos h0]; exact g'
   ·rw [sayK,if_pos h0]; exact hc.incK g.five hm
   ·rw [sayL,if_pos h0,Cap.inc_len,g.five]; exact ho
   ·have h3 := (own_lt ho b hb).1
    have h4 := (g.fp b hf).2
    omega
theorem go1_last {K:List Int} {ws:List Sd} {s:Sd}:Cap.go1 K (ws ++ [s]) ws.length = (s.2.1 :: (run (inc K s.1) ws).1,(run (inc K s.1) ws).2) := by
 have e1:sd (ws ++ [s]) ws.length = s := by simp [sd,List.getD]
 have e2:(ws ++ [s]).eraseIdx ws.length = ws := by
  rw [List.eraseIdx_append_of_length_le (Nat.le_refl _)]
  simp
 unfold Cap.go1
 rw [e1,e2]
theorem takeP_any (base P:Nat) (me:Int) (K:List Int) (ws:List Sd) (fp:List Nat) (who word:Int) (q:Option Addr) (len c:Nat) (clk:List Int) (w:World) (g:CS w base P me K ws fp) (hi:CInv me K ws) (hbw:base ≤ w.heap.size) (hv:Vw w q len clk):Calls Tryz.prog 36 #[.pointer (some ⟨P,0,none⟩),.agg #[.int .i64 who,.int .i64 word,.slice q len c]] w fun x w' => ∃ vo fp',x = .returned (.tuple #[vo,errF (ckC me K ws (who,word,clk))]) ∧
  CS w' base P me (ctk me K ws (who,word,clk)).2.1 (ctk me K ws (who,word,clk)).2.2 fp' ∧ w'.ownsRow w.heap.size 3 1 vo (ctk me K ws (who,word,clk)).1.length ((ctk me K ws (who,word,clk)).1.map (Value.int .i64)) ∧ Below base w w' ∧ KpL w w' fp ∧ NewL w fp fp' ∧ ∀ b,vo.ownBlock = some b → b ∉ fp' := by
 obtain ⟨mb,cn,es,g,hc,rfl,rfl⟩ := g
 by_cases hck:ckC me K (es.map En.s) (who,word,clk) = 0
 ·obtain ⟨hw,hwd,hcd,hsm,hroom⟩ := Cap.ck_ok hck
  obtain ⟨m,rfl⟩:∃ m:Nat,who = (m:Int) := ⟨who.toNat,by omega⟩
  have hm:m < 5 := by omega
  have h5:len = 5 := by rw [← hv.1]; exact (Cap.code_num hcd).1
  subst h5
  obtain ⟨b,off,rfl,_⟩ := hv.2 (by omega)
  have hl:es.length ≤ 40 := by have := hi.len; rw [List.length_map] at this; exact this
  refine (Cap.take_ok m b off c word clk w hm g hc hv hck hl hbw).mono ?_
  rintro x w' ⟨g6,c6,w6,⟨g6f,g6c,_,b6,k6,hg6⟩,hway⟩
  have hnew:∀ es',(∀ e ∈ es',e ∈ es ++ [(⟨cn + 1,((m:Int),word,clk),g6,c6⟩:En)]) → NewL w (fpOf P mb es) (fpOf P mb es') := by
   intro es' hs d hd
   rcases List.mem_cons.1 hd with rfl | hd
   ·exact .inl (by simp [fpOf])
   ·rcases List.mem_cons.1 hd with rfl | hd
    ·exact .inl (by simp [fpOf])
    ·obtain ⟨e,he,rfl⟩ := List.mem_map.1 hd
     rcases List.mem_append.1 (hs e he) with a | a
     ·exact .inl (by simp [fpOf]; exact .inr (.inr ⟨e,a,rfl⟩))
     ·rw [List.mem_singleton.1 a]
      exact .inr hg6
  rcases hway with ⟨hr,rfl,h7⟩ | ⟨hr,vo,es',w8,rfl,h8,g9,c9,e9,s9,o9,b9,k9⟩
  ·have et:ctk me K (es.map En.s) ((m:Int),word,clk) = ([],K,es.map En.s ++ [((m:Int),word,clk)]) := by rw [ctk,if_pos hck,if_neg (by rw [hr]; decide)]
   rw [et,hck,errF_ok]
   refine ⟨_,_,rfl,⟨mb,cn + 1,_,g6f.later h7,g6c,by simp,rfl⟩,World.ownsRow_nil _ _ _ _,b6.trans (h7.mono (Nat.le_trans hbw b6.size)),kpl_of (k6.trans (r' := none) (Kp.below h7 none) (by simp)),hnew _ (fun e he => he),fun d hd => by cases hd⟩
  ·have et:ctk me K (es.map En.s) ((m:Int),word,clk) = (word :: (run (inc K (m:Int)) (es.map En.s)).1,(run (inc K (m:Int)) (es.map En.s)).2) := by rw [ctk,if_pos hck,if_pos hr]
   have eg:Cap.go1 K ((es ++ [(⟨cn + 1,((m:Int),word,clk),g6,c6⟩:En)]).map En.s) es.length = (word :: (run (inc K (m:Int)) (es.map En.s)).1,(run (inc K (m:Int)) (es.map En.s)).2) := by
    have q := go1_last (K := K) (ws := es.map En.s) (s := ((m:Int),word,clk))
    rw [List.length_map] at q
    rw [List.map_append]
    exact q
   rw [eg] at g9 c9 e9 o9
   rw [et,hck,errF_ok]
   have hw8:w.heap.size ≤ w8.heap.size := Nat.le_trans b6.size h8.size
   have b8:Below base w w8 := b6.trans (h8.mono (Nat.le_trans hbw b6.size))
   have k8:Kp w w8 P (some mb) := k6.trans (r' := none) (Kp.below h8 none) (by simp)
   refine ⟨vo,_,rfl,⟨mb,cn + 1,es',g9,c9,e9.symm,rfl⟩,own_mono o9 hw8,b8.trans b9,kpl_of (k8.trans k9 (fun k e => .inr (.inl e))),hnew _ s9,fun d hd hf => ?_⟩
   have h3 := (own_lt o9 d hd).1
   have g8 := g6f.later h8
   have h4:d < w8.heap.size := by
    rcases List.mem_cons.1 hf with rfl | hf
    ·exact g8.lt.1
    ·rcases List.mem_cons.1 hf with rfl | hf
     ·exact g8.lt.2
     ·obtain ⟨e,he,rfl⟩ := List.mem_map.1 hf
      exact (g8.glt (s9 e he)).2
   omega
 ·refine (Cap.take_no who word q len c clk w g hv hck).mono ?_
  rintro x w' ⟨rfl,hb⟩
  have et:ctk me K (es.map En.s) (who,word,clk) = ([],K,es.map En.s) := by rw [ctk,if_neg hck]
  rw [et]
  exact ⟨_,_,rfl,⟨mb,cn,es,g.later hb,hc,rfl,rfl⟩,World.ownsRow_nil _ _ _ _,hb.mono hbw,kpl_of (Kp.below hb _),newl_refl _ _,fun d hd => by cases hd⟩
end Go.Proofs.YtdmniblonikjlakGreatDoor.Cau
