/-
  Texts put together: CauE, CapK, CapS, CapM, CapR, CapT, CapC.
-/
import Derived.Test.YtdmniblonikjlakGreatDoorPrB
import Derived.Test.YtdmniblonikjlakGreatDoorPrA
import Derived.Test.YtdmniblonikjlakGreatDoorRows
import Derived.Maps.RangeWalk
import Derived.DeepKeys4
import Derived.MapViews
import Derived.WalkLawsBesides
import Derived.Deep.QuietTactic
import Derived.BigQuiet
import Derived.Deep.RegionHeld3
import Derived.Handy
import Derived.Laws.ResultCell
import Derived.Deep.RegionWith


namespace Go.Proofs.YtdmniblonikjlakGreatDoor.Cau
open Go.RowKit
open Vec (Vw)
open Fif (own_lt own_block own_form own_vw Kp ret_bool)
set_option linter.unusedVariables false
def errF (c:Int):Value := if c = 0 then .nilIface else .iface 70 (.int .i64 c)
theorem errF_ok:errF 0 = .nilIface := rfl
theorem errF_no {c:Int} (h:c ≠ 0):errF c = .iface 70 (.int .i64 c) := if_neg h
theorem ints_same (a b:Option Addr) (len cap len' cap':Nat) (xs:List Int) (w:World) (hv:Vw w a len xs) (hv':Vw w b len' xs) (hm:len ≤ maxLen) :
  Calls Tryz.prog 48 #[.slice a len cap,.slice b len' cap'] w fun e w' => e = .returned (.bool true) ∧ ∃ n,w' = w.drewN n := by
 refine (Vec.ints_any a b len cap len' cap' xs xs w hv hv' hm).mono ?_
 rintro e w' ⟨rfl,hb⟩
 exact ⟨ret_bool (by simp),hb⟩
theorem below_heap2 {B:Nat} {w w1 w2:World} (h:Below B w w1) (e:w2.heap = w1.heap) (e1:w2.os = w1.os) (e2:w2.tape = w1.tape) (e3:w2.output = w1.output):Below B w w2 :=
 ⟨e1.trans h.os,e2.trans h.tape,e3.trans h.output,by rw [e]; exact h.size,fun k hk => by rw [e]; exact h.block k hk⟩
def KpL (w w':World) (fp:List Nat):Prop := w.heap.size ≤ w'.heap.size ∧ ∀ b,b < w.heap.size → b ∉ fp → w'.heap[b]? = w.heap[b]?
def NewL (w:World) (fp fp':List Nat):Prop := ∀ b ∈ fp',b ∈ fp ∨ w.heap.size ≤ b
def sayC (me:Int) (K:List Int) (word:Int):Int := if word < 1 ∨ 30 < word then 1 else if K.getD me.toNat 0 = 1000000 then 4 else 0
def sayK (me:Int) (K:List Int) (word:Int):List Int := if sayC me K word = 0 then inc K me else K
def sayL (me:Int) (K:List Int) (word:Int):List Int := if sayC me K word = 0 then inc K me else []
def SayR (w':World) (b:Nat) (me:Int) (K:List Int) (word s0 s1:Int) (vc:Value):Prop :=
 s0 = (if sayC me K word = 0 then me else 0) ∧ s1 = (if sayC me K word = 0 then word else 0) ∧ w'.ownsRow b 3 1 vc (sayL me K word).length ((sayL me K word).map (Value.int .i64))
set_option maxRecDepth 100000 in
theorem said_same (s0 s1:Int) (qa qb:Option Addr) (n ca cb:Nat) (xs:List Int) (w:World) (hv:Vw w qa n xs) (hv':Vw w qb n xs) (hm:n ≤ maxLen) :
  Calls Tryz.prog 22 #[.agg #[.int .i64 s0,.int .i64 s1,.slice qa n ca],.agg #[.int .i64 s0,.int .i64 s1,.slice qb n cb]] w fun e w' => e = .returned (.bool true) ∧ Below w.heap.size w w' := by
 obtain ⟨W,eW⟩:∃ W,W = (w.alloc (.cells #[.int .i64 s0,.int .i64 s1,.slice qa n ca] 51)).alloc (.cells #[.int .i64 s0,.int .i64 s1,.slice qb n cb] 51) := ⟨_,rfl⟩
 have BW:Hid (Below w.heap.size w W) := by rw [eW]; exact ((Below.refl _ _).alloc (Nat.le_refl _) _).alloc (by simp) _
 have HV:Hid (Vw W qa n xs ∧ Vw W qb n xs ∧ n ≤ maxLen) := ⟨hv.later BW.out,hv'.later BW.out,hm⟩
 have h0:(s0 == s0) = true := by simp
 have h1:(s1 == s1) = true := by simp
 clear hv hv' hm
 go_enter Tryz.func22,Tryz.ntmps22
 go_wp2_with fail
 rw [← eW]
 refine (ints_same qa qb n ca n cb xs W HV.out.1 HV.out.2.1 HV.out.2.2).mono ?_
 rintro e w1 ⟨rfl,k,rfl⟩
 clear eW
 go_wp2
 go_ret
 exact ⟨rfl,below_heap2 BW.out rfl rfl rfl rfl⟩
end Go.Proofs.YtdmniblonikjlakGreatDoor.Cau


namespace Go.Proofs.YtdmniblonikjlakGreatDoor.Cap
open Go.RowKit Go.Maps
open Cau
open Vec (code)
set_option linter.unusedVariables false
theorem laidOut:laidOutB Tryz.prog = true := by kernel_rfl
theorem wideK:(match Tryz.prog.underlying 166 with | some (.array _ _) | some (.struct _) => true | _ => false) = true := by kernel_rfl
theorem rowK:(166:TypeId) < Tryz.prog.types.size := of_decide_eq_true (by kernel_rfl)
set_option maxRecDepth 100000 in
theorem law:Keyed Tryz.prog 166 := Keyed.of_law (deep_law_laid laidOut (m := 2) (by omega) rowK (by kernel_rfl) wideK)
def kl (a b:Int):Lit := .string (keyBytes [.int .i64 a,.int .i64 b])
def okK (a b:Int):Prop := (Lit.int .i64 a).wf = true ∧ (Lit.int .i64 b).wf = true
theorem deepK:Tryz.prog.keyType 166 = true := by kernel_rfl
theorem cellsK:Tryz.prog.cellsOf 166 = 2 := by kernel_rfl
theorem cellsI:Tryz.prog.cellsOf 3 = 1 := by kernel_rfl
set_option maxRecDepth 100000 in
theorem keyK {a b:Int} (h:okK a b):keyOf Tryz.prog 166 (.agg #[.int .i64 a,.int .i64 b]) = some (kl a b) := by
 unfold keyOf
 simp only [Tryz.underlying166,deepK,Bool.true_and]
 have hf:(Value.agg #[.int .i64 a,.int .i64 b]).formed Tryz.prog 166 = true := by simp [Value.formed,Tryz.underlying166,cellsK]
 rw [hf]
 obtain ⟨k,hk⟩:∃ k,Tryz.prog.types.size = k + 1 := ⟨Tryz.prog.types.size - 1,by have h0:0 < Tryz.prog.types.size := Nat.lt_of_le_of_lt (Nat.zero_le _) rowK; omega⟩
 rw [hk]
 simp only [Value.cells,Program.keyLits,Tryz.underlying166]
 simp [List.mapM_cons,Tryz.underlying3,cellsK,cellsI,h.1,h.2,kl]
theorem kl_inj {a b c d:Int} (h1:okK a b) (h2:okK c d) (e:kl a b = kl c d):a = c ∧ b = d := by
 have := law.inj (keyK h1) (by rw [keyK h2,e])
 simpa using this
theorem kl_key {a b:Int} (h:okK a b):WideAt.IsKeyLit (kl a b) := law.key (keyK h)
theorem okK_of {a b:Int} (ha:0 ≤ a ∧ a ≤ 4) (hb:0 ≤ b ∧ b ≤ 1000001):okK a b := by
 refine ⟨?_,?_⟩ <;> simp [Lit.wf,IntKind.min,IntKind.max,IntKind.bits,IntKind.signed] <;> omega
theorem code_num {xs:List Int} (h:code xs = 0):xs.length = 5 ∧ ∀ k,k < 5 → 0 ≤ xs.getD k 0 ∧ xs.getD k 0 ≤ 1000000 := by
 unfold code at h
 split at h
 ·rename_i e
  refine ⟨e,fun k hk => ?_⟩
  split at h
  ·omega
  ·rename_i hb
   have:Vec.out (xs.getD k 0) = false := by
    cases q:Vec.out (xs.getD k 0)
    ·rfl
    ·exact absurd (Vec.anyP_true (p := fun k => Vec.out (xs.getD k 0)) hk q) hb
   simp [Vec.out] at this
   exact this
 ·omega
structure En where
 t:Int
 s:Sd
 g:Nat
 c:Nat
def En.n (e:En):Int := e.s.2.2.getD e.s.1.toNat 0
def En.clk (e:En):Value := .slice (some ⟨e.g,0,none⟩) 5 e.c
def En.val (e:En):Value := .agg #[.int .i64 e.t,.int .i64 e.s.1,.int .i64 e.s.2.1,.slice (some ⟨e.g,0,none⟩) 5 e.c]
def En.key (e:En):Lit := kl e.s.1 e.n
def En.at (e:En):Value := .agg #[.int .i64 e.s.1,.int .i64 e.n]
theorem who_nat {s:Sd} (h:SdOk s):∃ m:Nat,s.1 = (m:Int) ∧ m < 5 := ⟨s.1.toNat,by have := h.who; omega,by have := h.who; omega⟩
theorem SdOk.num {s:Sd} (h:SdOk s):0 ≤ s.2.2.getD s.1.toNat 0 ∧ s.2.2.getD s.1.toNat 0 ≤ 1000000 := (code_num h.clk).2 _ (by have := h.who; omega)
theorem En.okK {e:En} (h:SdOk e.s):okK e.s.1 e.n := okK_of h.who ⟨(SdOk.num h).1,by have := (SdOk.num h).2; unfold En.n; omega⟩
theorem En.keyOf {e:En} (h:SdOk e.s):keyOf Tryz.prog 166 e.at = some e.key := keyK (En.okK h)
def RV (v:Value):Option (DataW Value × List MemPlace) := some (.held v,[])
theorem RV_inv {u v:Value} {ps:List MemPlace} (h:RV u = some (.held v,ps)):u = v := by
 have h1:(DataW.held u,([]:List MemPlace)) = (DataW.held v,ps) := Option.some.inj h
 have h2:DataW.held u = DataW.held v := (Prod.mk.inj h1).1
 exact DataW.held.inj h2
structure MW (D:DataW Value) (es:List En):Prop where
 tidy:Tidy D
 has:∀ k,Maps.has D k = true ↔ ∃ e ∈ es,k = e.key
 at_:∀ e ∈ es,∀ z,D.atKey e.key z = .held e.val
 size:Maps.size D = es.length
theorem MW.start:MW (.map []) [] := ⟨tidy_empty,fun k => by simp [Maps.has],fun e he => absurd he List.not_mem_nil,rfl⟩
theorem MW.hasnt {D:DataW Value} {es:List En} (g:MW D es) {k:Lit} (h:∀ e ∈ es,k ≠ e.key):Maps.has D k = false := by
 cases q:Maps.has D k
 ·rfl
 ·obtain ⟨e,he,rfl⟩ := (g.has k).1 q
  exact absurd rfl (h e he)
theorem MW.put {D:DataW Value} {es:List En} (g:MW D es) (e:En) (hk:WideAt.IsKeyLit e.key) (hn:∀ x ∈ es,x.key ≠ e.key):MW (D.put e.key (.held e.val)) (es ++ [e]) := by
 refine ⟨g.tidy.put hk _,fun k => ?_,fun x hx z => ?_,?_⟩
 ·by_cases q:k = e.key
  ·subst q
   exact ⟨fun _ => ⟨e,by simp,rfl⟩,fun _ => has_put_same g.tidy.isMap hk _⟩
  ·rw [has_put_other q,g.has]
   constructor
   ·rintro ⟨x,hx,rfl⟩
    exact ⟨x,List.mem_append_left _ hx,rfl⟩
   ·rintro ⟨x,hx,rfl⟩
    rcases List.mem_append.1 hx with a | a
    ·exact ⟨x,a,rfl⟩
    ·rw [List.mem_singleton.1 a] at q
     exact absurd rfl q
 ·rcases List.mem_append.1 hx with a | a
  ·rw [atKey_put_other (hn x a),g.at_ x a]
  ·rw [List.mem_singleton.1 a,atKey_put_same g.tidy.isMap hk]
 ·rw [size_put g.tidy,g.hasnt (fun x hx q => hn x hx q.symm),List.length_append,g.size]
  rfl
abbrev Uq (es:List En):Prop := es.Pairwise fun a b => a.key ≠ b.key
theorem uq_get {es:List En} (hu:Uq es) {i j:Nat} (hi:i < es.length) (hj:j < es.length) (hne:i ≠ j):es[i].key ≠ es[j].key := by
 rcases Nat.lt_or_gt_of_ne hne with a | a
 ·exact List.pairwise_iff_getElem.1 hu i j hi hj a
 ·exact fun e => List.pairwise_iff_getElem.1 hu j i hj hi a e.symm
theorem mem_erase {es:List En} (hu:Uq es) {i:Nat} (hi:i < es.length) (x:En):x ∈ es.eraseIdx i ↔ x ∈ es ∧ x.key ≠ es[i].key := by
 rw [List.mem_eraseIdx_iff_getElem]
 constructor
 ·rintro ⟨j,hj,hne,rfl⟩
  exact ⟨List.getElem_mem _,uq_get hu hj hi hne⟩
 ·rintro ⟨hx,hk⟩
  obtain ⟨j,hj,rfl⟩ := List.getElem_of_mem hx
  exact ⟨j,hj,fun e => hk (by subst e; rfl),rfl⟩
theorem MW.del {D:DataW Value} {es:List En} (g:MW D es) (hu:Uq es) {i:Nat} (hi:i < es.length):MW (D.del es[i].key) (es.eraseIdx i) := by
 refine ⟨g.tidy.del _,fun k => ?_,fun x hx z => ?_,?_⟩
 ·by_cases q:k = es[i].key
  ·subst q
   rw [has_del_same]
   refine ⟨fun h => absurd h (by decide),?_⟩
   rintro ⟨x,hx,e⟩
   exact absurd e.symm ((mem_erase hu hi x).1 hx).2
  ·rw [has_del_other q,g.has]
   constructor
   ·rintro ⟨x,hx,rfl⟩
    exact ⟨x,(mem_erase hu hi x).2 ⟨hx,q⟩,rfl⟩
   ·rintro ⟨x,hx,rfl⟩
    exact ⟨x,((mem_erase hu hi x).1 hx).1,rfl⟩
 ·obtain ⟨h1,h2⟩ := (mem_erase hu hi x).1 hx
  rw [atKey_del_other h2,g.at_ x h1]
 ·have h1 := size_del (k := es[i].key) g.tidy
  rw [(g.has _).2 ⟨es[i],List.getElem_mem _,rfl⟩,g.size] at h1
  rw [List.length_eraseIdx,if_pos hi]
  simp at h1
  omega
theorem own_norm {k:TypeId} {w:World} {b n:Nat} {D:DataW Value} (h:w.ownsMap Tryz.prog k RV b n D):w.ownsMap Tryz.prog k RV b (Maps.size D) D := by
 obtain ⟨es,clock,hb,F,_,rfl⟩ := h
 exact ⟨es,clock,hb,F,by simp [Maps.size,length_sorted],rfl⟩
theorem own_heap {k:TypeId} {w w':World} {b n:Nat} {D:DataW Value} (h:w.ownsMap Tryz.prog k RV b n D) (he:w'.heap[b]? = w.heap[b]?):w'.ownsMap Tryz.prog k RV b n D := by
 obtain ⟨es,clock,hb,r⟩ := h
 exact ⟨es,clock,by rw [he]; exact hb,r⟩
set_option maxRecDepth 100000 in
theorem next_cases {w:World} {b r n:Nat} {D:DataW Value} {es:List En} {left:Lit → Bool} {cnt:Nat} (h:w.ranges Tryz.prog 166 RV b r n D left cnt) (v:MW D es) (ok:∀ e ∈ es,SdOk e.s) (ty:TypeId) :
  (cnt = 0 ∧ (∀ kl,left kl = false) ∧ (Instr.next (.pointer (some ⟨r,0,none⟩)) false ty).run Tryz.prog w = .ok (.tuple #[.bool false]) w) ∨
  ∃ e ∈ es,left e.key = true ∧ ∃ w' cnt',(Instr.next (.pointer (some ⟨r,0,none⟩)) false ty).run Tryz.prog w = .ok (.tuple #[.bool true,e.at,e.val]) w' ∧
   w'.ranges Tryz.prog 166 RV b r n D (fun x => left x && !x.sameKey e.key) cnt' ∧ cnt' < cnt ∧ w.grownBy w' (some r) ∧ w'.heap.size = w.heap.size ∧ (Instr.entry (.pointer (some ⟨r,0,none⟩))).run Tryz.prog w' = .ok (.tuple #[e.at,e.val]) w' := by
 rcases h.next law ty with h | ⟨key,u,k,y,w',cnt',hkey,hl,hu,hat,hrun,hrg,hlt,hg,hs,hen⟩
 ·exact .inl h
 ·obtain ⟨e,he,rfl⟩ := (v.has k).1 (has_true_of_atKey hat)
  have e1:key = e.at := law.inj hkey (En.keyOf (ok e he))
  have e2:u = e.val := by
   have q := hat .nil
   rw [v.at_ e he,← Option.some.inj (hu:some (DataW.held u,[]) = some y)] at q
   injection q with q
   exact q.symm
  subst e1 e2
  exact .inr ⟨e,he,hl,w',cnt',hrun,hrg,hlt,hg,hs,hen⟩
end Go.Proofs.YtdmniblonikjlakGreatDoor.Cap


namespace Go.Proofs.YtdmniblonikjlakGreatDoor.Cap
open Go.RowKit Go.Maps
open Cau
open Vec (code Vw)
open Fif (own_lt own_block own_mono own_vw Kp)
set_option linter.unusedVariables false
def sumK (K:List Int):Int := K.getD 0 0 + K.getD 1 0 + K.getD 2 0 + K.getD 3 0 + K.getD 4 0
theorem sum_inc {K:List Int} (h5:K.length = 5) {m:Nat} (hm:m < 5):sumK (inc K (m:Int)) = sumK K + 1 := by
 match K,h5 with
 | [a,b,c,d,e],_ => rcases m with _ | _ | _ | _ | _ | m <;> first | omega | (simp [sumK,inc,List.getD]; omega)
theorem inc_len {K:List Int} (who:Int):(inc K who).length = K.length := by simp [inc]
theorem inc_get {K:List Int} (h5:K.length = 5) {m j:Nat} (hm:m < 5):(inc K (m:Int)).getD j 0 = if j = m then K.getD m 0 + 1 else K.getD j 0 := by
 unfold inc
 rw [Int.toNat_natCast]
 by_cases e:j = m
 ·subst e
  rw [if_pos rfl]
  simp [List.getD,show j < K.length by omega]
 ·rw [if_neg e]
  simp [List.getD,List.getElem?_set_ne (fun q => e q.symm)]
def csv (me:Int) (K:List Int) (cn:Int) (mb:Nat) (j:Nat):Value := if j = 0 then .int .i64 me else if j = 7 then .map (some mb) else if j = 6 then .int .i64 cn else .int .i64 (K.getD (j - 1) 0)
structure CF (w:World) (base P mb:Nat) (me:Int) (K:List Int) (cn:Int) (es:List En):Prop where
 row:w.rowIs P 159 8 (csv me K cn mb)
 map:∃ D,w.ownsMap Tryz.prog 166 RV mb es.length D ∧ MW D es
 own:∀ e ∈ es,w.ownsRow base 3 1 e.clk 5 (e.s.2.2.map (Value.int .i64))
 five:K.length = 5
 num:∀ j,j < 5 → 0 ≤ K.getD j 0 ∧ K.getD j 0 ≤ 1000000
 me_ok:0 ≤ me ∧ me ≤ 4
 low:base ≤ P ∧ base ≤ mb
 uq:Uq es
 rise:es.Pairwise fun a b => a.t < b.t
 top:∀ e ∈ es,e.t ≤ cn
 ok:∀ e ∈ es,SdOk e.s
def Cn (K:List Int) (cn:Int) (es:List En):Prop := 0 ≤ cn ∧ cn ≤ sumK K + es.length
def fpOf (P mb:Nat) (es:List En):List Nat := P :: mb :: es.map En.g
variable {w w':World} {base P mb:Nat} {me:Int} {K:List Int} {cn:Int} {es:List En}
theorem CF.lt (g:CF w base P mb me K cn es):P < w.heap.size ∧ mb < w.heap.size := by
 obtain ⟨D,h,_⟩ := g.map
 exact ⟨World.rowIs.lt g.row,h.lt⟩
theorem CF.glt (g:CF w base P mb me K cn es) {e:En} (he:e ∈ es):base ≤ e.g ∧ e.g < w.heap.size := own_lt (g.own e he) e.g rfl
theorem CF.fp (g:CF w base P mb me K cn es):∀ b ∈ fpOf P mb es,base ≤ b ∧ b < w.heap.size := by
 intro b hb
 rcases List.mem_cons.1 hb with rfl | hb
 ·exact ⟨g.low.1,g.lt.1⟩
 ·rcases List.mem_cons.1 hb with rfl | hb
  ·exact ⟨g.low.2,g.lt.2⟩
  ·obtain ⟨e,he,rfl⟩ := List.mem_map.1 hb
   exact g.glt he
theorem CF.apart (g:CF w base P mb me K cn es):P ≠ mb := by
 obtain ⟨D,⟨es',clock,hb,_⟩,_⟩ := g.map
 obtain ⟨c,hc,_⟩ := g.row
 intro e
 rw [e,hb] at hc
 cases hc
theorem CF.gP (g:CF w base P mb me K cn es) {e:En} (he:e ∈ es):e.g ≠ P ∧ e.g ≠ mb := by
 obtain ⟨D,⟨es',clock,hb,_⟩,_⟩ := g.map
 obtain ⟨c,hc,_⟩ := g.row
 rcases (g.own e he).2 with ⟨h2,_⟩ | ⟨g',cap',cur,hv,_,hh,_⟩
 ·cases h2
 ·cases hv
  refine ⟨fun q => ?_,fun q => ?_⟩
  ·rw [q] at hh
   rw [hh] at hc
   cases hc
  ·rw [q,hb] at hh
   cases hh
theorem CF.of_blocks (g:CF w base P mb me K cn es) (h:∀ b ∈ fpOf P mb es,w'.heap[b]? = w.heap[b]?):CF w' base P mb me K cn es := by
 obtain ⟨D,hm,v⟩ := g.map
 refine ⟨World.rowIs.of_block g.row (h P (by simp [fpOf])),⟨D,own_heap hm (h mb (by simp [fpOf])),v⟩,fun e he => own_block (g.own e he) fun k hk => ?_,g.five,g.num,g.me_ok,g.low,g.uq,g.rise,g.top,g.ok⟩
 have:e.g = k := by simpa [En.clk,Value.ownBlock] using hk
 subst this
 exact h e.g (by simp [fpOf]; exact .inr (.inr ⟨e,he,rfl⟩))
theorem CF.later (g:CF w base P mb me K cn es) (hb:Below w.heap.size w w'):CF w' base P mb me K cn es := g.of_blocks fun b h => hb.block b (g.fp b h).2
theorem CF.lower (g:CF w base P mb me K cn es) {base':Nat} (h:base' ≤ base):CF w base' P mb me K cn es :=
 ⟨g.row,g.map,fun e he => own_mono (g.own e he) h,g.five,g.num,g.me_ok,⟨Nat.le_trans h g.low.1,Nat.le_trans h g.low.2⟩,g.uq,g.rise,g.top,g.ok⟩
theorem CF.who (g:CF w base P mb me K cn es):w.cell? ⟨P,0,none⟩ = some (.int .i64 me) ∧ w.frozen? ⟨P,0,none⟩ = false := ⟨World.rowIs.cell g.row (i := 0) (by omega),World.rowIs.frozen g.row 0⟩
theorem CF.clock (g:CF w base P mb me K cn es) {m:Nat} (hm:m < 5):w.cell? ⟨P,1 + m,none⟩ = some (.int .i64 (K.getD m 0)) ∧ w.frozen? ⟨P,1 + m,none⟩ = false := by
 have := World.rowIs.cell g.row (i := 1 + m) (by omega)
 rw [csv,if_neg (by omega),if_neg (by omega),if_neg (by omega),show 1 + m - 1 = m by omega] at this
 exact ⟨this,World.rowIs.frozen g.row (1 + m)⟩
theorem CF.came (g:CF w base P mb me K cn es):w.cell? ⟨P,6,none⟩ = some (.int .i64 cn) ∧ w.frozen? ⟨P,6,none⟩ = false := ⟨World.rowIs.cell g.row (i := 6) (by omega),World.rowIs.frozen g.row 6⟩
theorem CF.wait (g:CF w base P mb me K cn es):w.cell? ⟨P,7,none⟩ = some (.map (some mb)) ∧ w.frozen? ⟨P,7,none⟩ = false := ⟨World.rowIs.cell g.row (i := 7) (by omega),World.rowIs.frozen g.row 7⟩
theorem CF.vw (g:CF w base P mb me K cn es) {e:En} (he:e ∈ es):Vw w (some ⟨e.g,0,none⟩) 5 e.s.2.2 := by
 obtain ⟨a,c,q,hv⟩ := own_vw (g.own e he)
 cases q
 exact hv
theorem CF.cn_le (g:CF w base P mb me K cn es) (hc:Cn K cn es):cn ≤ 5000000 + es.length := by
 have h0 := g.num 0 (by omega)
 have h1 := g.num 1 (by omega)
 have h2 := g.num 2 (by omega)
 have h3 := g.num 3 (by omega)
 have h4 := g.num 4 (by omega)
 have := hc.2
 unfold sumK at this
 omega
theorem CF.incK (g:CF w base P mb me K cn es) {m:Nat} (hm:m < 5) (hlt:K.getD m 0 < 1000000):CF (w.setCell ⟨P,1 + m,none⟩ (.int .i64 (K.getD m 0 + 1))) base P mb me (inc K (m:Int)) cn es := by
 obtain ⟨D,h,v⟩ := g.map
 refine ⟨(World.rowIs.set g.row (1 + m) _).congr fun j hj => ?_,⟨D,own_heap h (Deep.blk_setCell_other _ _ _ _ (fun e => g.apart e.symm)),v⟩,fun e he => own_block (g.own e he) fun k hk => ?_,by rw [inc_len]; exact g.five,fun j hj => ?_,g.me_ok,g.low,g.uq,g.rise,g.top,g.ok⟩
 ·unfold csv
  by_cases e:j = 1 + m
  ·subst e
   rw [if_pos rfl,if_neg (by omega),if_neg (by omega),if_neg (by omega),show 1 + m - 1 = m by omega,inc_get g.five hm,if_pos rfl]
  ·rw [if_neg e]
   by_cases e0:j = 0
   ·rw [if_pos e0,if_pos e0]
   ·rw [if_neg e0,if_neg e0]
    by_cases e7:j = 7
    ·rw [if_pos e7,if_pos e7]
    ·rw [if_neg e7,if_neg e7]
     by_cases e6:j = 6
     ·rw [if_pos e6,if_pos e6]
     ·rw [if_neg e6,if_neg e6,inc_get g.five hm,if_neg (by omega)]
 ·have:e.g = k := by simpa [En.clk,Value.ownBlock] using hk
  subst this
  exact Deep.blk_setCell_other _ _ _ _ (g.gP he).1
 ·rw [inc_get g.five hm]
  have h1 := g.num m hm
  have h2 := g.num j hj
  split <;> omega
theorem Cn.incK (h:Cn K cn es) (h5:K.length = 5) {m:Nat} (hm:m < 5):Cn (inc K (m:Int)) cn es := by
 unfold Cn at h ⊢
 rw [sum_inc h5 hm]
 omega
theorem Cn.put (h:Cn K cn es) (e:En):Cn K (cn + 1) (es ++ [e]) := by
 unfold Cn at h ⊢
 rw [List.length_append]
 simp
 omega
theorem Cn.del (h:Cn K cn es) (h5:K.length = 5) {m i:Nat} (hm:m < 5) (hi:i < es.length):Cn (inc K (m:Int)) cn (es.eraseIdx i) := by
 unfold Cn at h ⊢
 rw [sum_inc h5 hm,List.length_eraseIdx,if_pos hi]
 omega
theorem CF.setCn (g:CF w base P mb me K cn es):CF (w.setCell ⟨P,6,none⟩ (.int .i64 (cn + 1))) base P mb me K (cn + 1) es := by
 obtain ⟨D,h,v⟩ := g.map
 refine ⟨(World.rowIs.set g.row 6 _).congr fun j hj => ?_,⟨D,own_heap h (Deep.blk_setCell_other _ _ _ _ (fun e => g.apart e.symm)),v⟩,fun e he => own_block (g.own e he) fun k hk => ?_,g.five,g.num,g.me_ok,g.low,g.uq,g.rise,fun e he => by have := g.top e he; omega,g.ok⟩
 ·unfold csv
  by_cases e6:j = 6
  ·rw [if_pos e6,if_neg (by omega),if_neg (by omega),if_pos e6]
  ·rw [if_neg e6,if_neg e6,if_neg e6]
 ·have:e.g = k := by simpa [En.clk,Value.ownBlock] using hk
  subst this
  exact Deep.blk_setCell_other _ _ _ _ (g.gP he).1
theorem zeroW (W:World):(zeroValue 164).run Tryz.prog W = .ok (.agg #[.int .i64 0,.int .i64 0,.int .i64 0,.slice none 0 0]) W := by kernel_rfl
theorem CF.look_ok (g:CF w base P mb me K cn es) {e:En} (he:e ∈ es):∀ W:World,W.heap[mb]? = w.heap[mb]? → (Instr.lookup 157 (.map (some mb)) e.at true).run Tryz.prog W = .ok (.tuple #[e.val,.bool true]) W := by
 intro W hW
 obtain ⟨D,h,v⟩ := g.map
 have h':W.ownsMap Tryz.prog 166 RV mb es.length D := own_heap h hW
 obtain ⟨u,ps,e1,e2⟩ := h'.look_ok law Tryz.underlying157 (zeroW W) (zd := .held _) (zp := []) rfl (En.keyOf (g.ok e he))
 rw [(v.has _).2 ⟨e,he,rfl⟩] at e1
 rw [v.at_ e he] at e2
 have:u = e.val := RV_inv e2
 rw [e1,this]
theorem CF.look (g:CF w base P mb me K cn es) {e:En} (he:e ∈ es):∀ W:World,W.heap[mb]? = w.heap[mb]? → (Instr.lookup 157 (.map (some mb)) e.at false).run Tryz.prog W = .ok e.val W := by
 intro W hW
 obtain ⟨D,h,v⟩ := g.map
 have h':W.ownsMap Tryz.prog 166 RV mb es.length D := own_heap h hW
 obtain ⟨u,ps,e1,e2⟩ := h'.lookup law Tryz.underlying157 (zeroW W) (zd := .held _) (zp := []) rfl (En.keyOf (g.ok e he))
 rw [v.at_ e he] at e2
 have:u = e.val := RV_inv e2
 rw [e1,this]
theorem CF.look_none (g:CF w base P mb me K cn es) {a b:Int} (hk:okK a b) (hn:∀ e ∈ es,kl a b ≠ e.key):∀ W:World,W.heap[mb]? = w.heap[mb]? → (Instr.lookup 157 (.map (some mb)) (.agg #[.int .i64 a,.int .i64 b]) true).run Tryz.prog W = .ok (.tuple #[.agg #[.int .i64 0,.int .i64 0,.int .i64 0,.slice none 0 0],.bool false]) W := by
 intro W hW
 obtain ⟨D,h,v⟩ := g.map
 have h':W.ownsMap Tryz.prog 166 RV mb es.length D := own_heap h hW
 obtain ⟨u,ps,e1,e2⟩ := h'.look_ok law Tryz.underlying157 (zeroW W) (zd := .held _) (zp := []) rfl (keyK hk)
 rw [atKey_of_not_has (v.hasnt hn)] at e2
 rw [v.hasnt hn] at e1
 have:u = .agg #[.int .i64 0,.int .i64 0,.int .i64 0,.slice none 0 0] := RV_inv e2
 rw [e1,this]
theorem CF.len (g:CF w base P mb me K cn es) (ty:TypeId):∀ W:World,W.heap = w.heap → (Builtin.len_ #[157] ty #[.map (some mb)]).run Tryz.prog W = .ok (.int .i64 es.length) W := by
 intro W hW
 obtain ⟨D,h,v⟩ := g.map
 have h':W.ownsMap Tryz.prog 166 RV mb es.length D := own_heap h (by rw [hW])
 rw [h'.len Tryz.underlying157 ty,v.size]
theorem g_of_turned {P':Nat} (h:w.mapTurned w' mb) (hP:P' < w.heap.size) (hne:P' ≠ mb):w'.heap[P']? = w.heap[P']? := h.grown.block P' hP (fun q => hne (Option.some.inj q))
theorem CF.put (g:CF w base P mb me K cn es) (e:En) (ho:w.ownsRow base 3 1 e.clk 5 (e.s.2.2.map (Value.int .i64))) (hok:SdOk e.s) (hn:∀ x ∈ es,x.key ≠ e.key) (ht:∀ x ∈ es,x.t < e.t) (htc:e.t ≤ cn) (hlen:es.length < maxLen) :
  ∃ w',(Instr.mapUpdate 157 (.map (some mb)) e.at e.val).run Tryz.prog w = .ok () w' ∧ CF w' base P mb me K cn (es ++ [e]) ∧ w.mapTurned w' mb := by
 obtain ⟨D,h,v⟩ := g.map
 obtain ⟨w',er,h',t⟩ := h.store law Tryz.underlying157 hlen (En.keyOf hok) (val := e.val) rfl
 have v' := v.put e (kl_key (En.okK hok)) hn
 have hgm:e.g ≠ mb := by
  obtain ⟨es',clock,hb,_⟩ := h
  rcases ho.2 with ⟨h2,_⟩ | ⟨g',cap',cur,hv,_,hh,_⟩
  ·cases h2
  ·cases hv
   intro q
   rw [q,hb] at hh
   cases hh
 have hlt:e.g < w.heap.size := (own_lt ho e.g rfl).2
 refine ⟨w',er,⟨World.rowIs.of_block g.row (g_of_turned t g.lt.1 g.apart),⟨_,?_,v'⟩,fun x hx => ?_,g.five,g.num,g.me_ok,g.low,?_,?_,fun x hx => ?_,fun x hx => ?_⟩,t⟩
 ·rw [← v'.size]
  exact own_norm h'
 ·have hx':w.ownsRow base 3 1 x.clk 5 (x.s.2.2.map (Value.int .i64)) ∧ x.g ≠ mb ∧ x.g < w.heap.size := by
   rcases List.mem_append.1 hx with a | a
   ·exact ⟨g.own x a,(g.gP a).2,(g.glt a).2⟩
   ·rw [List.mem_singleton.1 a]
    exact ⟨ho,hgm,hlt⟩
  refine own_block hx'.1 fun k hk => ?_
  have:x.g = k := by simpa [En.clk,Value.ownBlock] using hk
  subst this
  exact g_of_turned t hx'.2.2 hx'.2.1
 ·rw [Uq,List.pairwise_append]
  exact ⟨g.uq,List.pairwise_singleton _ _,fun a ha b hb => by rw [List.mem_singleton.1 hb]; exact hn a ha⟩
 ·rw [List.pairwise_append]
  exact ⟨g.rise,List.pairwise_singleton _ _,fun a ha b hb => by rw [List.mem_singleton.1 hb]; exact ht a ha⟩
 ·rcases List.mem_append.1 hx with a | a
  ·exact g.top x a
  ·rw [List.mem_singleton.1 a]; exact htc
 ·rcases List.mem_append.1 hx with a | a
  ·exact g.ok x a
  ·rw [List.mem_singleton.1 a]; exact hok
theorem CF.del (g:CF w base P mb me K cn es) {i:Nat} (hi:i < es.length) (ty:TypeId) :
  ∃ w',(Builtin.delete_ #[157,166] ty #[.map (some mb),es[i].at]).run Tryz.prog w = .ok (.tuple #[]) w' ∧ CF w' base P mb me K cn (es.eraseIdx i) ∧ w.mapTurned w' mb := by
 obtain ⟨D,h,v⟩ := g.map
 obtain ⟨w',er,h',t⟩ := h.drop law Tryz.underlying157 (En.keyOf (g.ok _ (List.getElem_mem hi))) ty
 have v' := v.del g.uq hi
 have hsub := List.eraseIdx_sublist es i
 refine ⟨w',er,⟨World.rowIs.of_block g.row (g_of_turned t g.lt.1 g.apart),⟨_,?_,v'⟩,fun e he => own_block (g.own e (hsub.subset he)) fun k hk => ?_,g.five,g.num,g.me_ok,g.low,g.uq.sublist hsub,g.rise.sublist hsub,fun e he => g.top e (hsub.subset he),fun e he => g.ok e (hsub.subset he)⟩,t⟩
 ·rw [← v'.size]
  exact own_norm h'
 ·have:e.g = k := by simpa [En.clk,Value.ownBlock] using hk
  subst this
  have he' := hsub.subset he
  exact g_of_turned t (g.glt he').2 (g.gP he').2
theorem turned_below {b base:Nat} (h:w.mapTurned w' b) (hb:base ≤ b):Below base w w' := by
 have hlt:b < w.heap.size := by
  obtain ⟨es,c,_,_,h1,_⟩ := h
  exact (Array.getElem?_eq_some_iff.1 h1).1
 exact (Below.refl base w).grown h.grown (by omega) (fun k e => by cases e; exact hb)
theorem turned_kp {b:Nat} (h:w.mapTurned w' b) (P:Nat):Kp w w' P (some b) := Kp.grown h.grown P
theorem below_drews {B:Nat} {a w:World} (h:Below B a w) (n:Nat):Below B a (w.drewN n) := ⟨h.os,h.tape,h.output,h.size,h.block⟩
end Go.Proofs.YtdmniblonikjlakGreatDoor.Cap


namespace Go.Proofs.YtdmniblonikjlakGreatDoor.Cap
open Go.RowKit Go.Maps
open Cau
open Vec (code Vw anyP)
set_option linter.unusedVariables false
def anyO (m:Nat) (p:Nat → Bool):Bool := anyP fun k => decide (k ≠ m) && p k
theorem rdy_split {K:List Int} {word:Int} {clk:List Int} {m:Nat} (hm:m < 5):rdy K ((m:Int),word,clk) = (decide (clk.getD m 0 = K.getD m 0 + 1) && !anyO m (fun k => decide (K.getD k 0 < clk.getD k 0))) := by
 cases hr:rdy K ((m:Int),word,clk)
 ·symm
  rw [Bool.and_eq_false_iff]
  by_cases e:clk.getD m 0 = K.getD m 0 + 1
  ·right
   cases ha:anyO m (fun k => decide (K.getD k 0 < clk.getD k 0))
   ·exfalso
    have:rdy K ((m:Int),word,clk) = true := by
     rw [rdy_iff]
     intro i hi
     by_cases q:i = m
     ·subst q
      rw [rdyAt_own rfl]
      exact decide_eq_true e
     ·rw [rdyAt_other (by show ¬ (i:Int) = (m:Int); omega)]
      apply decide_eq_true
      show clk.getD i 0 ≤ K.getD i 0
      rcases Int.lt_or_le (K.getD i 0) (clk.getD i 0) with a | a
      ·have:anyO m (fun k => decide (K.getD k 0 < clk.getD k 0)) = true := Vec.anyP_true hi (by show (decide (i ≠ m) && decide (K.getD i 0 < clk.getD i 0)) = true; rw [decide_eq_true q,decide_eq_true a]; rfl)
       rw [ha] at this
       cases this
      ·exact a
    rw [hr] at this
    cases this
   ·rfl
  ·left
   exact decide_eq_false e
 ·symm
  rw [rdy_iff] at hr
  have h1 := hr m hm
  rw [rdyAt_own rfl] at h1
  have h2:anyO m (fun k => decide (K.getD k 0 < clk.getD k 0)) = false := Vec.anyP_false fun j hj => by
   by_cases q:j = m
   ·simp [q]
   ·have := hr j hj
    rw [rdyAt_other (by show ¬ (j:Int) = (m:Int); omega)] at this
    have h3 := of_decide_eq_true this
    have h4:clk.getD j 0 ≤ K.getD j 0 := h3
    simp [q]
    simpa [List.getD] using h4
  rw [h2,h1]
  rfl
theorem sd_map {es:List En} {i:Nat} (hi:i < es.length):sd (es.map En.s) i = es[i].s := by
 unfold sd
 rw [List.getD,List.getElem?_eq_getElem (by simpa using hi)]
 simp
theorem first_none {K:List Int} {es:List En} (h:∀ e ∈ es,rdy K e.s = false):(es.map En.s).findIdx? (rdy K) = none := idx_none fun j hj => by
 have hj':j < es.length := by simpa using hj
 rw [sd_map hj']
 exact h _ (List.getElem_mem _)
theorem first_some {K:List Int} {es:List En} (hr:es.Pairwise fun a b => a.t < b.t) {e0:En} (he:e0 ∈ es) (h0:rdy K e0.s = true) (hmin:∀ e ∈ es,rdy K e.s = true → e0.t ≤ e.t) :
  ∃ i,∃ hi:i < es.length,es[i] = e0 ∧ (es.map En.s).findIdx? (rdy K) = some i := by
 obtain ⟨i,hi,rfl⟩ := List.getElem_of_mem he
 refine ⟨i,hi,rfl,idx_some (by simpa using hi) (by rw [sd_map hi]; exact h0) fun j hj => ?_⟩
 have hj':j < es.length := by omega
 rw [sd_map hj']
 cases q:rdy K es[j].s
 ·rfl
 ·have h1 := hmin _ (List.getElem_mem hj') q
  have h2 := List.pairwise_iff_getElem.1 hr j i hj' hi hj
  omega
def go1 (K:List Int) (ws:List Sd) (i:Nat):List Int × List Int × List Sd := ((sd ws i).2.1 :: (run (inc K (sd ws i).1) (ws.eraseIdx i)).1,(run (inc K (sd ws i).1) (ws.eraseIdx i)).2)
theorem erase_map {es:List En} {i:Nat}:(es.eraseIdx i).map En.s = (es.map En.s).eraseIdx i := by
 induction es generalizing i with
 | nil => rfl
 | cons e es ih =>
  cases i with
  | zero => rfl
  | succ i => exact congrArg (e.s :: ·) ih
theorem key_one {es:List En} (hu:Uq es) {a b:En} (ha:a ∈ es) (hb:b ∈ es) (h:a.key = b.key):a = b := by
 obtain ⟨i,hi,rfl⟩ := List.getElem_of_mem ha
 obtain ⟨j,hj,rfl⟩ := List.getElem_of_mem hb
 by_cases q:i = j
 ·subst q; rfl
 ·exact absurd h (uq_get hu hi hj q)
def FM (K:List Int) (es:List En) (left:Lit → Bool) (vf:Value) (found:Bool):Prop :=
 (found = false ∧ ∀ e ∈ es,left e.key = false → rdy K e.s = false) ∨
 (found = true ∧ ∃ e0 ∈ es,vf = e0.at ∧ left e0.key = false ∧ rdy K e0.s = true ∧ ∀ e ∈ es,left e.key = false → rdy K e.s = true → e0.t ≤ e.t)
def strike (left:Lit → Bool) (k:Lit):Lit → Bool := fun x => left x && !x.sameKey k
theorem strike_new {es:List En} (hu:Uq es) {left:Lit → Bool} {x e:En} (hx:x ∈ es) (he:e ∈ es) (h:strike left e.key x.key = false):left x.key = false ∨ x = e := by
 unfold strike at h
 cases q:left x.key
 ·exact .inl rfl
 ·rw [q] at h
  have:x.key.sameKey e.key = true := by simpa using h
  exact .inr (key_one hu hx he (WideAt.sameKey_eq this))
theorem strike_old {left:Lit → Bool} {k l:Lit} (h:left l = false):strike left k l = false := by simp [strike,h]
theorem strike_self {left:Lit → Bool} {k:Lit} (h:WideAt.IsKeyLit k):strike left k k = false := by simp [strike,WideAt.sameKey_self h]
theorem FM.pass {K:List Int} {es:List En} {left:Lit → Bool} {vf:Value} {found:Bool} (g:FM K es left vf found) (hu:Uq es) {e:En} (he:e ∈ es) (h:rdy K e.s = false):FM K es (strike left e.key) vf found := by
 rcases g with ⟨h1,h2⟩ | ⟨h1,e0,h0,hv,hl,hr,hm⟩
 ·exact .inl ⟨h1,fun x hx q => by
   rcases strike_new hu hx he q with a | rfl
   ·exact h2 x hx a
   ·exact h⟩
 ·refine .inr ⟨h1,e0,h0,hv,strike_old hl,hr,fun x hx q r => ?_⟩
  rcases strike_new hu hx he q with a | rfl
  ·exact hm x hx a r
  ·rw [h] at r; cases r
theorem FM.one {K:List Int} {es:List En} {left:Lit → Bool} {vf:Value} (g:FM K es left vf false) (hu:Uq es) {e:En} (he:e ∈ es) (hk:WideAt.IsKeyLit e.key) (h:rdy K e.s = true):FM K es (strike left e.key) e.at true := by
 rcases g with ⟨_,h2⟩ | ⟨h1,_⟩
 ·refine .inr ⟨rfl,e,he,rfl,strike_self hk,h,fun x hx q r => ?_⟩
  rcases strike_new hu hx he q with a | rfl
  ·rw [h2 x hx a] at r; cases r
  ·exact Int.le_refl _
 ·cases h1
theorem FM.get {K:List Int} {es:List En} {left:Lit → Bool} {vf:Value} (g:FM K es left vf true):∃ e0 ∈ es,vf = e0.at ∧ left e0.key = false ∧ rdy K e0.s = true ∧ ∀ e ∈ es,left e.key = false → rdy K e.s = true → e0.t ≤ e.t := by
 rcases g with ⟨h1,_⟩ | ⟨_,h⟩
 ·cases h1
 ·exact h
theorem FM.less {K:List Int} {es:List En} {left:Lit → Bool} {e0:En} (hu:Uq es) (hm:∀ e ∈ es,left e.key = false → rdy K e.s = true → e0.t ≤ e.t) {e:En} (he:e ∈ es) (hk:WideAt.IsKeyLit e.key) (h:rdy K e.s = true) (hlt:e.t < e0.t):FM K es (strike left e.key) e.at true :=
 .inr ⟨rfl,e,he,rfl,strike_self hk,h,fun x hx q r => by
  rcases strike_new hu hx he q with a | rfl
  ·have := hm x hx a r; omega
  ·exact Int.le_refl _⟩
theorem FM.more {K:List Int} {es:List En} {left:Lit → Bool} {e0:En} (hu:Uq es) (h0:e0 ∈ es) (hl:left e0.key = false) (hr:rdy K e0.s = true) (hm:∀ e ∈ es,left e.key = false → rdy K e.s = true → e0.t ≤ e.t) {e:En} (he:e ∈ es) (hle:e0.t ≤ e.t):FM K es (strike left e.key) e0.at true :=
 .inr ⟨rfl,e0,h0,rfl,strike_old hl,hr,fun x hx q r => by
  rcases strike_new hu hx he q with a | rfl
  ·exact hm x hx a r
  ·exact hle⟩
end Go.Proofs.YtdmniblonikjlakGreatDoor.Cap


namespace Go.Proofs.YtdmniblonikjlakGreatDoor.Cap
open Go.RowKit Go.Maps
open Cau
open Vec (code Vw anyP ret_bool)
open Fif (own_lt own_block own_mono own_vw Kp)
set_option linter.unusedVariables false
theorem member_yes (x:Int) (w:World) (h1:0 ≤ x) (h2:x ≤ 4):Calls Tryz.prog 73 #[.int .i64 x] w fun e w' => e = .returned (.bool true) ∧ w' = w := by
 go_enter Tryz.func73,Tryz.ntmps73
 go_wp2
 go_ret
 exact ⟨ret_bool (decide_eq_true (by omega)),rfl⟩
theorem member_no (x:Int) (w:World) (h:x < 0 ∨ 4 < x):Calls Tryz.prog 73 #[.int .i64 x] w fun e w' => e = .returned (.bool false) ∧ w' = w := by
 by_cases h1:0 ≤ x
 ·have h2:¬ x ≤ 4 := by omega
  have h3:¬ x < 4 + 1 := by omega
  go_enter Tryz.func73,Tryz.ntmps73
  go_wp2
  go_ret
  exact ⟨ret_bool (decide_eq_false (by omega)),rfl⟩
 ·go_enter Tryz.func73,Tryz.ntmps73
  go_wp2
  go_ret
  exact ⟨rfl,rfl⟩
theorem word_yes (x:Int) (w:World) (h1:1 ≤ x) (h2:x ≤ 30):Calls Tryz.prog 78 #[.int .i64 x] w fun e w' => e = .returned (.bool true) ∧ w' = w := by
 go_enter Tryz.func78,Tryz.ntmps78
 go_wp2
 go_ret
 exact ⟨rfl,rfl⟩
theorem word_no (x:Int) (w:World) (h:x < 1 ∨ 30 < x):Calls Tryz.prog 78 #[.int .i64 x] w fun e w' => e = .returned (.bool false) ∧ w' = w := by
 by_cases h1:1 ≤ x
 ·have h2:¬ x ≤ 30 := by omega
  have h3:¬ x < 30 + 1 := by omega
  go_enter Tryz.func78,Tryz.ntmps78
  go_wp2
  go_ret
  exact ⟨rfl,rfl⟩
 ·go_enter Tryz.func78,Tryz.ntmps78
  go_wp2
  go_ret
  exact ⟨rfl,rfl⟩
theorem unheard1 (b off cap B B' P k:Nat) (x y:Int) (w:World) (hk:k < 5) (hv:w.cell? ⟨B,2,none⟩ = some (.slice (some ⟨b,off,none⟩) 5 cap))
  (hv':w.cell? ⟨B',0,none⟩ = some (.pointer (some ⟨P,0,none⟩)))
  (hc:w.cell? ⟨b,off + k,none⟩ = some (.int .i64 x)) (hc':w.cell? ⟨P,1 + k,none⟩ = some (.int .i64 y)) :
  Calls Tryz.prog 120 #[.int .i64 k,.pointer (some ⟨B,0,none⟩),.pointer (some ⟨B',0,none⟩)] w fun e w' => e = .returned (.bool (decide (y < x))) ∧ ∃ m,w' = w.drewN m := by
 have hk0:(0:Int) ≤ (k:Int) := by omega
 have hk5:(k:Int) < 5 := by omega
 go_enter Tryz.func120,Tryz.ntmps120
 go_wp2
 go_quiet (fail)
 go_wp2
 go_ret
 exact ⟨rfl,_,rfl⟩
theorem other_any (p:Nat → Bool) (m B B':Nat) (w:World) (hm:m < 5)
  (h:Hid (∀ k:Nat,k < 5 → ∀ n,Calls Tryz.prog 120 #[.int .i64 k,.pointer (some ⟨B,0,none⟩),.pointer (some ⟨B',0,none⟩)] (w.drewN n) fun e w' => e = .returned (.bool (p k)) ∧ ∃ m,w' = w.drewN m)) :
  Calls Tryz.prog 121 #[.int .i64 (m:Int),.func (.func 120) #[] #[.pointer (some ⟨B,0,none⟩),.pointer (some ⟨B',0,none⟩)]] w fun e w' => e = .returned (.bool (anyO m p)) ∧ ∃ m,w' = w.drewN m := by
 go_enter Tryz.func121,Tryz.ntmps121
 go_wp2
 go_loopw [6] (fun i wr => ∃ k:Nat,k ≤ 5 ∧ i = .int .i64 k ∧ (∃ n,wr = w.drewN n) ∧ Hid (∀ j,j < k → (decide (j ≠ m) && p j) = false)) (fun i _ => 5 - (intOf i).toNat)
 case atStart => exact ⟨0,by omega,rfl,⟨0,rfl⟩,fun j hj => absurd hj (by omega)⟩
 case round =>
  obtain ⟨k,hk,rfl,⟨n,rfl⟩,hp⟩ := hrel
  by_cases hlt:k < 5
  ·by_cases hkm:k = m
   ·subst hkm
    have hne:((k:Int) != (k:Int)) = false := by simp
    go_wp2
    go_roundw
    case rel => exact ⟨k + 1,by omega,by go_num,⟨_,rfl⟩,fun j hj => if e:j < k then hp.out j e else by rw [show j = k by omega]; simp⟩
    case measure => simp [intOf]; omega
   ·have hne:((k:Int) != (m:Int)) = true := by rw [bne_iff_ne]; omega
    cases hb:p k
    ·go_wp2_with (go_at_call 120; refine (h.out k hlt _).mono ?_; rintro e w' ⟨rfl,q,rfl⟩)
     go_roundw
     case rel => exact ⟨k + 1,by omega,by go_num,⟨_,rfl⟩,fun j hj => if e:j < k then hp.out j e else by rw [show j = k by omega,hb]; simp⟩
     case measure => simp [intOf]; omega
    ·go_wp2_with (go_at_call 120; refine (h.out k hlt _).mono ?_; rintro e w' ⟨rfl,q,rfl⟩)
     go_ret
     exact ⟨ret_bool (Vec.anyP_true (p := fun k => decide (k ≠ m) && p k) hlt (by simp [hkm,hb])).symm,_,rfl⟩
  ·go_wp2
   go_ret
   exact ⟨ret_bool (Vec.anyP_false (p := fun k => decide (k ≠ m) && p k) fun j hj => hp.out j (by omega)).symm,_,rfl⟩
def K5 (w:World) (P:Nat) (K:List Int):Prop := P < w.heap.size ∧ (∀ j,j < 5 → w.cell? ⟨P,1 + j,none⟩ = some (.int .i64 (K.getD j 0))) ∧ ∀ j,j < 5 → 0 ≤ K.getD j 0 ∧ K.getD j 0 ≤ 1000000
theorem K5.later {w w':World} {P:Nat} {K:List Int} (h:K5 w P K) (hb:Below w.heap.size w w'):K5 w' P K :=
 ⟨Nat.lt_of_lt_of_le h.1 hb.size,fun j hj => (hb.cell (p := ⟨P,1 + j,none⟩) h.1).trans (h.2.1 j hj),h.2.2⟩
theorem CF.k5 {w:World} {base P mb:Nat} {me:Int} {K:List Int} {cn:Int} {es:List En} (g:CF w base P mb me K cn es):K5 w P K := ⟨g.lt.1,fun j hj => (g.clock hj).1,g.num⟩
set_option maxRecDepth 100000 in
theorem ready_any (P m g off cap:Nat) (K clk:List Int) (word:Int) (w:World) (hm:m < 5) (hK:K5 w P K) (hv:Vw w (some ⟨g,off,none⟩) 5 clk) :
  Calls Tryz.prog 86 #[.pointer (some ⟨P,0,none⟩),.agg #[.int .i64 (m:Int),.int .i64 word,.slice (some ⟨g,off,none⟩) 5 cap]] w fun e w' => e = .returned (.bool (rdy K ((m:Int),word,clk))) ∧ Below w.heap.size w w' := by
 obtain ⟨b,o,e,hlt,hc⟩ := hv.2 (by omega)
 cases e
 obtain ⟨W,eW⟩:∃ W,W = (w.alloc (.cells #[.pointer (some ⟨P,0,none⟩)] 77)).alloc (.cells #[.int .i64 (m:Int),.int .i64 word,.slice (some ⟨g,off,none⟩) 5 cap] 51) := ⟨_,rfl⟩
 have BW:Hid (Below w.heap.size w W) := by rw [eW]; exact ((Below.refl _ _).alloc (Nat.le_refl _) _).alloc (by simp) _
 have b0:W.cell? ⟨w.heap.size,0,none⟩ = some (.pointer (some ⟨P,0,none⟩)) := by rw [eW]; go_cell
 have s0:W.cell? ⟨w.heap.size + 1,0,none⟩ = some (.int .i64 (m:Int)) := by rw [eW]; go_cell
 have s2:W.cell? ⟨w.heap.size + 1,2,none⟩ = some (.slice (some ⟨g,off,none⟩) 5 cap) := by rw [eW]; go_cell
 have K1 := hK.later BW.out
 have hc1:∀ k,k < 5 → W.cell? ⟨g,off + k,none⟩ = some (.int .i64 (clk.getD k 0)) := fun k hk => (BW.out.cell (p := ⟨g,off + k,none⟩) hlt).trans (hc k hk)
 have H:∀ n0,Hid (∀ k:Nat,k < 5 → ∀ n,Calls Tryz.prog 120 #[.int .i64 k,.pointer (some ⟨w.heap.size + 1,0,none⟩),.pointer (some ⟨w.heap.size,0,none⟩)] ((W.drewN n0).drewN n) fun e w' => e = .returned (.bool ((fun k => decide (K.getD k 0 < clk.getD k 0)) k)) ∧ ∃ m,w' = (W.drewN n0).drewN m) := by
  intro n0 k hk n
  refine (unheard1 g off cap (w.heap.size + 1) w.heap.size P k (clk.getD k 0) (K.getD k 0) ((W.drewN n0).drewN n) hk s2 b0 (hc1 k hk) (K1.2.1 k hk)).mono ?_
  rintro e w' ⟨rfl,j,rfl⟩
  exact ⟨rfl,n + j,by rw [World.drewN_drewN]⟩
 have cm := hc1 m hm
 have km := K1.2.1 m hm
 have kn := K1.2.2 m hm
 obtain ⟨x,ex⟩:∃ x,x = clk.getD m 0 := ⟨_,rfl⟩
 obtain ⟨y,ey⟩:∃ y,y = K.getD m 0 := ⟨_,rfl⟩
 rw [rdy_split hm]
 rw [← ex] at cm ⊢
 rw [← ey] at km kn ⊢
 have hm0:(0:Int) ≤ (m:Int) := by omega
 have hm5:(m:Int) < 5 := by omega
 have EW:Hid (W = (w.alloc (.cells #[.pointer (some ⟨P,0,none⟩)] 77)).alloc (.cells #[.int .i64 (m:Int),.int .i64 word,.slice (some ⟨g,off,none⟩) 5 cap] 51)) := eW
 have hy:y + 1 ≤ 1000001 := by omega
 clear hc hc1 hK K1 hv ex ey
 by_cases h:x = y + 1
 ·have hq:(x == y + 1) = true := by simp [h]
  clear eW
  go_enter Tryz.func86,Tryz.ntmps86
  go_wp2
  rw [← EW.out]
  go_quiet (first | (go_at_call 121; exact Calls.quiet_of (other_any (fun k => decide (K.getD k 0 < clk.getD k 0)) m _ _ (W.drewN _) hm (H _))))
  go_wp2
  go_ret
  exact ⟨ret_bool (by simp [h]),below_drews BW.out _⟩
 ·have hq:(x == y + 1) = false := by simp [h]
  clear eW
  go_enter Tryz.func86,Tryz.ntmps86
  go_wp2
  rw [← EW.out]
  go_quiet (fail)
  go_wp2
  go_ret
  exact ⟨ret_bool (by simp [h]),below_drews BW.out _⟩
end Go.Proofs.YtdmniblonikjlakGreatDoor.Cap


namespace Go.Proofs.YtdmniblonikjlakGreatDoor.Cap
open Go.RowKit Go.Maps
open Cau
open Vec (code Vw anyP ret_bool)
open Fif (own_lt own_block own_mono own_vw own_form Kp info_int)
set_option linter.unusedVariables false
theorem results_one {fn:Func} {p:Tmp} {ty:TypeId} (h:fn.results = #[.cell p ty]) (tmps:Array Value) (P:Program) (w:World) :
  (results fn tmps).run P w = ((asAddr (tmps.getD p undef)).run P w).andThen fun a w₁ => (loadVar ty a).run P w₁ := by
 simp only [results,h]
 simp [Sem.run_bind]
theorem retP {fn:Func} {tmps:Array Value} {w:World} {p:Tmp} {B:Nat} {v0 v1:Value} (h:fn.results = #[.cell p 166]) (hp:tmps.getD p undef = .pointer (some ⟨B,0,none⟩))
  (y0:w.cell? ⟨B,0,none⟩ = some v0) (y1:w.cell? ⟨B,1,none⟩ = some v1):(results fn tmps).run Tryz.prog w = .ok (.agg #[v0,v1]) w := by
 rw [results_one h,hp]
 simp [asAddr,go_sem,y0,y1]
set_option maxRecDepth 100000 in
theorem place_any (m g off cap:Nat) (word:Int) (clk:List Int) (w:World) (hm:m < 5) (hv:Vw w (some ⟨g,off,none⟩) 5 clk) :
  Calls Tryz.prog 85 #[.agg #[.int .i64 (m:Int),.int .i64 word,.slice (some ⟨g,off,none⟩) 5 cap]] w fun e w' => e = .returned (.agg #[.int .i64 (m:Int),.int .i64 (clk.getD m 0)]) ∧ Below w.heap.size w w' := by
 obtain ⟨b,o,e,hlt,hc⟩ := hv.2 (by omega)
 cases e
 obtain ⟨W,eW⟩:∃ W,W = (w.alloc (.cells #[.int .i64 (m:Int),.int .i64 word,.slice (some ⟨g,off,none⟩) 5 cap] 51)).alloc (.cells #[.int .i64 0,.int .i64 0] 166) := ⟨_,rfl⟩
 have BW:Hid (Below w.heap.size w W ∧ W.heap.size = w.heap.size + 2) := ⟨by rw [eW]; exact ((Below.refl _ _).alloc (Nat.le_refl _) _).alloc (by simp) _,by rw [eW]; simp⟩
 have s0:W.cell? ⟨w.heap.size,0,none⟩ = some (.int .i64 (m:Int)) := by rw [eW]; go_cell
 have s2:W.cell? ⟨w.heap.size,2,none⟩ = some (.slice (some ⟨g,off,none⟩) 5 cap) := by rw [eW]; go_cell
 have RW:Hid (W.rowIs (w.heap.size + 1) 166 2 (fun j => .int .i64 0)) := by
  have := World.rowIs_alloc (w.alloc (.cells #[.int .i64 (m:Int),.int .i64 word,.slice (some ⟨g,off,none⟩) 5 cap] 51)) #[.int .i64 0,.int .i64 0] 166 (fun j => .int .i64 0) (fun i hi => by rcases i with _ | _ | i <;> first | rfl | (exfalso; have:_ < 2 := hi; omega))
  rw [eW]
  show World.rowIs _ _ _ _ _
  simpa using this
 have y0 := World.rowIs.cell RW.out (i := 0) (by omega)
 have y1 := World.rowIs.cell RW.out (i := 1) (by omega)
 have f0 := World.rowIs.frozen RW.out 0
 have f1 := World.rowIs.frozen RW.out 1
 have cm:W.cell? ⟨g,off + m,none⟩ = some (.int .i64 (clk.getD m 0)) := (BW.out.1.cell (p := ⟨g,off + m,none⟩) hlt).trans (hc m hm)
 obtain ⟨x,ex⟩:∃ x,x = clk.getD m 0 := ⟨_,rfl⟩
 rw [← ex] at cm ⊢
 have hm0:(0:Int) ≤ (m:Int) := by omega
 have hm5:(m:Int) < 5 := by omega
 clear hc hv ex
 go_enter Tryz.func85,Tryz.ntmps85
 go_wp2_with fail
 rw [← eW]
 clear eW
 go_region
 go_wp2
 have r3 := (World.rowIs.set RW.out 0 (.int .i64 (m:Int))).set 1 (.int .i64 x)
 have u0 := r3.cell (i := 0) (by omega)
 have u1 := r3.cell (i := 1) (by omega)
 simp at u0 u1
 refine bodyPost_ret (v := .agg #[.int .i64 (m:Int),.int .i64 x]) (retP (B := w.heap.size + 1) rfl rfl u0 u1) rfl ?_
 exact ⟨rfl,(((BW.out.1).setCell (p := ⟨w.heap.size + 1,0,none⟩) (Nat.le_succ _) _).setCell (p := ⟨w.heap.size + 1,1,none⟩) (Nat.le_succ _) _).drew⟩
theorem own_nil (w:World) (t:TypeId):(w.alloc (.cells #[] t)).ownsRow w.heap.size t 1 (.slice (some ⟨w.heap.size,0,none⟩) 0 0) 0 [] := by
 refine ⟨rfl,.inr ⟨w.heap.size,0,#[],rfl,Nat.le_refl _,?_,Nat.le_refl _,by unfold maxLen; omega,rfl,rfl⟩⟩
 show (w.heap.push _)[w.heap.size]? = _
 simp
set_option maxRecDepth 100000 in
theorem clone5 (b off cap:Nat) (xs:List Int) (w:World) (hl:xs.length = 5) (hb:b < w.heap.size) (hcs:∀ j u,(xs.map (Value.int .i64))[j]? = some u → w.cell? ((⟨b,off,none⟩:Addr).add j) = some u) :
  Calls Tryz.prog 44 #[.slice (some ⟨b,off,none⟩) 5 cap] w fun e w' => ∃ v,e = .returned v ∧ w'.ownsRow w.heap.size 3 1 v 5 (xs.map (Value.int .i64)) ∧ Below w.heap.size w w' := by
 have HL:Hid (xs.length = 5) := hl
 have HC:Hid (∀ j u,(xs.map (Value.int .i64))[j]? = some u → (w.alloc (.cells #[] 3)).cell? ((⟨b,off,none⟩:Addr).add j) = some u) := by
  intro j u hu
  have := hcs j u hu
  rw [Addr.add_lit] at this ⊢
  exact (((Below.refl w.heap.size w).alloc (Nat.le_refl _) _).cell (p := ⟨b,off + j,none⟩) hb).trans this
 obtain ⟨ie,hi,hz0,hz1,hz2⟩ := info_int
 have HI:Hid (Tryz.prog.info? 3 = some ie ∧ ie.zero = some (.int .i64 0) ∧ ie.size = 1 ∧ ie.bytes = 8) := ⟨hi,hz0,hz1,hz2⟩
 have hnil := fun W:World => Lib.run_eql_slice_nil (P := Tryz.prog) W 30 3 (some ⟨b,off,none⟩) 5 cap 0 0 Tryz.underlying30
 clear hl hb hcs hi hz0 hz1 hz2
 go_enter Tryz.func44,Tryz.ntmps44
 go_wp2_with (at_builtin; refine wpList_append_own _ rfl _ _ 30 rfl w.heap.size 3 ie (.int .i64 0) 1 8 Tryz.underlying30 HI.out.1 HI.out.2.1 HI.out.2.2.1 HI.out.2.2.2 rfl (by decide) _ 0 _ rfl (own_nil w 3) ⟨b,off,none⟩ 5 cap (xs.map (Value.int .i64)) rfl (by rw [List.length_map]; exact HL.out) HC.out (fun u hu => by obtain ⟨x,_,rfl⟩ := List.mem_map.1 hu; rfl) (by unfold maxLen; omega) (by omega) (by simp) ?_; intro v' wn hown hgrow _; have HO:Hid _ := hown; have HGr:Hid _ := hgrow; clear hown hgrow)
 go_ret
 exact ⟨_,rfl,HO.out,((Below.refl w.heap.size w).alloc (Nat.le_refl _) _).grown HGr.out (by simp) (fun k e => (own_lt (own_nil w 3) k e).1)⟩
theorem clone_vw (b off cap:Nat) (xs:List Int) (w:World) (hv:Vw w (some ⟨b,off,none⟩) 5 xs) :
  Calls Tryz.prog 44 #[.slice (some ⟨b,off,none⟩) 5 cap] w fun e w' => ∃ v,e = .returned v ∧ w'.ownsRow w.heap.size 3 1 v 5 (xs.map (Value.int .i64)) ∧ Below w.heap.size w w' := by
 obtain ⟨b',o',e,hlt,hc⟩ := hv.2 (by omega)
 cases e
 refine clone5 b off cap xs w hv.1 hlt fun j u hu => ?_
 rw [Addr.add_lit]
 have hj:j < 5 := by
  have := (List.getElem?_eq_some_iff.1 hu).1
  rw [List.length_map,hv.1] at this
  exact this
 have hx:j < xs.length := by rw [hv.1]; exact hj
 have := hc j hj
 rw [this,← hu]
 simp [List.getD,hx]
variable {w:World} {base P mb:Nat} {me:Int} {K:List Int} {cn:Int} {es:List En}
theorem CF.kvw (g:CF w base P mb me K cn es):Vw w (some ⟨P,1,none⟩) 5 K := ⟨g.five,fun _ => ⟨P,1,rfl,g.lt.1,fun k hk => (g.clock hk).1⟩⟩
theorem clock_any (g:CF w base P mb me K cn es) :
  Calls Tryz.prog 79 #[.pointer (some ⟨P,0,none⟩)] w fun x w' => ∃ v,x = .returned v ∧ w'.ownsRow w.heap.size 3 1 v 5 (K.map (Value.int .i64)) ∧ Below w.heap.size w w' := by
 have HV:Hid (Vw w (some ⟨P,1,none⟩) 5 K) := g.kvw
 clear g
 go_enter Tryz.func79,Tryz.ntmps79
 go_wp2_with fail
 refine (clone_vw P 1 5 K w HV.out).mono ?_
 rintro e w1 ⟨v,rfl,hO,hB⟩
 have R:Hid _ := And.intro hO hB
 clear hO hB
 go_wp2
 go_ret
 exact ⟨_,rfl,R.out.1,R.out.2⟩
set_option maxRecDepth 100000 in
theorem new_ok (x:Int) (w:World) (h:0 ≤ x ∧ x ≤ 4) :
  Calls Tryz.prog 30 #[.int .i64 x] w fun e w' => e = .returned (.tuple #[.pointer (some ⟨w.heap.size + 1,0,none⟩),.nilIface]) ∧ CF w' w.heap.size (w.heap.size + 1) w.heap.size x [0,0,0,0,0] 0 [] ∧ Below w.heap.size w w' := by
 have hmk:∀ W:World,(Instr.makeMap 157 none).run Tryz.prog W = .ok (.map (some W.heap.size)) (W.alloc (.map #[] 0)) := fun _ => rfl
 have A0:Hid (((w.alloc (.map #[] 0)).alloc (.cells #[.int .i64 x,.int .i64 0,.int .i64 0,.int .i64 0,.int .i64 0,.int .i64 0,.int .i64 0,.map (some w.heap.size)] 159)).rowIs (w.heap.size + 1) 159 8 (csv x [0,0,0,0,0] 0 w.heap.size)) := by
  have q := World.rowIs_alloc (w.alloc (.map #[] 0)) #[.int .i64 x,.int .i64 0,.int .i64 0,.int .i64 0,.int .i64 0,.int .i64 0,.int .i64 0,.map (some w.heap.size)] 159 (csv x [0,0,0,0,0] 0 w.heap.size) (fun i hi => by
   rcases i with _ | _ | _ | _ | _ | _ | _ | _ | i <;> first | rfl | (exfalso; have:_ < 8 := hi; omega))
  show World.rowIs _ _ _ _ _
  simpa using q
 have HX:Hid (0 ≤ x ∧ x ≤ 4) := h
 go_enter Tryz.func30,Tryz.ntmps30
 go_wp2_with fail
 refine (member_yes x w h.1 h.2).mono ?_
 rintro e w1 ⟨rfl,rfl⟩
 clear h
 go_wp2
 go_ret2
 refine ⟨rfl,⟨A0.out,⟨.map [],own_heap (World.ownsMap_made w1 _ _ _) ?_,MW.start⟩,fun e he => absurd he List.not_mem_nil,rfl,fun j hj => ?_,HX.out,⟨Nat.le_succ _,Nat.le_refl _⟩,List.Pairwise.nil,List.Pairwise.nil,fun e he => absurd he List.not_mem_nil,fun e he => absurd he List.not_mem_nil⟩,((Below.refl _ _).alloc (Nat.le_refl _) _).alloc (by simp) _⟩
 ·rw [Below.heap_alloc _ _ _ (by simp)]
 ·rcases j with _ | _ | _ | _ | _ | j <;> first | (constructor <;> decide) | omega
end Go.Proofs.YtdmniblonikjlakGreatDoor.Cap


namespace Go.Proofs.YtdmniblonikjlakGreatDoor.Cap
open Go.RowKit Go.Maps
open Cau
open Vec (code Vw anyP ret_bool)
open Fif (own_lt own_block own_mono own_vw own_form Kp info_int)
set_option linter.unusedVariables false
variable {base P mb:Nat} {me:Int} {K:List Int} {cn:Int} {es:List En}
set_option maxRecDepth 100000 in
theorem come_no (m:Nat) (n:Int) (w:World) (g:CF w base P mb me K cn es) (hm:m < 5) (hn:0 ≤ n ∧ n ≤ 1000000) (h1:∀ e ∈ es,kl (m:Int) n ≠ e.key) (h2:K.getD m 0 < n) :
  Calls Tryz.prog 119 #[.pointer (some ⟨P,0,none⟩),.agg #[.int .i64 (m:Int),.int .i64 n]] w fun e w' => e = .returned (.bool false) ∧ Below w.heap.size w w' := by
 obtain ⟨W,eW⟩:∃ W,W = w.alloc (.cells #[.int .i64 (m:Int),.int .i64 n] 166) := ⟨_,rfl⟩
 have BW:Hid (Below w.heap.size w W) := by rw [eW]; exact (Below.refl _ _).alloc (Nat.le_refl _) _
 have GW:Hid (CF W base P mb me K cn es) := g.later BW.out
 have s0:W.cell? ⟨w.heap.size,0,none⟩ = some (.int .i64 (m:Int)) := by rw [eW]; go_cell
 have s1:W.cell? ⟨w.heap.size,1,none⟩ = some (.int .i64 n) := by rw [eW]; go_cell
 have hlk := GW.out.look_none (a := (m:Int)) (b := n) (okK_of (by omega) (by omega)) h1
 have hlk1 := hlk W.drew rfl
 have hlk2 := hlk (W.alloc (.cells #[.int .i64 0,.int .i64 0,.int .i64 0,.slice none 0 0] 164)).drew (((Below.refl W.heap.size W).alloc (Nat.le_refl _) _).block mb GW.out.lt.2)
 obtain ⟨c7,z7⟩ := GW.out.wait
 have BA:Hid (Below W.heap.size W (W.alloc (.cells #[.int .i64 0,.int .i64 0,.int .i64 0,.slice none 0 0] 164))) := (Below.refl W.heap.size W).alloc (Nat.le_refl _) _
 have hws:w.heap.size < W.heap.size := by rw [eW]; simp
 have d7 := (BA.out.cell (p := ⟨P,7,none⟩) GW.out.lt.1).trans c7
 have t0 := (BA.out.cell (p := ⟨w.heap.size,0,none⟩) hws).trans s0
 have t1 := (BA.out.cell (p := ⟨w.heap.size,1,none⟩) hws).trans s1
 obtain ⟨cm,zm⟩ := GW.out.clock hm
 obtain ⟨y,ey⟩:∃ y,y = K.getD m 0 := ⟨_,rfl⟩
 rw [← ey] at cm h2
 have hd:decide (n ≤ y) = false := by simp; omega
 have hm0:(0:Int) ≤ (m:Int) := by omega
 have hm5:(m:Int) < 5 := by omega
 clear g ey h1 hlk
 go_enter Tryz.func119,Tryz.ntmps119
 go_wp2_with fail
 rw [← eW]
 clear eW
 go_region
 all_goals
  go_wp2_with fail
  obtain ⟨W3,eW3⟩:∃ W3,W3 = (W.alloc (.cells #[.int .i64 0,.int .i64 0,.int .i64 0,.slice none 0 0] 164)).drew := ⟨_,rfl⟩
  rw [← eW3]
  have B3:Hid (Below W.heap.size W W3) := by rw [eW3]; exact BA.out.drew
  have x0 := (B3.out.cell (p := ⟨w.heap.size,0,none⟩) hws).trans s0
  have x1 := (B3.out.cell (p := ⟨w.heap.size,1,none⟩) hws).trans s1
  have xm := (B3.out.cell (p := ⟨P,1 + m,none⟩) GW.out.lt.1).trans cm
  have HB:Hid (Below w.heap.size w W3) := BW.out.trans (B3.out.mono BW.out.size)
  clear eW3 hlk1 hlk2 d7 t0 t1 c7 z7 BA cm zm s0 s1
  go_quiet (fail)
  go_wp2
  go_ret
  exact ⟨rfl,below_drews HB.out _⟩
set_option maxRecDepth 100000 in
theorem come_yes1 (m:Nat) (n:Int) (w:World) (g:CF w base P mb me K cn es) (hm:m < 5) (h1:∀ e ∈ es,kl (m:Int) n ≠ e.key) (hn:0 ≤ n ∧ n ≤ 1000000) (h2:n ≤ K.getD m 0) :
  Calls Tryz.prog 119 #[.pointer (some ⟨P,0,none⟩),.agg #[.int .i64 (m:Int),.int .i64 n]] w fun e w' => e = .returned (.bool true) ∧ Below w.heap.size w w' := by
 obtain ⟨W,eW⟩:∃ W,W = w.alloc (.cells #[.int .i64 (m:Int),.int .i64 n] 166) := ⟨_,rfl⟩
 have BW:Hid (Below w.heap.size w W) := by rw [eW]; exact (Below.refl _ _).alloc (Nat.le_refl _) _
 have GW:Hid (CF W base P mb me K cn es) := g.later BW.out
 have s0:W.cell? ⟨w.heap.size,0,none⟩ = some (.int .i64 (m:Int)) := by rw [eW]; go_cell
 have s1:W.cell? ⟨w.heap.size,1,none⟩ = some (.int .i64 n) := by rw [eW]; go_cell
 have hlk := GW.out.look_none (a := (m:Int)) (b := n) (okK_of (by omega) (by omega)) h1
 have hlk1 := hlk W.drew rfl
 have hlk2 := hlk (W.alloc (.cells #[.int .i64 0,.int .i64 0,.int .i64 0,.slice none 0 0] 164)).drew (((Below.refl W.heap.size W).alloc (Nat.le_refl _) _).block mb GW.out.lt.2)
 obtain ⟨c7,z7⟩ := GW.out.wait
 have BA:Hid (Below W.heap.size W (W.alloc (.cells #[.int .i64 0,.int .i64 0,.int .i64 0,.slice none 0 0] 164))) := (Below.refl W.heap.size W).alloc (Nat.le_refl _) _
 have hws:w.heap.size < W.heap.size := by rw [eW]; simp
 have d7 := (BA.out.cell (p := ⟨P,7,none⟩) GW.out.lt.1).trans c7
 have t0 := (BA.out.cell (p := ⟨w.heap.size,0,none⟩) hws).trans s0
 have t1 := (BA.out.cell (p := ⟨w.heap.size,1,none⟩) hws).trans s1
 obtain ⟨cm,zm⟩ := GW.out.clock hm
 obtain ⟨y,ey⟩:∃ y,y = K.getD m 0 := ⟨_,rfl⟩
 rw [← ey] at cm h2
 have hd:decide (n ≤ y) = true := by simp; omega
 have hm0:(0:Int) ≤ (m:Int) := by omega
 have hm5:(m:Int) < 5 := by omega
 clear g ey h1 hlk
 go_enter Tryz.func119,Tryz.ntmps119
 go_wp2_with fail
 rw [← eW]
 clear eW
 go_region
 all_goals
  go_wp2_with fail
  obtain ⟨W3,eW3⟩:∃ W3,W3 = (W.alloc (.cells #[.int .i64 0,.int .i64 0,.int .i64 0,.slice none 0 0] 164)).drew := ⟨_,rfl⟩
  rw [← eW3]
  have B3:Hid (Below W.heap.size W W3) := by rw [eW3]; exact BA.out.drew
  have x0 := (B3.out.cell (p := ⟨w.heap.size,0,none⟩) hws).trans s0
  have x1 := (B3.out.cell (p := ⟨w.heap.size,1,none⟩) hws).trans s1
  have xm := (B3.out.cell (p := ⟨P,1 + m,none⟩) GW.out.lt.1).trans cm
  have HB:Hid (Below w.heap.size w W3) := BW.out.trans (B3.out.mono BW.out.size)
  clear eW3 hlk1 hlk2 d7 t0 t1 c7 z7 BA cm zm s0 s1
  go_quiet (fail)
  go_wp2
  go_ret
  exact ⟨rfl,below_drews HB.out _⟩
set_option maxRecDepth 100000 in
theorem come_yes2 (e:En) (w:World) (g:CF w base P mb me K cn es) (he:e ∈ es) :
  Calls Tryz.prog 119 #[.pointer (some ⟨P,0,none⟩),.agg #[.int .i64 e.s.1,.int .i64 e.n]] w fun e w' => e = .returned (.bool true) ∧ Below w.heap.size w w' := by
 obtain ⟨a,ea⟩:∃ a,a = e.s.1 := ⟨_,rfl⟩
 obtain ⟨n,en⟩:∃ n,n = e.n := ⟨_,rfl⟩
 rw [← ea,← en]
 obtain ⟨W,eW⟩:∃ W,W = w.alloc (.cells #[.int .i64 a,.int .i64 n] 166) := ⟨_,rfl⟩
 have BW:Hid (Below w.heap.size w W) := by rw [eW]; exact (Below.refl _ _).alloc (Nat.le_refl _) _
 have GW:Hid (CF W base P mb me K cn es) := g.later BW.out
 have s0:W.cell? ⟨w.heap.size,0,none⟩ = some (.int .i64 a) := by rw [eW]; go_cell
 have s1:W.cell? ⟨w.heap.size,1,none⟩ = some (.int .i64 n) := by rw [eW]; go_cell
 obtain ⟨v0,v1,v2,v3,v4,hlk⟩:∃ (v0 v1 v2:Int) (v3 v4:Nat),∀ X:World,X.heap[mb]? = W.heap[mb]? → (Instr.lookup 157 (.map (some mb)) (.agg #[.int .i64 a,.int .i64 n]) true).run Tryz.prog X = .ok (.tuple #[.agg #[.int .i64 v0,.int .i64 v1,.int .i64 v2,.slice (some ⟨v3,0,none⟩) 5 v4],.bool true]) X :=
  ⟨e.t,e.s.1,e.s.2.1,e.g,e.c,fun X hX => by have := GW.out.look_ok he X hX; rw [ea,en]; exact this⟩
 have hlk1 := hlk W.drew rfl
 have hlk2 := hlk (W.alloc (.cells #[.int .i64 0,.int .i64 0,.int .i64 0,.slice none 0 0] 164)).drew (((Below.refl W.heap.size W).alloc (Nat.le_refl _) _).block mb GW.out.lt.2)
 obtain ⟨c7,z7⟩ := GW.out.wait
 have BA:Hid (Below W.heap.size W (W.alloc (.cells #[.int .i64 0,.int .i64 0,.int .i64 0,.slice none 0 0] 164))) := (Below.refl W.heap.size W).alloc (Nat.le_refl _) _
 have hws:w.heap.size < W.heap.size := by rw [eW]; simp
 have d7 := (BA.out.cell (p := ⟨P,7,none⟩) GW.out.lt.1).trans c7
 have t0 := (BA.out.cell (p := ⟨w.heap.size,0,none⟩) hws).trans s0
 have t1 := (BA.out.cell (p := ⟨w.heap.size,1,none⟩) hws).trans s1
 clear g ea en hlk he
 go_enter Tryz.func119,Tryz.ntmps119
 go_wp2_with fail
 rw [← eW]
 clear eW
 go_region
 all_goals
  go_wp2_with fail
  go_quiet (fail)
  go_wp2
  go_ret
  exact ⟨rfl,below_drews (BW.out.alloc BW.out.size _).drew _⟩
end Go.Proofs.YtdmniblonikjlakGreatDoor.Cap
