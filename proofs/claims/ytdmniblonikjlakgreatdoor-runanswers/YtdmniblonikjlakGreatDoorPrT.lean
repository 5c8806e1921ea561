/-
  Texts put together: RunF, RunU, RunX, RunXp.
-/
import Derived.Test.YtdmniblonikjlakGreatDoorRunS
import Derived.Test.YtdmniblonikjlakGreatDoorPrR
import Derived.Test.YtdmniblonikjlakGreatDoorPrS
import Derived.Lib.AppendIntMem
import Derived.Shelf.Strconv.ErrVarAll
import Derived.Test.YtdmniblonikjlakGreatDoorPrA
import Derived.HandedShaped
import Derived.Test.YtdmniblonikjlakGreatDoorPrF
import Derived.Test.YtdmniblonikjlakGreatDoorPrB
import Derived.Deep.QuietTactic
import Derived.BigQuiet
import Derived.Deep.RegionHeld3
import Derived.Handy


namespace Go.Proofs.YtdmniblonikjlakGreatDoor.Run
open Go.RowKit
set_option linter.unusedVariables false
theorem idx_no {c:UInt8}:∀ {l:T},c ∉ l → Lib.index l [c] = -1
 | [],_ => rfl
 | x :: l,h => by
  have hx:(c == x) = false := beq_eq_false_iff_ne.2 fun e => h (by simp [e])
  have ih := idx_no (l := l) fun e => h (List.mem_cons_of_mem _ e)
  simp [Lib.index,List.isPrefixOf,hx,ih]
theorem idx_at {c:UInt8}:∀ {a:T} (b:T),c ∉ a → Lib.index (a ++ c :: b) [c] = a.length
 | [],b,_ => by simp [Lib.index,List.isPrefixOf]
 | x :: a,b,h => by
  have hx:(c == x) = false := beq_eq_false_iff_ne.2 fun e => h (by simp [e])
  have ih := idx_at (a := a) b fun e => h (List.mem_cons_of_mem _ e)
  have hn:((a.length:Int) == -1) = false := beq_eq_false_iff_ne.2 (by omega)
  simp [Lib.index,List.isPrefixOf,hx,ih,hn]
theorem first_at {c:UInt8}:∀ {l:T},c ∈ l → ∃ a b,l = a ++ c :: b ∧ c ∉ a
 | [],h => absurd h (by simp)
 | x :: l,h => by
  by_cases e:x = c
  ·exact ⟨[],l,by simp [e],by simp⟩
  ·obtain ⟨a,b,hl,ha⟩ := first_at (l := l) (by
    rcases List.mem_cons.1 h with r | r
    ·exact absurd r.symm e
    ·exact r)
   exact ⟨x :: a,b,by simp [hl],by
    intro hm
    rcases List.mem_cons.1 hm with r | r
    ·exact e r.symm
    ·exact ha r⟩
theorem split_cut (c:UInt8):∀ (k:Nat) (l:T),l.count c = k → Lib.splitK [c] 0 k l = cut c l
 | 0,l,h => by
  rw [cut_no (List.count_eq_zero.1 h)]
  rfl
 | k + 1,l,h => by
  have hm:c ∈ l := List.count_pos_iff.1 (by omega)
  obtain ⟨a,b,rfl,ha⟩ := first_at hm
  have hb:b.count c = k := by
   have h0:a.count c = 0 := List.count_eq_zero.2 ha
   simp [h0] at h
   omega
  have hn:((a.length:Int) == -1) = false := beq_eq_false_iff_ne.2 (by omega)
  rw [Lib.splitK,idx_at b ha,hn,cut_at,cut_no ha,← split_cut c k b hb]
  simp
theorem split_all (c:UInt8) (s:ByteArray):Lib.splitB (tx [c]) 0 (Lib.countB s (tx [c])) s = (cut c (bs s)).map tx := by
 have hc:Lib.countB s (tx [c]) = (bs s).count c := by
  show Lib.count (bs s) [c] = _
  exact Lib.count_one c _
 have h := Lib.splitB_data (tx [c]) 0 (Lib.countB s (tx [c])) s
 have h2:(Lib.splitB (tx [c]) 0 (Lib.countB s (tx [c])) s).map bs = cut c (bs s) := h.trans (split_cut c _ _ hc.symm)
 rw [← h2,List.map_map]
 have:(tx ∘ bs) = id := funext fun t => tx_bs t
 rw [this,List.map_id]
def Mx (w:World):Prop := ∃ m,w.cell? ⟨Tryz.splitL_ren.g 1,0,none⟩ = some (.int .i64 m)
theorem Mx.later {w w':World} (h:Mx w) (hb:Below w.heap.size w w'):Mx w' := by
 obtain ⟨m,hm⟩ := h
 exact ⟨m,(hb.cell (block_lt_of_cell hm)).trans hm⟩
theorem Mx.of_shape {w:World} (h:w.ShapedOpen Tryz.prog):Mx w := Tryz.splitL.s1_3 w h
theorem splitP (l:T) (c:UInt8) (sep:ByteArray) (w:World) (hs:sep = tx [c]) (hM:Mx w) (hl:l.length < 4294967281) :
  Calls Tryz.prog 141 #[.string (tx l),.string sep] w fun e w' => e = .returned (.slice (some ⟨w.heap.size,0,none⟩) (cut c l).length (cut c l).length) ∧
   w' = w.alloc (.cells ((cut c l).map fun x => Value.string (tx x)).toArray 9) := by
 subst hs
 obtain ⟨m,hm⟩ := hM
 have z := Any.strings_Split { Tryz.splitL with } Tryz.splitL.i9 (tx l) (tx [c]) m w (by rw [tx_size]; exact hl) hm (by rw [tx_size]; exact Nat.le_refl 1)
 have e := split_all c (tx l)
 rw [bs_tx] at e
 have hlen := Lib.splitB_all (tx [c]) (by rw [tx_size]; exact Nat.le_refl 1) 0 _ (tx l) rfl
 rw [e,List.length_map] at hlen
 rw [e,List.map_map,← hlen] at z
 exact z
theorem cutP_no (l:T) (c:UInt8) (sep:ByteArray) (w:World) (hs:sep = tx [c]) (hM:Mx w) (hl:l.length < 4294967281) (h:c ∉ l) :
  Calls Tryz.prog 99 #[.string (tx l),.string sep] w fun e w' => e = .returned (.tuple #[.string (tx l),.string (tx []),.bool false]) ∧ ∃ n,w' = w.drewN n := by
 subst hs
 obtain ⟨m,hm⟩ := hM
 have z := Any.strings_Cut { Tryz.cutL with } (tx l) (tx [c]) m w (by rw [tx_size]; exact hl) hm
 have e:Lib.cut (tx l).data.toList (tx [c]).data.toList = (l,[],false) := by
  show Lib.cut (bs (tx l)) (bs (tx [c])) = _
  rw [bs_tx,bs_tx,Lib.cut,idx_no h]
  rfl
 rw [e] at z
 exact z
theorem cutP_at (a b:T) (c:UInt8) (s sep:ByteArray) (w:World) (he:s = tx (a ++ c :: b)) (hs:sep = tx [c]) (hM:Mx w) (hl:(a ++ c :: b).length < 4294967281) (h:c ∉ a) :
  Calls Tryz.prog 99 #[.string s,.string sep] w fun e w' => e = .returned (.tuple #[.string (tx a),.string (tx b),.bool true]) ∧ ∃ n,w' = w.drewN n := by
 subst hs he
 obtain ⟨m,hm⟩ := hM
 have z := Any.strings_Cut { Tryz.cutL with } (tx (a ++ c :: b)) (tx [c]) m w (by rw [tx_size]; exact hl) hm
 have e:Lib.cut (tx (a ++ c :: b)).data.toList (tx [c]).data.toList = (a,b,true) := by
  show Lib.cut (bs (tx (a ++ c :: b))) (bs (tx [c])) = _
  rw [bs_tx,bs_tx,Lib.cut,idx_at b h,if_pos (by omega)]
  simp
 rw [e] at z
 exact z
def Tb (w:World):Prop := Lib.TabIs Tryz.prog w "internal/strconv.uint64pow10" .u64 Lib.pow10Tab
theorem Tb.later {w w':World} (h:Tb w) (hb:Below w.heap.size w w'):Tb w' := Lib.tabBelow_of_tabIs h w' hb
def Er (w:World):Prop := (∃ tp p,w.var? Tryz.prog "strconv.ErrSyntax" = some #[.iface tp p]) ∧ ∃ tp p,w.var? Tryz.prog "strconv.ErrRange" = some #[.iface tp p]
theorem var_later {w w':World} {n:String} {cs:Array Value} (h:w.var? Tryz.prog n = some cs) (hb:Below w.heap.size w w'):w'.var? Tryz.prog n = some cs := by
 unfold World.var? at h ⊢
 cases hg:(Tryz.prog).globalNamed n with
 | none => simp [hg] at h
 | some g =>
  simp only [hg,Option.bind_some] at h ⊢
  have hlt:g < w.heap.size := by
   rcases Nat.lt_or_ge g w.heap.size with h' | h'
   ·exact h'
   ·simp [Array.getElem?_eq_none h'] at h
  rw [hb.block g hlt]
  exact h
theorem Er.later {w w':World} (h:Er w) (hb:Below w.heap.size w w'):Er w' := by
 obtain ⟨⟨t1,p1,h1⟩,t2,p2,h2⟩ := h
 exact ⟨⟨t1,p1,var_later h1 hb⟩,t2,p2,var_later h2 hb⟩
theorem itoaP (n:Nat) (w:World) (h:n ≤ 9999) (hT:Tb w):Calls Tryz.prog 169 #[.int .i64 (n:Int)] w fun e w' => e = .returned (.string (tx (dig n))) ∧ Below w.heap.size w w' := by
 have z := Any.strconv_Itoa Tryz.itoaL (n:Int) (by omega) (by omega) w hT
 rw [itoa_dig] at z
 refine z.mono ?_
 rintro e w' ⟨rfl,k,os,rfl⟩
 exact ⟨rfl,Lib.below_grow _ _ (Nat.le_refl _) _ _⟩
theorem atoiP (t:ByteArray) (w:World) (hl:t.size ≤ 100000) (hE:Er w):Calls Tryz.prog 168 #[.string t] w fun e w' =>
  ((∃ v:Int,Lib.atoiAll (bs t) = .ok v ∧ e = .returned (.tuple #[.int .i64 v,.nilIface])) ∨ (isNum (bs t) = false ∧ ∃ v tp p,e = .returned (.tuple #[.int .i64 v,.iface tp p]))) ∧ Below w.heap.size w w' := by
 obtain ⟨⟨t1,p1,h1⟩,t2,p2,h2⟩ := hE
 have hn:∀ {x},Lib.atoiAll (bs t) = x → (∀ v,x ≠ .ok v) → isNum (bs t) = false := by
  intro x hx hv
  rcases e:isNum (bs t) with _ | _
  ·rfl
  ·exact absurd ((hx.symm.trans (atoi_num e))) (hv _)
 rcases h:Lib.atoiAll (bs t) with v | _ | _
 ·refine (Any.strconv_Atoi_ok Tryz.atoiL t (by omega) v h w).mono ?_
  rintro e w' ⟨rfl,hw⟩
  refine ⟨.inl ⟨v,rfl,rfl⟩,?_⟩
  rcases hw with rfl | ⟨x,rfl⟩
  ·exact Below.refl _ _
  ·exact Lib.bytesWorld_below _ _ _
 ·refine (Any.strconv_Atoi_syntax_var Tryz.atoiL t (by omega) h t1 p1 w h1).mono ?_
  rintro e w' ⟨N,rfl,-,-,hb⟩
  exact ⟨.inr ⟨hn h (fun v e => by cases e),_,_,_,rfl⟩,hb⟩
 ·refine (Any.strconv_Atoi_range_var Tryz.atoiL t (by omega) h t2 p2 w h2).mono ?_
  rintro e w' ⟨N,rfl,-,-,hb⟩
  exact ⟨.inr ⟨hn h (fun v e => by cases e),_,_,_,rfl⟩,hb⟩
theorem lib_join:∀ ws:List T,Lib.join ws [32] = join ws
 | [] => rfl
 | [w] => Lib.join_one w [32]
 | w :: v :: ws => by
  have ih := lib_join (v :: ws)
  rw [Lib.join_cons] at ih ⊢
  show w ++ Lib.joinTail [32] (v :: ws) = w ++ 32 :: join (v :: ws)
  rw [← ih]
  simp [Lib.joinTail]
theorem joinP (base:Nat) (v:Value) (ps:List T) (sep:ByteArray) (w:World) (hs:sep = tx [32]) (ho:So w base v ps) (hn:ps.length ≤ 1000000) (hl:(join ps).length ≤ 1000000000) :
  Calls Tryz.prog 172 #[v,.string sep] w fun e w' => e = .returned (.string (tx (join ps))) ∧ Below w.heap.size w w' := by
 subst hs
 obtain ⟨q,c,rfl,hc,hm,hx⟩ := ho.form
 rcases Nat.eq_zero_or_pos ps.length with h0 | h0
 ·have e:ps = [] := List.eq_nil_of_length_eq_zero h0
  subst e
  refine (Any.strings_Join_none Tryz.joinL Tryz.joinX q c (tx [32]) w).mono ?_
  rintro e w' ⟨rfl,rfl⟩
  exact ⟨rfl,Below.refl _ _⟩
 ·obtain ⟨g,rfl,-,hg,-⟩ := hx 0 h0
  have hd:(ps.map tx).map (fun x => x.data.toList) = ps := by
   rw [List.map_map]
   have:((fun x:ByteArray => x.data.toList) ∘ tx) = id := funext fun t => bs_tx t
   rw [this,List.map_id]
  have hsep:(tx [32]).data.toList = [32] := rfl
  have z := Any.strings_Join Tryz.joinL Tryz.joinX g 0 c (ps.map tx) (tx [32]) w (fun j x hj => by
   rw [List.getElem?_map] at hj
   obtain ⟨y,hy,rfl⟩ := Option.map_eq_some_iff.1 hj
   have hjl:j < ps.length := (List.getElem?_eq_some_iff.1 hy).1
   obtain ⟨g',e',-,-,hcell⟩ := hx j hjl
   cases e'
   rw [List.getD,hy] at hcell
   rw [Nat.zero_add]
   exact hcell) hg (by rw [List.length_map]; omega) (by rw [List.length_map]; exact hc) (by rw [hd,hsep,lib_join]; omega)
  rw [hd,hsep,lib_join,List.length_map] at z
  exact z
end Go.Proofs.YtdmniblonikjlakGreatDoor.Run


namespace Go.Proofs.YtdmniblonikjlakGreatDoor.Run
open Go.RowKit
open Vec (Vw)
open Net (Pk errF)
open As (Laid)
open Fif (own_lt own_block own_form own_mono)
set_option linter.unusedVariables false
structure Fit (w:World):Prop where
 laid:Laid w
 mx:Mx w
 tb:Tb w
 er:Er w
theorem Fit.later {w w':World} (h:Fit w) (hb:Below w.heap.size w w'):Fit w' := ⟨h.laid.later hb,h.mx.later hb,h.tb.later hb,h.er.later hb⟩
theorem Fit.of {w:World} (h:Laid w) (hM:Mx w) (hT:Tb w) (hE:Er w):Fit w := ⟨h,hM,hT,hE⟩
def lineE:Value := .iface 181 (.agg #[.int .i64 2])
theorem str_is {a b:ByteArray} (h:bs a = bs b):(a.toList == b.toList) = true := by rw [str_eq]; exact decide_eq_true h
theorem str_no {a b:ByteArray} (h:bs a ≠ bs b):(a.toList == b.toList) = false := by rw [str_eq]; exact decide_eq_false h
set_option maxRecDepth 100000 in
theorem number_ok (t:ByteArray) (w:World) (hl:t.size ≤ 100000) (hF:Fit w) (hn:isNum (bs t) = true) :
  Calls Tryz.prog 142 #[.string t] w fun e w' => e = .returned (.tuple #[.int .i64 (numV (bs t):Int),.nilIface]) ∧ Below w.heap.size w w' := by
 have HF:Hid (Fit w) := hF
 obtain ⟨n,en⟩:∃ n,n = numV (bs t) := ⟨_,rfl⟩
 rw [← en]
 obtain ⟨h1,h2,-⟩ := num_own hn
 rw [← en] at h1 h2
 have hs:((tx (dig n)).toList == t.toList) = true := str_is (by rw [bs_tx]; exact h1)
 obtain ⟨d,ed⟩:∃ d,d = tx (dig n) := ⟨_,rfl⟩
 rw [← ed] at hs
 have E:Hid (tx (dig n) = d ∧ Lib.atoiAll (bs t) = .ok (n:Int) ∧ isNum (bs t) = true) := ⟨ed.symm,by rw [en]; exact atoi_num hn,hn⟩
 have h0:¬ ((n:Int) < 0) := by omega
 have h9:¬ ((9999:Int) < (n:Int)) := by omega
 have H2:Hid (n ≤ 9999) := h2
 clear hF en h1 ed hn h2
 go_enter Tryz.func142,Tryz.ntmps142
 go_wp2_with fail
 refine (atoiP t w hl HF.out.er).mono ?_
 rintro e w1 ⟨⟨v,hv,rfl⟩ | ⟨hx,-⟩,hb⟩
 ·obtain rfl:v = (n:Int) := by
   have := hv.symm.trans E.out.2.1
   injection this
  have B1:Hid (Below w.heap.size w w1) := hb
  clear hb hv
  go_wp2_with fail
  refine (itoaP n w1 H2.out (HF.out.tb.later B1.out)).mono ?_
  rw [E.out.1]
  rintro e w2 ⟨rfl,hb⟩
  have B2:Hid (Below w.heap.size w w2) := B1.out.trans (hb.mono B1.out.size)
  clear hb
  go_wp2
  go_ret2
  exact ⟨rfl,B2.out⟩
 ·have := E.out.2.2
  rw [hx] at this
  cases this
set_option maxRecDepth 100000 in
theorem number_no (t:ByteArray) (w:World) (hl:t.size ≤ 100000) (hF:Fit w) (hn:isNum (bs t) = false) :
  Calls Tryz.prog 142 #[.string t] w fun e w' => e = .returned (.tuple #[.int .i64 0,lineE]) ∧ Below w.heap.size w w' := by
 have HF:Hid (Fit w) := hF
 have HN:Hid (isNum (bs t) = false) := hn
 clear hF hn
 go_enter Tryz.func142,Tryz.ntmps142
 go_wp2_with fail
 refine (atoiP t w hl HF.out.er).mono ?_
 rintro e w1 ⟨⟨v,hv,rfl⟩ | ⟨hx,v,tp,p,rfl⟩,hb⟩
 ·have B1:Hid (Below w.heap.size w w1) := hb
  clear hb hv
  by_cases h0:v < 0
  ·go_wp2
   go_ret2
   exact ⟨rfl,B1.out⟩
  ·by_cases h9:(9999:Int) < v
   ·go_wp2
    go_ret2
    exact ⟨rfl,B1.out⟩
   ·obtain ⟨n,rfl⟩:∃ n:Nat,v = (n:Int) := ⟨v.toNat,by omega⟩
    have H2:Hid (n ≤ 9999) := by show n ≤ 9999; omega
    have hs:((tx (dig n)).toList == t.toList) = false := str_no (by rw [bs_tx]; exact num_not HN.out n H2.out)
    obtain ⟨d,ed⟩:∃ d,d = tx (dig n) := ⟨_,rfl⟩
    rw [← ed] at hs
    have E:Hid (tx (dig n) = d) := ed.symm
    clear ed
    go_wp2_with fail
    refine (itoaP n w1 H2.out (HF.out.tb.later B1.out)).mono ?_
    rw [E.out]
    rintro e w2 ⟨rfl,hb⟩
    have B2:Hid (Below w.heap.size w w2) := B1.out.trans (hb.mono B1.out.size)
    clear hb
    go_wp2
    go_ret2
    exact ⟨rfl,B2.out⟩
 ·have B1:Hid (Below w.heap.size w w1) := hb
  clear hb hx
  go_wp2
  go_ret2
  exact ⟨rfl,B1.out⟩
theorem taken_ok (w:World):Calls Tryz.prog 143 #[.nilIface] w fun e w' => e = .returned (.tuple #[.string (ByteArray.mk #[111,107]),.nilIface]) ∧ w' = w := by
 go_enter Tryz.func143,Tryz.ntmps143
 go_wp2
 go_ret2
 exact ⟨rfl,rfl⟩
theorem taken_no (c:Int) (w:World):Calls Tryz.prog 143 #[.iface 70 (.int .i64 c)] w fun e w' => e = .returned (.tuple #[.string (ByteArray.mk #[]),.iface 70 (.int .i64 c)]) ∧ w' = w := by
 go_enter Tryz.func143,Tryz.ntmps143
 go_wp2
 go_ret2
 exact ⟨rfl,rfl⟩
theorem joined_any (base:Nat) (v:Value) (ps:List T) (w:World) (ho:So w base v ps) (hn:ps.length ≤ 1000000) (hl:(join ps).length ≤ 1000000000) (hne:∀ x ∈ ps,x ≠ []) :
  Calls Tryz.prog 147 #[v] w fun e w' => e = .returned (.string (tx (orNone (join ps)))) ∧ Below w.heap.size w w' := by
 obtain ⟨q,c,rfl,hc,hm,-⟩ := ho.form
 have HO:Hid (So w base (.slice q ps.length c) ps ∧ ps.length ≤ 1000000 ∧ (join ps).length ≤ 1000000000) := ⟨ho,hn,hl⟩
 rcases Nat.eq_zero_or_pos ps.length with h0 | h0
 ·have e:ps = [] := List.eq_nil_of_length_eq_zero h0
  subst e
  go_enter Tryz.func147,Tryz.ntmps147
  go_wp2
  go_ret
  exact ⟨rfl,Below.refl _ _⟩
 ·have E:Hid (orNone (join ps) = join ps) := by
   show _ = _
   unfold orNone
   rw [if_neg fun e => by rw [join_nil hne] at e; rw [e] at h0; exact absurd h0 (by decide)]
  rw [E.out]
  obtain ⟨n,en⟩:∃ n,n = ps.length := ⟨_,rfl⟩
  have HO2:Hid (So w base (.slice q n c) ps) := by rw [en]; exact HO.out.1
  have hz:((n:Int) == 0) = false := beq_eq_false_iff_ne.2 (by omega)
  rw [← en]
  clear ho hn hl hne en h0 hc
  go_enter Tryz.func147,Tryz.ntmps147
  go_wp2_with fail
  refine (joinP base _ ps _ w rfl HO2.out HO.out.2.1 HO.out.2.2).mono ?_
  rintro e w1 ⟨rfl,hb⟩
  go_wp2
  go_ret
  exact ⟨rfl,hb⟩
theorem listed_no (v:Value) (c:Int) (w:World):Calls Tryz.prog 144 #[v,.iface 70 (.int .i64 c)] w fun e w' => e = .returned (.tuple #[.string (ByteArray.mk #[]),.iface 70 (.int .i64 c)]) ∧ w' = w := by
 go_enter Tryz.func144,Tryz.ntmps144
 go_wp2
 go_ret2
 exact ⟨rfl,rfl⟩
structure LI (w wr:World) (l:List Int) (v:Value) (i:Nat):Prop where
 so:So wr w.heap.size v ((l.take i).map fun x => dig x.toNat)
 bel:Below w.heap.size w wr
theorem LI.zero (w:World) (l:List Int):LI w w l (.slice none 0 0) 0 := ⟨World.ownsRow_nil _ _ _ _,Below.refl _ _⟩
theorem LI.next {w wr w':World} {l:List Int} {v v':Value} {i m:Nat} (h:LI w wr l v i) (hi:i < l.length) (hm:l.getD i 0 = (m:Int)) (ho:So w' w.heap.size v' ((l.take i).map (fun x => dig x.toNat) ++ [bs (tx (dig m))])) (hb:Below w.heap.size w w'):LI w w' l v' (i + 1) := by
 refine ⟨?_,hb⟩
 have e:(l.take (i + 1)).map (fun x => dig x.toNat) = (l.take i).map (fun x => dig x.toNat) ++ [bs (tx (dig m))] := by
  have hg:l.getD i 0 = l[i] := by rw [List.getD,List.getElem?_eq_getElem hi]; rfl
  rw [List.take_add_one,List.getElem?_eq_getElem hi,List.map_append,← hg,hm,bs_tx]
  rfl
 rw [e]
 exact ho
theorem take_len {l:List Int} {i:Nat} (h:i ≤ l.length):((l.take i).map fun x => dig x.toNat).length = i := by rw [List.length_map,List.length_take]; omega
set_option maxRecDepth 100000 in
set_option maxHeartbeats 1000000 in
theorem listed_ok (a:Option Addr) (n cap:Nat) (l:List Int) (w:World) (hF:Fit w) (hv:Vw w a n l) (hn:n ≤ 60) (hl:∀ i,i < n → 0 ≤ l.getD i 0 ∧ l.getD i 0 ≤ 9999) :
  Calls Tryz.prog 144 #[.slice a n cap,.nilIface] w fun e w' => e = .returned (.tuple #[.string (tx (row l)),.nilIface]) ∧ Below w.heap.size w w' := by
 have HF:Hid (Fit w) := hF
 have HV:Hid (Vw w a n l ∧ ∀ i,i < n → 0 ≤ l.getD i 0 ∧ l.getD i 0 ≤ 9999) := ⟨hv,hl⟩
 have HL:Hid (l.length = n) := hv.1
 have L0:Hid (LI w w l (.slice none 0 0) 0) := LI.zero w l
 have hn9:(n:Int) ≤ 60 := by omega
 clear hF hv hl
 go_enter Tryz.func144,Tryz.ntmps144
 go_wp2_with fail
 go_loopw [6,14] (fun v y wr => ∃ i:Nat,i ≤ n ∧ y = .int .i64 (i:Int) ∧ Hid (LI w wr l v i)) (fun _ y _ => n - (intOf y).toNat)
 case atStart => exact ⟨0,by omega,rfl,L0.out⟩
 case round =>
  clear L0
  obtain ⟨i,hi,rfl,hI⟩ := hrel
  have hi0:(0:Int) ≤ (i:Int) := by omega
  by_cases hlt:(i:Int) < (n:Int)
  ·have hil:i < n := by omega
   obtain ⟨b,off,rfl,hbs,hc⟩ := HV.out.1.2 (by omega)
   obtain ⟨m,hm⟩:∃ m:Nat,l.getD i 0 = (m:Int) := ⟨(l.getD i 0).toNat,by have := HV.out.2 i hil; omega⟩
   have ci:wr.cell? ⟨b,off + i,none⟩ = some (.int .i64 (m:Int)) := by
    rw [← hm]
    exact (hI.out.bel.cell (p := ⟨b,off + i,none⟩) hbs).trans (hc i hil)
   have HM:Hid (m ≤ 9999 ∧ l.getD i 0 = (m:Int)) := ⟨by have := HV.out.2 i hil; omega,hm⟩
   clear hbs hc hm
   go_wp2_with fail
   refine (itoaP m wr HM.out.1 (HF.out.tb.later hI.out.bel)).mono ?_
   obtain ⟨tm,etm⟩:∃ tm,tm = tx (dig m) := ⟨_,rfl⟩
   rw [← etm]
   rintro e w1 ⟨rfl,hb⟩
   obtain ⟨q5,c5,rfl⟩ := own_form hI.out.so
   have HO:Hid (So w1 w.heap.size (.slice q5 ((l.take i).map fun x => dig x.toNat).length c5) ((l.take i).map fun x => dig x.toNat)) := own_block hI.out.so fun k hk => hb.block k (own_lt hI.out.so k hk).2
   have HB:Hid (Below w.heap.size w w1) := hI.out.bel.trans (hb.mono hI.out.bel.size)
   have ET:Hid (tm = tx (dig m)) := etm
   obtain ⟨ps,eps⟩:∃ ps,ps = (l.take i).map fun x => dig x.toNat := ⟨_,rfl⟩
   have hpl:ps.length = i := by rw [eps]; exact take_len (by rw [HL.out]; omega)
   have EP:Hid (ps = (l.take i).map fun x => dig x.toNat) := eps
   have hp9:ps.length ≤ 60 := by omega
   rw [← eps] at HO ⊢
   clear hb ci etm eps hpl
   go_wp2_with (at_builtin; go_loud (refine app_str _ rfl _ _ rfl w.heap.size _ ps rfl (own_block HO.out fun k hk => Deep.blk_alloc_lt _ _ _ (own_lt HO.out k hk).2) tm w1.heap.size 1 rfl (new_str _ _ rfl _ _) (by omega) (by have := HB.out.size; simp; omega) ?_; intro q9 c9 w9 ho9 hg9; have O9:Hid (So w9 w.heap.size (.slice q9 (ps.length + 1) c9) (ps ++ [bs tm])) := ho9; have B9:Hid (Below w.heap.size w w9) := (HB.out.alloc HB.out.size _).grown hg9 (by have := HB.out.size; simp; omega) (fun k hk => (own_lt HO.out k hk).1); clear ho9 hg9))
   go_roundw
   case rel => exact ⟨i + 1,by omega,by go_num,hI.out.next (m := m) (by rw [HL.out]; exact hil) HM.out.2 (by rw [← EP.out,← ET.out]; exact O9.out) B9.out⟩
   case measure => simp [intOf]; omega
  ·have hin:i = n := by omega
   have HO:Hid (So wr w.heap.size u6 (l.map fun x => dig x.toNat)) := by
    have := hI.out.so
    rw [List.take_of_length_le (by rw [HL.out]; omega)] at this
    exact this
   have HB:Hid (Below w.heap.size w wr) := hI.out.bel
   have HJ:Hid ((join (l.map fun x => dig x.toNat)).length ≤ 1000000000 ∧ ∀ x ∈ (l.map fun x => dig x.toNat),x ≠ []) := by
    refine ⟨?_,fun x hx => by obtain ⟨y,-,rfl⟩ := List.mem_map.1 hx; exact dig_ne _⟩
    have h := join_len 1000002 (l.map fun x => dig x.toNat) (by
     intro x hx
     obtain ⟨y,hy,rfl⟩ := List.mem_map.1 hx
     obtain ⟨j,hj,rfl⟩ := List.getElem_of_mem hy
     have := HV.out.2 j (by rw [← HL.out]; exact hj)
     rw [List.getD,List.getElem?_eq_getElem hj] at this
     simp only [Option.getD_some] at this
     have := dig_len l[j].toNat
     omega)
    rw [List.length_map,HL.out] at h
    have := Nat.mul_le_mul_right 1000002 hn
    omega
   clear hI
   go_wp2_with fail
   refine (joined_any w.heap.size _ _ wr HO.out (by rw [List.length_map,HL.out]; omega) HJ.out.1 HJ.out.2).mono ?_
   rintro e w2 ⟨rfl,hb⟩
   have B2:Hid (Below w.heap.size w w2) := HB.out.trans (hb.mono HB.out.size)
   clear hb
   go_wp2
   go_ret2
   exact ⟨rfl,B2.out⟩
end Go.Proofs.YtdmniblonikjlakGreatDoor.Run


namespace Go.Proofs.YtdmniblonikjlakGreatDoor.Run
open Go.RowKit
open Fif (own_lt own_block own_form own_mono)
set_option linter.unusedVariables false
theorem So.nil (w:World) (base:Nat):So w base (.slice none 0 0) [] := World.ownsRow_nil _ _ _ _
theorem So.alloc {w:World} {base:Nat} {v:Value} {ps:List T} (h:So w base v ps) (o:Obj):So (w.alloc o) base v ps := own_block h fun k hk => Deep.blk_alloc_lt _ _ _ (own_lt h k hk).2
theorem words_ne {ps:List T} (h:ps.all (fun x => decide (x ≠ [])) = true):∀ x ∈ ps,x ≠ [] := fun x hx => of_decide_eq_true (List.all_eq_true.1 h x hx)
set_option maxRecDepth 100000 in
theorem named_111 (w:World):Calls Tryz.prog 151 #[.agg #[.bool true,.bool true,.bool true],.nilIface] w fun e w' => e = .returned (.tuple #[.string (tx (facesT true true true)),.nilIface]) ∧ Below w.heap.size w w' := by
 obtain ⟨W0,eW⟩:∃ W,W = w.alloc (.cells #[.bool true,.bool true,.bool true] 44) := ⟨_,rfl⟩
 have B:Hid (Below w.heap.size w W0 ∧ w.heap.size < W0.heap.size) := by subst eW; exact ⟨(Below.refl _ _).alloc (Nat.le_refl _) _,by simp⟩
 have c0:W0.cell? ⟨w.heap.size,0,none⟩ = some (.bool true) := by subst eW; simp
 have c1:W0.cell? ⟨w.heap.size,1,none⟩ = some (.bool true) := by subst eW; simp
 have c2:W0.cell? ⟨w.heap.size,2,none⟩ = some (.bool true) := by subst eW; simp
 have C:Hid (W0.cell? ⟨w.heap.size,1,none⟩ = some (.bool true) ∧ W0.cell? ⟨w.heap.size,2,none⟩ = some (.bool true)) := ⟨c1,c2⟩
 go_enter Tryz.func151,Tryz.ntmps151
 go_upto_region 4 with fail
 rw [← eW]
 clear eW
 have O0:Hid (So W0 W0.heap.size (.slice none 0 0) []) := So.nil _ _
 have B0:Hid (Below W0.heap.size W0 W0) := Below.refl _ _
 go_upto_region 9 with (first | (at_builtin; (refine app_str _ rfl _ _ rfl W0.heap.size _ _ rfl (O1.out.alloc _) (ByteArray.mk #[99,97,117,115,97,108]) w1.heap.size 1 rfl (new_str _ _ rfl _ _) (by decide) (by have := B1.out.size; simp <;> omega) ?_; intro q2 d2 w2 ho hg; have O2:Hid (So w2 W0.heap.size (.slice q2 2 d2) [[102,105,102,111],[99,97,117,115,97,108]]) := ho; have B2:Hid (Below W0.heap.size W0 w2) := (B1.out.alloc B1.out.size _).grown hg (by have := B1.out.size; simp <;> omega) (fun k hk => (own_lt (O1.out.alloc (.cells #[.string (ByteArray.mk #[99,97,117,115,97,108])] 9)) k hk).1); have e21 := (B2.out.cell (p := ⟨w.heap.size,1,none⟩) B.out.2).trans C.out.1; have e22 := (B2.out.cell (p := ⟨w.heap.size,2,none⟩) B.out.2).trans C.out.2; clear ho hg)) | (at_builtin; (refine app_str _ rfl _ _ rfl W0.heap.size _ _ rfl (O0.out.alloc _) (ByteArray.mk #[102,105,102,111]) W0.heap.size 1 rfl (new_str _ _ rfl _ _) (by decide) (by have := B0.out.size; simp <;> omega) ?_; intro q1 d1 w1 ho hg; have O1:Hid (So w1 W0.heap.size (.slice q1 1 d1) [[102,105,102,111]]) := ho; have B1:Hid (Below W0.heap.size W0 w1) := (B0.out.alloc B0.out.size _).grown hg (by have := B0.out.size; simp <;> omega) (fun k hk => (own_lt (O0.out.alloc (.cells #[.string (ByteArray.mk #[102,105,102,111])] 9)) k hk).1); have e11 := (B1.out.cell (p := ⟨w.heap.size,1,none⟩) B.out.2).trans C.out.1; have e12 := (B1.out.cell (p := ⟨w.heap.size,2,none⟩) B.out.2).trans C.out.2; clear ho hg)))
 go_wp2_with (at_builtin; (refine app_str _ rfl _ _ rfl W0.heap.size _ _ rfl (O2.out.alloc _) (ByteArray.mk #[116,111,116,97,108]) w2.heap.size 1 rfl (new_str _ _ rfl _ _) (by decide) (by have := B2.out.size; simp <;> omega) ?_; intro q3 d3 w3 ho hg; have O3:Hid (So w3 W0.heap.size (.slice q3 3 d3) [[102,105,102,111],[99,97,117,115,97,108],[116,111,116,97,108]]) := ho; have B3:Hid (Below W0.heap.size W0 w3) := (B2.out.alloc B2.out.size _).grown hg (by have := B2.out.size; simp <;> omega) (fun k hk => (own_lt (O2.out.alloc (.cells #[.string (ByteArray.mk #[116,111,116,97,108])] 9)) k hk).1); have e31 := (B3.out.cell (p := ⟨w.heap.size,1,none⟩) B.out.2).trans C.out.1; have e32 := (B3.out.cell (p := ⟨w.heap.size,2,none⟩) B.out.2).trans C.out.2; clear ho hg))
 refine (joined_any W0.heap.size _ _ w3 O3.out (by decide) (by decide) (words_ne (by decide))).mono ?_
 rintro e z1 ⟨rfl,hb⟩
 have Z1:Hid (Below w.heap.size w z1) := (B.out.1.trans (B3.out.mono (Nat.le_of_lt B.out.2))).trans (hb.mono (Nat.le_trans (Nat.le_of_lt B.out.2) B3.out.size))
 clear hb
 go_wp2
 go_ret2
 exact ⟨rfl,Z1.out⟩
set_option maxRecDepth 100000 in
theorem named_110 (w:World):Calls Tryz.prog 151 #[.agg #[.bool true,.bool true,.bool false],.nilIface] w fun e w' => e = .returned (.tuple #[.string (tx (facesT true true false)),.nilIface]) ∧ Below w.heap.size w w' := by
 obtain ⟨W0,eW⟩:∃ W,W = w.alloc (.cells #[.bool true,.bool true,.bool false] 44) := ⟨_,rfl⟩
 have B:Hid (Below w.heap.size w W0 ∧ w.heap.size < W0.heap.size) := by subst eW; exact ⟨(Below.refl _ _).alloc (Nat.le_refl _) _,by simp⟩
 have c0:W0.cell? ⟨w.heap.size,0,none⟩ = some (.bool true) := by subst eW; simp
 have c1:W0.cell? ⟨w.heap.size,1,none⟩ = some (.bool true) := by subst eW; simp
 have c2:W0.cell? ⟨w.heap.size,2,none⟩ = some (.bool false) := by subst eW; simp
 have C:Hid (W0.cell? ⟨w.heap.size,1,none⟩ = some (.bool true) ∧ W0.cell? ⟨w.heap.size,2,none⟩ = some (.bool false)) := ⟨c1,c2⟩
 go_enter Tryz.func151,Tryz.ntmps151
 go_upto_region 4 with fail
 rw [← eW]
 clear eW
 have O0:Hid (So W0 W0.heap.size (.slice none 0 0) []) := So.nil _ _
 have B0:Hid (Below W0.heap.size W0 W0) := Below.refl _ _
 go_wp2_with (first | (at_builtin; (refine app_str _ rfl _ _ rfl W0.heap.size _ _ rfl (O1.out.alloc _) (ByteArray.mk #[99,97,117,115,97,108]) w1.heap.size 1 rfl (new_str _ _ rfl _ _) (by decide) (by have := B1.out.size; simp <;> omega) ?_; intro q2 d2 w2 ho hg; have O2:Hid (So w2 W0.heap.size (.slice q2 2 d2) [[102,105,102,111],[99,97,117,115,97,108]]) := ho; have B2:Hid (Below W0.heap.size W0 w2) := (B1.out.alloc B1.out.size _).grown hg (by have := B1.out.size; simp <;> omega) (fun k hk => (own_lt (O1.out.alloc (.cells #[.string (ByteArray.mk #[99,97,117,115,97,108])] 9)) k hk).1); have e21 := (B2.out.cell (p := ⟨w.heap.size,1,none⟩) B.out.2).trans C.out.1; have e22 := (B2.out.cell (p := ⟨w.heap.size,2,none⟩) B.out.2).trans C.out.2; clear ho hg)) | (at_builtin; (refine app_str _ rfl _ _ rfl W0.heap.size _ _ rfl (O0.out.alloc _) (ByteArray.mk #[102,105,102,111]) W0.heap.size 1 rfl (new_str _ _ rfl _ _) (by decide) (by have := B0.out.size; simp <;> omega) ?_; intro q1 d1 w1 ho hg; have O1:Hid (So w1 W0.heap.size (.slice q1 1 d1) [[102,105,102,111]]) := ho; have B1:Hid (Below W0.heap.size W0 w1) := (B0.out.alloc B0.out.size _).grown hg (by have := B0.out.size; simp <;> omega) (fun k hk => (own_lt (O0.out.alloc (.cells #[.string (ByteArray.mk #[102,105,102,111])] 9)) k hk).1); have e11 := (B1.out.cell (p := ⟨w.heap.size,1,none⟩) B.out.2).trans C.out.1; have e12 := (B1.out.cell (p := ⟨w.heap.size,2,none⟩) B.out.2).trans C.out.2; clear ho hg)))
 refine (joined_any W0.heap.size _ _ w2 O2.out (by decide) (by decide) (words_ne (by decide))).mono ?_
 rintro e z1 ⟨rfl,hb⟩
 have Z1:Hid (Below w.heap.size w z1) := (B.out.1.trans (B2.out.mono (Nat.le_of_lt B.out.2))).trans (hb.mono (Nat.le_trans (Nat.le_of_lt B.out.2) B2.out.size))
 clear hb
 go_wp2
 go_ret2
 exact ⟨rfl,Z1.out⟩
set_option maxRecDepth 100000 in
theorem named_101 (w:World):Calls Tryz.prog 151 #[.agg #[.bool true,.bool false,.bool true],.nilIface] w fun e w' => e = .returned (.tuple #[.string (tx (facesT true false true)),.nilIface]) ∧ Below w.heap.size w w' := by
 obtain ⟨W0,eW⟩:∃ W,W = w.alloc (.cells #[.bool true,.bool false,.bool true] 44) := ⟨_,rfl⟩
 have B:Hid (Below w.heap.size w W0 ∧ w.heap.size < W0.heap.size) := by subst eW; exact ⟨(Below.refl _ _).alloc (Nat.le_refl _) _,by simp⟩
 have c0:W0.cell? ⟨w.heap.size,0,none⟩ = some (.bool true) := by subst eW; simp
 have c1:W0.cell? ⟨w.heap.size,1,none⟩ = some (.bool false) := by subst eW; simp
 have c2:W0.cell? ⟨w.heap.size,2,none⟩ = some (.bool true) := by subst eW; simp
 have C:Hid (W0.cell? ⟨w.heap.size,1,none⟩ = some (.bool false) ∧ W0.cell? ⟨w.heap.size,2,none⟩ = some (.bool true)) := ⟨c1,c2⟩
 go_enter Tryz.func151,Tryz.ntmps151
 go_upto_region 4 with fail
 rw [← eW]
 clear eW
 have O0:Hid (So W0 W0.heap.size (.slice none 0 0) []) := So.nil _ _
 have B0:Hid (Below W0.heap.size W0 W0) := Below.refl _ _
 go_wp2_with (first | (at_builtin; (refine app_str _ rfl _ _ rfl W0.heap.size _ _ rfl (O1.out.alloc _) (ByteArray.mk #[116,111,116,97,108]) w1.heap.size 1 rfl (new_str _ _ rfl _ _) (by decide) (by have := B1.out.size; simp <;> omega) ?_; intro q2 d2 w2 ho hg; have O2:Hid (So w2 W0.heap.size (.slice q2 2 d2) [[102,105,102,111],[116,111,116,97,108]]) := ho; have B2:Hid (Below W0.heap.size W0 w2) := (B1.out.alloc B1.out.size _).grown hg (by have := B1.out.size; simp <;> omega) (fun k hk => (own_lt (O1.out.alloc (.cells #[.string (ByteArray.mk #[116,111,116,97,108])] 9)) k hk).1); have e21 := (B2.out.cell (p := ⟨w.heap.size,1,none⟩) B.out.2).trans C.out.1; have e22 := (B2.out.cell (p := ⟨w.heap.size,2,none⟩) B.out.2).trans C.out.2; clear ho hg)) | (at_builtin; (refine app_str _ rfl _ _ rfl W0.heap.size _ _ rfl (O0.out.alloc _) (ByteArray.mk #[102,105,102,111]) W0.heap.size 1 rfl (new_str _ _ rfl _ _) (by decide) (by have := B0.out.size; simp <;> omega) ?_; intro q1 d1 w1 ho hg; have O1:Hid (So w1 W0.heap.size (.slice q1 1 d1) [[102,105,102,111]]) := ho; have B1:Hid (Below W0.heap.size W0 w1) := (B0.out.alloc B0.out.size _).grown hg (by have := B0.out.size; simp <;> omega) (fun k hk => (own_lt (O0.out.alloc (.cells #[.string (ByteArray.mk #[102,105,102,111])] 9)) k hk).1); have e11 := (B1.out.cell (p := ⟨w.heap.size,1,none⟩) B.out.2).trans C.out.1; have e12 := (B1.out.cell (p := ⟨w.heap.size,2,none⟩) B.out.2).trans C.out.2; clear ho hg)))
 refine (joined_any W0.heap.size _ _ w2 O2.out (by decide) (by decide) (words_ne (by decide))).mono ?_
 rintro e z1 ⟨rfl,hb⟩
 have Z1:Hid (Below w.heap.size w z1) := (B.out.1.trans (B2.out.mono (Nat.le_of_lt B.out.2))).trans (hb.mono (Nat.le_trans (Nat.le_of_lt B.out.2) B2.out.size))
 clear hb
 go_wp2
 go_ret2
 exact ⟨rfl,Z1.out⟩
set_option maxRecDepth 100000 in
theorem named_100 (w:World):Calls Tryz.prog 151 #[.agg #[.bool true,.bool false,.bool false],.nilIface] w fun e w' => e = .returned (.tuple #[.string (tx (facesT true false false)),.nilIface]) ∧ Below w.heap.size w w' := by
 obtain ⟨W0,eW⟩:∃ W,W = w.alloc (.cells #[.bool true,.bool false,.bool false] 44) := ⟨_,rfl⟩
 have B:Hid (Below w.heap.size w W0 ∧ w.heap.size < W0.heap.size) := by subst eW; exact ⟨(Below.refl _ _).alloc (Nat.le_refl _) _,by simp⟩
 have c0:W0.cell? ⟨w.heap.size,0,none⟩ = some (.bool true) := by subst eW; simp
 have c1:W0.cell? ⟨w.heap.size,1,none⟩ = some (.bool false) := by subst eW; simp
 have c2:W0.cell? ⟨w.heap.size,2,none⟩ = some (.bool false) := by subst eW; simp
 have C:Hid (W0.cell? ⟨w.heap.size,1,none⟩ = some (.bool false) ∧ W0.cell? ⟨w.heap.size,2,none⟩ = some (.bool false)) := ⟨c1,c2⟩
 go_enter Tryz.func151,Tryz.ntmps151
 go_upto_region 4 with fail
 rw [← eW]
 clear eW
 have O0:Hid (So W0 W0.heap.size (.slice none 0 0) []) := So.nil _ _
 have B0:Hid (Below W0.heap.size W0 W0) := Below.refl _ _
 go_wp2_with (first | (at_builtin; (refine app_str _ rfl _ _ rfl W0.heap.size _ _ rfl (O0.out.alloc _) (ByteArray.mk #[102,105,102,111]) W0.heap.size 1 rfl (new_str _ _ rfl _ _) (by decide) (by have := B0.out.size; simp <;> omega) ?_; intro q1 d1 w1 ho hg; have O1:Hid (So w1 W0.heap.size (.slice q1 1 d1) [[102,105,102,111]]) := ho; have B1:Hid (Below W0.heap.size W0 w1) := (B0.out.alloc B0.out.size _).grown hg (by have := B0.out.size; simp <;> omega) (fun k hk => (own_lt (O0.out.alloc (.cells #[.string (ByteArray.mk #[102,105,102,111])] 9)) k hk).1); have e11 := (B1.out.cell (p := ⟨w.heap.size,1,none⟩) B.out.2).trans C.out.1; have e12 := (B1.out.cell (p := ⟨w.heap.size,2,none⟩) B.out.2).trans C.out.2; clear ho hg)))
 refine (joined_any W0.heap.size _ _ w1 O1.out (by decide) (by decide) (words_ne (by decide))).mono ?_
 rintro e z1 ⟨rfl,hb⟩
 have Z1:Hid (Below w.heap.size w z1) := (B.out.1.trans (B1.out.mono (Nat.le_of_lt B.out.2))).trans (hb.mono (Nat.le_trans (Nat.le_of_lt B.out.2) B1.out.size))
 clear hb
 go_wp2
 go_ret2
 exact ⟨rfl,Z1.out⟩
set_option maxRecDepth 100000 in
theorem named_011 (w:World):Calls Tryz.prog 151 #[.agg #[.bool false,.bool true,.bool true],.nilIface] w fun e w' => e = .returned (.tuple #[.string (tx (facesT false true true)),.nilIface]) ∧ Below w.heap.size w w' := by
 obtain ⟨W0,eW⟩:∃ W,W = w.alloc (.cells #[.bool false,.bool true,.bool true] 44) := ⟨_,rfl⟩
 have B:Hid (Below w.heap.size w W0 ∧ w.heap.size < W0.heap.size) := by subst eW; exact ⟨(Below.refl _ _).alloc (Nat.le_refl _) _,by simp⟩
 have c0:W0.cell? ⟨w.heap.size,0,none⟩ = some (.bool false) := by subst eW; simp
 have c1:W0.cell? ⟨w.heap.size,1,none⟩ = some (.bool true) := by subst eW; simp
 have c2:W0.cell? ⟨w.heap.size,2,none⟩ = some (.bool true) := by subst eW; simp
 have C:Hid (W0.cell? ⟨w.heap.size,1,none⟩ = some (.bool true) ∧ W0.cell? ⟨w.heap.size,2,none⟩ = some (.bool true)) := ⟨c1,c2⟩
 go_enter Tryz.func151,Tryz.ntmps151
 go_upto_region 4 with fail
 rw [← eW]
 clear eW
 have O0:Hid (So W0 W0.heap.size (.slice none 0 0) []) := So.nil _ _
 have B0:Hid (Below W0.heap.size W0 W0) := Below.refl _ _
 go_wp2_with (first | (at_builtin; (refine app_str _ rfl _ _ rfl W0.heap.size _ _ rfl (O1.out.alloc _) (ByteArray.mk #[116,111,116,97,108]) w1.heap.size 1 rfl (new_str _ _ rfl _ _) (by decide) (by have := B1.out.size; simp <;> omega) ?_; intro q2 d2 w2 ho hg; have O2:Hid (So w2 W0.heap.size (.slice q2 2 d2) [[99,97,117,115,97,108],[116,111,116,97,108]]) := ho; have B2:Hid (Below W0.heap.size W0 w2) := (B1.out.alloc B1.out.size _).grown hg (by have := B1.out.size; simp <;> omega) (fun k hk => (own_lt (O1.out.alloc (.cells #[.string (ByteArray.mk #[116,111,116,97,108])] 9)) k hk).1); have e21 := (B2.out.cell (p := ⟨w.heap.size,1,none⟩) B.out.2).trans C.out.1; have e22 := (B2.out.cell (p := ⟨w.heap.size,2,none⟩) B.out.2).trans C.out.2; clear ho hg)) | (at_builtin; (refine app_str _ rfl _ _ rfl W0.heap.size _ _ rfl (O0.out.alloc _) (ByteArray.mk #[99,97,117,115,97,108]) W0.heap.size 1 rfl (new_str _ _ rfl _ _) (by decide) (by have := B0.out.size; simp <;> omega) ?_; intro q1 d1 w1 ho hg; have O1:Hid (So w1 W0.heap.size (.slice q1 1 d1) [[99,97,117,115,97,108]]) := ho; have B1:Hid (Below W0.heap.size W0 w1) := (B0.out.alloc B0.out.size _).grown hg (by have := B0.out.size; simp <;> omega) (fun k hk => (own_lt (O0.out.alloc (.cells #[.string (ByteArray.mk #[99,97,117,115,97,108])] 9)) k hk).1); have e11 := (B1.out.cell (p := ⟨w.heap.size,1,none⟩) B.out.2).trans C.out.1; have e12 := (B1.out.cell (p := ⟨w.heap.size,2,none⟩) B.out.2).trans C.out.2; clear ho hg)))
 refine (joined_any W0.heap.size _ _ w2 O2.out (by decide) (by decide) (words_ne (by decide))).mono ?_
 rintro e z1 ⟨rfl,hb⟩
 have Z1:Hid (Below w.heap.size w z1) := (B.out.1.trans (B2.out.mono (Nat.le_of_lt B.out.2))).trans (hb.mono (Nat.le_trans (Nat.le_of_lt B.out.2) B2.out.size))
 clear hb
 go_wp2
 go_ret2
 exact ⟨rfl,Z1.out⟩
set_option maxRecDepth 100000 in
theorem named_010 (w:World):Calls Tryz.prog 151 #[.agg #[.bool false,.bool true,.bool false],.nilIface] w fun e w' => e = .returned (.tuple #[.string (tx (facesT false true false)),.nilIface]) ∧ Below w.heap.size w w' := by
 obtain ⟨W0,eW⟩:∃ W,W = w.alloc (.cells #[.bool false,.bool true,.bool false] 44) := ⟨_,rfl⟩
 have B:Hid (Below w.heap.size w W0 ∧ w.heap.size < W0.heap.size) := by subst eW; exact ⟨(Below.refl _ _).alloc (Nat.le_refl _) _,by simp⟩
 have c0:W0.cell? ⟨w.heap.size,0,none⟩ = some (.bool false) := by subst eW; simp
 have c1:W0.cell? ⟨w.heap.size,1,none⟩ = some (.bool true) := by subst eW; simp
 have c2:W0.cell? ⟨w.heap.size,2,none⟩ = some (.bool false) := by subst eW; simp
 have C:Hid (W0.cell? ⟨w.heap.size,1,none⟩ = some (.bool true) ∧ W0.cell? ⟨w.heap.size,2,none⟩ = some (.bool false)) := ⟨c1,c2⟩
 go_enter Tryz.func151,Tryz.ntmps151
 go_upto_region 4 with fail
 rw [← eW]
 clear eW
 have O0:Hid (So W0 W0.heap.size (.slice none 0 0) []) := So.nil _ _
 have B0:Hid (Below W0.heap.size W0 W0) := Below.refl _ _
 go_wp2_with (first | (at_builtin; (refine app_str _ rfl _ _ rfl W0.heap.size _ _ rfl (O0.out.alloc _) (ByteArray.mk #[99,97,117,115,97,108]) W0.heap.size 1 rfl (new_str _ _ rfl _ _) (by decide) (by have := B0.out.size; simp <;> omega) ?_; intro q1 d1 w1 ho hg; have O1:Hid (So w1 W0.heap.size (.slice q1 1 d1) [[99,97,117,115,97,108]]) := ho; have B1:Hid (Below W0.heap.size W0 w1) := (B0.out.alloc B0.out.size _).grown hg (by have := B0.out.size; simp <;> omega) (fun k hk => (own_lt (O0.out.alloc (.cells #[.string (ByteArray.mk #[99,97,117,115,97,108])] 9)) k hk).1); have e11 := (B1.out.cell (p := ⟨w.heap.size,1,none⟩) B.out.2).trans C.out.1; have e12 := (B1.out.cell (p := ⟨w.heap.size,2,none⟩) B.out.2).trans C.out.2; clear ho hg)))
 refine (joined_any W0.heap.size _ _ w1 O1.out (by decide) (by decide) (words_ne (by decide))).mono ?_
 rintro e z1 ⟨rfl,hb⟩
 have Z1:Hid (Below w.heap.size w z1) := (B.out.1.trans (B1.out.mono (Nat.le_of_lt B.out.2))).trans (hb.mono (Nat.le_trans (Nat.le_of_lt B.out.2) B1.out.size))
 clear hb
 go_wp2
 go_ret2
 exact ⟨rfl,Z1.out⟩
set_option maxRecDepth 100000 in
theorem named_001 (w:World):Calls Tryz.prog 151 #[.agg #[.bool false,.bool false,.bool true],.nilIface] w fun e w' => e = .returned (.tuple #[.string (tx (facesT false false true)),.nilIface]) ∧ Below w.heap.size w w' := by
 obtain ⟨W0,eW⟩:∃ W,W = w.alloc (.cells #[.bool false,.bool false,.bool true] 44) := ⟨_,rfl⟩
 have B:Hid (Below w.heap.size w W0 ∧ w.heap.size < W0.heap.size) := by subst eW; exact ⟨(Below.refl _ _).alloc (Nat.le_refl _) _,by simp⟩
 have c0:W0.cell? ⟨w.heap.size,0,none⟩ = some (.bool false) := by subst eW; simp
 have c1:W0.cell? ⟨w.heap.size,1,none⟩ = some (.bool false) := by subst eW; simp
 have c2:W0.cell? ⟨w.heap.size,2,none⟩ = some (.bool true) := by subst eW; simp
 have C:Hid (W0.cell? ⟨w.heap.size,1,none⟩ = some (.bool false) ∧ W0.cell? ⟨w.heap.size,2,none⟩ = some (.bool true)) := ⟨c1,c2⟩
 go_enter Tryz.func151,Tryz.ntmps151
 go_upto_region 4 with fail
 rw [← eW]
 clear eW
 have O0:Hid (So W0 W0.heap.size (.slice none 0 0) []) := So.nil _ _
 have B0:Hid (Below W0.heap.size W0 W0) := Below.refl _ _
 go_wp2_with (first | (at_builtin; (refine app_str _ rfl _ _ rfl W0.heap.size _ _ rfl (O0.out.alloc _) (ByteArray.mk #[116,111,116,97,108]) W0.heap.size 1 rfl (new_str _ _ rfl _ _) (by decide) (by have := B0.out.size; simp <;> omega) ?_; intro q1 d1 w1 ho hg; have O1:Hid (So w1 W0.heap.size (.slice q1 1 d1) [[116,111,116,97,108]]) := ho; have B1:Hid (Below W0.heap.size W0 w1) := (B0.out.alloc B0.out.size _).grown hg (by have := B0.out.size; simp <;> omega) (fun k hk => (own_lt (O0.out.alloc (.cells #[.string (ByteArray.mk #[116,111,116,97,108])] 9)) k hk).1); have e11 := (B1.out.cell (p := ⟨w.heap.size,1,none⟩) B.out.2).trans C.out.1; have e12 := (B1.out.cell (p := ⟨w.heap.size,2,none⟩) B.out.2).trans C.out.2; clear ho hg)))
 refine (joined_any W0.heap.size _ _ w1 O1.out (by decide) (by decide) (words_ne (by decide))).mono ?_
 rintro e z1 ⟨rfl,hb⟩
 have Z1:Hid (Below w.heap.size w z1) := (B.out.1.trans (B1.out.mono (Nat.le_of_lt B.out.2))).trans (hb.mono (Nat.le_trans (Nat.le_of_lt B.out.2) B1.out.size))
 clear hb
 go_wp2
 go_ret2
 exact ⟨rfl,Z1.out⟩
set_option maxRecDepth 100000 in
theorem named_000 (w:World):Calls Tryz.prog 151 #[.agg #[.bool false,.bool false,.bool false],.nilIface] w fun e w' => e = .returned (.tuple #[.string (tx (facesT false false false)),.nilIface]) ∧ Below w.heap.size w w' := by
 obtain ⟨W0,eW⟩:∃ W,W = w.alloc (.cells #[.bool false,.bool false,.bool false] 44) := ⟨_,rfl⟩
 have B:Hid (Below w.heap.size w W0 ∧ w.heap.size < W0.heap.size) := by subst eW; exact ⟨(Below.refl _ _).alloc (Nat.le_refl _) _,by simp⟩
 have c0:W0.cell? ⟨w.heap.size,0,none⟩ = some (.bool false) := by subst eW; simp
 have c1:W0.cell? ⟨w.heap.size,1,none⟩ = some (.bool false) := by subst eW; simp
 have c2:W0.cell? ⟨w.heap.size,2,none⟩ = some (.bool false) := by subst eW; simp
 have C:Hid (W0.cell? ⟨w.heap.size,1,none⟩ = some (.bool false) ∧ W0.cell? ⟨w.heap.size,2,none⟩ = some (.bool false)) := ⟨c1,c2⟩
 go_enter Tryz.func151,Tryz.ntmps151
 go_upto_region 4 with fail
 rw [← eW]
 clear eW
 have O0:Hid (So W0 W0.heap.size (.slice none 0 0) []) := So.nil _ _
 have B0:Hid (Below W0.heap.size W0 W0) := Below.refl _ _
 go_wp2_with (fail)
 refine (joined_any W0.heap.size _ _ W0 O0.out (by decide) (by decide) (words_ne (by decide))).mono ?_
 rintro e z1 ⟨rfl,hb⟩
 have Z1:Hid (Below w.heap.size w z1) := (B.out.1.trans (B0.out.mono (Nat.le_of_lt B.out.2))).trans (hb.mono (Nat.le_trans (Nat.le_of_lt B.out.2) B0.out.size))
 clear hb
 go_wp2
 go_ret2
 exact ⟨rfl,Z1.out⟩
theorem named_ok (f c t:Bool) (w:World):Calls Tryz.prog 151 #[.agg #[.bool f,.bool c,.bool t],.nilIface] w fun e w' => e = .returned (.tuple #[.string (tx (facesT f c t)),.nilIface]) ∧ Below w.heap.size w w' := by
 cases f <;> cases c <;> cases t
 ·exact named_000 w
 ·exact named_001 w
 ·exact named_010 w
 ·exact named_011 w
 ·exact named_100 w
 ·exact named_101 w
 ·exact named_110 w
 ·exact named_111 w
end Go.Proofs.YtdmniblonikjlakGreatDoor.Run


namespace Go.Proofs.YtdmniblonikjlakGreatDoor.Run
open Go.RowKit
open Net (Pk)
open Fif (own_lt own_block own_form own_mono)
set_option linter.unusedVariables false
theorem takeP {P:Program} {ops:Array Oper} {Q:Exit → Act → World → Prop} {md:Region.Mode} {S:World → Prop} {i:Nat} (d:Nat) {oi:Oper} {v:Value} {fuel:Nat} {listed:Array Bool} {a:Act} {w:World} (hi:ops[i]? = some oi) (hd:oi.dst = some d)
  (hs:Region.noSelect ops = true) (hf:Region.free md ops listed i = true) (hr:(Region.ready md ops listed).contains i = true)
  (hQ:∀ c a w,Q (.panic c) (a.put (some d) v) w → Q (.panic c) a w) (hy:YieldsIf P ops S oi v a) (hS:S w)
  (h:wpAnyH P md ops Q S fuel (listed.setIfInBounds i true) (a.put (some d) v) w):wpAnyH P md ops Q S (fuel + 1) listed a w :=
 wpAnyH_take hi hs hf hr (by rw [hd]; exact hQ) hy hS (by rw [hd]; exact h)
structure PI (w wr:World) (l:List Pk) (v:Value) (i:Nat):Prop where
 so:So wr w.heap.size v ((l.take i).map pkT)
 bel:Below w.heap.size w wr
theorem PI.zero (w:World) (l:List Pk):PI w w l (.slice none 0 0) 0 := ⟨World.ownsRow_nil _ _ _ _,Below.refl _ _⟩
theorem pk_get {l:List Pk} {i:Nat} (h:i < l.length):Net.pk l i = l[i] := by simp [Net.pk,List.getD,h]
theorem PI.next {w wr w':World} {l:List Pk} {v v':Value} {i:Nat} {t:T} (h:PI w wr l v i) (hi:i < l.length) (ht:t = pkT (Net.pk l i)) (ho:So w' w.heap.size v' ((l.take i).map pkT ++ [t])) (hb:Below w.heap.size w w'):PI w w' l v' (i + 1) := by
 refine ⟨?_,hb⟩
 have e:(l.take (i + 1)).map pkT = (l.take i).map pkT ++ [t] := by
  rw [List.take_add_one,List.getElem?_eq_getElem hi,List.map_append,ht,pk_get hi]
  rfl
 rw [e]
 exact ho
theorem pk_text (x0 x1 x2:Nat):bs (tx (dig x0) ++ ByteArray.mk #[62] ++ tx (dig x1) ++ ByteArray.mk #[58] ++ tx (dig x2)) = pkT ((x0:Int),(x1:Int),(x2:Int)) := by
 simp only [bs_append,bs_tx]
 show dig x0 ++ [62] ++ dig x1 ++ [58] ++ dig x2 = dig x0 ++ 62 :: dig x1 ++ 58 :: dig x2
 simp
theorem pk_len {l:List Pk} {i:Nat} (h:i ≤ l.length):((l.take i).map pkT).length = i := by rw [List.length_map,List.length_take]; omega
set_option maxRecDepth 100000 in
set_option maxHeartbeats 4000000 in
theorem packets_any (a:Option Addr) (n cap:Nat) (l:List Pk) (w:World) (hF:Fit w) (hv:P3 w a n l) (hn:n ≤ 60) (hl:∀ i,i < n → (0 ≤ (Net.pk l i).1 ∧ (Net.pk l i).1 ≤ 9999) ∧ (0 ≤ (Net.pk l i).2.1 ∧ (Net.pk l i).2.1 ≤ 9999) ∧ (0 ≤ (Net.pk l i).2.2 ∧ (Net.pk l i).2.2 ≤ 9999)) :
  Calls Tryz.prog 148 #[.slice a n cap] w fun e w' => ∃ v,e = .returned v ∧ So w' w.heap.size v (l.map pkT) ∧ Below w.heap.size w w' := by
 have HF:Hid (Fit w) := hF
 have HV:Hid (P3 w a n l) := hv
 have HS9:Hid (∀ i,i < n → (0 ≤ (Net.pk l i).1 ∧ (Net.pk l i).1 ≤ 9999) ∧ (0 ≤ (Net.pk l i).2.1 ∧ (Net.pk l i).2.1 ≤ 9999) ∧ (0 ≤ (Net.pk l i).2.2 ∧ (Net.pk l i).2.2 ≤ 9999)) := hl
 have HL:Hid (l.length = n) := hv.1
 have L0:Hid (PI w w l (.slice none 0 0) 0) := PI.zero w l
 have hn9:(n:Int) ≤ 60 := by omega
 clear hF hv hl
 go_enter Tryz.func148,Tryz.ntmps148
 go_wp2_with fail
 go_loopw [3,8] (fun v y wr => ∃ i:Nat,i ≤ n ∧ y = .int .i64 (i:Int) ∧ Hid (PI w wr l v i)) (fun _ y _ => n - (intOf y).toNat)
 case atStart => exact ⟨0,by omega,rfl,L0.out⟩
 case round =>
  clear L0
  obtain ⟨i,hi,rfl,hI⟩ := hrel
  have hi0:(0:Int) ≤ (i:Int) := by omega
  by_cases hlt:(i:Int) < (n:Int)
  ·have hil:i < n := by omega
   obtain ⟨b,off,rfl,h0,h1,h2⟩ := HV.out.2 i hil
   obtain ⟨s0,s1,s2⟩ := HS9.out i hil
   obtain ⟨p0,p1,p2⟩:∃ p0 p1 p2,True := ⟨0,0,0,trivial⟩
   obtain ⟨x0,y0⟩:∃ m:Nat,(Net.pk l i).1 = (m:Int) := ⟨(Net.pk l i).1.toNat,by omega⟩
   obtain ⟨x1,y1⟩:∃ m:Nat,(Net.pk l i).2.1 = (m:Int) := ⟨(Net.pk l i).2.1.toNat,by omega⟩
   obtain ⟨x2,y2⟩:∃ m:Nat,(Net.pk l i).2.2 = (m:Int) := ⟨(Net.pk l i).2.2.toNat,by omega⟩
   rw [y0] at h0 s0
   rw [y1] at h1 s1
   rw [y2] at h2 s2
   have hbl:b < w.heap.size := block_lt_of_cell h0
   have m0 := (hI.out.bel.cell (p := ⟨b,off + i * 3,none⟩) hbl).trans h0
   have m1 := (hI.out.bel.cell (p := ⟨b,off + i * 3 + 1,none⟩) hbl).trans h1
   have m2 := (hI.out.bel.cell (p := ⟨b,off + i * 3 + 2,none⟩) hbl).trans h2
   have HX:Hid (x0 ≤ 9999 ∧ x1 ≤ 9999 ∧ x2 ≤ 9999) := ⟨by omega,by omega,by omega⟩
   have HY:Hid (Net.pk l i = ((x0:Int),(x1:Int),(x2:Int))) := by
    show Net.pk l i = _
    rw [← y0,← y1,← y2]
   clear h0 h1 h2 s0 s1 s2 y0 y1 y2 hbl
   obtain ⟨W1,eW⟩:∃ W,W = wr.alloc (.cells #[.int .i64 (x0:Int),.int .i64 (x1:Int),.int .i64 (x2:Int)] 83) := ⟨_,rfl⟩
   obtain ⟨z,ez⟩:∃ z,z = wr.heap.size := ⟨_,rfl⟩
   have BW:Hid (Below w.heap.size w W1) := by subst eW; exact hI.out.bel.alloc hI.out.bel.size _
   have HW:Hid (wr.heap.size ≤ W1.heap.size) := by subst eW; show _ ≤ _; simp
   have BK:Hid (∀ k,k < wr.heap.size → W1.heap[k]? = wr.heap[k]?) := by subst eW; exact fun k hk => Below.heap_alloc _ _ _ hk
   have HS:Hid (∀ X,Below W1.heap.size W1 X → X.cell? ⟨z,0,none⟩ = some (.int .i64 (x0:Int)) ∧ X.cell? ⟨z,1,none⟩ = some (.int .i64 (x1:Int)) ∧ X.cell? ⟨z,2,none⟩ = some (.int .i64 (x2:Int))) := by
    intro X hX
    have hz:z < W1.heap.size := by subst eW; simp [ez]
    refine ⟨(hX.cell (p := ⟨z,0,none⟩) hz).trans ?_,(hX.cell (p := ⟨z,1,none⟩) hz).trans ?_,(hX.cell (p := ⟨z,2,none⟩) hz).trans ?_⟩ <;> subst eW <;> subst ez <;> simp
   obtain ⟨t0,e0⟩:∃ t,t = tx (dig x0) := ⟨_,rfl⟩
   obtain ⟨t1,e1⟩:∃ t,t = tx (dig x1) := ⟨_,rfl⟩
   obtain ⟨t2,e2⟩:∃ t,t = tx (dig x2) := ⟨_,rfl⟩
   have ET:Hid (tx (dig x0) = t0 ∧ tx (dig x1) = t1 ∧ tx (dig x2) = t2) := ⟨e0.symm,e1.symm,e2.symm⟩
   have z0:t0.size ≤ 10000 := by rw [e0,tx_size]; have := dig_len x0; have := HX.out.1; omega
   have z1:t1.size ≤ 10000 := by rw [e1,tx_size]; have := dig_len x1; have := HX.out.2.1; omega
   have z2:t2.size ≤ 10000 := by rw [e2,tx_size]; have := dig_len x2; have := HX.out.2.2; omega
   clear e0 e1 e2
   have EZ:Hid (z = wr.heap.size) := ez
   have ZL:Hid (z < W1.heap.size) := by subst eW; show z < _; simp [ez]
   go_upto_region 5 with fail
   rw [← eW,← ez]
   clear eW ez m0 m1 m2
   obtain ⟨ps,eps⟩:∃ ps,ps = (l.take i).map pkT := ⟨_,rfl⟩
   have EP:Hid (ps = (l.take i).map pkT ∧ ps.length = i) := ⟨eps,by rw [eps]; exact pk_len (by rw [HL.out]; omega)⟩
   have SP:Hid (So wr w.heap.size u3 ps) := by rw [eps]; exact hI.out.so
   clear eps
   refine wp_region_held_drew (S := fun X => X.cell? ⟨z,0,none⟩ = some (.int .i64 (x0:Int)) ∧ X.cell? ⟨z,1,none⟩ = some (.int .i64 (x1:Int)) ∧ X.cell? ⟨z,2,none⟩ = some (.int .i64 (x2:Int))) (by kernel_rfl) (HS.out _ (Below.refl _ _).drew) ?_
   intro hS
   refine takeP (i := 0) 12 (v := u3) rfl rfl (by kernel_rfl) (by kernel_rfl) (by kernel_rfl) (fun _ _ _ h => h) (Or.inl ⟨by kernel_rfl,fun _ hS => by first | rfl | (obtain ⟨g0,g1,g2⟩ := hS; go_simp <;> omega)⟩) hS ?_
   try simp only [Act.put,List.setIfInBounds_toArray,List.set_cons_zero,List.set_cons_succ]
   refine takeP (i := 1) 13 (v := .pointer (some ⟨z,0,none⟩)) rfl rfl (by kernel_rfl) (by kernel_rfl) (by kernel_rfl) (fun _ _ _ h => h) (Or.inl ⟨by kernel_rfl,fun _ hS => by first | rfl | (obtain ⟨g0,g1,g2⟩ := hS; go_simp <;> omega)⟩) hS ?_
   try simp only [Act.put,List.setIfInBounds_toArray,List.set_cons_zero,List.set_cons_succ]
   refine takeP (i := 2) 14 (v := .int .i64 (x0:Int)) rfl rfl (by kernel_rfl) (by kernel_rfl) (by kernel_rfl) (fun _ _ _ h => h) (Or.inl ⟨by kernel_rfl,fun _ hS => by first | rfl | (obtain ⟨g0,g1,g2⟩ := hS; go_simp <;> omega)⟩) hS ?_
   try simp only [Act.put,List.setIfInBounds_toArray,List.set_cons_zero,List.set_cons_succ]
   refine takeP (i := 5) 17 (v := .pointer (some ⟨z,1,none⟩)) rfl rfl (by kernel_rfl) (by kernel_rfl) (by kernel_rfl) (fun _ _ _ h => h) (Or.inl ⟨by kernel_rfl,fun _ hS => by first | rfl | (obtain ⟨g0,g1,g2⟩ := hS; go_simp <;> omega)⟩) hS ?_
   try simp only [Act.put,List.setIfInBounds_toArray,List.set_cons_zero,List.set_cons_succ]
   refine takeP (i := 6) 18 (v := .int .i64 (x1:Int)) rfl rfl (by kernel_rfl) (by kernel_rfl) (by kernel_rfl) (fun _ _ _ h => h) (Or.inl ⟨by kernel_rfl,fun _ hS => by first | rfl | (obtain ⟨g0,g1,g2⟩ := hS; go_simp <;> omega)⟩) hS ?_
   try simp only [Act.put,List.setIfInBounds_toArray,List.set_cons_zero,List.set_cons_succ]
   refine takeP (i := 10) 22 (v := .pointer (some ⟨z,2,none⟩)) rfl rfl (by kernel_rfl) (by kernel_rfl) (by kernel_rfl) (fun _ _ _ h => h) (Or.inl ⟨by kernel_rfl,fun _ hS => by first | rfl | (obtain ⟨g0,g1,g2⟩ := hS; go_simp <;> omega)⟩) hS ?_
   try simp only [Act.put,List.setIfInBounds_toArray,List.set_cons_zero,List.set_cons_succ]
   refine takeP (i := 11) 23 (v := .int .i64 (x2:Int)) rfl rfl (by kernel_rfl) (by kernel_rfl) (by kernel_rfl) (fun _ _ _ h => h) (Or.inl ⟨by kernel_rfl,fun _ hS => by first | rfl | (obtain ⟨g0,g1,g2⟩ := hS; go_simp <;> omega)⟩) hS ?_
   try simp only [Act.put,List.setIfInBounds_toArray,List.set_cons_zero,List.set_cons_succ]
   refine wpAnyH_ready (rs := [3]) (by kernel_rfl) (by simp) ?_
   refine AllReadyH.cons rfl (fun K9 hK9 => ?_) AllReadyH.nil
   go_simp
   go_at_call 169
   refine (itoaP x0 W1.drew HX.out.1 (HF.out.tb.later BW.out.drew)).mono ?_
   rw [ET.out.1]
   rintro e w1 ⟨rfl,hb⟩
   have C1:Hid (Below W1.heap.size W1 w1) := (Below.refl _ _).drew.trans hb
   clear hb
   go_wp2_with fail
   refine hK9.out _ _ (HS.out _ C1.out) (fun hS => ?_)
   clear hK9 K9
   refine takeP (i := 4) 16 (v := .string (t0 ++ ByteArray.mk #[62])) rfl rfl (by kernel_rfl) (by kernel_rfl) (by kernel_rfl) (fun _ _ _ h => h) (Or.inl ⟨by kernel_rfl,fun _ hS => by first | rfl | (obtain ⟨g0,g1,g2⟩ := hS; go_simp <;> omega)⟩) hS ?_
   try simp only [Act.put,List.setIfInBounds_toArray,List.set_cons_zero,List.set_cons_succ]
   refine wpAnyH_ready (rs := [7]) (by kernel_rfl) (by simp) ?_
   refine AllReadyH.cons rfl (fun K9 hK9 => ?_) AllReadyH.nil
   go_simp
   go_at_call 169
   refine (itoaP x1 w1 HX.out.2.1 (HF.out.tb.later (BW.out.trans (C1.out.mono BW.out.size)))).mono ?_
   rw [ET.out.2.1]
   rintro e w2 ⟨rfl,hb⟩
   have C2:Hid (Below W1.heap.size W1 w2) := C1.out.trans (hb.mono C1.out.size)
   clear hb
   go_wp2_with fail
   refine hK9.out _ _ (HS.out _ C2.out) (fun hS => ?_)
   clear hK9 K9
   refine takeP (i := 8) 20 (v := .string (t0 ++ ByteArray.mk #[62] ++ t1)) rfl rfl (by kernel_rfl) (by kernel_rfl) (by kernel_rfl) (fun _ _ _ h => h) (Or.inl ⟨by kernel_rfl,fun _ hS => by first | rfl | (obtain ⟨g0,g1,g2⟩ := hS; go_simp <;> omega)⟩) hS ?_
   try simp only [Act.put,List.setIfInBounds_toArray,List.set_cons_zero,List.set_cons_succ]
   refine takeP (i := 9) 21 (v := .string (t0 ++ ByteArray.mk #[62] ++ t1 ++ ByteArray.mk #[58])) rfl rfl (by kernel_rfl) (by kernel_rfl) (by kernel_rfl) (fun _ _ _ h => h) (Or.inl ⟨by kernel_rfl,fun _ hS => by first | rfl | (obtain ⟨g0,g1,g2⟩ := hS; go_simp <;> omega)⟩) hS ?_
   try simp only [Act.put,List.setIfInBounds_toArray,List.set_cons_zero,List.set_cons_succ]
   refine wpAnyH_ready (rs := [12]) (by kernel_rfl) (by simp) ?_
   refine AllReadyH.cons rfl (fun K9 hK9 => ?_) AllReadyH.nil
   go_simp
   go_at_call 169
   refine (itoaP x2 w2 HX.out.2.2 (HF.out.tb.later (BW.out.trans (C2.out.mono BW.out.size)))).mono ?_
   rw [ET.out.2.2]
   rintro e w3 ⟨rfl,hb⟩
   have C3:Hid (Below W1.heap.size W1 w3) := C2.out.trans (hb.mono C2.out.size)
   clear hb
   go_wp2_with fail
   refine hK9.out _ _ (HS.out _ C3.out) (fun hS => ?_)
   clear hK9 K9
   refine takeP (i := 13) 25 (v := .string (t0 ++ ByteArray.mk #[62] ++ t1 ++ ByteArray.mk #[58] ++ t2)) rfl rfl (by kernel_rfl) (by kernel_rfl) (by kernel_rfl) (fun _ _ _ h => h) (Or.inl ⟨by kernel_rfl,fun _ hS => by first | rfl | (obtain ⟨g0,g1,g2⟩ := hS; go_simp <;> omega)⟩) hS ?_
   try simp only [Act.put,List.setIfInBounds_toArray,List.set_cons_zero,List.set_cons_succ]
   obtain ⟨tt,ett⟩:∃ tt,tt = t0 ++ ByteArray.mk #[62] ++ t1 ++ ByteArray.mk #[58] ++ t2 := ⟨_,rfl⟩
   have TT:Hid (tt = t0 ++ ByteArray.mk #[62] ++ t1 ++ ByteArray.mk #[58] ++ t2) := ett
   rw [← ett]
   clear ett
   refine wpAnyH_ready (rs := [14]) (by kernel_rfl) (by simp) ?_
   refine AllReadyH.cons rfl (fun K9 hK9 => ?_) AllReadyH.nil
   go_simp
   refine hK9.out _ _ (HS.out _ (C3.out.alloc C3.out.size _)) (fun hS => ?_)
   clear hK9 K9
   have OA:Hid (So (w3.alloc (.cells #[.string tt] 9)) w.heap.size u3 ps) := So.alloc (own_block SP.out fun k hk => (C3.out.block k (Nat.lt_of_lt_of_le (own_lt SP.out k hk).2 HW.out)).trans (BK.out k (own_lt SP.out k hk).2)) _
   obtain ⟨ie,i1,i2,i3,i4⟩ := info_str
   have e9:(ps.map fun p => Value.string (tx p)).length = ps.length := List.length_map ..
   refine wpAnyH_ready (rs := [15]) (by kernel_rfl) (by simp) ?_
   refine AllReadyH.cons rfl (fun K9 hK9 => ?_) AllReadyH.nil
   refine step_append_lies _ rfl _ _ 59 rfl w.heap.size 9 ie _ 1 16 Tryz.underlying59 i1 i2 i3 i4 rfl (by decide) u3 ps.length (ps.map fun p => .string (tx p)) rfl OA.out ⟨w3.heap.size,0,none⟩ 1 1 [.string tt] rfl rfl (new_str w3 _ rfl _ _) (str_one tt) (by decide) (by have := EP.out.2; unfold maxLen; omega) (by have := EP.out.2; omega) (by have := BW.out.size; have := C3.out.size; simp; omega) _ rfl ?_
   intro g9 c9 w9 ho9 hg9 _ _
   have R9:Hid (So w9 w.heap.size (.slice (some ⟨g9,0,none⟩) (ps.length + 1) c9) (ps ++ [bs tt]) ∧ Below w.heap.size w w9) := by
    refine ⟨?_,(((BW.out.trans (C3.out.mono BW.out.size)).alloc (by have := BW.out.size; have := C3.out.size; omega) _)).grown hg9 (by have := BW.out.size; have := C3.out.size; simp; omega) (fun t ht => (own_lt OA.out t ht).1)⟩
    unfold So
    rw [List.length_append,List.map_append,List.map_cons,List.map_nil,tx_bs]
    exact ho9
   have hzo:some z ≠ u3.ownBlock := fun e => by have := (own_lt SP.out z e.symm).2; have := EZ.out; omega
   have hzl:z < (w3.alloc (.cells #[.string tt] 9)).heap.size := by have := ZL.out; have := C3.out.size; simp; omega
   go_simp
   refine hK9.out _ _ (⟨(hg9.cell_far ⟨z,0,none⟩ hzl hzo).trans hS.1,(hg9.cell_far ⟨z,1,none⟩ hzl hzo).trans hS.2.1,(hg9.cell_far ⟨z,2,none⟩ hzl hzo).trans hS.2.2⟩) (fun hS => ?_)
   clear hK9 K9
   refine takeP (i := 16) 3 (v := .slice (some ⟨g9,0,none⟩) (ps.length + 1) c9) rfl rfl (by kernel_rfl) (by kernel_rfl) (by kernel_rfl) (fun _ _ _ h => h) (Or.inl ⟨by kernel_rfl,fun _ hS => by first | rfl | (obtain ⟨g0,g1,g2⟩ := hS; go_simp <;> omega)⟩) hS ?_
   try simp only [Act.put,List.setIfInBounds_toArray,List.set_cons_zero,List.set_cons_succ]
   refine wpAnyH_done (by kernel_rfl) ?_ _
   go_wp2_with fail
   go_roundw
   case rel => exact ⟨i + 1,by omega,by go_num,hI.out.next (t := bs tt) (by rw [HL.out]; exact hil) (by rw [TT.out,HY.out,← ET.out.1,← ET.out.2.1,← ET.out.2.2]; exact pk_text x0 x1 x2) (by rw [← EP.out.1]; exact R9.out.1) R9.out.2⟩
   case measure => simp [intOf]; omega
  ·have hin:i = n := by omega
   have HO:Hid (So wr w.heap.size u3 (l.map pkT)) := by
    have := hI.out.so
    rw [List.take_of_length_le (by rw [HL.out]; omega)] at this
    exact this
   have HB:Hid (Below w.heap.size w wr) := hI.out.bel
   clear hI
   go_wp2
   go_ret
   exact ⟨_,rfl,HO.out,HB.out⟩
end Go.Proofs.YtdmniblonikjlakGreatDoor.Run
