/-
  Texts put together: RunN, RunL.
-/
import Derived.Test.YtdmniblonikjlakGreatDoorPrS
import Derived.Test.YtdmniblonikjlakGreatDoorPsL


namespace Go.Proofs.YtdmniblonikjlakGreatDoor.Run
open Go.RowKit
set_option linter.unusedVariables false
def isDig (x:UInt8):Bool := decide (48 ≤ x.toNat) && decide (x.toNat ≤ 57)
theorem isNum_eq (w:T):isNum w = (decide (w ≠ []) && decide (w.length ≤ 4) && !(decide (w.head? = some 48) && decide (1 < w.length)) && w.all isDig) := rfl
theorem num_no {t:ByteArray} (h:t.size = 0 ∨ 4 < t.size ∨ ∃ h0:0 < t.size,t[0]'h0 = 48 ∧ 1 < t.size):isNum (bs t) = false := by
 rw [isNum_eq]
 rcases h with h | h | ⟨h0,h1,h2⟩
 ·have e:bs t = [] := List.eq_nil_of_length_eq_zero (by rw [bs_len]; exact h)
  rw [e]
  rfl
 ·have e:decide ((bs t).length ≤ 4) = false := decide_eq_false (by rw [bs_len]; omega)
  rw [e]
  simp
 ·have e:(bs t).head? = some 48 := by
   rw [List.head?_eq_getElem?,bs_get h0,h1]
  have e2:decide (1 < (bs t).length) = true := decide_eq_true (by rw [bs_len]; exact h2)
  rw [e,e2]
  simp
theorem num_bad {t:ByteArray} {i:Nat} (hi:i < t.size) (h:isDig (t[i]'hi) = false):isNum (bs t) = false := by
 rw [isNum_eq]
 have e:(bs t).all isDig = false := by
  rw [List.all_eq_false]
  exact ⟨t[i]'hi,List.mem_of_getElem? (bs_get hi),by rw [h]; decide⟩
 rw [e]
 simp
theorem num_yes {t:ByteArray} (h1:0 < t.size) (h4:t.size ≤ 4) (h0:¬ (t[0]'h1 = 48 ∧ 1 < t.size)) (ha:(bs t).all isDig = true):isNum (bs t) = true := by
 rw [isNum_eq,ha]
 have e1:bs t ≠ [] := fun e => by have := bs_len t; rw [e] at this; simp at this; omega
 have e2:(bs t).head? = some (t[0]'h1) := by rw [List.head?_eq_getElem?,bs_get h1]
 rw [e2,bs_len,decide_eq_true e1,decide_eq_true h4]
 by_cases q:t[0]'h1 = 48
 ·have:¬ 1 < t.size := fun z => h0 ⟨q,z⟩
  simp [this]
 ·simp [q]
theorem take_all {t:ByteArray} {i:Nat} (hi:i < t.size):(bs t).take (i + 1) = (bs t).take i ++ [t[i]'hi] := by
 have := take_at (f := 0) hi (Nat.zero_le _)
 simpa using this
def NR (t:ByteArray) (i m:Nat):Prop := m = numV ((bs t).take i) ∧ ((bs t).take i).all isDig = true ∧ m < 10 ^ i
theorem NR.zero (t:ByteArray):NR t 0 0 := ⟨rfl,rfl,by decide⟩
theorem NR.next {t:ByteArray} {i m:Nat} (h:NR t i m) (hi:i < t.size) (hd:isDig (t[i]'hi) = true):NR t (i + 1) (m * 10 + ((t[i]'hi).toNat - 48)) := by
 obtain ⟨e,ha,hm⟩ := h
 refine ⟨?_,?_,?_⟩
 ·rw [take_all hi,numV_snoc,← e]
 ·rw [take_all hi,List.all_append,ha]
  simp [hd]
 ·unfold isDig at hd
  simp only [Bool.and_eq_true,decide_eq_true_eq] at hd
  rw [Nat.pow_succ]
  omega
def numI (w:T):Int := if isNum w = true then (numV w:Int) else 0
theorem numI_no {w:T} (h:isNum w = false):numI w = 0 := by unfold numI; rw [h]; rfl
theorem numI_yes {w:T} (h:isNum w = true):numI w = (numV w:Int) := if_pos h
set_option maxRecDepth 100000 in
set_option maxHeartbeats 4000000 in
theorem number_any (t:ByteArray) (w:World):Calls Tryz.prog 56 #[.string t] w fun e w' => e = .returned (.tuple #[.int .i64 (numI (bs t)),.bool (isNum (bs t))]) ∧ w' = w := by
 obtain ⟨n,en⟩:∃ n,n = t.size := ⟨_,rfl⟩
 have hsz:(t.size:Int) = (n:Int) := by rw [en]
 have hne := none_eq t
 by_cases hn0:n = 0
 ·have HB:Hid (isNum (bs t) = false) := num_no (.inl (by omega))
  rw [decide_eq_true (List.eq_nil_of_length_eq_zero (by rw [bs_len]; omega))] at hne
  clear hsz en
  go_enter Tryz.func56,Tryz.ntmps56
  go_wp2
  all_goals
   go_ret2
   exact ⟨by rw [numI_no HB.out,HB.out]; rfl,rfl⟩
 ·rw [decide_eq_false (fun e => by have := bs_len t; rw [e] at this; simp at this; omega)] at hne
  by_cases hn4:4 < n
  ·have HB:Hid (isNum (bs t) = false) := num_no (.inr (.inl (by omega)))
   have hI:(4:Int) < (n:Int) := by omega
   clear en hn4 hn0
   go_enter Tryz.func56,Tryz.ntmps56
   go_wp2
   all_goals
    go_ret2
    exact ⟨by rw [numI_no HB.out,HB.out]; rfl,rfl⟩
  ·have h0:0 < t.size := by omega
   have hI:¬ (4:Int) < (n:Int) := by omega
   have hI4:(n:Int) ≤ 4 := by omega
   have i0 := index_at (t := t) (i := 0) (a := 0) rfl h0
   obtain ⟨x,ex⟩:∃ x,x = t[0]'h0 := ⟨_,rfl⟩
   rw [← ex] at i0
   by_cases hz:x = 48 ∧ 1 < n
   ·have HB:Hid (isNum (bs t) = false) := num_no (.inr (.inr ⟨h0,by rw [← ex]; exact hz.1,by omega⟩))
    obtain ⟨rfl,h1⟩ := hz
    have h1I:(1:Int) < (n:Int) := by omega
    clear en hn4 hn0 ex h1
    go_enter Tryz.func56,Tryz.ntmps56
    go_wp2
    all_goals
     go_ret2
     exact ⟨by rw [numI_no HB.out,HB.out]; rfl,rfl⟩
   ·have HN:Hid (n = t.size ∧ 0 < n ∧ n ≤ 4 ∧ ¬ (x = 48 ∧ 1 < n)) := ⟨en,by omega,by omega,hz⟩
    have EX:Hid (x = t[0]'h0) := ex
    have hx:((x.toNat:Int) == 48) = true ∧ ¬ (1:Int) < (n:Int) ∨ ((x.toNat:Int) == 48) = false := by
     by_cases q:x = 48
     ·left
      exact ⟨by rw [q]; rfl,fun z => hz ⟨q,by omega⟩⟩
     ·right
      rw [beq_eq_false_iff_ne]
      intro z
      exact q (UInt8.toNat_inj.1 (by show x.toNat = 48; omega))
    clear en hn4 hn0 ex hz
    rcases hx with ⟨hx1,hx2⟩ | hx1
    all_goals
     go_enter Tryz.func56,Tryz.ntmps56
     go_wp2
     clear i0 hx1
     go_loopw [4,5] (fun y z wr => ∃ i m:Nat,i ≤ n ∧ y = .int .i64 (m:Int) ∧ z = .int .i64 (i:Int) ∧ Hid (NR t i m) ∧ w = wr) (fun _ z _ => n - (intOf z).toNat)
     case atStart => exact ⟨0,0,by omega,rfl,rfl,NR.zero t,rfl⟩
     case round =>
      obtain ⟨i,m,hi,rfl,rfl,hR,rfl⟩ := hrel
      have hi0:(0:Int) ≤ (i:Int) := by omega
      by_cases hlt:(i:Int) < (n:Int)
      ·have hil:i < t.size := by have := HN.out.1; omega
       have i1 := index_at (t := t) (i := i) (a := (i:Int)) rfl hil
       obtain ⟨z,ez⟩:∃ z,z = t[i]'hil := ⟨_,rfl⟩
       rw [← ez] at i1
       have hm:m ≤ 999 := by
        have h1 := hR.out.2.2
        have h2:10 ^ i ≤ 10 ^ 3 := Nat.pow_le_pow_right (by decide) (by omega)
        have:(10:Nat) ^ 3 = 1000 := by decide
        omega
       have EZ:Hid (z = t[i]'hil) := ez
       have hz8 := z.toNat_lt
       obtain ⟨zn,ezn⟩:∃ zn,zn = z.toNat := ⟨_,rfl⟩
       rw [← ezn] at i1 hz8
       have EN:Hid (zn = z.toNat) := ezn
       clear ez ezn
       by_cases hb:zn < 48
       ·have HB:Hid (isNum (bs t) = false) := num_bad hil (by rw [← EZ.out]; unfold isDig; rw [decide_eq_false (by have := EN.out; omega)]; rfl)
        have hbI:(zn:Int) < 48 := by omega
        clear hb
        go_wp2
        all_goals
         go_ret2
         exact ⟨by rw [numI_no HB.out,HB.out]; rfl,rfl⟩
       ·by_cases hc:57 < zn
        ·have HB:Hid (isNum (bs t) = false) := num_bad hil (by rw [← EZ.out]; unfold isDig; rw [decide_eq_false (p := z.toNat ≤ 57) (by have := EN.out; omega)]; simp)
         have hbI:¬ (zn:Int) < 48 := by omega
         have hcI:(57:Int) < (zn:Int) := by omega
         clear hb hc
         go_wp2
         all_goals
          go_ret2
          exact ⟨by rw [numI_no HB.out,HB.out]; rfl,rfl⟩
        ·have HD:Hid (NR t (i + 1) (m * 10 + (zn - 48))) := by
          have := hR.out.next hil (by rw [← EZ.out]; unfold isDig; rw [decide_eq_true (by have := EN.out; omega),decide_eq_true (by have := EN.out; omega)]; rfl)
          rw [← EZ.out,← EN.out] at this
          exact this
         have hbI:¬ (zn:Int) < 48 := by omega
         have hcI:¬ (57:Int) < (zn:Int) := by omega
         clear hR
         go_wp2
         go_roundw
         case rel => exact ⟨i + 1,m * 10 + (zn - 48),by omega,by congr 1; omega,by go_num,HD.out,by first | rfl | trivial⟩
         case measure => simp [intOf]; omega
      ·have HB:Hid (isNum (bs t) = true ∧ (m:Int) = (numV (bs t):Int)) := by
        have hin:i = t.size := by have := HN.out; omega
        obtain ⟨e1,e2,_⟩ := hR.out
        have e3:(bs t).take i = bs t := List.take_of_length_le (by rw [bs_len]; omega)
        rw [e3] at e1 e2
        refine ⟨num_yes h0 (by have := HN.out; omega) (fun q => HN.out.2.2.2 ⟨by rw [EX.out]; exact q.1,by have := HN.out.1; omega⟩) e2,by rw [e1]⟩
       go_wp2
       all_goals
        go_ret2
        exact ⟨by rw [numI_yes HB.out.1,HB.out.1,← HB.out.2]; rfl,rfl⟩
end Go.Proofs.YtdmniblonikjlakGreatDoor.Run


namespace Go.Proofs.YtdmniblonikjlakGreatDoor.Run
open Go.RowKit
open Fif (own_lt own_block own_form own_mono)
open Cas (G GI RG CRes)
open Vec (Vw)
set_option linter.unusedVariables false
theorem takeR {P:Program} {ops:Array Oper} {Q:Exit → Act → World → Prop} {md:Region.Mode} {S:World → Prop} {i:Nat} (d:Nat) {oi:Oper} {v:Value} {fuel:Nat} {listed:Array Bool} {a:Act} {w:World} (hi:ops[i]? = some oi) (hd:oi.dst = some d)
  (hs:Region.noSelect ops = true) (hf:Region.free md ops listed i = true) (hr:(Region.ready md ops listed).contains i = true)
  (hQ:∀ c a w,Q (.panic c) (a.put (some d) v) w → Q (.panic c) a w) (hy:YieldsIf P ops S oi v a) (hS:S w)
  (h:wpAnyH P md ops Q S fuel (listed.setIfInBounds i true) (a.put (some d) v) w):wpAnyH P md ops Q S (fuel + 1) listed a w :=
 wpAnyH_take hi hs hf hr (by rw [hd]; exact hQ) hy hS (by rw [hd]; exact h)
theorem tl (l:T):(tx l).toList = l := by
 rw [Lib.toList_data]
 exact bs_tx l
theorem line_bad3 {g:G} {s w0:T} {ns:List T} (hw:cut 32 s = w0 :: ns) (h:¬ (ns.length ≤ 2 ∧ ns.all isNum = true ∧ many w0 = some ns.length)):line g s = (bad,g) := by
 unfold line
 rw [hw]
 exact if_neg h
theorem line_act {g:G} {s w0:T} {ns:List T} (hw:cut 32 s = w0 :: ns) (h:ns.length ≤ 2 ∧ ns.all isNum = true ∧ many w0 = some ns.length):line g s = act g w0 (((ns.map numV).getD 0 0:Nat):Int) (((ns.map numV).getD 1 0:Nat):Int) := by
 unfold line
 rw [hw]
 exact if_pos h
def V2 (w1 wr:World) (ns:List T) (j:Nat):Prop := wr.rowIs w1.heap.size 135 2 (fun t => .int .i64 (if t < j then (numV (ns.getD t []):Int) else 0)) ∧ Below w1.heap.size w1 wr
theorem V2.zero (w1:World) (ns:List T):V2 w1 (w1.alloc (.cells #[.int .i64 0,.int .i64 0] 135)) ns 0 := by
 refine ⟨?_,(Below.refl _ _).alloc (Nat.le_refl _) _⟩
 exact World.rowIs_alloc w1 #[.int .i64 0,.int .i64 0] 135 _ (fun t ht => by rcases t with _ | _ | t <;> first | rfl | (exfalso; have:_ < 2 := ht; omega))
theorem V2.next {w1 wr:World} {ns:List T} {j:Nat} (h:V2 w1 wr ns j):V2 w1 (wr.setCell ⟨w1.heap.size,j,none⟩ (.int .i64 (numV (ns.getD j []):Int))) ns (j + 1) := by
 refine ⟨(World.rowIs.set h.1 j _).congr fun t ht => ?_,Below.setCell (p := ⟨w1.heap.size,j,none⟩) h.2 (Nat.le_refl _) _⟩
 by_cases e:t = j
 ·subst e
  rw [if_pos rfl,if_pos (by omega)]
 ·rw [if_neg e]
  by_cases q:t < j
  ·rw [if_pos q,if_pos (by omega)]
  ·rw [if_neg q,if_neg (by omega)]
variable {w:World} {base C:Nat} {g:G} {d:Cas.Loc}
set_option maxRecDepth 100000 in
set_option maxHeartbeats 4000000 in
theorem line_long (s:ByteArray) (h:RG w base C g d) (hbw:base ≤ w.heap.size) (hs:s.size ≤ 3000) {w0:T} {ns:List T} (hw:cut 32 (bs s) = w0 :: ns) (hn:2 < ns.length):Calls Tryz.prog 26 #[.pointer (some ⟨C,0,none⟩),.string s] w fun e w' => e = .returned (.string (tx (line g (bs s)).1)) ∧ ∃ d',CRes w w' base C g d (line g (bs s)).2 d' := by
 have HR:Hid (RG w base C g d ∧ base ≤ w.heap.size) := ⟨h,hbw⟩
 have HW:Hid (cut 32 (bs s) = w0 :: ns) := hw
 have HB:Hid (line g (bs s) = (bad,g)) := line_bad3 hw (fun q => by omega)
 have HS:Hid (s.size ≤ 1000000) := by show _ ≤ _; omega
 obtain ⟨n,en⟩:∃ n,n = (w0 :: ns).length := ⟨_,rfl⟩
 have hn3:(3:Int) < (n:Int) := by rw [en]; simp; omega
 have EN:Hid (n = (w0 :: ns).length) := en
 clear h hbw hs hw hn en
 go_enter Tryz.func26,Tryz.ntmps26
 go_wp2_with fail
 refine (cut_any s 32 HS.out w).mono ?_
 rintro e w1 ⟨v,rfl,ho,hb⟩
 rw [HW.out] at ho
 obtain ⟨qv,cv,rfl,-,-,-⟩ := ho.form
 rw [← EN.out]
 have B1:Hid (Below w.heap.size w (w1.alloc (.cells #[.int .i64 0,.int .i64 0] 135))) := hb.alloc hb.size _
 clear ho hb
 go_wp2
 go_ret
 exact ⟨by rw [HB.out]; rfl,d,by rw [HB.out]; exact CRes.still HR.out.1 HR.out.2 B1.out⟩
set_option maxRecDepth 100000 in
set_option maxHeartbeats 8000000 in
theorem line_none (s:ByteArray) (h:RG w base C g d) (hbw:base ≤ w.heap.size) (hs:s.size ≤ 3000) {w0:T} {ns:List T} (hw:cut 32 (bs s) = w0 :: ns) (hn:ns.length ≤ 2) (hh:ns.all isNum = true → many w0 ≠ some ns.length):Calls Tryz.prog 26 #[.pointer (some ⟨C,0,none⟩),.string s] w fun e w' => e = .returned (.string (tx (line g (bs s)).1)) ∧ ∃ d',CRes w w' base C g d (line g (bs s)).2 d' := by
 have HR:Hid (RG w base C g d ∧ base ≤ w.heap.size) := ⟨h,hbw⟩
 have HW:Hid (cut 32 (bs s) = w0 :: ns) := hw
 have HH:Hid (ns.all isNum = true → many w0 ≠ some ns.length) := hh
 have HS:Hid (s.size ≤ 1000000) := by show _ ≤ _; omega
 obtain ⟨n,en⟩:∃ n,n = (w0 :: ns).length := ⟨_,rfl⟩
 have hn3:¬ (3:Int) < (n:Int) := by rw [en]; simp; omega
 have hn1:1 ≤ n := by rw [en]; simp
 have hn9:(n:Int) ≤ 3 := by omega
 have EN:Hid ((w0 :: ns).length = n) := en.symm
 clear h hbw hs hw hn en hh
 go_enter Tryz.func26,Tryz.ntmps26
 go_wp2_with fail
 refine (cut_any s 32 HS.out w).mono ?_
 rintro e w1 ⟨v,rfl,ho,hb⟩
 rw [HW.out] at ho
 obtain ⟨qv,cv,rfl,-,-,hc⟩ := ho.form
 rw [show (w0 :: ns:List T).length = n from EN.out] at hc ⊢
 obtain ⟨gv,rfl,-,hgl,-⟩ := hc 0 (by omega)
 have KC:Hid (∀ i,i < n → w1.cell? ⟨gv,i,none⟩ = some (.string (tx ((w0 :: ns:List T).getD i [])))) := fun i hi => by
  obtain ⟨g',e',_,_,c'⟩ := hc i hi
  cases e'
  exact c'
 have B1:Hid (Below w.heap.size w w1) := hb
 have GL:Hid (gv < w1.heap.size) := hgl
 clear ho hb hc hgl
 go_wp2_with fail
 go_loopw [7] (fun y wr => ∃ i:Nat,1 ≤ i ∧ i ≤ n ∧ y = .int .i64 (i:Int) ∧ Hid (V2 w1 wr ns (i - 1)) ∧ Hid (∀ k,k < i - 1 → isNum ((ns:List T).getD k []) = true)) (fun y _ => n - (intOf y).toNat)
 case atStart => exact ⟨1,by omega,by omega,rfl,V2.zero w1 ns,fun k hk => absurd hk (by omega)⟩
 case round =>
  obtain ⟨i,h1,hi,rfl,hV,hA⟩ := hrel
  by_cases hlt:(i:Int) < (n:Int)
  ·have ci:wr.cell? ⟨gv,i,none⟩ = some (.string (tx ((ns:List T).getD (i - 1) []))) := by
    have := (hV.out.2.cell (p := ⟨gv,i,none⟩) GL.out).trans (KC.out i (by omega))
    obtain ⟨k,rfl⟩:∃ k,i = k + 1 := ⟨i - 1,by omega⟩
    exact this
   obtain ⟨x,ex⟩:∃ x,x = (ns:List T).getD (i - 1) [] := ⟨_,rfl⟩
   rw [← ex] at ci
   have EX:Hid (x = (ns:List T).getD (i - 1) []) := ex
   have fz := World.rowIs.frozen hV.out.1 (i - 1)
   have cz := World.rowIs.cell hV.out.1 (i := i - 1) (by omega)
   have hi2:(i:Int) - 1 < 2 := by omega
   have hi1:(0:Int) ≤ (i:Int) - 1 := by omega
   have hi3:(i:Int) ≤ 3 := by omega
   by_cases hx:isNum x = true
   ·have HX:Hid (isNum x = true) := hx
    clear hx
    clear ex
    go_wp2_with fail
    refine (number_any (tx x) wr).mono ?_
    rw [bs_tx,HX.out,numI_yes HX.out]
    rintro e w3 ⟨rfl,rfl⟩
    go_wp2
    go_roundw
    case rel =>
     have z := hV.out.next
     rw [← EX.out,show i - 1 + 1 = i + 1 - 1 by omega] at z
     exact ⟨i + 1,by omega,by omega,by go_num,z,by
      intro k hk
      by_cases q:k < i - 1
      ·exact hA.out k q
      ·rw [show k = i - 1 by omega,← EX.out]
       exact HX.out⟩
    case measure => simp [intOf]; omega
   ·have HX:Hid (isNum x = false) := by
     show isNum x = false
     simpa using hx
    have HB:Hid (line g (bs s) = (bad,g)) := line_bad3 HW.out (fun q => by
     have := List.all_eq_true.1 q.2.1 x (by
      rw [ex,List.getD,List.getElem?_eq_getElem (by have := EN.out; simp at this; omega)]
      exact List.getElem_mem _)
     rw [HX.out] at this
     cases this)
    clear hx ex
    go_wp2_with fail
    refine (number_any (tx x) wr).mono ?_
    rw [bs_tx,HX.out,numI_no HX.out]
    rintro e w3 ⟨rfl,rfl⟩
    go_wp2
    go_ret
    exact ⟨by rw [HB.out]; rfl,d,by rw [HB.out]; exact CRes.still HR.out.1 HR.out.2 (B1.out.trans (hV.out.2.mono B1.out.size))⟩
  ·have hin:i = n := by omega
   subst hin
   have HM:Hid (many w0 ≠ some ns.length) := HH.out (by
    rw [List.all_eq_true]
    intro x hx
    obtain ⟨k,hk,rfl⟩ := List.getElem_of_mem hx
    have := hA.out k (by have := EN.out; simp at this; omega)
    rwa [List.getD,List.getElem?_eq_getElem hk] at this)
   have HB:Hid (line g (bs s) = (bad,g)) := line_bad3 HW.out (fun q => HM.out q.2.2)
   have c0:wr.cell? ⟨gv,0,none⟩ = some (.string (tx w0)) := (hV.out.2.cell (p := ⟨gv,0,none⟩) GL.out).trans (KC.out 0 (by omega))
   have NE:Hid (i = ns.length + 1) := EN.out.symm
   clear hA
   by_cases k0:w0 = [115,97,121]
   ·subst k0
    have e9 := tl [115,97,121]
    have hm:((2:Int) != (i:Int) - 1) = true := by
     rw [bne_iff_ne]
     intro q
     refine HM.out ?_
     have:ns.length = 2 := by have := NE.out; omega
     rw [this]
     rfl
    go_wp2
    go_ret
    exact ⟨by rw [HB.out]; rfl,d,by rw [HB.out]; exact CRes.still HR.out.1 HR.out.2 (B1.out.trans (hV.out.2.mono B1.out.size))⟩
   ·by_cases k1:w0 = [103,105,118,101]
    ·subst k1
     have e9 := tl [103,105,118,101]
     have hm:((1:Int) != (i:Int) - 1) = true := by
      rw [bne_iff_ne]
      intro q
      refine HM.out ?_
      have:ns.length = 1 := by have := NE.out; omega
      rw [this]
      rfl
     go_wp2
     go_ret
     exact ⟨by rw [HB.out]; rfl,d,by rw [HB.out]; exact CRes.still HR.out.1 HR.out.2 (B1.out.trans (hV.out.2.mono B1.out.size))⟩
    ·by_cases k2:w0 = [100,114,111,112]
     ·subst k2
      have e9 := tl [100,114,111,112]
      have hm:((1:Int) != (i:Int) - 1) = true := by
       rw [bne_iff_ne]
       intro q
       refine HM.out ?_
       have:ns.length = 1 := by have := NE.out; omega
       rw [this]
       rfl
      go_wp2
      go_ret
      exact ⟨by rw [HB.out]; rfl,d,by rw [HB.out]; exact CRes.still HR.out.1 HR.out.2 (B1.out.trans (hV.out.2.mono B1.out.size))⟩
     ·by_cases k3:w0 = [116,119,105,99,101]
      ·subst k3
       have e9 := tl [116,119,105,99,101]
       have hm:((1:Int) != (i:Int) - 1) = true := by
        rw [bne_iff_ne]
        intro q
        refine HM.out ?_
        have:ns.length = 1 := by have := NE.out; omega
        rw [this]
        rfl
       go_wp2
       go_ret
       exact ⟨by rw [HB.out]; rfl,d,by rw [HB.out]; exact CRes.still HR.out.1 HR.out.2 (B1.out.trans (hV.out.2.mono B1.out.size))⟩
      ·by_cases k4:w0 = [104,101,97,114,100]
       ·subst k4
        have e9 := tl [104,101,97,114,100]
        have hm:((1:Int) != (i:Int) - 1) = true := by
         rw [bne_iff_ne]
         intro q
         refine HM.out ?_
         have:ns.length = 1 := by have := NE.out; omega
         rw [this]
         rfl
        go_wp2
        go_ret
        exact ⟨by rw [HB.out]; rfl,d,by rw [HB.out]; exact CRes.still HR.out.1 HR.out.2 (B1.out.trans (hV.out.2.mono B1.out.size))⟩
       ·by_cases k5:w0 = [99,108,111,99,107]
        ·subst k5
         have e9 := tl [99,108,111,99,107]
         have hm:((1:Int) != (i:Int) - 1) = true := by
          rw [bne_iff_ne]
          intro q
          refine HM.out ?_
          have:ns.length = 1 := by have := NE.out; omega
          rw [this]
          rfl
         go_wp2
         go_ret
         exact ⟨by rw [HB.out]; rfl,d,by rw [HB.out]; exact CRes.still HR.out.1 HR.out.2 (B1.out.trans (hV.out.2.mono B1.out.size))⟩
        ·by_cases k6:w0 = [119,97,121]
         ·subst k6
          have e9 := tl [119,97,121]
          have hm:((0:Int) != (i:Int) - 1) = true := by
           rw [bne_iff_ne]
           intro q
           refine HM.out ?_
           have:ns.length = 0 := by have := NE.out; omega
           rw [this]
           rfl
          go_wp2
          go_ret
          exact ⟨by rw [HB.out]; rfl,d,by rw [HB.out]; exact CRes.still HR.out.1 HR.out.2 (B1.out.trans (hV.out.2.mono B1.out.size))⟩
         ·by_cases k7:w0 = [102,97,99,101,115]
          ·subst k7
           have e9 := tl [102,97,99,101,115]
           have hm:((0:Int) != (i:Int) - 1) = true := by
            rw [bne_iff_ne]
            intro q
            refine HM.out ?_
            have:ns.length = 0 := by have := NE.out; omega
            rw [this]
            rfl
           go_wp2
           go_ret
           exact ⟨by rw [HB.out]; rfl,d,by rw [HB.out]; exact CRes.still HR.out.1 HR.out.2 (B1.out.trans (hV.out.2.mono B1.out.size))⟩
          ·have f0:((tx w0).toList == [115,97,121]) = false := by rw [tl]; simpa using k0
           have f1:((tx w0).toList == [103,105,118,101]) = false := by rw [tl]; simpa using k1
           have f2:((tx w0).toList == [100,114,111,112]) = false := by rw [tl]; simpa using k2
           have f3:((tx w0).toList == [116,119,105,99,101]) = false := by rw [tl]; simpa using k3
           have f4:((tx w0).toList == [104,101,97,114,100]) = false := by rw [tl]; simpa using k4
           have f5:((tx w0).toList == [99,108,111,99,107]) = false := by rw [tl]; simpa using k5
           have f6:((tx w0).toList == [119,97,121]) = false := by rw [tl]; simpa using k6
           have f7:((tx w0).toList == [102,97,99,101,115]) = false := by rw [tl]; simpa using k7
           have hm:((-1:Int) != (i:Int) - 1) = true := by
            rw [bne_iff_ne]
            omega
           clear k0 k1 k2 k3 k4 k5 k6 k7
           go_wp2
           go_ret
           exact ⟨by rw [HB.out]; rfl,d,by rw [HB.out]; exact CRes.still HR.out.1 HR.out.2 (B1.out.trans (hV.out.2.mono B1.out.size))⟩
end Go.Proofs.YtdmniblonikjlakGreatDoor.Run
