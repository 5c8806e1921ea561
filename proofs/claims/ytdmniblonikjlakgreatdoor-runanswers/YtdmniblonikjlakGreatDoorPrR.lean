/-
  Texts put together: RunM, RunB, RunQ, RunG.
-/
import Derived.Test.YtdmniblonikjlakGreatDoorPrB
import Derived.Laws.Strings
import Derived.Laws.Strings2
import Derived.Laws.Strings3
import Derived.Laws.Concat
import Derived.Laws.DeepStrings4
import Derived.Laws.IdiomStrings
import Derived.Lib.Strings
import Derived.Deep.AppendLies
import Derived.Deep.Cut
import Derived.Deep.CutRange
import Derived.Deep.RegionHeld3
import Derived.Handy
import Derived.Lib.AtoiTie
import Derived.Lib.ItoaMem
import Derived.Test.YtdmniblonikjlakGreatDoorPrH


namespace Go.Proofs.YtdmniblonikjlakGreatDoor.Run
open Cas (G sayC say giveC giveW give drop twice)
open Net (Pk dropC twC)
open His (Ev hrd fifoB causB totB)
set_option linter.unusedVariables false
abbrev T := List UInt8
def cut (c:UInt8):T → List T
 | [] => [[]]
 | x :: l => if x = c then [] :: cut c l else match cut c l with
  | [] => [[x]]
  | p :: ps => (x :: p) :: ps
theorem cut_ne (c:UInt8):∀ t:T,cut c t ≠ []
 | [] => by simp [cut]
 | x :: l => by
  unfold cut
  split
  ·simp
  ·split <;> simp
theorem cut_at (c:UInt8):∀ (a b:T),cut c (a ++ c :: b) = cut c a ++ cut c b
 | [],b => by
  show cut c (c :: b) = [[]] ++ cut c b
  rw [cut,if_pos rfl]
  rfl
 | x :: a,b => by
  have ih := cut_at c a b
  show cut c (x :: (a ++ c :: b)) = cut c (x :: a) ++ cut c b
  rw [cut,cut,ih]
  by_cases h:x = c
  ·rw [if_pos h,if_pos h]
   rfl
  ·rw [if_neg h,if_neg h]
   have hne := cut_ne c a
   match e:cut c a,hne with
   | p :: ps,_ => rfl
theorem cut_no {c:UInt8}:∀ {a:T},c ∉ a → cut c a = [a]
 | [],_ => rfl
 | x :: a,h => by
  have hx:x ≠ c := fun e => h (by simp [e])
  have ha:c ∉ a := fun e => h (by simp [e])
  rw [cut,if_neg hx,cut_no ha]
def lines (t:T):List T := if (cut 10 t).getLast (cut_ne 10 t) = [] then (cut 10 t).dropLast else cut 10 t
theorem lines_at (a b:T):lines (a ++ 10 :: b) = cut 10 a ++ lines b := by
 unfold lines
 have e := cut_at 10 a b
 have hl:(cut 10 (a ++ 10 :: b)).getLast (cut_ne _ _) = (cut 10 b).getLast (cut_ne _ _) := by
  simp only [e]
  exact List.getLast_append_of_ne_nil _ (cut_ne 10 b)
 rw [hl]
 split
 ·rw [e,List.dropLast_append_of_ne_nil (cut_ne 10 b)]
 ·exact e
def isNum (w:T):Bool := decide (w ≠ []) && decide (w.length ≤ 4) && !(decide (w.head? = some 48) && decide (1 < w.length)) && w.all fun x => decide (48 ≤ x.toNat) && decide (x.toNat ≤ 57)
def numV (w:T):Nat := w.foldl (fun n x => n * 10 + (x.toNat - 48)) 0
theorem numV_snoc (w:T) (x:UInt8):numV (w ++ [x]) = numV w * 10 + (x.toNat - 48) := by simp [numV]
def digF:Nat → Nat → T
 | 0,_ => []
 | f + 1,n => if n < 10 then [UInt8.ofNat (48 + n)] else digF f (n / 10) ++ [UInt8.ofNat (48 + n % 10)]
theorem digF_same:∀ (f f' n:Nat),n < f → n < f' → digF f n = digF f' n
 | 0,_,_,h,_ => absurd h (by omega)
 | _ + 1,0,_,_,h => absurd h (by omega)
 | f + 1,f' + 1,n,h,h' => by
  unfold digF
  split
  ·rfl
  ·rw [digF_same f f' (n / 10) (by omega) (by omega)]
def dig (n:Nat):T := digF (n + 1) n
theorem dig_low {n:Nat} (h:n < 10):dig n = [UInt8.ofNat (48 + n)] := by
 show digF (n + 1) n = _
 rw [digF,if_pos h]
theorem dig_high {n:Nat} (h:10 ≤ n):dig n = dig (n / 10) ++ [UInt8.ofNat (48 + n % 10)] := by
 show digF (n + 1) n = digF (n / 10 + 1) (n / 10) ++ _
 rw [digF,if_neg (by omega),digF_same n (n / 10 + 1) (n / 10) (by omega) (by omega)]
def nm (e:Int):T :=
 if e = 1 then [69,114,114,82,97,110,103,101] else if e = 2 then [69,114,114,83,121,110,116,97,120] else if e = 3 then [69,114,114,83,104,97,112,101]
 else if e = 4 then [69,114,114,70,117,108,108] else if e = 5 then [69,114,114,78,111,110,101] else if e = 6 then [69,114,114,83,116,97,116,101]
 else if e = 7 then [69,114,114,67,108,97,115,104] else if e = 8 then [69,114,114,79,117,116] else [79,75]
def bad:T := [98,97,100]
def okT:T := [111,107]
def done (e:Int):T := if e ≠ 0 then nm e else okT
def join:List T → T
 | [] => []
 | [w] => w
 | w :: ws => w ++ 32 :: join ws
def orNone (t:T):T := if t = [] then [45] else t
def row (l:List Int):T := orNone (join (l.map fun x => dig x.toNat))
def told (l:List Int) (e:Int):T := if e ≠ 0 then nm e else row l
def pkT (p:Pk):T := dig p.1.toNat ++ 62 :: dig p.2.1.toNat ++ 58 :: dig p.2.2.toNat
def way (l:List Pk):T := orNone (join (l.map pkT))
def facesT (f c t:Bool):T := orNone (join ((if f = true then [[102,105,102,111]] else []) ++ (if c = true then [[99,97,117,115,97,108]] else []) ++ (if t = true then [[116,111,116,97,108]] else [])))
def many (w:T):Option Nat :=
 if w = [115,97,121] then some 2
 else if w = [103,105,118,101] ∨ w = [100,114,111,112] ∨ w = [116,119,105,99,101] ∨ w = [104,101,97,114,100] ∨ w = [99,108,111,99,107] then some 1
 else if w = [119,97,121] ∨ w = [102,97,99,101,115] then some 0
 else none
def act (g:G) (w:T) (a b:Int):T × G :=
 if w = [115,97,121] then (done (sayC g a b),say g a b)
 else if w = [103,105,118,101] then (told (giveW g a) (giveC g a),give g a)
 else if w = [100,114,111,112] then (done (dropC g.l a),drop g a)
 else if w = [116,119,105,99,101] then (done (twC g.l a),twice g a)
 else if w = [104,101,97,114,100] then (if 4 < a then nm 1 else row (hrd g.H a),g)
 else if w = [99,108,111,99,107] then (if (g.H.length:Int) ≤ a then nm 1 else row (His.row g.H a.toNat),g)
 else if w = [119,97,121] then (way g.l,g)
 else (facesT (fifoB g.H) (causB g.H) (totB g.H),g)
def line (g:G) (s:T):T × G :=
 match cut 32 s with
 | [] => (bad,g)
 | w :: ns => if ns.length ≤ 2 ∧ ns.all isNum = true ∧ many w = some ns.length then act g w (((ns.map numV).getD 0 0:Nat):Int) (((ns.map numV).getD 1 0:Nat):Int) else (bad,g)
def all (g:G):List T → T
 | [] => []
 | s :: ls => (line g s).1 ++ 10 :: all (line g s).2 ls
def after (g:G):List T → G
 | [] => g
 | s :: ls => after (line g s).2 ls
theorem all_append (g:G):∀ (a b:List T),all g (a ++ b) = all g a ++ all (after g a) b
 | [],b => rfl
 | s :: a,b => by
  show (line g s).1 ++ 10 :: all (line g s).2 (a ++ b) = ((line g s).1 ++ 10 :: all (line g s).2 a) ++ all (after (line g s).2 a) b
  rw [all_append (line g s).2 a b,List.append_assoc]
  rfl
theorem after_snoc (g:G):∀ (a:List T) (s:T),after g (a ++ [s]) = (line (after g a) s).2
 | [],s => rfl
 | x :: a,s => after_snoc (line g x).2 a s
theorem all_snoc (g:G) (a:List T) (s:T):all g (a ++ [s]) = all g a ++ ((line (after g a) s).1 ++ [10]) := by
 rw [all_append]
 rfl
def tooLong:T := [116,111,111,32,108,111,110,103,10]
def run (t:T):T := if 3000 < t.length then tooLong else all (Cas.start 3) (lines t)
end Go.Proofs.YtdmniblonikjlakGreatDoor.Run


namespace Go.Proofs.YtdmniblonikjlakGreatDoor.Run
open Go.RowKit
set_option linter.unusedVariables false
def tx (l:T):ByteArray := ⟨l.toArray⟩
def bs (t:ByteArray):T := t.data.toList
theorem tx_bs (t:ByteArray):tx (bs t) = t := by
 apply ByteArray.ext
 simp [tx,bs]
theorem bs_tx (l:T):bs (tx l) = l := by simp [tx,bs]
theorem bs_inj {a b:ByteArray} (h:bs a = bs b):a = b := by rw [← tx_bs a,h,tx_bs]
theorem bs_len (t:ByteArray):(bs t).length = t.size := by
 show t.data.toList.length = t.data.size
 exact Array.length_toList
theorem tx_size (l:T):(tx l).size = l.length := by
 show l.toArray.size = l.length
 simp
theorem bs_append (a b:ByteArray):bs (a ++ b) = bs a ++ bs b := by simp [bs,ByteArray.data_append]
theorem tx_append (a b:T):tx (a ++ b) = tx a ++ tx b := bs_inj (by rw [bs_append,bs_tx,bs_tx,bs_tx])
theorem bs_extract (t:ByteArray) (i j:Nat):bs (t.extract i j) = ((bs t).take j).drop i := by
 have h:t.extract i j = tx (((bs t).drop i).take (j - i)) := by
  have := ByteArray.extract_mk (bs t) i j
  rw [show (ByteArray.mk (bs t).toArray) = t from tx_bs t] at this
  exact this
 rw [h,bs_tx,List.drop_take]
theorem bs_get {t:ByteArray} {i:Nat} (h:i < t.size):(bs t)[i]? = some (t[i]'h) := by
 have h':i < t.data.size := h
 show t.data.toList[i]? = _
 rw [Array.getElem?_toList,Array.getElem?_eq_getElem h']
 rfl
theorem str_eq (a b:ByteArray):(a.toList == b.toList) = decide (bs a = bs b) := by
 have e:∀ t:ByteArray,t.toList = bs t := fun t => Lib.toList_data t
 rw [e,e]
 by_cases h:bs a = bs b
 ·rw [h]; simp
 ·simp [h]
end Go.Proofs.YtdmniblonikjlakGreatDoor.Run


namespace Go.Proofs.YtdmniblonikjlakGreatDoor.Run
set_option linter.unusedVariables false
theorem decD_dig (n:Nat):Lib.decDigits n = dig n := by
 induction n using Nat.strongRecOn with
 | ind n ih =>
  by_cases h:n < 10
  ·rw [Lib.decDigits,dif_pos h,dig_low h]
  ·rw [Lib.decDigits,dif_neg h,ih (n / 10) (by omega),dig_high (n := n) (by omega)]
theorem itoa_dig (n:Nat):Lib.itoa (n:Int) = dig n := by rw [Lib.itoa_nonneg,decD_dig]
theorem dig_snoc {n x:Nat} (hn:1 ≤ n) (hx:x < 10):dig (n * 10 + x) = dig n ++ [UInt8.ofNat (48 + x)] := by
 rw [dig_high (by omega),show (n * 10 + x) / 10 = n by omega,show (n * 10 + x) % 10 = x by omega]
def dgt (x:UInt8):Bool := decide (48 ≤ x.toNat) && decide (x.toNat ≤ 57)
theorem dgt_back {x:UInt8} (h:dgt x = true):48 ≤ x.toNat ∧ x.toNat ≤ 57 ∧ UInt8.ofNat (48 + (x.toNat - 48)) = x := by
 unfold dgt at h
 simp only [Bool.and_eq_true,decide_eq_true_eq] at h
 refine ⟨h.1,h.2,?_⟩
 rw [show 48 + (x.toNat - 48) = x.toNat by omega]
 exact UInt8.ofNat_toNat
def stepV (n:Nat) (x:UInt8):Nat := n * 10 + (x.toNat - 48)
theorem dig_fold:∀ (w:T) (n:Nat),1 ≤ n → w.all dgt = true → dig (w.foldl stepV n) = dig n ++ w
 | [],n,_,_ => by simp
 | x :: w,n,hn,h => by
  simp only [List.all_cons,Bool.and_eq_true] at h
  obtain ⟨h1,h2,h3⟩ := dgt_back h.1
  rw [List.foldl_cons,dig_fold w (stepV n x) (by unfold stepV; omega) h.2,stepV,dig_snoc hn (by omega),h3,List.append_assoc]
  rfl
theorem fold_lt:∀ (w:T) (n:Nat),w.all dgt = true → w.foldl stepV n < (n + 1) * 10 ^ w.length
 | [],n,_ => by simp
 | x :: w,n,h => by
  simp only [List.all_cons,Bool.and_eq_true] at h
  obtain ⟨h1,h2,h3⟩ := dgt_back h.1
  have ih := fold_lt w (stepV n x) h.2
  rw [List.foldl_cons,List.length_cons,Nat.pow_succ]
  have e:(stepV n x + 1) * 10 ^ w.length ≤ ((n + 1) * 10) * 10 ^ w.length := Nat.mul_le_mul_right _ (by unfold stepV; omega)
  have e2:(n + 1) * (10 ^ w.length * 10) = ((n + 1) * 10) * 10 ^ w.length := by rw [Nat.mul_assoc,Nat.mul_comm (10 ^ w.length) 10]
  omega
theorem isNum_def (w:T):isNum w = (decide (w ≠ []) && decide (w.length ≤ 4) && !(decide (w.head? = some 48) && decide (1 < w.length)) && w.all dgt) := rfl
theorem numV_def (w:T):numV w = w.foldl stepV 0 := rfl
theorem num_own {w:T} (h:isNum w = true):dig (numV w) = w ∧ numV w ≤ 9999 ∧ w.all dgt = true ∧ w ≠ [] ∧ w.length ≤ 4 := by
 rw [isNum_def] at h
 simp only [Bool.and_eq_true,decide_eq_true_eq,Bool.not_eq_true',Bool.and_eq_false_iff,decide_eq_false_iff_not] at h
 obtain ⟨⟨⟨h1,h2⟩,h3⟩,h4⟩ := h
 refine ⟨?_,?_,h4,h1,h2⟩
 ·match w,h1,h3,h4 with
  | x :: l,_,h3,h4 =>
   simp only [List.all_cons,Bool.and_eq_true] at h4
   obtain ⟨a,b,c⟩ := dgt_back h4.1
   rw [numV_def,List.foldl_cons]
   by_cases hx:x = 48
   ·have hl:l = [] := by
     rcases h3 with h3 | h3
     ·exact absurd (by rw [hx]; rfl) h3
     ·match l,h3 with
      | [],_ => rfl
      | _ :: _,h3 => exact absurd (by simp) h3
    subst hx hl
    rfl
   ·have hx':x.toNat ≠ 48 := fun e => hx (UInt8.toNat_inj.1 (by rw [e]; rfl))
    rw [dig_fold l _ (by unfold stepV; omega) h4.2,stepV,show 0 * 10 + (x.toNat - 48) = x.toNat - 48 by omega,dig_low (by omega),c]
    rfl
 ·have := fold_lt w 0 h4
  rw [numV_def]
  have hp:10 ^ w.length ≤ 10 ^ 4 := Nat.pow_le_pow_right (by decide) h2
  have:(10:Nat) ^ 4 = 10000 := by decide
  omega
theorem dgt_of {x:Nat} (h:x < 10):dgt (UInt8.ofNat (48 + x)) = true := by
 have a:((List.range 10).all fun k => dgt (UInt8.ofNat (48 + k))) = true := by decide
 exact List.all_eq_true.1 a x (List.mem_range.2 h)
theorem dig_all:∀ (f n:Nat),n < f → (digF f n).all dgt = true
 | 0,_,h => absurd h (by omega)
 | f + 1,n,h => by
  unfold digF
  split
  ·rw [List.all_cons,dgt_of (by omega)]
   rfl
  ·rw [List.all_append,dig_all f (n / 10) (by omega),List.all_cons,dgt_of (by omega)]
   rfl
theorem dig_ne0 (n:Nat):dig n ≠ [] := by
 show digF (n + 1) n ≠ []
 unfold digF
 split <;> simp
theorem dig_head (n:Nat):1 ≤ n → (dig n).head? ≠ some 48 := by
 induction n using Nat.strongRecOn with
 | ind n ih =>
  intro h1
  by_cases h:n < 10
  ·rw [dig_low h]
   have a:((List.range 9).all fun k => decide (UInt8.ofNat (48 + (k + 1)) ≠ 48)) = true := by decide
   have := List.all_eq_true.1 a (n - 1) (List.mem_range.2 (by omega))
   rw [show n - 1 + 1 = n by omega] at this
   intro e
   exact of_decide_eq_true this (by simpa using e)
  ·rw [dig_high (n := n) (by omega)]
   have := ih (n / 10) (by omega) (by omega)
   match e:dig (n / 10),dig_ne0 (n / 10),this with
   | x :: l,_,this => exact this
theorem dig_len4 {n:Nat} (h:n ≤ 9999):(dig n).length ≤ 4 := by
 by_cases h1:n < 10
 ·rw [dig_low h1]; simp
 rw [dig_high (n := n) (by omega),List.length_append]
 by_cases h2:n / 10 < 10
 ·rw [dig_low h2]; simp
 rw [dig_high (n := n / 10) (by omega),List.length_append]
 by_cases h3:n / 10 / 10 < 10
 ·rw [dig_low h3]; simp
 rw [dig_high (n := n / 10 / 10) (by omega),List.length_append,dig_low (n := n / 10 / 10 / 10) (by omega)]
 simp
theorem dig_isNum {n:Nat} (h:n ≤ 9999):isNum (dig n) = true := by
 rw [isNum_def]
 simp only [Bool.and_eq_true,decide_eq_true_eq,Bool.not_eq_true',Bool.and_eq_false_iff,decide_eq_false_iff_not]
 refine ⟨⟨⟨dig_ne0 n,dig_len4 h⟩,?_⟩,dig_all (n + 1) n (by omega)⟩
 rcases Nat.eq_zero_or_pos n with rfl | h1
 ·right; decide
 ·exact .inl (dig_head n h1)
theorem dec_fold:∀ (w:T) (n:Nat),w.all dgt = true → Lib.decFrom n w = some (w.foldl stepV n)
 | [],n,_ => rfl
 | x :: w,n,h => by
  simp only [List.all_cons,Bool.and_eq_true] at h
  obtain ⟨a,b,c⟩ := dgt_back h.1
  rw [Lib.decFrom,Lib.digitVal,if_pos ⟨a,b⟩]
  exact dec_fold w _ h.2
theorem atoi_num {w:T} (h:isNum w = true):Lib.atoiAll w = .ok (numV w:Int) := by
 obtain ⟨h1,h2,h3,h4,h5⟩ := num_own h
 rw [Lib.atoiAll_short w (by omega)]
 match w,h3,h4 with
 | x :: l,h3,_ =>
  have h3' := h3
  simp only [List.all_cons,Bool.and_eq_true] at h3'
  obtain ⟨a,b,c⟩ := dgt_back h3'.1
  have n45:(x == 45) = false := beq_eq_false_iff_ne.2 fun e => by rw [e] at a; exact absurd a (by decide)
  have n43:(x == 43) = false := beq_eq_false_iff_ne.2 fun e => by rw [e] at a; exact absurd a (by decide)
  have hd:Lib.decNat (x :: l) = some (numV (x :: l)) := by
   rw [Lib.decNat,List.isEmpty_cons]
   exact dec_fold (x :: l) 0 h3
  simp only [Lib.atoi,n45,n43,hd]
  rfl
theorem num_not {w:T} (h:isNum w = false) (n:Nat) (hn:n ≤ 9999):dig n ≠ w := fun e => by
 rw [← e,dig_isNum hn] at h
 cases h
end Go.Proofs.YtdmniblonikjlakGreatDoor.Run


namespace Go.Proofs.YtdmniblonikjlakGreatDoor.Run
open Cas (G GI sayC say giveC giveW give drop twice say_gi give_gi drop_gi twice_gi len60 hear)
open Net (Pk pk isIn dropC twC)
open His (Ev ev hrd isOne row row_len row_bd)
set_option linter.unusedVariables false
theorem sayC_range (g:G) (a b:Int):0 ≤ sayC g a b ∧ sayC g a b ≤ 8 := by
 unfold sayC
 split
 ·omega
 ·split
  ·omega
  ·split <;> omega
theorem giveC_range (g:G) (i:Int):0 ≤ giveC g i ∧ giveC g i ≤ 8 := by
 unfold giveC
 split <;> omega
theorem sendC_range (l:List Pk) (p:Pk):0 ≤ Net.sendC l p ∧ Net.sendC l p ≤ 8 := by
 unfold Net.sendC
 split
 ·omega
 ·split
  ·omega
  ·split <;> omega
theorem good_word {h:List Ev} (hg:His.Good h h.length) {e:Ev} (he:e ∈ h):0 ≤ e.2.2 ∧ e.2.2 ≤ 30 := by
 obtain ⟨i,hi,rfl⟩ := List.getElem_of_mem he
 have g := hg i hi
 have e1:ev h i = h[i] := by simp [ev,List.getD,hi]
 have h1:isOne (ev h i) = true := by
  unfold His.next at g
  cases q:isOne (ev h i)
  ·rw [q] at g; simp at g
  ·rfl
 rw [e1] at h1
 simp only [isOne,Bool.and_eq_true,Bool.or_eq_true,decide_eq_true_eq] at h1
 omega
theorem getD_mem {l:List Int} {i:Nat} (h:i < l.length):l.getD i 0 ∈ l := by
 rw [List.getD,List.getElem?_eq_getElem h]
 exact List.getElem_mem h
theorem hrd_small {h:List Ev} (hg:His.Good h h.length) (who:Int):(hrd h who).length ≤ h.length ∧ ∀ i,i < (hrd h who).length → 0 ≤ (hrd h who).getD i 0 ∧ (hrd h who).getD i 0 ≤ 1000000 := by
 refine ⟨by unfold hrd; rw [List.length_map]; exact List.length_filter_le _ _,fun i hi => ?_⟩
 have hm := getD_mem hi
 unfold hrd at hm
 obtain ⟨e,he,e1⟩ := List.mem_map.1 hm
 have := good_word hg ((List.mem_filter.1 he).1)
 unfold hrd
 rw [← e1]
 omega
theorem give_H {g:G} {i:Int} (h:isIn g.l i = true):(give g i).H = g.H ++ hear (pk g.l i.toNat).2.1 (giveW g i) := by
 unfold give giveW
 rw [if_pos h,if_pos h]
 rfl
theorem giveW_small {g:G} (hi:GI g) (i:Int):(giveW g i).length ≤ 60 ∧ ∀ k,k < (giveW g i).length → 0 ≤ (giveW g i).getD k 0 ∧ (giveW g i).getD k 0 ≤ 1000000 := by
 cases h:isIn g.l i with
 | false =>
  have e:giveW g i = [] := by unfold giveW; rw [if_neg (by rw [h]; decide)]
  rw [e]
  exact ⟨by simp,fun k hk => absurd hk (by simp)⟩
 | true =>
  have hg := give_gi hi i
  have h60 := len60 hg
  rw [give_H h,List.length_append] at h60
  have hl:(hear (pk g.l i.toNat).2.1 (giveW g i)).length = (giveW g i).length := by simp [hear]
  refine ⟨by omega,fun k hk => ?_⟩
  have hm:((pk g.l i.toNat).2.1,3,(giveW g i).getD k 0) ∈ (give g i).H := by
   rw [give_H h]
   refine List.mem_append_right _ ?_
   unfold hear
   exact List.mem_map.2 ⟨_,getD_mem hk,rfl⟩
  have := good_word hg.i0.good hm
  simp only at this
  omega
theorem row_small {g:G} (hi:GI g) {i:Nat} (h:i < g.H.length):∀ k,k < 5 → 0 ≤ (His.row g.H i).getD k 0 ∧ (His.row g.H i).getD k 0 ≤ 1000000 := by
 intro k hk
 have := row_bd hi.i0.good h k
 have := len60 hi
 omega
theorem way_small {g:G} (hi:GI g):∀ i,i < g.l.length → (0 ≤ (pk g.l i).1 ∧ (pk g.l i).1 ≤ 1000000) ∧ (0 ≤ (pk g.l i).2.1 ∧ (pk g.l i).2.1 ≤ 1000000) ∧ (0 ≤ (pk g.l i).2.2 ∧ (pk g.l i).2.2 ≤ 1000000) := by
 intro i h
 have hm:pk g.l i ∈ g.l := by
  unfold Net.pk
  rw [List.getD,List.getElem?_eq_getElem h]
  exact List.getElem_mem h
 have := Net.pkBad_no (hi.net.ok _ hm).1
 omega
theorem act_gi {g:G} (hi:GI g) (w:T) (a b:Int):GI (act g w a b).2 ∧ (act g w a b).2.n = g.n := by
 unfold act
 split
 ·exact ⟨say_gi hi _ _,by show (say g a b).n = g.n; unfold say; split <;> rfl⟩
 ·split
  ·exact ⟨give_gi hi _,by show (give g a).n = g.n; unfold give; split <;> rfl⟩
  ·split
   ·exact ⟨drop_gi hi _,rfl⟩
   ·split
    ·exact ⟨twice_gi hi _,rfl⟩
    ·split
     ·exact ⟨hi,rfl⟩
     ·split
      ·exact ⟨hi,rfl⟩
      ·split
       ·exact ⟨hi,rfl⟩
       ·exact ⟨hi,rfl⟩
theorem line_gi {g:G} (hi:GI g) (s:T):GI (line g s).2 ∧ (line g s).2.n = g.n := by
 unfold line
 split
 ·exact ⟨hi,rfl⟩
 ·split
  ·exact act_gi hi _ _ _
  ·exact ⟨hi,rfl⟩
end Go.Proofs.YtdmniblonikjlakGreatDoor.Run
