/-
  Texts put together: NetM, NetA, HisM, FacM, CasC, CasD, CauM, CasM, CasI, CasJ, CasL, CasN.
-/
import Derived.Test.YtdmniblonikjlakGreatDoorRows
import Derived.Test.YtdmniblonikjlakGreatDoorPrA
import Derived.Deep.QuietTactic
import Derived.BigQuiet
import Derived.Deep.RegionHeld3
import Derived.Handy
import Derived.WalkKit


namespace Go.Proofs.YtdmniblonikjlakGreatDoor.Net
abbrev Pk := Int × Int × Int
def pkBad (p:Pk):Bool := decide (p.1 < 0) || decide (4 < p.1) || decide (p.2.1 < 0) || decide (4 < p.2.1) || decide (p.2.2 < 1) || decide (30 < p.2.2)
theorem pkBad_no {p:Pk} (h:pkBad p = false):(0 ≤ p.1 ∧ p.1 ≤ 4) ∧ (0 ≤ p.2.1 ∧ p.2.1 ≤ 4) ∧ 1 ≤ p.2.2 ∧ p.2.2 ≤ 30 := by
 simp [pkBad] at h
 omega
def pk (l:List Pk) (i:Nat):Pk := l.getD i (0,0,0)
theorem pk_get {l:List Pk} {i:Nat} (hi:i < l.length):pk l i = l[i] := by
 show l.getD _ _ = _
 rw [List.getD,List.getElem?_eq_getElem hi]
 rfl
def sendC (l:List Pk) (p:Pk):Int := if pkBad p = true then 1 else if p.1 = p.2.1 then 3 else if 40 ≤ l.length then 4 else 0
def sendL (l:List Pk) (p:Pk):List Pk := if sendC l p = 0 then l ++ [p] else l
def isIn (l:List Pk) (i:Int):Bool := decide (0 ≤ i) && decide (i < l.length)
theorem isIn_yes {l:List Pk} {i:Int} (h:isIn l i = true):∃ k:Nat,i = (k:Int) ∧ k < l.length := by
 simp [isIn] at h
 exact ⟨i.toNat,by omega,by omega⟩
theorem isIn_no {l:List Pk} {i:Int} (h:isIn l i = false):i < 0 ∨ (l.length:Int) ≤ i := by
 simp [isIn] at h
 omega
theorem isIn_of {l:List Pk} {k:Nat} (h:k < l.length):isIn l (k:Int) = true := by
 simp [isIn]
 omega
def dropC (l:List Pk) (i:Int):Int := if isIn l i = true then 0 else 1
def dropL (l:List Pk) (i:Int):List Pk := if isIn l i = true then l.eraseIdx i.toNat else l
def twC (l:List Pk) (i:Int):Int := if isIn l i = true then sendC l (pk l i.toNat) else 1
def twL (l:List Pk) (i:Int):List Pk := if isIn l i = true then sendL l (pk l i.toNat) else l
def giveC (no:Int → Int → Bool) (l:List Pk) (i:Int):Int := if isIn l i = true then (if no (pk l i.toNat).1 (pk l i.toNat).2.1 = true then 6 else 0) else 1
def giveL (no:Int → Int → Bool) (l:List Pk) (i:Int):List Pk := if giveC no l i = 0 then l.eraseIdx i.toNat else l
def giveP (no:Int → Int → Bool) (l:List Pk) (i:Int):Pk := if giveC no l i = 0 then pk l i.toNat else (0,0,0)
def mem5 (a:Int):Bool := decide (0 ≤ a) && decide (a ≤ 4)
def cutC (a b:Int):Int := if mem5 a = true ∧ mem5 b = true then (if a = b then 3 else 0) else 1
structure NInv (l:List Pk):Prop where
 ok:∀ p ∈ l,pkBad p = false ∧ p.1 ≠ p.2.1
 len:l.length ≤ 40
theorem NInv.start:NInv [] := ⟨fun p hp => absurd hp List.not_mem_nil,by simp⟩
theorem NInv.send {l:List Pk} (g:NInv l) (p:Pk):NInv (sendL l p) := by
 unfold sendL
 split
 ·rename_i h
  unfold sendC at h
  split at h
  ·omega
  ·rename_i h1
   split at h
   ·omega
   ·rename_i h2
    split at h
    ·omega
    ·refine ⟨fun q hq => ?_,by rw [List.length_append]; simp; omega⟩
     rcases List.mem_append.1 hq with a | a
     ·exact g.ok q a
     ·rw [List.mem_singleton.1 a]
      exact ⟨by simpa using h1,h2⟩
 ·exact g
theorem NInv.erase {l:List Pk} (g:NInv l) (i:Nat):NInv (l.eraseIdx i) :=
 ⟨fun q hq => g.ok q ((List.eraseIdx_sublist l i).subset hq),Nat.le_trans (List.eraseIdx_sublist l i).length_le g.len⟩
theorem NInv.drop {l:List Pk} (g:NInv l) (i:Int):NInv (dropL l i) := by
 unfold dropL
 split
 ·exact g.erase _
 ·exact g
theorem NInv.tw {l:List Pk} (g:NInv l) (i:Int):NInv (twL l i) := by
 unfold twL
 split
 ·exact g.send _
 ·exact g
theorem send_old {l:List Pk} (g:NInv l) {k:Nat} (hk:k < l.length):sendC l (pk l k) = if 40 ≤ l.length then 4 else 0 := by
 have h := g.ok _ (List.getElem_mem hk)
 rw [pk_get hk]
 unfold sendC
 rw [if_neg (by rw [h.1]; decide),if_neg h.2]
def flat (ws:List Pk):List Value := ws.flatMap fun e => [.int .i64 e.1,.int .i64 e.2.1,.int .i64 e.2.2]
theorem flat_len (ws:List Pk):(flat ws).length = ws.length * 3 := by
 induction ws with
 | nil => rfl
 | cons e ws ih =>
  have:flat (e :: ws) = [.int .i64 e.1,.int .i64 e.2.1,.int .i64 e.2.2] ++ flat ws := rfl
  rw [this,List.length_append,ih,List.length_cons]
  simp
  omega
theorem flat_append (a b:List Pk):flat (a ++ b) = flat a ++ flat b := by simp [flat]
theorem flat_one (ws:List Pk):∀ u ∈ flat ws,u.oneCell' = true := by
 intro u hu
 obtain ⟨e,_,he⟩ := List.mem_flatMap.1 hu
 simp at he
 rcases he with rfl | rfl | rfl <;> rfl
theorem flat_get (ws:List Pk):∀ k,k < ws.length → (flat ws)[k * 3]? = some (.int .i64 (pk ws k).1) ∧ (flat ws)[k * 3 + 1]? = some (.int .i64 (pk ws k).2.1) ∧ (flat ws)[k * 3 + 2]? = some (.int .i64 (pk ws k).2.2) := by
 induction ws with
 | nil => intro k hk; simp at hk
 | cons e ws ih =>
  intro k hk
  have e3:flat (e :: ws) = .int .i64 e.1 :: .int .i64 e.2.1 :: .int .i64 e.2.2 :: flat ws := rfl
  rw [e3]
  cases k with
  | zero => exact ⟨rfl,rfl,rfl⟩
  | succ k =>
   have := ih k (by simpa using hk)
   have e0:pk (e :: ws) (k + 1) = pk ws k := rfl
   rw [e0,show (k + 1) * 3 = k * 3 + 3 by omega]
   exact this
theorem flat_take (ws:List Pk) (i:Nat):flat (ws.take i) = (flat ws).take (i * 3) := by
 induction ws generalizing i with
 | nil => simp [flat]
 | cons e ws ih =>
  cases i with
  | zero => simp [flat]
  | succ i =>
   have e3:∀ l,flat (e :: l) = .int .i64 e.1 :: .int .i64 e.2.1 :: .int .i64 e.2.2 :: flat l := fun _ => rfl
   rw [List.take_succ_cons,e3,e3,ih,show (i + 1) * 3 = i * 3 + 1 + 1 + 1 by omega]
   simp
theorem flat_drop (ws:List Pk) (i:Nat):flat (ws.drop i) = (flat ws).drop (i * 3) := by
 induction ws generalizing i with
 | nil => simp [flat]
 | cons e ws ih =>
  cases i with
  | zero => simp
  | succ i =>
   have e3:∀ l,flat (e :: l) = .int .i64 e.1 :: .int .i64 e.2.1 :: .int .i64 e.2.2 :: flat l := fun _ => rfl
   rw [List.drop_succ_cons,e3,ih,show (i + 1) * 3 = i * 3 + 1 + 1 + 1 by omega]
   simp
end Go.Proofs.YtdmniblonikjlakGreatDoor.Net


namespace Go.Proofs.YtdmniblonikjlakGreatDoor.Net
open Go.RowKit
open Vec (Vw)
open Fif (own_lt own_block own_form own_mono Kp ret_bool)
set_option linter.unusedVariables false
def errF (c:Int):Value := if c = 0 then .nilIface else .iface 70 (.int .i64 c)
theorem errF_ok:errF 0 = .nilIface := rfl
theorem errF_no {c:Int} (h:c ≠ 0):errF c = .iface 70 (.int .i64 c) := if_neg h
theorem below_same {w w1 w2:World} (h:Below w1.heap.size w1 w2) (e:w1.heap = w.heap) (e1:w1.os = w.os) (e2:w1.tape = w.tape) (e3:w1.output = w.output):Below w.heap.size w w2 := by
 rw [e] at h
 exact ⟨h.os.trans e1,h.tape.trans e2,h.output.trans e3,by have := h.size; rw [e] at this; exact this,fun k hk => by rw [h.block k hk,e]⟩
theorem below_drews {B:Nat} {a w:World} (h:Below B a w) (n:Nat):Below B a (w.drewN n) := ⟨h.os,h.tape,h.output,h.size,h.block⟩
def KpL (w w':World) (fp:List Nat):Prop := w.heap.size ≤ w'.heap.size ∧ ∀ b,b < w.heap.size → b ∉ fp → w'.heap[b]? = w.heap[b]?
def NewL (w:World) (fp fp':List Nat):Prop := ∀ b ∈ fp',b ∈ fp ∨ w.heap.size ≤ b
def Po (w:World) (base:Nat) (v:Value) (l:List Pk):Prop := w.ownsRow base 83 3 v l.length (flat l)
theorem Po.form {w:World} {base:Nat} {v:Value} {ws:List Pk} (h:Po w base v ws):∃ q cap,v = .slice q ws.length cap ∧ ws.length ≤ cap ∧ cap ≤ maxLen ∧ (0 < ws.length → ∃ g,q = some ⟨g,0,none⟩ ∧ base ≤ g ∧ g < w.heap.size ∧ ∀ j u,(flat ws)[j]? = some u → w.cell? ⟨g,j,none⟩ = some u) := by
 rcases h.2 with ⟨h2,h3⟩ | ⟨g,cap,cur,hv,hb,hh,hc,hm,hsz,ht⟩
 ·refine ⟨none,0,by rw [h3]; exact h2,by omega,by unfold maxLen; omega,fun q => absurd q (by omega)⟩
 ·refine ⟨_,cap,hv,hc,hm,fun _ => ⟨g,rfl,hb,?_,fun j u hj => ?_⟩⟩
  ·rcases Nat.lt_or_ge g w.heap.size with hlt | hge
   ·exact hlt
   ·rw [Array.getElem?_eq_none hge] at hh; cases hh
  ·have hlt:j < ws.length * 3 := by
    have := (List.getElem?_eq_some_iff.1 hj).1
    rwa [flat_len] at this
   rw [← ht,List.getElem?_take_of_lt hlt] at hj
   simp only [World.cell?,hh]
   simpa using hj
theorem infoP:(Tryz.prog.info? 83).map (fun i => (i.zero,i.size,i.bytes)) = some (some (.agg #[.int .i64 0,.int .i64 0,.int .i64 0]),3,24) := by kernel_rfl
theorem info_pk:∃ i,Tryz.prog.info? 83 = some i ∧ i.zero = some (.agg #[.int .i64 0,.int .i64 0,.int .i64 0]) ∧ i.size = 3 ∧ i.bytes = 24 := by
 obtain ⟨i,hi,hzz⟩ := Option.map_eq_some_iff.1 infoP
 simp only [Prod.mk.injEq] at hzz
 exact ⟨i,hi,hzz.1,hzz.2.1,hzz.2.2⟩
theorem blk_push {w w':World} {ob:Obj} (e:w'.heap = w.heap.push ob) {k:Nat} (hk:k < w.heap.size):w'.heap[k]? = w.heap[k]? := by
 rw [e,Array.getElem?_push_lt hk,Array.getElem?_eq_getElem hk]
theorem own_push {w w':World} {ob:Obj} {base:Nat} {t:TypeId} {s n:Nat} {v:Value} {xs:List Value} (o:w.ownsRow base t s v n xs) (e:w'.heap = w.heap.push ob):w'.ownsRow base t s v n xs := own_block o fun k hk => blk_push e (own_lt o k hk).2
theorem new_pk (w:World) (B:Nat) (hB:B = w.heap.size) (x0 x1 x2:Int) (t:TypeId):∀ j u,(flat [(x0,x1,x2)])[j]? = some u → (w.alloc (.cells #[.int .i64 x0,.int .i64 x1,.int .i64 x2] t)).cell? ((⟨B,0,none⟩:Addr).add j) = some u := by
 subst hB
 intro j u hj
 rw [Addr.add_lit,Nat.zero_add]
 have hlt := (List.getElem?_eq_some_iff.1 hj).1
 rw [flat_len] at hlt
 simp only [List.length_cons,List.length_nil] at hlt
 rcases j with _ | _ | _ | j
 ·simpa [flat] using hj
 ·simpa [flat] using hj
 ·simpa [flat] using hj
 ·omega
theorem pk_push {w w':World} {x0 x1 x2:Int} {t:TypeId} (e:w'.heap = w.heap.push (.cells #[.int .i64 x0,.int .i64 x1,.int .i64 x2] t)):∀ j u,(flat [(x0,x1,x2)])[j]? = some u → w'.cell? ((⟨w.heap.size,0,none⟩:Addr).add j) = some u := by
 intro j u hj
 refine Eq.trans (World.cell?_of_block ?_) (new_pk w _ rfl x0 x1 x2 t j u hj)
 rw [e]
 rfl
theorem grown_push {w2 X w3:World} {ob:Obj} {r:Option Nat} (hg:X.grownBy w3 r) (e:X.heap = w2.heap.push ob) (e1:X.os = w2.os) (e2:X.tape = w2.tape) (e3:X.output = w2.output):(w2.alloc ob).grownBy w3 r := by
 obtain ⟨a1,a2,a3,a4,a5⟩ := hg
 exact ⟨a1.trans e1,a2.trans e2,a3.trans e3,by rw [e] at a4; exact a4,fun k hk hne => (a5 k (by rw [e]; exact hk) hne).trans (by rw [e]; rfl)⟩
theorem c_heap {w X:World} (e:X.heap = w.heap) (a:Addr):X.cell? a = w.cell? a := World.cell?_of_block (by rw [e])
def C3 (w:World) (g i:Nat) (c:Pk):Prop := w.cell? ⟨g,i * 3,none⟩ = some (.int .i64 c.1) ∧ w.cell? ⟨g,i * 3 + 1,none⟩ = some (.int .i64 c.2.1) ∧ w.cell? ⟨g,i * 3 + 2,none⟩ = some (.int .i64 c.2.2)
theorem c3_of {w:World} {g:Nat} {ws:List Pk} (h:∀ j u,(flat ws)[j]? = some u → w.cell? ⟨g,j,none⟩ = some u) {i:Nat} (hi:i < ws.length):C3 w g i (pk ws i) := by
 obtain ⟨a,b,c⟩ := flat_get ws i hi
 exact ⟨h _ _ a,h _ _ b,h _ _ c⟩
end Go.Proofs.YtdmniblonikjlakGreatDoor.Net


namespace Go.Proofs.YtdmniblonikjlakGreatDoor.His
abbrev Ev := Int × Int × Int
def ev (h:List Ev) (i:Nat):Ev := h.getD i (0,0,0)
def says (word:Int) (x:Ev):Bool := decide (x.2.1 = 2) && decide (x.2.2 = word)
def isOne (e:Ev):Bool := decide (0 ≤ e.1) && decide (e.1 < 5) && ((decide (e.2.1 = 1) && decide (e.2.2 = 0)) || ((decide (e.2.1 = 2) || decide (e.2.1 = 3)) && (decide (1 ≤ e.2.2) && decide (e.2.2 ≤ 30))))
def next (p:List Ev) (e:Ev):Int :=
 if isOne e = false then 1 else
 if e.2.1 = 2 ∧ p.any (says e.2.2) = true then 7 else
 if e.2.1 ≠ 3 then 0 else
 if p.any (fun y => y == e) = true then 7 else
 if p.any (says e.2.2) = false then 5 else
 if p.any (fun y => y == (e.1,2,e.2.2)) = true then 3 else 0
def Good (h:List Ev) (n:Nat):Prop := ∀ i,i < n → next (h.take i) (ev h i) = 0
def W (h:List Ev) (n:Nat):Nat := (ev h n).1.toNat
def sayAt (h:List Ev) (word:Int):Nat := h.findIdx (says word)
def zero5:List Int := [0,0,0,0,0]
def joinR (a b:List Int):List Int := [max (a.getD 0 0) (b.getD 0 0),max (a.getD 1 0) (b.getD 1 0),max (a.getD 2 0) (b.getD 2 0),max (a.getD 3 0) (b.getD 3 0),max (a.getD 4 0) (b.getD 4 0)]
def upd (r:List Int) (w:Nat):List Int := r.set w (r.getD w 0 + 1)
def far (h:List Ev) (n:Nat) (s:List (List Int) × (Nat → List Int)):List Int :=
 upd (if (ev h n).2.1 = 3 then joinR (s.2 (W h n)) (s.1.getD (sayAt h (ev h n).2.2) zero5) else s.2 (W h n)) (W h n)
def st (h:List Ev):Nat → List (List Int) × (Nat → List Int)
 | 0 => ([],fun _ => zero5)
 | n + 1 => ((st h n).1 ++ [far h n (st h n)],fun m => if m = W h n then far h n (st h n) else (st h n).2 m)
def row (h:List Ev) (n:Nat):List Int := far h n (st h n)
def last (h:List Ev) (n m:Nat):List Int := (st h n).2 m
def cnt (h:List Ev) (m:Nat):Nat → Int
 | 0 => 0
 | n + 1 => cnt h m n + if W h n = m then 1 else 0
theorem cnt_step (h:List Ev) (m n:Nat):cnt h m (n + 1) = cnt h m n + if W h n = m then 1 else 0 := rfl
theorem cnt_nonneg (h:List Ev) (m n:Nat):0 ≤ cnt h m n := by
 induction n with
 | zero => exact Int.le_refl _
 | succ n ih => rw [cnt_step]; split <;> omega
theorem cnt_le (h:List Ev) (m n:Nat):cnt h m n ≤ n := by
 induction n with
 | zero => exact Int.le_refl _
 | succ n ih => rw [cnt_step]; split <;> omega
theorem cnt_mono (h:List Ev) (m:Nat) {a b:Nat} (hab:a ≤ b):cnt h m a ≤ cnt h m b := by
 induction hab with
 | refl => exact Int.le_refl _
 | step _ ih => rw [cnt_step]; split <;> omega
theorem cnt_same (h:List Ev) (m:Nat) {a b:Nat} (hab:a ≤ b) (hn:∀ j,a ≤ j → j < b → W h j ≠ m):cnt h m b = cnt h m a := by
 induction hab with
 | refl => rfl
 | @step b hb ih =>
  rw [cnt_step,if_neg (hn b hb (Nat.lt_succ_self b)),ih (fun j h1 h2 => hn j h1 (Nat.lt_succ_of_lt h2))]
  omega
def own (h:List Ev) (i:Nat):Int := cnt h (W h i) (i + 1)
theorem own_eq (h:List Ev) (i:Nat):own h i = cnt h (W h i) i + 1 := by simp [own,cnt_step]
theorem own_pos (h:List Ev) (i:Nat):1 ≤ own h i := by rw [own_eq]; have := cnt_nonneg h (W h i) i; omega
theorem own_le {h:List Ev} {i n:Nat} (hl:own h i ≤ cnt h (W h i) n):i < n := by
 rcases Nat.lt_or_ge i n with h1 | h1
 ·exact h1
 ·have := cnt_mono h (W h i) h1
  rw [own_eq] at hl
  omega
theorem st_len (h:List Ev) (n:Nat):(st h n).1.length = n := by
 induction n with
 | zero => rfl
 | succ n ih => simp [st,ih]
theorem st_get (h:List Ev) (n j:Nat) (hj:j < n):(st h n).1.getD j zero5 = row h j := by
 induction n with
 | zero => omega
 | succ n ih =>
  simp only [st]
  rcases Nat.lt_or_ge j n with h1 | h1
  ·rw [← ih h1]
   simp [List.getD,List.getElem?_append_left (show j < (st h n).1.length by rw [st_len]; exact h1)]
  ·obtain rfl:j = n := by omega
   simp [List.getD,st_len,row]
theorem last_step (h:List Ev) (n m:Nat):last h (n + 1) m = if m = W h n then row h n else last h n m := rfl
theorem last_spec (h:List Ev) (m n:Nat) :
  (∃ j,j < n ∧ W h j = m ∧ (∀ j',j < j' → j' < n → W h j' ≠ m) ∧ last h n m = row h j) ∨ ((∀ j,j < n → W h j ≠ m) ∧ last h n m = zero5) := by
 induction n with
 | zero => exact .inr ⟨fun j hj => absurd hj (Nat.not_lt_zero _),rfl⟩
 | succ n ih =>
  rw [last_step]
  by_cases hm:m = W h n
  ·rw [if_pos hm]
   exact .inl ⟨n,Nat.lt_succ_self n,hm.symm,fun j' h1 h2 => by omega,rfl⟩
  ·rw [if_neg hm]
   rcases ih with ⟨j,h1,h2,h3,h4⟩ | ⟨h1,h2⟩
   ·refine .inl ⟨j,Nat.lt_succ_of_lt h1,h2,fun j' a b => ?_,h4⟩
    rcases Nat.lt_succ_iff_lt_or_eq.1 b with b | rfl
    ·exact h3 j' a b
    ·exact fun e => hm e.symm
   ·refine .inr ⟨fun j hj => ?_,h2⟩
    rcases Nat.lt_succ_iff_lt_or_eq.1 hj with b | rfl
    ·exact h1 j b
    ·exact fun e => hm e.symm
theorem good_one {h:List Ev} {N n:Nat} (hg:Good h N) (hn:n < N):isOne (ev h n) = true := by
 have := hg n hn
 unfold next at this
 cases hb:isOne (ev h n) with
 | true => rfl
 | false => rw [hb,if_pos rfl] at this; omega
theorem isOne_who {e:Ev} (h:isOne e = true):0 ≤ e.1 ∧ e.1 < 5 := by
 simp [isOne] at h
 exact h.1
theorem isOne_what {e:Ev} (h:isOne e = true):(e.2.1 = 1 ∧ e.2.2 = 0) ∨ ((e.2.1 = 2 ∨ e.2.1 = 3) ∧ 1 ≤ e.2.2 ∧ e.2.2 ≤ 30) := by
 simp [isOne] at h
 exact h.2
theorem W_lt {h:List Ev} {N n:Nat} (hg:Good h N) (hn:n < N):W h n < 5 := by
 have := isOne_who (good_one hg hn)
 unfold W
 omega
theorem W_cast {h:List Ev} {N n:Nat} (hg:Good h N) (hn:n < N):((W h n:Nat):Int) = (ev h n).1 := by
 have := isOne_who (good_one hg hn)
 unfold W
 omega
theorem good_said {h:List Ev} {N n:Nat} (hg:Good h N) (hn:n < N) (h3:(ev h n).2.1 = 3):(h.take n).any (says (ev h n).2.2) = true := by
 have := hg n hn
 unfold next at this
 rw [if_neg (by rw [good_one hg hn]; decide),if_neg (by omega),if_neg (by omega)] at this
 split at this
 ·omega
 ·cases hb:(h.take n).any (says (ev h n).2.2) with
  | true => rfl
  | false => rw [hb,if_pos rfl] at this; omega
theorem sayAt_lt {h:List Ev} {N n:Nat} (hg:Good h N) (hn:n < N) (h3:(ev h n).2.1 = 3) :
  sayAt h (ev h n).2.2 < n ∧ sayAt h (ev h n).2.2 < h.length ∧ says (ev h n).2.2 (ev h (sayAt h (ev h n).2.2)) = true := by
 have hs := good_said hg hn h3
 obtain ⟨x,hx,hp⟩ := List.any_eq_true.1 hs
 obtain ⟨j,hj,rfl⟩ := List.getElem_of_mem hx
 have hj2:j < n ∧ j < h.length := by simpa [List.length_take,Nat.lt_min] using hj
 have hp':says (ev h n).2.2 h[j] = true := by simpa [List.getElem_take] using hp
 have hle:sayAt h (ev h n).2.2 ≤ j := by
  rcases Nat.lt_or_ge j (sayAt h (ev h n).2.2) with h1 | h1
  ·exact absurd hp' (by simpa using List.not_of_lt_findIdx h1)
  ·exact h1
 have hlt:sayAt h (ev h n).2.2 < h.length := by omega
 refine ⟨by omega,hlt,?_⟩
 have := List.findIdx_getElem (w := hlt)
 have e:ev h (sayAt h (ev h n).2.2) = h[sayAt h (ev h n).2.2] := by
  show h.getD _ _ = _
  rw [List.getD,List.getElem?_eq_getElem hlt]
  rfl
 rw [e]
 exact this
theorem joinR_len (a b:List Int):(joinR a b).length = 5 := rfl
theorem upd_len (r:List Int) (w:Nat):(upd r w).length = r.length := by simp [upd]
theorem rows_key (h:List Ev) (n:Nat) (hl:∀ m,(last h n m).length = 5):(row h n).length = 5 := by
 unfold row far
 rw [upd_len]
 split
 ·rfl
 ·exact hl _
theorem rows_len (h:List Ev) (n:Nat):(∀ m,(last h n m).length = 5) ∧ (row h n).length = 5 := by
 induction n with
 | zero => exact ⟨fun _ => rfl,rows_key _ _ fun _ => rfl⟩
 | succ n ih =>
  have hl:∀ m,(last h (n + 1) m).length = 5 := by
   intro m
   rw [last_step]
   split
   ·exact ih.2
   ·exact ih.1 m
  exact ⟨hl,rows_key _ _ hl⟩
theorem row_len (h:List Ev) (n:Nat):(row h n).length = 5 := (rows_len h n).2
theorem last_len (h:List Ev) (n m:Nat):(last h n m).length = 5 := (rows_len h n).1 m
theorem getD_upd (r:List Int) (w m:Nat) (hw:w < r.length):(upd r w).getD m 0 = r.getD m 0 + if w = m then 1 else 0 := by
 unfold upd
 by_cases e:w = m
 ·subst e
  simp [List.getD,hw]
 ·simp [List.getD,List.getElem?_set_ne e,e]
theorem getD_joinR (a b:List Int) (ha:a.length = 5) (hb:b.length = 5) (m:Nat):(joinR a b).getD m 0 = max (a.getD m 0) (b.getD m 0) := by
 rcases m with _ | _ | _ | _ | _ | m
 ·rfl
 ·rfl
 ·rfl
 ·rfl
 ·rfl
 ·simp [joinR,List.getD,List.getElem?_eq_none (show a.length ≤ m + 5 by omega),List.getElem?_eq_none (show b.length ≤ m + 5 by omega)]
theorem row_get {h:List Ev} {N n:Nat} (hg:Good h N) (hn:n < N) (m:Nat) :
  (row h n).getD m 0 = (if (ev h n).2.1 = 3 then max ((last h n (W h n)).getD m 0) ((row h (sayAt h (ev h n).2.2)).getD m 0) else (last h n (W h n)).getD m 0) + if W h n = m then 1 else 0 := by
 have hw := W_lt hg hn
 have e:row h n = upd (if (ev h n).2.1 = 3 then joinR (last h n (W h n)) ((st h n).1.getD (sayAt h (ev h n).2.2) zero5) else last h n (W h n)) (W h n) := rfl
 rw [e]
 by_cases h3:(ev h n).2.1 = 3
 ·rw [if_pos h3,if_pos h3,getD_upd _ _ _ (by rw [joinR_len]; exact hw),st_get h n _ (sayAt_lt hg hn h3).1,getD_joinR _ _ (last_len h n _) (row_len h _)]
 ·rw [if_neg h3,if_neg h3,getD_upd _ _ _ (by rw [last_len h n (W h n)]; exact hw)]
theorem bounds {h:List Ev} {N:Nat} (hg:Good h N):∀ n,n < N → (∀ m,0 ≤ (row h n).getD m 0 ∧ (row h n).getD m 0 ≤ cnt h m (n + 1)) ∧ (row h n).getD (W h n) 0 = own h n := by
 intro n
 induction n using Nat.strongRecOn with
 | _ n ih =>
  intro hn
  have hlast:∀ m,0 ≤ (last h n (W h n)).getD m 0 ∧ (last h n (W h n)).getD m 0 ≤ cnt h m n := by
   intro m
   rcases last_spec h (W h n) n with ⟨j,h1,h2,h3,h4⟩ | ⟨_,h2⟩
   ·rw [h4]
    have := (ih j h1 (by omega)).1 m
    have := cnt_mono h m (show j + 1 ≤ n by omega)
    omega
   ·rw [h2]
    have := cnt_nonneg h m n
    rcases m with _ | _ | _ | _ | _ | m <;> simp [zero5] <;> omega
  have hself:(last h n (W h n)).getD (W h n) 0 = cnt h (W h n) n := by
   rcases last_spec h (W h n) n with ⟨j,h1,h2,h3,h4⟩ | ⟨h1,h2⟩
   ·rw [h4]
    have := (ih j h1 (by omega)).2
    rw [h2] at this
    rw [this]
    unfold own
    rw [h2]
    exact (cnt_same h (W h n) (show j + 1 ≤ n by omega) (fun j' a b => h3 j' (by omega) b)).symm
   ·rw [h2,cnt_same h (W h n) (Nat.zero_le n) (fun j _ b => h1 j b)]
    have:W h n < 5 := W_lt hg hn
    generalize W h n = x at this
    rcases x with _ | _ | _ | _ | _ | x <;> first | rfl | omega
  have hsay:(ev h n).2.1 = 3 → ∀ m,0 ≤ (row h (sayAt h (ev h n).2.2)).getD m 0 ∧ (row h (sayAt h (ev h n).2.2)).getD m 0 ≤ cnt h m n := by
   intro h3 m
   have hs := (sayAt_lt hg hn h3).1
   have := (ih _ hs (by omega)).1 m
   have := cnt_mono h m (show sayAt h (ev h n).2.2 + 1 ≤ n by omega)
   omega
  refine ⟨fun m => ?_,?_⟩
  ·rw [row_get hg hn,cnt_step]
   have := hlast m
   split
   ·rename_i h3
    have := hsay h3 m
    split <;> omega
   ·split <;> omega
  ·rw [row_get hg hn,own_eq,if_pos rfl,hself]
   split
   ·rename_i h3
    have := hsay h3 (W h n)
    omega
   ·rfl
theorem row_self {h:List Ev} {N n:Nat} (hg:Good h N) (hn:n < N):(row h n).getD (W h n) 0 = own h n := (bounds hg n hn).2
theorem row_nonneg {h:List Ev} {N n:Nat} (hg:Good h N) (hn:n < N) (m:Nat):0 ≤ (row h n).getD m 0 := ((bounds hg n hn).1 m).1
theorem row_le {h:List Ev} {N n:Nat} (hg:Good h N) (hn:n < N) (m:Nat):(row h n).getD m 0 ≤ cnt h m (n + 1) := ((bounds hg n hn).1 m).2
theorem last_below {h:List Ev} {N n:Nat} (hg:Good h N) (hn:n < N) (m:Nat):(last h n (W h n)).getD m 0 ≤ (row h n).getD m 0 := by
 rw [row_get hg hn]
 split <;> split <;> omega
theorem say_below {h:List Ev} {N n:Nat} (hg:Good h N) (hn:n < N) (h3:(ev h n).2.1 = 3) (m:Nat):(row h (sayAt h (ev h n).2.2)).getD m 0 ≤ (row h n).getD m 0 := by
 rw [row_get hg hn,if_pos h3]
 split <;> omega
theorem mem_below {h:List Ev} {N:Nat} (hg:Good h N):∀ n,n < N → ∀ j,j ≤ n → W h j = W h n → ∀ m,(row h j).getD m 0 ≤ (row h n).getD m 0 := by
 intro n
 induction n using Nat.strongRecOn with
 | _ n ih =>
  intro hn j hj hw m
  rcases Nat.lt_or_ge j n with hlt | hge
  ·have hb := last_below hg hn m
   rcases last_spec h (W h n) n with ⟨l,h1,h2,h3,h4⟩ | ⟨h1,_⟩
   ·rw [h4] at hb
    have hjl:j ≤ l := by
     rcases Nat.lt_or_ge l j with a | a
     ·exact absurd hw (h3 j a hlt)
     ·exact a
    exact Int.le_trans (ih l h1 (by omega) j hjl (hw.trans h2.symm) m) hb
   ·exact absurd hw (h1 j hlt)
  ·obtain rfl:j = n := by omega
   exact Int.le_refl _
theorem dom {h:List Ev} {N:Nat} (hg:Good h N):∀ k,k < N → ∀ i,own h i ≤ (row h k).getD (W h i) 0 → i ≤ k ∧ ∀ m,(row h i).getD m 0 ≤ (row h k).getD m 0 := by
 intro k
 induction k using Nat.strongRecOn with
 | _ k ih =>
  intro hk i hi
  by_cases hw:W h i = W h k
  ·rw [hw,row_self hg hk] at hi
   have hik:i < k + 1 := own_le (by rw [hw]; exact hi)
   exact ⟨by omega,mem_below hg k hk i (by omega) hw⟩
  ·have hp := own_pos h i
   have hr := row_get hg hk (W h i)
   rw [if_neg (show ¬ W h k = W h i from fun e => hw e.symm)] at hr
   have hcase:own h i ≤ (last h k (W h k)).getD (W h i) 0 ∨ ((ev h k).2.1 = 3 ∧ own h i ≤ (row h (sayAt h (ev h k).2.2)).getD (W h i) 0) := by
    by_cases h3:(ev h k).2.1 = 3
    ·rw [if_pos h3] at hr
     rcases Int.le_total ((last h k (W h k)).getD (W h i) 0) ((row h (sayAt h (ev h k).2.2)).getD (W h i) 0) with a | a
     ·right; exact ⟨h3,by omega⟩
     ·left; omega
    ·rw [if_neg h3] at hr
     left; omega
   rcases hcase with hl | ⟨h3,hl⟩
   ·rcases last_spec h (W h k) k with ⟨l,h1,_,_,h4⟩ | ⟨_,h2⟩
    ·have hb := last_below hg hk
     rw [h4] at hl
     obtain ⟨a,b⟩ := ih l h1 (by omega) i hl
     refine ⟨by omega,fun m => ?_⟩
     have := hb m
     rw [h4] at this
     exact Int.le_trans (b m) this
    ·rw [h2] at hl
     generalize W h i = x at hl
     rcases x with _ | _ | _ | _ | _ | x <;> simp [zero5] at hl <;> omega
   ·obtain ⟨a,b⟩ := ih _ (sayAt_lt hg hk h3).1 (by have := (sayAt_lt hg hk h3).1; omega) i hl
    exact ⟨by have := (sayAt_lt hg hk h3).1; omega,fun m => Int.le_trans (b m) (say_below hg hk h3 m)⟩
def bef (h:List Ev) (i k:Nat):Bool := decide (i ≠ k) && decide ((row h i).getD (W h i) 0 ≤ (row h k).getD (W h i) 0)
theorem bef_iff {h:List Ev} {N i k:Nat} (hg:Good h N) (hi:i < N):bef h i k = true ↔ i ≠ k ∧ own h i ≤ (row h k).getD (W h i) 0 := by
 simp only [bef,Bool.and_eq_true,decide_eq_true_eq,row_self hg hi]
theorem bef_lt {h:List Ev} {N i k:Nat} (hg:Good h N) (hi:i < N) (hk:k < N) (hb:bef h i k = true):i < k := by
 obtain ⟨a,b⟩ := (bef_iff hg hi).1 hb
 have := (dom hg k hk i b).1
 omega
theorem bef_trans {h:List Ev} {N i k j:Nat} (hg:Good h N) (hi:i < N) (hk:k < N) (hj:j < N) (h1:bef h i k = true) (h2:bef h k j = true):bef h i j = true := by
 have l1 := bef_lt hg hi hk h1
 have l2 := bef_lt hg hk hj h2
 obtain ⟨_,a⟩ := (bef_iff hg hi).1 h1
 obtain ⟨_,b⟩ := (bef_iff hg hk).1 h2
 exact (bef_iff hg hi).2 ⟨by omega,Int.le_trans a ((dom hg j hj k b).2 _)⟩
def leR (a b:List Int):Bool := decide (a.getD 0 0 ≤ b.getD 0 0) && decide (a.getD 1 0 ≤ b.getD 1 0) && decide (a.getD 2 0 ≤ b.getD 2 0) && decide (a.getD 3 0 ≤ b.getD 3 0) && decide (a.getD 4 0 ≤ b.getD 4 0)
theorem leR_of {a b:List Int} (hx:∀ m,m < 5 → a.getD m 0 ≤ b.getD m 0):leR a b = true := by
 simp only [leR,Bool.and_eq_true,decide_eq_true_eq]
 exact ⟨⟨⟨⟨hx 0 (by omega),hx 1 (by omega)⟩,hx 2 (by omega)⟩,hx 3 (by omega)⟩,hx 4 (by omega)⟩
end Go.Proofs.YtdmniblonikjlakGreatDoor.His


namespace Go.Proofs.YtdmniblonikjlakGreatDoor.His
def has (who:Int) (e:Ev):Bool := decide (e.1 = who) && decide (e.2.1 ≠ 1)
def hrd (h:List Ev) (who:Int):List Int := (h.filter (has who)).map (·.2.2)
def ix (l:List Int) (x:Int):Nat := l.findIdx (fun y => y == x)
def both (a b:List Int):List Int := a.filter (fun x => b.contains x)
def hv1 (words:List Int) (who lw:Int) (ew lword:Int):Bool := decide (who = lw) || !(words.contains lword) || (words.take (ix words lword)).contains ew
def hv5 (h:List Ev) (e l:Ev):Bool := (List.range 5).all fun m => hv1 (hrd h m) m l.1 e.2.2 l.2.2
def kp1 (h:List Ev) (needs:Nat → Nat → Bool) (i k:Nat):Bool := !(decide ((ev h i).2.1 = 2) && decide ((ev h k).2.1 = 2) && needs i k) || hv5 h (ev h i) (ev h k)
def keepB (h:List Ev) (needs:Nat → Nat → Bool):Bool := (List.range h.length).all fun k => (List.range k).all fun i => kp1 h needs i k
def smB (h:List Ev) (i k:Nat):Bool := decide ((ev h i).1 = (ev h k).1)
def fifoB (h:List Ev):Bool := keepB h (smB h)
def causB (h:List Ev):Bool := keepB h (bef h)
def ag1 (a b:List Int):Bool := both a b == both b a
def totB (h:List Ev):Bool := (List.range 5).all fun m => (List.range m).all fun o => ag1 (hrd h m) (hrd h o)
theorem hrd_step (h:List Ev) (who:Int) {n:Nat} (hn:n < h.length):hrd (h.take (n + 1)) who = hrd (h.take n) who ++ (if has who (ev h n) then [(ev h n).2.2] else []) := by
 have e:ev h n = h[n] := by
  show h.getD _ _ = _
  rw [List.getD,List.getElem?_eq_getElem hn]
  rfl
 rw [e,List.take_succ_eq_append_getElem hn]
 unfold hrd
 rw [List.filter_append,List.map_append]
 congr 1
 by_cases hh:has who h[n] = true
 ·simp [hh]
 ·simp [hh]
theorem hrd_len (h:List Ev) (who:Int):(hrd h who).length ≤ h.length := by
 unfold hrd
 rw [List.length_map]
 exact List.length_filter_le _ _
theorem ev_get {h:List Ev} {i:Nat} (hi:i < h.length):ev h i = h[i] := by
 show h.getD _ _ = _
 rw [List.getD,List.getElem?_eq_getElem hi]
 rfl
theorem mem_hrd {h:List Ev} {who x:Int}:x ∈ hrd h who ↔ ∃ j,j < h.length ∧ has who (ev h j) = true ∧ (ev h j).2.2 = x := by
 unfold hrd
 rw [List.mem_map]
 constructor
 ·rintro ⟨e,he,rfl⟩
  obtain ⟨hm,hh⟩ := List.mem_filter.1 he
  obtain ⟨j,hj,rfl⟩ := List.getElem_of_mem hm
  exact ⟨j,hj,by rw [ev_get hj]; exact hh,by rw [ev_get hj]⟩
 ·rintro ⟨j,hj,hh,rfl⟩
  rw [ev_get hj] at hh ⊢
  exact ⟨_,List.mem_filter.2 ⟨List.getElem_mem hj,hh⟩,rfl⟩
theorem ev_take' {h:List Ev} {k j:Nat} (hj:j < k):ev (h.take k) j = ev h j := by
 simp [ev,List.getD,List.getElem?_take_of_lt hj]
theorem mem_hrd_take {h:List Ev} {who x:Int} {n:Nat} (hn:n ≤ h.length):x ∈ hrd (h.take n) who ↔ ∃ j,j < n ∧ has who (ev h j) = true ∧ (ev h j).2.2 = x := by
 rw [mem_hrd,List.length_take,Nat.min_eq_left hn]
 constructor
 ·rintro ⟨j,hj,a,b⟩
  rw [ev_take' hj] at a b
  exact ⟨j,hj,a,b⟩
 ·rintro ⟨j,hj,a,b⟩
  refine ⟨j,hj,?_,?_⟩
  ·rw [ev_take' hj]; exact a
  ·rw [ev_take' hj]; exact b
theorem hrd_split (h:List Ev) (who:Int) (n:Nat):hrd h who = hrd (h.take n) who ++ hrd (h.drop n) who := by
 unfold hrd
 rw [← List.map_append,← List.filter_append,List.take_append_drop]
theorem mem_take_ev {h:List Ev} {i j:Nat} (hj:j < h.length) (hji:j < i):ev h j ∈ h.take i := by
 have e:(h.take i)[j]? = some (ev h j) := by
  rw [List.getElem?_take_of_lt hji,ev_get hj,List.getElem?_eq_getElem hj]
 exact List.mem_of_getElem? e
theorem once {h:List Ev} {N:Nat} (hg:Good h N) (hN:N ≤ h.length) {j n:Nat} (hjn:j < n) (hn:n < N) {who:Int} (hj:has who (ev h j) = true) (hh:has who (ev h n) = true):(ev h j).2.2 ≠ (ev h n).2.2 := by
 intro e
 have g1 := isOne_what (good_one hg (show j < N by omega))
 have g2 := isOne_what (good_one hg hn)
 simp only [has,Bool.and_eq_true,decide_eq_true_eq] at hj hh
 have hnx := hg n hn
 unfold next at hnx
 rw [if_neg (by rw [good_one hg hn]; decide)] at hnx
 have hmem:ev h j ∈ h.take n := mem_take_ev (by omega) hjn
 rcases g2 with ⟨a,_⟩ | ⟨a | a,_⟩
 ·exact hh.2 a
 ·
  have hs:(h.take n).any (says (ev h n).2.2) = true := by
   rcases g1 with ⟨b,_⟩ | ⟨b | b,_⟩
   ·exact absurd b hj.2
   ·exact List.any_eq_true.2 ⟨_,hmem,by simp [says,b,e]⟩
   ·have := good_said hg (show j < N by omega) b
    obtain ⟨x,hx,hp⟩ := List.any_eq_true.1 this
    rw [e] at hp
    exact List.any_eq_true.2 ⟨x,List.mem_of_mem_take (by rw [List.take_take,Nat.min_eq_left (by omega)]; exact hx:x ∈ (h.take n).take j),hp⟩
  rw [if_pos ⟨a,hs⟩] at hnx
  omega
 ·rw [if_neg (by omega),if_neg (by omega)] at hnx
  rcases g1 with ⟨b,_⟩ | ⟨b | b,_⟩
  ·exact hj.2 b
  ·split at hnx
   ·omega
   ·split at hnx
    ·omega
    ·rw [if_pos] at hnx
     ·omega
     ·refine List.any_eq_true.2 ⟨_,hmem,?_⟩
      have:ev h j = ((ev h n).1,2,(ev h n).2.2) := Prod.ext (by rw [hj.1,hh.1]) (Prod.ext b e)
      simp [this]
  ·rw [if_pos] at hnx
   ·omega
   ·refine List.any_eq_true.2 ⟨_,hmem,?_⟩
    have:ev h j = ev h n := Prod.ext (by rw [hj.1,hh.1]) (Prod.ext (by rw [a,b]) e)
    simp [this]
theorem word_not {h:List Ev} (hg:Good h h.length) {j:Nat} (hj:j < h.length) {who:Int} (hh:has who (ev h j) = true):(ev h j).2.2 ∉ hrd (h.take j) who := by
 rw [mem_hrd_take (by omega)]
 rintro ⟨m,hm,a,b⟩
 exact once hg (Nat.le_refl _) hm hj a hh b
theorem ix_not {l:List Int} {x:Int} (hx:x ∉ l) (r:List Int):ix (l ++ x :: r) x = l.length := by
 unfold ix
 rw [List.findIdx_append]
 have h1:l.findIdx (fun y => y == x) = l.length := by
  rw [List.findIdx_eq_length]
  intro y hy
  simp only [beq_eq_false_iff_ne]
  rintro rfl
  exact hx hy
 rw [h1,if_neg (by omega)]
 simp [List.findIdx_cons]
theorem hrd_at {h:List Ev} {j:Nat} (hj:j < h.length) {who:Int} (hh:has who (ev h j) = true):hrd h who = hrd (h.take j) who ++ (ev h j).2.2 :: hrd (h.drop (j + 1)) who := by
 rw [hrd_split h who (j + 1),hrd_step h who hj,if_pos hh]
 simp
theorem take_ix {h:List Ev} (hg:Good h h.length) {j:Nat} (hj:j < h.length) {who:Int} (hh:has who (ev h j) = true):(hrd h who).take (ix (hrd h who) (ev h j).2.2) = hrd (h.take j) who := by
 rw [hrd_at hj hh,ix_not (word_not hg hj hh),List.take_left']
 rfl
theorem hrd_nodup {h:List Ev} (hg:Good h h.length) (who:Int):∀ n,n ≤ h.length → (hrd (h.take n) who).Nodup := by
 intro n
 induction n with
 | zero => intro _; simp [hrd]
 | succ n ih =>
  intro hn
  rw [hrd_step h who (by omega)]
  by_cases hh:has who (ev h n) = true
  ·rw [if_pos hh,List.nodup_append]
   refine ⟨ih (by omega),by simp,?_⟩
   intro a ha b hb
   rw [List.mem_singleton] at hb
   rintro rfl
   rw [hb] at ha
   exact word_not hg (by omega) hh ha
  ·rw [if_neg hh,List.append_nil]
   exact ih (by omega)
theorem hrd_nd {h:List Ev} (hg:Good h h.length) (who:Int):(hrd h who).Nodup := by
 have := hrd_nodup hg who h.length (Nat.le_refl _)
 rwa [List.take_length] at this
theorem hv5_iff {h:List Ev} (hg:Good h h.length) (e l:Ev):hv5 h e l = true ↔ ∀ j,j < h.length → (ev h j).2.1 ≠ 1 → (ev h j).1 ≠ l.1 → (ev h j).2.2 = l.2.2 → ∃ m,m < j ∧ has (ev h j).1 (ev h m) = true ∧ (ev h m).2.2 = e.2.2 := by
 unfold hv5
 rw [List.all_eq_true]
 constructor
 ·intro ha j hj hne hw hword
  have hwho := isOne_who (good_one hg hj)
  have hh:has (ev h j).1 (ev h j) = true := by simp [has,hne]
  have := ha (ev h j).1.toNat (List.mem_range.2 (by omega))
  rw [show (((ev h j).1.toNat:Nat):Int) = (ev h j).1 by omega] at this
  unfold hv1 at this
  rw [← hword,take_ix hg hj hh] at this
  simp only [Bool.or_eq_true,decide_eq_true_eq,Bool.not_eq_true',List.contains_eq_mem,decide_eq_false_iff_not] at this
  rcases this with (a | a) | a
  ·exact absurd a hw
  ·exact absurd (mem_hrd.2 ⟨j,hj,hh,rfl⟩) a
  ·exact (mem_hrd_take (by omega)).1 a
 ·intro hx m _
  unfold hv1
  simp only [Bool.or_eq_true,decide_eq_true_eq,Bool.not_eq_true',List.contains_eq_mem,decide_eq_false_iff_not]
  by_cases h1:(m:Int) = l.1
  ·exact .inl (.inl h1)
  ·by_cases h2:l.2.2 ∈ hrd h m
   ·right
    obtain ⟨j,hj,hh,he⟩ := mem_hrd.1 h2
    have hhw:(ev h j).1 = (m:Int) ∧ (ev h j).2.1 ≠ 1 := by simpa [has] using hh
    have := hx j hj hhw.2 (by rw [hhw.1]; exact h1) he
    rw [← he,take_ix hg hj hh,mem_hrd_take (by omega),← hhw.1]
    exact this
   ·exact .inl (.inr h2)
theorem keep_iff {h:List Ev} {needs:Nat → Nat → Bool}:keepB h needs = true ↔ ∀ i k,i < k → k < h.length → (ev h i).2.1 = 2 → (ev h k).2.1 = 2 → needs i k = true → hv5 h (ev h i) (ev h k) = true := by
 unfold keepB
 simp only [List.all_eq_true,List.mem_range,kp1,Bool.or_eq_true,Bool.not_eq_true']
 constructor
 ·intro ha i k hik hk h1 h2 h3
  rcases ha k hk i hik with a | a
  ·simp [h1,h2,h3] at a
  ·exact a
 ·intro ha k hk i hik
  by_cases h1:(ev h i).2.1 = 2
  ·by_cases h2:(ev h k).2.1 = 2
   ·cases h3:needs i k with
    | true => exact .inr (ha i k hik hk h1 h2 h3)
    | false => left; simp
   ·left; simp [h2]
  ·left; simp [h1]
theorem keep_of {h:List Ev} {p q:Nat → Nat → Bool} (hk:keepB h p = true) (hpq:∀ i k,i < k → k < h.length → (ev h i).2.1 = 2 → (ev h k).2.1 = 2 → q i k = true → p i k = true):keepB h q = true := by
 rw [keep_iff] at hk ⊢
 intro i k hik hkl h1 h2 h3
 exact hk i k hik hkl h1 h2 (hpq i k hik hkl h1 h2 h3)
theorem sm_bef {h:List Ev} (hg:Good h h.length) {i k:Nat} (hik:i < k) (hk:k < h.length) (hs:smB h i k = true):bef h i k = true := by
 have hi:i < h.length := by omega
 have hw:W h i = W h k := by unfold W; rw [of_decide_eq_true hs]
 refine (bef_iff hg hi).2 ⟨by omega,?_⟩
 rw [← row_self hg hi]
 exact mem_below hg k hk i (by omega) hw _
theorem caus_fifo {h:List Ev} (hg:Good h h.length) (hc:causB h = true):fifoB h = true :=
 keep_of hc fun _ _ hik hk _ _ hs => sm_bef hg hik hk hs
theorem one_row {R:Int → Int → Prop} (htr:∀ {x y z},R x y → R y z → R x z) (hirr:∀ x,¬ R x x):∀ {a b:List Int},a.Pairwise R → b.Pairwise R → (∀ i,i ∈ a ↔ i ∈ b) → a = b := by
 intro a
 induction a with
 | nil =>
  intro b _ _ hm
  cases b with
  | nil => rfl
  | cons x b => exact absurd ((hm x).2 (List.mem_cons_self ..)) (List.not_mem_nil)
 | cons x a ih =>
  intro b ha hb hm
  cases b with
  | nil => exact absurd ((hm x).1 (List.mem_cons_self ..)) (List.not_mem_nil)
  | cons y b =>
   rw [List.pairwise_cons] at ha hb
   have hxy:x = y := by
    rcases List.mem_cons.1 ((hm x).1 (List.mem_cons_self ..)) with e | e
    ·exact e
    ·rcases List.mem_cons.1 ((hm y).2 (List.mem_cons_self ..)) with e2 | e2
     ·exact e2.symm
     ·exact absurd (htr (ha.1 y e2) (hb.1 x e)) (hirr _)
   subst hxy
   congr 1
   refine ih ha.2 hb.2 fun i => ?_
   constructor
   ·intro hi
    rcases List.mem_cons.1 ((hm i).1 (List.mem_cons_of_mem _ hi)) with e | e
    ·exact absurd (e ▸ ha.1 i hi) (hirr _)
    ·exact e
   ·intro hi
    rcases List.mem_cons.1 ((hm i).2 (List.mem_cons_of_mem _ hi)) with e | e
    ·exact absurd (e ▸ hb.1 i hi) (hirr _)
    ·exact e
theorem ix_lt {l:List Int} {x:Int} (hx:x ∈ l):ix l x < l.length := by
 unfold ix
 rw [List.findIdx_lt_length]
 exact ⟨x,hx,by simp⟩
theorem ix_get {l:List Int} {x:Int} (hx:x ∈ l):l[ix l x]'(ix_lt hx) = x := by
 have := List.findIdx_getElem (p := fun y => y == x) (w := ix_lt hx)
 exact eq_of_beq this
theorem ix_inj {l:List Int} {x y:Int} (hx:x ∈ l) (hy:y ∈ l) (he:ix l x = ix l y):x = y := by
 rw [← ix_get hx,← ix_get hy]
 simp only [he]
theorem ix_of {l:List Int} (hl:l.Nodup) {i:Nat} (hi:i < l.length):ix l l[i] = i := by
 have hm:l[i] ∈ l := List.getElem_mem hi
 have := ix_get hm
 exact (List.getElem_inj hl).1 this
theorem pw_self {l:List Int} (hl:l.Nodup):l.Pairwise (fun x y => ix l x < ix l y) := by
 rw [List.pairwise_iff_getElem]
 intro i j hi hj hij
 rw [ix_of hl hi,ix_of hl hj]
 exact hij
theorem ag1_iff {a b:List Int} (ha:a.Nodup) (hb:b.Nodup):ag1 a b = true ↔ a.Pairwise (fun x y => x ∈ b → y ∈ b → ix b x ≤ ix b y) := by
 unfold ag1
 rw [beq_iff_eq]
 constructor
 ·intro he
  rw [List.pairwise_iff_forall_sublist]
  intro x y hxy hx hy
  have h1:[x,y].Sublist (both b a) := by
   rw [← he]
   have := hxy.filter (fun z => b.contains z)
   simpa [both,hx,hy] using this
  have h2:[x,y].Sublist b := h1.trans (List.filter_sublist ..)
  have := (pw_self hb).sublist h2
  simp at this
  omega
 ·intro hp
  refine one_row (R := fun x y => ix b x < ix b y) (fun h1 h2 => Nat.lt_trans h1 h2) (fun x => Nat.lt_irrefl _) ?_ ?_ ?_
  ·have h1:(both a b).Pairwise (fun x y => x ≠ y ∧ (x ∈ b → y ∈ b → ix b x ≤ ix b y)) := (List.Pairwise.and ha hp).sublist (List.filter_sublist ..)
   refine h1.imp_of_mem ?_
   intro x y hx hy hh
   have hx':x ∈ b := by simpa using (List.mem_filter.1 hx).2
   have hy':y ∈ b := by simpa using (List.mem_filter.1 hy).2
   have := hh.2 hx' hy'
   rcases Nat.lt_or_ge (ix b x) (ix b y) with q | q
   ·exact q
   ·exact absurd (ix_inj hx' hy' (by omega)) hh.1
  ·exact (pw_self hb).sublist (List.filter_sublist ..)
  ·intro i
   simp only [both,List.mem_filter,List.contains_eq_mem,decide_eq_true_eq]
   exact ⟨fun ⟨p,q⟩ => ⟨q,p⟩,fun ⟨p,q⟩ => ⟨q,p⟩⟩
end Go.Proofs.YtdmniblonikjlakGreatDoor.His


namespace Go.Proofs.YtdmniblonikjlakGreatDoor.His
set_option linter.unusedVariables false
def spk (h:List Ev) (word:Int):Nat := W h (sayAt h word)
def hc (h:List Ev) (m a:Nat):Nat → Int
 | 0 => 0
 | n + 1 => hc h m a n + if W h n = m ∧ (ev h n).2.1 ≠ 1 ∧ spk h (ev h n).2.2 = a then 1 else 0
theorem hc_step (h:List Ev) (m a n:Nat):hc h m a (n + 1) = hc h m a n + if W h n = m ∧ (ev h n).2.1 ≠ 1 ∧ spk h (ev h n).2.2 = a then 1 else 0 := rfl
theorem hc_nonneg (h:List Ev) (m a n:Nat):0 ≤ hc h m a n := by
 induction n with
 | zero => exact Int.le_refl _
 | succ n ih => rw [hc_step]; split <;> omega
theorem hc_mono (h:List Ev) (m a:Nat) {x y:Nat} (hxy:x ≤ y):hc h m a x ≤ hc h m a y := by
 induction hxy with
 | refl => exact Int.le_refl _
 | step _ ih => rw [hc_step]; split <;> omega
theorem sayAt_say {h:List Ev} (hg:Good h h.length) {s:Nat} (hs:s < h.length) (h2:(ev h s).2.1 = 2):sayAt h (ev h s).2.2 = s := by
 have hn := hg s hs
 unfold next at hn
 rw [if_neg (by rw [good_one hg hs]; decide)] at hn
 have ha:¬ ((h.take s).any (says (ev h s).2.2) = true) := by
  intro q
  rw [if_pos ⟨h2,q⟩] at hn
  omega
 unfold sayAt
 have h1:h.findIdx (says (ev h s).2.2) < h.length := by
  rw [List.findIdx_lt_length]
  exact ⟨_,by rw [← List.take_length (l := h)]; exact mem_take_ev hs hs,by simp [says,h2]⟩
 have hp:says (ev h s).2.2 (h[h.findIdx (says (ev h s).2.2)]) = true := List.findIdx_getElem (w := h1)
 rcases Nat.lt_trichotomy (h.findIdx (says (ev h s).2.2)) s with q | q | q
 ·refine absurd (List.any_eq_true.2 ⟨_,?_,hp⟩) ha
  rw [← ev_get h1]
  exact mem_take_ev h1 q
 ·exact q
 ·have := List.not_of_lt_findIdx q
  rw [← ev_get hs] at this
  simp [says,h2] at this
theorem spk_say {h:List Ev} (hg:Good h h.length) {s:Nat} (hs:s < h.length) (h2:(ev h s).2.1 = 2):spk h (ev h s).2.2 = W h s := by
 unfold spk
 rw [sayAt_say hg hs h2]
def wnum (h:List Ev) (s:Nat):Int := hc h (W h s) (W h s) (s + 1)
theorem wnum_eq {h:List Ev} (hg:Good h h.length) {s:Nat} (hs:s < h.length) (h2:(ev h s).2.1 = 2):wnum h s = hc h (W h s) (W h s) s + 1 := by
 unfold wnum
 rw [hc_step,if_pos ⟨rfl,by omega,spk_say hg hs h2⟩]
theorem wnum_lt {h:List Ev} (hg:Good h h.length) {i k:Nat} (hk:k < h.length) (h2:(ev h k).2.1 = 2) (hik:i < k) (hw:W h i = W h k):wnum h i < wnum h k := by
 rw [wnum_eq hg hk h2]
 unfold wnum
 rw [hw]
 have := hc_mono h (W h k) (W h k) (show i + 1 ≤ k by omega)
 omega
theorem wnum_inj {h:List Ev} (hg:Good h h.length) {i k:Nat} (hi:i < h.length) (hk:k < h.length) (hi2:(ev h i).2.1 = 2) (hk2:(ev h k).2.1 = 2) (hw:W h i = W h k) (he:wnum h i = wnum h k):i = k := by
 rcases Nat.lt_trichotomy i k with q | q | q
 ·have := wnum_lt hg hk hk2 q hw; omega
 ·exact q
 ·have := wnum_lt hg hi hi2 q hw.symm; omega
def rdyE (h:List Ev) (n:Nat):Prop := ∀ a,a < 5 → if a = spk h (ev h n).2.2 then hc h a a (sayAt h (ev h n).2.2 + 1) = hc h (W h n) a n + 1 else hc h (spk h (ev h n).2.2) a (sayAt h (ev h n).2.2 + 1) ≤ hc h (W h n) a n
def Turn (h:List Ev):Prop := ∀ n,n < h.length → (ev h n).2.1 ≠ 1 ∧ ((ev h n).2.1 = 3 → rdyE h n)
theorem spk_lt {h:List Ev} (hg:Good h h.length) {n:Nat} (hn:n < h.length) (h3:(ev h n).2.1 = 3):spk h (ev h n).2.2 < 5 := by
 have := sayAt_lt hg hn h3
 exact W_lt hg (by omega)
theorem hear_say {h:List Ev} (hg:Good h h.length) {n:Nat} (hn:n < h.length) (h3:(ev h n).2.1 = 3):sayAt h (ev h n).2.2 < n ∧ (ev h (sayAt h (ev h n).2.2)).2.1 = 2 ∧ (ev h (sayAt h (ev h n).2.2)).2.2 = (ev h n).2.2 := by
 have := sayAt_lt hg hn h3
 refine ⟨this.1,?_⟩
 have q := this.2.2
 simpa [says] using q
theorem ev_what {h:List Ev} (hg:Good h h.length) (ht:Turn h) {n:Nat} (hn:n < h.length):(ev h n).2.1 = 2 ∨ (ev h n).2.1 = 3 := by
 rcases isOne_what (good_one hg hn) with ⟨a,_⟩ | ⟨a,_⟩
 ·exact absurd a (ht n hn).1
 ·exact a
theorem have_of {h:List Ev} (hg:Good h h.length) (ht:Turn h) {s m:Nat} (hs:s < h.length) (h2:(ev h s).2.1 = 2) (hm:m ≠ W h s):∀ n,n ≤ h.length → wnum h s ≤ hc h m (W h s) n → ∃ j,j < n ∧ W h j = m ∧ (ev h j).2.1 = 3 ∧ (ev h j).2.2 = (ev h s).2.2 := by
 intro n
 induction n with
 | zero =>
  intro _ hle
  have := wnum_eq hg hs h2
  have := hc_nonneg h (W h s) (W h s) s
  have e0:hc h m (W h s) 0 = 0 := rfl
  omega
 | succ n ih =>
  intro hn hle
  by_cases q:wnum h s ≤ hc h m (W h s) n
  ·obtain ⟨j,hj,r⟩ := ih (by omega) q
   exact ⟨j,by omega,r⟩
  ·rw [hc_step] at hle
   by_cases hx:W h n = m ∧ (ev h n).2.1 ≠ 1 ∧ spk h (ev h n).2.2 = W h s
   ·rw [if_pos hx] at hle
    obtain ⟨x1,x2,x3⟩ := hx
    have h3:(ev h n).2.1 = 3 := by
     rcases ev_what hg ht (show n < h.length by omega) with a | a
     ·have := spk_say hg (show n < h.length by omega) a
      rw [x3,x1] at this
      exact absurd this.symm hm
     ·exact a
    obtain ⟨y1,y2,y3⟩ := hear_say hg (show n < h.length by omega) h3
    have hr := (ht n (by omega)).2 h3 (W h s) (W_lt hg hs)
    rw [if_pos x3.symm,x1] at hr
    have e1:W h (sayAt h (ev h n).2.2) = W h s := x3
    have e2:wnum h (sayAt h (ev h n).2.2) = wnum h s := by
     unfold wnum at *
     rw [e1]
     omega
    have := wnum_inj hg (by omega) hs y2 h2 e1 e2
    exact ⟨n,by omega,x1,h3,by rw [← y3,this]⟩
   ·rw [if_neg hx] at hle
    omega
theorem reach_num {h:List Ev} (hg:Good h h.length) (ht:Turn h) {i:Nat} (hi:i < h.length) (h2:(ev h i).2.1 = 2):∀ k,k < h.length → own h i ≤ (row h k).getD (W h i) 0 → wnum h i ≤ hc h (W h k) (W h i) (k + 1) := by
 intro k
 induction k using Nat.strongRecOn with
 | _ k ih =>
  intro hk hr
  by_cases hw:W h k = W h i
  ·have := (dom hg k hk i hr).1
   rw [hw]
   exact hc_mono h _ _ (by omega)
  ·rw [row_get hg hk,if_neg hw] at hr
   have hlast:own h i ≤ (last h k (W h k)).getD (W h i) 0 → wnum h i ≤ hc h (W h k) (W h i) (k + 1) := by
    intro q
    rcases last_spec h (W h k) k with ⟨j,hj,hwj,_,e⟩ | ⟨_,e⟩
    ·rw [e] at q
     have := ih j hj (by omega) q
     rw [hwj] at this
     exact Int.le_trans this (hc_mono h _ _ (by omega))
    ·rw [e] at q
     have h1 := own_pos h i
     have h0:zero5.getD (W h i) 0 = 0 := by
      have := W_lt hg hi
      rcases hq:W h i with _ | _ | _ | _ | _ | z <;> first | rfl | omega
     omega
   by_cases h3:(ev h k).2.1 = 3
   ·rw [if_pos h3] at hr
    by_cases q:own h i ≤ (last h k (W h k)).getD (W h i) 0
    ·exact hlast q
    ·have q2:own h i ≤ (row h (sayAt h (ev h k).2.2)).getD (W h i) 0 := by omega
     obtain ⟨y1,y2,y3⟩ := hear_say hg hk h3
     have h4 := ih _ y1 (by omega) q2
     have h5 := (ht k hk).2 h3 (W h i) (W_lt hg hi)
     have e1:W h (sayAt h (ev h k).2.2) = spk h (ev h k).2.2 := rfl
     rw [e1] at h4
     by_cases e:W h i = spk h (ev h k).2.2
     ·rw [if_pos e] at h5
      rw [hc_step,if_pos ⟨rfl,by omega,e.symm⟩]
      rw [← e] at h4
      omega
     ·rw [if_neg e] at h5
      have := hc_mono h (W h k) (W h i) (show k ≤ k + 1 by omega)
      omega
   ·rw [if_neg h3] at hr
    exact hlast (by omega)
theorem turn_caus {h:List Ev} (hg:Good h h.length) (ht:Turn h):causB h = true := by
 unfold causB
 rw [keep_iff]
 intro i k hik hk hi2 hk2 hb
 have hi:i < h.length := by omega
 rw [hv5_iff hg]
 intro j hj hne hwho hword
 have hr := (bef_iff hg hi).1 hb
 have h1 := reach_num hg ht hi hi2 k hk hr.2
 have h3:(ev h j).2.1 = 3 := by
  rcases ev_what hg ht hj with a | a
  ·have e1 := sayAt_say hg hj a
   have e2 := sayAt_say hg hk hk2
   rw [hword,e2] at e1
   rw [e1] at hwho
   exact absurd rfl hwho
  ·exact a
 have es:sayAt h (ev h j).2.2 = k := by rw [hword]; exact sayAt_say hg hk hk2
 have ep:spk h (ev h j).2.2 = W h k := by unfold spk; rw [es]
 have h5 := (ht j hj).2 h3 (W h i) (W_lt hg hi)
 rw [ep,es] at h5
 have h6:wnum h i ≤ hc h (W h j) (W h i) j := by
  by_cases e:W h i = W h k
  ·rw [if_pos e] at h5
   have h7 := wnum_lt hg hk hk2 hik e
   have h8:wnum h k = hc h (W h i) (W h i) (k + 1) := by unfold wnum; rw [e]
   omega
  ·rw [if_neg e] at h5
   omega
 have hjw := W_cast hg hj
 by_cases e:W h j = W h i
 ·have hij:i < j := by
   rcases Nat.lt_or_ge i j with q | q
   ·exact q
   ·exfalso
    rw [e] at h6
    have := hc_mono h (W h i) (W h i) q
    have := wnum_eq hg hi hi2
    omega
  refine ⟨i,hij,?_,rfl⟩
  have hiw := W_cast hg hi
  have hx:(ev h i).1 = (ev h j).1 := by rw [← hiw,← hjw,e]
  simp [has,hx,hi2]
 ·obtain ⟨m,hm,a,b,c⟩ := have_of hg ht hi hi2 e j (by omega) h6
  refine ⟨m,hm,?_,c⟩
  have hmw := W_cast hg (show m < h.length by omega)
  have hx:(ev h m).1 = (ev h j).1 := by rw [← hmw,← hjw,a]
  simp [has,hx,b]
end Go.Proofs.YtdmniblonikjlakGreatDoor.His


namespace Go.Proofs.YtdmniblonikjlakGreatDoor.His
set_option linter.unusedVariables false
theorem ev_app {h x:List Ev} {i:Nat} (hi:i < h.length):ev (h ++ x) i = ev h i := by
 simp [ev,List.getD,List.getElem?_append_left hi]
theorem ev_snoc (h:List Ev) (e:Ev):ev (h ++ [e]) h.length = e := by simp [ev,List.getD]
theorem W_app {h x:List Ev} {i:Nat} (hi:i < h.length):W (h ++ x) i = W h i := by unfold W; rw [ev_app hi]
theorem sayAt_app {h x:List Ev} {w:Int} (hs:h.any (says w) = true):sayAt (h ++ x) w = sayAt h w := by
 unfold sayAt
 rw [List.findIdx_append]
 obtain ⟨e,he,hp⟩ := List.any_eq_true.1 hs
 exact if_pos (List.findIdx_lt_length.2 ⟨e,he,hp⟩)
theorem said_any {h:List Ev} (hg:Good h h.length) {i:Nat} (hi:i < h.length) (h1:(ev h i).2.1 ≠ 1):h.any (says (ev h i).2.2) = true := by
 rcases isOne_what (good_one hg hi) with ⟨a,_⟩ | ⟨a | a,_⟩
 ·exact absurd a h1
 ·exact List.any_eq_true.2 ⟨ev h i,by have q := mem_take_ev hi hi; rwa [List.take_length] at q,by simp [says,a]⟩
 ·have := good_said hg hi a
  obtain ⟨x,hx,hp⟩ := List.any_eq_true.1 this
  exact List.any_eq_true.2 ⟨x,List.mem_of_mem_take hx,hp⟩
theorem spk_app {h x:List Ev} {w:Int} (hs:h.any (says w) = true):spk (h ++ x) w = spk h w := by
 unfold spk
 rw [sayAt_app hs]
 obtain ⟨e,he,hp⟩ := List.any_eq_true.1 hs
 exact W_app (List.findIdx_lt_length.2 ⟨e,he,hp⟩)
theorem hc_app {h x:List Ev} (hg:Good h h.length) (m a:Nat):∀ n,n ≤ h.length → hc (h ++ x) m a n = hc h m a n := by
 intro n
 induction n with
 | zero => intro _; rfl
 | succ n ih =>
  intro hn
  have hn':n < h.length := hn
  rw [hc_step,hc_step,ih (by omega),W_app hn',ev_app hn']
  by_cases h1:(ev h n).2.1 = 1
  ·rw [if_neg (fun q => q.2.1 h1),if_neg (fun q => q.2.1 h1)]
  ·rw [spk_app (said_any hg hn' h1)]
theorem good_snoc {h:List Ev} (hg:Good h h.length) {e:Ev} (he:next h e = 0):Good (h ++ [e]) (h ++ [e]).length := by
 intro i hi
 rw [List.length_append] at hi
 simp at hi
 rcases Nat.lt_or_ge i h.length with q | q
 ·rw [ev_app q,List.take_append_of_le_length (by omega)]
  exact hg i q
 ·obtain rfl:i = h.length := by omega
  rw [ev_snoc,List.take_left']
  ·exact he
  ·rfl
theorem rdyE_app {h x:List Ev} (hg:Good h h.length) {n:Nat} (hn:n < h.length) (h3:(ev h n).2.1 = 3) (hr:rdyE h n):rdyE (h ++ x) n := by
 intro a ha
 have hs := said_any hg hn (by omega)
 have hl := (hear_say hg hn h3).1
 have := hr a ha
 rw [ev_app hn,spk_app hs,sayAt_app hs,hc_app hg _ _ _ (by omega),hc_app hg _ _ _ (by omega),hc_app hg _ _ _ (by omega),W_app hn]
 exact this
theorem turn_snoc {h:List Ev} (hg:Good h h.length) (ht:Turn h) {e:Ev} (h1:e.2.1 ≠ 1) (he:e.2.1 = 3 → rdyE (h ++ [e]) h.length):Turn (h ++ [e]) := by
 intro n hn
 rw [List.length_append] at hn
 simp at hn
 rcases Nat.lt_or_ge n h.length with q | q
 ·rw [ev_app q]
  exact ⟨(ht n q).1,fun h3 => rdyE_app hg q h3 ((ht n q).2 h3)⟩
 ·obtain rfl:n = h.length := by omega
  rw [ev_snoc]
  exact ⟨h1,he⟩
theorem hc_le {h:List Ev} (hg:Good h h.length) (ht:Turn h) (m:Nat) {a:Nat} (ha:a < 5):∀ n,n ≤ h.length → hc h m a n ≤ hc h a a n := by
 intro n
 induction n with
 | zero => intro _; exact Int.le_refl _
 | succ n ih =>
  intro hn
  have hn':n < h.length := hn
  have := ih (by omega)
  have hm := hc_mono h a a (show n ≤ n + 1 by omega)
  by_cases hx:W h n = m ∧ (ev h n).2.1 ≠ 1 ∧ spk h (ev h n).2.2 = a
  ·rcases ev_what hg ht hn' with h2 | h3
   ·have := spk_say hg hn' h2
    have e:a = m := by rw [← hx.1,← hx.2.2,this]
    rw [e]
    exact Int.le_refl _
   ·have hr := (ht n hn').2 h3 a ha
    rw [if_pos hx.2.2.symm,hx.1] at hr
    have hl := (hear_say hg hn' h3).1
    have := hc_mono h a a (show sayAt h (ev h n).2.2 + 1 ≤ n by omega)
    rw [hc_step h m a n,if_pos hx]
    omega
  ·rw [hc_step h m a n,if_neg hx]
   omega
def nS (h:List Ev):Nat → Int
 | 0 => 0
 | n + 1 => nS h n + if (ev h n).2.1 = 2 then 1 else 0
def nH (h:List Ev):Nat → Int
 | 0 => 0
 | n + 1 => nH h n + if (ev h n).2.1 = 3 then 1 else 0
def S5 (f:Nat → Int):Int := f 0 + f 1 + f 2 + f 3 + f 4
theorem S5_step {f g:Nat → Int} {c:Nat} (hc:c < 5) (h:∀ i,i < 5 → g i = f i + if i = c then 1 else 0):S5 g = S5 f + 1 := by
 have h0 := h 0 (by omega)
 have h1 := h 1 (by omega)
 have h2 := h 2 (by omega)
 have h3 := h 3 (by omega)
 have h4 := h 4 (by omega)
 unfold S5
 rcases c with _ | _ | _ | _ | _ | c
 ·simp at h0 h1 h2 h3 h4; omega
 ·simp at h0 h1 h2 h3 h4; omega
 ·simp at h0 h1 h2 h3 h4; omega
 ·simp at h0 h1 h2 h3 h4; omega
 ·simp at h0 h1 h2 h3 h4; omega
 ·omega
theorem S5_same {f g:Nat → Int} (h:∀ i,i < 5 → g i = f i):S5 g = S5 f := by
 unfold S5
 rw [h 0 (by omega),h 1 (by omega),h 2 (by omega),h 3 (by omega),h 4 (by omega)]
theorem nS_hc {h:List Ev} (hg:Good h h.length) (ht:Turn h):∀ n,n ≤ h.length → nS h n = S5 fun a => hc h a a n := by
 intro n
 induction n with
 | zero => intro _; rfl
 | succ n ih =>
  intro hn
  have hn':n < h.length := hn
  show nS h n + _ = _
  rw [ih (by omega)]
  rcases ev_what hg ht hn' with h2 | h3
  ·rw [if_pos h2]
   refine (S5_step (c := W h n) (W_lt hg hn') fun i hi => ?_).symm
   show hc h i i (n + 1) = hc h i i n + _
   rw [hc_step]
   by_cases e:i = W h n
   ·rw [if_pos ⟨e.symm,by omega,by rw [spk_say hg hn' h2,e]⟩,if_pos e]
   ·rw [if_neg (fun q => e q.1.symm),if_neg e]
  ·rw [if_neg (by omega),Int.add_zero]
   refine (S5_same fun i hi => ?_).symm
   show hc h i i (n + 1) = hc h i i n
   rw [hc_step,if_neg,Int.add_zero]
   rintro ⟨q1,_,q2⟩
   have hx := hear_say hg hn' h3
   have hnx := hg n hn'
   have e1:(h.take n).any (fun y => y == ((ev h n).1,2,(ev h n).2.2)) = true := by
    refine List.any_eq_true.2 ⟨ev h (sayAt h (ev h n).2.2),mem_take_ev (by omega) hx.1,?_⟩
    have a1 := W_cast hg (show sayAt h (ev h n).2.2 < h.length by omega)
    have a2 := W_cast hg hn'
    have a3:W h (sayAt h (ev h n).2.2) = W h n := by rw [q1]; exact q2
    have:ev h (sayAt h (ev h n).2.2) = ((ev h n).1,2,(ev h n).2.2) := Prod.ext (by rw [← a1,← a2,a3]) (Prod.ext hx.2.1 hx.2.2)
    simp [this]
   unfold next at hnx
   rw [if_neg (by rw [good_one hg hn']; decide),if_neg (by omega),if_neg (by omega)] at hnx
   split at hnx
   ·omega
   ·split at hnx
    ·omega
    ·first | omega | (rw [if_pos e1] at hnx; omega)
theorem nH_hc {h:List Ev} (hg:Good h h.length) (ht:Turn h):∀ n,n ≤ h.length → nH h n + nS h n = S5 fun m => S5 fun a => hc h m a n := by
 intro n
 induction n with
 | zero => intro _; rfl
 | succ n ih =>
  intro hn
  have hn':n < h.length := hn
  have i1 := ih (by omega)
  have e1:nH h (n + 1) + nS h (n + 1) = nH h n + nS h n + 1 := by
   show nH h n + _ + (nS h n + _) = _
   rcases ev_what hg ht hn' with h2 | h3
   ·rw [if_neg (by omega),if_pos h2]; omega
   ·rw [if_pos h3,if_neg (by omega)]; omega
  have hsp:spk h (ev h n).2.2 < 5 := by
   rcases ev_what hg ht hn' with h2 | h3
   ·rw [spk_say hg hn' h2]; exact W_lt hg hn'
   ·exact spk_lt hg hn' h3
  rw [e1,i1]
  refine (S5_step (c := W h n) (W_lt hg hn') fun m hm => ?_).symm
  by_cases e:m = W h n
  ·rw [if_pos e]
   refine S5_step (c := spk h (ev h n).2.2) hsp fun a ha => ?_
   show hc h m a (n + 1) = hc h m a n + _
   rw [hc_step]
   by_cases e2:a = spk h (ev h n).2.2
   ·rw [if_pos ⟨e.symm,(ht n hn').1,e2.symm⟩,if_pos e2]
   ·rw [if_neg (fun q => e2 q.2.2.symm),if_neg e2]
  ·rw [if_neg e,Int.add_zero]
   refine S5_same fun a ha => ?_
   show hc h m a (n + 1) = hc h m a n
   rw [hc_step,if_neg (fun q => e q.1.symm),Int.add_zero]
theorem hc_zero {h:List Ev} (hg:Good h h.length) (ht:Turn h) {n0:Nat} (hw:∀ j,j < h.length → W h j < n0) {m a:Nat} (hma:n0 ≤ m ∨ n0 ≤ a):∀ n,n ≤ h.length → hc h m a n = 0 := by
 intro n
 induction n with
 | zero => intro _; rfl
 | succ n ih =>
  intro hn
  have hn':n < h.length := hn
  rw [hc_step,ih (by omega),if_neg]
  ·rfl
  ·rintro ⟨q1,q2,q3⟩
   have h1 := hw n hn'
   have h2:spk h (ev h n).2.2 < n0 := by
    rcases ev_what hg ht hn' with e | e
    ·rw [spk_say hg hn' e]; exact h1
    ·have := (hear_say hg hn' e).1
     exact hw _ (by omega)
   omega
theorem heard_le {h:List Ev} (hg:Good h h.length) (ht:Turn h) {n0:Nat} (h2:2 ≤ n0) (h5:n0 ≤ 5) (hw:∀ j,j < h.length → W h j < n0):nH h h.length ≤ nS h h.length * ((n0:Int) - 1) := by
 have e1 := nS_hc hg ht h.length (Nat.le_refl _)
 have e2 := nH_hc hg ht h.length (Nat.le_refl _)
 have le:∀ m a,a < 5 → hc h m a h.length ≤ hc h a a h.length := fun m a ha => hc_le hg ht m ha h.length (Nat.le_refl _)
 have z:∀ m a,n0 ≤ m ∨ n0 ≤ a → hc h m a h.length = 0 := fun m a q => hc_zero hg ht hw q h.length (Nat.le_refl _)
 obtain ⟨f,ef⟩:∃ f:Nat → Nat → Int,f = fun m a => hc h m a h.length := ⟨_,rfl⟩
 have le':∀ m a,a < 5 → f m a ≤ f a a := by rw [ef]; exact le
 have z':∀ m a,n0 ≤ m ∨ n0 ≤ a → f m a = 0 := by rw [ef]; exact z
 have e1':nS h h.length = S5 fun a => f a a := by rw [ef]; exact e1
 have e2':nH h h.length + nS h h.length = S5 fun m => S5 fun a => f m a := by rw [ef]; exact e2
 clear e1 e2 le z ef
 unfold S5 at e1' e2'
 have l01 := le' 0 1 (by omega)
 have l02 := le' 0 2 (by omega)
 have l03 := le' 0 3 (by omega)
 have l04 := le' 0 4 (by omega)
 have l10 := le' 1 0 (by omega)
 have l12 := le' 1 2 (by omega)
 have l13 := le' 1 3 (by omega)
 have l14 := le' 1 4 (by omega)
 have l20 := le' 2 0 (by omega)
 have l21 := le' 2 1 (by omega)
 have l23 := le' 2 3 (by omega)
 have l24 := le' 2 4 (by omega)
 have l30 := le' 3 0 (by omega)
 have l31 := le' 3 1 (by omega)
 have l32 := le' 3 2 (by omega)
 have l34 := le' 3 4 (by omega)
 have l40 := le' 4 0 (by omega)
 have l41 := le' 4 1 (by omega)
 have l42 := le' 4 2 (by omega)
 have l43 := le' 4 3 (by omega)
 have hn:n0 = 2 ∨ n0 = 3 ∨ n0 = 4 ∨ n0 = 5 := by omega
 rcases hn with rfl | rfl | rfl | rfl
 ·have z2 := fun a => z' 2 a (by omega)
  have z3 := fun a => z' 3 a (by omega)
  have z4 := fun a => z' 4 a (by omega)
  have y2 := fun a => z' a 2 (by omega)
  have y3 := fun a => z' a 3 (by omega)
  have y4 := fun a => z' a 4 (by omega)
  simp only [z2,z3,z4,y2,y3,y4] at e1' e2'
  omega
 ·have z3 := fun a => z' 3 a (by omega)
  have z4 := fun a => z' 4 a (by omega)
  have y3 := fun a => z' a 3 (by omega)
  have y4 := fun a => z' a 4 (by omega)
  simp only [z3,z4,y3,y4] at e1' e2'
  omega
 ·have z4 := fun a => z' 4 a (by omega)
  have y4 := fun a => z' a 4 (by omega)
  simp only [z4,y4] at e1' e2'
  omega
 ·dsimp only at e1' e2'
  omega
end Go.Proofs.YtdmniblonikjlakGreatDoor.His


namespace Go.Proofs.YtdmniblonikjlakGreatDoor.Cau
open Vec (code)
abbrev Sd := Int × Int × List Int
def inc (K:List Int) (who:Int):List Int := K.set who.toNat (K.getD who.toNat 0 + 1)
def rdyAt (K:List Int) (s:Sd) (i:Nat):Bool := if (i:Int) = s.1 then decide (s.2.2.getD i 0 = K.getD i 0 + 1) else decide (s.2.2.getD i 0 ≤ K.getD i 0)
theorem rdyAt_own {K:List Int} {s:Sd} {i:Nat} (h:(i:Int) = s.1):rdyAt K s i = decide (s.2.2.getD i 0 = K.getD i 0 + 1) := if_pos h
theorem rdyAt_other {K:List Int} {s:Sd} {i:Nat} (h:¬ (i:Int) = s.1):rdyAt K s i = decide (s.2.2.getD i 0 ≤ K.getD i 0) := if_neg h
def rdy (K:List Int) (s:Sd):Bool := (List.range 5).all (rdyAt K s)
theorem rdy_iff {K:List Int} {s:Sd}:rdy K s = true ↔ ∀ i,i < 5 → rdyAt K s i = true := by
 simp [rdy,List.all_eq_true]
theorem rdy_no {K:List Int} {s:Sd} {i:Nat} (hi:i < 5) (h:rdyAt K s i = false):rdy K s = false := by
 rw [Bool.eq_false_iff]
 intro q
 rw [rdy_iff.1 q i hi] at h
 cases h
def same (s c:Sd):Bool := decide (c.1 = s.1) && decide (c.2.2.getD s.1.toNat 0 = s.2.2.getD s.1.toNat 0)
def sdBad (s:Sd):Bool := decide (s.1 < 0) || decide (4 < s.1) || decide (s.2.1 < 1) || decide (30 < s.2.1)
def ckC (me:Int) (K:List Int) (ws:List Sd) (s:Sd):Int :=
 if sdBad s = true then 1 else if code s.2.2 ≠ 0 then code s.2.2 else if s.1 = me then 3 else if s.2.2.getD s.1.toNat 0 = 0 then 1 else if s.2.2.getD s.1.toNat 0 ≤ K.getD s.1.toNat 0 then 7 else
 if ws.any (same s) = true then 7 else if rdy K s = false ∧ 40 ≤ ws.length then 4 else 0
def nil:Sd := (0,0,[])
def sd (ws:List Sd) (i:Nat):Sd := ws.getD i nil
def drain:Nat → List Int → List Sd → List Int × List Int × List Sd
 | 0,K,ws => ([],K,ws)
 | f + 1,K,ws => match ws.findIdx? (rdy K) with
  | none => ([],K,ws)
  | some i => ((sd ws i).2.1 :: (drain f (inc K (sd ws i).1) (ws.eraseIdx i)).1,(drain f (inc K (sd ws i).1) (ws.eraseIdx i)).2)
theorem drain_stop {K:List Int} {ws:List Sd} (hn:ws.findIdx? (rdy K) = none):∀ f,drain f K ws = ([],K,ws)
 | 0 => rfl
 | f + 1 => by simp [drain,hn]
theorem drain_go {K:List Int} {ws:List Sd} {i f:Nat} (hs:ws.findIdx? (rdy K) = some i):drain (f + 1) K ws = ((sd ws i).2.1 :: (drain f (inc K (sd ws i).1) (ws.eraseIdx i)).1,(drain f (inc K (sd ws i).1) (ws.eraseIdx i)).2) := by
 simp [drain,hs]
theorem idx_lt {K:List Int} {ws:List Sd} {i:Nat} (hs:ws.findIdx? (rdy K) = some i):i < ws.length := by
 rw [List.findIdx?_eq_some_iff_getElem] at hs
 exact hs.1
theorem erase_len {ws:List Sd} {i:Nat} (hi:i < ws.length):(ws.eraseIdx i).length + 1 = ws.length := by
 rw [List.length_eraseIdx,if_pos hi]
 omega
def run (K:List Int) (ws:List Sd):List Int × List Int × List Sd := drain ws.length K ws
theorem run_stop {K:List Int} {ws:List Sd} (hn:ws.findIdx? (rdy K) = none):run K ws = ([],K,ws) := drain_stop hn _
theorem run_go {K:List Int} {ws:List Sd} {i:Nat} (hs:ws.findIdx? (rdy K) = some i):run K ws = ((sd ws i).2.1 :: (run (inc K (sd ws i).1) (ws.eraseIdx i)).1,(run (inc K (sd ws i).1) (ws.eraseIdx i)).2) := by
 have hl := erase_len (idx_lt hs)
 unfold run
 rw [← hl,drain_go hs]
theorem idx_none {K:List Int} {ws:List Sd} (h:∀ j,j < ws.length → rdy K (sd ws j) = false):ws.findIdx? (rdy K) = none := by
 rw [List.findIdx?_eq_none_iff]
 intro c hc
 obtain ⟨j,hj,rfl⟩ := List.getElem_of_mem hc
 have := h j hj
 simpa [sd,List.getD,hj] using this
theorem idx_some {K:List Int} {ws:List Sd} {i:Nat} (hi:i < ws.length) (hr:rdy K (sd ws i) = true) (h:∀ j,j < i → rdy K (sd ws j) = false):ws.findIdx? (rdy K) = some i := by
 rw [List.findIdx?_eq_some_iff_getElem]
 refine ⟨hi,?_,fun j hj => ?_⟩
 ·simpa [sd,List.getD,hi] using hr
 ·have := h j hj
  have hjl:j < ws.length := by omega
  simpa [sd,List.getD,hjl] using this
def ctk (me:Int) (K:List Int) (ws:List Sd) (s:Sd):List Int × List Int × List Sd :=
 if ckC me K ws s = 0 then (if rdy K s = true then (s.2.1 :: (run (inc K s.1) ws).1,(run (inc K s.1) ws).2) else ([],K,ws ++ [s])) else ([],K,ws)
structure SdOk (s:Sd):Prop where
 who:0 ≤ s.1 ∧ s.1 ≤ 4
 word:1 ≤ s.2.1 ∧ s.2.1 ≤ 30
 clk:code s.2.2 = 0
structure CInv (me:Int) (K:List Int) (ws:List Sd):Prop where
 me:0 ≤ me ∧ me ≤ 4
 five:K.length = 5
 num:∀ j,j < 5 → 0 ≤ K.getD j 0 ∧ K.getD j 0 ≤ 1000000
 ok:∀ s ∈ ws,SdOk s
 len:ws.length ≤ 40
end Go.Proofs.YtdmniblonikjlakGreatDoor.Cau


namespace Go.Proofs.YtdmniblonikjlakGreatDoor.Cas
open Net (Pk pk isIn dropC dropL twC twL)
open Cau (Sd inc ctk)
open His (Ev)
structure G where
 n:Nat
 K:Nat → List Int
 ws:Nat → List Sd
 said:Int → Option Sd
 l:List Pk
 many:Nat
 H:List Ev
def start (n:Nat):G := ⟨n,fun _ => [0,0,0,0,0],fun _ => [],fun _ => none,[],0,[]⟩
def sayC (g:G) (who word:Int):Int := if who < 0 ∨ (g.n:Int) ≤ who ∨ word < 1 ∨ 30 < word then 1 else if (g.said word).isSome = true then 7 else if 40 < g.l.length + (g.n - 1) ∨ 60 < (g.many + 1) * g.n then 4 else 0
def pks (n:Nat) (who word:Int):List Pk := ((List.range n).filter fun i:Nat => decide ((i:Int) ≠ who)).map fun i:Nat => (who,(i:Int),word)
def say (g:G) (who word:Int):G :=
 if sayC g who word = 0 then
  { n := g.n,K := fun i => if i = who.toNat then inc (g.K i) who else g.K i,ws := g.ws,said := fun w => if w = word then some (who,word,inc (g.K who.toNat) who) else g.said w,l := g.l ++ pks g.n who word,many := g.many + 1,H := g.H ++ [(who,2,word)] }
 else g
def tk (g:G) (p:Pk):List Int × List Int × List Sd := ctk p.2.1 (g.K p.2.1.toNat) (g.ws p.2.1.toNat) ((g.said p.2.2).getD Cau.nil)
def upd (g:G) (m:Nat) (K':List Int) (ws':List Sd) (H':List Ev):G := { n := g.n,K := fun i => if i = m then K' else g.K i,ws := fun i => if i = m then ws' else g.ws i,said := g.said,l := g.l,many := g.many,H := H' }
def hear (m:Int) (l:List Int):List Ev := l.map fun w => (m,3,w)
def setL (g:G) (l':List Pk):G := { n := g.n,K := g.K,ws := g.ws,said := g.said,l := l',many := g.many,H := g.H }
def giveC (g:G) (i:Int):Int := if isIn g.l i = true then 0 else 1
def giveW (g:G) (i:Int):List Int := if isIn g.l i = true then (tk g (pk g.l i.toNat)).1 else []
def give (g:G) (i:Int):G :=
 if isIn g.l i = true then setL (upd g (pk g.l i.toNat).2.1.toNat (tk g (pk g.l i.toNat)).2.1 (tk g (pk g.l i.toNat)).2.2 (g.H ++ hear (pk g.l i.toNat).2.1 (tk g (pk g.l i.toNat)).1)) (g.l.eraseIdx i.toNat)
 else g
def drop (g:G) (i:Int):G := setL g (dropL g.l i)
def twice (g:G) (i:Int):G := setL g (twL g.l i)
end Go.Proofs.YtdmniblonikjlakGreatDoor.Cas


namespace Go.Proofs.YtdmniblonikjlakGreatDoor.Cas
open Net (Pk pk isIn dropC dropL twC twL NInv pkBad)
open Cau (Sd inc ctk rdy rdyAt ckC same CInv SdOk)
open His
open Vec (code)
set_option linter.unusedVariables false
structure GI0 (g:G):Prop where
 n2:2 ≤ g.n ∧ g.n ≤ 5
 good:His.Good g.H g.H.length
 turn:Turn g.H
 kk:∀ m,m < 5 → (g.K m).length = 5 ∧ ∀ a,a < 5 → (g.K m).getD a 0 = hc g.H m a g.H.length
 who:∀ j,j < g.H.length → W g.H j < g.n
 sd:∀ w s,g.said w = some s → ∃ j,j < g.H.length ∧ ev g.H j = (s.1,2,w) ∧ s.2.1 = w ∧ s.2.2.length = 5 ∧ ∀ a,a < 5 → s.2.2.getD a 0 = hc g.H (W g.H j) a (j + 1)
 ds:∀ j,j < g.H.length → (ev g.H j).2.1 = 2 → (g.said (ev g.H j).2.2).isSome = true
 wt:∀ m s,s ∈ g.ws m → g.said s.2.1 = some s ∧ s.1 ≠ (m:Int) ∧ m < g.n ∧ (g.K m).getD s.1.toNat 0 < s.2.2.getD s.1.toNat 0
 uq:∀ m,(g.ws m).Pairwise fun a b => a.2.1 ≠ b.2.1
 mn:(g.many:Int) = nS g.H g.H.length
 m60:g.many * g.n ≤ 60
theorem start_inv {n:Nat} (h2:2 ≤ n) (h5:n ≤ 5):GI0 (start n) := by
 refine ⟨⟨h2,h5⟩,fun i hi => absurd hi (by simp [start]),fun i hi => absurd hi (by simp [start]),fun m hm => ⟨rfl,fun a ha => ?_⟩,fun j hj => absurd hj (by simp [start]),fun w s h => (by cases h),fun j hj => absurd hj (by simp [start]),fun m s hs => absurd hs (by simp [start]),fun m => List.Pairwise.nil,rfl,by simp [start]⟩
 show ([0,0,0,0,0]:List Int).getD a 0 = 0
 rcases a with _ | _ | _ | _ | _ | a <;> first | rfl | omega
variable {g:G}
theorem GI0.word (h:GI0 g) {w:Int} {s:Sd} (hs:g.said w = some s):∃ j,j < g.H.length ∧ ev g.H j = (s.1,2,w) ∧ s.2.1 = w ∧ s.1 = (W g.H j:Int) ∧ W g.H j < g.n ∧ sayAt g.H w = j ∧ g.H.any (says w) = true ∧ spk g.H w = W g.H j ∧ (∀ a,a < 5 → s.2.2.getD a 0 = hc g.H (W g.H j) a (j + 1)) ∧ s.2.2.getD s.1.toNat 0 = wnum g.H j ∧ (ev g.H j).2.1 = 2 := by
 obtain ⟨j,hj,he,h1,_,hcl⟩ := h.sd w s hs
 have h2:(ev g.H j).2.1 = 2 := by rw [he]
 have hw:(ev g.H j).2.2 = w := by rw [he]
 have hW := W_cast h.good hj
 have e1:s.1 = (W g.H j:Int) := by rw [hW,he]
 have hsa:sayAt g.H w = j := by rw [← hw]; exact sayAt_say h.good hj h2
 refine ⟨j,hj,he,h1,e1,h.who j hj,hsa,?_,?_,hcl,?_,h2⟩
 ·rw [← hw]; exact said_any h.good hj (by omega)
 ·unfold spk; rw [hsa]
 ·rw [e1,Int.toNat_natCast,hcl _ (W_lt h.good hj)]
  rfl
theorem GI0.same_word (h:GI0 g) {w w':Int} {s s':Sd} (hs:g.said w = some s) (hs':g.said w' = some s') (h1:s'.1 = s.1) (h2:s'.2.2.getD s.1.toNat 0 = s.2.2.getD s.1.toNat 0):w' = w := by
 obtain ⟨j,hj,he,_,e1,_,_,_,_,_,en,hj2⟩ := h.word hs
 obtain ⟨j',hj',he',_,e1',_,_,_,_,_,en',hj2'⟩ := h.word hs'
 have hW:W g.H j' = W g.H j := by have:((W g.H j':Nat):Int) = (W g.H j:Nat) := by rw [← e1',← e1,h1]
                                  omega
 rw [h1] at en'
 have := wnum_inj h.good hj' hj hj2' hj2 hW (by rw [← en,← en',h2])
 have e3:(ev g.H j').2.2 = w' := by rw [he']
 have e4:(ev g.H j).2.2 = w := by rw [he]
 rw [← e3,← e4,this]
theorem inc_get {K:List Int} (h5:K.length = 5) {b j:Nat} (hb:b < 5):(inc K (b:Int)).getD j 0 = if j = b then K.getD b 0 + 1 else K.getD j 0 := by
 unfold inc
 rw [Int.toNat_natCast]
 by_cases e:j = b
 ·subst e
  rw [if_pos rfl]
  simp [List.getD,show j < K.length by omega]
 ·rw [if_neg e]
  simp [List.getD,List.getElem?_set_ne (fun q => e q.symm)]
theorem inc_len (K:List Int) (b:Int):(inc K b).length = K.length := by simp [inc]
theorem GI0.hear1 (h:GI0 g) {m:Nat} {s:Sd} {L:List Sd} (hm:m < g.n) (hs:g.said s.2.1 = some s) (hne:s.1 ≠ (m:Int)) (hr:rdy (g.K m) s = true) (hL:L.Sublist (g.ws m)) (hn:∀ t ∈ L,t.2.1 ≠ s.2.1) :
  GI0 (upd g m (inc (g.K m) s.1) L (g.H ++ [((m:Int),3,s.2.1)])) := by
 obtain ⟨j,hj,he,h1,e1,hwn,hsa,hany,hspk,hcl,hnum,hj2⟩ := h.word hs
 have hn5 := h.n2.2
 have hb5:W g.H j < 5 := by omega
 have hm5:m < 5 := by omega
 obtain ⟨b,eb⟩:∃ b,b = W g.H j := ⟨_,rfl⟩
 rw [← eb] at e1 hwn hspk hcl hb5
 have hbm:b ≠ m := fun q => hne (by rw [e1,q])
 have hnb:wnum g.H j = hc g.H b b (j + 1) := by unfold wnum; rw [← eb]
 have hrd := Cau.rdy_iff.1 hr
 have hrb:s.2.2.getD b 0 = (g.K m).getD b 0 + 1 := by
  have := hrd b hb5
  rw [Cau.rdyAt_own e1.symm] at this
  exact of_decide_eq_true this
 have hro:∀ a,a < 5 → a ≠ b → s.2.2.getD a 0 ≤ (g.K m).getD a 0 := by
  intro a ha hab
  have := hrd a ha
  rw [Cau.rdyAt_other (fun q => hab (by rw [e1] at q; omega))] at this
  exact of_decide_eq_true this
 have hk5 := (h.kk m hm5).1
 have hk := (h.kk m hm5).2
 obtain ⟨e,ee⟩:∃ e:Ev,e = ((m:Int),3,s.2.1) := ⟨_,rfl⟩
 have hword:1 ≤ s.2.1 ∧ s.2.1 ≤ 30 := by
  have := isOne_what (good_one h.good hj)
  rw [he] at this
  simp at this
  exact this
 have hisOne:isOne e = true := by
  rw [ee]
  simp [isOne,hword.1,hword.2]
  omega
 have hnot:¬ (g.H.any (fun y => y == e) = true) := by
  intro q
  obtain ⟨y,hy,hye⟩ := List.any_eq_true.1 q
  have hye':y = e := by simpa using hye
  subst hye'
  obtain ⟨i,hi,hie⟩ := List.getElem_of_mem hy
  rw [← ev_get hi] at hie
  have hi3:(ev g.H i).2.1 = 3 := by rw [hie,ee]
  have hiw:(ev g.H i).2.2 = s.2.1 := by rw [hie,ee]
  have hiW:W g.H i = m := by unfold W; rw [hie,ee]; simp
  have ht := (h.turn i hi).2 hi3 b hb5
  rw [hiw,hspk,if_pos rfl,hsa,hiW] at ht
  have s1:hc g.H m b (i + 1) = hc g.H m b i + 1 := by
   rw [hc_step,if_pos ⟨hiW,by omega,by rw [hiw]; exact hspk⟩]
  have s2 := hc_mono g.H m b (show i + 1 ≤ g.H.length by omega)
  have s3 := hk b hb5
  have s4 := hcl b hb5
  omega
 have hnext:next g.H e = 0 := by
  unfold next
  rw [if_neg (by rw [hisOne]; decide),if_neg (by rw [ee]; simp),if_neg (by rw [ee]; simp),if_neg hnot]
  have ew:e.2.2 = s.2.1 := by rw [ee]
  rw [ew,if_neg (by rw [hany]; decide),if_neg]
  intro q
  obtain ⟨y,hy,hye⟩ := List.any_eq_true.1 q
  have hye':y = (e.1,2,s.2.1) := by simpa using hye
  obtain ⟨i,hi,hie⟩ := List.getElem_of_mem hy
  rw [← ev_get hi,hye'] at hie
  have i2:(ev g.H i).2.1 = 2 := by rw [hie]
  have := sayAt_say h.good hi i2
  rw [hie] at this
  have e5:sayAt g.H s.2.1 = i := this
  rw [hsa] at e5
  have e6:W g.H i = m := by unfold W; rw [hie,ee]; simp
  rw [← e5,← eb] at e6
  exact hbm e6
 have hgood := good_snoc h.good hnext
 have hspk':spk (g.H ++ [e]) s.2.1 = b := by rw [spk_app hany]; exact hspk
 have hsa':sayAt (g.H ++ [e]) s.2.1 = j := by rw [sayAt_app hany]; exact hsa
 have hWl:W (g.H ++ [e]) g.H.length = m := by unfold W; rw [ev_snoc,ee]; simp
 have hevl:ev (g.H ++ [e]) g.H.length = e := ev_snoc _ _
 have ew:e.2.2 = s.2.1 := by rw [ee]
 have hrdE:rdyE (g.H ++ [e]) g.H.length := by
  intro a ha
  rw [hevl,ew,hspk',hsa',hWl,hc_app h.good _ _ _ (by omega),hc_app h.good _ _ _ (by omega),hc_app h.good _ _ _ (by omega)]
  by_cases q:a = b
  ·rw [if_pos q]
   have s3 := hk b hb5
   have s4 := hcl b hb5
   rw [q]
   omega
  ·rw [if_neg q]
   have s3 := hk a ha
   have s4 := hcl a ha
   have s5 := hro a ha q
   omega
 have hturn:Turn (g.H ++ [e]) := turn_snoc h.good h.turn (by rw [ee]; simp) (fun _ => hrdE)
 have hlen:(g.H ++ [e]).length = g.H.length + 1 := by simp
 have hcn:∀ m' a,hc (g.H ++ [e]) m' a (g.H.length + 1) = hc g.H m' a g.H.length + if m' = m ∧ a = b then 1 else 0 := by
  intro m' a
  rw [hc_step,hc_app h.good _ _ _ (Nat.le_refl _),hWl,hevl,ew,hspk']
  by_cases q:m' = m ∧ a = b
  ·rw [if_pos ⟨q.1.symm,by rw [ee]; simp,q.2.symm⟩,if_pos q]
  ·rw [if_neg (fun p => q ⟨p.1.symm,p.2.2.symm⟩),if_neg q]
 rw [← ee]
 refine ⟨h.n2,hgood,hturn,fun m' hm' => ?_,fun i hi => ?_,fun w t ht => ?_,fun i hi hi2 => ?_,fun m' t ht => ?_,fun m' => ?_,?_,h.m60⟩
 ·show ((if m' = m then inc (g.K m) s.1 else g.K m').length = 5) ∧ ∀ a,a < 5 → (if m' = m then inc (g.K m) s.1 else g.K m').getD a 0 = hc (g.H ++ [e]) m' a (g.H ++ [e]).length
  rw [hlen]
  by_cases q:m' = m
  ·subst q
   rw [if_pos rfl,inc_len]
   refine ⟨hk5,fun a ha => ?_⟩
   rw [e1,inc_get hk5 hb5,hcn]
   by_cases q:a = b
   ·subst q
    rw [if_pos rfl,if_pos ⟨rfl,rfl⟩,hk a ha]
   ·rw [if_neg q,if_neg (fun p => q p.2),hk a ha,Int.add_zero]
  ·rw [if_neg q]
   refine ⟨(h.kk m' hm').1,fun a ha => ?_⟩
   rw [hcn,if_neg (fun p => q p.1),(h.kk m' hm').2 a ha,Int.add_zero]
 ·show W (g.H ++ [e]) i < g.n
  have hi':i < g.H.length + 1 := by rw [← hlen]; exact hi
  rcases Nat.lt_or_ge i g.H.length with q | q
  ·rw [W_app q]; exact h.who i q
  ·obtain rfl:i = g.H.length := by omega
   rw [hWl]; exact hm
 ·obtain ⟨i,hi,a1,a2,a3,a4⟩ := h.sd w t ht
  refine ⟨i,by show i < (g.H ++ [e]).length; omega,?_,a2,a3,fun a ha => ?_⟩
  ·show ev (g.H ++ [e]) i = _
   rw [ev_app hi,a1]
  ·show _ = hc (g.H ++ [e]) (W (g.H ++ [e]) i) a (i + 1)
   rw [W_app hi,hc_app h.good _ _ _ hi,a4 a ha]
 ·have hi2':(ev (g.H ++ [e]) i).2.1 = 2 := hi2
  have hi':i < g.H.length + 1 := by rw [← hlen]; exact hi
  show (g.said (ev (g.H ++ [e]) i).2.2).isSome = true
  rcases Nat.lt_or_ge i g.H.length with q | q
  ·rw [ev_app q] at hi2' ⊢
   exact h.ds i q hi2'
  ·obtain rfl:i = g.H.length := by omega
   rw [hevl,ee] at hi2'
   simp at hi2'
 ·have ht':t ∈ (if m' = m then L else g.ws m') := ht
  show g.said t.2.1 = some t ∧ t.1 ≠ (m':Int) ∧ m' < g.n ∧ (if m' = m then inc (g.K m) s.1 else g.K m').getD t.1.toNat 0 < t.2.2.getD t.1.toNat 0
  by_cases q:m' = m
  ·subst q
   rw [if_pos rfl] at ht' ⊢
   obtain ⟨w1,w2,w3,w4⟩ := h.wt m' t (hL.subset ht')
   refine ⟨w1,w2,w3,?_⟩
   rw [e1,inc_get hk5 hb5]
   by_cases q:t.1.toNat = b
   ·rw [if_pos q]
    have hne':t.2.1 ≠ s.2.1 := hn t ht'
    have ht1:t.1 = s.1 := by
     obtain ⟨i,_,_,_,f1,_⟩ := h.word w1
     rw [f1] at q
     rw [f1,e1]
     omega
    have:t.2.2.getD s.1.toNat 0 ≠ s.2.2.getD s.1.toNat 0 := fun p => hne' (h.same_word hs w1 ht1 p)
    rw [e1,Int.toNat_natCast] at this
    rw [q] at w4 ⊢
    omega
   ·rw [if_neg q]
    exact w4
  ·rw [if_neg q] at ht' ⊢
   exact h.wt m' t ht'
 ·show (if m' = m then L else g.ws m').Pairwise _
  by_cases q:m' = m
  ·rw [if_pos q]; exact (h.uq m).sublist hL
  ·rw [if_neg q]; exact h.uq m'
 ·show (g.many:Int) = nS (g.H ++ [e]) (g.H ++ [e]).length
  rw [hlen]
  show _ = nS (g.H ++ [e]) g.H.length + if (ev (g.H ++ [e]) g.H.length).2.1 = 2 then 1 else 0
  rw [hevl,if_neg (by rw [ee]; simp),Int.add_zero,h.mn]
  rw [nS_hc h.good h.turn _ (Nat.le_refl _),nS_hc hgood hturn _ (by omega)]
  exact S5_same fun a ha => (hc_app h.good _ _ _ (Nat.le_refl _)).symm
end Go.Proofs.YtdmniblonikjlakGreatDoor.Cas


namespace Go.Proofs.YtdmniblonikjlakGreatDoor.Cas
open Net (Pk pk isIn dropC dropL twC twL NInv pkBad)
open Cau (Sd inc ctk rdy rdyAt ckC same CInv SdOk)
open His
open Vec (code)
set_option linter.unusedVariables false
variable {g:G}
theorem upd_upd (g:G) (m:Nat) (K1 K2:List Int) (w1 w2:List Sd) (H1 H2:List Ev):upd (upd g m K1 w1 H1) m K2 w2 H2 = upd g m K2 w2 H2 := by
 unfold upd
 congr 1
 ·funext i
  by_cases e:i = m
  ·simp [e]
  ·simp [e]
 ·funext i
  by_cases e:i = m
  ·simp [e]
  ·simp [e]
theorem upd_self (g:G) (m:Nat):upd g m (g.K m) (g.ws m) g.H = g := by
 cases g with
 | mk n K ws said l many H =>
  unfold upd
  congr 1
  ·funext i
   by_cases e:i = m
   ·subst e; simp
   ·simp [e]
  ·funext i
   by_cases e:i = m
   ·subst e; simp
   ·simp [e]
theorem erase_ne {ws:List Sd} (hu:ws.Pairwise fun a b => a.2.1 ≠ b.2.1) {i:Nat} (hi:i < ws.length):∀ t ∈ ws.eraseIdx i,t.2.1 ≠ (Cau.sd ws i).2.1 := by
 intro t ht
 have e:Cau.sd ws i = ws[i] := by simp [Cau.sd,List.getD,hi]
 rw [e]
 obtain ⟨j,hj,hne,rfl⟩ := List.mem_eraseIdx_iff_getElem.1 ht
 rcases Nat.lt_or_gt_of_ne hne with a | a
 ·exact List.pairwise_iff_getElem.1 hu j i hj hi a
 ·exact fun q => List.pairwise_iff_getElem.1 hu i j hi hj a q.symm
theorem GI0.drained:∀ (f:Nat) (g:G) (h:GI0 g) {m:Nat} (hm:m < g.n),GI0 (upd g m (Cau.drain f (g.K m) (g.ws m)).2.1 (Cau.drain f (g.K m) (g.ws m)).2.2 (g.H ++ hear (m:Int) (Cau.drain f (g.K m) (g.ws m)).1)) := by
 intro f
 induction f with
 | zero =>
  intro g h m hm
  show GI0 (upd g m (g.K m) (g.ws m) (g.H ++ []))
  rw [List.append_nil,upd_self]
  exact h
 | succ f ih =>
  intro g h m hm
  cases hfi:(g.ws m).findIdx? (rdy (g.K m)) with
  | none =>
   rw [Cau.drain_stop hfi]
   show GI0 (upd g m (g.K m) (g.ws m) (g.H ++ []))
   rw [List.append_nil,upd_self]
   exact h
  | some i =>
   have hi := Cau.idx_lt hfi
   have hrd:rdy (g.K m) (Cau.sd (g.ws m) i) = true := by
    rw [List.findIdx?_eq_some_iff_getElem] at hfi
    obtain ⟨a,b,_⟩ := hfi
    have e:Cau.sd (g.ws m) i = (g.ws m)[i] := by simp [Cau.sd,List.getD,a]
    rw [e]
    exact b
   have hmem:Cau.sd (g.ws m) i ∈ g.ws m := by
    have e:Cau.sd (g.ws m) i = (g.ws m)[i] := by simp [Cau.sd,List.getD,hi]
    rw [e]
    exact List.getElem_mem hi
   obtain ⟨w1,w2,w3,w4⟩ := h.wt m _ hmem
   have h1 := h.hear1 hm w1 w2 hrd (L := (g.ws m).eraseIdx i) (List.eraseIdx_sublist _ _) (erase_ne (h.uq m) hi)
   rw [Cau.drain_go hfi]
   have h2 := ih _ h1 (m := m) hm
   have eK:(upd g m (inc (g.K m) (Cau.sd (g.ws m) i).1) ((g.ws m).eraseIdx i) (g.H ++ [((m:Int),3,(Cau.sd (g.ws m) i).2.1)])).K m = inc (g.K m) (Cau.sd (g.ws m) i).1 := by simp [upd]
   have eW:(upd g m (inc (g.K m) (Cau.sd (g.ws m) i).1) ((g.ws m).eraseIdx i) (g.H ++ [((m:Int),3,(Cau.sd (g.ws m) i).2.1)])).ws m = (g.ws m).eraseIdx i := by simp [upd]
   have eH:(upd g m (inc (g.K m) (Cau.sd (g.ws m) i).1) ((g.ws m).eraseIdx i) (g.H ++ [((m:Int),3,(Cau.sd (g.ws m) i).2.1)])).H = g.H ++ [((m:Int),3,(Cau.sd (g.ws m) i).2.1)] := rfl
   rw [eK,eW,eH,upd_upd,List.append_assoc] at h2
   exact h2
theorem run_none:∀ (n:Nat) (K:List Int) (ws:List Sd),ws.length ≤ n → (Cau.run K ws).2.2.findIdx? (rdy (Cau.run K ws).2.1) = none := by
 intro n
 induction n with
 | zero =>
  intro K ws hl
  have:ws = [] := List.eq_nil_of_length_eq_zero (by omega)
  subst this
  rfl
 | succ n ih =>
  intro K ws hl
  cases h:ws.findIdx? (rdy K) with
  | none => rw [Cau.run_stop h]; exact h
  | some i =>
   rw [Cau.run_go h]
   have := Cau.erase_len (Cau.idx_lt h)
   exact ih _ _ (by omega)
theorem run_nr (K:List Int) (ws:List Sd):∀ s ∈ (Cau.run K ws).2.2,rdy (Cau.run K ws).2.1 s = false := by
 intro s hs
 have := List.findIdx?_eq_none_iff.1 (run_none ws.length K ws (Nat.le_refl _)) s hs
 simpa using this
theorem drain_keeps:∀ (f:Nat) (K:List Int) (ws:List Sd),K.length = 5 → (∀ s ∈ ws,0 ≤ s.1 ∧ s.1 ≤ 4) → (Cau.drain f K ws).2.1.length = 5 ∧ (∀ a,K.getD a 0 ≤ (Cau.drain f K ws).2.1.getD a 0) ∧ ∀ t ∈ ws,t ∈ (Cau.drain f K ws).2.2 ∨ t.2.2.getD t.1.toNat 0 ≤ (Cau.drain f K ws).2.1.getD t.1.toNat 0 := by
 intro f
 induction f with
 | zero => intro K ws h5 _; exact ⟨h5,fun a => Int.le_refl _,fun t ht => .inl ht⟩
 | succ f ih =>
  intro K ws h5 hw
  cases h:ws.findIdx? (rdy K) with
  | none => rw [Cau.drain_stop h]; exact ⟨h5,fun a => Int.le_refl _,fun t ht => .inl ht⟩
  | some i =>
   rw [Cau.drain_go h]
   have hi := Cau.idx_lt h
   have e:Cau.sd ws i = ws[i] := by simp [Cau.sd,List.getD,hi]
   have hrd:rdy K (Cau.sd ws i) = true := by
    rw [List.findIdx?_eq_some_iff_getElem] at h
    obtain ⟨a,b,_⟩ := h
    rw [e]
    exact b
   have hw0 := hw (Cau.sd ws i) (by rw [e]; exact List.getElem_mem hi)
   obtain ⟨b,eb⟩:∃ b:Nat,(Cau.sd ws i).1 = (b:Int) := ⟨(Cau.sd ws i).1.toNat,by omega⟩
   have hb5:b < 5 := by omega
   have hrb := Cau.rdy_iff.1 hrd b hb5
   rw [Cau.rdyAt_own eb.symm] at hrb
   have hrb := of_decide_eq_true hrb
   obtain ⟨i1,i2,i3⟩ := ih (inc K (Cau.sd ws i).1) (ws.eraseIdx i) (by rw [inc_len]; exact h5) (fun s hs => hw s ((List.eraseIdx_sublist _ _).subset hs))
   have hinc:∀ a,K.getD a 0 ≤ (inc K (Cau.sd ws i).1).getD a 0 := by
    intro a
    rw [eb,inc_get h5 hb5]
    split
    ·rename_i q
     rw [q]
     omega
    ·exact Int.le_refl _
   refine ⟨i1,fun a => Int.le_trans (hinc a) (i2 a),fun t ht => ?_⟩
   obtain ⟨j,hj,rfl⟩ := List.getElem_of_mem ht
   by_cases q:j = i
   ·subst q
    right
    rw [← e]
    refine Int.le_trans ?_ (i2 _)
    rw [eb,Int.toNat_natCast,inc_get h5 hb5,if_pos rfl]
    omega
   ·exact i3 _ (List.mem_eraseIdx_iff_getElem.2 ⟨j,hj,q,rfl⟩)
theorem GI0.not_same (h:GI0 g) {m:Nat} {w:Int} {s:Sd} (hs:g.said w = some s):(g.ws m).any (same s) = true ↔ ∃ t ∈ g.ws m,t.2.1 = w := by
 rw [List.any_eq_true]
 constructor
 ·rintro ⟨t,ht,hp⟩
  simp only [same,Bool.and_eq_true,decide_eq_true_eq] at hp
  exact ⟨t,ht,h.same_word hs (h.wt m t ht).1 hp.1 hp.2⟩
 ·rintro ⟨t,ht,e⟩
  have h1 := (h.wt m t ht).1
  rw [e,hs] at h1
  have:s = t := Option.some.inj h1
  subst this
  exact ⟨s,ht,by simp [same]⟩
theorem code_of {xs:List Int} (h5:xs.length = 5) (h:∀ k,k < 5 → 0 ≤ xs.getD k 0 ∧ xs.getD k 0 ≤ 1000000):code xs = 0 := by
 have hb:Vec.bad xs = false := Vec.anyP_false fun j hj => by
  show Vec.out (xs.getD j 0) = false
  have := h j hj
  simp only [Vec.out,Bool.or_eq_false_iff,decide_eq_false_iff_not]
  omega
 simp [code,h5,hb]
theorem GI0.many30 (h:GI0 g):g.many ≤ 30 := by
 have h1 := h.m60
 have h2 := h.n2.1
 have:g.many * 2 ≤ g.many * g.n := Nat.mul_le_mul_left _ h2
 omega
theorem GI0.hc30 (h:GI0 g) (m:Nat) {a:Nat} (ha:a < 5) (n:Nat) (hn:n ≤ g.H.length):0 ≤ hc g.H m a n ∧ hc g.H m a n ≤ g.many := by
 refine ⟨hc_nonneg _ _ _ _,?_⟩
 have h1 := hc_mono g.H m a hn
 have h2 := hc_le h.good h.turn m ha g.H.length (Nat.le_refl _)
 have h3 := nS_hc h.good h.turn g.H.length (Nat.le_refl _)
 have h4 := h.mn
 have n0 := hc_nonneg g.H 0 0 g.H.length
 have n1 := hc_nonneg g.H 1 1 g.H.length
 have n2 := hc_nonneg g.H 2 2 g.H.length
 have n3 := hc_nonneg g.H 3 3 g.H.length
 have n4 := hc_nonneg g.H 4 4 g.H.length
 unfold S5 at h3
 dsimp only at h3
 have ha5:a = 0 ∨ a = 1 ∨ a = 2 ∨ a = 3 ∨ a = 4 := by omega
 rcases ha5 with rfl | rfl | rfl | rfl | rfl <;> omega
theorem GI0.sdOk (h:GI0 g) {w:Int} {s:Sd} (hs:g.said w = some s):SdOk s := by
 obtain ⟨j,hj,he,h1,e1,hwn,_,_,_,hcl,_,_⟩ := h.word hs
 have hn := h.n2.2
 have h5 := (h.sd w s hs)
 obtain ⟨_,_,_,_,hl5,_⟩ := h5
 have h30 := h.many30
 refine ⟨by rw [e1]; omega,?_,code_of hl5 fun k hk => ?_⟩
 ·have := isOne_what (good_one h.good hj)
  rw [he] at this
  simp at this
  rw [h1]
  exact this
 ·rw [hcl k hk]
  have := h.hc30 (W g.H j) hk (j + 1) hj
  omega
theorem nodup_len:∀ (N:Nat) (l:List Int),l.Nodup → (∀ x ∈ l,1 ≤ x ∧ x ≤ (N:Int)) → l.length ≤ N := by
 intro N
 induction N with
 | zero =>
  intro l _ h
  cases l with
  | nil => simp
  | cons x l => have := h x (List.mem_cons_self ..); omega
 | succ N ih =>
  intro l hn h
  have h1 := ih (l.erase ((N + 1:Nat):Int)) (hn.erase _) (fun x hx => by
   have hx' := (hn.mem_erase_iff).1 hx
   have := h x hx'.2
   have:x ≠ ((N + 1:Nat):Int) := hx'.1
   omega)
  have h2 := List.length_erase (a := ((N + 1:Nat):Int)) (l := l)
  by_cases q:((N + 1:Nat):Int) ∈ l
  ·rw [if_pos q] at h2
   omega
  ·rw [if_neg q] at h2
   omega
theorem GI0.len30 (h:GI0 g) (m:Nat):(g.ws m).length ≤ 30 := by
 have h1:((g.ws m).map fun s => s.2.1).Nodup := by
  rw [List.Nodup,List.pairwise_map]
  exact h.uq m
 have := nodup_len 30 _ h1 (fun x hx => by
  obtain ⟨s,hs,rfl⟩ := List.mem_map.1 hx
  have := (h.sdOk (h.wt m s hs).1).word
  omega)
 simpa using this
theorem GI0.cinv (h:GI0 g) {m:Nat} (hm:m < 5):CInv (m:Int) (g.K m) (g.ws m) := by
 have h30 := h.many30
 refine ⟨by omega,(h.kk m hm).1,fun j hj => ?_,fun s hs => h.sdOk (h.wt m s hs).1,by have := h.len30 m; omega⟩
 rw [(h.kk m hm).2 j hj]
 have := h.hc30 m hj g.H.length (Nat.le_refl _)
 omega
end Go.Proofs.YtdmniblonikjlakGreatDoor.Cas


namespace Go.Proofs.YtdmniblonikjlakGreatDoor.Cas
open Net (Pk pk isIn dropC dropL twC twL NInv pkBad)
open Cau (Sd inc ctk rdy rdyAt ckC same CInv SdOk)
open His
open Vec (code)
set_option linter.unusedVariables false
variable {g:G}
structure GI (g:G):Prop where
 i0:GI0 g
 net:NInv g.l
 way:∀ p ∈ g.l,(0 ≤ p.2.1 ∧ p.2.1 < (g.n:Int)) ∧ ∃ s,g.said p.2.2 = some s ∧ s.1 = p.1
 nr:∀ m s,s ∈ g.ws m → rdy (g.K m) s = false
def ND (g:G):Prop := ∀ j,j < g.H.length → (ev g.H j).2.1 = 2 → ∀ m,m < g.n → m ≠ W g.H j → ((ev g.H j).1,(m:Int),(ev g.H j).2.2) ∈ g.l ∨ (∃ s ∈ g.ws m,s.2.1 = (ev g.H j).2.2) ∨ wnum g.H j ≤ (g.K m).getD (W g.H j) 0
theorem start_gi {n:Nat} (h2:2 ≤ n) (h5:n ≤ 5):GI (start n) ∧ ND (start n) := by
 refine ⟨⟨start_inv h2 h5,NInv.start,fun p hp => absurd hp List.not_mem_nil,fun m s hs => absurd hs List.not_mem_nil⟩,fun j hj => absurd hj (by simp [start])⟩
theorem GI0.setL (h:GI0 g) (l':List Pk):GI0 (setL g l') := ⟨h.n2,h.good,h.turn,h.kk,h.who,h.sd,h.ds,h.wt,h.uq,h.mn,h.m60⟩
theorem GI.setL (h:GI g) {l':List Pk} (hn:NInv l') (hs:∀ p ∈ l',p ∈ g.l):GI (setL g l') := ⟨h.i0.setL l',hn,fun p hp => h.way p (hs p hp),h.nr⟩
theorem drop_gi (h:GI g) (i:Int):GI (drop g i) := by
 refine h.setL (h.net.drop i) fun p hp => ?_
 unfold dropL at hp
 split at hp
 ·exact (List.eraseIdx_sublist _ _).subset hp
 ·exact hp
theorem tw_mem {l:List Pk} {i:Int} {p:Pk} (hp:p ∈ twL l i):p ∈ l := by
 unfold twL at hp
 split at hp
 ·rename_i hi
  unfold Net.sendL at hp
  split at hp
  ·rcases List.mem_append.1 hp with a | a
   ·exact a
   ·rw [List.mem_singleton.1 a]
    obtain ⟨k,rfl,hk⟩ := Net.isIn_yes hi
    rw [Int.toNat_natCast,Net.pk_get hk]
    exact List.getElem_mem _
  ·exact hp
 ·exact hp
theorem twice_gi (h:GI g) (i:Int):GI (twice g i) := h.setL (h.net.tw i) fun p hp => tw_mem hp
theorem took (h:GI g) {m:Nat} {s:Sd} (hm:m < g.n) (hs:g.said s.2.1 = some s) (hne:s.1 ≠ (m:Int)) :
  GI (upd g m (ctk (m:Int) (g.K m) (g.ws m) s).2.1 (ctk (m:Int) (g.K m) (g.ws m) s).2.2 (g.H ++ hear (m:Int) (ctk (m:Int) (g.K m) (g.ws m) s).1)) ∧
  (∀ a,(g.K m).getD a 0 ≤ (ctk (m:Int) (g.K m) (g.ws m) s).2.1.getD a 0) ∧
  (∀ t,t ∈ g.ws m ∨ t = s → t ∈ (ctk (m:Int) (g.K m) (g.ws m) s).2.2 ∨ t.2.2.getD t.1.toNat 0 ≤ (ctk (m:Int) (g.K m) (g.ws m) s).2.1.getD t.1.toNat 0) := by
 have h0 := h.i0
 have hn5 := h0.n2.2
 have hm5:m < 5 := by omega
 have hok := h0.sdOk hs
 have hl30 := h0.len30 m
 have hcl:code s.2.2 = 0 := hok.clk
 have hbad:¬ Cau.sdBad s = true := by
  have := hok.who
  have := hok.word
  simp [Cau.sdBad]
  omega
 obtain ⟨j,hj,he,h1,e1,hwn,hsa,hany,hspk,hclk,hnum,hj2⟩ := h0.word hs
 have hnz:¬ s.2.2.getD s.1.toNat 0 = 0 := by
  rw [hnum,wnum_eq h0.good hj hj2]
  have := hc_nonneg g.H (W g.H j) (W g.H j) j
  omega
 have hwho:∀ t ∈ g.ws m,0 ≤ t.1 ∧ t.1 ≤ 4 := fun t ht => (h0.sdOk (h0.wt m t ht).1).who
 have hk5 := (h0.kk m hm5).1
 have no:ckC (m:Int) (g.K m) (g.ws m) s ≠ 0 → (s ∈ g.ws m ∨ s.2.2.getD s.1.toNat 0 ≤ (g.K m).getD s.1.toNat 0) → GI (upd g m (ctk (m:Int) (g.K m) (g.ws m) s).2.1 (ctk (m:Int) (g.K m) (g.ws m) s).2.2 (g.H ++ hear (m:Int) (ctk (m:Int) (g.K m) (g.ws m) s).1)) ∧
  (∀ a,(g.K m).getD a 0 ≤ (ctk (m:Int) (g.K m) (g.ws m) s).2.1.getD a 0) ∧
  (∀ t,t ∈ g.ws m ∨ t = s → t ∈ (ctk (m:Int) (g.K m) (g.ws m) s).2.2 ∨ t.2.2.getD t.1.toNat 0 ≤ (ctk (m:Int) (g.K m) (g.ws m) s).2.1.getD t.1.toNat 0) := by
  intro hck hor
  have e:ctk (m:Int) (g.K m) (g.ws m) s = ([],g.K m,g.ws m) := if_neg hck
  rw [e]
  refine ⟨?_,fun a => Int.le_refl _,fun t ht => ?_⟩
  ·show GI (upd g m (g.K m) (g.ws m) (g.H ++ []))
   rw [List.append_nil,upd_self]
   exact h
  ·rcases ht with a | a
   ·exact .inl a
   ·rw [a]
    exact hor
 by_cases c1:s.2.2.getD s.1.toNat 0 ≤ (g.K m).getD s.1.toNat 0
 ·exact no (by unfold ckC; rw [if_neg hbad,if_neg (by simp [hcl]),if_neg hne,if_neg hnz,if_pos c1]; decide) (.inr c1)
 ·by_cases c2:(g.ws m).any (same s) = true
  ·refine no (by unfold ckC; rw [if_neg hbad,if_neg (by simp [hcl]),if_neg hne,if_neg hnz,if_neg c1,if_pos c2]; decide) (.inl ?_)
   obtain ⟨t,ht,q⟩ := (h0.not_same hs).1 c2
   have := (h0.wt m t ht).1
   rw [q,hs] at this
   rw [Option.some.inj this]
   exact ht
  ·have hck:ckC (m:Int) (g.K m) (g.ws m) s = 0 := by
    unfold ckC
    rw [if_neg hbad,if_neg (by simp [hcl]),if_neg hne,if_neg hnz,if_neg c1,if_neg c2,if_neg (by omega)]
   have hnew:∀ t ∈ g.ws m,t.2.1 ≠ s.2.1 := fun t ht q => c2 ((h0.not_same hs).2 ⟨t,ht,q⟩)
   cases hr:rdy (g.K m) s with
   | true =>
    have e:ctk (m:Int) (g.K m) (g.ws m) s = (s.2.1 :: (Cau.run (inc (g.K m) s.1) (g.ws m)).1,(Cau.run (inc (g.K m) s.1) (g.ws m)).2) := by
     unfold ctk
     rw [if_pos hck,if_pos hr]
    rw [e]
    have hg1 := h0.hear1 hm hs hne hr (L := g.ws m) (List.Sublist.refl _) hnew
    have eK:(upd g m (inc (g.K m) s.1) (g.ws m) (g.H ++ [((m:Int),3,s.2.1)])).K m = inc (g.K m) s.1 := by simp [upd]
    have eW:(upd g m (inc (g.K m) s.1) (g.ws m) (g.H ++ [((m:Int),3,s.2.1)])).ws m = g.ws m := by simp [upd]
    have eH:(upd g m (inc (g.K m) s.1) (g.ws m) (g.H ++ [((m:Int),3,s.2.1)])).H = g.H ++ [((m:Int),3,s.2.1)] := rfl
    have hg2 := GI0.drained (g.ws m).length _ hg1 (m := m) hm
    rw [eK,eW,eH,upd_upd,List.append_assoc] at hg2
    have hkp := drain_keeps (g.ws m).length (inc (g.K m) s.1) (g.ws m) (by rw [inc_len]; exact hk5) hwho
    have hb5:W g.H j < 5 := by omega
    have hinc:∀ a,(g.K m).getD a 0 ≤ (inc (g.K m) s.1).getD a 0 := by
     intro a
     rw [e1,inc_get hk5 hb5]
     split
     ·rename_i q
      rw [q]
      omega
     ·exact Int.le_refl _
    refine ⟨⟨hg2,h.net,h.way,fun m' t ht => ?_⟩,fun a => Int.le_trans (hinc a) (hkp.2.1 a),fun t ht => ?_⟩
    ·have ht':t ∈ (if m' = m then (Cau.run (inc (g.K m) s.1) (g.ws m)).2.2 else g.ws m') := ht
     show rdy (if m' = m then (Cau.run (inc (g.K m) s.1) (g.ws m)).2.1 else g.K m') t = false
     by_cases q:m' = m
     ·rw [if_pos q] at ht' ⊢
      exact run_nr _ _ t ht'
     ·rw [if_neg q] at ht' ⊢
      exact h.nr m' t ht'
    ·rcases ht with a | a
     ·exact hkp.2.2 t a
     ·right
      rw [a]
      refine Int.le_trans ?_ (hkp.2.1 _)
      have hrb := Cau.rdy_iff.1 hr (W g.H j) hb5
      rw [Cau.rdyAt_own e1.symm] at hrb
      have hrb := of_decide_eq_true hrb
      rw [e1,Int.toNat_natCast,inc_get hk5 hb5,if_pos rfl]
      omega
   | false =>
    have e:ctk (m:Int) (g.K m) (g.ws m) s = ([],g.K m,g.ws m ++ [s]) := by
     unfold ctk
     rw [if_pos hck,if_neg (by rw [hr]; decide)]
    rw [e]
    have hKs:∀ m',(if m' = m then g.K m else g.K m') = g.K m' := fun m' => by
     by_cases q:m' = m
     ·rw [if_pos q,q]
     ·rw [if_neg q]
    have hmem:∀ m' t,t ∈ (if m' = m then g.ws m ++ [s] else g.ws m') → t ∈ g.ws m' ∨ (m' = m ∧ t = s) := by
     intro m' t ht
     by_cases q:m' = m
     ·rw [if_pos q] at ht
      rcases List.mem_append.1 ht with a | a
      ·exact .inl (by rw [q]; exact a)
      ·exact .inr ⟨q,List.mem_singleton.1 a⟩
     ·rw [if_neg q] at ht
      exact .inl ht
    refine ⟨⟨⟨h0.n2,?_,?_,fun m' hm' => ?_,?_,?_,?_,fun m' t ht => ?_,fun m' => ?_,?_,h0.m60⟩,h.net,h.way,fun m' t ht => ?_⟩,fun a => Int.le_refl _,fun t ht => ?_⟩
    ·show His.Good (g.H ++ []) (g.H ++ []).length
     rw [List.append_nil]; exact h0.good
    ·show Turn (g.H ++ [])
     rw [List.append_nil]; exact h0.turn
    ·show ((if m' = m then g.K m else g.K m').length = 5) ∧ ∀ a,a < 5 → (if m' = m then g.K m else g.K m').getD a 0 = hc (g.H ++ []) m' a (g.H ++ []).length
     rw [List.append_nil,hKs]; exact h0.kk m' hm'
    ·show ∀ j,j < (g.H ++ []).length → W (g.H ++ []) j < g.n
     rw [List.append_nil]; exact h0.who
    ·show ∀ w s,g.said w = some s → ∃ j,j < (g.H ++ []).length ∧ ev (g.H ++ []) j = (s.1,2,w) ∧ s.2.1 = w ∧ s.2.2.length = 5 ∧ ∀ a,a < 5 → s.2.2.getD a 0 = hc (g.H ++ []) (W (g.H ++ []) j) a (j + 1)
     rw [List.append_nil]; exact h0.sd
    ·show ∀ j,j < (g.H ++ []).length → (ev (g.H ++ []) j).2.1 = 2 → (g.said (ev (g.H ++ []) j).2.2).isSome = true
     rw [List.append_nil]; exact h0.ds
    ·show g.said t.2.1 = some t ∧ t.1 ≠ (m':Int) ∧ m' < g.n ∧ (if m' = m then g.K m else g.K m').getD t.1.toNat 0 < t.2.2.getD t.1.toNat 0
     rw [hKs]
     rcases hmem m' t ht with a | ⟨rfl,rfl⟩
     ·exact h0.wt m' t a
     ·exact ⟨hs,hne,hm,by omega⟩
    ·show (if m' = m then g.ws m ++ [s] else g.ws m').Pairwise _
     by_cases q:m' = m
     ·rw [if_pos q,List.pairwise_append]
      exact ⟨h0.uq m,List.pairwise_singleton _ _,fun a ha b hb => by rw [List.mem_singleton.1 hb]; exact hnew a ha⟩
     ·rw [if_neg q]; exact h0.uq m'
    ·show (g.many:Int) = nS (g.H ++ []) (g.H ++ []).length
     rw [List.append_nil]; exact h0.mn
    ·show rdy (if m' = m then g.K m else g.K m') t = false
     rw [hKs]
     rcases hmem m' t ht with a | ⟨rfl,rfl⟩
     ·exact h.nr m' t a
     ·exact hr
    ·rcases ht with a | a
     ·exact .inl (List.mem_append_left _ a)
     ·exact .inl (List.mem_append_right _ (List.mem_singleton.2 a))
end Go.Proofs.YtdmniblonikjlakGreatDoor.Cas


namespace Go.Proofs.YtdmniblonikjlakGreatDoor.Cas
open Net (Pk pk isIn dropC dropL twC twL NInv pkBad)
open Cau (Sd inc ctk rdy rdyAt ckC same CInv SdOk)
open His
open Vec (code)
set_option linter.unusedVariables false
variable {g:G}
theorem GI.packet (h:GI g) {k:Nat} (hk:k < g.l.length):∃ (m:Nat) (s:Sd),(pk g.l k).2.1 = (m:Int) ∧ m < g.n ∧ g.said (pk g.l k).2.2 = some s ∧ s.2.1 = (pk g.l k).2.2 ∧ s.1 = (pk g.l k).1 ∧ g.said s.2.1 = some s ∧ s.1 ≠ (m:Int) ∧ pk g.l k ∈ g.l := by
 have hmem:pk g.l k ∈ g.l := by rw [Net.pk_get hk]; exact List.getElem_mem _
 obtain ⟨⟨h1,h2⟩,s,hs,h3⟩ := h.way _ hmem
 obtain ⟨j,hj,he,e2,_⟩ := h.i0.word hs
 have hne := (h.net.ok _ hmem).2
 refine ⟨(pk g.l k).2.1.toNat,s,by omega,by omega,hs,e2,h3,by rw [e2]; exact hs,?_,hmem⟩
 intro q
 rw [h3] at q
 exact hne (by omega)
theorem give_eq (h:GI g) {k:Nat} (hk:k < g.l.length) {m:Nat} {s:Sd} (em:(pk g.l k).2.1 = (m:Int)) (hs:g.said (pk g.l k).2.2 = some s):give g (k:Int) = setL (upd g m (ctk (m:Int) (g.K m) (g.ws m) s).2.1 (ctk (m:Int) (g.K m) (g.ws m) s).2.2 (g.H ++ hear (m:Int) (ctk (m:Int) (g.K m) (g.ws m) s).1)) (g.l.eraseIdx k) ∧ giveW g (k:Int) = (ctk (m:Int) (g.K m) (g.ws m) s).1 := by
 have ht:tk g (pk g.l k) = ctk (m:Int) (g.K m) (g.ws m) s := by
  unfold tk
  rw [em,hs,Int.toNat_natCast]
  rfl
 unfold give giveW
 rw [if_pos (Net.isIn_of hk),if_pos (Net.isIn_of hk),Int.toNat_natCast,ht,em,Int.toNat_natCast]
 exact ⟨rfl,rfl⟩
theorem give_no {i:Int} (h:isIn g.l i = false):give g i = g ∧ giveW g i = [] := by
 unfold give giveW
 rw [if_neg (by rw [h]; decide),if_neg (by rw [h]; decide)]
 exact ⟨rfl,rfl⟩
theorem give_gi (h:GI g) (i:Int):GI (give g i) := by
 cases hi:isIn g.l i with
 | false => rw [(give_no hi).1]; exact h
 | true =>
  obtain ⟨k,rfl,hk⟩ := Net.isIn_yes hi
  obtain ⟨m,s,em,hm,hs,e2,e3,hs',hne,_⟩ := h.packet hk
  rw [(give_eq h hk em hs).1]
  exact (took h hm hs' hne).1.setL (h.net.erase k) fun p hp => (List.eraseIdx_sublist _ _).subset hp
theorem pks_mem {n:Nat} {who word:Int} {p:Pk}:p ∈ pks n who word ↔ ∃ i:Nat,i < n ∧ (i:Int) ≠ who ∧ p = (who,(i:Int),word) := by
 unfold pks
 rw [List.mem_map]
 constructor
 ·rintro ⟨i,hi,rfl⟩
  obtain ⟨h1,h2⟩ := List.mem_filter.1 hi
  exact ⟨i,List.mem_range.1 h1,of_decide_eq_true h2,rfl⟩
 ·rintro ⟨i,hi,hne,rfl⟩
  exact ⟨i,List.mem_filter.2 ⟨List.mem_range.2 hi,decide_eq_true hne⟩,rfl⟩
theorem pks_len {n w:Nat} {word:Int} (h5:n ≤ 5) (hw:w < n):(pks n (w:Int) word).length = n - 1 := by
 unfold pks
 rw [List.length_map]
 have hn:n = 0 ∨ n = 1 ∨ n = 2 ∨ n = 3 ∨ n = 4 ∨ n = 5 := by omega
 have hww:w = 0 ∨ w = 1 ∨ w = 2 ∨ w = 3 ∨ w = 4 := by omega
 rcases hn with rfl | rfl | rfl | rfl | rfl | rfl <;> rcases hww with rfl | rfl | rfl | rfl | rfl <;> first | (exfalso; omega) | rfl
theorem say_no {who word:Int} (h:sayC g who word ≠ 0):say g who word = g := if_neg h
theorem sayC_zero {who word:Int} (h:sayC g who word = 0):(0 ≤ who ∧ who < (g.n:Int)) ∧ (1 ≤ word ∧ word ≤ 30) ∧ g.said word = none ∧ g.l.length + (g.n - 1) ≤ 40 ∧ (g.many + 1) * g.n ≤ 60 := by
 unfold sayC at h
 split at h
 ·omega
 ·rename_i a
  split at h
  ·omega
  ·rename_i b
   split at h
   ·omega
   ·rename_i c
    refine ⟨by omega,by omega,?_,by omega,by omega⟩
    cases q:g.said word with
    | none => rfl
    | some s => rw [q] at b; exact absurd rfl b
theorem say_gi (h:GI g) (who word:Int):GI (say g who word) := by
 refine (Decidable.em (sayC g who word = 0)).elim (fun hc0 => ?_) (fun hc0 => by rw [say_no hc0]; exact h)
 obtain ⟨hw,hword,hsaid,hroom,h60⟩ := sayC_zero hc0
 obtain ⟨b,rfl⟩:∃ b:Nat,who = (b:Int) := ⟨who.toNat,by omega⟩
 have h0 := h.i0
 have hn5 := h0.n2.2
 have hb5:b < 5 := by omega
 have hbn:b < g.n := by omega
 unfold say
 rw [if_pos hc0,Int.toNat_natCast]
 obtain ⟨e,ee⟩:∃ e:Ev,e = ((b:Int),2,word) := ⟨_,rfl⟩
 have hisOne:isOne e = true := by
  rw [ee]
  simp [isOne,hword.1,hword.2]
  omega
 have hnot:¬ (g.H.any (says word) = true) := by
  intro q
  obtain ⟨y,hy,hp⟩ := List.any_eq_true.1 q
  obtain ⟨i,hi,hie⟩ := List.getElem_of_mem hy
  rw [← ev_get hi] at hie
  rw [← hie] at hp
  simp [says] at hp
  have := h0.ds i hi hp.1
  rw [hp.2,hsaid] at this
  cases this
 have hnext:next g.H e = 0 := by
  unfold next
  rw [if_neg (by rw [hisOne]; decide),if_neg (by rintro ⟨_,q⟩; rw [ee] at q; exact hnot q),if_pos (by rw [ee]; simp)]
 have hgood := good_snoc h0.good hnext
 have hturn:Turn (g.H ++ [e]) := turn_snoc h0.good h0.turn (by rw [ee]; simp) (fun q => by rw [ee] at q; simp at q)
 have hlen:(g.H ++ [e]).length = g.H.length + 1 := by simp
 have hevl:ev (g.H ++ [e]) g.H.length = e := ev_snoc _ _
 have hWl:W (g.H ++ [e]) g.H.length = b := by unfold W; rw [hevl,ee]; simp
 have hspl:spk (g.H ++ [e]) word = b := by
  have h2:(ev (g.H ++ [e]) g.H.length).2.1 = 2 := by rw [hevl,ee]
  have := spk_say hgood (show g.H.length < (g.H ++ [e]).length by omega) h2
  rw [hevl,hWl,ee] at this
  rw [ee]
  exact this
 have hcn:∀ m' a,hc (g.H ++ [e]) m' a (g.H.length + 1) = hc g.H m' a g.H.length + if m' = b ∧ a = b then 1 else 0 := by
  intro m' a
  have ew:e.2.2 = word := by rw [ee]
  rw [hc_step,hc_app h0.good _ _ _ (Nat.le_refl _),hWl,hevl,ew,hspl]
  by_cases q:m' = b ∧ a = b
  ·rw [if_pos ⟨q.1.symm,by rw [ee]; simp,q.2.symm⟩,if_pos q]
  ·rw [if_neg (fun p => q ⟨p.1.symm,p.2.2.symm⟩),if_neg q]
 have hk5 := (h0.kk b hb5).1
 rw [← ee]
 refine ⟨⟨h0.n2,hgood,hturn,fun m' hm' => ?_,fun i hi => ?_,fun w t ht => ?_,fun i hi hi2 => ?_,fun m' t ht => ?_,h0.uq,?_,h60⟩,?_,fun p hp => ?_,fun m' t ht => ?_⟩
 ·show ((if m' = b then inc (g.K m') (b:Int) else g.K m').length = 5) ∧ ∀ a,a < 5 → (if m' = b then inc (g.K m') (b:Int) else g.K m').getD a 0 = hc (g.H ++ [e]) m' a (g.H ++ [e]).length
  rw [hlen]
  by_cases q:m' = b
  ·subst q
   rw [if_pos rfl,inc_len]
   refine ⟨hk5,fun a ha => ?_⟩
   rw [inc_get hk5 hb5,hcn]
   by_cases q:a = m'
   ·subst q
    rw [if_pos rfl,if_pos ⟨rfl,rfl⟩,(h0.kk a ha).2 a ha]
   ·rw [if_neg q,if_neg (fun p => q p.2),(h0.kk m' hm').2 a ha,Int.add_zero]
  ·rw [if_neg q]
   refine ⟨(h0.kk m' hm').1,fun a ha => ?_⟩
   rw [hcn,if_neg (fun p => q p.1),(h0.kk m' hm').2 a ha,Int.add_zero]
 ·show W (g.H ++ [e]) i < g.n
  have hi':i < g.H.length + 1 := by rw [← hlen]; exact hi
  rcases Nat.lt_or_ge i g.H.length with q | q
  ·rw [W_app q]; exact h0.who i q
  ·obtain rfl:i = g.H.length := by omega
   rw [hWl]; exact hbn
 ·have ht':(if w = word then some ((b:Int),word,inc (g.K b) (b:Int)) else g.said w) = some t := ht
  by_cases q:w = word
  ·rw [if_pos q] at ht'
   have et := (Option.some.inj ht').symm
   subst et
   refine ⟨g.H.length,by show _ < (g.H ++ [e]).length; omega,?_,q.symm,by rw [inc_len]; exact hk5,fun a ha => ?_⟩
   ·show ev (g.H ++ [e]) g.H.length = _
    rw [hevl,ee,q]
   ·show (inc (g.K b) (b:Int)).getD a 0 = hc (g.H ++ [e]) (W (g.H ++ [e]) g.H.length) a (g.H.length + 1)
    rw [hWl,hcn,inc_get hk5 hb5]
    by_cases q2:a = b
    ·subst q2
     rw [if_pos rfl,if_pos ⟨rfl,rfl⟩,(h0.kk a ha).2 a ha]
    ·rw [if_neg q2,if_neg (fun p => q2 p.2),(h0.kk b hb5).2 a ha,Int.add_zero]
  ·rw [if_neg q] at ht'
   obtain ⟨i,hi,a1,a2,a3,a4⟩ := h0.sd w t ht'
   refine ⟨i,by show i < (g.H ++ [e]).length; omega,?_,a2,a3,fun a ha => ?_⟩
   ·show ev (g.H ++ [e]) i = _
    rw [ev_app hi,a1]
   ·show _ = hc (g.H ++ [e]) (W (g.H ++ [e]) i) a (i + 1)
    rw [W_app hi,hc_app h0.good _ _ _ hi,a4 a ha]
 ·have hi2':(ev (g.H ++ [e]) i).2.1 = 2 := hi2
  have hi':i < g.H.length + 1 := by rw [← hlen]; exact hi
  show ((if (ev (g.H ++ [e]) i).2.2 = word then some ((b:Int),word,inc (g.K b) (b:Int)) else g.said (ev (g.H ++ [e]) i).2.2)).isSome = true
  by_cases qw:(ev (g.H ++ [e]) i).2.2 = word
  ·rw [if_pos qw]; rfl
  ·rw [if_neg qw]
   rcases Nat.lt_or_ge i g.H.length with q | q
   ·rw [ev_app q] at hi2' ⊢
    exact h0.ds i q hi2'
   ·obtain rfl:i = g.H.length := by omega
    rw [hevl,ee] at qw
    exact absurd rfl qw
 ·obtain ⟨w1,w2,w3,w4⟩ := h0.wt m' t ht
  have hne:t.2.1 ≠ word := fun q => by rw [q,hsaid] at w1; cases w1
  show (if t.2.1 = word then some ((b:Int),word,inc (g.K b) (b:Int)) else g.said t.2.1) = some t ∧ t.1 ≠ (m':Int) ∧ m' < g.n ∧ (if m' = b then inc (g.K m') (b:Int) else g.K m').getD t.1.toNat 0 < t.2.2.getD t.1.toNat 0
  rw [if_neg hne]
  refine ⟨w1,w2,w3,?_⟩
  by_cases q:m' = b
  ·subst q
   have h5' := (h0.kk m' hb5).1
   rw [if_pos rfl,inc_get h5' hb5,if_neg]
   ·exact w4
   ·have := (h0.sdOk w1).who
    omega
  ·rw [if_neg q]; exact w4
 ·show ((g.many + 1:Nat):Int) = nS (g.H ++ [e]) (g.H ++ [e]).length
  rw [hlen]
  show _ = nS (g.H ++ [e]) g.H.length + if (ev (g.H ++ [e]) g.H.length).2.1 = 2 then 1 else 0
  rw [hevl,if_pos (by rw [ee])]
  have e1 := h0.mn
  rw [nS_hc h0.good h0.turn _ (Nat.le_refl _)] at e1
  rw [nS_hc hgood hturn _ (by omega)]
  have e2:(S5 fun a => hc (g.H ++ [e]) a a g.H.length) = S5 fun a => hc g.H a a g.H.length := S5_same fun a ha => (hc_app h0.good _ _ _ (Nat.le_refl _))
  omega
 ·show NInv (g.l ++ pks g.n (b:Int) word)
  refine ⟨fun p hp => ?_,by rw [List.length_append,pks_len hn5 hbn]; exact hroom⟩
  rcases List.mem_append.1 hp with a | a
  ·exact h.net.ok p a
  ·obtain ⟨i,hi,hne,rfl⟩ := pks_mem.1 a
   refine ⟨?_,fun q => hne q.symm⟩
   simp [pkBad]
   omega
 ·have hp':p ∈ g.l ++ pks g.n (b:Int) word := hp
  show (0 ≤ p.2.1 ∧ p.2.1 < (g.n:Int)) ∧ ∃ s,(if p.2.2 = word then some ((b:Int),word,inc (g.K b) (b:Int)) else g.said p.2.2) = some s ∧ s.1 = p.1
  rcases List.mem_append.1 hp' with a | a
  ·obtain ⟨q1,s,q2,q3⟩ := h.way p a
   refine ⟨q1,s,?_,q3⟩
   rw [if_neg]
   ·exact q2
   ·intro q
    rw [q,hsaid] at q2
    cases q2
  ·obtain ⟨i,hi,hne,rfl⟩ := pks_mem.1 a
   refine ⟨by show (0:Int) ≤ (i:Int) ∧ (i:Int) < _; omega,_,if_pos rfl,rfl⟩
 ·show rdy (if m' = b then inc (g.K m') (b:Int) else g.K m') t = false
  by_cases q:m' = b
  ·subst q
   rw [if_pos rfl]
   have ht':t ∈ g.ws m' := ht
   have hno := h.nr m' t ht'
   obtain ⟨w1,w2,w3,w4⟩ := h0.wt m' t ht'
   obtain ⟨j,hj,_,_,f1,_,_,_,_,fcl,_,_⟩ := h0.word w1
   rw [Bool.eq_false_iff] at hno ⊢
   intro hr
   apply hno
   rw [Cau.rdy_iff] at hr ⊢
   intro i hi
   have hri := hr i hi
   by_cases qi:(i:Int) = t.1
   ·rw [Cau.rdyAt_own qi] at hri ⊢
    have hri := of_decide_eq_true hri
    rw [inc_get (h0.kk m' hb5).1 hb5,if_neg (by omega)] at hri
    exact decide_eq_true hri
   ·rw [Cau.rdyAt_other qi] at hri ⊢
    have hri := of_decide_eq_true hri
    rw [inc_get (h0.kk m' hb5).1 hb5] at hri
    by_cases qm:i = m'
    ·subst qm
     have h1 := fcl i hb5
     have h2 := hc_le h0.good h0.turn (W g.H j) hb5 (j + 1) hj
     have h3 := hc_mono g.H i i (show j + 1 ≤ g.H.length by omega)
     have h4 := (h0.kk i hb5).2 i hb5
     exact decide_eq_true (by omega)
    ·rw [if_neg qm] at hri
     exact decide_eq_true hri
  ·rw [if_neg q]
   exact h.nr m' t ht
theorem most_heard (h:GI g):nH g.H g.H.length ≤ nS g.H g.H.length * ((g.n:Int) - 1) := heard_le h.i0.good h.i0.turn h.i0.n2.1 h.i0.n2.2 h.i0.who
theorem nS_nH {h:List Ev} (hg:His.Good h h.length) (ht:Turn h):∀ n,n ≤ h.length → nS h n + nH h n = n := by
 intro n
 induction n with
 | zero => intro _; rfl
 | succ n ih =>
  intro hn
  have hn':n < h.length := hn
  have := ih (by omega)
  show nS h n + _ + (nH h n + _) = _
  rcases ev_what hg ht hn' with a | a
  ·rw [if_pos a,if_neg (by omega)]; omega
  ·rw [if_neg (by omega),if_pos a]; omega
theorem len60 (h:GI g):g.H.length ≤ 60 := by
 have h0 := h.i0
 have e1 := nS_nH h0.good h0.turn g.H.length (Nat.le_refl _)
 have e2 := most_heard h
 have e3 := h0.mn
 have e4 := h0.m60
 rw [← e3] at e1 e2
 have hn := h0.n2
 have e5:((g.many * g.n:Nat):Int) ≤ 60 := by omega
 rw [Int.natCast_mul] at e5
 have e6:(g.many:Int) * ((g.n:Int) - 1) = (g.many:Int) * (g.n:Int) - (g.many:Int) := by rw [Int.mul_sub,Int.mul_one]
 rw [e6] at e2
 omega
theorem faces_ok (h:GI g):His.Good g.H g.H.length ∧ causB g.H = true ∧ fifoB g.H = true := by
 have hc := turn_caus h.i0.good h.i0.turn
 exact ⟨h.i0.good,hc,caus_fifo h.i0.good hc⟩
end Go.Proofs.YtdmniblonikjlakGreatDoor.Cas
