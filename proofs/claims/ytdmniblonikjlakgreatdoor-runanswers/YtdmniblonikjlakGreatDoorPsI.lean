/-
  Texts put together: CasR, CasT.
-/
import Derived.Test.YtdmniblonikjlakGreatDoorPsF
import Derived.Test.YtdmniblonikjlakGreatDoorPsH
import Derived.Test.YtdmniblonikjlakGreatDoorPrB
import Derived.Laws.ResultCell
import Derived.WalkLawsBesides
import Derived.Deep.RegionLaw


namespace Go.Proofs.YtdmniblonikjlakGreatDoor.Cas
open Go.RowKit
open Net (Pk pk RN Po)
open Cau (Sd Es toSd RC Old Keep flatE)
open Fif (own_lt own_block own_form own_mono Kp)
open His (Ev)
set_option linter.unusedVariables false
def tyOf (w:World) (b:Nat):Option TypeId := match w.heap[b]? with
 | some (.cells _ t _) => some t
 | _ => none
theorem ty_row {w:World} {b:Nat} {t:TypeId} {n:Nat} {f:Nat → Value} (h:w.rowIs b t n f):tyOf w b = some t := by
 obtain ⟨c,hc,_⟩ := h
 unfold tyOf
 rw [hc]
theorem ty_own {w:World} {base:Nat} {t:TypeId} {s n:Nat} {v:Value} {xs:List Value} (h:w.ownsRow base t s v n xs) {k:Nat} (hk:v.ownBlock = some k):tyOf w k = some t := by
 rcases h.2 with ⟨h2,_⟩ | ⟨g',cap',cur,hv,_,hh,_⟩
 ·rw [h2] at hk; cases hk
 ·rw [hv] at hk
  have:g' = k := by simpa [Value.ownBlock] using hk
  subst this
  unfold tyOf
  rw [hh]
theorem ty_ne {w:World} {a b:Nat} {t1 t2:TypeId} (h1:tyOf w a = some t1) (h2:tyOf w b = some t2) (hn:t1 ≠ t2):a ≠ b := by
 intro e
 rw [e,h2] at h1
 exact hn (Option.some.inj h1).symm
theorem ty_same {w w':World} {b:Nat} (h:w'.heap[b]? = w.heap[b]?):tyOf w' b = tyOf w b := by
 unfold tyOf
 rw [h]
structure Loc where
 vm:Value
 P:Nat → Nat
 Q:Nat
 vN:Value
 vH:Value
 es:Nat → List Es
 vs:Nat → Value
 at_:Int → Nat × Nat × Nat
 cl:List Nat
def saidV (g:G) (d:Loc) (x:Int) (r:Nat):Value := match g.said x with
 | none => if r = 2 then .slice none 0 0 else .int .i64 0
 | some s => if r = 0 then .int .i64 s.1 else if r = 1 then .int .i64 s.2.1 else .slice (some ⟨(d.at_ x).1,(d.at_ x).2.1,none⟩) 5 (d.at_ x).2.2
def cgv (g:G) (d:Loc) (j:Nat):Value := if j = 0 then d.vm else if j = 1 then .pointer (some ⟨d.Q,0,none⟩) else if j = 95 then .int .i64 (g.many:Int) else if j = 96 then d.vH else saidV g d (((j - 2) / 3:Nat):Int) ((j - 2) % 3)
def ptrs (d:Loc) (n:Nat):List Value := (List.range n).map fun i => .pointer (some ⟨d.P i,0,none⟩)
structure RG (w:World) (base C:Nat) (g:G) (d:Loc):Prop where
 row:w.rowIs C 130 97 (cgv g d)
 mem:w.ownsRow base 131 1 d.vm g.n (ptrs d g.n)
 rc:∀ i,i < g.n → RC w base (· ∈ d.cl) (d.P i) (i:Int) (g.K i) (d.es i) (d.vs i) ∧ (d.es i).map toSd = g.ws i
 rn:RN w base d.Q (fun _ _ => false) g.l d.vN
 evs:w.ownsRow base 40 3 d.vH g.H.length (Net.flat g.H)
 clk:∀ x s,g.said x = some s → Old w (· ∈ d.cl) (some ⟨(d.at_ x).1,(d.at_ x).2.1,none⟩) s.2.2
 cty:∀ b ∈ d.cl,tyOf w b = some 3 ∧ base ≤ b ∧ b < w.heap.size
 sep:∀ i j,i < g.n → j < g.n → i ≠ j → d.P i ≠ d.P j ∧ ∀ k,(d.vs i).ownBlock = some k → (d.vs j).ownBlock ≠ some k
 low:base ≤ C
def Fp (C n:Nat) (d:Loc) (b:Nat):Prop := b = C ∨ b = d.Q ∨ d.vm.ownBlock = some b ∨ d.vN.ownBlock = some b ∨ d.vH.ownBlock = some b ∨ (∃ i,i < n ∧ (b = d.P i ∨ (d.vs i).ownBlock = some b)) ∨ b ∈ d.cl
variable {w w':World} {base C:Nat} {g:G} {d:Loc}
theorem RG.tyC (h:RG w base C g d):tyOf w C = some 130 := ty_row h.row
theorem RG.tyQ (h:RG w base C g d):tyOf w d.Q = some 126 := ty_row h.rn.row
theorem RG.tyP (h:RG w base C g d) {i:Nat} (hi:i < g.n):tyOf w (d.P i) = some 134 := ty_row (h.rc i hi).1.row
theorem RG.tyM (h:RG w base C g d) {k:Nat} (hk:d.vm.ownBlock = some k):tyOf w k = some 131 := ty_own h.mem hk
theorem RG.tyN (h:RG w base C g d) {k:Nat} (hk:d.vN.ownBlock = some k):tyOf w k = some 83 := ty_own h.rn.own hk
theorem RG.tyH (h:RG w base C g d) {k:Nat} (hk:d.vH.ownBlock = some k):tyOf w k = some 40 := ty_own h.evs hk
theorem RG.tyS (h:RG w base C g d) {i:Nat} (hi:i < g.n) {k:Nat} (hk:(d.vs i).ownBlock = some k):tyOf w k = some 51 := ty_own (h.rc i hi).1.own hk
theorem RG.fp (h:RG w base C g d) {b:Nat} (hb:Fp C g.n d b):base ≤ b ∧ b < w.heap.size := by
 rcases hb with rfl | rfl | hb | hb | hb | ⟨i,hi,rfl | hb⟩ | hb
 ·exact ⟨h.low,World.rowIs.lt h.row⟩
 ·exact ⟨h.rn.low,World.rowIs.lt h.rn.row⟩
 ·exact own_lt h.mem b hb
 ·exact own_lt h.rn.own b hb
 ·exact own_lt h.evs b hb
 ·exact ⟨(h.rc i hi).1.low,World.rowIs.lt (h.rc i hi).1.row⟩
 ·exact own_lt (h.rc i hi).1.own b hb
 ·exact (h.cty b hb).2
theorem RG.of_blocks (h:RG w base C g d) (hs:w.heap.size ≤ w'.heap.size) (hk:∀ b,Fp C g.n d b → w'.heap[b]? = w.heap[b]?):RG w' base C g d := by
 have kc:Keep (· ∈ d.cl) w w' := fun b hb => hk b (.inr (.inr (.inr (.inr (.inr (.inr hb))))))
 refine ⟨World.rowIs.of_block h.row (hk C (.inl rfl)),own_block h.mem fun k q => hk k (.inr (.inr (.inl q))),fun i hi => ⟨?_,(h.rc i hi).2⟩,h.rn.of_blocks (hk _ (.inr (.inl rfl))) fun k q => hk k (.inr (.inr (.inr (.inl q)))),own_block h.evs fun k q => hk k (.inr (.inr (.inr (.inr (.inl q))))),fun x s q => (h.clk x s q).later kc,fun b hb => ?_,h.sep,h.low⟩
 ·exact (h.rc i hi).1.of_blocks hs kc (hk _ (.inr (.inr (.inr (.inr (.inr (.inl ⟨i,hi,.inl rfl⟩))))))) fun k q => hk k (.inr (.inr (.inr (.inr (.inr (.inl ⟨i,hi,.inr q⟩))))))
 ·rw [ty_same (kc b hb)]
  exact ⟨(h.cty b hb).1,(h.cty b hb).2.1,Nat.lt_of_lt_of_le (h.cty b hb).2.2 hs⟩
theorem RG.later (h:RG w base C g d) (hb:Below w.heap.size w w'):RG w' base C g d := h.of_blocks hb.size fun b q => hb.block b (h.fp q).2
structure CRes (w w':World) (base C:Nat) (g:G) (d:Loc) (g':G) (d':Loc):Prop where
 rg:RG w' base C g' d'
 bel:Below base w w'
 kp:∀ b,b < w.heap.size → ¬ Fp C g.n d b → w'.heap[b]? = w.heap[b]?
 new:∀ b,Fp C g'.n d' b → Fp C g.n d b ∨ w.heap.size ≤ b
theorem CRes.still (h:RG w base C g d) (hbw:base ≤ w.heap.size) (hb:Below w.heap.size w w'):CRes w w' base C g d g d := ⟨h.later hb,hb.mono hbw,fun b q _ => hb.block b q,fun b q => .inl q⟩
theorem CRes.trans {w1 w2:World} {g1 g2:G} {d1 d2:Loc} (h:CRes w w1 base C g d g1 d1) (h':CRes w1 w2 base C g1 d1 g2 d2):CRes w w2 base C g d g2 d2 := by
 refine ⟨h'.rg,h.bel.trans h'.bel,fun b hb hn => ?_,fun b hb => ?_⟩
 ·rw [h'.kp b (Nat.lt_of_lt_of_le hb h.bel.size) (fun q => ?_),h.kp b hb hn]
  rcases h.new b q with a | a
  ·exact hn a
  ·omega
 ·rcases h'.new b hb with a | a
  ·exact h.new b a
  ·exact .inr (Nat.le_trans h.bel.size a)
theorem CRes.later {w1 w2:World} {g1:G} {d1:Loc} (h:CRes w w1 base C g d g1 d1) (hbw:base ≤ w.heap.size) (hb:Below w1.heap.size w1 w2):CRes w w2 base C g d g1 d1 := h.trans (CRes.still h.rg (Nat.le_trans hbw h.bel.size) hb)
theorem RG.many (h:RG w base C g d) (m:Nat):CRes w (w.setCell ⟨C,95,none⟩ (.int .i64 (m:Int))) base C g d { g with many := m } d := by
 have hl := World.rowIs.lt h.row
 have hne:∀ b,b ≠ C → (w.setCell ⟨C,95,none⟩ (.int .i64 (m:Int))).heap[b]? = w.heap[b]? := fun b q => Deep.blk_setCell_other _ _ _ _ q
 have kc:Keep (· ∈ d.cl) w (w.setCell ⟨C,95,none⟩ (.int .i64 (m:Int))) := fun b hb => hne b (ty_ne (h.cty b hb).1 h.tyC (by decide))
 refine ⟨⟨(World.rowIs.set h.row 95 _).congr fun j hj => ?_,own_block h.mem fun k q => hne k (ty_ne (h.tyM q) h.tyC (by decide)),fun i hi => ⟨?_,(h.rc i hi).2⟩,h.rn.of_blocks (hne _ (ty_ne h.tyQ h.tyC (by decide))) fun k q => hne k (ty_ne (h.tyN q) h.tyC (by decide)),own_block h.evs fun k q => hne k (ty_ne (h.tyH q) h.tyC (by decide)),fun x s q => (h.clk x s q).later kc,fun b hb => ?_,h.sep,h.low⟩,(Below.refl base w).setCell (p := ⟨C,95,none⟩) h.low _,fun b hb hn => hne b (fun e => hn (.inl e)),fun b hb => .inl hb⟩
 ·unfold cgv
  by_cases e:j = 95
  ·subst e
   rw [if_pos rfl,if_neg (by omega),if_neg (by omega),if_pos rfl]
  ·rw [if_neg e,if_neg e,if_neg e]
   rfl
 ·exact (h.rc i hi).1.of_blocks (by simp [World.setCell]) kc (hne _ (ty_ne (h.tyP hi) h.tyC (by decide))) fun k q => hne k (ty_ne (h.tyS hi q) h.tyC (by decide))
 ·rw [ty_same (kc b hb)]
  exact ⟨(h.cty b hb).1,(h.cty b hb).2.1,by simpa [World.setCell] using (h.cty b hb).2.2⟩
theorem RG.member (h:RG w base C g d) {i:Nat} (hi:i < g.n) {r:Option Nat} {K':List Int} {es':List Es} {v':Value} (hk:Kp w w' (d.P i) r) (hb:Below base w w') (hr:∀ k,r = some k → (d.vs i).ownBlock = some k) (hc:RC w' base (· ∈ d.cl) (d.P i) (i:Int) K' es' v') (hv:∀ k,v'.ownBlock = some k → (d.vs i).ownBlock = some k ∨ w.heap.size ≤ k) :
  CRes w w' base C g d (upd g i K' (es'.map toSd) g.H) { d with es := fun j => if j = i then es' else d.es j,vs := fun j => if j = i then v' else d.vs j } := by
 have hne:∀ b,b < w.heap.size → b ≠ d.P i → (d.vs i).ownBlock ≠ some b → w'.heap[b]? = w.heap[b]? := fun b q1 q2 q3 => hk.2 b q1 q2 fun e => q3 (hr b e.symm)
 have hty:∀ {b:Nat} {t:TypeId},tyOf w b = some t → b < w.heap.size → t ≠ 134 → t ≠ 51 → w'.heap[b]? = w.heap[b]? := fun {b t} q1 q2 q3 q4 => hne b q2 (ty_ne q1 (h.tyP hi) q3) fun e => ty_ne q1 (h.tyS hi e) q4 rfl
 have kc:Keep (· ∈ d.cl) w w' := fun b q => hty (h.cty b q).1 (h.cty b q).2.2 (by decide) (by decide)
 refine ⟨⟨World.rowIs.of_block h.row (hty h.tyC (World.rowIs.lt h.row) (by decide) (by decide)),own_block h.mem fun k q => hty (h.tyM q) (own_lt h.mem k q).2 (by decide) (by decide),fun j hj => ?_,h.rn.of_blocks (hty h.tyQ (World.rowIs.lt h.rn.row) (by decide) (by decide)) fun k q => hty (h.tyN q) (own_lt h.rn.own k q).2 (by decide) (by decide),own_block h.evs fun k q => hty (h.tyH q) (own_lt h.evs k q).2 (by decide) (by decide),fun x s q => (h.clk x s q).later kc,fun b q => ?_,fun j k hj hk' hjk => ⟨(h.sep j k hj hk' hjk).1,fun b hb' => ?_⟩,h.low⟩,hb,fun b q hn => hne b q (fun e => hn (.inr (.inr (.inr (.inr (.inr (.inl ⟨i,hi,.inl e⟩))))))) fun e => hn (.inr (.inr (.inr (.inr (.inr (.inl ⟨i,hi,.inr e⟩)))))),fun b q => ?_⟩
 ·show RC w' base (· ∈ d.cl) (d.P j) (j:Int) (if j = i then K' else g.K j) (if j = i then es' else d.es j) (if j = i then v' else d.vs j) ∧ (if j = i then es' else d.es j).map toSd = (if j = i then es'.map toSd else g.ws j)
  by_cases e:j = i
  ·subst e
   rw [if_pos rfl,if_pos rfl,if_pos rfl,if_pos rfl]
   exact ⟨hc,rfl⟩
  ·rw [if_neg e,if_neg e,if_neg e,if_neg e]
   have hs := h.sep j i hj hi e
   exact ⟨(h.rc j hj).1.of_blocks hk.1 kc (hne _ (World.rowIs.lt (h.rc j hj).1.row) hs.1 fun q => ty_ne (h.tyP hj) (h.tyS hi q) (by decide) rfl) fun k q => hne k (own_lt (h.rc j hj).1.own k q).2 (ty_ne (h.tyS hj q) (h.tyP hi) (by decide)) (hs.2 k q),(h.rc j hj).2⟩
 ·rw [ty_same (kc b q)]
  exact ⟨(h.cty b q).1,(h.cty b q).2.1,Nat.lt_of_lt_of_le (h.cty b q).2.2 hk.1⟩
 ·have hb'':(if j = i then v' else d.vs j).ownBlock = some b := hb'
  show (if k = i then v' else d.vs k).ownBlock ≠ some b
  by_cases e:j = i
  ·subst e
   rw [if_pos rfl] at hb''
   rw [if_neg (fun q => hjk q.symm)]
   rcases hv b hb'' with a | a
   ·exact (h.sep j k hj hk' hjk).2 b a
   ·intro q
    have := (own_lt (h.rc k hk').1.own b q).2
    omega
  ·rw [if_neg e] at hb''
   by_cases e2:k = i
   ·subst e2
    rw [if_pos rfl]
    intro q
    rcases hv b q with a | a
    ·exact (h.sep j k hj hk' hjk).2 b hb'' a
    ·have := (own_lt (h.rc j hj).1.own b hb'').2
     omega
   ·rw [if_neg e2]
    exact (h.sep j k hj hk' hjk).2 b hb''
 ·rcases q with a | a | a | a | a | ⟨j,hj,a⟩ | a
  ·exact .inl (.inl a)
  ·exact .inl (.inr (.inl a))
  ·exact .inl (.inr (.inr (.inl a)))
  ·exact .inl (.inr (.inr (.inr (.inl a))))
  ·exact .inl (.inr (.inr (.inr (.inr (.inl a)))))
  ·rcases a with a | a
   ·exact .inl (.inr (.inr (.inr (.inr (.inr (.inl ⟨j,hj,.inl a⟩))))))
   ·have a':(if j = i then v' else d.vs j).ownBlock = some b := a
    by_cases e:j = i
    ·subst e
     rw [if_pos rfl] at a'
     rcases hv b a' with c | c
     ·exact .inl (.inr (.inr (.inr (.inr (.inr (.inl ⟨j,hj,.inr c⟩))))))
     ·exact .inr c
    ·rw [if_neg e] at a'
     exact .inl (.inr (.inr (.inr (.inr (.inr (.inl ⟨j,hj,.inr a'⟩))))))
  ·exact .inl (.inr (.inr (.inr (.inr (.inr (.inr a))))))
theorem RG.net (h:RG w base C g d) {r:Option Nat} {l':List Pk} {v':Value} (hk:Kp w w' d.Q r) (hb:Below base w w') (hr:∀ k,r = some k → d.vN.ownBlock = some k) (hn:RN w' base d.Q (fun _ _ => false) l' v') (hv:∀ k,v'.ownBlock = some k → d.vN.ownBlock = some k ∨ w.heap.size ≤ k) :
  CRes w w' base C g d (setL g l') { d with vN := v' } := by
 have hne:∀ b,b < w.heap.size → b ≠ d.Q → d.vN.ownBlock ≠ some b → w'.heap[b]? = w.heap[b]? := fun b q1 q2 q3 => hk.2 b q1 q2 fun e => q3 (hr b e.symm)
 have hty:∀ {b:Nat} {t:TypeId},tyOf w b = some t → b < w.heap.size → t ≠ 126 → t ≠ 83 → w'.heap[b]? = w.heap[b]? := fun {b t} q1 q2 q3 q4 => hne b q2 (ty_ne q1 h.tyQ q3) fun e => ty_ne q1 (h.tyN e) q4 rfl
 have kc:Keep (· ∈ d.cl) w w' := fun b q => hty (h.cty b q).1 (h.cty b q).2.2 (by decide) (by decide)
 refine ⟨⟨World.rowIs.of_block h.row (hty h.tyC (World.rowIs.lt h.row) (by decide) (by decide)),own_block h.mem fun k q => hty (h.tyM q) (own_lt h.mem k q).2 (by decide) (by decide),fun j hj => ⟨(h.rc j hj).1.of_blocks hk.1 kc (hty (h.tyP hj) (World.rowIs.lt (h.rc j hj).1.row) (by decide) (by decide)) fun k q => hty (h.tyS hj q) (own_lt (h.rc j hj).1.own k q).2 (by decide) (by decide),(h.rc j hj).2⟩,hn,own_block h.evs fun k q => hty (h.tyH q) (own_lt h.evs k q).2 (by decide) (by decide),fun x s q => (h.clk x s q).later kc,fun b q => ?_,h.sep,h.low⟩,hb,fun b q hn => hne b q (fun e => hn (.inr (.inl e))) fun e => hn (.inr (.inr (.inr (.inl e)))),fun b q => ?_⟩
 ·rw [ty_same (kc b q)]
  exact ⟨(h.cty b q).1,(h.cty b q).2.1,Nat.lt_of_lt_of_le (h.cty b q).2.2 hk.1⟩
 ·rcases q with a | a | a | a | a | a | a
  ·exact .inl (.inl a)
  ·exact .inl (.inr (.inl a))
  ·exact .inl (.inr (.inr (.inl a)))
  ·rcases hv b a with c | c
   ·exact .inl (.inr (.inr (.inr (.inl c))))
   ·exact .inr c
  ·exact .inl (.inr (.inr (.inr (.inr (.inl a)))))
  ·exact .inl (.inr (.inr (.inr (.inr (.inr (.inl a))))))
  ·exact .inl (.inr (.inr (.inr (.inr (.inr (.inr a))))))
theorem RG.hist (h:RG w base C g d) {w1:World} {H':List Ev} {v':Value} (hg:w.grownBy w1 d.vH.ownBlock) (hbw:base ≤ w.heap.size) (ho:w1.ownsRow base 40 3 v' H'.length (Net.flat H')) (hv:∀ k,v'.ownBlock = some k → d.vH.ownBlock = some k ∨ w.heap.size ≤ k) :
  CRes w (w1.setCell ⟨C,96,none⟩ v') base C g d { g with H := H' } { d with vH := v' } := by
 have hl := World.rowIs.lt h.row
 have hC1:w1.heap[C]? = w.heap[C]? := hg.block C hl fun e => ty_ne h.tyC (h.tyH e.symm) (by decide) rfl
 have hne:∀ b,b < w.heap.size → b ≠ C → d.vH.ownBlock ≠ some b → (w1.setCell ⟨C,96,none⟩ v').heap[b]? = w.heap[b]? := fun b q1 q2 q3 => (Deep.blk_setCell_other _ _ _ _ q2).trans (hg.block b q1 fun e => q3 e.symm)
 have hty:∀ {b:Nat} {t:TypeId},tyOf w b = some t → b < w.heap.size → t ≠ 130 → t ≠ 40 → (w1.setCell ⟨C,96,none⟩ v').heap[b]? = w.heap[b]? := fun {b t} q1 q2 q3 q4 => hne b q2 (ty_ne q1 h.tyC q3) fun e => ty_ne q1 (h.tyH e) q4 rfl
 have kc:Keep (· ∈ d.cl) w (w1.setCell ⟨C,96,none⟩ v') := fun b q => hty (h.cty b q).1 (h.cty b q).2.2 (by decide) (by decide)
 have hs:w.heap.size ≤ (w1.setCell ⟨C,96,none⟩ v').heap.size := by simpa [World.setCell] using hg.size
 refine ⟨⟨(World.rowIs.set (World.rowIs.of_block h.row hC1) 96 _).congr fun j hj => ?_,own_block h.mem fun k q => hty (h.tyM q) (own_lt h.mem k q).2 (by decide) (by decide),fun j hj => ⟨(h.rc j hj).1.of_blocks hs kc (hty (h.tyP hj) (World.rowIs.lt (h.rc j hj).1.row) (by decide) (by decide)) fun k q => hty (h.tyS hj q) (own_lt (h.rc j hj).1.own k q).2 (by decide) (by decide),(h.rc j hj).2⟩,h.rn.of_blocks (hty h.tyQ (World.rowIs.lt h.rn.row) (by decide) (by decide)) fun k q => hty (h.tyN q) (own_lt h.rn.own k q).2 (by decide) (by decide),own_block ho fun k q => Deep.blk_setCell_other _ _ _ _ (ty_ne (ty_own ho q) ((ty_same hC1).trans h.tyC) (by decide)),fun x s q => (h.clk x s q).later kc,fun b q => ?_,h.sep,h.low⟩,((Below.refl base w).grown hg hbw fun k q => (own_lt h.evs k q).1).setCell (p := ⟨C,96,none⟩) h.low _,fun b q hn => hne b q (fun e => hn (.inl e)) fun e => hn (.inr (.inr (.inr (.inr (.inl e))))),fun b q => ?_⟩
 ·unfold cgv
  by_cases e:j = 96
  ·subst e
   rw [if_pos rfl,if_neg (by omega),if_neg (by omega),if_neg (by omega),if_pos rfl]
  ·rw [if_neg e,if_neg e,if_neg e]
   rfl
 ·rw [ty_same (kc b q)]
  exact ⟨(h.cty b q).1,(h.cty b q).2.1,Nat.lt_of_lt_of_le (h.cty b q).2.2 hs⟩
 ·rcases q with a | a | a | a | a | a | a
  ·exact .inl (.inl a)
  ·exact .inl (.inr (.inl a))
  ·exact .inl (.inr (.inr (.inl a)))
  ·exact .inl (.inr (.inr (.inr (.inl a))))
  ·rcases hv b a with c | c
   ·exact .inl (.inr (.inr (.inr (.inr (.inl c)))))
   ·exact .inr c
  ·exact .inl (.inr (.inr (.inr (.inr (.inr (.inl a))))))
  ·exact .inl (.inr (.inr (.inr (.inr (.inr (.inr a))))))
end Go.Proofs.YtdmniblonikjlakGreatDoor.Cas


namespace Go.Proofs.YtdmniblonikjlakGreatDoor.Cas
open Go.RowKit
open Net (Pk pk RN Po NInv)
open Cau (Sd Es toSd RC Old Keep flatE inc)
open Fif (own_lt own_block own_form own_mono Kp)
open His (Ev)
set_option linter.unusedVariables false
variable {w w':World} {base C:Nat} {g:G} {d:Loc}
theorem rc_more {F F':Nat → Prop} {P:Nat} {me:Int} {K:List Int} {es:List Es} {v:Value} (h:RC w base F P me K es v) (hm:∀ x,F x → F' x) (hP:¬ F' P) (hV:∀ k,v.ownBlock = some k → ¬ F' k) (hl:∀ x,F' x → x < w.heap.size):RC w base F' P me K es v := by
 refine ⟨h.row,h.own,fun e he => ?_,h.five,h.low,hP,hV,hl⟩
 obtain ⟨b,off,e1,e2,e3⟩ := h.old e he
 exact ⟨b,off,e1,hm b e2,e3⟩
theorem RG.said0 (h:RG w base C g d) {x r:Nat} (hx:x ≤ 30) (hr:r < 3):w.cell? ⟨C,2 + x * 3 + r,none⟩ = some (saidV g d (x:Int) r) ∧ w.frozen? ⟨C,2 + x * 3 + r,none⟩ = false := by
 have q := World.rowIs.cell h.row (i := 2 + x * 3 + r) (by omega)
 rw [cgv,if_neg (by omega),if_neg (by omega),if_neg (by omega),if_neg (by omega),show (2 + x * 3 + r - 2) / 3 = x by omega,show (2 + x * 3 + r - 2) % 3 = r by omega] at q
 exact ⟨q,World.rowIs.frozen h.row _⟩
theorem RG.c0 (h:RG w base C g d):w.cell? ⟨C,0,none⟩ = some d.vm ∧ w.frozen? ⟨C,0,none⟩ = false := ⟨World.rowIs.cell h.row (i := 0) (by omega),World.rowIs.frozen h.row 0⟩
theorem RG.c1 (h:RG w base C g d):w.cell? ⟨C,1,none⟩ = some (.pointer (some ⟨d.Q,0,none⟩)) ∧ w.frozen? ⟨C,1,none⟩ = false := ⟨World.rowIs.cell h.row (i := 1) (by omega),World.rowIs.frozen h.row 1⟩
theorem RG.c95 (h:RG w base C g d):w.cell? ⟨C,95,none⟩ = some (.int .i64 (g.many:Int)) ∧ w.frozen? ⟨C,95,none⟩ = false := ⟨World.rowIs.cell h.row (i := 95) (by omega),World.rowIs.frozen h.row 95⟩
theorem RG.c96 (h:RG w base C g d):w.cell? ⟨C,96,none⟩ = some d.vH ∧ w.frozen? ⟨C,96,none⟩ = false := ⟨World.rowIs.cell h.row (i := 96) (by omega),World.rowIs.frozen h.row 96⟩
theorem CRes.word {w0:World} {g0:G} {d0:Loc} (h0:CRes w0 w base C g0 d0 g d) {x:Nat} (hx:x ≤ 30) {b cap:Nat} {who:Int} {clk:List Int} (hcl:w.ownsRow base 3 1 (.slice (some ⟨b,0,none⟩) 5 cap) 5 (clk.map (Value.int .i64))) (hb:b ∉ d.cl) (hb0:w0.heap.size ≤ b) :
  CRes w0 (((w.setCell ⟨C,2 + x * 3,none⟩ (.int .i64 who)).setCell ⟨C,2 + x * 3 + 1,none⟩ (.int .i64 (x:Int))).setCell ⟨C,2 + x * 3 + 2,none⟩ (.slice (some ⟨b,0,none⟩) 5 cap)) base C g0 d0
   { g with said := fun y => if y = (x:Int) then some (who,(x:Int),clk) else g.said y } { d with at_ := fun y => if y = (x:Int) then (b,0,cap) else d.at_ y,cl := b :: d.cl } := by
 have h := h0.rg
 obtain ⟨w3,ew3⟩:∃ w3,w3 = ((w.setCell ⟨C,2 + x * 3,none⟩ (.int .i64 who)).setCell ⟨C,2 + x * 3 + 1,none⟩ (.int .i64 (x:Int))).setCell ⟨C,2 + x * 3 + 2,none⟩ (.slice (some ⟨b,0,none⟩) 5 cap) := ⟨_,rfl⟩
 have r3 := ((World.rowIs.set h.row (2 + x * 3) (.int .i64 who)).set (2 + x * 3 + 1) (.int .i64 (x:Int))).set (2 + x * 3 + 2) (.slice (some ⟨b,0,none⟩) 5 cap)
 have hne:∀ k,k ≠ C → w3.heap[k]? = w.heap[k]? := fun k q => by
  rw [ew3]
  exact ((Deep.blk_setCell_other _ _ _ _ q).trans (Deep.blk_setCell_other _ _ _ _ q)).trans (Deep.blk_setCell_other _ _ _ _ q)
 have hs:w3.heap.size = w.heap.size := by rw [ew3]; simp [World.setCell]
 have hbw:Below base w w3 := by
  rw [ew3]
  exact (((Below.refl base w).setCell (p := ⟨C,2 + x * 3,none⟩) h.low _).setCell (p := ⟨C,2 + x * 3 + 1,none⟩) h.low _).setCell (p := ⟨C,2 + x * 3 + 2,none⟩) h.low _
 rw [← ew3] at r3 ⊢
 have tyb:tyOf w b = some 3 := ty_own hcl rfl
 have hbl := own_lt hcl b rfl
 have tyc:∀ y ∈ b :: d.cl,tyOf w y = some 3 ∧ base ≤ y ∧ y < w.heap.size := by
  intro y hy
  rcases List.mem_cons.1 hy with rfl | hy
  ·exact ⟨tyb,hbl⟩
  ·exact h.cty y hy
 have kc:Keep (· ∈ b :: d.cl) w w3 := fun y hy => hne y (ty_ne (tyc y hy).1 h.tyC (by decide))
 refine ⟨⟨r3.congr fun j hj => ?_,own_block h.mem fun k q => hne k (ty_ne (h.tyM q) h.tyC (by decide)),fun i hi => ⟨?_,(h.rc i hi).2⟩,h.rn.of_blocks (hne _ (ty_ne h.tyQ h.tyC (by decide))) fun k q => hne k (ty_ne (h.tyN q) h.tyC (by decide)),own_block h.evs fun k q => hne k (ty_ne (h.tyH q) h.tyC (by decide)),fun y s q => ?_,fun y hy => ?_,h.sep,h.low⟩,h0.bel.trans hbw,fun y hy hn => ?_,fun y hy => ?_⟩
 ·unfold cgv saidV
  by_cases e2:j = 2 + x * 3 + 2
  ·subst e2
   rw [if_pos rfl,if_neg (by omega),if_neg (by omega),if_neg (by omega),if_neg (by omega),show (2 + x * 3 + 2 - 2) / 3 = x by omega,show (2 + x * 3 + 2 - 2) % 3 = 2 by omega]
   simp
  ·rw [if_neg e2]
   by_cases e1:j = 2 + x * 3 + 1
   ·subst e1
    rw [if_pos rfl,if_neg (by omega),if_neg (by omega),if_neg (by omega),if_neg (by omega),show (2 + x * 3 + 1 - 2) / 3 = x by omega,show (2 + x * 3 + 1 - 2) % 3 = 1 by omega]
    simp
   ·rw [if_neg e1]
    by_cases e0:j = 2 + x * 3
    ·subst e0
     rw [if_pos rfl,if_neg (by omega),if_neg (by omega),if_neg (by omega),if_neg (by omega),show (2 + x * 3 - 2) / 3 = x by omega,show (2 + x * 3 - 2) % 3 = 0 by omega]
     simp
    ·rw [if_neg e0]
     by_cases z0:j = 0
     ·rw [if_pos z0,if_pos z0]
     ·rw [if_neg z0,if_neg z0]
      by_cases z1:j = 1
      ·rw [if_pos z1,if_pos z1]
      ·rw [if_neg z1,if_neg z1]
       by_cases z2:j = 95
       ·rw [if_pos z2,if_pos z2]
       ·rw [if_neg z2,if_neg z2]
        by_cases z3:j = 96
        ·rw [if_pos z3,if_pos z3]
        ·rw [if_neg z3,if_neg z3]
         have hn:¬ ((((j - 2) / 3:Nat):Int) = (x:Int)) := by omega
         show (match g.said (((j - 2) / 3:Nat):Int) with | none => _ | some s => _) = (match (if (((j - 2) / 3:Nat):Int) = (x:Int) then some (who,(x:Int),clk) else g.said (((j - 2) / 3:Nat):Int)) with | none => _ | some s => _)
         rw [if_neg hn]
         simp only [if_neg hn]
         rfl
 ·have hc := (h.rc i hi).1.of_blocks (w' := w3) (by omega) (fun y hy => kc y (List.mem_cons_of_mem _ hy)) (hne _ (ty_ne (h.tyP hi) h.tyC (by decide))) fun k q => hne k (ty_ne (h.tyS hi q) h.tyC (by decide))
  exact rc_more hc (fun y hy => List.mem_cons_of_mem _ hy) (fun q => ty_ne (tyc _ q).1 (h.tyP hi) (by decide) rfl) (fun k q q2 => ty_ne (tyc k q2).1 (h.tyS hi q) (by decide) rfl) (fun y hy => by rw [hs]; exact (tyc y hy).2.2)
 ·have q':(if y = (x:Int) then some (who,(x:Int),clk) else g.said y) = some s := q
  show Old w3 (· ∈ b :: d.cl) (some ⟨(if y = (x:Int) then (b,0,cap) else d.at_ y).1,(if y = (x:Int) then (b,0,cap) else d.at_ y).2.1,none⟩) s.2.2
  by_cases e:y = (x:Int)
  ·rw [if_pos e] at q'
   rw [if_pos e]
   have es := (Option.some.inj q').symm
   subst es
   refine ⟨b,0,rfl,List.mem_cons_self ..,?_,fun k hk => ?_⟩
   ·have := hcl.1
    simpa using this
   ·obtain ⟨a,c,e1,e2⟩ := Fif.own_vw hcl
    cases e1
    obtain ⟨b',o',e3,_,hcc⟩ := e2.2 (by omega)
    cases e3
    exact (World.cell?_of_block (a := ⟨b,0 + k,none⟩) (hne b (ty_ne tyb h.tyC (by decide)))).trans (hcc k hk)
  ·rw [if_neg e] at q'
   rw [if_neg e]
   obtain ⟨b',off,e1,e2,e3⟩ := (h.clk y s q').later (w' := w3) fun z hz => kc z (List.mem_cons_of_mem _ hz)
   exact ⟨b',off,e1,List.mem_cons_of_mem _ e2,e3⟩
 ·rw [ty_same (kc y hy),hs]
  exact tyc y hy
 ·have hyw:y < w.heap.size := Nat.lt_of_lt_of_le hy h0.bel.size
  rw [hne y,h0.kp y hy hn]
  intro e
  have := h0.new C (.inl rfl)
  rcases this with a | a
  ·exact hn (by rw [e]; exact a)
  ·omega
 ·rcases hy with a | a | a | a | a | a | a
  ·exact h0.new y (.inl a)
  ·exact h0.new y (.inr (.inl a))
  ·exact h0.new y (.inr (.inr (.inl a)))
  ·exact h0.new y (.inr (.inr (.inr (.inl a))))
  ·exact h0.new y (.inr (.inr (.inr (.inr (.inl a)))))
  ·exact h0.new y (.inr (.inr (.inr (.inr (.inr (.inl a))))))
  ·rcases List.mem_cons.1 a with rfl | a
   ·exact .inr hb0
   ·exact h0.new y (.inr (.inr (.inr (.inr (.inr (.inr a))))))
end Go.Proofs.YtdmniblonikjlakGreatDoor.Cas
