/-
  Texts put together: CaqA, CaqB, CaqC, CaqD, CaqE, CaqF, CaqG, CasP.
-/
import Derived.Test.YtdmniblonikjlakGreatDoorPrE
import Derived.Test.YtdmniblonikjlakGreatDoorPrN
import Derived.Test.YtdmniblonikjlakGreatDoorPrB
import Derived.Maps.Keyed
import Derived.WalkLawsBesides
import Derived.Deep.QuietTactic
import Derived.BigQuiet
import Derived.Deep.RegionHeld3
import Derived.Handy
import Derived.Deep.AppendLies


namespace Go.Proofs.YtdmniblonikjlakGreatDoor.Caq
open Go.RowKit Go.Maps
open Net (Pk KpL NewL Po NS)
open Cau (Sd CS)
open Cap (RV RV_inv own_norm own_heap)
open Cas (G setL upd)
open Fif (own_lt own_block own_form own_mono own_vw)
open Vec (Vw)
set_option linter.unusedVariables false
structure Lo where
 mv:Value
 N:Nat
 M:Nat
 hv:Value
 Pm:Nat → Nat
 sv:Int → Nat × Nat
 F:Nat → List Nat
def cav (d:Lo) (j:Nat):Value := if j = 0 then d.mv else if j = 1 then .pointer (some ⟨d.N,0,none⟩) else if j = 2 then .map (some d.M) else d.hv
def clkv (d:Lo) (x:Int):Value := .slice (some ⟨(d.sv x).1,0,none⟩) 5 (d.sv x).2
def sval (d:Lo) (x:Int) (s:Sd):Value := .agg #[.int .i64 s.1,.int .i64 s.2.1,.slice (some ⟨(d.sv x).1,0,none⟩) 5 (d.sv x).2]
def kl (x:Int):Lit := .int .i64 x
def ptrs (d:Lo) (n:Nat):List Value := (List.range n).map fun i => .pointer (some ⟨d.Pm i,0,none⟩)
theorem law:Keyed Tryz.prog 3 := int_keyed Tryz.underlying3
theorem keyK {x:Int} (h:1 ≤ x ∧ x ≤ 30):keyOf Tryz.prog 3 (.int .i64 x) = some (kl x) := keyOf_int_mk Tryz.underlying3 (by simp [Lit.wf,IntKind.min,IntKind.max,IntKind.bits,IntKind.signed]; omega)
theorem kl_inj {x y:Int} (h:kl x = kl y):x = y := by
 unfold kl at h
 injection h
theorem apart_row {w:World} {P:Nat} {t t':TypeId} {n m b s:Nat} {f:Nat → Value} {u:Value} {xs:List Value} (r:w.rowIs P t n f) (ht:t' ≠ t) (o:w.ownsRow b t' s u m xs) {k:Nat} (hk:u.ownBlock = some k):k ≠ P := by
 rcases o.2 with ⟨h2,_⟩ | ⟨g',cap',cur,hv,hbg,hh,_⟩
 ·rw [h2] at hk; cases hk
 ·rw [hv] at hk
  have:g' = k := by simpa [Value.ownBlock] using hk
  subst this
  intro e
  subst e
  obtain ⟨c,hc,_⟩ := r
  rw [hc] at hh
  injection hh with hh
  injection hh with _ hh _
  exact ht hh.symm
structure Sep (w:World) (base:Nat) (F:Nat → List Nat):Prop where
 bd:∀ k,k < 10 → ∀ b ∈ F k,base ≤ b ∧ b < w.heap.size
 dj:∀ i j,i < 10 → j < 10 → ∀ b,b ∈ F i → b ∈ F j → i = j
def put (F:Nat → List Nat) (k:Nat) (l:List Nat):Nat → List Nat := fun i => if i = k then l else F i
theorem put_same (F:Nat → List Nat) (k:Nat) (l:List Nat):put F k l k = l := if_pos rfl
theorem put_other (F:Nat → List Nat) {k i:Nat} (l:List Nat) (h:i ≠ k):put F k l i = F i := if_neg h
def all (F:Nat → List Nat):List Nat := (List.range 10).flatMap F
theorem mem_all {F:Nat → List Nat} {b:Nat}:b ∈ all F ↔ ∃ k,k < 10 ∧ b ∈ F k := by
 unfold all
 rw [List.mem_flatMap]
 constructor
 ·rintro ⟨k,hk,hb⟩
  exact ⟨k,List.mem_range.1 hk,hb⟩
 ·rintro ⟨k,hk,hb⟩
  exact ⟨k,List.mem_range.2 hk,hb⟩
variable {w w':World} {base P:Nat} {g:G} {d:Lo} {F:Nat → List Nat}
theorem Sep.put' (h:Sep w base F) {k:Nat} (hk:k < 10) {l:List Nat} (hs:w.heap.size ≤ w'.heap.size) (hn:∀ b ∈ l,b ∈ F k ∨ ∀ i,i < 10 → b ∉ F i) (hl:∀ b ∈ l,base ≤ b ∧ b < w'.heap.size):Sep w' base (put F k l) := by
 refine ⟨fun i hi b hb => ?_,fun i j hi hj b hbi hbj => ?_⟩
 ·unfold put at hb
  split at hb
  ·exact hl b hb
  ·have := h.bd i hi b hb
   exact ⟨this.1,Nat.lt_of_lt_of_le this.2 hs⟩
 ·unfold put at hbi hbj
  split at hbi
  ·rename_i e1
   split at hbj
   ·rename_i e2
    rw [e1,e2]
   ·rename_i e2
    rcases hn b hbi with a | a
    ·exact absurd (h.dj k j hk hj b a hbj).symm e2
    ·exact absurd hbj (a j hj)
  ·rename_i e1
   split at hbj
   ·rename_i e2
    rcases hn b hbj with a | a
    ·exact absurd (h.dj k i hk hi b a hbi).symm e1
    ·exact absurd hbi (a i hi)
   ·exact h.dj i j hi hj b hbi hbj
theorem Sep.put (h:Sep w base F) {k:Nat} (hk:k < 10) {l:List Nat} (hs:w.heap.size ≤ w'.heap.size) (hn:NewL w (F k) l) (hl:∀ b ∈ l,base ≤ b ∧ b < w'.heap.size):Sep w' base (put F k l) :=
 h.put' hk hs (fun b hb => (hn b hb).imp id fun q i hi hf => by have := (h.bd i hi b hf).2; omega) hl
theorem Sep.keep (h:Sep w base F) {k i:Nat} (hk:k < 10) (hi:i < 10) (hne:i ≠ k) (hp:KpL w w' (F k)):∀ b ∈ F i,w'.heap[b]? = w.heap[b]? := fun b hb => hp.2 b (h.bd i hi b hb).2 fun q => hne (h.dj i k hi hk b hb q)
theorem kp_all {k:Nat} (hk:k < 10) (h:KpL w w' (F k)):KpL w w' (all F) := ⟨h.1,fun b hb hn => h.2 b hb fun q => hn (mem_all.2 ⟨k,hk,q⟩)⟩
theorem new_all {k:Nat} (hk:k < 10) {l:List Nat} (h:NewL w (F k) l):NewL w (all F) (all (put F k l)) := by
 intro b hb
 obtain ⟨i,hi,q⟩ := mem_all.1 hb
 unfold Caq.put at q
 split at q
 ·exact (h b q).imp (fun q => mem_all.2 ⟨k,hk,q⟩) id
 ·exact .inl (mem_all.2 ⟨i,hi,q⟩)
structure MS (D:DataW Value) (g:G) (d:Lo):Prop where
 tidy:Tidy D
 has:∀ x,Maps.has D (kl x) = (g.said x).isSome
 at_:∀ x s,g.said x = some s → ∀ z,D.atKey (kl x) z = .held (sval d x s)
 size:Maps.size D = g.many
structure CB (w:World) (base P:Nat) (g:G) (d:Lo):Prop where
 n5:g.n ≤ 5
 row:w.rowIs P 76 4 (cav d)
 mem:w.ownsRow base 77 1 d.mv g.n (ptrs d g.n)
 net:NS w base d.N (fun _ _ => false) g.l (d.F 1)
 mm:∀ m,m < g.n → CS w base (d.Pm m) (m:Int) (g.K m) (g.ws m) (d.F (5 + m))
 map:∃ D,w.ownsMap Tryz.prog 3 RV d.M (Maps.size D) D ∧ MS D g d
 clk:∀ x s,g.said x = some s → w.ownsRow base 3 1 (clkv d x) 5 (s.2.2.map (Value.int .i64)) ∧ (d.sv x).1 ∈ d.F 4
 his:w.ownsRow base 40 3 d.hv g.H.length (Net.flat g.H)
 f0:d.F 0 = P :: d.mv.ownBlock.toList
 f2:d.F 2 = [d.M]
 f3:d.F 3 = d.hv.ownBlock.toList
 sep:Sep w base d.F
theorem CB.inP (h:CB w base P g d):P ∈ d.F 0 := by rw [h.f0]; exact List.mem_cons_self
theorem CB.inM (h:CB w base P g d):d.M ∈ d.F 2 := by rw [h.f2]; exact List.mem_cons_self
theorem CB.inmv (h:CB w base P g d) {k:Nat} (hk:d.mv.ownBlock = some k):k ∈ d.F 0 := by rw [h.f0,hk]; simp
theorem CB.inhv (h:CB w base P g d) {k:Nat} (hk:d.hv.ownBlock = some k):k ∈ d.F 3 := by rw [h.f3,hk]; simp
theorem CB.low (h:CB w base P g d):base ≤ P ∧ P < w.heap.size := h.sep.bd 0 (by omega) _ h.inP
theorem clk_block {x:Int} {k:Nat} (hk:(clkv d x).ownBlock = some k):(d.sv x).1 = k := by simpa [clkv,Value.ownBlock] using hk
theorem CB.of_blocks (h:CB w base P g d) (hs:w.heap.size ≤ w'.heap.size) (hk:∀ b ∈ all d.F,w'.heap[b]? = w.heap[b]?):CB w' base P g d := by
 have hk':∀ i,i < 10 → ∀ b ∈ d.F i,w'.heap[b]? = w.heap[b]? := fun i hi b hb => hk b (mem_all.2 ⟨i,hi,hb⟩)
 obtain ⟨D,hm,v⟩ := h.map
 have n5 := h.n5
 refine ⟨h.n5,World.rowIs.of_block h.row (hk' 0 (by omega) _ h.inP),own_block h.mem fun k q => hk' 0 (by omega) _ (h.inmv q),h.net.of_blocks hs (hk' 1 (by omega)),fun m hm => (h.mm m hm).of_blocks hs (hk' (5 + m) (by omega)),⟨D,own_heap hm (hk' 2 (by omega) _ h.inM),v⟩,fun x s q => ⟨own_block (h.clk x s q).1 fun k hq => ?_,(h.clk x s q).2⟩,own_block h.his fun k q => hk' 3 (by omega) _ (h.inhv q),h.f0,h.f2,h.f3,⟨fun k hk b hb => ⟨(h.sep.bd k hk b hb).1,Nat.lt_of_lt_of_le (h.sep.bd k hk b hb).2 hs⟩,h.sep.dj⟩⟩
 rw [← clk_block hq]
 exact hk' 4 (by omega) _ (h.clk x s q).2
theorem CB.fp (h:CB w base P g d) {b:Nat} (hb:b ∈ all d.F):base ≤ b ∧ b < w.heap.size := by
 obtain ⟨k,hk,q⟩ := mem_all.1 hb
 exact h.sep.bd k hk b q
theorem CB.later (h:CB w base P g d) (hb:Below w.heap.size w w'):CB w' base P g d := h.of_blocks hb.size fun b q => hb.block b (h.fp q).2
structure CR (w w':World) (base P:Nat) (g:G) (d:Lo) (g':G) (d':Lo):Prop where
 cb:CB w' base P g' d'
 bel:Below base w w'
 kp:KpL w w' (all d.F)
 new:NewL w (all d.F) (all d'.F)
theorem CR.still (h:CB w base P g d) (hbw:base ≤ w.heap.size) (hb:Below w.heap.size w w'):CR w w' base P g d g d := ⟨h.later hb,hb.mono hbw,⟨hb.size,fun b q _ => hb.block b q⟩,fun b q => .inl q⟩
theorem CR.trans {w1 w2:World} {g1 g2:G} {d1 d2:Lo} (h:CR w w1 base P g d g1 d1) (h':CR w1 w2 base P g1 d1 g2 d2):CR w w2 base P g d g2 d2 := by
 refine ⟨h'.cb,h.bel.trans h'.bel,⟨Nat.le_trans h.kp.1 h'.kp.1,fun b hb hn => ?_⟩,fun b hb => ?_⟩
 ·rw [h'.kp.2 b (Nat.lt_of_lt_of_le hb h.kp.1) (fun q => ?_),h.kp.2 b hb hn]
  rcases h.new b q with a | a
  ·exact hn a
  ·omega
 ·rcases h'.new b hb with a | a
  ·exact h.new b a
  ·exact .inr (Nat.le_trans h.kp.1 a)
theorem CR.later {w1 w2:World} {g1:G} {d1:Lo} (h:CR w w1 base P g d g1 d1) (hbw:base ≤ w.heap.size) (hb:Below w1.heap.size w1 w2):CR w w2 base P g d g1 d1 := h.trans (CR.still h.cb (Nat.le_trans hbw h.kp.1) hb)
theorem CR.stays {g1:G} {d1:Lo} (h:CR w w' base P g d g1 d1) {b:Nat} (hb:b < w.heap.size) (hn:b ∉ all d.F):w'.heap[b]? = w.heap[b]? ∧ b < w'.heap.size ∧ b ∉ all d1.F :=
 ⟨h.kp.2 b hb hn,Nat.lt_of_lt_of_le hb h.kp.1,fun q => (h.new b q).elim hn (by omega)⟩
theorem CB.net_step (h:CB w base P g d) {l':List Pk} {f':List Nat} (hn:NS w' base d.N (fun _ _ => false) l' f') (hb:Below base w w') (hk:KpL w w' (d.F 1)) (hw:NewL w (d.F 1) f'):CR w w' base P g d (setL g l') { d with F := put d.F 1 f' } := by
 have kk:∀ i,i < 10 → i ≠ 1 → ∀ b ∈ d.F i,w'.heap[b]? = w.heap[b]? := fun i hi hne => h.sep.keep (by omega) hi hne hk
 obtain ⟨D,hm,v⟩ := h.map
 have n5 := h.n5
 refine ⟨⟨h.n5,World.rowIs.of_block h.row (kk 0 (by omega) (by omega) _ h.inP),own_block h.mem fun k q => kk 0 (by omega) (by omega) _ (h.inmv q),?_,fun m hm => ?_,⟨D,own_heap hm (kk 2 (by omega) (by omega) _ h.inM),⟨v.tidy,v.has,v.at_,v.size⟩⟩,fun x s q => ⟨own_block (h.clk x s q).1 fun k hq => ?_,?_⟩,own_block h.his fun k q => kk 3 (by omega) (by omega) _ (h.inhv q),?_,?_,?_,h.sep.put (by omega) hk.1 hw hn.fp⟩,hb,kp_all (by omega) hk,new_all (by omega) hw⟩
 ·show NS w' base d.N (fun _ _ => false) l' (put d.F 1 f' 1)
  rw [put_same]; exact hn
 ·have hm':m < g.n := hm
  show CS w' base (d.Pm m) (m:Int) (g.K m) (g.ws m) (put d.F 1 f' (5 + m))
  rw [put_other _ _ (by omega)]
  exact (h.mm m hm).of_blocks hk.1 (kk _ (by omega) (by omega))
 ·have:(d.sv x).1 = k := clk_block (d := d) hq
  rw [← this]
  exact kk 4 (by omega) (by omega) _ (h.clk x s q).2
 ·show (d.sv x).1 ∈ put d.F 1 f' 4
  rw [put_other _ _ (by omega)]; exact (h.clk x s q).2
 ·show put d.F 1 f' 0 = _
  rw [put_other _ _ (by omega)]; exact h.f0
 ·show put d.F 1 f' 2 = _
  rw [put_other _ _ (by omega)]; exact h.f2
 ·show put d.F 1 f' 3 = _
  rw [put_other _ _ (by omega)]; exact h.f3
theorem CB.mem_step (h:CB w base P g d) {m:Nat} (hm:m < g.n) {K':List Int} {ws':List Sd} {f':List Nat} (hc:CS w' base (d.Pm m) (m:Int) K' ws' f') (hb:Below base w w') (hk:KpL w w' (d.F (5 + m))) (hw:NewL w (d.F (5 + m)) f'):CR w w' base P g d (upd g m K' ws' g.H) { d with F := put d.F (5 + m) f' } := by
 have n5 := h.n5
 have kk:∀ i,i < 10 → i ≠ 5 + m → ∀ b ∈ d.F i,w'.heap[b]? = w.heap[b]? := fun i hi hne => h.sep.keep (by omega) hi hne hk
 obtain ⟨D,hmp,v⟩ := h.map
 refine ⟨⟨h.n5,World.rowIs.of_block h.row (kk 0 (by omega) (by omega) _ h.inP),own_block h.mem fun k q => kk 0 (by omega) (by omega) _ (h.inmv q),?_,fun j hj => ?_,⟨D,own_heap hmp (kk 2 (by omega) (by omega) _ h.inM),⟨v.tidy,v.has,v.at_,v.size⟩⟩,fun x s q => ⟨own_block (h.clk x s q).1 fun k hq => ?_,?_⟩,own_block h.his fun k q => kk 3 (by omega) (by omega) _ (h.inhv q),?_,?_,?_,h.sep.put (by omega) hk.1 hw hc.fp⟩,hb,kp_all (by omega) hk,new_all (by omega) hw⟩
 ·show NS w' base d.N (fun _ _ => false) g.l (put d.F (5 + m) f' 1)
  rw [put_other _ _ (by omega)]; exact h.net.of_blocks hk.1 (kk 1 (by omega) (by omega))
 ·have hj':j < g.n := hj
  show CS w' base (d.Pm j) (j:Int) (if j = m then K' else g.K j) (if j = m then ws' else g.ws j) (put d.F (5 + m) f' (5 + j))
  by_cases e:j = m
  ·rw [if_pos e,if_pos e,e,put_same]; exact hc
  ·rw [if_neg e,if_neg e,put_other _ _ (by omega)]
   exact (h.mm j hj).of_blocks hk.1 (kk _ (by omega) (by omega))
 ·have:(d.sv x).1 = k := clk_block (d := d) hq
  rw [← this]
  exact kk 4 (by omega) (by omega) _ (h.clk x s q).2
 ·show (d.sv x).1 ∈ put d.F (5 + m) f' 4
  rw [put_other _ _ (by omega)]; exact (h.clk x s q).2
 ·show put d.F (5 + m) f' 0 = _
  rw [put_other _ _ (by omega)]; exact h.f0
 ·show put d.F (5 + m) f' 2 = _
  rw [put_other _ _ (by omega)]; exact h.f2
 ·show put d.F (5 + m) f' 3 = _
  rw [put_other _ _ (by omega)]; exact h.f3
theorem CB.his_step (h:CB w base P g d) (hbw:base ≤ w.heap.size) {w1:World} {H':List His.Ev} {hv':Value} (hg:w.grownBy w1 d.hv.ownBlock) (ho:w1.ownsRow base 40 3 hv' H'.length (Net.flat H')) (hat:∀ k,hv'.ownBlock = some k → d.hv.ownBlock = some k ∨ w.heap.size ≤ k) :
  CR w (w1.setCell ⟨P,3,none⟩ hv') base P g d { g with H := H' } { d with hv := hv',F := put d.F 3 hv'.ownBlock.toList } := by
 have n5 := h.n5
 have hs:w.heap.size ≤ (w1.setCell ⟨P,3,none⟩ hv').heap.size := by simpa [World.setCell] using hg.size
 have kb:∀ b,b < w.heap.size → b ≠ P → b ∉ d.F 3 → (w1.setCell ⟨P,3,none⟩ hv').heap[b]? = w.heap[b]? := fun b hb hP hn => (Deep.blk_setCell_other _ _ _ _ hP).trans (hg.block b hb fun e => hn (h.inhv e.symm))
 have nP:∀ i,i < 10 → i ≠ 0 → ∀ b ∈ d.F i,b ≠ P := fun i hi hne b hb e => hne (h.sep.dj i 0 hi (by omega) b hb (by rw [e]; exact h.inP))
 have kk:∀ i,i < 10 → i ≠ 0 → i ≠ 3 → ∀ b ∈ d.F i,(w1.setCell ⟨P,3,none⟩ hv').heap[b]? = w.heap[b]? := fun i hi h0 h3 b hb => kb b (h.sep.bd i hi b hb).2 (nP i hi h0 b hb) fun q => h3 (h.sep.dj i 3 hi (by omega) b hb q)
 have hPh:d.hv.ownBlock ≠ some P := fun e => by have := h.sep.dj 3 0 (by omega) (by omega) P (h.inhv e) h.inP; omega
 have rP:w1.heap[P]? = w.heap[P]? := hg.block P h.low.2 fun e => hPh e.symm
 have hw:NewL w (d.F 3) hv'.ownBlock.toList := by
  intro b hb
  rcases hat b (by simpa using hb) with a | a
  ·exact .inl (h.inhv a)
  ·exact .inr a
 have hPn:hv'.ownBlock ≠ some P := fun e => by
  rcases hat P e with a | a
  ·exact hPh a
  ·have := h.low.2; omega
 obtain ⟨D,hmp,v⟩ := h.map
 refine ⟨⟨h.n5,(World.rowIs.set (World.rowIs.of_block h.row rP) 3 _).congr fun j hj => ?_,own_block h.mem fun k q => ?_,?_,fun m hm => ?_,⟨D,own_heap hmp (kk 2 (by omega) (by omega) (by omega) _ h.inM),⟨v.tidy,v.has,v.at_,v.size⟩⟩,fun x s q => ⟨own_block (h.clk x s q).1 fun k hq => ?_,?_⟩,own_block ho fun k q => Deep.blk_setCell_other _ _ _ _ fun e => hPn (q.trans (congrArg some e)),?_,?_,?_,h.sep.put (by omega) hs hw fun b hb => ?_⟩,((Below.refl base w).grown hg hbw fun k hk => (own_lt h.his k hk).1).setCell (p := ⟨P,3,none⟩) h.low.1 _,⟨hs,fun b hb hn => kb b hb (fun e => hn (by rw [e]; exact mem_all.2 ⟨0,by omega,h.inP⟩)) fun q => hn (mem_all.2 ⟨3,by omega,q⟩)⟩,new_all (by omega) hw⟩
 ·unfold cav
  by_cases e:j = 3
  ·subst e
   rw [if_pos rfl,if_neg (by omega),if_neg (by omega),if_neg (by omega)]
  ·rw [if_neg e]
   have:j = 0 ∨ j = 1 ∨ j = 2 := by omega
   rcases this with rfl | rfl | rfl <;> rfl
 ·have h1 := h.inmv q
  have h2 := h.sep.bd 0 (by omega) k h1
  have hkP:k ≠ P := apart_row h.row (by decide) h.mem q
  exact kb k h2.2 hkP fun q => by have := h.sep.dj 0 3 (by omega) (by omega) k h1 q; omega
 ·show NS _ base d.N (fun _ _ => false) g.l (put d.F 3 hv'.ownBlock.toList 1)
  rw [put_other _ _ (by omega)]; exact h.net.of_blocks hs (kk 1 (by omega) (by omega) (by omega))
 ·have hm':m < g.n := hm
  show CS _ base (d.Pm m) (m:Int) (g.K m) (g.ws m) (put d.F 3 hv'.ownBlock.toList (5 + m))
  rw [put_other _ _ (by omega)]
  exact (h.mm m hm).of_blocks hs (kk _ (by omega) (by omega) (by omega))
 ·have:(d.sv x).1 = k := clk_block (d := d) hq
  rw [← this]
  exact kk 4 (by omega) (by omega) (by omega) _ (h.clk x s q).2
 ·show (d.sv x).1 ∈ put d.F 3 hv'.ownBlock.toList 4
  rw [put_other _ _ (by omega)]; exact (h.clk x s q).2
 ·show put d.F 3 hv'.ownBlock.toList 0 = _
  rw [put_other _ _ (by omega)]; exact h.f0
 ·show put d.F 3 hv'.ownBlock.toList 2 = _
  rw [put_other _ _ (by omega)]; exact h.f2
 ·show put d.F 3 hv'.ownBlock.toList 3 = _
  rw [put_same]
 ·have := own_lt ho b (by simpa using hb)
  exact ⟨this.1,by simpa [World.setCell] using this.2⟩
theorem zeroS (W:World):(zeroValue 51).run Tryz.prog W = .ok (.agg #[.int .i64 0,.int .i64 0,.slice none 0 0]) W := by kernel_rfl
theorem CB.look_ok (h:CB w base P g d) {x:Int} (hx:1 ≤ x ∧ x ≤ 30):∀ W:World,W.heap[d.M]? = w.heap[d.M]? → ∃ u,(Instr.lookup 73 (.map (some d.M)) (.int .i64 x) true).run Tryz.prog W = .ok (.tuple #[u,.bool (g.said x).isSome]) W ∧ ∃ a b q n c,u = .agg #[.int .i64 a,.int .i64 b,.slice q n c] := by
 intro W hW
 obtain ⟨D,hm,v⟩ := h.map
 have h':W.ownsMap Tryz.prog 3 RV d.M (Maps.size D) D := own_heap hm hW
 obtain ⟨u,ps,e1,e2⟩ := h'.look_ok law Tryz.underlying73 (zeroS W) (zd := .held _) (zp := []) rfl (keyK hx)
 rw [v.has] at e1
 refine ⟨u,e1,?_⟩
 cases q:g.said x with
 | none =>
  rw [atKey_of_not_has (by rw [v.has,q]; rfl)] at e2
  rw [RV_inv e2]
  exact ⟨_,_,_,_,_,rfl⟩
 | some s =>
  rw [v.at_ x s q] at e2
  rw [RV_inv e2]
  exact ⟨_,_,_,_,_,rfl⟩
theorem CB.look (h:CB w base P g d) {x:Int} {s:Sd} (hx:1 ≤ x ∧ x ≤ 30) (hs:g.said x = some s):∀ W:World,W.heap[d.M]? = w.heap[d.M]? → (Instr.lookup 73 (.map (some d.M)) (.int .i64 x) false).run Tryz.prog W = .ok (sval d x s) W := by
 intro W hW
 obtain ⟨D,hm,v⟩ := h.map
 have h':W.ownsMap Tryz.prog 3 RV d.M (Maps.size D) D := own_heap hm hW
 obtain ⟨u,ps,e1,e2⟩ := h'.lookup law Tryz.underlying73 (zeroS W) (zd := .held _) (zp := []) rfl (keyK hx)
 rw [v.at_ x s hs] at e2
 rw [e1,RV_inv e2]
theorem CB.len (h:CB w base P g d) (ty:TypeId):∀ W:World,W.heap = w.heap → (Builtin.len_ #[73] ty #[.map (some d.M)]).run Tryz.prog W = .ok (.int .i64 g.many) W := by
 intro W hW
 obtain ⟨D,hm,v⟩ := h.map
 have h':W.ownsMap Tryz.prog 3 RV d.M (Maps.size D) D := own_heap hm (by rw [hW])
 rw [h'.len Tryz.underlying73 ty,v.size]
theorem CB.said_step (h:CB w base P g d) (hbw:base ≤ w.heap.size) {x:Int} (hx:1 ≤ x ∧ x ≤ 30) (hn:g.said x = none) (s:Sd) (b c:Nat) (ho:w.ownsRow base 3 1 (.slice (some ⟨b,0,none⟩) 5 c) 5 (s.2.2.map (Value.int .i64))) (hf:b ∉ all d.F) (hm:g.many < 100) :
  ∃ w',(Instr.mapUpdate 73 (.map (some d.M)) (.int .i64 x) (.agg #[.int .i64 s.1,.int .i64 s.2.1,.slice (some ⟨b,0,none⟩) 5 c])).run Tryz.prog w = .ok () w' ∧
   CB w' base P { g with said := fun y => if y = x then some s else g.said y,many := g.many + 1 } { d with sv := fun y => if y = x then (b,c) else d.sv y,F := put d.F 4 (b :: d.F 4) } ∧ w.mapTurned w' d.M := by
 obtain ⟨D,hmp,v⟩ := h.map
 have n5 := h.n5
 obtain ⟨w',er,h',t⟩ := hmp.store law Tryz.underlying73 (by rw [v.size]; unfold maxLen; omega) (keyK hx) (val := .agg #[.int .i64 s.1,.int .i64 s.2.1,.slice (some ⟨b,0,none⟩) 5 c]) rfl
 have hs:w.heap.size ≤ w'.heap.size := t.grown.size
 have kb:∀ k,k < w.heap.size → k ≠ d.M → w'.heap[k]? = w.heap[k]? := fun k hk hne => t.grown.block k hk fun q => hne (Option.some.inj q)
 have nM:∀ i,i < 10 → i ≠ 2 → ∀ k ∈ d.F i,k ≠ d.M := fun i hi hne k hk e => hne (h.sep.dj i 2 hi (by omega) k hk (by rw [e]; exact h.inM))
 have kk:∀ i,i < 10 → i ≠ 2 → ∀ k ∈ d.F i,w'.heap[k]? = w.heap[k]? := fun i hi hne k hk => kb k (h.sep.bd i hi k hk).2 (nM i hi hne k hk)
 have hbl := own_lt ho b rfl
 have hbM:b ≠ d.M := fun e => hf (mem_all.2 ⟨2,by omega,by rw [e]; exact h.inM⟩)
 refine ⟨w',er,⟨h.n5,World.rowIs.of_block h.row (kk 0 (by omega) (by omega) _ h.inP),own_block h.mem fun k q => kk 0 (by omega) (by omega) _ (h.inmv q),?_,fun m hm => ?_,⟨_,own_norm h',⟨v.tidy.put (law.key (keyK hx)) _,fun y => ?_,fun y sy hy z => ?_,?_⟩⟩,fun y sy hy => ?_,own_block h.his fun k q => kk 3 (by omega) (by omega) _ (h.inhv q),?_,?_,?_,h.sep.put' (by omega) hs (fun k hk => ?_) fun k hk => ?_⟩,t⟩
 ·show NS w' base d.N (fun _ _ => false) g.l (put d.F 4 (b :: d.F 4) 1)
  rw [put_other _ _ (by omega)]; exact h.net.of_blocks hs (kk 1 (by omega) (by omega))
 ·have hm':m < g.n := hm
  show CS w' base (d.Pm m) (m:Int) (g.K m) (g.ws m) (put d.F 4 (b :: d.F 4) (5 + m))
  rw [put_other _ _ (by omega)]
  exact (h.mm m hm).of_blocks hs (kk _ (by omega) (by omega))
 ·show Maps.has _ (kl y) = (if y = x then some s else g.said y).isSome
  by_cases e:y = x
  ·rw [if_pos e,e]
   exact has_put_same v.tidy.isMap (law.key (keyK hx)) _
  ·rw [if_neg e,has_put_other (fun q => e (kl_inj q)),v.has]
 ·have hy':(if y = x then some s else g.said y) = some sy := hy
  show DataW.atKey _ (kl y) z = .held (.agg #[.int .i64 sy.1,.int .i64 sy.2.1,.slice (some ⟨(if y = x then (b,c) else d.sv y).1,0,none⟩) 5 (if y = x then (b,c) else d.sv y).2])
  by_cases e:y = x
  ·rw [if_pos e] at hy' ⊢
   rw [e,atKey_put_same v.tidy.isMap (law.key (keyK hx)),← Option.some.inj hy']
  ·rw [if_neg e] at hy' ⊢
   rw [atKey_put_other (fun q => e (kl_inj q)),v.at_ y sy hy']
   rfl
 ·rw [size_put v.tidy,v.has,hn]
  show Maps.size D + 1 = g.many + 1
  rw [v.size]
 ·have hy':(if y = x then some s else g.said y) = some sy := hy
  show w'.ownsRow base 3 1 (.slice (some ⟨(if y = x then (b,c) else d.sv y).1,0,none⟩) 5 (if y = x then (b,c) else d.sv y).2) 5 _ ∧ (if y = x then (b,c) else d.sv y).1 ∈ put d.F 4 (b :: d.F 4) 4
  rw [put_same]
  by_cases e:y = x
  ·rw [if_pos e] at hy' ⊢
   rw [← Option.some.inj hy']
   refine ⟨own_block ho fun k hk => ?_,List.mem_cons_self⟩
   have:b = k := by simpa [Value.ownBlock] using hk
   rw [← this]
   exact kb b hbl.2 hbM
  ·rw [if_neg e] at hy' ⊢
   have q := h.clk y sy hy'
   refine ⟨own_block q.1 fun k hk => ?_,List.mem_cons_of_mem _ q.2⟩
   rw [← clk_block (d := d) (x := y) hk]
   exact kk 4 (by omega) (by omega) _ q.2
 ·show put d.F 4 (b :: d.F 4) 0 = _
  rw [put_other _ _ (by omega)]; exact h.f0
 ·show put d.F 4 (b :: d.F 4) 2 = _
  rw [put_other _ _ (by omega)]; exact h.f2
 ·show put d.F 4 (b :: d.F 4) 3 = _
  rw [put_other _ _ (by omega)]; exact h.f3
 ·rcases List.mem_cons.1 hk with rfl | a
  ·exact .inr fun i hi q => hf (mem_all.2 ⟨i,hi,q⟩)
  ·exact .inl a
 ·rcases List.mem_cons.1 hk with rfl | a
  ·exact ⟨hbl.1,Nat.lt_of_lt_of_le hbl.2 hs⟩
  ·have := h.sep.bd 4 (by omega) k a
   exact ⟨this.1,Nat.lt_of_lt_of_le this.2 hs⟩
end Go.Proofs.YtdmniblonikjlakGreatDoor.Caq


namespace Go.Proofs.YtdmniblonikjlakGreatDoor.Caq
open Go.RowKit Go.Maps
open Net (Pk KpL NewL Po NS errF errF_ok errF_no NInv dropC dropL twC twL)
open Cau (Sd CS)
open Cas (G GI setL upd drop twice)
open Fif (own_lt own_block own_form own_mono own_vw ret_bool)
open Vec (Vw)
open As (Laid as_hit)
set_option linter.unusedVariables false
variable {base P:Nat} {g:G} {d:Lo}
theorem CB.c0 {w:World} (h:CB w base P g d):w.cell? ⟨P,0,none⟩ = some d.mv ∧ w.frozen? ⟨P,0,none⟩ = false := ⟨World.rowIs.cell h.row (i := 0) (by omega),World.rowIs.frozen h.row 0⟩
theorem CB.c1 {w:World} (h:CB w base P g d):w.cell? ⟨P,1,none⟩ = some (.pointer (some ⟨d.N,0,none⟩)) ∧ w.frozen? ⟨P,1,none⟩ = false := ⟨World.rowIs.cell h.row (i := 1) (by omega),World.rowIs.frozen h.row 1⟩
theorem CB.c2 {w:World} (h:CB w base P g d):w.cell? ⟨P,2,none⟩ = some (.map (some d.M)) ∧ w.frozen? ⟨P,2,none⟩ = false := ⟨World.rowIs.cell h.row (i := 2) (by omega),World.rowIs.frozen h.row 2⟩
theorem CB.c3 {w:World} (h:CB w base P g d):w.cell? ⟨P,3,none⟩ = some d.hv ∧ w.frozen? ⟨P,3,none⟩ = false := ⟨World.rowIs.cell h.row (i := 3) (by omega),World.rowIs.frozen h.row 3⟩
theorem CB.mform {w:World} (h:CB w base P g d):∃ q cap,d.mv = .slice q g.n cap := own_form h.mem
theorem word_yes (x:Int) (w:World) (h1:1 ≤ x) (h2:x ≤ 30):Calls Tryz.prog 74 #[.int .i64 x] w fun e w' => e = .returned (.bool true) ∧ w' = w := by
 go_enter Tryz.func74,Tryz.ntmps74
 go_wp2
 go_ret
 exact ⟨rfl,rfl⟩
theorem word_no (x:Int) (w:World) (h:x < 1 ∨ 30 < x):Calls Tryz.prog 74 #[.int .i64 x] w fun e w' => e = .returned (.bool false) ∧ w' = w := by
 by_cases h1:1 ≤ x
 ·have h2:¬ x ≤ 30 := by omega
  have h3:¬ x < 30 + 1 := by omega
  go_enter Tryz.func74,Tryz.ntmps74
  go_wp2
  go_ret
  exact ⟨rfl,rfl⟩
 ·go_enter Tryz.func74,Tryz.ntmps74
  go_wp2
  go_ret
  exact ⟨rfl,rfl⟩
theorem was_any (x:Int) (w:World) (hx:1 ≤ x ∧ x ≤ 30) (h:CB w base P g d) (r:Bool) (hr:(g.said x).isSome = r):Calls Tryz.prog 75 #[.pointer (some ⟨P,0,none⟩),.int .i64 x] w fun e w' => e = .returned (.bool r) ∧ Below w.heap.size w w' := by
 obtain ⟨c2,z2⟩ := h.c2
 obtain ⟨u,hlook,a,b,q,n,c,rfl⟩ := h.look_ok hx w rfl
 rw [hr] at hlook
 have hP := h.low.2
 clear h hr
 go_enter Tryz.func75,Tryz.ntmps75
 go_wp2
 go_ret
 exact ⟨rfl,(Below.refl _ _).alloc (Nat.le_refl _) _⟩
theorem inHist_any (w:World) (h:CB w base P g d) (hm:g.many ≤ 30) (r:Bool) (hr:decide ((g.many + 1) * g.n ≤ 60) = r):Calls Tryz.prog 77 #[.pointer (some ⟨P,0,none⟩)] w fun e w' => e = .returned (.bool r) ∧ Below w.heap.size w w' := by
 obtain ⟨c2,z2⟩ := h.c2
 obtain ⟨c0,z0⟩ := h.c0
 obtain ⟨q,cap,e⟩ := h.mform
 rw [e] at c0
 have n5 := h.n5
 have hlen := fun (ty:TypeId) (k:Nat) => h.len ty (w.drewN k) rfl
 obtain ⟨n,en⟩:∃ n,n = g.n := ⟨_,rfl⟩
 obtain ⟨m,em⟩:∃ m,m = g.many := ⟨_,rfl⟩
 obtain ⟨M,eM⟩:∃ M,M = d.M := ⟨_,rfl⟩
 rw [← em] at hlen hm hr
 rw [← en] at c0 n5 hr
 rw [← eM] at c2 hlen
 clear h e en em eM
 have h5:n = 0 ∨ n = 1 ∨ n = 2 ∨ n = 3 ∨ n = 4 ∨ n = 5 := by omega
 have hr':decide (((m:Int) + 1) * (n:Int) ≤ 60) = r := by
  rw [← hr]
  exact decide_eq_decide.2 (by rcases h5 with rfl | rfl | rfl | rfl | rfl | rfl <;> omega)
 have hmul:0 ≤ ((m:Int) + 1) * (n:Int) ∧ ((m:Int) + 1) * (n:Int) ≤ 155 := by rcases h5 with rfl | rfl | rfl | rfl | rfl | rfl <;> omega
 obtain ⟨t,et⟩:∃ t,t = ((m:Int) + 1) * (n:Int) := ⟨_,rfl⟩
 rw [← et] at hr' hmul
 obtain ⟨ht0,ht1⟩ := hmul
 have k1:(m:Int) ≤ 30 := by omega
 have k2:(n:Int) ≤ 5 := by omega
 clear hm n5 h5 hr
 go_enter Tryz.func77,Tryz.ntmps77
 go_wp2_with fail
 go_quiet (fail)
 go_wp2
 go_ret
 exact ⟨ret_bool (by rw [← et]; exact hr'),Net.below_drews (Below.refl _ _) _⟩
theorem onWay_any (w:World) (h:CB w base P g d) (hi:NInv g.l) (h2:2 ≤ g.n) (r:Bool) (hr:decide (g.l.length + (g.n - 1) ≤ 40) = r):Calls Tryz.prog 76 #[.pointer (some ⟨P,0,none⟩)] w fun e w' => e = .returned (.bool r) ∧ Below w.heap.size w w' := by
 obtain ⟨c0,z0⟩ := h.c0
 obtain ⟨c1,z1⟩ := h.c1
 obtain ⟨q,cap,e⟩ := h.mform
 rw [e] at c0
 have n5 := h.n5
 have hl40 := hi.len
 have hP := h.low.2
 have HN:Hid (∀ X:World,X.heap = w.heap → NS X base d.N (fun _ _ => false) g.l (d.F 1)) := fun X e => h.net.of_blocks (w' := X) (by rw [e]; exact Nat.le_refl _) (fun b _ => by rw [e])
 have HI:Hid (NInv g.l) := hi
 have HS:Hid (∀ X Y:World,Below w.heap.size w Y → X.heap = Y.heap → X.cell? ⟨P,0,none⟩ = some (.slice q g.n cap) ∧ X.cell? ⟨P,1,none⟩ = some (.pointer (some ⟨d.N,0,none⟩))) := by
  intro X Y hb e
  rw [Net.c_heap e,Net.c_heap e]
  exact ⟨(hb.cell (p := ⟨P,0,none⟩) hP).trans c0,(hb.cell (p := ⟨P,1,none⟩) hP).trans c1⟩
 have hr':decide ((g.l.length:Int) + (g.n:Int) - 1 ≤ 40) = r := by
  rw [← hr]
  exact decide_eq_decide.2 (by omega)
 have RR:Hid (decide ((g.l.length:Int) + (g.n:Int) - 1 ≤ 40) = r) := hr'
 have k1:(g.l.length:Int) ≤ 40 := by omega
 have k2:(g.n:Int) ≤ 5 := by omega
 have k3:(2:Int) ≤ (g.n:Int) := by omega
 clear h hi e hr hr' hl40 n5 h2
 go_enter Tryz.func76,Tryz.ntmps76
 go_wp2_with fail
 go_region_held3 (fun X => X.cell? ⟨P,0,none⟩ = some (.slice q g.n cap) ∧ X.cell? ⟨P,1,none⟩ = some (.pointer (some ⟨d.N,0,none⟩))) (first | exact HS.out _ _ B9.out rfl | exact HS.out _ _ (Below.refl _ _) rfl) (first
  | (go_at_call 113; refine (Net.allN base d.N (fun _ _ => false) g.l (d.F 1) _ (by exact HN.out _ rfl) HI.out).mono ?_; rintro e9 w9 ⟨v9,rfl,ho9,hb9⟩; obtain ⟨q9,cap9,rfl⟩ := own_form ho9; have B9:Hid (Below w.heap.size w w9) := Net.below_same hb9 rfl rfl rfl rfl; clear ho9 hb9))
 go_wp2
 go_ret
 refine ⟨ret_bool ?_,B9.out⟩
 rw [IntWalk.i64_in ((g.l.length:Int) + (g.n:Int)) (by omega),IntWalk.i64_in ((g.l.length:Int) + (g.n:Int) - 1) (by omega)]
 exact RR.out
theorem as_nil (t:Addr) (w:World):Calls Tryz.prog 88 #[.nilIface,.iface 171 (.pointer (some t))] w fun ev w' => ev = .returned (.bool false) ∧ w' = w := by
 go_enter Tryz.func88,Tryz.ntmps88
 go_wp2
 go_ret
 exact ⟨rfl,rfl⟩
theorem come_any (c:Int) (w:World) (hL:Laid w):Calls Tryz.prog 37 #[errF c] w fun e w' => e = .returned (.bool (c == 7)) ∧ Below w.heap.size w w' := by
 by_cases h0:c = 0
 ·subst h0
  rw [errF_ok]
  clear hL
  go_enter Tryz.func37,Tryz.ntmps37
  go_wp2_with fail
  refine (as_nil ⟨w.heap.size,0,none⟩ _).mono ?_
  rintro e w' ⟨rfl,rfl⟩
  go_wp2
  go_ret
  exact ⟨rfl,(Below.refl _ _).alloc (Nat.le_refl _) _⟩
 ·rw [errF_no h0]
  have hgA:(w.alloc (.cells #[.int .i64 0] 70)).cell? ⟨0,0,none⟩ = some (.iface 250 (.agg #[.pointer (some ⟨14,26,none⟩)])) := by
   rw [World.cell?_alloc_lt _ _ ⟨0,0,none⟩ hL.pos]; exact hL
  have htA:(w.alloc (.cells #[.int .i64 0] 70)).cell? ⟨w.heap.size,0,none⟩ = some (.int .i64 0) := by simp
  have hfA:(w.alloc (.cells #[.int .i64 0] 70)).frozen? ⟨w.heap.size,0,none⟩ = false := by simp
  clear hL
  go_enter Tryz.func37,Tryz.ntmps37
  go_wp2_with fail
  refine (as_hit c ⟨w.heap.size,0,none⟩ (.int .i64 0) _ hgA htA hfA).mono ?_
  rintro e w' ⟨rfl,hw⟩
  have HB:Hid (Below w.heap.size w w') := by
   subst hw
   exact ((((((Below.refl _ _).alloc (Nat.le_refl _) _).alloc (by simp) _).alloc (by simp; omega) _).alloc (by simp; omega) _).alloc (by simp; omega) _).setCell (Nat.le_refl _) _
  have hc:w'.cell? ⟨w.heap.size,0,none⟩ = some (.int .i64 c) := by
   subst hw
   refine World.cell?_setCell_same _ _ _ (u := .int .i64 0) ?_
   rw [World.cell?_alloc_lt _ _ ⟨w.heap.size,0,none⟩ (by simp; omega),World.cell?_alloc_lt _ _ ⟨w.heap.size,0,none⟩ (by simp; omega),World.cell?_alloc_lt _ _ ⟨w.heap.size,0,none⟩ (by simp; omega),World.cell?_alloc_lt _ _ ⟨w.heap.size,0,none⟩ (by simp)]
   exact htA
  clear hw hgA htA hfA
  go_wp2
  go_ret
  exact ⟨rfl,HB.out⟩
theorem check_any (who word:Int) (w:World) (h:CB w base P g d) (hi:GI g) (c:Int) (hc:Cas.sayC g who word = c):Calls Tryz.prog 31 #[.pointer (some ⟨P,0,none⟩),.int .i64 who,.int .i64 word] w fun x w' => x = .returned (errF c) ∧ Below w.heap.size w w' := by
 have HH:Hid (CB w base P g d ∧ GI g) := ⟨h,hi⟩
 obtain ⟨c0,z0⟩ := h.c0
 obtain ⟨q,cap,e⟩ := h.mform
 rw [e] at c0
 have hP := h.low.2
 have hn2 := hi.i0.n2.1
 have hm30 := hi.i0.many30
 unfold Cas.sayC at hc
 clear h hi e
 by_cases h1:who < 0 ∨ (g.n:Int) ≤ who ∨ word < 1 ∨ 30 < word
 ·rw [if_pos h1] at hc
  subst hc
  rw [errF_no (by decide)]
  have h4:who < 0 ∨ (0 ≤ who ∧ (g.n:Int) ≤ who) ∨ (0 ≤ who ∧ who < (g.n:Int) ∧ (word < 1 ∨ 30 < word)) := by omega
  clear h1
  rcases h4 with h1 | ⟨h1,h2⟩ | ⟨h1,h2,h3⟩
  ·go_enter Tryz.func31,Tryz.ntmps31
   go_wp2
   go_ret
   exact ⟨rfl,Below.refl _ _⟩
  ·go_enter Tryz.func31,Tryz.ntmps31
   go_wp2
   go_ret
   exact ⟨rfl,Below.refl _ _⟩
  ·go_enter Tryz.func31,Tryz.ntmps31
   go_wp2_with fail
   refine (word_no word _ h3).mono ?_
   rintro e w ⟨rfl,rfl⟩
   go_wp2
   go_ret
   exact ⟨rfl,Below.refl _ _⟩
 ·rw [if_neg h1] at hc
  have h2:0 ≤ who := by omega
  have h3:who < (g.n:Int) := by omega
  have h4:1 ≤ word := by omega
  have h5:word ≤ 30 := by omega
  clear h1
  cases hs:(g.said word).isSome
  ·rw [hs,if_neg (by decide)] at hc
   have HS:Hid ((g.said word).isSome = false) := hs
   by_cases f1:g.l.length + (g.n - 1) ≤ 40
   ·have F1:Hid (decide (g.l.length + (g.n - 1) ≤ 40) = true) := decide_eq_true f1
    by_cases f2:(g.many + 1) * g.n ≤ 60
    ·rw [if_neg (by omega)] at hc
     subst hc
     rw [errF_ok]
     have F2:Hid (decide ((g.many + 1) * g.n ≤ 60) = true) := decide_eq_true f2
     clear f1 f2 hs
     go_enter Tryz.func31,Tryz.ntmps31
     go_wp2_with fail
     refine (word_yes word _ h4 h5).mono ?_
     rintro e w ⟨rfl,rfl⟩
     go_wp2_with fail
     refine (was_any word _ ⟨h4,h5⟩ HH.out.1 false HS.out).mono ?_
     rintro e w1 ⟨rfl,hb1⟩
     have B1:Hid (Below w.heap.size w w1) := hb1
     clear hb1
     go_wp2_with fail
     refine (onWay_any _ (HH.out.1.later B1.out) HH.out.2.net hn2 true F1.out).mono ?_
     rintro e w2 ⟨rfl,hb2⟩
     have B2:Hid (Below w.heap.size w w2) := B1.out.trans (hb2.mono B1.out.size)
     clear hb2
     go_wp2_with fail
     refine (inHist_any _ (HH.out.1.later B2.out) hm30 true F2.out).mono ?_
     rintro e w3 ⟨rfl,hb3⟩
     have B3:Hid (Below w.heap.size w w3) := B2.out.trans (hb3.mono B2.out.size)
     clear hb3
     go_wp2
     go_ret
     exact ⟨rfl,B3.out⟩
    ·rw [if_pos (by omega)] at hc
     subst hc
     rw [errF_no (by decide)]
     have F2:Hid (decide ((g.many + 1) * g.n ≤ 60) = false) := decide_eq_false f2
     clear f1 f2 hs
     go_enter Tryz.func31,Tryz.ntmps31
     go_wp2_with fail
     refine (word_yes word _ h4 h5).mono ?_
     rintro e w ⟨rfl,rfl⟩
     go_wp2_with fail
     refine (was_any word _ ⟨h4,h5⟩ HH.out.1 false HS.out).mono ?_
     rintro e w1 ⟨rfl,hb1⟩
     have B1:Hid (Below w.heap.size w w1) := hb1
     clear hb1
     go_wp2_with fail
     refine (onWay_any _ (HH.out.1.later B1.out) HH.out.2.net hn2 true F1.out).mono ?_
     rintro e w2 ⟨rfl,hb2⟩
     have B2:Hid (Below w.heap.size w w2) := B1.out.trans (hb2.mono B1.out.size)
     clear hb2
     go_wp2_with fail
     refine (inHist_any _ (HH.out.1.later B2.out) hm30 false F2.out).mono ?_
     rintro e w3 ⟨rfl,hb3⟩
     have B3:Hid (Below w.heap.size w w3) := B2.out.trans (hb3.mono B2.out.size)
     clear hb3
     go_wp2
     go_ret
     exact ⟨rfl,B3.out⟩
   ·rw [if_pos (by omega)] at hc
    subst hc
    rw [errF_no (by decide)]
    have F1:Hid (decide (g.l.length + (g.n - 1) ≤ 40) = false) := decide_eq_false f1
    clear f1 hs
    go_enter Tryz.func31,Tryz.ntmps31
    go_wp2_with fail
    refine (word_yes word _ h4 h5).mono ?_
    rintro e w ⟨rfl,rfl⟩
    go_wp2_with fail
    refine (was_any word _ ⟨h4,h5⟩ HH.out.1 false HS.out).mono ?_
    rintro e w1 ⟨rfl,hb1⟩
    have B1:Hid (Below w.heap.size w w1) := hb1
    clear hb1
    go_wp2_with fail
    refine (onWay_any _ (HH.out.1.later B1.out) HH.out.2.net hn2 false F1.out).mono ?_
    rintro e w2 ⟨rfl,hb2⟩
    have B2:Hid (Below w.heap.size w w2) := B1.out.trans (hb2.mono B1.out.size)
    clear hb2
    go_wp2
    go_ret
    exact ⟨rfl,B2.out⟩
  ·rw [hs,if_pos rfl] at hc
   subst hc
   rw [errF_no (by decide)]
   have HS:Hid ((g.said word).isSome = true) := hs
   clear hs
   go_enter Tryz.func31,Tryz.ntmps31
   go_wp2_with fail
   refine (word_yes word _ h4 h5).mono ?_
   rintro e w ⟨rfl,rfl⟩
   go_wp2_with fail
   refine (was_any word _ ⟨h4,h5⟩ HH.out.1 true HS.out).mono ?_
   rintro e w1 ⟨rfl,hb1⟩
   have B1:Hid (Below w.heap.size w w1) := hb1
   clear hb1
   go_wp2
   go_ret
   exact ⟨rfl,B1.out⟩
theorem drop_any (i:Int) (w:World) (h:CB w base P g d) (hi:NInv g.l) (hbw:base ≤ w.heap.size):Calls Tryz.prog 145 #[.pointer (some ⟨P,0,none⟩),.int .i64 i] w fun x w' => x = .returned (errF (dropC g.l i)) ∧ ∃ d',CR w w' base P g d (drop g i) d' := by
 have HH:Hid (CB w base P g d ∧ NInv g.l ∧ base ≤ w.heap.size) := ⟨h,hi,hbw⟩
 obtain ⟨c1,z1⟩ := h.c1
 clear h hi hbw
 go_enter Tryz.func145,Tryz.ntmps145
 go_wp2_with fail
 refine (Net.dropN base d.N (fun _ _ => false) g.l (d.F 1) i w HH.out.1.net HH.out.2.1 HH.out.2.2).mono ?_
 rintro e w1 ⟨fp',rfl,hn,hb,hk,hw⟩
 have R:Hid (CR w w1 base P g d (drop g i) { d with F := put d.F 1 fp' }) := HH.out.1.net_step hn hb hk hw
 clear hn hb hk hw
 go_wp2
 go_ret
 exact ⟨rfl,_,R.out⟩
theorem twice_any (i:Int) (w:World) (h:CB w base P g d) (hi:NInv g.l) (hbw:base ≤ w.heap.size):Calls Tryz.prog 146 #[.pointer (some ⟨P,0,none⟩),.int .i64 i] w fun x w' => x = .returned (errF (twC g.l i)) ∧ ∃ d',CR w w' base P g d (twice g i) d' := by
 have HH:Hid (CB w base P g d ∧ NInv g.l ∧ base ≤ w.heap.size) := ⟨h,hi,hbw⟩
 obtain ⟨c1,z1⟩ := h.c1
 clear h hi hbw
 go_enter Tryz.func146,Tryz.ntmps146
 go_wp2_with fail
 refine (Net.twiceN base d.N (fun _ _ => false) g.l (d.F 1) i w HH.out.1.net HH.out.2.1 HH.out.2.2).mono ?_
 rintro e w1 ⟨fp',rfl,hn,hb,hk,hw⟩
 have R:Hid (CR w w1 base P g d (twice g i) { d with F := put d.F 1 fp' }) := HH.out.1.net_step hn hb hk hw
 clear hn hb hk hw
 go_wp2
 go_ret
 exact ⟨rfl,_,R.out⟩
theorem way_any (w:World) (h:CB w base P g d) (hi:NInv g.l):Calls Tryz.prog 149 #[.pointer (some ⟨P,0,none⟩)] w fun x w' => ∃ v,x = .returned v ∧ Po w' w.heap.size v g.l ∧ Below w.heap.size w w' := by
 have HH:Hid (CB w base P g d ∧ NInv g.l) := ⟨h,hi⟩
 obtain ⟨c1,z1⟩ := h.c1
 clear h hi
 go_enter Tryz.func149,Tryz.ntmps149
 go_wp2_with fail
 refine (Net.allN base d.N (fun _ _ => false) g.l (d.F 1) w HH.out.1.net HH.out.2).mono ?_
 rintro e w1 ⟨v,rfl,ho,hb⟩
 have R:Hid (Po w1 w.heap.size v g.l ∧ Below w.heap.size w w1) := ⟨ho,hb⟩
 clear ho hb
 go_wp2
 go_ret
 exact ⟨_,rfl,R.out.1,R.out.2⟩
end Go.Proofs.YtdmniblonikjlakGreatDoor.Caq


namespace Go.Proofs.YtdmniblonikjlakGreatDoor.Caq
open Go.RowKit
open Net (Pk flat flat_len flat_one)
open Cas (G)
open Fif (own_lt own_block own_form own_mono Kp ret_bool)
set_option linter.unusedVariables false
theorem infoE:(Tryz.prog.info? 40).map (fun i => (i.zero,i.size,i.bytes)) = some (some (.agg #[.int .i64 0,.int .i64 0,.int .i64 0]),3,24) := by kernel_rfl
theorem info_ev:∃ i,Tryz.prog.info? 40 = some i ∧ i.zero = some (.agg #[.int .i64 0,.int .i64 0,.int .i64 0]) ∧ i.size = 3 ∧ i.bytes = 24 := by
 obtain ⟨i,hi,hzz⟩ := Option.map_eq_some_iff.1 infoE
 simp only [Prod.mk.injEq] at hzz
 exact ⟨i,hi,hzz.1,hzz.2.1,hzz.2.2⟩
theorem ev_empty (w:World):(w.alloc (.cells #[] 40)).ownsRow w.heap.size 40 3 (.slice (some ⟨w.heap.size,0,none⟩) 0 0) 0 [] := by
 refine ⟨rfl,.inr ⟨w.heap.size,0,#[],rfl,Nat.le_refl _,?_,Nat.le_refl _,by unfold maxLen; omega,rfl,rfl⟩⟩
 show (w.heap.push _)[w.heap.size]? = _
 simp
set_option maxRecDepth 100000 in
theorem clone_ev (base:Nat) (v:Value) (l:List Pk) (w:World) (g:w.ownsRow base 40 3 v l.length (flat l)) (hl:l.length ≤ 1000000) :
  Calls Tryz.prog 38 #[v] w fun x w' => ∃ v',x = .returned v' ∧ w'.ownsRow w.heap.size 40 3 v' l.length (flat l) ∧ Below w.heap.size w w' := by
 rcases g.2 with ⟨rfl,h3⟩ | ⟨g0,cap,cur,rfl,hb,hh,hc,hm,hsz,ht⟩
 ·have el:l = [] := List.eq_nil_of_length_eq_zero h3
  subst el
  have hnil := fun W:World => Lib.run_eql_slice_nil (P := Tryz.prog) W 34 40 none 0 0 0 0 Tryz.underlying34
  clear g hl h3
  go_enter Tryz.func38,Tryz.ntmps38
  go_wp2
  go_ret
  exact ⟨_,rfl,World.ownsRow_nil _ _ _ _,Below.refl _ _⟩
 ·obtain ⟨n,en⟩:∃ n,n = l.length := ⟨_,rfl⟩
  have HN:Hid (n = l.length) := en
  have hlt:g0 < w.heap.size := by
   rcases Nat.lt_or_ge g0 w.heap.size with a | a
   ·exact a
   ·rw [Array.getElem?_eq_none a] at hh; cases hh
  have HC:Hid (∀ j u,(flat l)[j]? = some u → (w.alloc (.cells #[] 40)).cell? ((⟨g0,0,none⟩:Addr).add j) = some u) := by
   intro j u hj
   have hjl:j < l.length * 3 := by
    have := (List.getElem?_eq_some_iff.1 hj).1
    rwa [flat_len] at this
   rw [Addr.add_lit,Nat.zero_add]
   refine (((Below.refl w.heap.size w).alloc (Nat.le_refl _) _).cell (p := ⟨g0,j,none⟩) hlt).trans ?_
   rw [← ht,List.getElem?_take_of_lt hjl] at hj
   simp only [World.cell?,hh]
   simpa using hj
  obtain ⟨ie,hi,hz0,hz1,hz2⟩ := info_ev
  have HI:Hid (Tryz.prog.info? 40 = some ie ∧ ie.zero = some (.agg #[.int .i64 0,.int .i64 0,.int .i64 0]) ∧ ie.size = 3 ∧ ie.bytes = 24) := ⟨hi,hz0,hz1,hz2⟩
  rw [← en] at hl ⊢
  have hnil := fun W:World => Lib.run_eql_slice_nil (P := Tryz.prog) W 34 40 (some ⟨g0,0,none⟩) n cap 0 0 Tryz.underlying34
  clear g hb hh hc hm hsz ht hi hz0 hz1 hz2 en hlt
  go_enter Tryz.func38,Tryz.ntmps38
  go_wp2_with (at_builtin; refine wpList_append_own _ rfl _ _ 34 rfl w.heap.size 40 ie (.agg #[.int .i64 0,.int .i64 0,.int .i64 0]) 3 24 Tryz.underlying34 HI.out.1 HI.out.2.1 HI.out.2.2.1 HI.out.2.2.2 rfl (by decide) _ 0 _ rfl (ev_empty w) ⟨g0,0,none⟩ n cap (flat l) rfl (by rw [flat_len,HN.out]) HC.out (flat_one _) (by unfold maxLen; omega) (by omega) (by simp) ?_; intro v' wn hown hgrow _; rw [Nat.zero_add,List.nil_append] at hown; have HO:Hid (wn.ownsRow w.heap.size 40 3 v' n (flat l)) := hown; have HGr:Hid _ := hgrow; clear hown hgrow)
  go_ret
  refine ⟨_,rfl,?_,((Below.refl w.heap.size w).alloc (Nat.le_refl _) _).grown HGr.out (by simp) (fun k e => (own_lt (ev_empty w) k e).1)⟩
  exact HO.out
theorem hist_any {base P:Nat} {g:G} {d:Lo} (w:World) (h:CB w base P g d) (hl:g.H.length ≤ 1000000):Calls Tryz.prog 11 #[.pointer (some ⟨P,0,none⟩)] w fun x w' => ∃ v,x = .returned v ∧ w'.ownsRow w.heap.size 40 3 v g.H.length (flat g.H) ∧ Below w.heap.size w w' := by
 have HH:Hid (CB w base P g d ∧ g.H.length ≤ 1000000) := ⟨h,hl⟩
 obtain ⟨c3,z3⟩ := h.c3
 obtain ⟨q,cap,e⟩ := own_form h.his
 have HV:Hid (d.hv = .slice q g.H.length cap) := e
 rw [e] at c3
 clear h e hl
 go_enter Tryz.func11,Tryz.ntmps11
 go_wp2_with fail
 refine (clone_ev base _ g.H w (by rw [← HV.out]; exact HH.out.1.his) HH.out.2).mono ?_
 rintro e w1 ⟨v,rfl,ho,hb⟩
 have R:Hid (w1.ownsRow w.heap.size 40 3 v g.H.length (flat g.H) ∧ Below w.heap.size w w1) := ⟨ho,hb⟩
 clear ho hb
 go_wp2
 go_ret
 exact ⟨_,rfl,R.out.1,R.out.2⟩
end Go.Proofs.YtdmniblonikjlakGreatDoor.Caq


namespace Go.Proofs.YtdmniblonikjlakGreatDoor.Caq
open Go.RowKit Go.Maps
open Net (Pk KpL NewL Po NS errF errF_ok errF_no NInv flat)
open Cas (G GI setL upd pks)
open Fif (own_lt own_block own_form own_mono own_vw)
open Vec (Vw)
open His (Ev)
set_option linter.unusedVariables false
variable {w w':World} {base P:Nat} {g g1:G} {d d1:Lo}
theorem CR.vw (h:CR w w' base P g d g1 d1) {q:Option Addr} {len:Nat} {xs:List Int} (hv:Vw w q len xs) (hq:∀ b o,q = some ⟨b,o,none⟩ → b ∉ all d.F):Vw w' q len xs := by
 refine ⟨hv.1,fun hl => ?_⟩
 obtain ⟨b,off,e,hlt,hc⟩ := hv.2 hl
 obtain ⟨s1,s2,_⟩ := h.stays hlt (hq b off e)
 exact ⟨b,off,e,s2,fun k hk => (World.cell?_of_block (a := ⟨b,off + k,none⟩) s1).trans (hc k hk)⟩
def evs (who what:Int) (l:List Int):List Ev := l.map fun y => (who,what,y)
theorem evs_take {xs:List Int} {i:Nat} (hi:i < xs.length) (who what:Int) (H:List Ev):H ++ evs who what (xs.take (i + 1)) = (H ++ evs who what (xs.take i)) ++ [(who,what,xs.getD i 0)] := by
 have e:xs.take (i + 1) = xs.take i ++ [xs.getD i 0] := by
  rw [List.take_succ_eq_append_getElem hi]
  congr 2
  simp [List.getD,hi]
 rw [e]
 simp [evs]
set_option maxRecDepth 100000 in
theorem note_any (who what:Int) (q:Option Addr) (len cap:Nat) (xs:List Int) (w:World) (h:CB w base P g d) (hbw:base ≤ w.heap.size) (hv:Vw w q len xs) (hq:∀ b o,q = some ⟨b,o,none⟩ → b ∉ all d.F) (hl:g.H.length + xs.length ≤ 1000) :
  Calls Tryz.prog 33 #[.pointer (some ⟨P,0,none⟩),.int .i64 who,.int .i64 what,.slice q len cap] w fun x w' => x = .returned (.tuple #[]) ∧ ∃ d',CR w w' base P g d { g with H := g.H ++ evs who what xs } d' := by
 have HH:Hid (CB w base P g d ∧ base ≤ w.heap.size ∧ Vw w q len xs ∧ (∀ b o,q = some ⟨b,o,none⟩ → b ∉ all d.F) ∧ g.H.length + xs.length ≤ 1000 ∧ xs.length = len) := ⟨h,hbw,hv,hq,hl,hv.1⟩
 obtain ⟨ie,hie,hz0,hz1,hz2⟩ := info_ev
 have HI:Hid (Tryz.prog.info? 40 = some ie ∧ ie.zero = some (.agg #[.int .i64 0,.int .i64 0,.int .i64 0]) ∧ ie.size = 3 ∧ ie.bytes = 24) := ⟨hie,hz0,hz1,hz2⟩
 have hlen:len ≤ 1000 := by have := hv.1; omega
 clear h hbw hv hq hl hie hz0 hz1 hz2
 go_enter Tryz.func33,Tryz.ntmps33
 go_wp2
 go_loopw [12] (fun y wr => ∃ i:Nat,i ≤ len ∧ y = .int .i64 (i:Int) ∧ Hid (∃ d',CR w wr base P g d { g with H := g.H ++ evs who what (xs.take i) } d')) (fun y _ => len - (intOf y).toNat)
 case atStart =>
  refine ⟨0,by omega,rfl,d,?_⟩
  have e:g.H ++ evs who what (xs.take 0) = g.H := by simp [evs]
  rw [e]
  exact CR.still HH.out.1 HH.out.2.1 (Below.refl _ _)
 case round =>
  obtain ⟨i,hil,rfl,hQ⟩ := hrel
  by_cases hlt:i < len
  ·obtain ⟨d',hR⟩ := hQ.out
   obtain ⟨hh,ehh⟩:∃ hh,hh = g.H ++ evs who what (xs.take i) := ⟨_,rfl⟩
   rw [← ehh] at hR
   obtain ⟨c3,z3⟩ := hR.cb.c3
   have oh:wr.ownsRow base 40 3 d'.hv hh.length (flat hh) := hR.cb.his
   obtain ⟨qh,caph,evh⟩ := own_form oh
   obtain ⟨lh,elh⟩:∃ lh,lh = hh.length := ⟨_,rfl⟩
   rw [← elh] at evh oh
   rw [evh] at c3 oh
   have hl:lh ≤ 1000 := by
    have := HH.out.2.2.2.2.1
    rw [elh,ehh,List.length_append]
    simp [evs]
    omega
   have R:Hid (CR w wr base P g d { g with H := hh } d' ∧ d'.hv = .slice qh lh caph ∧ lh = hh.length ∧ base ≤ wr.heap.size ∧ P < wr.heap.size ∧ wr.ownsRow base 40 3 (.slice qh lh caph) lh (flat hh) ∧ hh = g.H ++ evs who what (xs.take i)) := ⟨hR,evh,elh,Nat.le_trans HH.out.2.1 hR.kp.1,hR.cb.low.2,oh,ehh⟩
   have NC:Hid (some P ≠ (Value.slice qh lh caph).ownBlock) := fun e => by
    have q1 := hR.cb.inhv (k := P) (by rw [evh]; exact e.symm)
    have := hR.cb.sep.dj 3 0 (by omega) (by omega) P q1 hR.cb.inP
    omega
   obtain ⟨b,off,eq,hbl,hcs⟩ := (hR.vw HH.out.2.2.1 HH.out.2.2.2.1).2 (by omega)
   have ci := hcs i hlt
   obtain ⟨y,ey⟩:∃ y,y = xs.getD i 0 := ⟨_,rfl⟩
   rw [← ey] at ci
   have EY:Hid (y = xs.getD i 0) := ey
   have EQ:Hid (q = some ⟨b,off,none⟩) := eq
   have hi0:(0:Int) ≤ (i:Int) := by omega
   have hilv:(i:Int) < (len:Int) := by omega
   have h24:(lh + 1) * 24 ≤ 140737488355328 := by omega
   have hP := hR.cb.low.2
   subst eq
   clear hR oh evh elh ehh hQ hcs ey
   go_wp2_with (at_builtin; refine wpList_append_lies _ rfl _ _ 34 rfl base 40 ie (.agg #[.int .i64 0,.int .i64 0,.int .i64 0]) 3 24 Tryz.underlying34 HI.out.1 HI.out.2.1 HI.out.2.2.1 HI.out.2.2.2 rfl (by decide) (.slice qh lh caph) lh (flat hh) rfl (by exact Net.own_push R.out.2.2.2.2.2.1 rfl) ⟨wr.heap.size,0,none⟩ 1 1 (flat [(who,what,y)]) rfl rfl (by exact Net.pk_push rfl) (Net.flat_one _) (by omega) (by unfold maxLen; omega) (by omega) (by have := R.out.2.2.2.1; simp; omega) (wr.heap.size + 1) (by simp) ?_; intro gg gc w5 hown hgrow hat _; have G5:Hid ((wr.alloc (.cells #[.int .i64 who,.int .i64 what,.int .i64 y] 40)).grownBy w5 (Value.slice qh lh caph).ownBlock) := hgrow; have O5:Hid (w5.ownsRow base 40 3 (.slice (some ⟨gg,0,none⟩) (lh + 1) gc) (lh + 1) (flat hh ++ flat [(who,what,y)])) := hown; have AT:Hid ((Value.slice qh lh caph).ownBlock = some gg ∨ gg = wr.heap.size + 1) := hat; have l3:w5.cell? ⟨P,3,none⟩ = some (.slice qh lh caph) := ((G5.out.cell_far ⟨P,3,none⟩ (by have := R.out.2.2.2.2.1; simp; omega) NC.out).trans ((((Below.refl wr.heap.size wr).alloc (Nat.le_refl _) _).cell (p := ⟨P,3,none⟩) R.out.2.2.2.2.1).trans c3)); have m3:w5.frozen? ⟨P,3,none⟩ = false := ((G5.out.frozen_far ⟨P,3,none⟩ (by have := R.out.2.2.2.2.1; simp; omega) NC.out).trans ((((Below.refl wr.heap.size wr).alloc (Nat.le_refl _) _).frozen (p := ⟨P,3,none⟩) R.out.2.2.2.2.1).trans z3)); clear hown hgrow hat)
   go_roundw
   case rel =>
    have hg:wr.grownBy w5 d'.hv.ownBlock := by
     rw [R.out.2.1]
     have b2 := (Below.refl wr.heap.size wr).alloc (Nat.le_refl _) (.cells #[.int .i64 who,.int .i64 what,.int .i64 y] 40)
     have h5 := G5.out
     exact ⟨h5.os.trans b2.os,h5.tape.trans b2.tape,h5.output.trans b2.output,Nat.le_trans b2.size h5.size,fun k hk hne => (h5.block k (Nat.lt_of_lt_of_le hk b2.size) hne).trans (b2.block k hk)⟩
    have o5:w5.ownsRow base 40 3 (.slice (some ⟨gg,0,none⟩) (lh + 1) gc) (hh ++ [(who,what,y)]).length (flat (hh ++ [(who,what,y)])) := by
     have o := O5.out
     rw [← Net.flat_append] at o
     rw [List.length_append,← R.out.2.2.1]
     exact o
    have hv:∀ k,(Value.slice (some (⟨gg,0,none⟩:Addr)) (lh + 1) gc).ownBlock = some k → d'.hv.ownBlock = some k ∨ wr.heap.size ≤ k := by
     intro k hk
     rw [R.out.2.1]
     have e:gg = k := by simpa [Value.ownBlock] using hk
     subst e
     rcases AT.out with a | a
     ·exact .inl a
     ·exact .inr (by omega)
    have r1 := R.out.1.cb.his_step R.out.2.2.2.1 hg o5 hv
    have r := R.out.1.trans r1
    have eH:hh ++ [(who,what,y)] = g.H ++ evs who what (xs.take (i + 1)) := by
     rw [evs_take (by have := HH.out.2.2.2.2.2; omega),R.out.2.2.2.2.2.2,EY.out]
    rw [eH] at r
    exact ⟨i + 1,by omega,by go_num,_,r⟩
   case measure => simp [intOf]; omega
  ·have hi:i = len := by omega
   subst hi
   go_wp2
   go_end0
   obtain ⟨d',hR⟩ := hQ.out
   rw [← HH.out.2.2.2.2.2,List.take_length] at hR
   exact ⟨rfl,d',hR⟩
theorem pks_succ (n:Nat) (who word:Int):pks (n + 1) who word = pks n who word ++ (if (n:Int) = who then [] else [(who,(n:Int),word)]) := by
 unfold pks
 rw [List.range_succ,List.filter_append,List.map_append]
 congr 1
 by_cases e:(n:Int) = who
 ·rw [if_pos e]; simp [e]
 ·rw [if_neg e]; simp [e]
theorem pks_le:∀ (n b:Nat) (word:Int),(pks n (b:Int) word).length + (if b < n then 1 else 0) = n := by
 intro n b word
 induction n with
 | zero => simp [pks]
 | succ n ih =>
  rw [pks_succ,List.length_append]
  by_cases e:n = b
  ·subst e
   rw [if_pos rfl,if_pos (by omega)]
   rw [if_neg (by omega)] at ih
   simp
   omega
  ·rw [if_neg (by omega)]
   by_cases q:b < n
   ·rw [if_pos q] at ih
    rw [if_pos (by omega)]
    simp
    omega
   ·rw [if_neg q] at ih
    rw [if_neg (by omega)]
    simp
    omega
set_option maxRecDepth 100000 in
theorem send_any (who:Nat) (word:Int) (w:World) (h:CB w base P g d) (hi:NInv g.l) (hbw:base ≤ w.heap.size) (hw:who < g.n) (h1:1 ≤ word) (h2:word ≤ 30) (hroom:g.l.length + (g.n - 1) ≤ 40) :
  Calls Tryz.prog 34 #[.pointer (some ⟨P,0,none⟩),.int .i64 (who:Int),.int .i64 word] w fun x w' => x = .returned .nilIface ∧ ∃ d',CR w w' base P g d (setL g (g.l ++ pks g.n (who:Int) word)) d' := by
 have HH:Hid (CB w base P g d ∧ NInv g.l ∧ base ≤ w.heap.size ∧ who < g.n ∧ g.l.length + (g.n - 1) ≤ 40 ∧ g.n ≤ 5) := ⟨h,hi,hbw,hw,hroom,h.n5⟩
 obtain ⟨c0,z0⟩ := h.c0
 obtain ⟨q,cap,e⟩ := h.mform
 rw [e] at c0
 have hn5:g.n ≤ 5 := h.n5
 clear h hi hbw hw hroom e
 go_enter Tryz.func34,Tryz.ntmps34
 go_wp2
 go_loopw [14] (fun y wr => ∃ i:Nat,i ≤ g.n ∧ y = .int .i64 (i:Int) ∧ Hid (∃ d',CR w wr base P g d (setL g (g.l ++ pks i (who:Int) word)) d' ∧ NInv (g.l ++ pks i (who:Int) word))) (fun y _ => g.n - (intOf y).toNat)
 case atStart =>
  refine ⟨0,by omega,rfl,d,?_⟩
  have e:g.l ++ pks 0 (who:Int) word = g.l := by simp [pks]
  rw [e]
  exact ⟨CR.still HH.out.1 HH.out.2.2.1 (Below.refl _ _),HH.out.2.1⟩
 case round =>
  obtain ⟨i,hil,rfl,hQ⟩ := hrel
  by_cases hlt:i < g.n
  ·have hi0:(0:Int) ≤ (i:Int) := by omega
   have hilv:(i:Int) < (g.n:Int) := by omega
   by_cases ew:i = who
   ·have he:((i:Int) == (who:Int)) = true := by simp [ew]
    have EW:Hid (i = who) := ew
    clear ew
    go_wp2
    go_roundw
    case rel =>
     obtain ⟨d',hR,hN⟩ := hQ.out
     have e:g.l ++ pks (i + 1) (who:Int) word = g.l ++ pks i (who:Int) word := by
      rw [pks_succ,if_pos (by rw [EW.out]),List.append_nil]
     refine ⟨i + 1,by omega,by go_num,d',?_⟩
     rw [e]
     exact ⟨hR,hN⟩
    case measure => simp [intOf]; omega
   ·have he:((i:Int) == (who:Int)) = false := by simp; omega
    obtain ⟨d',hR,hN⟩ := hQ.out
    obtain ⟨c1,z1⟩ := hR.cb.c1
    obtain ⟨ll,ell⟩:∃ ll,ll = g.l ++ pks i (who:Int) word := ⟨_,rfl⟩
    rw [← ell] at hR hN
    have hlen:ll.length < 40 := by
     have e1 := pks_le i who word
     have e2 := HH.out.2.2.2.2.1
     have e3 := HH.out.2.2.2.1
     rw [ell,List.length_append]
     by_cases q1:who < i
     ·rw [if_pos q1] at e1
      omega
     ·rw [if_neg q1] at e1
      omega
    have hsc:Net.sendC ll ((who:Int),(i:Int),word) = 0 := by
     have e3 := HH.out.2.2.2.1
     rw [Nw.send_room h1 h2 (by unfold Net.cutC; rw [if_pos ⟨Nw.mem5_of (by omega) (by omega),Nw.mem5_of (by omega) (by omega)⟩,if_neg (by omega)]),if_neg (by omega)]
    have R:Hid (CR w wr base P g d (setL g ll) d' ∧ NInv ll ∧ base ≤ wr.heap.size ∧ Net.sendC ll ((who:Int),(i:Int),word) = 0 ∧ ll = g.l ++ pks i (who:Int) word ∧ i ≠ who) := ⟨hR,hN,Nat.le_trans HH.out.2.2.1 hR.kp.1,hsc,ell,ew⟩
    clear hR hN hQ ell hlen hsc ew
    go_wp2_with fail
    refine (Net.sendN base d'.N (fun _ _ => false) ll (d'.F 1) ((who:Int),(i:Int),word) wr R.out.1.cb.net R.out.2.1 R.out.2.2.1).mono ?_
    rintro e w1 ⟨fp',rfl,hn,hb,hk,hw⟩
    rw [R.out.2.2.2.1,errF_ok]
    have R1:Hid (∃ d1,CR w w1 base P g d (setL g (Net.sendL ll ((who:Int),(i:Int),word))) d1) := ⟨_,R.out.1.trans (R.out.1.cb.net_step hn hb hk hw)⟩
    clear hn hb hk hw
    go_wp2
    go_roundw
    case rel =>
     obtain ⟨d1,r⟩ := R1.out
     have e:g.l ++ pks (i + 1) (who:Int) word = Net.sendL ll ((who:Int),(i:Int),word) := by
      have := R.out.2.2.2.2.2
      rw [Nw.sendL_ok R.out.2.2.2.1,R.out.2.2.2.2.1,pks_succ,if_neg (by omega),List.append_assoc]
     refine ⟨i + 1,by omega,by go_num,d1,?_⟩
     rw [e]
     exact ⟨r,R.out.2.1.send _⟩
    case measure => simp [intOf]; omega
  ·have hi:i = g.n := by omega
   subst hi
   go_wp2
   go_ret
   obtain ⟨d',hR,hN⟩ := hQ.out
   exact ⟨rfl,d',hR⟩
end Go.Proofs.YtdmniblonikjlakGreatDoor.Caq


namespace Go.Proofs.YtdmniblonikjlakGreatDoor.Caq
open Go.RowKit Go.Maps
open Net (Pk KpL NewL Po NS errF errF_ok errF_no NInv flat)
open Cau (Sd CS)
open Cap (RV own_heap)
open Cas (G GI setL upd)
open Fif (own_lt own_block own_form own_mono own_vw)
set_option linter.unusedVariables false
theorem infoM:(Tryz.prog.info? 77).map (fun i => (i.zero,i.size,i.bytes)) = some (some (.pointer none),1,8) := by kernel_rfl
theorem info_mem:∃ i,Tryz.prog.info? 77 = some i ∧ i.zero = some (.pointer none) ∧ i.size = 1 ∧ i.bytes = 8 := by
 obtain ⟨i,hi,hzz⟩ := Option.map_eq_some_iff.1 infoM
 simp only [Prod.mk.injEq] at hzz
 exact ⟨i,hi,hzz.1,hzz.2.1,hzz.2.2⟩
theorem new_ptr (w:World) (B:Nat) (hB:B = w.heap.size) (x:Value) (t:TypeId):∀ j u,[x][j]? = some u → (w.alloc (.cells #[x] t)).cell? ((⟨B,0,none⟩:Addr).add j) = some u := by
 subst hB
 intro j u hj
 rw [Addr.add_lit,Nat.zero_add]
 rcases j with _ | j
 ·simpa using hj
 ·simp at hj
theorem ptrs_snoc (d d':Lo) (i Q:Nat) (h:d'.Pm = fun j => if j = i then Q else d.Pm j):ptrs d' (i + 1) = ptrs d i ++ [.pointer (some ⟨Q,0,none⟩)] := by
 unfold ptrs
 rw [List.range_succ,List.map_append,h]
 congr 1
 ·apply List.map_congr_left
  intro j hj
  have := List.mem_range.1 hj
  simp only
  rw [if_neg (by omega)]
 ·simp
theorem CB.more {w w2 w3 w5:World} {base P i Q:Nat} {d:Lo} {fq:List Nat} {mv':Value} (h:CB w base P (Cas.start i) d) (hi:i < 5) (hbw:base ≤ w.heap.size) (hb2:Below w.heap.size w w2) (hc:CS w2 w.heap.size Q (i:Int) [0,0,0,0,0] [] fq) (hb3:Below w2.heap.size w2 w3) (hg:w3.grownBy w5 d.mv.ownBlock)
  (ho:w5.ownsRow base 77 1 mv' (i + 1) (ptrs d i ++ [.pointer (some ⟨Q,0,none⟩)])) (hat:∀ k,mv'.ownBlock = some k → d.mv.ownBlock = some k ∨ w3.heap.size ≤ k) :
  CB (w5.setCell ⟨P,0,none⟩ mv') base P (Cas.start (i + 1)) { d with mv := mv',Pm := fun j => if j = i then Q else d.Pm j,F := put (put d.F 0 (P :: mv'.ownBlock.toList)) (5 + i) fq } ∧ Below base w (w5.setCell ⟨P,0,none⟩ mv') := by
 have hP := h.low
 have hmvlt:∀ k,d.mv.ownBlock = some k → k < w.heap.size := fun k hk => (own_lt h.mem k hk).2
 have hs2 := hb2.size
 have hs3 := hb3.size
 have hs5 := hg.size
 have hsW:(w5.setCell ⟨P,0,none⟩ mv').heap.size = w5.heap.size := by simp [World.setCell]
 have hmvP:∀ k,d.mv.ownBlock = some k → k ≠ P := fun k hk => apart_row h.row (by decide) h.mem hk
 have hmP:mv'.ownBlock ≠ some P := fun e => by
  rcases hat P e with a | a
  ·exact hmvP P a rfl
  ·omega
 have rP:w5.heap[P]? = w.heap[P]? := (hg.block P (by omega) fun e => hmvP P e.symm rfl).trans ((hb3.block P (by omega)).trans (hb2.block P hP.2))
 have kb:∀ b,b < w.heap.size → b ≠ P → d.mv.ownBlock ≠ some b → (w5.setCell ⟨P,0,none⟩ mv').heap[b]? = w.heap[b]? := fun b hb hne hm => (Deep.blk_setCell_other _ _ _ _ hne).trans ((hg.block b (by omega) fun e => hm e.symm).trans ((hb3.block b (by omega)).trans (hb2.block b hb)))
 have kk:∀ k,k < 10 → k ≠ 0 → ∀ b ∈ d.F k,(w5.setCell ⟨P,0,none⟩ mv').heap[b]? = w.heap[b]? := fun k hk h0 b hb => kb b (h.sep.bd k hk b hb).2 (fun e => h0 (h.sep.dj k 0 hk (by omega) b hb (by rw [e]; exact h.inP))) fun e => h0 (h.sep.dj k 0 hk (by omega) b hb (h.inmv e))
 have hfq := hc.fp
 have kq:∀ b ∈ fq,(w5.setCell ⟨P,0,none⟩ mv').heap[b]? = w2.heap[b]? := fun b hb => by
  have := hfq b hb
  exact (Deep.blk_setCell_other _ _ _ _ (by show b ≠ P; omega)).trans ((hg.block b (by omega) fun e => by have := hmvlt b e.symm; omega).trans (hb3.block b this.2))
 obtain ⟨D,hm,v⟩ := h.map
 have s1:Sep (w5.setCell ⟨P,0,none⟩ mv') base (put d.F 0 (P :: mv'.ownBlock.toList)) := by
  refine h.sep.put (by omega) (by omega) (fun b hb => ?_) fun b hb => ?_
  ·rcases List.mem_cons.1 hb with rfl | a
   ·exact .inl h.inP
   ·rcases hat b (by simpa using a) with q | q
    ·exact .inl (h.inmv q)
    ·exact .inr (by omega)
  ·rcases List.mem_cons.1 hb with rfl | a
   ·exact ⟨hP.1,by omega⟩
   ·have := own_lt ho b (by simpa using a)
    exact ⟨this.1,by omega⟩
 refine ⟨⟨hi,(World.rowIs.set (World.rowIs.of_block h.row rP) 0 _).congr fun j hj => ?_,?_,?_,fun j hj => ?_,⟨D,own_heap hm (kk 2 (by omega) (by omega) _ h.inM),⟨v.tidy,v.has,fun x s q => (by cases q),v.size⟩⟩,fun x s q => (by cases q),?_,?_,?_,?_,s1.put' (by omega) (Nat.le_refl _) (fun b hb => .inr fun j hj q => ?_) fun b hb => ?_⟩,?_⟩
 ·unfold cav
  by_cases e:j = 0
  ·rw [if_pos e,if_pos e]
  ·rw [if_neg e,if_neg e,if_neg e]
 ·have e := ptrs_snoc d { d with mv := mv',Pm := fun j => if j = i then Q else d.Pm j,F := put (put d.F 0 (P :: mv'.ownBlock.toList)) (5 + i) fq } i Q rfl
  show (w5.setCell ⟨P,0,none⟩ mv').ownsRow base 77 1 mv' (i + 1) (ptrs _ (i + 1))
  rw [e]
  exact own_block ho fun k q => Deep.blk_setCell_other _ _ _ _ fun e => hmP (q.trans (congrArg some e))
 ·show NS _ base d.N (fun _ _ => false) [] (put (put d.F 0 (P :: mv'.ownBlock.toList)) (5 + i) fq 1)
  rw [put_other _ _ (by omega),put_other _ _ (by omega)]
  exact h.net.of_blocks (by omega) (kk 1 (by omega) (by omega))
 ·have hj':j < i + 1 := hj
  show CS _ base (if j = i then Q else d.Pm j) (j:Int) [0,0,0,0,0] [] (put (put d.F 0 (P :: mv'.ownBlock.toList)) (5 + i) fq (5 + j))
  by_cases e:j = i
  ·rw [if_pos e,e,put_same]
   exact (hc.of_blocks (by omega) kq).low hbw
  ·rw [if_neg e,put_other _ _ (by omega),put_other _ _ (by omega)]
   exact (h.mm j (show j < i by omega)).of_blocks (by omega) (kk (5 + j) (by omega) (by omega))
 ·exact own_block h.his fun k q => kk 3 (by omega) (by omega) _ (h.inhv q)
 ·show put (put d.F 0 (P :: mv'.ownBlock.toList)) (5 + i) fq 0 = _
  rw [put_other _ _ (by omega),put_same]
 ·show put (put d.F 0 (P :: mv'.ownBlock.toList)) (5 + i) fq 2 = _
  rw [put_other _ _ (by omega),put_other _ _ (by omega)]; exact h.f2
 ·show put (put d.F 0 (P :: mv'.ownBlock.toList)) (5 + i) fq 3 = _
  rw [put_other _ _ (by omega),put_other _ _ (by omega)]; exact h.f3
 ·have q0 := hfq b hb
  by_cases e:j = 0
  ·rw [e,put_same] at q
   rcases List.mem_cons.1 q with rfl | a
   ·omega
   ·rcases hat b (by simpa using a) with z | z
    ·have := hmvlt b z; omega
    ·omega
  ·rw [put_other _ _ e] at q
   have := (h.sep.bd j hj b q).2
   omega
 ·have := hfq b hb
  exact ⟨by omega,by omega⟩
 ·have q1:Below base w w3 := (hb2.mono hbw).trans (hb3.mono (by omega))
  exact (q1.grown hg (by omega) fun k hk => (own_lt h.mem k hk).1).setCell (p := ⟨P,0,none⟩) hP.1 _
def F0 (P M:Nat) (fn:List Nat):Nat → List Nat := fun k => if k = 0 then [P] else if k = 1 then fn else if k = 2 then [M] else []
theorem MS0 (d:Lo):MS (.map []) (Cas.start 0) d := ⟨tidy_empty,fun x => rfl,fun x s q => (by cases q),rfl⟩
set_option maxRecDepth 100000 in
set_option maxHeartbeats 1000000 in
theorem new_ok (n:Nat) (w:World) (h2:2 ≤ n) (h5:n ≤ 5):Calls Tryz.prog 8 #[.int .i64 (n:Int)] w fun x w' => ∃ P d,x = .returned (.tuple #[.pointer (some ⟨P,0,none⟩),.nilIface]) ∧ CB w' w.heap.size P (Cas.start n) d ∧ Below w.heap.size w w' := by
 have hn5:(n:Int) ≤ 5 := by omega
 have hn2:(2:Int) ≤ (n:Int) := by omega
 have hmk:∀ W:World,(Instr.makeMap 73 none).run Tryz.prog W = .ok (.map (some W.heap.size)) (W.alloc (.map #[] 0)) := fun _ => rfl
 obtain ⟨ie,hie,hz0,hz1,hz2⟩ := info_mem
 have HI:Hid (Tryz.prog.info? 77 = some ie ∧ ie.zero = some (.pointer none) ∧ ie.size = 1 ∧ ie.bytes = 8) := ⟨hie,hz0,hz1,hz2⟩
 clear hie hz0 hz1 hz2
 go_enter Tryz.func8,Tryz.ntmps8
 go_wp2_with fail
 refine (Net.newN w).mono ?_
 rintro e w1 ⟨N,fn,rfl,hn,hb⟩
 have H1:Hid (NS w1 w.heap.size N (fun _ _ => false) [] fn ∧ Below w.heap.size w w1) := ⟨hn,hb⟩
 clear hn hb
 go_wp2_with fail
 obtain ⟨W,eW⟩:∃ W,W = (w1.alloc (.map #[] 0)).alloc (.cells #[.slice none 0 0,.pointer (some ⟨N,0,none⟩),.map (some w1.heap.size),.slice none 0 0] 76) := ⟨_,rfl⟩
 rw [← eW]
 obtain ⟨P,eP⟩:∃ P,P = w1.heap.size + 1 := ⟨_,rfl⟩
 rw [← eP]
 have M0:Hid (∃ d,CB W w.heap.size P (Cas.start 0) d ∧ Below w.heap.size w W) := by
  have bm:Below w1.heap.size w1 (w1.alloc (.map #[] 0)) := (Below.refl _ _).alloc (Nat.le_refl _) _
  have bW:Below w1.heap.size w1 W := by rw [eW]; exact bm.alloc (by simp) _
  have hsW:W.heap.size = w1.heap.size + 2 := by rw [eW]; simp
  have hsz := H1.out.2.size
  have hr:W.rowIs P 76 4 (cav ⟨.slice none 0 0,N,w1.heap.size,.slice none 0 0,fun _ => 0,fun _ => (0,0),F0 P w1.heap.size fn⟩) := by
   have q := World.rowIs_alloc (w1.alloc (.map #[] 0)) #[.slice none 0 0,.pointer (some ⟨N,0,none⟩),.map (some w1.heap.size),.slice none 0 0] 76 (cav ⟨.slice none 0 0,N,w1.heap.size,.slice none 0 0,fun _ => 0,fun _ => (0,0),F0 P w1.heap.size fn⟩) (fun i hi => by
    rcases i with _ | _ | _ | _ | i <;> first | rfl | (exfalso; have:_ < 4 := hi; omega))
   rw [eW,eP]
   rw [eP] at q
   simpa using q
  have hfn := H1.out.1.fp
  refine ⟨⟨.slice none 0 0,N,w1.heap.size,.slice none 0 0,fun _ => 0,fun _ => (0,0),F0 P w1.heap.size fn⟩,⟨Nat.zero_le _,hr,World.ownsRow_nil _ _ _ _,H1.out.1.of_blocks bW.size fun b hb => bW.block b (hfn b hb).2,fun m hm => absurd hm (Nat.not_lt_zero m),⟨.map [],?_,MS0 _⟩,fun x s q => (by cases q),World.ownsRow_nil _ _ _ _,rfl,rfl,rfl,⟨fun k hk b hb => ?_,fun i j hi hj b hbi hbj => ?_⟩⟩,H1.out.2.trans (bW.mono hsz)⟩
  ·refine own_heap (World.ownsMap_made w1 _ _ _) ?_
   rw [eW,Below.heap_alloc _ _ _ (by simp)]
  ·have hb':b ∈ F0 P w1.heap.size fn k := hb
   clear hb
   rename b ∈ F0 P w1.heap.size fn k => hb
   unfold F0 at hb
   split at hb
   ·have e := List.mem_singleton.1 hb
    subst e
    exact ⟨by omega,by omega⟩
   ·split at hb
    ·have := hfn b hb
     exact ⟨this.1,by omega⟩
    ·split at hb
     ·have e := List.mem_singleton.1 hb
      subst e
      exact ⟨by omega,by omega⟩
     ·exact absurd hb List.not_mem_nil
  ·have one:∀ i,b ∈ F0 P w1.heap.size fn i → (i = 0 ∧ b = P) ∨ (i = 1 ∧ b < w1.heap.size) ∨ (i = 2 ∧ b = w1.heap.size) := by
    intro i q
    unfold F0 at q
    split at q
    ·exact .inl ⟨by assumption,List.mem_singleton.1 q⟩
    ·split at q
     ·exact .inr (.inl ⟨by assumption,(hfn b q).2⟩)
     ·split at q
      ·exact .inr (.inr ⟨by assumption,List.mem_singleton.1 q⟩)
      ·exact absurd q List.not_mem_nil
   rcases one i hbi with a | a | a <;> rcases one j hbj with c | c | c <;> omega
 clear eW H1 hmk eP
 go_wp2_with fail
 go_loopw [20] (fun y wr => ∃ i:Nat,i ≤ n ∧ y = .int .i64 (i:Int) ∧ Hid (∃ d,CB wr w.heap.size P (Cas.start i) d ∧ Below w.heap.size w wr)) (fun y _ => n - (intOf y).toNat)
 case atStart => exact ⟨0,by omega,rfl,M0.out⟩
 case round =>
  clear M0
  obtain ⟨i,hin,rfl,hQ⟩ := hrel
  by_cases hlt:i < n
  ·obtain ⟨d,hN,hb⟩ := hQ.out
   obtain ⟨qm,cm,evm⟩ := hN.mform
   have evm':d.mv = .slice qm i cm := evm
   have R:Hid (CB wr w.heap.size P (Cas.start i) d ∧ Below w.heap.size w wr ∧ d.mv = .slice qm i cm ∧ P < wr.heap.size) := ⟨hN,hb,evm,hN.low.2⟩
   have hlti:(i:Int) < (n:Int) := by omega
   have NC:Hid (some P ≠ (Value.slice qm i cm).ownBlock) := fun e => apart_row hN.row (by decide) hN.mem (by rw [evm']; exact e.symm) rfl
   clear hN hb hQ evm evm'
   go_wp2_with fail
   refine (Cau.newC_ok (i:Int) wr ⟨by omega,by omega⟩).mono ?_
   rintro e w2 ⟨Q,fq,rfl,hc,hb2⟩
   have C2:Hid (CS w2 wr.heap.size Q (i:Int) [0,0,0,0,0] [] fq ∧ Below wr.heap.size wr w2) := ⟨hc,hb2⟩
   have c0:w2.cell? ⟨P,0,none⟩ = some (.slice qm i cm) := by
    have q := R.out.1.c0.1
    rw [R.out.2.2.1] at q
    exact (hb2.cell (p := ⟨P,0,none⟩) R.out.2.2.2).trans q
   have z0:w2.frozen? ⟨P,0,none⟩ = false := (hb2.frozen (p := ⟨P,0,none⟩) R.out.2.2.2).trans R.out.1.c0.2
   have hP2:P < w2.heap.size := Nat.lt_of_lt_of_le R.out.2.2.2 hb2.size
   have O2:Hid (w2.ownsRow w.heap.size 77 1 (.slice qm i cm) i (ptrs d i) ∧ w.heap.size ≤ w2.heap.size ∧ P < w2.heap.size) := by
    have o := R.out.1.mem
    rw [R.out.2.2.1] at o
    exact ⟨own_block o fun b hb => hb2.block b (own_lt o b hb).2,Nat.le_trans R.out.2.1.size hb2.size,hP2⟩
   clear hc hb2
   go_wp2_with (at_builtin; refine wpList_append_lies _ rfl _ _ 74 rfl w.heap.size 77 ie (.pointer none) 1 8 Tryz.underlying74 HI.out.1 HI.out.2.1 HI.out.2.2.1 HI.out.2.2.2 rfl (by decide) (.slice qm i cm) i (ptrs d i) rfl (by exact Net.own_push O2.out.1 rfl) ⟨w2.heap.size,0,none⟩ 1 1 [.pointer (some ⟨Q,0,none⟩)] rfl rfl (by exact new_ptr _ _ (by simp) _ _) (by intro u hu; rw [List.mem_singleton.1 hu]; rfl) (by omega) (by unfold maxLen; omega) (by omega) (by have := O2.out.2.1; simp; omega) (w2.heap.size + 1) (by simp) ?_; intro gg gc w5 hown hgrow hat _; have G5:Hid _ := hgrow; have O5:Hid (w5.ownsRow w.heap.size 77 1 (.slice (some ⟨gg,0,none⟩) (i + 1) gc) (i + 1) (ptrs d i ++ [.pointer (some ⟨Q,0,none⟩)])) := hown; have AT:Hid ((Value.slice qm i cm).ownBlock = some gg ∨ gg = w2.heap.size + 1) := hat; have l5:w5.cell? ⟨P,0,none⟩ = some (.slice qm i cm) := ((G5.out.cell_far ⟨P,0,none⟩ (by have := O2.out.2.2; simp; omega) NC.out).trans ((((Below.refl w2.heap.size w2).alloc (Nat.le_refl _) _).cell (p := ⟨P,0,none⟩) O2.out.2.2).trans c0)); have m5:w5.frozen? ⟨P,0,none⟩ = false := ((G5.out.frozen_far ⟨P,0,none⟩ (by have := O2.out.2.2; simp; omega) NC.out).trans ((((Below.refl w2.heap.size w2).alloc (Nat.le_refl _) _).frozen (p := ⟨P,0,none⟩) O2.out.2.2).trans z0)); clear hown hgrow hat)
   go_roundw
   case rel =>
    have q := R.out.1.more (by omega) R.out.2.1.size C2.out.2 C2.out.1 (w3 := w2.alloc (.cells #[.pointer (some ⟨Q,0,none⟩)] 77)) ((Below.refl _ _).alloc (Nat.le_refl _) _) (by rw [R.out.2.2.1]; exact G5.out) O5.out (fun k hk => by
     rw [R.out.2.2.1]
     have e:gg = k := by simpa [Value.ownBlock] using hk
     subst e
     rcases AT.out with a | a
     ·exact .inl a
     ·exact .inr (by simp; omega))
    exact ⟨i + 1,by omega,by go_num,_,q.1,R.out.2.1.trans q.2⟩
   case measure => simp [intOf]; omega
  ·have hi:i = n := by omega
   subst hi
   go_wp2
   go_ret2
   obtain ⟨d,hN,hb⟩ := hQ.out
   exact ⟨_,d,rfl,hN,hb⟩
end Go.Proofs.YtdmniblonikjlakGreatDoor.Caq


namespace Go.Proofs.YtdmniblonikjlakGreatDoor.Caq
open Go.RowKit Go.Maps
open Net (Pk KpL NewL Po NS errF errF_ok errF_no NInv flat)
open Cau (Sd CS inc)
open Cas (G GI GI0 setL upd pks say say_no sayC_zero len60)
open Fif (own_lt own_block own_form own_mono own_vw)
open Vec (Vw)
open His (Ev)
set_option linter.unusedVariables false
variable {base P:Nat} {g:G} {d:Lo}
theorem CB.mcell {w:World} (h:CB w base P g d) {i:Nat} (hi:i < g.n):∃ bm cap,d.mv = .slice (some ⟨bm,0,none⟩) g.n cap ∧ bm < w.heap.size ∧ bm ∈ d.F 0 ∧ w.cell? ⟨bm,i,none⟩ = some (.pointer (some ⟨d.Pm i,0,none⟩)) := by
 rcases h.mem.2 with ⟨_,h3⟩ | ⟨b,cap,cur,hv,hb,hh,hc,hm,hsz,ht⟩
 ·omega
 ·refine ⟨b,cap,hv,?_,h.inmv (by rw [hv]; rfl),?_⟩
  ·rcases Nat.lt_or_ge b w.heap.size with q | q
   ·exact q
   ·rw [Array.getElem?_eq_none q] at hh; cases hh
  ·have q:(ptrs d g.n)[i]? = some (.pointer (some ⟨d.Pm i,0,none⟩)) := by simp [ptrs,hi]
   rw [← ht,Nat.mul_one,List.getElem?_take_of_lt hi] at q
   simp only [World.cell?,hh]
   simpa using q
theorem own_five {w:World} {b:Nat} {t:TypeId} {v:Value} {xs:List Value} (o:w.ownsRow b t 1 v 5 xs):∃ bb c,v = .slice (some ⟨bb,0,none⟩) 5 c ∧ b ≤ bb ∧ bb < w.heap.size := by
 rcases o.2 with ⟨_,h3⟩ | ⟨g',cap,cur,hv,hb,_⟩
 ·omega
 ·exact ⟨g',cap,hv,own_lt o g' (by rw [hv]; rfl)⟩
theorem CR.said {w W W':World} {g1 g2:G} {d1 d2:Lo} (h:CR w W base P g d g1 d1) {b:Nat} (hb:w.heap.size ≤ b) (c:CB W' base P g2 d2) (t:W.mapTurned W' d1.M) (e:d2.F = put d1.F 4 (b :: d1.F 4)):CR w W' base P g d g2 d2 := by
 have hM:d1.M ∈ all d1.F := mem_all.2 ⟨2,by omega,h.cb.inM⟩
 have hs:W.heap.size ≤ W'.heap.size := t.grown.size
 refine ⟨c,h.bel.trans (Cap.turned_below t (h.cb.fp hM).1),⟨Nat.le_trans h.kp.1 hs,fun k hk hn => ?_⟩,fun k hk => ?_⟩
 ·refine (t.grown.block k (Nat.lt_of_lt_of_le hk h.kp.1) fun q => ?_).trans (h.kp.2 k hk hn)
  have q':k = d1.M := Option.some.inj q
  rcases h.new _ hM with a | a
  ·exact hn (by rw [q']; exact a)
  ·omega
 ·rw [e] at hk
  obtain ⟨i,hi,q⟩ := mem_all.1 hk
  by_cases e4:i = 4
  ·rw [e4,put_same] at q
   rcases List.mem_cons.1 q with rfl | a
   ·exact .inr hb
   ·exact h.new k (mem_all.2 ⟨4,by omega,a⟩)
  ·rw [put_other _ _ e4] at q
   exact h.new k (mem_all.2 ⟨i,hi,q⟩)
theorem vw_one (w:World) (x:Int) (t:TypeId):Vw (w.alloc (.cells #[.int .i64 x] t)) (some ⟨w.heap.size,0,none⟩) 1 [x] := by
 refine ⟨rfl,fun _ => ⟨_,_,rfl,by simp,fun k hk => ?_⟩⟩
 have:k = 0 := by omega
 subst this
 simp
theorem say_eq {b:Nat} {word:Int} (h:Cas.sayC g (b:Int) word = 0) (l':List Pk) (H':List Ev) (el:l' = g.l ++ pks g.n (b:Int) word) (eH:H' = g.H ++ [((b:Int),2,word)]) :
  setL { ({ (upd g b (inc (g.K b) (b:Int)) (g.ws b) g.H) with said := fun y => if y = word then some ((b:Int),word,inc (g.K b) (b:Int)) else g.said y,many := g.many + 1 }:G) with H := H' } l' = say g (b:Int) word := by
 unfold say
 rw [if_pos h,Int.toNat_natCast,el,eH]
 unfold setL upd
 simp only
 congr 1
 ·funext i
  by_cases e:i = b
  ·rw [if_pos e,if_pos e,e]
  ·rw [if_neg e,if_neg e]
 ·funext i
  by_cases e:i = b
  ·rw [if_pos e,e]
  ·rw [if_neg e]
theorem say_refused (who word:Int) (w:World) (h:CB w base P g d) (hi:GI g) (hbw:base ≤ w.heap.size) (hc:Cas.sayC g who word ≠ 0) :
  Calls Tryz.prog 9 #[.pointer (some ⟨P,0,none⟩),.int .i64 who,.int .i64 word] w fun x w' => x = .returned (errF (Cas.sayC g who word)) ∧ ∃ d',CR w w' base P g d (say g who word) d' := by
 rw [say_no hc]
 have HH:Hid (CB w base P g d ∧ GI g ∧ base ≤ w.heap.size) := ⟨h,hi,hbw⟩
 obtain ⟨c,ec⟩:∃ c,c = Cas.sayC g who word := ⟨_,rfl⟩
 have EC:Hid (Cas.sayC g who word = c) := ec.symm
 rw [← ec] at hc ⊢
 rw [errF_no hc]
 have HC:Hid (c ≠ 0) := hc
 clear h hi hbw ec hc
 go_enter Tryz.func9,Tryz.ntmps9
 go_wp2_with fail
 refine (check_any who word w HH.out.1 HH.out.2.1 c EC.out).mono ?_
 rintro e w1 ⟨rfl,hb⟩
 rw [errF_no HC.out]
 have B1:Hid (Below w.heap.size w w1) := hb
 clear hb
 go_wp2
 go_ret
 exact ⟨rfl,_,CR.still HH.out.1 HH.out.2.2 B1.out⟩
set_option maxRecDepth 100000 in
set_option maxHeartbeats 1000000 in
theorem say_ok (b:Nat) (word:Int) (w:World) (h:CB w base P g d) (hi:GI g) (hbw:base ≤ w.heap.size) (hc:Cas.sayC g (b:Int) word = 0) :
  Calls Tryz.prog 9 #[.pointer (some ⟨P,0,none⟩),.int .i64 (b:Int),.int .i64 word] w fun x w' => x = .returned .nilIface ∧ ∃ d',CR w w' base P g d (say g (b:Int) word) d' := by
 obtain ⟨hw,hx,hns,hroom,h60⟩ := sayC_zero hc
 have hbn:b < g.n := by omega
 have hb5:b < 5 := by have := h.n5; omega
 have hK:¬ (g.K b).getD b 0 = 1000000 := by
  have q1 := (hi.i0.kk b hb5).2 b hb5
  have q2 := hi.i0.hc30 b hb5 g.H.length (Nat.le_refl _)
  have q3 := hi.i0.many30
  omega
 have hsc:Cau.sayC (b:Int) (g.K b) word = 0 := by
  unfold Cau.sayC
  rw [if_neg (by omega),Int.toNat_natCast,if_neg hK]
 have hl60 := len60 hi
 have hm30 := hi.i0.many30
 have HH:Hid (CB w base P g d ∧ GI g ∧ base ≤ w.heap.size ∧ Cas.sayC g (b:Int) word = 0 ∧ b < g.n ∧ g.said word = none ∧ g.l.length + (g.n - 1) ≤ 40) := ⟨h,hi,hbw,hc,hbn,hns,hroom⟩
 have HC:Hid (Cau.sayC (b:Int) (g.K b) word = 0 ∧ Cau.CInv (b:Int) (g.K b) (g.ws b) ∧ (g.K b).length = 5) := ⟨hsc,hi.i0.cinv hb5,(hi.i0.kk b hb5).1⟩
 have hb0:(0:Int) ≤ (b:Int) := by omega
 have hbI:(b:Int) < (g.n:Int) := by omega
 obtain ⟨hx1,hx2⟩ := hx
 clear h hi hbw hc hw hns hroom h60 hK hsc hbn
 go_enter Tryz.func9,Tryz.ntmps9
 go_wp2_with fail
 refine (check_any (b:Int) word w HH.out.1 HH.out.2.1 0 HH.out.2.2.2.1).mono ?_
 rintro e w1 ⟨rfl,hb⟩
 rw [errF_ok]
 have R1:Hid (CR w w1 base P g d g d ∧ base ≤ w1.heap.size) := ⟨CR.still HH.out.1 HH.out.2.2.1 hb,Nat.le_trans HH.out.2.2.1 hb.size⟩
 have c0 := R1.out.1.cb.c0.1
 obtain ⟨bm,capm,evm,hbm,_,cm⟩ := R1.out.1.cb.mcell HH.out.2.2.2.2.1
 rw [evm] at c0
 clear hb evm
 go_wp2_with fail
 refine (Cau.sayP_any base (d.Pm b) (b:Int) (g.K b) (g.ws b) (d.F (5 + b)) word w1 (R1.out.1.cb.mm b HH.out.2.2.2.2.1) HC.out.2.1 R1.out.2).mono ?_
 rintro e w2 ⟨s0,s1,vc,fp',rfl,hcs,⟨hs0,hs1,hvc⟩,hb2,hk2,hn2,hvb⟩
 rw [if_pos HC.out.1] at hs0 hs1
 have hs1 := hs1.symm
 subst hs0 hs1
 have hl5:(Cau.sayL (b:Int) (g.K b) word).length = 5 := by rw [Cau.sayL,if_pos HC.out.1,Cap.inc_len]; exact HC.out.2.2
 rw [hl5,Cau.sayL,if_pos HC.out.1] at hvc
 rw [Cau.sayK,if_pos HC.out.1] at hcs
 rw [HC.out.1,Cau.errF_ok]
 obtain ⟨bb,cc,rfl,hbb1,hbb2⟩ := own_five hvc
 have R2:Hid (CR w w2 base P g d (upd g b (inc (g.K b) (b:Int)) (g.ws b) g.H) { d with F := put d.F (5 + b) fp' } ∧ w2.ownsRow w1.heap.size 3 1 (.slice (some ⟨bb,0,none⟩) 5 cc) 5 ((inc (g.K b) (b:Int)).map (Value.int .i64)) ∧ bb ∉ all (put d.F (5 + b) fp') ∧ w.heap.size ≤ bb) := by
  refine ⟨R1.out.1.trans (R1.out.1.cb.mem_step HH.out.2.2.2.2.1 hcs hb2 hk2 hn2),hvc,fun q => ?_,Nat.le_trans R1.out.1.kp.1 hbb1⟩
  obtain ⟨i,hi,q⟩ := mem_all.1 q
  by_cases e:i = 5 + b
  ·rw [e,put_same] at q
   exact hvb bb rfl q
  ·rw [put_other _ _ e] at q
   have := (R1.out.1.cb.sep.bd i hi bb q).2
   omega
 clear hcs hvc hb2 hk2 hn2 hvb c0 cm hbm hl5 hbb1 hbb2
 go_wp2_with fail
 obtain ⟨W,eW⟩:∃ W,W = w2.alloc (.cells #[.int .i64 (b:Int),.int .i64 word,.slice (some ⟨bb,0,none⟩) 5 cc] 51) := ⟨_,rfl⟩
 rw [← eW]
 have BW:Hid (Below w2.heap.size w2 W) := by rw [eW]; exact (Below.refl _ _).alloc (Nat.le_refl _) _
 have rowB:W.rowIs w2.heap.size 51 3 (fun j => if j = 0 then .int .i64 (b:Int) else if j = 1 then .int .i64 word else .slice (some ⟨bb,0,none⟩) 5 cc) := by
  rw [eW]
  exact World.rowIs_alloc w2 #[.int .i64 (b:Int),.int .i64 word,.slice (some ⟨bb,0,none⟩) 5 cc] 51 _ (fun i hi => by rcases i with _ | _ | _ | i <;> first | rfl | (exfalso; have:_ < 3 := hi; omega))
 have p0:W.cell? ⟨w2.heap.size,0,none⟩ = some (.int .i64 (b:Int)) := World.rowIs.cell rowB (i := 0) (by omega)
 have p1:W.cell? ⟨w2.heap.size,1,none⟩ = some (.int .i64 word) := World.rowIs.cell rowB (i := 1) (by omega)
 have p2:W.cell? ⟨w2.heap.size,2,none⟩ = some (.slice (some ⟨bb,0,none⟩) 5 cc) := World.rowIs.cell rowB (i := 2) (by omega)
 have R3:Hid (∀ k,CR w (W.drewN k) base P g d (upd g b (inc (g.K b) (b:Int)) (g.ws b) g.H) { d with F := put d.F (5 + b) fp' }) := fun k => R2.out.1.later HH.out.2.2.1 (Net.below_drews BW.out k)
 have hst:∀ k,∃ w',(Instr.mapUpdate 73 (.map (some d.M)) (.int .i64 word) (.agg #[.int .i64 (b:Int),.int .i64 word,.slice (some ⟨bb,0,none⟩) 5 cc])).run Tryz.prog (W.drewN k) = .ok () w' ∧
   CB w' base P { (upd g b (inc (g.K b) (b:Int)) (g.ws b) g.H) with said := fun y => if y = word then some ((b:Int),word,inc (g.K b) (b:Int)) else g.said y,many := g.many + 1 } { d with sv := fun y => if y = word then (bb,cc) else d.sv y,F := put (put d.F (5 + b) fp') 4 (bb :: put d.F (5 + b) fp' 4) } ∧ (W.drewN k).mapTurned w' d.M := by
  intro k
  have q := (R3.out k).cb.said_step (Nat.le_trans HH.out.2.2.1 (R3.out k).kp.1) (x := word) ⟨hx1,hx2⟩ HH.out.2.2.2.2.2.1 ((b:Int),word,inc (g.K b) (b:Int)) bb cc (own_mono (own_block R2.out.2.1 (w' := W.drewN k) fun z hz => (Net.below_drews BW.out k).block z (own_lt R2.out.2.1 z hz).2) R1.out.2) R2.out.2.2.1 (show g.many < 100 by omega)
  exact q
 obtain ⟨f,hf⟩ := Classical.skolem.1 hst
 have hf1:(Instr.mapUpdate 73 (.map (some d.M)) (.int .i64 word) (.agg #[.int .i64 (b:Int),.int .i64 word,.slice (some ⟨bb,0,none⟩) 5 cc])).run Tryz.prog W.drew = .ok () (f 1) := (hf 1).1
 have HF:Hid (∀ k,CR w (f k) base P g d { (upd g b (inc (g.K b) (b:Int)) (g.ws b) g.H) with said := fun y => if y = word then some ((b:Int),word,inc (g.K b) (b:Int)) else g.said y,many := g.many + 1 } { d with sv := fun y => if y = word then (bb,cc) else d.sv y,F := put (put d.F (5 + b) fp') 4 (bb :: put d.F (5 + b) fp' 4) }) := fun k => (R3.out k).said R2.out.2.2.2 (hf k).2.1 (hf k).2.2 rfl
 have c2:W.cell? ⟨P,2,none⟩ = some (.map (some d.M)) := (R3.out 0).cb.c2.1
 clear eW rowB hst hf
 go_wp2_with fail
 go_region
 have HG:Hid (CR w (f 1) base P g d _ _) := HF.out 1
 obtain ⟨W4,eW4⟩:∃ W4,W4 = f 1 := ⟨_,rfl⟩
 rw [← eW4] at HG ⊢
 clear hf1 HF eW4 c2 p0 p1 p2
 obtain ⟨g4,eg4⟩:∃ g4:G,g4 = { (upd g b (inc (g.K b) (b:Int)) (g.ws b) g.H) with said := fun y => if y = word then some ((b:Int),word,inc (g.K b) (b:Int)) else g.said y,many := g.many + 1 } := ⟨_,rfl⟩
 rw [← eg4] at HG
 obtain ⟨d4,ed4⟩:∃ d4:Lo,d4 = { d with sv := fun y => if y = word then (bb,cc) else d.sv y,F := put (put d.F (5 + b) fp') 4 (bb :: put d.F (5 + b) fp' 4) } := ⟨_,rfl⟩
 rw [← ed4] at HG
 have E4:Hid (g4 = { (upd g b (inc (g.K b) (b:Int)) (g.ws b) g.H) with said := fun y => if y = word then some ((b:Int),word,inc (g.K b) (b:Int)) else g.said y,many := g.many + 1 } ∧ g4.H = g.H ∧ g4.l = g.l ∧ g4.n = g.n) := ⟨eg4,by rw [eg4]; rfl,by rw [eg4]; rfl,by rw [eg4]; rfl⟩
 clear eg4 ed4
 go_wp2_with fail
 obtain ⟨W5,eW5⟩:∃ W5,W5 = W4.alloc (.cells #[.int .i64 word] 3) := ⟨_,rfl⟩
 rw [← eW5]
 have B5:Hid (Below W4.heap.size W4 W5 ∧ Vw W5 (some ⟨W4.heap.size,0,none⟩) 1 [word]) := ⟨by rw [eW5]; exact (Below.refl _ _).alloc (Nat.le_refl _) _,by rw [eW5]; exact vw_one _ _ _⟩
 have R5:Hid (CR w W5 base P g d g4 d4 ∧ base ≤ W5.heap.size) := ⟨HG.out.later HH.out.2.2.1 B5.out.1,Nat.le_trans HH.out.2.2.1 (Nat.le_trans HG.out.kp.1 B5.out.1.size)⟩
 clear eW5
 refine (note_any (b:Int) 2 (some ⟨W4.heap.size,0,none⟩) 1 1 [word] W5 R5.out.1.cb R5.out.2 B5.out.2 (fun z o e q => ?_) ?_).mono ?_
 ·have e':z = W4.heap.size := by injection e with e; injection e with e _ _; exact e.symm
  have := (HG.out.cb.fp q).2
  omega
 ·rw [E4.out.2.1]
  simp
  omega
 rintro e w6 ⟨rfl,d6,r6⟩
 have R6:Hid (CR w w6 base P g d { g4 with H := g4.H ++ evs (b:Int) 2 [word] } d6) := R5.out.1.trans r6
 clear r6
 go_wp2_with fail
 refine (send_any b word w6 R6.out.cb (by show NInv g4.l; rw [E4.out.2.2.1]; exact HH.out.2.1.net) (Nat.le_trans HH.out.2.2.1 R6.out.kp.1) (by show b < g4.n; rw [E4.out.2.2.2]; exact HH.out.2.2.2.2.1) hx1 hx2 (by show g4.l.length + (g4.n - 1) ≤ 40; rw [E4.out.2.2.1,E4.out.2.2.2]; exact HH.out.2.2.2.2.2.2)).mono ?_
 rintro e w7 ⟨rfl,d7,r7⟩
 have R7:Hid _ := R6.out.trans r7
 clear r7
 go_wp2
 go_ret
 refine ⟨rfl,d7,?_⟩
 have r := R7.out
 have e := say_eq HH.out.2.2.2.1 (g4.l ++ pks g4.n (b:Int) word) (g4.H ++ evs (b:Int) 2 [word]) (by rw [E4.out.2.2.1,E4.out.2.2.2]) (by rw [E4.out.2.1]; rfl)
 rw [← E4.out.1] at e
 rw [← e]
 exact r
theorem say_any (who word:Int) (w:World) (h:CB w base P g d) (hi:GI g) (hbw:base ≤ w.heap.size) :
  Calls Tryz.prog 9 #[.pointer (some ⟨P,0,none⟩),.int .i64 who,.int .i64 word] w fun x w' => x = .returned (errF (Cas.sayC g who word)) ∧ ∃ d',CR w w' base P g d (say g who word) d' := by
 by_cases hc:Cas.sayC g who word = 0
 ·obtain ⟨hw,_⟩ := sayC_zero hc
  obtain ⟨b,rfl⟩:∃ b:Nat,who = (b:Int) := ⟨who.toNat,by omega⟩
  rw [hc,errF_ok]
  exact say_ok b word w h hi hbw hc
 ·exact say_refused who word w h hi hbw hc
end Go.Proofs.YtdmniblonikjlakGreatDoor.Caq


namespace Go.Proofs.YtdmniblonikjlakGreatDoor.Caq
open Go.RowKit Go.Maps
open Net (Pk pk isIn KpL NewL Po NS errF errF_ok errF_no NInv flat)
open Cau (Sd CS inc ckC ctk same rdy)
open Cas (G GI GI0 setL upd hear give giveC giveW give_eq give_no len60)
open Fif (own_lt own_block own_form own_mono own_vw)
open Vec (Vw code)
open His (Ev)
open As (Laid)
set_option linter.unusedVariables false
variable {base P:Nat} {g:G} {d:Lo}
theorem ck_two (h:GI g) {m:Nat} {s:Sd} (hm:m < g.n) (hs:g.said s.2.1 = some s) (hne:s.1 ≠ (m:Int)):ckC (m:Int) (g.K m) (g.ws m) s = 0 ∨ ckC (m:Int) (g.K m) (g.ws m) s = 7 := by
 have h0 := h.i0
 have hok := h0.sdOk hs
 have hl30 := h0.len30 m
 have hcl:code s.2.2 = 0 := hok.clk
 have hbad:¬ Cau.sdBad s = true := by
  have := hok.who
  have := hok.word
  simp [Cau.sdBad]
  omega
 obtain ⟨j,hj,he,h1,e1,hwn,hsa,hany,hspk,hclk,hnum,hj2⟩ := h0.word hs
 have hnz:¬ s.2.2.getD s.1.toNat 0 = 0 := by
  rw [hnum,His.wnum_eq h0.good hj hj2]
  have := His.hc_nonneg g.H (His.W g.H j) (His.W g.H j) j
  omega
 unfold ckC
 rw [if_neg hbad,if_neg (by simp [hcl]),if_neg hne,if_neg hnz]
 by_cases c1:s.2.2.getD s.1.toNat 0 ≤ (g.K m).getD s.1.toNat 0
 ·rw [if_pos c1]; exact .inr rfl
 ·rw [if_neg c1]
  by_cases c2:(g.ws m).any (same s) = true
  ·rw [if_pos c2]; exact .inr rfl
  ·rw [if_neg c2,if_neg (by omega)]; exact .inl rfl
theorem laid_base {w w':World} (h:Laid w) (hb:Below base w w') (h0:0 < base):Laid w' := (World.cell?_of_block (a := ⟨0,0,none⟩) (hb.block 0 h0)).trans h
theorem give_out (i:Int) (w:World) (h:CB w base P g d) (hi:GI g) (hbw:base ≤ w.heap.size) (hin:isIn g.l i = false) :
  Calls Tryz.prog 10 #[.pointer (some ⟨P,0,none⟩),.int .i64 i] w fun x w' => x = .returned (.tuple #[.slice none 0 0,errF 1]) ∧ ∃ d',CR w w' base P g d g d' := by
 have HH:Hid (CB w base P g d ∧ GI g ∧ base ≤ w.heap.size) := ⟨h,hi,hbw⟩
 obtain ⟨c1,z1⟩ := h.c1
 have e1:Net.giveC (fun _ _ => false) g.l i = 1 := by unfold Net.giveC; rw [if_neg (by rw [hin]; decide)]
 have e2:Net.giveL (fun _ _ => false) g.l i = g.l := by unfold Net.giveL; rw [e1,if_neg (by decide)]
 have e3:Net.giveP (fun _ _ => false) g.l i = (0,0,0) := by unfold Net.giveP; rw [e1,if_neg (by decide)]
 have E:Hid (Net.giveC (fun _ _ => false) g.l i = 1 ∧ Net.giveL (fun _ _ => false) g.l i = g.l ∧ Net.giveP (fun _ _ => false) g.l i = (0,0,0)) := ⟨e1,e2,e3⟩
 rw [errF_no (by decide)]
 clear h hi hbw e1 e2 e3
 go_enter Tryz.func10,Tryz.ntmps10
 go_wp2_with fail
 refine (Net.giveN base d.N (fun _ _ => false) g.l (d.F 1) i w HH.out.1.net HH.out.2.1.net HH.out.2.2).mono ?_
 rintro e w1 ⟨fp',rfl,hn,hb,hk,hw⟩
 rw [E.out.1,E.out.2.2,errF_no (by decide)]
 have R1:Hid (CR w w1 base P g d g { d with F := put d.F 1 fp' }) := by
  have r := HH.out.1.net_step hn hb hk hw
  rw [E.out.2.1] at r
  exact r
 clear hn hb hk hw
 go_wp2
 go_ret2
 exact ⟨rfl,_,R1.out.later HH.out.2.2 ((Below.refl _ _).alloc (Nat.le_refl _) _)⟩
theorem below_eq {B:Nat} {X W w':World} (h:Below B X w') (e:X.heap = W.heap) (e1:X.os = W.os) (e2:X.tape = W.tape) (e3:X.output = W.output):Below B W w' :=
 ⟨h.os.trans e1,h.tape.trans e2,h.output.trans e3,by rw [← e]; exact h.size,fun k hk => by rw [← e]; exact h.block k hk⟩
theorem kpl_eq {X W w':World} {fp:List Nat} (h:Cau.KpL X w' fp) (e:X.heap = W.heap):KpL W w' fp := ⟨by rw [← e]; exact h.1,fun b hb hn => by rw [← e]; exact h.2 b (by rw [e]; exact hb) hn⟩
theorem newl_eq {X W:World} {fp fp':List Nat} (h:Cau.NewL X fp fp') (e:X.heap = W.heap):NewL W fp fp' := fun b hb => by rw [← e]; exact h b hb
theorem come_nil (w:World):Calls Tryz.prog 37 #[.nilIface] w fun e w' => e = .returned (.bool false) ∧ Below w.heap.size w w' := by
 go_enter Tryz.func37,Tryz.ntmps37
 go_wp2_with fail
 refine (as_nil ⟨w.heap.size,0,none⟩ _).mono ?_
 rintro e w' ⟨rfl,rfl⟩
 go_wp2
 go_ret
 exact ⟨rfl,(Below.refl _ _).alloc (Nat.le_refl _) _⟩
theorem come_seven (w:World) (hL:Laid w):Calls Tryz.prog 37 #[.iface 70 (.int .i64 7)] w fun e w' => e = .returned (.bool true) ∧ Below w.heap.size w w' := by
 have q := come_any 7 w hL
 rw [errF_no (by decide)] at q
 refine q.mono ?_
 rintro e w' ⟨rfl,hb⟩
 exact ⟨rfl,hb⟩
set_option maxRecDepth 100000 in
set_option maxHeartbeats 1000000 in
theorem give_ok (k m:Nat) (s:Sd) (w:World) (h:CB w base P g d) (hi:GI g) (hbw:base ≤ w.heap.size) (hL:Laid w) (hb0:0 < base) (hk:k < g.l.length) (em:(pk g.l k).2.1 = (m:Int)) (hm:m < g.n) (hs:g.said (pk g.l k).2.2 = some s) (es:s.2.1 = (pk g.l k).2.2) (hne:s.1 ≠ (m:Int)) :
  Calls Tryz.prog 10 #[.pointer (some ⟨P,0,none⟩),.int .i64 (k:Int)] w fun y w' => ∃ d' vo,y = .returned (.tuple #[vo,.nilIface]) ∧ w'.ownsRow w.heap.size 3 1 vo (ctk (m:Int) (g.K m) (g.ws m) s).1.length ((ctk (m:Int) (g.K m) (g.ws m) s).1.map (Value.int .i64)) ∧ (∀ b,vo.ownBlock = some b → b ∉ all d'.F) ∧
   CR w w' base P g d (setL (upd g m (ctk (m:Int) (g.K m) (g.ws m) s).2.1 (ctk (m:Int) (g.K m) (g.ws m) s).2.2 (g.H ++ hear (m:Int) (ctk (m:Int) (g.K m) (g.ws m) s).1)) (g.l.eraseIdx k)) d' := by
 have h25 := hi.i0.n2
 have hok := hi.i0.sdOk hs
 have hck := ck_two hi hm (by rw [es]; exact hs) hne
 have hfin:(g.H ++ hear (m:Int) (ctk (m:Int) (g.K m) (g.ws m) s).1).length ≤ 60 := by
  have q := len60 (Cas.give_gi hi (k:Int))
  rw [(give_eq hi hk em hs).1] at q
  exact q
 obtain ⟨x,ex⟩:∃ x,(pk g.l k).2.2 = x := ⟨_,rfl⟩
 have hx:1 ≤ x ∧ x ≤ 30 := by have := hok.word; rw [es,ex] at this; exact this
 obtain ⟨s1,s2,s3⟩ := s
 rw [ex] at hs es
 have es':s2 = x := es
 subst es'
 obtain ⟨a0,ea0⟩:∃ a0,(pk g.l k).1 = a0 := ⟨_,rfl⟩
 have hkI := Net.isIn_of hk
 have e1:Net.giveC (fun _ _ => false) g.l (k:Int) = 0 := by unfold Net.giveC; rw [if_pos hkI]; rfl
 have e2:Net.giveL (fun _ _ => false) g.l (k:Int) = g.l.eraseIdx k := by unfold Net.giveL; rw [e1,if_pos rfl,Int.toNat_natCast]
 have e3:Net.giveP (fun _ _ => false) g.l (k:Int) = (a0,(m:Int),s2) := by
  unfold Net.giveP
  rw [e1,if_pos rfl,Int.toNat_natCast,← em,← ex,← ea0]
 obtain ⟨l1,el1⟩:∃ l1,l1 = g.l.eraseIdx k := ⟨_,rfl⟩
 have E:Hid (Net.giveC (fun _ _ => false) g.l (k:Int) = 0 ∧ Net.giveL (fun _ _ => false) g.l (k:Int) = l1 ∧ Net.giveP (fun _ _ => false) g.l (k:Int) = (a0,(m:Int),s2)) := ⟨e1,by rw [e2,el1],e3⟩
 rw [← el1]
 have HH:Hid (CB w base P g d ∧ GI g ∧ base ≤ w.heap.size ∧ m < g.n ∧ g.said s2 = some (s1,s2,s3) ∧ Laid w ∧ 0 < base) := ⟨h,hi,hbw,hm,hs,hL,hb0⟩
 have CK:Hid (ckC (m:Int) (g.K m) (g.ws m) (s1,s2,s3) = 0 ∨ ckC (m:Int) (g.K m) (g.ws m) (s1,s2,s3) = 7) := hck
 have FIN:Hid ((g.H ++ hear (m:Int) (ctk (m:Int) (g.K m) (g.ws m) (s1,s2,s3)).1).length ≤ 60) := hfin
 have hm5:m < 5 := by omega
 have hm0:(0:Int) ≤ (m:Int) := by omega
 have hmn:(m:Int) < (g.n:Int) := by omega
 obtain ⟨hx1,hx2⟩ := hx
 obtain ⟨c1,z1⟩ := h.c1
 clear h hi hbw hL hb0 e1 e2 e3 hs es ea0 ex em hkI hk hok hck hfin hne hm el1
 go_enter Tryz.func10,Tryz.ntmps10
 go_wp2_with fail
 refine (Net.giveN base d.N (fun _ _ => false) g.l (d.F 1) (k:Int) w HH.out.1.net HH.out.2.1.net HH.out.2.2.1).mono ?_
 rintro e w1 ⟨fp1,rfl,hn,hb,hkp,hw⟩
 rw [E.out.1,E.out.2.2,errF_ok]
 obtain ⟨d1,ed1⟩:∃ d1:Lo,d1 = { d with F := put d.F 1 fp1 } := ⟨_,rfl⟩
 have R1:Hid (CR w w1 base P g d (setL g l1) d1) := by
  have r := HH.out.1.net_step hn hb hkp hw
  rw [E.out.2.1,← ed1] at r
  exact r
 clear hn hb hkp hw c1 z1 ed1
 go_wp2_with fail
 obtain ⟨W,eW⟩:∃ W,W = w1.alloc (.cells #[.int .i64 a0,.int .i64 (m:Int),.int .i64 s2] 83) := ⟨_,rfl⟩
 rw [← eW]
 have BW:Hid (Below w1.heap.size w1 W ∧ W.heap.size = w1.heap.size + 1) := ⟨by rw [eW]; exact (Below.refl _ _).alloc (Nat.le_refl _) _,by rw [eW]; simp⟩
 have R2:Hid (CR w W base P g d (setL g l1) d1) := R1.out.later HH.out.2.2.1 BW.out.1
 have rowB:W.rowIs w1.heap.size 83 3 (fun j => if j = 0 then .int .i64 a0 else if j = 1 then .int .i64 (m:Int) else .int .i64 s2) := by
  rw [eW]
  exact World.rowIs_alloc w1 #[.int .i64 a0,.int .i64 (m:Int),.int .i64 s2] 83 _ (fun i hi => by rcases i with _ | _ | _ | i <;> first | rfl | (exfalso; have:_ < 3 := hi; omega))
 have RB:Hid (W.rowIs w1.heap.size 83 3 (fun j => if j = 0 then .int .i64 a0 else if j = 1 then .int .i64 (m:Int) else .int .i64 s2) ∧ w1.heap.size ∉ all d1.F) := ⟨rowB,fun q => by have := (R1.out.cb.fp q).2; omega⟩
 have p1:W.cell? ⟨w1.heap.size,1,none⟩ = some (.int .i64 (m:Int)) := World.rowIs.cell rowB (i := 1) (by omega)
 have p2:W.cell? ⟨w1.heap.size,2,none⟩ = some (.int .i64 s2) := World.rowIs.cell rowB (i := 2) (by omega)
 have c0 := R2.out.cb.c0.1
 have c2 := R2.out.cb.c2.1
 obtain ⟨bm,capm,evm,hbm,hbmF,cm⟩ := R2.out.cb.mcell (i := m) HH.out.2.2.2.1
 rw [evm] at c0
 have hns:(setL g l1).said s2 = some (s1,s2,s3) := HH.out.2.2.2.2.1
 obtain ⟨gg,gc,egg⟩:∃ gg gc,(gg,gc) = d1.sv s2 := ⟨_,_,rfl⟩
 have hlook := R2.out.cb.look ⟨hx1,hx2⟩ hns
 have hclk := R2.out.cb.clk s2 _ hns
 unfold sval at hlook
 unfold clkv at hclk
 rw [← egg] at hlook hclk
 simp only at hlook hclk
 have RM:Hid (CS W base (d1.Pm m) (m:Int) (g.K m) (g.ws m) (d1.F (5 + m))) := R2.out.cb.mm m HH.out.2.2.2.1
 have CI:Hid (Cau.CInv (m:Int) (g.K m) (g.ws m)) := HH.out.2.1.i0.cinv hm5
 have hsz:base ≤ W.heap.size := Nat.le_trans HH.out.2.2.1 R2.out.kp.1
 have VC:Hid (Vw W (some ⟨gg,0,none⟩) 5 s3) := by
  obtain ⟨a,c,q,hv⟩ := own_vw hclk.1
  cases q
  exact hv
 have HT1:Hid (∀ X:World,X.heap = W.heap → CS X base (d1.Pm m) (m:Int) (g.K m) (g.ws m) (d1.F (5 + m))) := fun X e => RM.out.of_blocks (w' := X) (by rw [e]; exact Nat.le_refl _) (fun b _ => by rw [e])
 have HT3:Hid (∀ X:World,X.heap = W.heap → Vw X (some ⟨gg,0,none⟩) 5 s3) := fun X e => ⟨VC.out.1,fun hl => by
  obtain ⟨b,off,q,hlt,hc⟩ := VC.out.2 hl
  exact ⟨b,off,q,by rw [e]; exact hlt,fun j hj => by rw [Net.c_heap e]; exact hc j hj⟩⟩
 have HT4:Hid (∀ X:World,X.heap = W.heap → base ≤ X.heap.size) := fun X e => by rw [e]; exact hsz
 have KF:Hid (∀ i,i < 5 → ∀ b ∈ d1.F i,b < W.heap.size ∧ b ∉ d1.F (5 + m)) := fun i hi b hb => ⟨(R2.out.cb.sep.bd i (by omega) b hb).2,fun q => by have := R2.out.cb.sep.dj i (5 + m) (by omega) (by omega) b hb q; omega⟩
 have HS:Hid (∀ X:World,(∀ b,b < W.heap.size → b ∉ d1.F (5 + m) → X.heap[b]? = W.heap[b]?) → X.cell? ⟨P,0,none⟩ = some (.slice (some ⟨bm,0,none⟩) g.n capm) ∧ X.cell? ⟨bm,m,none⟩ = some (.pointer (some ⟨d1.Pm m,0,none⟩)) ∧ X.cell? ⟨w1.heap.size,1,none⟩ = some (.int .i64 (m:Int)) ∧ X.cell? ⟨w1.heap.size,2,none⟩ = some (.int .i64 s2) ∧ X.cell? ⟨P,2,none⟩ = some (.map (some d1.M)) ∧ (Instr.lookup 73 (.map (some d1.M)) (.int .i64 s2) false).run Tryz.prog X = .ok (.agg #[.int .i64 s1,.int .i64 s2,.slice (some ⟨gg,0,none⟩) 5 gc]) X) := by
  intro X hX
  have hF:∀ i,i < 5 → ∀ b ∈ d1.F i,X.heap[b]? = W.heap[b]? := fun i hi b hb => hX b (KF.out i hi b hb).1 (KF.out i hi b hb).2
  have hC := hF 0 (by omega) _ R2.out.cb.inP
  have hM := hF 0 (by omega) _ hbmF
  have hB := hX w1.heap.size (by have := BW.out.2; omega) fun q => RB.out.2 (mem_all.2 ⟨5 + m,by omega,q⟩)
  exact ⟨(World.cell?_of_block (a := ⟨P,0,none⟩) hC).trans c0,(World.cell?_of_block (a := ⟨bm,m,none⟩) hM).trans cm,(World.cell?_of_block (a := ⟨w1.heap.size,1,none⟩) hB).trans p1,(World.cell?_of_block (a := ⟨w1.heap.size,2,none⟩) hB).trans p2,(World.cell?_of_block (a := ⟨P,2,none⟩) hC).trans c2,hlook X (hF 2 (by omega) _ R2.out.cb.inM)⟩
 clear eW rowB hns egg evm hbm hbmF hsz p1 p2 c0 c2 cm hlook hclk
 go_region_held3 (fun X => X.cell? ⟨P,0,none⟩ = some (.slice (some ⟨bm,0,none⟩) g.n capm) ∧ X.cell? ⟨bm,m,none⟩ = some (.pointer (some ⟨d1.Pm m,0,none⟩)) ∧ X.cell? ⟨w1.heap.size,1,none⟩ = some (.int .i64 (m:Int)) ∧ X.cell? ⟨w1.heap.size,2,none⟩ = some (.int .i64 s2) ∧ X.cell? ⟨P,2,none⟩ = some (.map (some d1.M)) ∧ (Instr.lookup 73 (.map (some d1.M)) (.int .i64 s2) false).run Tryz.prog X = .ok (.agg #[.int .i64 s1,.int .i64 s2,.slice (some ⟨gg,0,none⟩) 5 gc]) X) (first | exact HS.out _ (fun _ _ _ => rfl) | exact HS.out _ K4.out) (first
  | (go_at_call 36; refine (Cau.takeP_any base (d1.Pm m) (m:Int) (g.K m) (g.ws m) (d1.F (5 + m)) s1 s2 (some ⟨gg,0,none⟩) 5 gc s3 _ (by exact HT1.out _ rfl) CI.out (by exact HT4.out _ rfl) (by exact HT3.out _ rfl)).mono ?_; rintro e4 w4 ⟨vo,fp4,rfl,hr4,ho4,hb4,hk4,hn4,hv4⟩; have T4:Hid (CS w4 base (d1.Pm m) (m:Int) (ctk (m:Int) (g.K m) (g.ws m) (s1,s2,s3)).2.1 (ctk (m:Int) (g.K m) (g.ws m) (s1,s2,s3)).2.2 fp4 ∧ w4.ownsRow W.heap.size 3 1 vo (ctk (m:Int) (g.K m) (g.ws m) (s1,s2,s3)).1.length ((ctk (m:Int) (g.K m) (g.ws m) (s1,s2,s3)).1.map (Value.int .i64)) ∧ Below base W w4 ∧ KpL W w4 (d1.F (5 + m)) ∧ NewL W (d1.F (5 + m)) fp4 ∧ ∀ b,vo.ownBlock = some b → b ∉ fp4) := ⟨hr4,ho4,below_eq hb4 rfl rfl rfl rfl,kpl_eq hk4 rfl,newl_eq hn4 rfl,hv4⟩; have K4:Hid (∀ b,b < W.heap.size → b ∉ d1.F (5 + m) → w4.heap[b]? = W.heap[b]?) := T4.out.2.2.2.1.2; clear hr4 ho4 hb4 hk4 hn4 hv4))
 obtain ⟨ct,ect⟩:∃ ct,ct = ctk (m:Int) (g.K m) (g.ws m) (s1,s2,s3) := ⟨_,rfl⟩
 have ECT:Hid (ct = ctk (m:Int) (g.K m) (g.ws m) (s1,s2,s3)) := ect
 rw [← ect] at T4 FIN
 obtain ⟨qo,co,evo⟩ := own_form T4.out.2.1
 subst evo
 obtain ⟨lv,elv⟩:∃ lv,lv = ct.1.length := ⟨_,rfl⟩
 have LV:Hid (lv = ct.1.length) := elv
 have R4:Hid (CR w w4 base P g d (upd (setL g l1) m ct.2.1 ct.2.2 g.H) { d1 with F := put d1.F (5 + m) fp4 } ∧ base ≤ w4.heap.size) := by
  have r := R2.out.trans (R2.out.cb.mem_step (m := m) HH.out.2.2.2.1 T4.out.1 T4.out.2.2.1 T4.out.2.2.2.1 T4.out.2.2.2.2.1)
  exact ⟨r,Nat.le_trans HH.out.2.2.1 r.kp.1⟩
 have OV:Hid (w4.ownsRow W.heap.size 3 1 (.slice qo lv co) lv (ct.1.map (Value.int .i64)) ∧ w.heap.size ≤ W.heap.size ∧ ∀ b,(Value.slice qo lv co).ownBlock = some b → b ∉ all (put d1.F (5 + m) fp4)) := by
  refine ⟨by rw [elv]; exact T4.out.2.1,R2.out.kp.1,fun b hb q => ?_⟩
  rw [elv] at hb
  obtain ⟨i,hi,q⟩ := mem_all.1 q
  by_cases e:i = 5 + m
  ·rw [e,put_same] at q
   exact T4.out.2.2.2.2.2 b hb q
  ·rw [put_other _ _ e] at q
   have q1 := (R2.out.cb.sep.bd i hi b q).2
   have q2 := (own_lt T4.out.2.1 b hb).1
   omega
 have L4:Hid (Laid w4) := laid_base HH.out.2.2.2.2.2.1 R4.out.1.bel HH.out.2.2.2.2.2.2
 have PB:Hid (w4.cell? ⟨w1.heap.size,1,none⟩ = some (.int .i64 (m:Int)) ∧ w1.heap.size < w4.heap.size) := by
  have hB := K4.out w1.heap.size (by have := BW.out.2; omega) fun q => RB.out.2 (mem_all.2 ⟨5 + m,by omega,q⟩)
  exact ⟨(World.cell?_of_block (a := ⟨w1.heap.size,1,none⟩) hB).trans (World.rowIs.cell RB.out.1 (i := 1) (by omega)),by have := BW.out.2; have := T4.out.2.2.2.1.1; omega⟩
 rw [← elv]
 clear T4 K4 ect elv HS HT1 HT3 HT4 VC RM CI KF
 rcases CK.out with hck | hck
 ·rw [hck,Cau.errF_ok]
  clear hck
  go_wp2_with fail
  refine (come_nil w4).mono ?_
  rintro e w5 ⟨rfl,hb5⟩
  have R5:Hid (CR w w5 base P g d (upd (setL g l1) m ct.2.1 ct.2.2 g.H) { d1 with F := put d1.F (5 + m) fp4 } ∧ base ≤ w5.heap.size) := ⟨R4.out.1.later HH.out.2.2.1 hb5,Nat.le_trans R4.out.2 hb5.size⟩
  have O5:Hid (w5.ownsRow W.heap.size 3 1 (.slice qo lv co) lv (ct.1.map (Value.int .i64))) := own_block OV.out.1 fun b hb => hb5.block b (own_lt OV.out.1 b hb).2
  have p1:w5.cell? ⟨w1.heap.size,1,none⟩ = some (.int .i64 (m:Int)) := (hb5.cell (p := ⟨w1.heap.size,1,none⟩) PB.out.2).trans PB.out.1
  have V5:Hid (Vw w5 qo lv ct.1 ∧ ∀ b o,qo = some ⟨b,o,none⟩ → b ∉ all (put d1.F (5 + m) fp4)) := by
   obtain ⟨a,c,q,hv⟩ := own_vw O5.out
   cases q
   refine ⟨hv,fun b o e => ?_⟩
   rcases O5.out.2 with ⟨h2,_⟩ | ⟨g',cap',cur,hv',_⟩
   ·cases h2; cases e
   ·cases hv'
    injection e with e
    injection e with e _ _
    subst e
    exact OV.out.2.2 _ rfl
  clear hb5
  go_wp2_with fail
  refine (note_any (m:Int) 3 qo lv co ct.1 w5 R5.out.1.cb R5.out.2 V5.out.1 V5.out.2 (by have q := FIN.out; rw [List.length_append] at q; simp [hear] at q; show g.H.length + ct.1.length ≤ 1000; omega)).mono ?_
  rintro e w6 ⟨rfl,d6,r6⟩
  have R6:Hid (CR w5 w6 base P _ _ _ d6) := r6
  clear r6
  go_wp2
  go_ret2
  rw [← ECT.out,← LV.out]
  refine ⟨d6,_,rfl,own_mono (own_block O5.out fun b hb => (R6.out.stays (own_lt O5.out b hb).2 (OV.out.2.2 b hb)).1) OV.out.2.1,fun b hb => (R6.out.stays (own_lt O5.out b hb).2 (OV.out.2.2 b hb)).2.2,?_⟩
  exact R5.out.1.trans R6.out
 ·have hct:ct = ([],g.K m,g.ws m) := by
   rw [ECT.out]
   unfold ctk
   rw [if_neg (by rw [hck]; decide)]
  have HCT:Hid (ct = ([],g.K m,g.ws m)) := hct
  rw [hck,Cau.errF_no (by decide)]
  clear hck hct
  go_wp2_with fail
  refine (come_seven w4 L4.out).mono ?_
  rintro e w5 ⟨rfl,hb5⟩
  have R5:Hid (CR w w5 base P g d (upd (setL g l1) m ct.2.1 ct.2.2 g.H) { d1 with F := put d1.F (5 + m) fp4 }) := R4.out.1.later HH.out.2.2.1 hb5
  clear hb5
  go_wp2
  go_ret2
  rw [← ECT.out,HCT.out]
  refine ⟨{ d1 with F := put d1.F (5 + m) fp4 },_,rfl,World.ownsRow_nil _ _ _ _,fun b hb => (by cases hb),?_⟩
  have r := R5.out
  rw [HCT.out] at r
  have e:g.H ++ hear (m:Int) [] = g.H := by simp [hear]
  show CR w w5 base P g d (setL (upd g m (g.K m) (g.ws m) (g.H ++ hear (m:Int) [])) l1) _
  rw [e]
  exact r
theorem give_any (i:Int) (w:World) (h:CB w base P g d) (hi:GI g) (hbw:base ≤ w.heap.size) (hL:Laid w) (hb0:0 < base) :
  Calls Tryz.prog 10 #[.pointer (some ⟨P,0,none⟩),.int .i64 i] w fun y w' => ∃ d' vo,y = .returned (.tuple #[vo,errF (giveC g i)]) ∧ w'.ownsRow w.heap.size 3 1 vo (giveW g i).length ((giveW g i).map (Value.int .i64)) ∧ (∀ b,vo.ownBlock = some b → b ∉ all d'.F) ∧ CR w w' base P g d (give g i) d' := by
 cases hin:isIn g.l i with
 | false =>
  have e1:giveC g i = 1 := by unfold giveC; rw [if_neg (by rw [hin]; decide)]
  rw [(give_no hin).1,(give_no hin).2,e1]
  refine (give_out i w h hi hbw hin).mono ?_
  rintro y w' ⟨rfl,d',r⟩
  exact ⟨d',_,rfl,World.ownsRow_nil _ _ _ _,fun b hb => (by cases hb),r⟩
 | true =>
  obtain ⟨k,rfl,hk⟩ := Net.isIn_yes hin
  obtain ⟨m,s,em,hm,hs,e2,e3,hs',hne,_⟩ := hi.packet hk
  have e1:giveC g (k:Int) = 0 := by unfold giveC; rw [if_pos hin]
  rw [(give_eq hi hk em hs).1,(give_eq hi hk em hs).2,e1,errF_ok]
  exact give_ok k m s w h hi hbw hL hb0 hk em hm hs e2 hne
end Go.Proofs.YtdmniblonikjlakGreatDoor.Caq


namespace Go.Proofs.YtdmniblonikjlakGreatDoor.Cas
open Go.RowKit
open Net (errF KpL NewL Po dropC twC)
open As (Laid)
open Caq (CB CR all)
set_option linter.unusedVariables false
def CA (w:World) (base P:Nat) (g:G) (fp:List Nat):Prop := 0 < base ∧ ∃ d,CB w base P g d ∧ fp = all d.F
theorem CA.of_blocks {w w':World} {base P:Nat} {g:G} {fp:List Nat} (h:CA w base P g fp) (hs:w.heap.size ≤ w'.heap.size) (hk:∀ b ∈ fp,w'.heap[b]? = w.heap[b]?):CA w' base P g fp := by
 obtain ⟨h0,d,h,rfl⟩ := h
 exact ⟨h0,d,h.of_blocks hs hk,rfl⟩
theorem CA.fp {w:World} {base P:Nat} {g:G} {fp:List Nat} (h:CA w base P g fp):∀ b ∈ fp,base ≤ b ∧ b < w.heap.size := by
 obtain ⟨h0,d,h,rfl⟩ := h
 exact fun b hb => h.fp hb
theorem newC_ok (n:Nat) (w:World) (h2:2 ≤ n) (h5:n ≤ 5) (hL:Laid w):Calls Tryz.prog 8 #[.int .i64 (n:Int)] w fun x w' => ∃ P fp,x = .returned (.tuple #[.pointer (some ⟨P,0,none⟩),.nilIface]) ∧ CA w' w.heap.size P (start n) fp ∧ Below w.heap.size w w' := by
 refine (Caq.new_ok n w h2 h5).mono ?_
 rintro x w' ⟨P,d,rfl,h,hb⟩
 exact ⟨P,_,rfl,⟨hL.pos,d,h,rfl⟩,hb⟩
theorem sayC_any (base P:Nat) (g:G) (fp:List Nat) (who word:Int) (w:World) (h:CA w base P g fp) (hi:GI g) (hbw:base ≤ w.heap.size) (hL:Laid w):Calls Tryz.prog 9 #[.pointer (some ⟨P,0,none⟩),.int .i64 who,.int .i64 word] w fun x w' => ∃ fp',x = .returned (errF (sayC g who word)) ∧ CA w' base P (say g who word) fp' ∧ Below base w w' ∧ KpL w w' fp ∧ NewL w fp fp' := by
 obtain ⟨h0,d,h,rfl⟩ := h
 refine (Caq.say_any who word w h hi hbw).mono ?_
 rintro x w' ⟨rfl,d',r⟩
 exact ⟨_,rfl,⟨h0,d',r.cb,rfl⟩,r.bel,r.kp,r.new⟩
theorem giveC_any (base P:Nat) (g:G) (fp:List Nat) (i:Int) (w:World) (h:CA w base P g fp) (hi:GI g) (hbw:base ≤ w.heap.size) (hL:Laid w):Calls Tryz.prog 10 #[.pointer (some ⟨P,0,none⟩),.int .i64 i] w fun x w' => ∃ fp' vo,x = .returned (.tuple #[vo,errF (giveC g i)]) ∧ CA w' base P (give g i) fp' ∧ w'.ownsRow w.heap.size 3 1 vo (giveW g i).length ((giveW g i).map (Value.int .i64)) ∧ Below base w w' ∧ KpL w w' fp ∧ NewL w fp fp' ∧ ∀ b,vo.ownBlock = some b → b ∉ fp' := by
 obtain ⟨h0,d,h,rfl⟩ := h
 refine (Caq.give_any i w h hi hbw hL h0).mono ?_
 rintro x w' ⟨d',vo,rfl,ho,hv,r⟩
 exact ⟨_,vo,rfl,⟨h0,d',r.cb,rfl⟩,ho,r.bel,r.kp,r.new,hv⟩
theorem dropC_any (base P:Nat) (g:G) (fp:List Nat) (i:Int) (w:World) (h:CA w base P g fp) (hi:GI g) (hbw:base ≤ w.heap.size) (hL:Laid w):Calls Tryz.prog 145 #[.pointer (some ⟨P,0,none⟩),.int .i64 i] w fun x w' => ∃ fp',x = .returned (errF (dropC g.l i)) ∧ CA w' base P (drop g i) fp' ∧ Below base w w' ∧ KpL w w' fp ∧ NewL w fp fp' := by
 obtain ⟨h0,d,h,rfl⟩ := h
 refine (Caq.drop_any i w h hi.net hbw).mono ?_
 rintro x w' ⟨rfl,d',r⟩
 exact ⟨_,rfl,⟨h0,d',r.cb,rfl⟩,r.bel,r.kp,r.new⟩
theorem twiceC_any (base P:Nat) (g:G) (fp:List Nat) (i:Int) (w:World) (h:CA w base P g fp) (hi:GI g) (hbw:base ≤ w.heap.size) (hL:Laid w):Calls Tryz.prog 146 #[.pointer (some ⟨P,0,none⟩),.int .i64 i] w fun x w' => ∃ fp',x = .returned (errF (twC g.l i)) ∧ CA w' base P (twice g i) fp' ∧ Below base w w' ∧ KpL w w' fp ∧ NewL w fp fp' := by
 obtain ⟨h0,d,h,rfl⟩ := h
 refine (Caq.twice_any i w h hi.net hbw).mono ?_
 rintro x w' ⟨rfl,d',r⟩
 exact ⟨_,rfl,⟨h0,d',r.cb,rfl⟩,r.bel,r.kp,r.new⟩
theorem onwayC_any (base P:Nat) (g:G) (fp:List Nat) (w:World) (h:CA w base P g fp) (hi:GI g):Calls Tryz.prog 149 #[.pointer (some ⟨P,0,none⟩)] w fun x w' => ∃ v,x = .returned v ∧ Po w' w.heap.size v g.l ∧ Below w.heap.size w w' := by
 obtain ⟨h0,d,h,rfl⟩ := h
 exact Caq.way_any w h hi.net
theorem histC_any (base P:Nat) (g:G) (fp:List Nat) (w:World) (h:CA w base P g fp) (hi:GI g):Calls Tryz.prog 11 #[.pointer (some ⟨P,0,none⟩)] w fun x w' => ∃ v,x = .returned v ∧ w'.ownsRow w.heap.size 40 3 v g.H.length (Net.flat g.H) ∧ Below w.heap.size w w' := by
 obtain ⟨h0,d,h,rfl⟩ := h
 exact Caq.hist_any w h (Nat.le_trans (len60 hi) (by omega))
end Go.Proofs.YtdmniblonikjlakGreatDoor.Cas
