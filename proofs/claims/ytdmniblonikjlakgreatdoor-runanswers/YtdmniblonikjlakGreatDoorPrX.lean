/-
  Texts put together: RunAn, RunIt, RunOv, RunPr, RunP, RunZ.
-/
import Derived.Test.YtdmniblonikjlakGreatDoorPrV
import Derived.Test.YtdmniblonikjlakGreatDoorPrW
import Derived.Test.YtdmniblonikjlakGreatDoorPrU
import Derived.RangeFuncNested
import Derived.RangeFuncBound
import Derived.RangeFuncCalls
import Derived.RangeFuncLeaves
import Derived.RangeFuncRecord
import Derived.WalkKit
import Derived.OwnWalkIn
import Derived.TacticsInMore
import Derived.LoopNIn
import Derived.LoopIn
import Derived.Shelf.Strings.BuilderK
import Derived.Test.YtdmniblonikjlakGreatDoorRows
import Derived.Stop.LaidErr
import Derived.Stop.Joined
import Derived.LaidHandle
import Derived.Lib.LaidTab


namespace Go.Proofs.YtdmniblonikjlakGreatDoor.Run
open Go.RowKit
open Cas (G GI)
open Net (KpL NewL)
open As (Laid)
set_option linter.unusedVariables false
theorem wantN_le (w:T):wantN w ≤ 2 := by
 unfold wantN many
 repeat' split
 all_goals first | omega | (rename_i h; split at h <;> (try cases h) <;> first | omega | (split at h <;> (try cases h) <;> first | omega | (split at h <;> (try cases h) <;> omega)))
theorem do_any {w:World} {base P M:Nat} {g:G} {fp:List Nat} (wd:T) (a b:Nat) (h:DS w base P M g fp) (hbw:base ≤ w.heap.size) (hF:Fi base w) (hm:many wd ≠ none) (ha:a ≤ 9999):Calls Tryz.prog 102 #[.agg #[.pointer (some ⟨P,0,none⟩),.map (some M)],.string (tx wd),.agg #[.int .i64 (a:Int),.int .i64 (b:Int)]] w fun e w' => ∃ ans err fp',e = .returned (.tuple #[.string ans,err]) ∧ Dn (act g wd (a:Int) (b:Int)).1 ans err ∧ Do w w' base P M (act g wd (a:Int) (b:Int)).2 fp fp' := by
 by_cases h1:wd = [115,97,121]; · subst h1; exact do_say a b h hbw hF
 by_cases h2:wd = [103,105,118,101]; · subst h2; exact do_give a b h hbw hF
 by_cases h3:wd = [100,114,111,112]; · subst h3; exact do_drop a b h hbw hF
 by_cases h4:wd = [116,119,105,99,101]; · subst h4; exact do_twice a b h hbw hF
 by_cases h5:wd = [119,97,121]; · subst h5; exact do_way a b h hbw hF
 by_cases h6:wd = [104,101,97,114,100]
 ·subst h6
  by_cases q:4 < a
  ·exact do_heard_no a b h hbw hF q
  ·exact do_heard_ok a b h hbw hF (by omega)
 by_cases h7:wd = [102,97,99,101,115]; · subst h7; exact do_faces a b h hbw hF
 by_cases h8:wd = [99,108,111,99,107]
 ·subst h8
  by_cases q:a < g.H.length
  ·exact do_clock_ok a b h hbw hF q
  ·exact do_clock_no a b h hbw hF ⟨by omega,ha⟩
 exact absurd (by simp [many,h1,h2,h3,h4,h5,h6,h7,h8]) hm
theorem line_no {g:G} {s w0:T} {ns:List T} (hw:cut 32 s = w0 :: ns) (h:¬ (ns.length ≤ 2 ∧ ns.all isNum = true ∧ many w0 = some ns.length)):line g s = (bad,g) := by
 unfold line
 rw [hw]
 exact if_neg h
theorem line_do {g:G} {s w0:T} {ns:List T} (hw:cut 32 s = w0 :: ns) (h:ns.length ≤ 2 ∧ ns.all isNum = true ∧ many w0 = some ns.length):line g s = act g w0 (((ns.map numV).getD 0 0:Nat):Int) (((ns.map numV).getD 1 0:Nat):Int) := by
 unfold line
 rw [hw]
 exact if_pos h
theorem many_want {w:T} {k:Nat} (h:many w = some k):wantN w = k := by unfold wantN; rw [h]
theorem want_many {w:T} {k:Nat} (hk:k ≠ 0) (h:wantN w = k):many w = some k := by
 unfold wantN at h
 cases e:many w with
 | some j => rw [e] at h; exact congrArg some h
 | none => rw [e] at h; exact absurd h.symm hk
def ReadBad (w:World) (P M:Nat) (l:T):Prop := Calls Tryz.prog 101 #[.agg #[.pointer (some ⟨P,0,none⟩),.map (some M)],.string (tx l)] w fun e w' => e = .returned (.tuple #[.string (ByteArray.mk #[]),.agg #[.int .i64 0,.int .i64 0],lineE]) ∧ Below w.heap.size w w'
def ReadOk (w:World) (P M:Nat) (l w0:T) (a b:Nat):Prop := Calls Tryz.prog 101 #[.agg #[.pointer (some ⟨P,0,none⟩),.map (some M)],.string (tx l)] w fun e w' => e = .returned (.tuple #[.string (tx w0),.agg #[.int .i64 (a:Int),.int .i64 (b:Int)],.nilIface]) ∧ Below w.heap.size w w'
theorem read_any (P M:Nat) (l:T) (w:World) (h:Rd w M) (hl:l.length ≤ 3000) :
  ((∀ g,line g l = (bad,g)) ∧ ReadBad w P M l) ∨ (∃ (w0:T) (a b:Nat),a ≤ 9999 ∧ many w0 ≠ none ∧ (∀ g,line g l = act g w0 (a:Int) (b:Int)) ∧ ReadOk w P M l w0 a b) ∨ (∃ w0,many w0 = none ∧ (∀ g,line g l = (bad,g)) ∧ ReadOk w P M l w0 0 0) := by
 match hc:cut 32 l,cut_ne 32 l with
 | [w0],_ =>
  by_cases hn:wantN w0 = 0
  ·cases hm:many w0 with
   | none => exact .inr (.inr ⟨w0,hm,fun g => line_no hc (by rw [hm]; simp),read_none_ok P M l w0 w h hl hc hn⟩)
   | some k =>
    have hk := many_want hm
    rw [hn] at hk
    subst hk
    exact .inr (.inl ⟨w0,0,0,by decide,by rw [hm]; simp,fun g => line_do hc ⟨by simp,by simp,hm⟩,read_none_ok P M l w0 w h hl hc hn⟩)
  ·exact .inl ⟨fun g => line_no hc fun z => hn (many_want z.2.2),read_none_no P M l w0 w h hl hc (fun e => hn e.symm)⟩
 | [w0,p],_ =>
  by_cases hn:wantN w0 = 1
  ·cases hp:isNum p with
   | false => exact .inl ⟨fun g => line_no hc fun z => by simp [hp] at z,read_one_no P M l w0 p w h hl hc hn hp⟩
   | true => exact .inr (.inl ⟨w0,numV p,0,(num_own hp).2.1,by rw [want_many (k := 1) (by decide) hn]; simp,fun g => line_do hc ⟨by simp,by simp [hp],want_many (k := 1) (by decide) hn⟩,read_one_ok P M l w0 p w h hl hc hn hp⟩)
  ·exact .inl ⟨fun g => line_no hc fun z => hn (many_want z.2.2),read_many P M l w0 p [] w h hl hc (fun e => hn e.symm) (by simp)⟩
 | [w0,p,q],_ =>
  by_cases hn:wantN w0 = 2
  ·cases hp:isNum p with
   | false => exact .inl ⟨fun g => line_no hc fun z => by simp [hp] at z,read_two_no P M l w0 p q w h hl hc hn hp⟩
   | true =>
    cases hq:isNum q with
    | false => exact .inl ⟨fun g => line_no hc fun z => by simp [hq] at z,read_two_one P M l w0 p q w h hl hc hn hp hq⟩
    | true => exact .inr (.inl ⟨w0,numV p,numV q,(num_own hp).2.1,by rw [want_many (k := 2) (by decide) hn]; simp,fun g => line_do hc ⟨by simp,by simp [hp,hq],want_many (k := 2) (by decide) hn⟩,read_two_ok P M l w0 p q w h hl hc hn hp hq⟩)
  ·exact .inl ⟨fun g => line_no hc fun z => hn (many_want z.2.2),read_many P M l w0 p [q] w h hl hc (fun e => hn e.symm) (by simp)⟩
 | w0 :: p :: q :: r :: ns,_ =>
  refine .inl ⟨fun g => line_no hc fun z => absurd z.1 (by simp),read_many P M l w0 p (q :: r :: ns) w h hl hc (fun e => by have := wantN_le w0; rw [← e] at this; simp at this) ?_⟩
  have := cut_len 32 l
  rw [hc] at this
  simp at this ⊢
  omega
theorem Do.ahead {w W w':World} {base P M:Nat} {g':G} {fp fp':List Nat} (hb:Below w.heap.size w W) (hbw:base ≤ w.heap.size) (d:Do W w' base P M g' fp fp'):Do w w' base P M g' fp fp' := by
 have hs := hb.size
 refine ⟨d.ds,(hb.mono hbw).trans d.bel,⟨Nat.le_trans hs d.kp.1,fun b hl hn => (d.kp.2 b (by omega) hn).trans (hb.block b hl)⟩,fun b q => ?_⟩
 rcases d.new b q with z | z
 ·exact .inl z
 ·exact .inr (by omega)
theorem Do.next {w w1 w2:World} {base P M:Nat} {g':G} {fp fp':List Nat} (d:Do w w1 base P M g' fp fp') (hb:Below w1.heap.size w1 w2) (hbw:base ≤ w.heap.size):Do w w2 base P M g' fp fp' := by
 have hs := d.kp.1
 refine ⟨⟨d.ds.ca.of_blocks hb.size fun b q => hb.block b (d.ds.ca.fp b q).2,d.ds.gi,d.ds.n3,d.ds.wm.keep (hb.block _ d.ds.wm.lt),d.ds.mlo,d.ds.out⟩,d.bel.trans (hb.mono (Nat.le_trans hbw hs)),⟨Nat.le_trans hs hb.size,fun b hl hn => (hb.block b (by omega)).trans (d.kp.2 b hl hn)⟩,d.new⟩
set_option maxRecDepth 100000 in
set_option maxHeartbeats 2000000 in
theorem answer_any {w:World} {base P M:Nat} {g:G} {fp:List Nat} (l:T) (h:DS w base P M g fp) (hbw:base ≤ w.heap.size) (hF:Fi base w) (hl:l.length ≤ 3000) :
  Calls Tryz.prog 53 #[.agg #[.pointer (some ⟨P,0,none⟩),.map (some M)],.string (tx l)] w fun e w' => ∃ fp',e = .returned (.string (tx (line g l).1)) ∧ Do w w' base P M (line g l).2 fp fp' := by
 have HD:Hid (DS w base P M g fp ∧ base ≤ w.heap.size ∧ Fi base w) := ⟨h,hbw,hF⟩
 obtain ⟨W0,eW⟩:∃ W,W = w.alloc (.cells #[.pointer (some ⟨P,0,none⟩),.map (some M)] 108) := ⟨_,rfl⟩
 have B0:Hid (Below w.heap.size w W0) := by rw [eW]; exact (Below.refl _ _).alloc (Nat.le_refl _) _
 have D0:Hid (W0.cell? ⟨w.heap.size,0,none⟩ = some (.pointer (some ⟨P,0,none⟩)) ∧ W0.cell? ⟨w.heap.size,1,none⟩ = some (.map (some M)) ∧ W0.heap.size = w.heap.size + 1) := by
  rw [eW]
  exact ⟨by simp,by simp,by simp⟩
 have F0:Hid (Fi base W0) := hF.later (B0.out.mono hbw)
 have RD0:Rd W0 M := ⟨F0.out.fit,h.wm.keep (B0.out.block _ h.wm.lt)⟩
 have RA := read_any P M l W0 RD0 hl
 clear h hbw hF RD0
 rcases RA with ⟨hline,hrd⟩ | ⟨w0,a,b,ha,hm,hline,hrd⟩ | ⟨w0,hm,hline,hrd⟩
 ·have HL:Hid (line g l = (bad,g)) := hline g
  rw [HL.out]
  have HR:Hid (ReadBad W0 P M l) := hrd
  clear hline hrd
  go_enter Tryz.func53,Tryz.ntmps53
  go_wp2_with fail
  rw [← eW]
  clear eW
  refine HR.out.mono ?_
  rw [show lineE = .iface 181 (.agg #[.int .i64 2]) from rfl]
  rintro e w1 ⟨rfl,hb⟩
  have B1:Hid (Below w.heap.size w w1) := B0.out.trans (hb.mono B0.out.size)
  have F1:Hid (Fi base w1) := HD.out.2.2.later (B1.out.mono HD.out.2.1)
  clear hb
  go_wp2_with fail
  obtain ⟨W2,eW2⟩:∃ W,W = w1.alloc (.cells #[.int .i64 0,.int .i64 0] 185) := ⟨_,rfl⟩
  have B2:Hid (Below w.heap.size w W2) := by rw [eW2]; exact B1.out.alloc B1.out.size _
  rw [← eW2]
  clear eW2
  refine (told_line W2 (HD.out.2.2.later (B2.out.mono HD.out.2.1)).fit.laid).mono ?_
  rintro e w3 ⟨rfl,hb⟩
  have B3:Hid (Below w.heap.size w w3) := B2.out.trans (hb.mono B2.out.size)
  clear hb
  go_wp2
  go_ret
  exact ⟨fp,rfl,Do.still HD.out.1 B3.out HD.out.2.1⟩
 ·have HL:Hid (line g l = act g w0 (a:Int) (b:Int) ∧ a ≤ 9999 ∧ many w0 ≠ none) := ⟨hline g,ha,hm⟩
  rw [HL.out.1]
  have HR:Hid (ReadOk W0 P M l w0 a b) := hrd
  clear hline hrd ha hm
  go_enter Tryz.func53,Tryz.ntmps53
  go_wp2_with fail
  rw [← eW]
  clear eW
  refine HR.out.mono ?_
  rintro e w1 ⟨rfl,hb⟩
  have B1:Hid (Below w.heap.size w w1 ∧ w1.cell? ⟨w.heap.size,0,none⟩ = some (.pointer (some ⟨P,0,none⟩)) ∧ w1.cell? ⟨w.heap.size,1,none⟩ = some (.map (some M))) := ⟨B0.out.trans (hb.mono B0.out.size),(hb.cell (p := ⟨w.heap.size,0,none⟩) (by have := D0.out.2.2; show w.heap.size < _; omega)).trans D0.out.1,(hb.cell (p := ⟨w.heap.size,1,none⟩) (by have := D0.out.2.2; show w.heap.size < _; omega)).trans D0.out.2.1⟩
  have hwl:w.heap.size < w1.heap.size := by have := D0.out.2.2; have := hb.size; omega
  have k0 := B1.out.2.1
  have k1 := B1.out.2.2
  clear hb
  go_wp2_with fail
  obtain ⟨W2,eW2⟩:∃ W,W = w1.alloc (.cells #[.int .i64 (a:Int),.int .i64 (b:Int)] 185) := ⟨_,rfl⟩
  have B2:Hid (Below w.heap.size w W2) := by rw [eW2]; exact B1.out.1.alloc B1.out.1.size _
  rw [← eW2]
  clear eW2 k0 k1 hwl
  have DS2:Hid (DS W2 base P M g fp ∧ base ≤ W2.heap.size ∧ Fi base W2) := ⟨(Do.still HD.out.1 B2.out HD.out.2.1).ds,Nat.le_trans HD.out.2.1 B2.out.size,HD.out.2.2.later (B2.out.mono HD.out.2.1)⟩
  refine (do_any w0 a b DS2.out.1 DS2.out.2.1 DS2.out.2.2 HL.out.2.2 HL.out.2.1).mono ?_
  rintro e w3 ⟨ans,err,fp',rfl,hdn,hdo⟩
  have D3:Hid (Do w w3 base P M (act g w0 (a:Int) (b:Int)).2 fp fp') := hdo.ahead B2.out HD.out.2.1
  have F3:Hid (Laid w3) := (DS2.out.2.2.later hdo.bel).fit.laid
  clear hdo
  rcases hdn with ⟨rfl,rfl⟩ | ⟨c,hc,rfl,ht⟩ | ⟨rfl,ht⟩
  ·go_wp2
   go_ret
   exact ⟨fp',rfl,D3.out⟩
  ·have HT:Hid ((act g w0 (a:Int) (b:Int)).1 = nm c) := ht
   have HC:Hid (1 ≤ c ∧ c ≤ 8) := hc
   clear ht hc
   go_wp2_with fail
   refine (told_errno c HC.out w3 F3.out).mono ?_
   rintro e w4 ⟨rfl,hb⟩
   have B4:Hid (Below w3.heap.size w3 w4) := hb
   clear hb
   go_wp2
   go_ret
   exact ⟨fp',by rw [HT.out]; rfl,D3.out.next B4.out HD.out.2.1⟩
  ·have HT:Hid ((act g w0 (a:Int) (b:Int)).1 = bad) := ht
   clear ht
   rw [show lineE = .iface 181 (.agg #[.int .i64 2]) from rfl]
   go_wp2_with fail
   refine (told_line w3 F3.out).mono ?_
   rintro e w4 ⟨rfl,hb⟩
   have B4:Hid (Below w3.heap.size w3 w4) := hb
   clear hb
   go_wp2
   go_ret
   exact ⟨fp',by rw [HT.out]; rfl,D3.out.next B4.out HD.out.2.1⟩
 ·have HL:Hid (line g l = (bad,g) ∧ many w0 = none) := ⟨hline g,hm⟩
  rw [HL.out.1]
  have HR:Hid (ReadOk W0 P M l w0 0 0) := hrd
  clear hline hrd hm
  go_enter Tryz.func53,Tryz.ntmps53
  go_wp2_with fail
  rw [← eW]
  clear eW
  refine HR.out.mono ?_
  rintro e w1 ⟨rfl,hb⟩
  have B1:Hid (Below w.heap.size w w1 ∧ w1.cell? ⟨w.heap.size,0,none⟩ = some (.pointer (some ⟨P,0,none⟩)) ∧ w1.cell? ⟨w.heap.size,1,none⟩ = some (.map (some M))) := ⟨B0.out.trans (hb.mono B0.out.size),(hb.cell (p := ⟨w.heap.size,0,none⟩) (by have := D0.out.2.2; show w.heap.size < _; omega)).trans D0.out.1,(hb.cell (p := ⟨w.heap.size,1,none⟩) (by have := D0.out.2.2; show w.heap.size < _; omega)).trans D0.out.2.1⟩
  have hwl:w.heap.size < w1.heap.size := by have := D0.out.2.2; have := hb.size; omega
  have k0 := B1.out.2.1
  have k1 := B1.out.2.2
  clear hb
  go_wp2_with fail
  obtain ⟨W2,eW2⟩:∃ W,W = w1.alloc (.cells #[.int .i64 0,.int .i64 0] 185) := ⟨_,rfl⟩
  have B2:Hid (Below w.heap.size w W2) := by rw [eW2]; exact B1.out.1.alloc B1.out.1.size _
  rw [← eW2]
  clear eW2 k0 k1 hwl
  have DS2:Hid (DS W2 base P M g fp ∧ base ≤ W2.heap.size ∧ Fi base W2) := ⟨(Do.still HD.out.1 B2.out HD.out.2.1).ds,Nat.le_trans HD.out.2.1 B2.out.size,HD.out.2.2.later (B2.out.mono HD.out.2.1)⟩
  refine (do_none w0 0 0 DS2.out.1 DS2.out.2.1 HL.out.2).mono ?_
  rw [show lineE = .iface 181 (.agg #[.int .i64 2]) from rfl]
  rintro e w3 ⟨rfl,hdo⟩
  have D3:Hid (Do w w3 base P M g fp fp) := hdo.ahead B2.out HD.out.2.1
  have F3:Hid (Laid w3) := (DS2.out.2.2.later hdo.bel).fit.laid
  clear hdo
  go_wp2_with fail
  refine (told_line w3 F3.out).mono ?_
  rintro e w4 ⟨rfl,hb⟩
  have B4:Hid (Below w3.heap.size w3 w4) := hb
  clear hb
  go_wp2
  go_ret
  exact ⟨fp,rfl,D3.out.next B4.out HD.out.2.1⟩
end Go.Proofs.YtdmniblonikjlakGreatDoor.Run


namespace Go.Proofs.YtdmniblonikjlakGreatDoor.Run
open Go.RowKit
set_option linter.unusedVariables false
theorem lines_nil:lines [] = [] := by simp [lines,cut]
theorem lines_one {a:T} (h:(10:UInt8) ∉ a) (hn:a ≠ []):lines a = [a] := by
 unfold lines
 have e:cut 10 a = [a] := cut_no h
 simp only [e]
 simp [hn]
theorem lines_two {a b:T} (h:(10:UInt8) ∉ a):lines (a ++ 10 :: b) = a :: lines b := by
 rw [lines_at,cut_no h]
 rfl
theorem isE (l:T):(tx l).toList.isEmpty = decide (l = []) := by
 rw [none_eq,bs_tx]
theorem cut_line (rest:T) (hn:rest ≠ []) (hl:rest.length ≤ 3000):∃ x rs bo,lines rest = x :: lines rs ∧ rs.length < rest.length ∧ ∀ w:World,Mx w → Calls Tryz.prog 99 #[.string (tx rest),.string (ByteArray.mk #[10])] w fun e w' => e = .returned (.tuple #[.string (tx x),.string (tx rs),.bool bo]) ∧ ∃ k,w' = w.drewN k := by
 by_cases h:(10:UInt8) ∈ rest
 ·obtain ⟨a,b,rfl,ha⟩ := first_at h
  exact ⟨a,b,true,lines_two ha,by simp; omega,fun w hM => cutP_at a b 10 _ _ w rfl rfl hM (by omega) ha⟩
 ·exact ⟨rest,[],false,by rw [lines_one h hn,lines_nil],List.length_pos_iff.2 hn,fun w hM => cutP_no rest 10 _ w rfl hM (by omega) h⟩
set_option maxRecDepth 100000 in
set_option maxHeartbeats 2000000 in
theorem lines_in (n:Nat) (hn:2 ≤ n) (l B:Nat) (t:T) (J:List T → World → Prop) (hJm:∀ pre W,J pre W → Mx W) (hJd:∀ pre W k,J pre W → J pre (W.drewN k))
  (hY:∀ pre x ys W1,lines t = pre ++ x :: ys → J pre W1 → YieldAt Fence.wide (n - 1) Tryz.prog l #[.string (tx x)] W1 fun e W' => e = .returned (.bool true) ∧ J (pre ++ [x]) W')
  (W:World) (ht:t.length ≤ 3000) (hB:W.cell? ⟨B,0,none⟩ = some (.string (tx t))) (h0:J [] W) :
  CallsIn Fence.wide n Tryz.prog 98 #[.func (.yield l) #[] #[],.pointer (some ⟨B,0,none⟩)] W fun e W' => (∃ v,e = .returned v) ∧ J (lines t) W' := by
 refine callsIn_of_wp Tryz.func98 rfl trivial ?_ rfl
 simp only [Tryz.ntmps98,List.size_toArray,List.length_cons,List.length_nil,Nat.reduceAdd,Nat.reduceSub,Array.replicate_succ,Array.replicate_zero,List.push_toArray,List.append_toArray,List.nil_append,List.cons_append]
 gi_wp2
 gi_loopw [3] (fun r wr => ∃ (pre:List T) (rest:T),r = .string (tx rest) ∧ Hid (lines t = pre ++ lines rest ∧ rest.length ≤ 3000 ∧ J pre wr)) (fun r wr => match r with | .string s => s.size | _ => 0)
 case atStart =>
  exact ⟨[],t,rfl,rfl,ht,h0⟩
 case round =>
  obtain ⟨pre,rest,rfl,hr⟩ := hrel
  by_cases hn0:rest = []
  ·subst hn0
   have he := isE []
   gi_wp2
   go_end0
   refine ⟨⟨_,rfl⟩,?_⟩
   have e := hr.out.1
   rw [lines_nil,List.append_nil] at e
   rw [e]
   exact hr.out.2.2
  ·have he := isE rest
   rw [decide_eq_false hn0] at he
   obtain ⟨x,rs,bo,hx,hlt,hcut⟩ := cut_line rest hn0 hr.out.2.1
   have HC:Hid (∀ w:World,Mx w → Calls Tryz.prog 99 #[.string (tx rest),.string (ByteArray.mk #[10])] w fun e w' => e = .returned (.tuple #[.string (tx x),.string (tx rs),.bool bo]) ∧ ∃ k,w' = w.drewN k) := hcut
   have HX:Hid (lines rest = x :: lines rs ∧ rs.length < rest.length) := ⟨hx,hlt⟩
   clear hx hlt hcut
   gi_wp2_with fail
   refine ⟨trivial,fun _ => by omega,?_⟩
   refine (callsIn_wide.2 (HC.out wr (hJm _ _ hr.out.2.2))).mono ?_
   rintro e w2 ⟨rfl,k2,hw2⟩
   have HJ2:Hid (J pre w2) := by rw [hw2]; exact hJd _ _ _ hr.out.2.2
   clear hw2
   obtain ⟨fn,tmps,assign,body,hy,hR⟩ := hY pre x (lines rs) w2 (by rw [hr.out.1,HX.out.1]) HJ2.out
   gi_wp2_with fail
   refine ⟨fun _ => by omega,?_⟩
   refine hR.mono ?_
   rintro e w3 ⟨rfl,hJ3⟩
   gi_wp2_with fail
   go_roundw
   case rel => exact ⟨pre ++ [x],rs,rfl,by rw [hr.out.1,HX.out.1]; simp,by have := HX.out.2; have := hr.out.2.1; omega,hJ3⟩
   case measure =>
    have := HX.out.2
    simp [tx_size]
    omega
end Go.Proofs.YtdmniblonikjlakGreatDoor.Run


namespace Go.Proofs.YtdmniblonikjlakGreatDoor.Run
open Go.RowKit
set_option linter.unusedVariables false
def RE (R:World → Prop):Exit → Act → World → Prop
 | .normal,_,W => R W
 | _,_,_ => False
theorem over_any {Pr:Program} {g:Operand} {p:Tmp} {assign body:Code} {Q:Exit → Act → World → Prop} {a:Act} {w:World} {n gf:Nat} {lb:Array Value} (h2:2 ≤ n)
  (hg:a.eval g = .func (.func gf) #[] lb) (eg:∀ args w,(callFunc gf args).run Pr w = .ok (.enter gf args) w) (xs:List T) (I:List T → World → Prop)
  (hI0:∀ r,I [] ((w.alloc (.deferred (some []))).alloc (.loop r))) (hIp:∀ pre W r,I pre W → I pre (W.putObj (w.heap.size + 1) (.loop r))) (hId:∀ pre W k,I pre W → I pre (W.drewN k))
  (a₁:T → Act)
  (hass:∀ (x:T) (W:World) (K:Act → World → Prop),K (a₁ x) W → assign.wpIn (Fence.wide.inRound (w.heap.size + 1)) (n - 1 - 1) Pr (Exit.then K (fun _ _ _ => False)) { tmps := (#[p].zip #[Value.string (tx x)]).foldl (fun t (q,v) => t.setIfInBounds q v) a.tmps,defers := [] } W)
  (hbody:∀ pre x ys (W:World),xs = pre ++ x :: ys → I pre W → w.heap.size + 1 < W.heap.size → body.wpIn (Fence.wide.inRound (w.heap.size + 1)) (n - 1 - 1) Pr (RE fun W' => I (pre ++ [x]) W' ∧ W'.heap[w.heap.size + 1]? = W.heap[w.heap.size + 1]? ∧ W'.heap[w.heap.size]? = W.heap[w.heap.size]?) (a₁ x) W)
  (hiter:∀ J:List T → World → Prop,(∀ pre W,J pre W → I pre W) → (∀ pre W k,J pre W → J pre (W.drewN k)) →
   (∀ pre x ys W1,xs = pre ++ x :: ys → J pre W1 → YieldAt Fence.wide (n - 1 - 1) Pr (w.heap.size + 1) #[.string (tx x)] W1 fun e W' => e = .returned (.bool true) ∧ J (pre ++ [x]) W') →
   ∀ W,J [] W → CallsIn Fence.wide (n - 1) Pr gf (#[.func (.yield (w.heap.size + 1)) #[] #[]] ++ lb) W fun e W' => (∃ v,e = .returned v) ∧ J xs W')
  (hdone:∀ W,I xs W → W.heap[w.heap.size]? = some (.deferred (some [])) → Q .normal { a with defers := { target := .collected w.heap.size,args := #[] } :: a.defers } W) :
  (Code.rangeFunc g #[p] assign body).wpIn Fence.wide n Pr Q a w := by
 refine wpIn_rangeFunc fun fn hfn => ?_
 obtain ⟨rec,hrec⟩:∃ rec:LoopState → Option Code → Loop,rec = fun st pe => { state := st,pending := pe,fn,tmps := a.tmps,params := #[p],assign,body,defers := w.heap.size } := ⟨_,rfl⟩
 obtain ⟨W1,hW1⟩:∃ W1,(w.alloc (.deferred (some []))).alloc (.loop (rec .ready none)) = W1 := ⟨_,rfl⟩
 have hs1:W1.heap.size = w.heap.size + 2 := by rw [← hW1]; simp
 have hl1:W1.heap[w.heap.size + 1]? = some (.loop (rec .ready none)) := by
  have := World.alloc_heap_new (w.alloc (.deferred (some []))) (.loop (rec .ready none))
  rw [World.size_alloc] at this
  rw [← hW1]
  exact this
 have hk1:W1.heap[w.heap.size]? = some (.deferred (some [])) := by
  rw [← hW1]
  exact (Below.heap_alloc _ _ _ (by simp)).trans (World.alloc_heap_new w _)
 refine ⟨w.heap.size + 1,[{ target := .collected w.heap.size,args := #[] }],W1,{ target := .fn (.func gf) lb,args := #[.func (.yield (w.heap.size + 1)) #[] #[]] },W1,gf,#[.func (.yield (w.heap.size + 1)) #[] #[]] ++ lb,W1,?_,?_,?_,?_,fun _ => by omega,?_⟩
 ·rw [← hW1,hrec]
  exact run_enterLoop_outer _ _ _ _ _
 ·simp only [resolve,hg]
  simp [go_sem]
 ·intro f' _
  trivial
 ·simp [invoke,go_sem,eg]
 ·refine (hiter (fun pre W => I pre W ∧ W.heap[w.heap.size + 1]? = some (.loop (rec .ready none)) ∧ W.heap[w.heap.size]? = some (.deferred (some []))) (fun _ _ h => h.1) (fun pre W k h => ⟨hId pre W k h.1,h.2⟩) ?_ W1 ⟨by rw [← hW1]; exact hI0 _,hl1,hk1⟩).mono ?_
  ·rintro pre x ys W hxs ⟨hi,hl,hk⟩
   have hlt:w.heap.size + 1 < W.heap.size := (Array.getElem?_eq_some_iff.1 hl).1
   have hy := run_yield (P := Pr) (args := #[.string (tx x)]) hl (by rw [hrec]; rfl)
   rw [hrec] at hy
   refine ⟨fn,_,assign,body,hy,roundIn_of_wpIn hfn (hass x W _ ⟨_,run_beginRound hl (by rw [hrec]),?_⟩)⟩
   obtain ⟨W2,hW2⟩:∃ W2,W.putObj (w.heap.size + 1) (.loop { rec .ready none with state := .busy }) = W2 := ⟨_,rfl⟩
   have hl2:W2.heap[w.heap.size + 1]? = some (.loop { rec .ready none with state := .busy }) := by rw [← hW2]; exact World.putObj_heap_same hlt
   have hk2:W2.heap[w.heap.size]? = some (.deferred (some [])) := by rw [← hW2]; exact (World.putObj_heap_other (by omega)).trans hk
   have hi2:I pre W2 := by rw [← hW2]; exact hIp _ _ _ hi
   have hlt2:w.heap.size + 1 < W2.heap.size := (Array.getElem?_eq_some_iff.1 hl2).1
   have hgoal := wpIn_mono (hbody pre x ys W2 hxs hi2 hlt2) (Q' := roundPost Pr (w.heap.size + 1) fun e W' => e = .returned (.bool true) ∧ I (pre ++ [x]) W' ∧ W'.heap[w.heap.size + 1]? = some (.loop (rec .ready none)) ∧ W'.heap[w.heap.size]? = some (.deferred (some []))) (by
    rintro e a3 W3 hp
    cases e with
    | normal =>
     obtain ⟨hi3,hl3,hk3⟩ := hp
     have hl3' := hl3.trans hl2
     have hr := run_endRound (P := Pr) none hl3'
     rw [hrec] at hr
     refine ⟨_,_,hr,rfl,hIp _ _ _ hi3,?_,(World.putObj_heap_other (by omega)).trans (hk3.trans hk2)⟩
     rw [hrec]
     exact World.putObj_heap_same (Array.getElem?_eq_some_iff.1 hl3').1
    | ret => exact hp.elim
    | exit id => exact hp.elim
    | goto t => exact hp.elim
    | panic ch => exact hp.elim
    | outgrown => exact hp.elim)
   rw [← hW2,hrec] at hgoal
   rw [hrec]
   exact hgoal
  ·rintro e W2 ⟨⟨v,rfl⟩,hi,hl,hk⟩
   have hend := run_endLoop (P := Pr) hl (by rw [hrec]; simp)
   rw [hrec] at hend
   exact ⟨none,_,hend,hdone _ (hIp _ _ _ hi) ((World.putObj_heap_other (by omega)).trans hk)⟩
end Go.Proofs.YtdmniblonikjlakGreatDoor.Run


namespace Go.Proofs.YtdmniblonikjlakGreatDoor.Run
open Go.RowKit
open Cas (G GI CA)
open Net (KpL NewL)
open Fif (own_lt own_block own_form own_mono)
set_option linter.unusedVariables false
structure Ru (w:World) (z P M:Nat) (t:ByteArray) (pre:List T) (X:World):Prop where
 ex:∃ fp p v,DS X (w.heap.size + 1) P M (after (Cas.start 3) pre) fp ∧ Bd X (z + 1) (z + 1) p v (all (Cas.start 3) pre) ∧ (∀ k ∈ fp,k < z ∨ z + 5 ≤ k) ∧ (∀ k,v.ownBlock = some k → z + 5 ≤ k ∧ k ∉ fp)
 fi:Fi (w.heap.size + 1) X
 d0:X.cell? ⟨z,0,none⟩ = some (.pointer (some ⟨P,0,none⟩))
 d1:X.cell? ⟨z,1,none⟩ = some (.map (some M))
 tb:X.cell? ⟨z + 2,0,none⟩ = some (.string t)
 bel:Below w.heap.size w X
 len:(all (Cas.start 3) pre).length ≤ pre.length * 200000001
 size:z + 5 ≤ X.heap.size
 lo:w.heap.size + 1 ≤ z ∧ M < z
theorem below_put {n k:Nat} {X:World} (o:Obj) (hn:n ≤ k) (hs:n ≤ X.heap.size):Below n X (X.putObj k o) := (Below.refl n X).grown (grownBy_putObj' X k o) hs (fun j e => by cases e; exact hn)
theorem below_draws (n:Nat) (X:World):∀ k,Below n X (X.drewN k)
 | 0 => by rw [World.drewN_zero]; exact Below.refl _ _
 | k + 1 => ⟨rfl,rfl,rfl,Nat.le_refl _,fun _ _ => rfl⟩
theorem Ru.same {w:World} {z P M:Nat} {t:ByteArray} {pre:List T} {X Y:World} (h:Ru w z P M t pre X) (hb:Below w.heap.size X Y) (hb1:Below (w.heap.size + 1) X Y) (hk:∀ k,k ≠ z + 4 → Y.heap[k]? = X.heap[k]?):Ru w z P M t pre Y := by
 obtain ⟨fp,p,v,hd,hbd,hf,hv⟩ := h.ex
 have hlo := h.lo
 have cell:∀ (n i:Nat),n ≠ z + 4 → Y.cell? ⟨n,i,none⟩ = X.cell? ⟨n,i,none⟩ := fun n i hn => World.cell?_of_block (a := ⟨n,i,none⟩) (hk n hn)
 refine ⟨⟨fp,p,v,⟨hd.ca.of_blocks hb.size fun b q => hk b (by rcases hf b q with z | z <;> omega),hd.gi,hd.n3,hd.wm.keep (hk _ (by omega)),hd.mlo,hd.out⟩,hbd.keep (hk _ (by omega)) fun k q => hk k (by have := (hv k q).1; omega),hf,hv⟩,h.fi.later hb1,(cell _ _ (by omega)).trans h.d0,(cell _ _ (by omega)).trans h.d1,(cell _ _ (by omega)).trans h.tb,h.bel.trans hb,h.len,Nat.le_trans h.size hb.size,hlo⟩
theorem Ru.put {w:World} {z P M:Nat} {t:ByteArray} {pre:List T} {X:World} (h:Ru w z P M t pre X) (o:Obj):Ru w z P M t pre (X.putObj (z + 4) o) := by
 have hlo := h.lo
 have hs := h.size
 exact h.same (below_put o (by omega) (by omega)) (below_put o (by omega) (by omega)) fun k hk => World.putObj_heap_other hk
theorem Ru.draws {w:World} {z P M:Nat} {t:ByteArray} {pre:List T} {X:World} (h:Ru w z P M t pre X) (k:Nat):Ru w z P M t pre (X.drewN k) :=
 h.same (below_draws _ _ k) (below_draws _ _ k) fun j _ => rfl
theorem Ru.step {w:World} {z P M:Nat} {t:ByteArray} {pre:List T} {X X1 X2 X3:World} {x:T} {fp fp':List Nat} {p v p2 v2 p3 v3:Value} (h:Ru w z P M t pre X)
  (hd:DS X (w.heap.size + 1) P M (after (Cas.start 3) pre) fp) (hbd:Bd X (z + 1) (z + 1) p v (all (Cas.start 3) pre)) (hf:∀ k ∈ fp,k < z ∨ z + 5 ≤ k) (hv:∀ k,v.ownBlock = some k → z + 5 ≤ k ∧ k ∉ fp)
  (d:Do X X1 (w.heap.size + 1) P M (line (after (Cas.start 3) pre) x).2 fp fp')
  (b2:Bd X2 (z + 1) (z + 1) p2 v2 (all (Cas.start 3) pre ++ (line (after (Cas.start 3) pre) x).1)) (s2:Bs X1 X2 (z + 1) v v2) (e2:Below (z + 1) X1 X2)
  (b3:Bd X3 (z + 1) (z + 1) p3 v3 (all (Cas.start 3) pre ++ (line (after (Cas.start 3) pre) x).1 ++ [10])) (s3:Bs X2 X3 (z + 1) v2 v3) (e3:Below (z + 1) X2 X3) :
  Ru w z P M t (pre ++ [x]) X3 ∧ X3.heap[z + 4]? = X.heap[z + 4]? ∧ X3.heap[z + 3]? = X.heap[z + 3]? := by
 have hlo := h.lo
 have hs := h.size
 have hs1 := d.kp.1
 have hs2 := s2.size
 have hs3 := s3.size
 have hf':∀ k ∈ fp',k < z ∨ z + 5 ≤ k := fun k q => by
  rcases d.new k q with a | a
  ·exact hf k a
  ·exact .inr (by omega)
 have hfl:∀ k ∈ fp',k < X1.heap.size := fun k q => (d.ds.ca.fp k q).2
 have hv1:∀ k,v.ownBlock = some k → z + 5 ≤ k ∧ k ∉ fp' := fun k q => ⟨(hv k q).1,fun a => by
  rcases d.new k a with c | c
  ·exact (hv k q).2 c
  ·have := (own_lt hbd.own k q).2; omega⟩
 have hv2:∀ k,v2.ownBlock = some k → z + 5 ≤ k ∧ k ∉ fp' := fun k q => by
  rcases s2.new k q with a | a
  ·exact hv1 k a
  ·exact ⟨by omega,fun c => by have := hfl k c; omega⟩
 have hv3:∀ k,v3.ownBlock = some k → z + 5 ≤ k ∧ k ∉ fp' := fun k q => by
  rcases s3.new k q with a | a
  ·exact hv2 k a
  ·exact ⟨by omega,fun c => by have := hfl k c; omega⟩
 have key:∀ k,k < X1.heap.size → k ≠ z + 1 → (k < z + 5 ∨ k ∈ fp') → X3.heap[k]? = X1.heap[k]? := fun k hk hn hc => by
  have n1:v.ownBlock ≠ some k := fun q => by
   rcases hc with c | c
   ·have := (hv1 k q).1; omega
   ·exact (hv1 k q).2 c
  have n2:v2.ownBlock ≠ some k := fun q => by
   rcases hc with c | c
   ·have := (hv2 k q).1; omega
   ·exact (hv2 k q).2 c
  exact (s3.old k (by omega) hn n2).trans (s2.old k hk hn n1)
 have far:∀ k,k ≠ z + 1 → z ≤ k → k < z + 5 → X3.heap[k]? = X.heap[k]? := fun k hn h1 h2 => (key k (by omega) hn (.inl h2)).trans (d.kp.2 k (by omega) fun q => by have := hf k q; omega)
 have cell:∀ (n i:Nat),n ≠ z + 1 → z ≤ n → n < z + 5 → X3.cell? ⟨n,i,none⟩ = X.cell? ⟨n,i,none⟩ := fun n i hn h1 h2 => World.cell?_of_block (a := ⟨n,i,none⟩) (far n hn h1 h2)
 have e1 := all_snoc (Cas.start 3) pre x
 have e4 := after_snoc (Cas.start 3) pre x
 have hb13:Below (w.heap.size + 1) X X3 := d.bel.trans ((e2.trans e3).mono (by omega))
 have hlen := line_len hd.gi x
 refine ⟨⟨⟨fp',p3,v3,⟨?_,?_,?_,?_,d.ds.mlo,d.ds.out⟩,?_,hf',hv3⟩,h.fi.later hb13,(cell _ _ (by omega) (by omega) (by omega)).trans h.d0,(cell _ _ (by omega) (by omega) (by omega)).trans h.d1,(cell _ _ (by omega) (by omega) (by omega)).trans h.tb,h.bel.trans (hb13.mono (by omega)),?_,by omega,hlo⟩,far _ (by omega) (by omega) (by omega),far _ (by omega) (by omega) (by omega)⟩
 ·rw [e4]
  exact d.ds.ca.of_blocks (by omega) fun b q => key b (hfl b q) (by have := hf' b q; omega) (.inr q)
 ·rw [e4]
  exact d.ds.gi
 ·rw [e4]
  exact d.ds.n3
 ·exact d.ds.wm.keep (key M d.ds.wm.lt (by omega) (.inl (by omega)))
 ·rw [e1,← List.append_assoc]
  exact b3
 ·rw [e1,List.length_append,List.length_append,List.length_append]
  have := h.len
  simp only [List.length_singleton]
  rw [Nat.add_mul]
  omega
end Go.Proofs.YtdmniblonikjlakGreatDoor.Run


namespace Go.Proofs.YtdmniblonikjlakGreatDoor.Run
open Go.RowKit
open Cas (G GI CA)
open Net (KpL NewL)
open As (Laid)
open Fif (own_lt own_block own_form own_mono)
set_option linter.unusedVariables false
attribute [local go_sem] Oper.semAt_some
theorem lines_fn (t:ByteArray) (w:World):Calls Tryz.prog 51 #[.string t] w fun e w' => e = .returned (.func (.func 98) #[] #[.pointer (some ⟨w.heap.size,0,none⟩)]) ∧ w' = w.alloc (.cells #[.string t] 9) := by
 go_enter Tryz.func51,Tryz.ntmps51
 go_wp2
 go_ret
 exact ⟨rfl,rfl⟩
theorem run_long (t:ByteArray) (w:World) (h:3000 < t.size):Calls Tryz.prog 23 #[.string t] w fun e w' => e = .returned (.string (tx tooLong)) ∧ Below w.heap.size w w' := by
 obtain ⟨n,en⟩:∃ n,n = t.size := ⟨_,rfl⟩
 have hsz:(t.size:Int) = (n:Int) := by rw [en]
 have hI:(3000:Int) < (n:Int) := by omega
 clear en h
 go_enter Tryz.func23,Tryz.ntmps23
 go_wp2
 go_ret
 exact ⟨rfl,Below.refl _ _⟩
theorem lines_len (t:T):(lines t).length ≤ t.length + 1 := by
 have h := cut_len 10 t
 unfold lines
 split
 ·rw [List.length_dropLast]; omega
 ·exact h
theorem lines_piece (t:T):∀ x ∈ lines t,x.length ≤ t.length := by
 intro x hx
 unfold lines at hx
 split at hx
 ·exact piece_len 10 t x (List.dropLast_subset _ hx)
 ·exact piece_len 10 t x hx
theorem ru_zero (w w1:World) (P M:Nat) (t:ByteArray) (fp:List Nat) (hd:DS w1 (w.heap.size + 1) P M (Cas.start 3) fp) (hb:Below w.heap.size w w1) (hF:Fit w) (r:Loop) :
  Ru w w1.heap.size P M t [] (((((w1.alloc (.cells #[.pointer (some ⟨P,0,none⟩),.map (some M)] 108)).alloc (.cells #[.pointer none,.slice none 0 0] 114)).alloc (.cells #[.string t] 9)).alloc (.deferred (some []))).alloc (.loop r)) := by
 obtain ⟨A1,e1⟩:∃ A,A = w1.alloc (.cells #[.pointer (some ⟨P,0,none⟩),.map (some M)] 108) := ⟨_,rfl⟩
 obtain ⟨A2,e2⟩:∃ A,A = A1.alloc (.cells #[.pointer none,.slice none 0 0] 114) := ⟨_,rfl⟩
 obtain ⟨A3,e3⟩:∃ A,A = A2.alloc (.cells #[.string t] 9) := ⟨_,rfl⟩
 obtain ⟨A4,e4⟩:∃ A,A = A3.alloc (.deferred (some [])) := ⟨_,rfl⟩
 have s1:A1.heap.size = w1.heap.size + 1 := by rw [e1]; simp
 have s2:A2.heap.size = w1.heap.size + 2 := by rw [e2]; simp [s1]
 have s3:A3.heap.size = w1.heap.size + 3 := by rw [e3]; simp [s2]
 have s4:A4.heap.size = w1.heap.size + 4 := by rw [e4]; simp [s3]
 have s5:(A4.alloc (.loop r)).heap.size = w1.heap.size + 5 := by simp [s4]
 rw [← e1,← e2,← e3,← e4]
 have k1:∀ k,k < w1.heap.size → A1.heap[k]? = w1.heap[k]? := fun k hk => by rw [e1]; exact Below.heap_alloc _ _ _ hk
 have k2:∀ k,k < w1.heap.size + 1 → A2.heap[k]? = A1.heap[k]? := fun k hk => by rw [e2]; exact Below.heap_alloc _ _ _ (by omega)
 have k3:∀ k,k < w1.heap.size + 2 → A3.heap[k]? = A2.heap[k]? := fun k hk => by rw [e3]; exact Below.heap_alloc _ _ _ (by omega)
 have k4:∀ k,k < w1.heap.size + 3 → A4.heap[k]? = A3.heap[k]? := fun k hk => by rw [e4]; exact Below.heap_alloc _ _ _ (by omega)
 have k5:∀ k,k < w1.heap.size + 4 → (A4.alloc (.loop r)).heap[k]? = A4.heap[k]? := fun k hk => Below.heap_alloc _ _ _ (by omega)
 have h0:(A4.alloc (.loop r)).heap[w1.heap.size]? = some (.cells #[.pointer (some ⟨P,0,none⟩),.map (some M)] 108 (0,0)) := by
  rw [k5 _ (by omega),k4 _ (by omega),k3 _ (by omega),k2 _ (by omega),e1]
  exact World.alloc_heap_new w1 _
 have h1:(A4.alloc (.loop r)).heap[w1.heap.size + 1]? = some (.cells #[.pointer none,.slice none 0 0] 114 (0,0)) := by
  rw [k5 _ (by omega),k4 _ (by omega),k3 _ (by omega),e2,← s1]
  exact World.alloc_heap_new A1 _
 have h2:(A4.alloc (.loop r)).heap[w1.heap.size + 2]? = some (.cells #[.string t] 9 (0,0)) := by
  rw [k5 _ (by omega),k4 _ (by omega),e3,← s2]
  exact World.alloc_heap_new A2 _
 have ba:Below w1.heap.size w1 (A4.alloc (.loop r)) := by
  rw [e4,e3,e2,e1]
  exact (((((Below.refl _ _).alloc (Nat.le_refl _) _).alloc (by simp) _).alloc (by simp <;> omega) _).alloc (by simp <;> omega) _).alloc (by simp <;> omega) _
 have hlo := hd.mlo
 have hM := hd.wm.lt
 have hs := hb.size
 have hz:w.heap.size + 1 ≤ w1.heap.size := by omega
 refine ⟨⟨fp,.pointer none,.slice none 0 0,⟨hd.ca.of_blocks ba.size fun b q => ba.block b (hd.ca.fp b q).2,hd.gi,hd.n3,hd.wm.keep (ba.block _ hM),hlo,hd.out⟩,⟨Nat.le_refl _,World.ownsRow_nil _ _ _ _,by simp [Value.ownBlock],.inl rfl,h1⟩,fun k q => .inl (hd.ca.fp k q).2,fun k q => by cases q⟩,⟨w,hF,by omega,hb.trans (ba.mono hs)⟩,?_,?_,?_,hb.trans (ba.mono hs),Nat.zero_le _,by omega,hz,hM⟩
 ·rw [Lib.cell_of_heap h0]; rfl
 ·rw [Lib.cell_of_heap h0]; rfl
 ·rw [Lib.cell_of_heap h2]; rfl
set_option maxRecDepth 100000 in
set_option maxHeartbeats 4000000 in
theorem run_short (t:ByteArray) (w:World) (h:t.size ≤ 3000) (hF:Fit w):Calls Tryz.prog 23 #[.string t] w fun e w' => e = .returned (.string (tx (all (Cas.start 3) (lines (bs t))))) ∧ Below w.heap.size w w' := by
 have HF:Hid (Fit w) := hF
 obtain ⟨n,en⟩:∃ n,n = t.size := ⟨_,rfl⟩
 have hsz:(t.size:Int) = (n:Int) := by rw [en]
 have hI:¬ (3000:Int) < (n:Int) := by omega
 have HN:Hid (n = t.size ∧ n ≤ 3000) := ⟨en,by omega⟩
 clear en h hF
 refine (callsIn_wide (n := 9)).1 ?_
 refine callsIn_of_wp_marks Tryz.func23 rfl trivial ?_ rfl
 simp only [Tryz.ntmps23,List.size_toArray,List.length_cons,List.length_nil,Nat.reduceAdd,Nat.reduceSub,Array.replicate_succ,Array.replicate_zero,List.push_toArray,List.append_toArray,List.nil_append,List.cons_append]
 gi_wp2_with fail
 refine ⟨trivial,?_⟩
 refine (callsIn_wide.2 (desk_any w HF.out.laid)).mono ?_
 rintro e w1 ⟨P,M,fp,rfl,hds,hb⟩
 have D1:Hid (DS w1 (w.heap.size + 1) P M (Cas.start 3) fp ∧ Below w.heap.size w w1) := ⟨hds,hb⟩
 clear hds hb
 gi_wp2_with fail
 refine ⟨trivial,?_⟩
 refine (callsIn_wide.2 (lines_fn t _)).mono ?_
 rintro e w2 ⟨rfl,hw2⟩
 gi_wp2_with fail
 clear hw2
 obtain ⟨z,ez⟩:∃ z,z = w1.heap.size := ⟨_,rfl⟩
 obtain ⟨W3,eW3⟩:∃ W,W = (((w1.alloc (.cells #[.pointer (some ⟨P,0,none⟩),.map (some M)] 108)).alloc (.cells #[.pointer none,.slice none 0 0] 114)).alloc (.cells #[.string t] 9)) := ⟨_,rfl⟩
 have S3:Hid (W3.heap.size = z + 3) := by show _ = _; rw [eW3,ez]; simp
 have R0:Hid (∀ r,Ru w z P M t [] ((W3.alloc (.deferred (some []))).alloc (.loop r))) := by
  rw [eW3,ez]
  exact ru_zero w w1 P M t fp D1.out.1 D1.out.2 HF.out
 rw [← eW3]
 rw [show (w1.heap.size + 1 + 1) = z + 2 by rw [ez],show (w1.heap.size + 1) = z + 1 by rw [ez],← ez]
 clear eW3 ez D1
 refine over_any (n := 9) (by omega) (gf := 98) (lb := #[.pointer (some ⟨z + 2,0,none⟩)]) rfl (enters_of Tryz.func98 (by kernel_rfl) rfl) (lines (bs t)) (Ru w z P M t) R0.out (fun pre W r h => by rw [S3.out]; exact h.put _) (fun pre W k h => h.draws k)
  (fun x => { tmps := #[.string t,undef,.string (ByteArray.mk #[]),.pointer (some ⟨z,0,none⟩),.nilIface,.pointer (some ⟨z + 1,0,none⟩),.string (tx x),.string t,.int .i64 (n:Int),.bool false,.tuple #[.agg #[.pointer (some ⟨P,0,none⟩),.map (some M)],.nilIface],.tuple #[.agg #[.pointer (some ⟨P,0,none⟩),.map (some M)],.nilIface],.agg #[.pointer (some ⟨P,0,none⟩),.map (some M)],.nilIface,.nilIface,.bool false,undef,undef,undef,.string t,.func (.func 98) #[] #[.pointer (some ⟨z + 2,0,none⟩)],.string (tx x),undef,undef,undef,undef,undef,undef],defers := [] }) ?ass ?body ?iter ?done
 case ass =>
  intro x W K hK
  gi_wp2
  exact hK
 case body =>
  rw [S3.out]
  intro pre x ys W hxs hR hlt
  have HX:Hid (x.length ≤ 3000 ∧ pre.length ≤ 3001) := by
   have hb := bs_len t
   have h1 := HN.out
   have h2 := lines_len (bs t)
   refine ⟨?_,?_⟩
   ·have := lines_piece (bs t) x (by rw [hxs]; simp)
    omega
   ·rw [hxs] at h2
    simp at h2
    omega
  obtain ⟨fp,p,v,hd,hbd,hf,hv⟩ := hR.ex
  have HR:Hid (Ru w z P M t pre W ∧ DS W (w.heap.size + 1) P M (after (Cas.start 3) pre) fp ∧ Bd W (z + 1) (z + 1) p v (all (Cas.start 3) pre) ∧ (∀ k ∈ fp,k < z ∨ z + 5 ≤ k) ∧ (∀ k,v.ownBlock = some k → z + 5 ≤ k ∧ k ∉ fp)) := ⟨hR,hd,hbd,hf,hv⟩
  have d0 := hR.d0
  have d1 := hR.d1
  clear hxs hlt hd hbd hf hv hR
  gi_wp2_with fail
  refine ⟨trivial,?_⟩
  refine (CallsIn.inRound _ (callsIn_wide.2 (answer_any x HR.out.2.1 (by have := HR.out.1.size; have := HR.out.1.lo; omega) HR.out.1.fi HX.out.1))).mono ?_
  obtain ⟨ans,ea⟩:∃ ans,ans = tx (line (after (Cas.start 3) pre) x).1 := ⟨_,rfl⟩
  rw [← ea]
  rintro e X1 ⟨fp',rfl,hdo⟩
  have EA:Hid (bs ans = (line (after (Cas.start 3) pre) x).1 ∧ ans.size ≤ 200000000) := ⟨by rw [ea,bs_tx],by rw [ea,tx_size]; exact line_len HR.out.2.1.gi x⟩
  have DO:Hid (Do W X1 (w.heap.size + 1) P M (line (after (Cas.start 3) pre) x).2 fp fp') := hdo
  have hb1:Bd X1 (z + 1) (z + 1) p v (all (Cas.start 3) pre) := by
   have hlt:z + 5 ≤ W.heap.size := HR.out.1.size
   refine HR.out.2.2.1.keep (hdo.kp.2 _ (by omega) fun q => by have := HR.out.2.2.2.1 _ q; omega) fun k q => hdo.kp.2 k (own_lt HR.out.2.2.1.own k q).2 (HR.out.2.2.2.2 k q).2
  have L1:Hid ((all (Cas.start 3) pre).length ≤ 700000000000) := by
   have h1 := HR.out.1.len
   have h2 := Nat.mul_le_mul_right 200000001 HX.out.2
   show _ ≤ _
   omega
  have B1:Hid (Bd X1 (z + 1) (z + 1) p v (all (Cas.start 3) pre) ∧ z + 1 ≤ X1.heap.size) := ⟨hb1,by have := HR.out.1.size; have := hdo.kp.1; omega⟩
  clear hdo hb1 ea d0 d1
  gi_wp2_with fail
  refine ⟨trivial,?_⟩
  refine (CallsIn.inRound _ (callsIn_wide.2 (write_bd ans B1.out.1 (by have := L1.out; have := EA.out.2; omega) B1.out.2))).mono ?_
  rintro e X2 ⟨rfl,hbe,p2,v2,hb2,hs2⟩
  have B2:Hid (Bd X2 (z + 1) (z + 1) p2 v2 (all (Cas.start 3) pre ++ bs ans) ∧ Bs X1 X2 (z + 1) v v2 ∧ Below (z + 1) X1 X2 ∧ z + 1 ≤ X2.heap.size) := ⟨hb2,hs2,hbe,Nat.le_trans B1.out.2 hbe.size⟩
  clear hbe hb2 hs2
  gi_wp2_with fail
  refine ⟨trivial,?_⟩
  refine (CallsIn.inRound _ (callsIn_wide.2 (byte_bd 10 10 rfl B2.out.1 (by have := L1.out; have := EA.out.2; rw [List.length_append,bs_len]; omega) B2.out.2.2.2))).mono ?_
  rintro e X3 ⟨rfl,hbe,p3,v3,hb3,hs3⟩
  have B3:Hid (Bd X3 (z + 1) (z + 1) p3 v3 (all (Cas.start 3) pre ++ bs ans ++ [10]) ∧ Bs X2 X3 (z + 1) v2 v3 ∧ Below (z + 1) X2 X3) := ⟨hb3,hs3,hbe⟩
  clear hbe hb3 hs3
  gi_wp2_with fail
  have E2 := B2.out.1
  have E3 := B3.out.1
  rw [EA.out.1] at E2 E3
  exact HR.out.1.step HR.out.2.1 HR.out.2.2.1 HR.out.2.2.2.1 HR.out.2.2.2.2 DO.out E2 B2.out.2.1 B2.out.2.2.1 E3 B3.out.2.1 B3.out.2.2
 case iter =>
  intro J hJI hJd hY W hJ
  exact lines_in 8 (by omega) _ (z + 2) (bs t) J (fun pre W h => (hJI pre W h).fi.fit.mx) hJd hY W (by rw [bs_len]; have := HN.out; omega) (by rw [tx_bs]; exact (hJI [] W hJ).tb) hJ
 case done =>
  rw [S3.out]
  intro W hR hK
  obtain ⟨fp,p,v,hd,hbd,hf,hv⟩ := hR.ex
  have HR:Hid (Ru w z P M t (lines (bs t)) W ∧ W.heap[z + 3]? = some (.deferred (some []))) := ⟨hR,hK⟩
  have SD:Hid (Calls Tryz.prog 55 #[.pointer (some ⟨z + 1,0,none⟩)] W fun e w' => e = .returned (.string (tx (all (Cas.start 3) (lines (bs t))))) ∧ Lib.IsBuilderF 114 5 (z + 1) (z + 1) (Lib.byteCells (all (Cas.start 3) (lines (bs t)))) w' ∧ Below (z + 1) W w' ∧ Lib.OthersKept 5 (some (z + 1)) W w') := Any.Builder_String_any_k Tryz.textL Tryz.textX (z + 1) (z + 1) _ W (Lib.IsBuilderF.of hbd.is) (by have := hR.size; omega)
  clear hK hR hd hbd hf hv
  gi_wp2_with fail
  refine ⟨trivial,?_⟩
  refine (callsIn_wide.2 SD.out).mono ?_
  rintro e W4 ⟨rfl,-,hb,ho⟩
  have K4:W4.heap[z + 3]? = some (.deferred (some [])) := ho _ _ HR.out.2 (fun e => by have := Option.some.inj e; omega) (fun c fz e => by cases e)
  have B4:Hid (Below w.heap.size w W4) := HR.out.1.bel.trans (hb.mono (by have := HR.out.1.lo; omega))
  clear hb ho
  gi_wp2_with fail
  refine ⟨by simp,.inl ⟨_,_,rfl,run_takeDeferred K4,?_⟩⟩
  refine ⟨_,results_tmp rfl _ _ _,rfl,?_⟩
  have hs := B4.out.size
  have hlo := HR.out.1.lo
  exact B4.out.trans (below_put _ (by omega) (by omega))
theorem runP (t:ByteArray) (w:World) (hL:Fit w):Calls Tryz.prog 23 #[.string t] w fun e w' => e = .returned (.string (tx (run (bs t)))) ∧ Below w.heap.size w w' := by
 by_cases h:3000 < t.size
 ·have e:run (bs t) = tooLong := if_pos (by rw [bs_len]; exact h)
  rw [e]
  exact run_long t w h
 ·have e:run (bs t) = all (Cas.start 3) (lines (bs t)) := if_neg (by rw [bs_len]; exact h)
  rw [e]
  exact run_short t w (by omega) hL
end Go.Proofs.YtdmniblonikjlakGreatDoor.Run


namespace Go.Proofs.YtdmniblonikjlakGreatDoor.Run
open Go.RowKit Go.ChangeShapes
open As (Laid)
set_option linter.unusedVariables false
theorem star : "*" ++ "errors.errorString" = "*errors.errorString" := by decide
theorem rowE (u:TypeId) (h:Tryz.prog.typeName? 3 u = some "*errors.errorString"):u = 302 :=
 typeName_ptr_named (nm := "errors.errorString") (by rw [star]; kernel_rfl) (by kernel_rfl) (by decide) u (by rw [star]; exact h)
theorem cellsE:Tryz.prog.cellsOf 304 = 1 := by kernel_rfl
theorem cellsS:Tryz.prog.cellsOf 9 = 1 := by kernel_rfl
theorem gT:(Tryz.prog.globalNamed "internal/strconv.uint64pow10").isSome = true := by kernel_rfl
theorem gTt:((Tryz.prog.globalNamed "internal/strconv.uint64pow10").bind fun g => (Tryz.prog.globals[g]?).map (·.type)) = some 306 := by kernel_rfl
theorem gR:Tryz.prog.globalNamed "strconv.ErrRange" = some (Tryz.atoiL_ren.g 16) := by kernel_rfl
theorem gRt:(Tryz.prog.globals[Tryz.atoiL_ren.g 16]?).map (·.type) = some 26 := by kernel_rfl
theorem gS:Tryz.prog.globalNamed "strconv.ErrSyntax" = some (Tryz.atoiL_ren.g 15) := by kernel_rfl
theorem gSt:(Tryz.prog.globals[Tryz.atoiL_ren.g 15]?).map (·.type) = some 26 := by kernel_rfl
def lst:List (String × DataW Unit) := [("math/bits.deBruijn32tab",Rows.laid_math_bits_deBruijn32tab),("math/bits.deBruijn64tab",Rows.laid_math_bits_deBruijn64tab),("internal/strconv.uint64pow10",Rows.laid_internal_strconv_uint64pow10),("unicode/utf8.acceptRanges",Rows.laid_unicode_utf8_acceptRanges),("strconv.ErrRange",Rows.laid_strconv_ErrRange),("strconv.ErrSyntax",Rows.laid_strconv_ErrSyntax),("unicode/utf8.first",Rows.laid_unicode_utf8_first)]
theorem facts {l:List (String × DataW Unit)} {W:World} {hd:String × DataW Unit} (hh:(l.filter fun x => x.2.handleName?.isSome) = [hd]) (hl:(l.filter fun x => x.2.handleName?.isNone) = lst) (h:laidMetH Tryz.prog l W):Tb W ∧ Er W := by
 have h0:laidMet Tryz.prog lst W := by
  unfold laidMetH at h
  rw [hl,hh] at h
  exact h.1
 have h2 := h0.tail.tail
 have h4 := h2.tail.tail
 obtain ⟨g,hg⟩ := Option.isSome_iff_exists.1 gT
 have hgt := gTt
 rw [hg] at hgt
 have hT:Tb W := Lib.tabIs_of_head (n := 20) hg hgt Tryz.underlying306 Tryz.underlying285 (by kernel_rfl) (by kernel_rfl) h2
 obtain ⟨a1,s1,hv1,-,-,-⟩ := laid_sentinel h4 gR gRt Tryz.underlying26 rowE Tryz.underlying302 Tryz.underlying304 rfl rfl Tryz.underlying9 cellsE cellsS
 obtain ⟨a2,s2,hv2,-,-,-⟩ := laid_sentinel h4.tail gS gSt Tryz.underlying26 rowE Tryz.underlying302 Tryz.underlying304 rfl rfl Tryz.underlying9 cellsE cellsS
 exact ⟨hT,⟨_,_,hv2⟩,_,_,hv1⟩
end Go.Proofs.YtdmniblonikjlakGreatDoor.Run
