/-
  Texts put together: RunD, RunW, RunY, RunK, RunH, RunV.
-/
import Derived.Test.YtdmniblonikjlakGreatDoorPrR
import Derived.Test.YtdmniblonikjlakGreatDoorPrA
import Derived.Test.YtdmniblonikjlakGreatDoorPrH
import Derived.Test.YtdmniblonikjlakGreatDoorPrB


namespace Go.Proofs.YtdmniblonikjlakGreatDoor.Run
open Go.RowKit
open Vec (Vw)
set_option linter.unusedVariables false
theorem digF_len:∀ (f n:Nat),(digF f n).length ≤ f
 | 0,_ => Nat.le_refl _
 | f + 1,n => by
  unfold digF
  split
  ·simp
  ·have := digF_len f (n / 10)
   simp
   omega
theorem dig_len (n:Nat):(dig n).length ≤ n + 1 := digF_len _ _
theorem dig_ne (n:Nat):dig n ≠ [] := by
 show digF (n + 1) n ≠ []
 unfold digF
 split <;> simp
theorem ten_at {k:Nat} (h:k < 10):(ByteArray.mk #[48,49,50,51,52,53,54,55,56,57]).extract k (k + 1) = tx [UInt8.ofNat (48 + k)] := by
 rcases k with _ | _ | _ | _ | _ | _ | _ | _ | _ | _ | k <;> first | rfl | (exfalso; omega)
theorem ten_size:(ByteArray.mk #[48,49,50,51,52,53,54,55,56,57]).size = 10 := rfl
set_option maxRecDepth 100000 in
theorem digits_any (n:Nat):n ≤ 1000000 → ∀ w:World,Calls Tryz.prog 27 #[.int .i64 (n:Int)] w fun e w' => e = .returned (.string (tx (dig n))) ∧ w' = w := by
 induction n using Nat.strongRecOn with
 | ind n ih =>
  intro hn w
  have hn0:(0:Int) ≤ (n:Int) := by omega
  have hnm:(n:Int) ≤ 1000000 := by omega
  have hts := ten_size
  by_cases h:n < 10
  ·have hlt:(n:Int) < 10 := by omega
   have hx := ten_at h
   obtain ⟨dt,edt⟩:∃ dt,dt = tx [UInt8.ofNat (48 + n)] := ⟨_,rfl⟩
   rw [← edt] at hx
   have hd:Hid (tx (dig n) = dt) := by
    show tx (dig n) = dt
    rw [dig_low h,edt]
   rw [hd.out]
   clear ih edt
   go_enter Tryz.func27,Tryz.ntmps27
   go_wp2
   go_ret
   exact ⟨rfl,rfl⟩
  ·have hge:¬ (n:Int) < 10 := by omega
   obtain ⟨m,em⟩:∃ m,m = n / 10 := ⟨_,rfl⟩
   obtain ⟨k,ek⟩:∃ k,k = n % 10 := ⟨_,rfl⟩
   have hm:(n:Int) / 10 = (m:Int) := by omega
   have hk:(n:Int) % 10 = (k:Int) := by omega
   have hk10:(k:Int) < 10 := by omega
   have hk0:(0:Int) ≤ (k:Int) := by omega
   have hx := ten_at (k := k) (by omega)
   obtain ⟨dt,edt⟩:∃ dt,dt = tx [UInt8.ofNat (48 + k)] := ⟨_,rfl⟩
   rw [← edt] at hx
   obtain ⟨dm,edm⟩:∃ dm,dm = tx (dig m) := ⟨_,rfl⟩
   have hd:Hid (tx (dig n) = dm ++ dt) := by
    show tx (dig n) = dm ++ dt
    rw [dig_high (by omega),← em,← ek,tx_append,edm,edt]
   have hs1:dm.size ≤ 1000001 := by
    rw [edm,tx_size]
    have := dig_len m
    omega
   have hs2:dt.size = 1 := by rw [edt]; rfl
   rw [hd.out]
   have IH:Hid (∀ w:World,Calls Tryz.prog 27 #[.int .i64 (m:Int)] w fun e w' => e = .returned (.string dm) ∧ w' = w) := by
    rw [edm]
    exact ih m (by omega) (by omega)
   clear ih edt edm em ek
   go_enter Tryz.func27,Tryz.ntmps27
   go_wp2_with fail
   refine (IH.out w).mono ?_
   rintro e w1 ⟨rfl,rfl⟩
   go_wp2
   go_ret
   exact ⟨rfl,rfl⟩
set_option maxRecDepth 100000 in
theorem name_any (e:Int) (h:1 ≤ e ∧ e ≤ 8) (w:World):Calls Tryz.prog 61 #[.int .i64 e] w fun x w' => x = .returned (.string (tx (nm e))) ∧ Below w.heap.size w w' := by
 have h8:e = 1 ∨ e = 2 ∨ e = 3 ∨ e = 4 ∨ e = 5 ∨ e = 6 ∨ e = 7 ∨ e = 8 := by omega
 clear h
 rcases h8 with rfl | rfl | rfl | rfl | rfl | rfl | rfl | rfl
 all_goals
  go_enter Tryz.func61,Tryz.ntmps61
  go_wp2
  go_ret
  exact ⟨rfl,(Below.refl _ _).alloc (Nat.le_refl _) _⟩
theorem done_any (e:Int) (h:0 ≤ e ∧ e ≤ 8) (w:World):Calls Tryz.prog 57 #[.int .i64 e] w fun x w' => x = .returned (.string (tx (done e))) ∧ Below w.heap.size w w' := by
 by_cases h0:e = 0
 ·subst h0
  go_enter Tryz.func57,Tryz.ntmps57
  go_wp2
  go_ret
  exact ⟨rfl,Below.refl _ _⟩
 ·have hne:(e != 0) = true := by simp [h0]
  have HE:Hid (1 ≤ e ∧ e ≤ 8) := ⟨by omega,h.2⟩
  rw [show done e = nm e from if_pos h0]
  clear h
  go_enter Tryz.func57,Tryz.ntmps57
  go_wp2_with fail
  refine (name_any e HE.out w).mono ?_
  rintro x w1 ⟨rfl,hb⟩
  have B1:Hid (Below w.heap.size w w1) := hb
  clear hb
  go_wp2
  go_ret
  exact ⟨rfl,B1.out⟩
end Go.Proofs.YtdmniblonikjlakGreatDoor.Run


namespace Go.Proofs.YtdmniblonikjlakGreatDoor.Run
open Go.RowKit
open Vec (Vw)
open Net (Pk)
set_option linter.unusedVariables false
theorem join_snoc (x:T):∀ ws:List T,join (ws ++ [x]) = if ws = [] then x else join ws ++ 32 :: x
 | [] => rfl
 | [w] => rfl
 | w :: v :: ws => by
  have ih := join_snoc x (v :: ws)
  rw [if_neg (by simp)] at ih ⊢
  show w ++ 32 :: join ((v :: ws) ++ [x]) = (w ++ 32 :: join (v :: ws)) ++ 32 :: x
  rw [ih]
  simp
theorem join_nil {ws:List T} (h:∀ x ∈ ws,x ≠ []):join ws = [] ↔ ws = [] := by
 constructor
 ·intro e
  match ws,e with
  | [],_ => rfl
  | [w],e => exact absurd e (h w (by simp))
  | w :: v :: ws,e => simp [join] at e
 ·rintro rfl
  rfl
theorem none_eq (b:ByteArray):b.toList.isEmpty = decide (bs b = []) := by
 rw [Lib.toList_data]
 show (bs b).isEmpty = _
 cases bs b <;> simp
def Tj (n k:Nat) (f:Nat → T) (b:ByteArray) (i:Nat):Prop := b = tx (join ((List.range i).map f)) ∧ b.size ≤ i * k
theorem Tj.zero (n k:Nat) (f:Nat → T):Tj n k f (ByteArray.mk #[]) 0 := ⟨rfl,Nat.zero_le _⟩
theorem Tj.one {n k:Nat} {f:Nat → T} {b:ByteArray} (h:Tj n k f b 0) (hk:(f 0).length ≤ k):Tj n k f (b ++ tx (f 0)) 1 := by
 obtain ⟨rfl,_⟩ := h
 refine ⟨?_,?_⟩
 ·rw [← tx_append]
  rfl
 ·rw [← tx_append,tx_size]
  simpa [join] using hk
theorem Tj.more {n k:Nat} {f:Nat → T} {b:ByteArray} {i:Nat} (h:Tj n k f b i) (hi:0 < i) (hk:(f i).length + 1 ≤ k):Tj n k f (b ++ ByteArray.mk #[32] ++ tx (f i)) (i + 1) := by
 obtain ⟨hb,hs⟩ := h
 have e:(List.range i).map f ≠ [] := by simp; omega
 refine ⟨?_,?_⟩
 ·rw [List.range_succ,List.map_append,List.map_cons,List.map_nil,join_snoc,if_neg e,tx_append,← hb]
  rw [show (32 :: f i) = [32] ++ f i from rfl,tx_append,← ByteArray.append_assoc]
  rfl
 ·rw [ByteArray.size_append,ByteArray.size_append,tx_size]
  have:(ByteArray.mk #[32]).size = 1 := rfl
  rw [Nat.add_mul]
  omega
def dgs (l:List Int) (i:Nat):T := dig (l.getD i 0).toNat
theorem row_of {l:List Int} {b:ByteArray} (h:Tj l.length 1000002 (dgs l) b l.length):(bs b = [] → row l = [45]) ∧ (bs b ≠ [] → row l = bs b) := by
 have e:bs b = join (l.map fun x => dig x.toNat) := by
  rw [h.1,bs_tx]
  congr 1
  apply List.ext_getElem
  ·simp
  ·intro i h1 h2
   have hi:i < l.length := by simpa using h2
   simp [dgs,List.getD,hi]
 constructor
 ·intro q
  unfold row orNone
  rw [← e,if_pos q]
 ·intro q
  unfold row orNone
  rw [← e,if_neg q]
set_option maxRecDepth 100000 in
set_option maxHeartbeats 4000000 in
theorem row_any (a:Option Addr) (n cap:Nat) (l:List Int) (w:World) (hv:Vw w a n l) (hn:n ≤ 60) (hl:∀ i,i < n → 0 ≤ l.getD i 0 ∧ l.getD i 0 ≤ 1000000):Calls Tryz.prog 64 #[.slice a n cap] w fun e w' => e = .returned (.string (tx (row l))) ∧ w' = w := by
 have HV:Hid (Vw w a n l ∧ ∀ i,i < n → 0 ≤ l.getD i 0 ∧ l.getD i 0 ≤ 1000000) := ⟨hv,hl⟩
 have HN:Hid (n = l.length) := hv.1.symm
 clear hv hl
 go_enter Tryz.func64,Tryz.ntmps64
 go_wp2
 go_loopw [3,4] (fun s y wr => ∃ (i:Nat) (b:ByteArray),i ≤ n ∧ s = .string b ∧ y = .int .i64 (i:Int) ∧ Hid (Tj n 1000002 (dgs l) b i) ∧ w = wr) (fun _ y _ => n - (intOf y).toNat)
 case atStart => exact ⟨0,_,by omega,rfl,rfl,Tj.zero _ _ _,rfl⟩
 case round =>
  obtain ⟨i,b,hi,rfl,rfl,hT,rfl⟩ := hrel
  have hi0:(0:Int) ≤ (i:Int) := by omega
  have hbs:b.size ≤ 60000120 := by
   have := hT.out.2
   have := Nat.mul_le_mul_right 1000002 (Nat.le_trans hi hn)
   omega
  by_cases hlt:(i:Int) < (n:Int)
  ·obtain ⟨bm,om,rfl,_,hc⟩ := HV.out.1.2 (by omega)
   have cm := hc i (by omega)
   obtain ⟨m,em⟩:∃ m:Nat,l.getD i 0 = (m:Int) := ⟨(l.getD i 0).toNat,by have := HV.out.2 i (by omega); omega⟩
   have hm:m ≤ 1000000 := by have := HV.out.2 i (by omega); omega
   rw [em] at cm
   have ED:Hid (dgs l i = dig m) := by show dig (l.getD i 0).toNat = _; rw [em]; rfl
   clear hc em
   obtain ⟨d,ed⟩:∃ d,d = tx (dig m) := ⟨_,rfl⟩
   have hds:d.size ≤ 1000001 := by
    rw [ed,tx_size]
    have := dig_len m
    omega
   have hsp:(ByteArray.mk #[32]).size = 1 := rfl
   have DG:Hid (∀ w:World,Calls Tryz.prog 27 #[.int .i64 (m:Int)] w fun e w' => e = .returned (.string d) ∧ w' = w) := by
    rw [ed]
    exact digits_any m hm
   have LD:Hid ((dgs l i).length + 1 ≤ 1000002 ∧ d = tx (dgs l i)) := by
    refine ⟨?_,by rw [ED.out]; exact ed⟩
    rw [ED.out]
    have := dig_len m
    omega
   clear ed
   by_cases hz:i = 0
   ·subst hz
    rw [Nat.add_zero] at cm
    go_wp2_with fail
    refine (DG.out w).mono ?_
    rintro e w1 ⟨rfl,rfl⟩
    go_wp2
    go_roundw
    case rel => exact ⟨1,_,by omega,rfl,rfl,by rw [LD.out.2]; exact hT.out.one (by have := LD.out.1; omega),by first | rfl | trivial⟩
    case measure => simp [intOf]; omega
   ·have hpos:(0:Int) < (i:Int) := by omega
    go_wp2_with fail
    refine (DG.out w).mono ?_
    rintro e w1 ⟨rfl,rfl⟩
    go_wp2
    go_roundw
    case rel => exact ⟨i + 1,_,by omega,rfl,by go_num,by rw [LD.out.2]; exact hT.out.more (by omega) LD.out.1,by first | rfl | trivial⟩
    case measure => simp [intOf]; omega
  ·have hin:i = l.length := by have := HN.out; omega
   obtain ⟨r0,r1⟩ := row_of (l := l) (b := b) (by have := hT.out; rw [HN.out,hin] at this; exact this)
   have hne := none_eq b
   have HR:Hid ((bs b = [] → row l = [45]) ∧ (bs b ≠ [] → row l = bs b)) := ⟨r0,r1⟩
   clear r0 r1
   by_cases hz:bs b = []
   ·have HZ:Hid (row l = [45]) := HR.out.1 hz
    rw [decide_eq_true hz] at hne
    clear hz
    go_wp2
    go_ret
    exact ⟨by rw [HZ.out]; rfl,rfl⟩
   ·have HZ:Hid (tx (row l) = b) := by show _ = _; rw [HR.out.2 hz,tx_bs]
    rw [decide_eq_false hz] at hne
    clear hz
    go_wp2
    go_ret
    exact ⟨by rw [HZ.out]; rfl,rfl⟩
end Go.Proofs.YtdmniblonikjlakGreatDoor.Run


namespace Go.Proofs.YtdmniblonikjlakGreatDoor.Run
open Go.RowKit
open Vec (Vw)
open Net (Pk)
set_option linter.unusedVariables false
theorem told_any (a:Option Addr) (n cap:Nat) (l:List Int) (e:Int) (w:World) (he:0 ≤ e ∧ e ≤ 8) (hv:Vw w a n l) (hn:n ≤ 60) (hl:∀ i,i < n → 0 ≤ l.getD i 0 ∧ l.getD i 0 ≤ 1000000):Calls Tryz.prog 59 #[.slice a n cap,.int .i64 e] w fun x w' => x = .returned (.string (tx (told l e))) ∧ Below w.heap.size w w' := by
 by_cases h0:e = 0
 ·subst h0
  have HR:Hid (∀ w',w' = w → Calls Tryz.prog 64 #[.slice a n cap] w' fun x w2 => x = .returned (.string (tx (row l))) ∧ w2 = w') := by
   rintro w' rfl
   exact row_any a n cap l w' hv hn hl
  clear he hv hn hl
  go_enter Tryz.func59,Tryz.ntmps59
  go_wp2_with fail
  refine (HR.out w rfl).mono ?_
  rintro x w1 ⟨rfl,rfl⟩
  go_wp2
  go_ret
  exact ⟨rfl,Below.refl _ _⟩
 ·have hne:(e != 0) = true := by simp [h0]
  have HE:Hid (1 ≤ e ∧ e ≤ 8) := ⟨by omega,he.2⟩
  have ET:Hid (told l e = nm e) := if_pos h0
  clear he hv hn hl
  go_enter Tryz.func59,Tryz.ntmps59
  go_wp2_with fail
  refine (name_any e HE.out w).mono ?_
  rintro x w1 ⟨rfl,hb⟩
  have B1:Hid (Below w.heap.size w w1) := hb
  clear hb
  go_wp2
  go_ret
  exact ⟨by rw [ET.out]; rfl,B1.out⟩
set_option maxRecDepth 100000 in
theorem faces_any (f c t:Bool) (w:World):Calls Tryz.prog 68 #[.agg #[.bool f,.bool c,.bool t]] w fun x w' => x = .returned (.string (tx (facesT f c t))) ∧ Below w.heap.size w w' := by
 have e0:(ByteArray.mk #[]) ++ (ByteArray.mk #[32,102,105,102,111]) = (ByteArray.mk #[32,102,105,102,111]) := by decide
 have e1:(ByteArray.mk #[]) ++ (ByteArray.mk #[32,99,97,117,115,97,108]) = (ByteArray.mk #[32,99,97,117,115,97,108]) := by decide
 have e2:(ByteArray.mk #[]) ++ (ByteArray.mk #[32,116,111,116,97,108]) = (ByteArray.mk #[32,116,111,116,97,108]) := by decide
 have e3:(ByteArray.mk #[32,102,105,102,111]) ++ (ByteArray.mk #[32,99,97,117,115,97,108]) = (ByteArray.mk #[32,102,105,102,111,32,99,97,117,115,97,108]) := by decide
 have e4:(ByteArray.mk #[32,102,105,102,111]) ++ (ByteArray.mk #[32,116,111,116,97,108]) = (ByteArray.mk #[32,102,105,102,111,32,116,111,116,97,108]) := by decide
 have e5:(ByteArray.mk #[32,99,97,117,115,97,108]) ++ (ByteArray.mk #[32,116,111,116,97,108]) = (ByteArray.mk #[32,99,97,117,115,97,108,32,116,111,116,97,108]) := by decide
 have e6:(ByteArray.mk #[32,102,105,102,111,32,99,97,117,115,97,108]) ++ (ByteArray.mk #[32,116,111,116,97,108]) = (ByteArray.mk #[32,102,105,102,111,32,99,97,117,115,97,108,32,116,111,116,97,108]) := by decide
 have n0:(ByteArray.mk #[32,102,105,102,111]).toList.isEmpty = false := by rw [none_eq]; rfl
 have z0:(ByteArray.mk #[32,102,105,102,111]).size = 5 := rfl
 have x0:(ByteArray.mk #[32,102,105,102,111]).extract 1 5 = (ByteArray.mk #[102,105,102,111]) := by decide
 have n1:(ByteArray.mk #[32,99,97,117,115,97,108]).toList.isEmpty = false := by rw [none_eq]; rfl
 have z1:(ByteArray.mk #[32,99,97,117,115,97,108]).size = 7 := rfl
 have x1:(ByteArray.mk #[32,99,97,117,115,97,108]).extract 1 7 = (ByteArray.mk #[99,97,117,115,97,108]) := by decide
 have n2:(ByteArray.mk #[32,116,111,116,97,108]).toList.isEmpty = false := by rw [none_eq]; rfl
 have z2:(ByteArray.mk #[32,116,111,116,97,108]).size = 6 := rfl
 have x2:(ByteArray.mk #[32,116,111,116,97,108]).extract 1 6 = (ByteArray.mk #[116,111,116,97,108]) := by decide
 have n3:(ByteArray.mk #[32,102,105,102,111,32,99,97,117,115,97,108]).toList.isEmpty = false := by rw [none_eq]; rfl
 have z3:(ByteArray.mk #[32,102,105,102,111,32,99,97,117,115,97,108]).size = 12 := rfl
 have x3:(ByteArray.mk #[32,102,105,102,111,32,99,97,117,115,97,108]).extract 1 12 = (ByteArray.mk #[102,105,102,111,32,99,97,117,115,97,108]) := by decide
 have n4:(ByteArray.mk #[32,102,105,102,111,32,116,111,116,97,108]).toList.isEmpty = false := by rw [none_eq]; rfl
 have z4:(ByteArray.mk #[32,102,105,102,111,32,116,111,116,97,108]).size = 11 := rfl
 have x4:(ByteArray.mk #[32,102,105,102,111,32,116,111,116,97,108]).extract 1 11 = (ByteArray.mk #[102,105,102,111,32,116,111,116,97,108]) := by decide
 have n5:(ByteArray.mk #[32,99,97,117,115,97,108,32,116,111,116,97,108]).toList.isEmpty = false := by rw [none_eq]; rfl
 have z5:(ByteArray.mk #[32,99,97,117,115,97,108,32,116,111,116,97,108]).size = 13 := rfl
 have x5:(ByteArray.mk #[32,99,97,117,115,97,108,32,116,111,116,97,108]).extract 1 13 = (ByteArray.mk #[99,97,117,115,97,108,32,116,111,116,97,108]) := by decide
 have n6:(ByteArray.mk #[32,102,105,102,111,32,99,97,117,115,97,108,32,116,111,116,97,108]).toList.isEmpty = false := by rw [none_eq]; rfl
 have z6:(ByteArray.mk #[32,102,105,102,111,32,99,97,117,115,97,108,32,116,111,116,97,108]).size = 18 := rfl
 have x6:(ByteArray.mk #[32,102,105,102,111,32,99,97,117,115,97,108,32,116,111,116,97,108]).extract 1 18 = (ByteArray.mk #[102,105,102,111,32,99,97,117,115,97,108,32,116,111,116,97,108]) := by decide
 have n9:(ByteArray.mk #[]).toList.isEmpty = true := by rw [none_eq]; rfl
 cases f <;> cases c <;> cases t
 all_goals
  go_enter Tryz.func68,Tryz.ntmps68
  go_wp2
  go_ret
  exact ⟨rfl,(Below.refl _ _).alloc (Nat.le_refl _) _⟩
def P3 (w:World) (a:Option Addr) (n:Nat) (l:List Pk):Prop := l.length = n ∧ ∀ k,k < n → ∃ b off,a = some ⟨b,off,none⟩ ∧ w.cell? ⟨b,off + k * 3,none⟩ = some (.int .i64 (Net.pk l k).1) ∧ w.cell? ⟨b,off + k * 3 + 1,none⟩ = some (.int .i64 (Net.pk l k).2.1) ∧ w.cell? ⟨b,off + k * 3 + 2,none⟩ = some (.int .i64 (Net.pk l k).2.2)
theorem Tj.step {n k:Nat} {f:Nat → T} {b b':ByteArray} {i:Nat} (h:Tj n k f b i) (e:bs b' = bs b ++ ((if i = 0 then [] else [32]) ++ f i)) (hk:(f i).length + 1 ≤ k):Tj n k f b' (i + 1) := by
 obtain ⟨hb,hs⟩ := h
 have hs':b'.size ≤ (i + 1) * k := by
  have := congrArg List.length e
  rw [bs_len,List.length_append,bs_len,List.length_append] at this
  rw [Nat.add_mul]
  split at this <;> simp at this <;> omega
 refine ⟨bs_inj ?_,hs'⟩
 rw [e,bs_tx,hb,bs_tx,List.range_succ,List.map_append,List.map_cons,List.map_nil,join_snoc]
 by_cases hi:i = 0
 ·subst hi
  rfl
 ·rw [if_neg hi,if_neg (by simp; omega)]
  rfl
def pkF (l:List Pk) (i:Nat):T := pkT (Net.pk l i)
theorem way_of {l:List Pk} {b:ByteArray} (h:Tj l.length 3000010 (pkF l) b l.length):(bs b = [] → way l = [45]) ∧ (bs b ≠ [] → way l = bs b) := by
 have e:bs b = join (l.map pkT) := by
  rw [h.1,bs_tx]
  congr 1
  apply List.ext_getElem
  ·simp
  ·intro i h1 h2
   have hi:i < l.length := by simpa using h2
   simp [pkF,Net.pk,List.getD,hi]
 constructor
 ·intro q
  unfold way orNone
  rw [← e,if_pos q]
 ·intro q
  unfold way orNone
  rw [← e,if_neg q]
set_option maxRecDepth 100000 in
set_option maxHeartbeats 4000000 in
theorem way_any (a:Option Addr) (n cap:Nat) (l:List Pk) (w:World) (hv:P3 w a n l) (hn:n ≤ 60) (hl:∀ i,i < n → (0 ≤ (Net.pk l i).1 ∧ (Net.pk l i).1 ≤ 1000000) ∧ (0 ≤ (Net.pk l i).2.1 ∧ (Net.pk l i).2.1 ≤ 1000000) ∧ (0 ≤ (Net.pk l i).2.2 ∧ (Net.pk l i).2.2 ≤ 1000000)):Calls Tryz.prog 67 #[.slice a n cap] w fun e w' => e = .returned (.string (tx (way l))) ∧ w' = w := by
 have HV:Hid (P3 w a n l ∧ ∀ i,i < n → (0 ≤ (Net.pk l i).1 ∧ (Net.pk l i).1 ≤ 1000000) ∧ (0 ≤ (Net.pk l i).2.1 ∧ (Net.pk l i).2.1 ≤ 1000000) ∧ (0 ≤ (Net.pk l i).2.2 ∧ (Net.pk l i).2.2 ≤ 1000000)) := ⟨hv,hl⟩
 have HN:Hid (n = l.length) := hv.1.symm
 clear hv hl
 go_enter Tryz.func67,Tryz.ntmps67
 go_wp2
 go_loopw [3,4] (fun s y wr => ∃ (i:Nat) (b:ByteArray),i ≤ n ∧ s = .string b ∧ y = .int .i64 (i:Int) ∧ Hid (Tj n 3000010 (pkF l) b i) ∧ w = wr) (fun _ y _ => n - (intOf y).toNat)
 case atStart => exact ⟨0,_,by omega,rfl,rfl,Tj.zero _ _ _,rfl⟩
 case round =>
  obtain ⟨i,b,hi,rfl,rfl,hT,rfl⟩ := hrel
  have hi0:(0:Int) ≤ (i:Int) := by omega
  have hbs:b.size ≤ 180000600 := by
   have := hT.out.2
   have := Nat.mul_le_mul_right 3000010 (Nat.le_trans hi hn)
   omega
  by_cases hlt:(i:Int) < (n:Int)
  ·obtain ⟨bm,om,rfl,c0,c1,c2⟩ := HV.out.1.2 i (by omega)
   obtain ⟨g0,g1,g2⟩ := HV.out.2 i (by omega)
   obtain ⟨m0,e0⟩:∃ m:Nat,(Net.pk l i).1 = (m:Int) := ⟨(Net.pk l i).1.toNat,by omega⟩
   obtain ⟨m1,e1⟩:∃ m:Nat,(Net.pk l i).2.1 = (m:Int) := ⟨(Net.pk l i).2.1.toNat,by omega⟩
   obtain ⟨m2,e2⟩:∃ m:Nat,(Net.pk l i).2.2 = (m:Int) := ⟨(Net.pk l i).2.2.toNat,by omega⟩
   rw [e0] at c0 g0
   rw [e1] at c1 g1
   rw [e2] at c2 g2
   have EP:Hid (pkF l i = dig m0 ++ 62 :: dig m1 ++ 58 :: dig m2) := by
    show pkT (Net.pk l i) = _
    unfold pkT
    rw [e0,e1,e2]
    rfl
   clear e0 e1 e2
   obtain ⟨d0,f0⟩:∃ d,d = tx (dig m0) := ⟨_,rfl⟩
   obtain ⟨d1,f1⟩:∃ d,d = tx (dig m1) := ⟨_,rfl⟩
   obtain ⟨d2,f2⟩:∃ d,d = tx (dig m2) := ⟨_,rfl⟩
   have l0 := dig_len m0
   have l1 := dig_len m1
   have l2 := dig_len m2
   have s0:d0.size ≤ 1000001 := by rw [f0,tx_size]; omega
   have s1:d1.size ≤ 1000001 := by rw [f1,tx_size]; omega
   have s2:d2.size ≤ 1000001 := by rw [f2,tx_size]; omega
   have t0:(ByteArray.mk #[32]).size = 1 := rfl
   have t1:(ByteArray.mk #[62]).size = 1 := rfl
   have t2:(ByteArray.mk #[58]).size = 1 := rfl
   have D0:Hid (∀ w:World,Calls Tryz.prog 27 #[.int .i64 (m0:Int)] w fun e w' => e = .returned (.string d0) ∧ w' = w) := by rw [f0]; exact digits_any m0 (by omega)
   have D1:Hid (∀ w:World,Calls Tryz.prog 27 #[.int .i64 (m1:Int)] w fun e w' => e = .returned (.string d1) ∧ w' = w) := by rw [f1]; exact digits_any m1 (by omega)
   have D2:Hid (∀ w:World,Calls Tryz.prog 27 #[.int .i64 (m2:Int)] w fun e w' => e = .returned (.string d2) ∧ w' = w) := by rw [f2]; exact digits_any m2 (by omega)
   have LP:Hid ((pkF l i).length + 1 ≤ 3000010 ∧ ∀ x:ByteArray,bs (x ++ d0 ++ ByteArray.mk #[62] ++ d1 ++ ByteArray.mk #[58] ++ d2) = bs x ++ pkF l i) := by
    refine ⟨?_,fun x => ?_⟩
    ·rw [EP.out]
     simp
     omega
    ·rw [EP.out,bs_append,bs_append,bs_append,bs_append,bs_append,f0,f1,f2,bs_tx,bs_tx,bs_tx]
     show bs x ++ dig m0 ++ [62] ++ dig m1 ++ [58] ++ dig m2 = _
     simp
   clear f0 f1 f2 l0 l1 l2 g0 g1 g2
   by_cases hz:i = 0
   ·subst hz
    rw [Nat.zero_mul,Nat.add_zero] at c0 c1 c2
    go_wp2_with fail
    refine (D0.out w).mono ?_
    rintro e w1 ⟨rfl,rfl⟩
    go_wp2_with fail
    refine (D1.out w1).mono ?_
    rintro e w2 ⟨rfl,rfl⟩
    go_wp2_with fail
    refine (D2.out w2).mono ?_
    rintro e w3 ⟨rfl,rfl⟩
    go_wp2
    go_roundw
    case rel => exact ⟨1,_,by omega,rfl,rfl,hT.out.step (LP.out.2 b) LP.out.1,by first | rfl | trivial⟩
    case measure => simp [intOf]; omega
   ·have hpos:(0:Int) < (i:Int) := by omega
    have LQ:Hid (bs (b ++ ByteArray.mk #[32] ++ d0 ++ ByteArray.mk #[62] ++ d1 ++ ByteArray.mk #[58] ++ d2) = bs b ++ ((if i = 0 then [] else [32]) ++ pkF l i)) := by
     show _ = _
     rw [LP.out.2,bs_append,if_neg hz,List.append_assoc]
     rfl
    go_wp2_with fail
    refine (D0.out w).mono ?_
    rintro e w1 ⟨rfl,rfl⟩
    go_wp2_with fail
    refine (D1.out w1).mono ?_
    rintro e w2 ⟨rfl,rfl⟩
    go_wp2_with fail
    refine (D2.out w2).mono ?_
    rintro e w3 ⟨rfl,rfl⟩
    go_wp2
    go_roundw
    case rel => exact ⟨i + 1,_,by omega,rfl,by go_num,hT.out.step LQ.out LP.out.1,by first | rfl | trivial⟩
    case measure => simp [intOf]; omega
  ·have hin:i = l.length := by have := HN.out; omega
   obtain ⟨r0,r1⟩ := way_of (l := l) (b := b) (by have := hT.out; rw [HN.out,hin] at this; exact this)
   have hne := none_eq b
   have HR:Hid ((bs b = [] → way l = [45]) ∧ (bs b ≠ [] → way l = bs b)) := ⟨r0,r1⟩
   clear r0 r1
   by_cases hz:bs b = []
   ·have HZ:Hid (way l = [45]) := HR.out.1 hz
    rw [decide_eq_true hz] at hne
    clear hz
    go_wp2
    go_ret
    exact ⟨by rw [HZ.out]; rfl,rfl⟩
   ·have HZ:Hid (tx (way l) = b) := by show _ = _; rw [HR.out.2 hz,tx_bs]
    rw [decide_eq_false hz] at hne
    clear hz
    go_wp2
    go_ret
    exact ⟨by rw [HZ.out]; rfl,rfl⟩
end Go.Proofs.YtdmniblonikjlakGreatDoor.Run


namespace Go.Proofs.YtdmniblonikjlakGreatDoor.Run
open Go.RowKit
open Fif (own_lt own_block own_form own_mono)
set_option linter.unusedVariables false
def cutF (c:UInt8) (acc:T):T → List T
 | [] => [acc]
 | x :: l => if x = c then acc :: cutF c [] l else cutF c (acc ++ [x]) l
theorem cutF_eq (c:UInt8):∀ (l acc:T),cutF c acc l = match cut c l with
  | [] => [acc]
  | p :: ps => (acc ++ p) :: ps
 | [],acc => by simp [cutF,cut]
 | x :: l,acc => by
  unfold cutF cut
  by_cases h:x = c
  ·rw [if_pos h,if_pos h,cutF_eq c l []]
   have hne := cut_ne c l
   match e:cut c l,hne with
   | p :: ps,_ => simp
  ·rw [if_neg h,if_neg h,cutF_eq c l (acc ++ [x])]
   have hne := cut_ne c l
   match e:cut c l,hne with
   | p :: ps,_ => simp
theorem cutF_nil (c:UInt8) (l:T):cutF c [] l = cut c l := by
 rw [cutF_eq]
 have hne := cut_ne c l
 match e:cut c l,hne with
 | p :: ps,_ => rfl
theorem cut_len (c:UInt8):∀ l:T,(cut c l).length ≤ l.length + 1
 | [] => by simp [cut]
 | x :: l => by
  have := cut_len c l
  unfold cut
  split
  ·simp; omega
  ·split <;> simp_all
   omega
theorem infoStr:(Tryz.prog.info? 9).map (fun i => (i.zero,i.size,i.bytes)) = some (some (.string .empty),1,16) := by kernel_rfl
theorem info_str:∃ i,Tryz.prog.info? 9 = some i ∧ i.zero = some (.string .empty) ∧ i.size = 1 ∧ i.bytes = 16 := by
 obtain ⟨i,hi,hzz⟩ := Option.map_eq_some_iff.1 infoStr
 simp only [Prod.mk.injEq] at hzz
 exact ⟨i,hi,hzz.1,hzz.2.1,hzz.2.2⟩
def So (w:World) (base:Nat) (v:Value) (ps:List T):Prop := w.ownsRow base 9 1 v ps.length (ps.map fun p => .string (tx p))
theorem So.form {w:World} {base:Nat} {v:Value} {ps:List T} (h:So w base v ps):∃ q c,v = .slice q ps.length c ∧ ps.length ≤ c ∧ c ≤ maxLen ∧ ∀ i,i < ps.length → ∃ g,q = some ⟨g,0,none⟩ ∧ base ≤ g ∧ g < w.heap.size ∧ w.cell? ⟨g,i,none⟩ = some (.string (tx (ps.getD i []))) := by
 rcases h.2 with ⟨h2,h3⟩ | ⟨g,cap,cur,hv,hb,hh,hc,hm,hsz,ht⟩
 ·exact ⟨none,0,by rw [h3]; exact h2,by omega,by unfold maxLen; omega,fun i hi => by omega⟩
 ·refine ⟨_,cap,hv,hc,hm,fun i hi => ⟨g,rfl,hb,?_,?_⟩⟩
  ·rcases Nat.lt_or_ge g w.heap.size with hlt | hge
   ·exact hlt
   ·rw [Array.getElem?_eq_none hge] at hh; cases hh
  ·have e:(ps.map fun p => Value.string (tx p))[i]? = some (.string (tx (ps.getD i []))) := by
    rw [List.getElem?_map,List.getElem?_eq_getElem hi,List.getD,List.getElem?_eq_getElem hi]
    rfl
   rw [← ht,Nat.mul_one,List.getElem?_take_of_lt hi] at e
   simp only [World.cell?,hh]
   simpa using e
theorem index_at {t:ByteArray} {i:Nat} {a:Int} (e:a = (i:Int)) (h:i < t.size) (W:World):(Instr.index 9 (.string t) (.int .i64 a)).run Tryz.prog W = .ok (.int .u8 ((t[i]'h).toNat:Int)) W := by
 subst e
 rw [run_index_string W 9 t .i64 (i:Int) Tryz.underlying9,dif_pos ⟨by omega,by omega⟩]
 simp only [Int.toNat_natCast]
theorem str_one (t:ByteArray):∀ u ∈ [Value.string t],u.oneCell' = true := by
 intro u hu
 obtain rfl := List.mem_singleton.1 hu
 rfl
theorem new_str (w:World) (B:Nat) (hB:B = w.heap.size) (x:Value) (t:TypeId):∀ j u,[x][j]? = some u → (w.alloc (.cells #[x] t)).cell? ((⟨B,0,none⟩:Addr).add j) = some u := by
 subst hB
 intro j u hj
 rw [Addr.add_lit,Nat.zero_add]
 rcases j with _ | j
 ·simpa using hj
 ·simp at hj
theorem app_str (w:World) {ops:Array Oper} {rest:List Oper} {o:Oper} {a:Act} {Q:Exit → Act → World → Prop} (hgd:o.guard = none) (s x:Operand)
  (ho:o.op = .call { callee := .builtin .append,args := #[s,x],argTypes := #[59,59] }) (base:Nat) (v:Value) (ps:List T) (hs:a.eval s = v) (hown:So w base v ps)
  (t:ByteArray) (g c:Nat) (hx:a.eval x = .slice (some ⟨g,0,none⟩) 1 c) (hc:∀ j u,[Value.string t][j]? = some u → w.cell? ((⟨g,0,none⟩:Addr).add j) = some u)
  (hsz:ps.length ≤ 1000002) (hbase:base ≤ w.heap.size)
  (h:∀ q9 c9 w',So w' base (.slice q9 (ps.length + 1) c9) (ps ++ [bs t]) → w.grownBy w' v.ownBlock → wpList Tryz.prog ops Q rest (a.put o.dst (.slice q9 (ps.length + 1) c9)) w'):wpList Tryz.prog ops Q (o :: rest) a w := by
 obtain ⟨i,h1,h2,h3,h4⟩ := info_str
 refine wpList_append_lies w hgd s x 59 ho base 9 i (.string .empty) 1 16 Tryz.underlying59 h1 h2 h3 h4 rfl (by decide) v ps.length (ps.map fun p => .string (tx p)) hs hown ⟨g,0,none⟩ 1 c [.string t] hx rfl hc (str_one t) (by decide) (by unfold maxLen; omega) (by omega) hbase _ rfl ?_
 intro g9 c9 w' ho' hg _ _
 refine h _ c9 w' ?_ hg
 unfold So
 rw [List.length_append,List.map_append,List.map_cons,List.map_nil,tx_bs]
 exact ho'
structure CT (w wr:World) (t:ByteArray) (c:UInt8) (v:Value) (i f:Nat):Prop where
 ex:∃ ps,So wr w.heap.size v ps ∧ ps ++ cutF c (((bs t).take i).drop f) ((bs t).drop i) = cut c (bs t) ∧ ps.length ≤ i
 bel:Below w.heap.size w wr
 le:f ≤ i ∧ i ≤ t.size
theorem drop_at {t:ByteArray} {i:Nat} (h:i < t.size):(bs t).drop i = (t[i]'h) :: (bs t).drop (i + 1) := by
 have hl:i < (bs t).length := by rw [bs_len]; exact h
 rw [List.drop_eq_getElem_cons hl]
 congr 1
theorem take_at {t:ByteArray} {i f:Nat} (h:i < t.size) (hf:f ≤ i):((bs t).take (i + 1)).drop f = ((bs t).take i).drop f ++ [t[i]'h] := by
 have hl:i < (bs t).length := by rw [bs_len]; exact h
 rw [List.take_add_one,bs_get h,List.drop_append_of_le_length (by rw [List.length_take]; omega)]
 simp
set_option maxRecDepth 100000 in
set_option maxHeartbeats 4000000 in
theorem cut_any (t:ByteArray) (c:UInt8) (ht:t.size ≤ 1000000) (w:World):Calls Tryz.prog 24 #[.string t,.int .u8 (c.toNat:Int)] w fun e w' => ∃ v,e = .returned v ∧ So w' w.heap.size v (cut c (bs t)) ∧ Below w.heap.size w w' := by
 have C0:Hid (CT w w t c (.slice none 0 0) 0 0) := by
  refine ⟨⟨[],World.ownsRow_nil _ _ _ _,?_,Nat.le_refl _⟩,Below.refl _ _,Nat.le_refl _,Nat.zero_le _⟩
  show cutF c [] (bs t) = _
  exact cutF_nil c _
 obtain ⟨n,en⟩:∃ n,n = t.size := ⟨_,rfl⟩
 have HN:Hid (n = t.size) := en
 rw [← en] at ht
 have hsz:(t.size:Int) = (n:Int) := by rw [en]
 clear en
 go_enter Tryz.func24,Tryz.ntmps24
 go_wp2
 go_loopw [5,6,7] (fun v y z wr => ∃ i f:Nat,i ≤ n ∧ f ≤ i ∧ y = .int .i64 (f:Int) ∧ z = .int .i64 (i:Int) ∧ Hid (CT w wr t c v i f)) (fun _ _ z _ => n - (intOf z).toNat)
 case atStart => exact ⟨0,0,by omega,by omega,rfl,rfl,C0.out⟩
 case round =>
  clear C0
  obtain ⟨i,f,hi,hf,rfl,rfl,hC⟩ := hrel
  have hi0:(0:Int) ≤ (i:Int) := by omega
  have hf0:(0:Int) ≤ (f:Int) := by omega
  have hfi:(f:Int) ≤ (i:Int) := by omega
  by_cases hlt:(i:Int) < (n:Int)
  ·have hil:i < t.size := by have := HN.out; omega
   obtain ⟨x,ex⟩:∃ x,x = t[i]'hil := ⟨_,rfl⟩
   have i0 := index_at (t := t) (i := i) (a := (i:Int)) rfl hil
   rw [← ex] at i0
   obtain ⟨⟨ps,ho,he,hps⟩,hb,hle⟩ := hC.out
   have he2:cutF c (((bs t).take i).drop f) ((bs t).drop i) = if x = c then ((bs t).take i).drop f :: cutF c [] ((bs t).drop (i + 1)) else cutF c (((bs t).take (i + 1)).drop f) ((bs t).drop (i + 1)) := by
    rw [drop_at hil,take_at hil hf,← ex]
    rfl
   rw [he2] at he
   have HB:Hid (Below w.heap.size w wr) := hb
   have hit:i ≤ t.size := Nat.le_of_lt hil
   by_cases hx:x = c
   ·rw [if_pos hx] at he
    have heq:((x.toNat:Int) == (c.toNat:Int)) = true := by rw [hx]; simp
    obtain ⟨q5,c5,rfl⟩ := own_form ho
    have HO:Hid (So wr w.heap.size (.slice q5 ps.length c5) ps) := ho
    have HE:Hid (ps ++ [bs (t.extract f i)] ++ cutF c (((bs t).take (i + 1)).drop (i + 1)) ((bs t).drop (i + 1)) = cut c (bs t)) := by
     show _ = _
     rw [← he,bs_extract,List.append_assoc]
     have:((bs t).take (i + 1)).drop (i + 1) = [] := List.drop_eq_nil_of_le (by rw [List.length_take]; omega)
     rw [this]
     rfl
    obtain ⟨pt,ept⟩:∃ pt,pt = t.extract f i := ⟨_,rfl⟩
    have hsl:∀ W:World,(Instr.slice 9 (.string t) (some (.int .i64 (f:Int))) (some (.int .i64 (i:Int))) none).run Tryz.prog W = .ok (.string pt) W := fun W => by
     rw [run_slice_string W 9 t .i64 .i64 (f:Int) (i:Int) Tryz.underlying9 hf0 hfi (by omega),ept]
     rfl
    rw [← ept] at HE
    have hi9:(i:Int) ≤ 1000000 := by omega
    clear ho he he2 hb hx ept ex hC
    go_wp2_with (at_builtin; go_loud (refine app_str _ rfl _ _ rfl w.heap.size _ ps rfl (own_block HO.out fun k hk => Deep.blk_alloc_lt _ _ _ (own_lt HO.out k hk).2) pt wr.heap.size 1 rfl (new_str _ _ rfl _ _) (by omega) (by have := HB.out.size; simp; omega) ?_; intro q9 c9 w9 ho9 hg9; have O9:Hid (So w9 w.heap.size (.slice q9 (ps.length + 1) c9) (ps ++ [bs pt])) := ho9; have B9:Hid (Below w.heap.size w w9) := (HB.out.alloc HB.out.size _).grown hg9 (by have := HB.out.size; simp; omega) (fun k hk => (own_lt HO.out k hk).1); clear ho9 hg9))
    go_roundw
    case rel => exact ⟨i + 1,i + 1,by omega,by omega,by go_num,by go_num,⟨_,O9.out,HE.out,by rw [List.length_append,List.length_singleton]; omega⟩,B9.out,Nat.le_refl _,by omega⟩
    case measure => simp [intOf]; omega
   ·rw [if_neg hx] at he
    have heq:((x.toNat:Int) == (c.toNat:Int)) = false := by
     rw [beq_eq_false_iff_ne]
     intro q
     exact hx (UInt8.toNat_inj.1 (by omega))
    have HC9:Hid (CT w wr t c u5 (i + 1) f) := ⟨⟨ps,ho,he,by omega⟩,hb,by omega,by omega⟩
    have hi9:(i:Int) ≤ 1000000 := by omega
    clear ho he he2 hb hx ex hC
    go_wp2
    go_roundw
    case rel => exact ⟨i + 1,f,by omega,by omega,rfl,by go_num,HC9.out⟩
    case measure => simp [intOf]; omega
  ·have hin:i = n := by omega
   obtain ⟨⟨ps,ho,he,hps⟩,hb,hle⟩ := hC.out
   have HB:Hid (Below w.heap.size w wr) := hb
   obtain ⟨q5,c5,rfl⟩ := own_form ho
   have HO:Hid (So wr w.heap.size (.slice q5 ps.length c5) ps) := ho
   obtain ⟨pt,ept⟩:∃ pt,pt = t.extract f t.size := ⟨_,rfl⟩
   have HE:Hid (ps ++ [bs pt] = cut c (bs t)) := by
    show _ = _
    rw [← he,ept,bs_extract,hin,HN.out]
    have e1:(bs t).drop t.size = [] := List.drop_eq_nil_of_le (by rw [bs_len]; omega)
    rw [e1]
    rfl
   have hsl:∀ W:World,(Instr.slice 9 (.string t) (some (.int .i64 (f:Int))) none none).run Tryz.prog W = .ok (.string pt) W := fun W => by
    rw [run_slice_string_from_if W 9 t .i64 (f:Int) Tryz.underlying9,if_pos ⟨hf0,by omega⟩,ept]
    rfl
   have hp9:ps.length ≤ 1000000 := by omega
   clear ho he hb hC ept
   go_wp2_with (at_builtin; go_loud (refine app_str _ rfl _ _ rfl w.heap.size _ ps rfl (own_block HO.out fun k hk => Deep.blk_alloc_lt _ _ _ (own_lt HO.out k hk).2) pt wr.heap.size 1 rfl (new_str _ _ rfl _ _) (by omega) (by have := HB.out.size; simp; omega) ?_; intro q9 c9 w9 ho9 hg9; have O9:Hid (So w9 w.heap.size (.slice q9 (ps.length + 1) c9) (ps ++ [bs pt])) := ho9; have B9:Hid (Below w.heap.size w w9) := (HB.out.alloc HB.out.size _).grown hg9 (by have := HB.out.size; simp; omega) (fun k hk => (own_lt HO.out k hk).1); clear ho9 hg9))
   go_ret
   exact ⟨_,rfl,by rw [← HE.out]; exact O9.out,B9.out⟩
end Go.Proofs.YtdmniblonikjlakGreatDoor.Run


namespace Go.Proofs.YtdmniblonikjlakGreatDoor.Run
open Go.RowKit
open Cas (G GI sayC say giveC giveW give drop twice len60)
open His (hrd)
set_option linter.unusedVariables false
theorem join_len (k:Nat):∀ ws:List T,(∀ x ∈ ws,x.length + 1 ≤ k) → (join ws).length ≤ ws.length * k
 | [],_ => by simp [join]
 | [x],h => by
  have := h x (by simp)
  show x.length ≤ 1 * k
  omega
 | x :: y :: ws,h => by
  have h1 := h x (by simp)
  have ih := join_len k (y :: ws) fun z hz => h z (by simp at hz ⊢; exact .inr hz)
  show (x ++ 32 :: join (y :: ws)).length ≤ (ws.length + 1 + 1) * k
  rw [List.length_append,List.length_cons,Nat.add_mul (ws.length + 1)]
  simp only [List.length_cons] at ih
  omega
theorem orNone_len {t:T} {k:Nat} (h:t.length ≤ k) (h1:1 ≤ k):(orNone t).length ≤ k := by
 unfold orNone
 split
 ·simpa using h1
 ·exact h
theorem row_len_le {l:List Int} (hl:l.length ≤ 60) (hs:∀ i,i < l.length → 0 ≤ l.getD i 0 ∧ l.getD i 0 ≤ 1000000):(row l).length ≤ 200000000 := by
 have h := join_len 1000002 (l.map fun x => dig x.toNat) (by
  intro x hx
  obtain ⟨y,hy,rfl⟩ := List.mem_map.1 hx
  obtain ⟨i,hi,rfl⟩ := List.getElem_of_mem hy
  have := hs i hi
  rw [List.getD,List.getElem?_eq_getElem hi] at this
  simp only [Option.getD_some] at this
  have := dig_len l[i].toNat
  omega)
 rw [List.length_map] at h
 exact orNone_len (by have := Nat.mul_le_mul_right 1000002 hl; omega) (by decide)
theorem nm_len (e:Int):(nm e).length ≤ 10 := by
 unfold nm
 repeat' split
 all_goals decide
theorem done_len (e:Int):(done e).length ≤ 10 := by
 unfold done
 split
 ·exact nm_len e
 ·decide
theorem told_len {l:List Int} (e:Int) (hl:l.length ≤ 60) (hs:∀ i,i < l.length → 0 ≤ l.getD i 0 ∧ l.getD i 0 ≤ 1000000):(told l e).length ≤ 200000000 := by
 unfold told
 split
 ·have := nm_len e; omega
 ·exact row_len_le hl hs
theorem way_len {g:G} (hi:GI g):(way g.l).length ≤ 200000000 := by
 have h := join_len 3000010 (g.l.map pkT) (by
  intro x hx
  obtain ⟨y,hy,rfl⟩ := List.mem_map.1 hx
  obtain ⟨i,hi',rfl⟩ := List.getElem_of_mem hy
  have z := way_small hi i hi'
  have e:Net.pk g.l i = g.l[i] := by simp [Net.pk,List.getD,hi']
  rw [e] at z
  have l0 := dig_len g.l[i].1.toNat
  have l1 := dig_len g.l[i].2.1.toNat
  have l2 := dig_len g.l[i].2.2.toNat
  unfold pkT
  simp
  omega)
 rw [List.length_map] at h
 have h40 := hi.net.len
 exact orNone_len (by have := Nat.mul_le_mul_right 3000010 h40; omega) (by decide)
theorem act_len {g:G} (hi:GI g) (w:T) (a b:Int) (ha:0 ≤ a):(act g w a b).1.length ≤ 200000000 := by
 unfold act
 split
 ·exact Nat.le_trans (done_len (sayC g a b)) (by decide)
 ·split
  ·exact told_len (giveC g a) (giveW_small hi a).1 (giveW_small hi a).2
  ·split
   ·exact Nat.le_trans (done_len (Net.dropC g.l a)) (by decide)
   ·split
    ·exact Nat.le_trans (done_len (Net.twC g.l a)) (by decide)
    ·split
     ·show (if 4 < a then nm 1 else row (hrd g.H a)).length ≤ 200000000
      split
      ·exact Nat.le_trans (nm_len 1) (by decide)
      ·exact row_len_le (Nat.le_trans (hrd_small hi.i0.good a).1 (len60 hi)) (hrd_small hi.i0.good a).2
     ·split
      ·show (if (g.H.length:Int) ≤ a then nm 1 else row (His.row g.H a.toNat)).length ≤ 200000000
       split
       ·exact Nat.le_trans (nm_len 1) (by decide)
       ·rename_i hlt
        by_cases h0:a.toNat < g.H.length
        ·exact row_len_le (by rw [His.row_len]; decide) fun i hi' => row_small hi h0 i (by rw [His.row_len] at hi'; exact hi')
        ·omega
      ·split
       ·exact way_len hi
       ·show (facesT (His.fifoB g.H) (His.causB g.H) (His.totB g.H)).length ≤ 200000000
        cases His.fifoB g.H <;> cases His.causB g.H <;> cases His.totB g.H <;> decide
theorem line_len {g:G} (hi:GI g) (s:T):(line g s).1.length ≤ 200000000 := by
 unfold line
 split
 ·exact (show bad.length ≤ 200000000 by decide)
 ·split
  ·exact act_len hi _ _ _ (Int.natCast_nonneg _)
  ·exact (show bad.length ≤ 200000000 by decide)
end Go.Proofs.YtdmniblonikjlakGreatDoor.Run


namespace Go.Proofs.YtdmniblonikjlakGreatDoor.Run
open Go.RowKit
open His (Ev Ew ev)
open Net (Pk pk Po)
set_option linter.unusedVariables false
theorem ev_seen {w:World} {base:Nat} {q:Option Addr} {n c:Nat} {H:List Ev} (o:w.ownsRow base 40 3 (.slice q n c) H.length (Net.flat H)) (hn:n = H.length):n ≤ c ∧ c ≤ maxLen ∧ Ew w q n H := by
 subst hn
 rcases o.2 with ⟨h2,h3⟩ | ⟨g,cap,cur,hv,hb,hh,hc,hm,hsz,ht⟩
 ·simp only [Value.slice.injEq] at h2
  obtain ⟨rfl,-,rfl⟩ := h2
  exact ⟨by omega,by unfold maxLen; omega,rfl,fun q => absurd q (by omega)⟩
 ·simp only [Value.slice.injEq] at hv
  obtain ⟨rfl,-,rfl⟩ := hv
  refine ⟨hc,hm,rfl,fun _ => ⟨g,0,rfl,?_,fun k hk => ?_⟩⟩
  ·rcases Nat.lt_or_ge g w.heap.size with q | q
   ·exact q
   ·rw [Array.getElem?_eq_none q] at hh; cases hh
  ·have key:∀ j u,j < H.length * 3 → (Net.flat H)[j]? = some u → w.cell? ⟨g,j,none⟩ = some u := by
    intro j u hj hu
    rw [← ht,List.getElem?_take_of_lt hj] at hu
    simp only [World.cell?,hh]
    simpa using hu
   obtain ⟨a,b,c⟩ := Net.flat_get H k hk
   rw [Nat.zero_add]
   exact ⟨key _ _ (by omega) a,key _ _ (by omega) b,key _ _ (by omega) c⟩
theorem pk_seen {w:World} {base:Nat} {q:Option Addr} {n c:Nat} {l:List Pk} (o:Po w base (.slice q n c) l) (hn:n = l.length):P3 w q n l := by
 obtain ⟨q',c',e,_,_,hf⟩ := o.form
 simp only [Value.slice.injEq] at e
 obtain ⟨rfl,-,-⟩ := e
 refine ⟨hn.symm,fun k hk => ?_⟩
 obtain ⟨g,e1,_,_,hc⟩ := hf (by omega)
 obtain ⟨f0,f1,f2⟩ := Net.flat_get l k (by omega)
 refine ⟨g,0,e1,?_,?_,?_⟩
 ·rw [Nat.zero_add]; exact hc _ _ f0
 ·rw [Nat.zero_add]; exact hc _ _ f1
 ·rw [Nat.zero_add]; exact hc _ _ f2
end Go.Proofs.YtdmniblonikjlakGreatDoor.Run
