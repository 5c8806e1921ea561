/-
  Texts put together: As, Told, Vec, VecA, VecB, VecC, FifM, FifA.
-/
import Derived.Test.YtdmniblonikjlakGreatDoorRows
import Derived.WalkKit
import Derived.WalkSmall
import Derived.LaidEql
import Derived.Stop.Asserts
import Derived.RowKitTokens
import Derived.Deep.QuietTactic
import Derived.BigQuiet
import Derived.Deep.AppendLies
import Derived.Deep.OwnRows


namespace Go.Proofs.YtdmniblonikjlakGreatDoor.As
open Go.RowKit Go.Extern.Stop Go.Stop Go.Extern
theorem valueOfP (t:Addr) (w:World):(ReflectliteValue.unpack (.iface 171 (.pointer (some t)))).run Tryz.prog w
  = .ok (.agg #[.pointer (some ⟨14,171,none⟩),.pointer (some ⟨w.heap.size,0,none⟩),.int .u64 150]) (w.alloc (.cells #[.pointer (some t)] 171)) := by kernel_rfl
theorem valueOfE (n:Int) (w:World):(ReflectliteValue.unpack (.iface 70 (.int .i64 n))).run Tryz.prog w
  = .ok (.agg #[.pointer (some ⟨14,70,none⟩),.pointer (some ⟨w.heap.size,0,none⟩),.int .u64 130]) (w.alloc (.cells #[.int .i64 n] 70)) := by kernel_rfl
theorem typeP (a:Addr) (w:World):(ReflectliteValue.methodAny (ReflectliteValue.valueError "reflectlite.Value.Type" 0) (fun t _ _ _ => ReflectliteType.toType t) #[.agg #[.pointer (some ⟨14,171,none⟩),.pointer (some a),.int .u64 150]]).run Tryz.prog w
  = .ok (.iface 250 (.agg #[.pointer (some ⟨14,171,none⟩)])) w := by kernel_rfl
theorem methodKind (h:Value) (w:World):(Go.method 448 250 (.agg #[h]) "Kind").run Tryz.prog w = .ok (228,h) w := by kernel_rfl
theorem methodElem (h:Value) (w:World):(Go.method 448 250 (.agg #[h]) "Elem").run Tryz.prog w = .ok (240,.agg #[h]) w := by kernel_rfl
theorem methodImplements (h:Value) (w:World):(Go.method 448 250 (.agg #[h]) "Implements").run Tryz.prog w = .ok (241,.agg #[h]) w := by kernel_rfl
theorem methodAssignableTo (h:Value) (w:World):(Go.method 448 250 (.agg #[h]) "AssignableTo").run Tryz.prog w = .ok (238,.agg #[h]) w := by kernel_rfl
theorem kindP (w:World):((ReflectliteType.abiMethod fun t => Functor.map (fun a:Nat => Value.int IntKind.u8 (a:Int)) (Rtype.kind t)) #[.pointer (some ⟨14,171,none⟩)]).run Tryz.prog w = .ok (.int .u8 22) w := by kernel_rfl
theorem kindE (w:World):((ReflectliteType.abiMethod fun t => Functor.map (fun a:Nat => Value.int IntKind.u8 (a:Int)) (Rtype.kind t)) #[.pointer (some ⟨14,70,none⟩)]).run Tryz.prog w = .ok (.int .u8 2) w := by kernel_rfl
theorem elemP (w:World):(ReflectliteType.method ReflectliteType.elem #[.agg #[.pointer (some ⟨14,171,none⟩)]]).run Tryz.prog w = .ok (.iface 250 (.agg #[.pointer (some ⟨14,70,none⟩)])) w := by kernel_rfl
theorem implementsE (w:World):(ReflectliteType.relation "Implements" ReflectliteType.implements_ #[.agg #[.pointer (some ⟨14,70,none⟩)],.iface 250 (.agg #[.pointer (some ⟨14,26,none⟩)])]).run Tryz.prog w = .ok (.bool true) w := by kernel_rfl
theorem typeOfE (v:Value) (w:World):(ReflectliteType.typeOf #[.iface 70 v]).run Tryz.prog w = .ok (.iface 250 (.agg #[.pointer (some ⟨14,70,none⟩)])) w := by kernel_rfl
theorem assignableE (w:World):(ReflectliteType.relation "AssignableTo" ReflectliteType.assignableTo #[.agg #[.pointer (some ⟨14,70,none⟩)],.iface 250 (.agg #[.pointer (some ⟨14,70,none⟩)])]).run Tryz.prog w = .ok (.bool true) w := by kernel_rfl
theorem partsP (a:Addr) (w:World):(ReflectliteValue.parts (.agg #[.pointer (some ⟨14,171,none⟩),.pointer (some a),.int .u64 150])).run Tryz.prog w = .ok (some (171,a,150)) w := by kernel_rfl
theorem partsA (a:Addr) (w:World):(ReflectliteValue.parts (.agg #[.pointer (some ⟨14,70,none⟩),.pointer (some a),.int .u64 386])).run Tryz.prog w = .ok (some (70,a,386)) w := by kernel_rfl
theorem partsE (a:Addr) (w:World):(ReflectliteValue.parts (.agg #[.pointer (some ⟨14,70,none⟩),.pointer (some a),.int .u64 130])).run Tryz.prog w = .ok (some (70,a,130)) w := by kernel_rfl
theorem elemOfP (w:World):(Rtype.elem? 171).run Tryz.prog w = .ok (some 70) w := by kernel_rfl
theorem mkE (p:Addr) (w:World):(ReflectliteValue.mk 70 p ReflectliteValue.flagAddr).run Tryz.prog w = .ok (.agg #[.pointer (some ⟨14,70,none⟩),.pointer (some p),.int .u64 386]) w := by kernel_rfl
theorem directE (w:World):(Rtype.directlyAssignable 70 70).run Tryz.prog w = .ok true w := by kernel_rfl
theorem isNilP (a p:Addr) (W:World) (ha:W.cell? a = some (.pointer (some p))) :
  (ReflectliteValue.method (ReflectliteValue.valueError "reflectlite.Value.IsNil" 0) ReflectliteValue.isNil #[.agg #[.pointer (some ⟨14,171,none⟩),.pointer (some a),.int .u64 150]]).run Tryz.prog W = .ok (.bool false) W := by
 show Sem.run Tryz.prog (ReflectliteValue.parts (.agg #[.pointer (some ⟨14,171,none⟩),.pointer (some a),.int .u64 150]) >>= _) W = _
 simp only [Sem.run_bind,partsP,Result.andThen]
 simp [ReflectliteValue.isNil,loadVar,isAgg,underlying,Tryz.underlying171,ha,Result.andThen]
theorem elemV (a p:Addr) (W:World) (ha:W.cell? a = some (.pointer (some p))) :
  (ReflectliteValue.method (ReflectliteValue.valueError "reflectlite.Value.Elem" 0) ReflectliteValue.elem #[.agg #[.pointer (some ⟨14,171,none⟩),.pointer (some a),.int .u64 150]]).run Tryz.prog W
   = .ok (.agg #[.pointer (some ⟨14,70,none⟩),.pointer (some p),.int .u64 386]) W := by
 show Sem.run Tryz.prog (ReflectliteValue.parts (.agg #[.pointer (some ⟨14,171,none⟩),.pointer (some a),.int .u64 150]) >>= _) W = _
 simp only [Sem.run_bind,partsP,Result.andThen]
 simp [ReflectliteValue.elem,loadVar,isAgg,underlying,Tryz.underlying171,ha,Result.andThen,elemOfP,mkE]
theorem setE (ta b:Addr) (n:Int) (old:Value) (W:World) (hb:W.cell? b = some (.int .i64 n)) (ht:W.cell? ta = some old) (hf:W.frozen? ta = false) :
  (ReflectliteValue.set #[.agg #[.pointer (some ⟨14,70,none⟩),.pointer (some ta),.int .u64 386],.agg #[.pointer (some ⟨14,70,none⟩),.pointer (some b),.int .u64 130]]).run Tryz.prog W
   = .ok (.tuple #[]) (W.setCell ta (.int .i64 n)) := by
 show Sem.run Tryz.prog (ReflectliteValue.parts (.agg #[.pointer (some ⟨14,70,none⟩),.pointer (some ta),.int .u64 386]) >>= fun r => ReflectliteValue.parts (.agg #[.pointer (some ⟨14,70,none⟩),.pointer (some b),.int .u64 130]) >>= fun q => _) W = _
 simp only [Sem.run_bind,partsA,partsE,Result.andThen]
 simp [ReflectliteValue.flagAddr,loadVar,isAgg,underlying,Tryz.underlying70,hb,Result.andThen,directE,storeVar,Value.cells,storeCells,Addr.add]
 rw [run_store Tryz.prog W ta _ _ (by rfl)]
 simp [ht,hf]
end Go.Proofs.YtdmniblonikjlakGreatDoor.As


namespace Go.Proofs.YtdmniblonikjlakGreatDoor.As
open Go.RowKit Go.Extern.Stop Go.Stop Go.Extern
def Laid (w:World):Prop := w.cell? ⟨0,0,none⟩ = some (.iface 250 (.agg #[.pointer (some ⟨14,26,none⟩)]))
theorem Laid.pos {w:World} (h:Laid w):0 < w.heap.size := block_lt_of_cell h
theorem Laid.later {w w':World} (h:Laid w) (hb:Below w.heap.size w w'):Laid w' := (hb.cell (p := ⟨0,0,none⟩) h.pos).trans h
set_option maxHeartbeats 4000000 in
theorem as_hit (n:Int) (t:Addr) (old:Value) (w:World) (hg:w.cell? ⟨0,0,none⟩ = some (.iface 250 (.agg #[.pointer (some ⟨14,26,none⟩)]))) (ht0:w.cell? t = some old) (hf0:w.frozen? t = false) :
  Calls Tryz.prog 88 #[.iface 70 (.int .i64 n),.iface 171 (.pointer (some t))] w fun ev w' => ev = .returned (.bool true) ∧
   w' = ((((w.alloc (.cells #[.pointer (some t)] 171)).alloc (.cells #[.pointer (some ⟨14,171,none⟩),.pointer (some ⟨w.heap.size,0,none⟩),.int .u64 150] 221)).alloc (.cells #[.pointer (some ⟨14,171,none⟩),.pointer (some ⟨w.heap.size,0,none⟩),.int .u64 150] 221)).alloc (.cells #[.int .i64 n] 70)).setCell t (.int .i64 n) := by
 have h1 := @run_callFunc_extern Tryz.prog 123 _ (fun args => ReflectliteValue.unpack (args.getD 0 (.tuple #[]))) Tryz.func123 (by kernel_rfl) (by kernel_rfl) (by kernel_rfl) (by kernel_rfl)
 have h2 := @run_callFunc_extern Tryz.prog 124 _ (ReflectliteValue.methodAny (ReflectliteValue.valueError "reflectlite.Value.Type" 0) (fun t _ _ _ => ReflectliteType.toType t)) Tryz.func124 (by kernel_rfl) (by kernel_rfl) (by kernel_rfl) (by kernel_rfl)
 have h3 := @run_callFunc_extern Tryz.prog 125 _ (ReflectliteValue.method (ReflectliteValue.valueError "reflectlite.Value.IsNil" 0) ReflectliteValue.isNil) Tryz.func125 (by kernel_rfl) (by kernel_rfl) (by kernel_rfl) (by kernel_rfl)
 have h4 := @run_callFunc_extern Tryz.prog 228 _ (ReflectliteType.abiMethod fun t => do pure (.int .u8 (← Rtype.kind t))) Tryz.func228 (by kernel_rfl) (by kernel_rfl) (by kernel_rfl) (by kernel_rfl)
 have h5 := @run_callFunc_extern Tryz.prog 240 _ (ReflectliteType.method ReflectliteType.elem) Tryz.func240 (by kernel_rfl) (by kernel_rfl) (by kernel_rfl) (by kernel_rfl)
 have h6 := @run_callFunc_extern Tryz.prog 241 _ (ReflectliteType.relation "Implements" ReflectliteType.implements_) Tryz.func241 (by kernel_rfl) (by kernel_rfl) (by kernel_rfl) (by kernel_rfl)
 have h7 := @run_callFunc_extern Tryz.prog 159 _ ReflectliteType.typeOf Tryz.func159 (by kernel_rfl) (by kernel_rfl) (by kernel_rfl) (by kernel_rfl)
 have h8 := @run_callFunc_extern Tryz.prog 238 _ (ReflectliteType.relation "AssignableTo" ReflectliteType.assignableTo) Tryz.func238 (by kernel_rfl) (by kernel_rfl) (by kernel_rfl) (by kernel_rfl)
 have h9 := @run_callFunc_extern Tryz.prog 160 _ (ReflectliteValue.method (ReflectliteValue.valueError "reflectlite.Value.Elem" 0) ReflectliteValue.elem) Tryz.func160 (by kernel_rfl) (by kernel_rfl) (by kernel_rfl) (by kernel_rfl)
 have h10 := @run_callFunc_extern Tryz.prog 161 _ ReflectliteValue.set Tryz.func161 (by kernel_rfl) (by kernel_rfl) (by kernel_rfl) (by kernel_rfl)
 have g1 := typeOfE
 have g2 := methodAssignableTo
 have g3 := assignableE
 have g4 := valueOfE
 have g5 := valueOfP
 have g6 := typeP
 have g7 := methodKind
 have g8 := methodElem
 have g9 := methodImplements
 have g10 := kindP
 have g11 := kindE
 have g12 := elemP
 have g13 := implementsE
 have n8 := isNilP ⟨w.heap.size,0,none⟩ t ((w.alloc (.cells #[.pointer (some t)] 171)).alloc (.cells #[.pointer (some ⟨14,171,none⟩),.pointer (some ⟨w.heap.size,0,none⟩),.int .u64 150] 221)) (by simp)
 have hlt:0 < w.heap.size := block_lt_of_cell hg
 have hg2:((w.alloc (.cells #[.pointer (some t)] 171)).alloc (.cells #[.pointer (some ⟨14,171,none⟩),.pointer (some ⟨w.heap.size,0,none⟩),.int .u64 150] 221)).cell? ⟨0,0,none⟩ = some (.iface 250 (.agg #[.pointer (some ⟨14,26,none⟩)])) := by
  rw [World.cell?_alloc_lt _ _ ⟨0,0,none⟩ (by simp),World.cell?_alloc_lt _ _ ⟨0,0,none⟩ hlt]; exact hg
 have htl:t.block < w.heap.size := block_lt_of_cell ht0
 have el := elemV ⟨w.heap.size,0,none⟩ t (((w.alloc (.cells #[.pointer (some t)] 171)).alloc (.cells #[.pointer (some ⟨14,171,none⟩),.pointer (some ⟨w.heap.size,0,none⟩),.int .u64 150] 221)).alloc (.cells #[.pointer (some ⟨14,171,none⟩),.pointer (some ⟨w.heap.size,0,none⟩),.int .u64 150] 221)) (by rw [World.cell?_alloc_lt _ _ ⟨w.heap.size,0,none⟩ (by simp; omega)]; simp)
 have st := setE t ⟨w.heap.size + 1 + 1 + 1,0,none⟩ n old ((((w.alloc (.cells #[.pointer (some t)] 171)).alloc (.cells #[.pointer (some ⟨14,171,none⟩),.pointer (some ⟨w.heap.size,0,none⟩),.int .u64 150] 221)).alloc (.cells #[.pointer (some ⟨14,171,none⟩),.pointer (some ⟨w.heap.size,0,none⟩),.int .u64 150] 221)).alloc (.cells #[.int .i64 n] 70))
  (by rw [World.cell?_alloc_at _ _ _ _ (by simp)]; rfl)
  (by rw [World.cell?_alloc_lt _ _ t (by simp; omega),World.cell?_alloc_lt _ _ t (by simp; omega),World.cell?_alloc_lt _ _ t (by simp; omega),World.cell?_alloc_lt _ _ t htl]; exact ht0)
  (by rw [World.frozen?_alloc_old _ _ t (by simp; omega),World.frozen?_alloc_old _ _ t (by simp; omega),World.frozen?_alloc_old _ _ t (by simp; omega),World.frozen?_alloc_old _ _ t (Nat.ne_of_lt htl)]; exact hf0)
 go_enter Tryz.func88,Tryz.ntmps88
 go_wp2
 refine wp_loop_rounds 1 ?_
 rw [rounds_succ]
 go_wp2
 go_ret
 exact ⟨rfl,rfl⟩
end Go.Proofs.YtdmniblonikjlakGreatDoor.As


namespace Go.Proofs.YtdmniblonikjlakGreatDoor.Vec
open Go.RowKit
def out (x:Int):Bool := decide (x < 0) || decide (1000000 < x)
def anyP (p:Nat → Bool):Bool := p 0 || p 1 || p 2 || p 3 || p 4
theorem anyP_true {p:Nat → Bool} {k:Nat} (hk:k < 5) (h:p k = true):anyP p = true := by
 unfold anyP
 match k,hk with
 | 0,_ => simp [h]
 | 1,_ => simp [h]
 | 2,_ => simp [h]
 | 3,_ => simp [h]
 | 4,_ => simp [h]
theorem anyP_false {p:Nat → Bool} (h:∀ j,j < 5 → p j = false):anyP p = false := by
 unfold anyP; simp [h 0 (by omega),h 1 (by omega),h 2 (by omega),h 3 (by omega),h 4 (by omega)]
theorem ret_bool {a b:Bool} (h:a = b):Ending.returned (.bool a) = .returned (.bool b) := by rw [h]
theorem chk1 (b off cap B k:Nat) (x:Int) (w:World) (hk:k < 5) (hv:w.cell? ⟨B,0,none⟩ = some (.slice (some ⟨b,off,none⟩) 5 cap))
  (hc:w.cell? ⟨b,off + k,none⟩ = some (.int .i64 x)) :
  Calls Tryz.prog 138 #[.int .i64 k,.pointer (some ⟨B,0,none⟩)] w fun e w' => e = .returned (.bool (out x)) ∧ w' = w := by
 by_cases h1:x < 0
 ·go_enter Tryz.func138,Tryz.ntmps138
  go_wp2
  go_ret
  exact ⟨by simp [out,h1],rfl⟩
 ·go_enter Tryz.func138,Tryz.ntmps138
  go_wp2
  go_ret
  exact ⟨by simp [out]; omega,rfl⟩
theorem any1 (p:Nat → Bool) (B:Nat) (w:World)
  (h:Hid (∀ k:Nat,k < 5 → ∀ n,Calls Tryz.prog 138 #[.int .i64 k,.pointer (some ⟨B,0,none⟩)] (w.drewN n) fun e w' => e = .returned (.bool (p k)) ∧ ∃ m,w' = w.drewN m)) :
  Calls Tryz.prog 137 #[.func (.func 138) #[] #[.pointer (some ⟨B,0,none⟩)]] w fun e w' => e = .returned (.bool (anyP p)) ∧ ∃ m,w' = w.drewN m := by
 go_enter Tryz.func137,Tryz.ntmps137
 go_wp2
 go_loopw [4] (fun i wr => ∃ k:Nat,k ≤ 5 ∧ i = .int .i64 k ∧ (∃ n,wr = w.drewN n) ∧ Hid (∀ j,j < k → p j = false)) (fun i _ => 5 - (intOf i).toNat)
 case atStart => exact ⟨0,by omega,rfl,⟨0,rfl⟩,fun j hj => absurd hj (by omega)⟩
 case round =>
  obtain ⟨k,hk,rfl,⟨n,rfl⟩,hp⟩ := hrel
  by_cases hlt:k < 5
  ·cases hb:p k
   ·go_wp2_with (go_at_call 138; refine (h.out k hlt _).mono ?_; rintro e w' ⟨rfl,m,rfl⟩)
    go_roundw
    case rel => exact ⟨k + 1,by omega,by go_num,⟨_,rfl⟩,fun j hj => if e:j < k then hp.out j e else by rw [show j = k by omega]; exact hb⟩
    case measure => simp [intOf]; omega
   ·go_wp2_with (go_at_call 138; refine (h.out k hlt _).mono ?_; rintro e w' ⟨rfl,m,rfl⟩)
    go_ret
    exact ⟨ret_bool (anyP_true hlt hb).symm,_,rfl⟩
  ·go_wp2
   go_ret
   exact ⟨ret_bool (anyP_false fun j hj => hp.out j (by omega)).symm,_,rfl⟩
end Go.Proofs.YtdmniblonikjlakGreatDoor.Vec


namespace Go.Proofs.YtdmniblonikjlakGreatDoor.Vec
open Go.RowKit
def Vw (w:World) (a:Option Addr) (len:Nat) (xs:List Int):Prop :=
 xs.length = len ∧ (0 < len → ∃ b off,a = some ⟨b,off,none⟩ ∧ b < w.heap.size ∧ ∀ k,k < len → w.cell? ⟨b,off + k,none⟩ = some (.int .i64 (xs.getD k 0)))
theorem Vw.later {w w':World} {a:Option Addr} {len:Nat} {xs:List Int} (h:Vw w a len xs) (hb:Below w.heap.size w w'):Vw w' a len xs := by
 refine ⟨h.1,fun hl => ?_⟩
 obtain ⟨b,off,e,hlt,hc⟩ := h.2 hl
 exact ⟨b,off,e,Nat.lt_of_lt_of_le hlt hb.size,fun k hk => (hb.cell (p := ⟨b,off + k,none⟩) hlt).trans (hc k hk)⟩
def bad (xs:List Int):Bool := anyP fun k => out (xs.getD k 0)
def code (xs:List Int):Int := if xs.length = 5 then (if bad xs then 1 else 0) else 3
theorem check_shape (a:Option Addr) (len cap:Nat) (w:World) (h:len ≠ 5) :
  Calls Tryz.prog 96 #[.slice a len cap] w fun e w' => e = .returned (.iface 70 (.int .i64 3)) ∧ Below w.heap.size w w' := by
 have h5:((len:Int) != 5) = true := by rw [bne_iff_ne]; omega
 go_enter Tryz.func96,Tryz.ntmps96
 go_wp2
 go_ret
 exact ⟨rfl,(Below.refl _ _).alloc (Nat.le_refl _) _⟩
theorem check_five (a:Option Addr) (cap:Nat) (xs:List Int) (w:World) (hv:Vw w a 5 xs) :
  Calls Tryz.prog 96 #[.slice a 5 cap] w fun e w' => e = .returned (if bad xs then .iface 70 (.int .i64 1) else .nilIface) ∧ Below w.heap.size w w' := by
 obtain ⟨b,off,rfl,hlt,hc⟩ := hv.2 (by omega)
 have hcall:∀ B,w.heap.size = B → Hid (∀ k:Nat,k < 5 → ∀ n,Calls Tryz.prog 138 #[.int .i64 k,.pointer (some ⟨B,0,none⟩)] ((w.alloc (.cells #[.slice (some ⟨b,off,none⟩) 5 cap] 30)).drewN n)
   fun e w' => e = .returned (.bool ((fun k => out (xs.getD k 0)) k)) ∧ ∃ m,w' = (w.alloc (.cells #[.slice (some ⟨b,off,none⟩) 5 cap] 30)).drewN m) := by
  intro B hB k hk n
  subst hB
  refine (chk1 b off cap w.heap.size k (xs.getD k 0) _ hk ?_ ?_).mono ?_
  ·simp
  ·exact ((below_drewN ((Below.refl w.heap.size w).alloc (Nat.le_refl _) _) n).cell (p := ⟨b,off + k,none⟩) hlt).trans (hc k hk)
  ·rintro e w' ⟨rfl,rfl⟩
   exact ⟨rfl,n,rfl⟩
 have H := hcall _ rfl
 clear hcall hc
 cases hb:bad xs
 ·have hb':anyP (fun k => out (xs.getD k 0)) = false := hb
  go_enter Tryz.func96,Tryz.ntmps96
  go_wp2_with fail
  refine (any1 (fun k => out (xs.getD k 0)) _ _ H).mono ?_
  rintro e w' ⟨rfl,m,rfl⟩
  rw [hb']
  go_wp2
  go_ret
  exact ⟨rfl,below_drewN ((Below.refl _ _).alloc (Nat.le_refl _) _) _⟩
 ·have hb':anyP (fun k => out (xs.getD k 0)) = true := hb
  go_enter Tryz.func96,Tryz.ntmps96
  go_wp2_with fail
  refine (any1 (fun k => out (xs.getD k 0)) _ _ H).mono ?_
  rintro e w' ⟨rfl,m,rfl⟩
  rw [hb']
  go_wp2
  go_ret
  exact ⟨rfl,below_drewN ((Below.refl _ _).alloc (Nat.le_refl _) _) _⟩
theorem check_ok (a:Option Addr) (len cap:Nat) (xs:List Int) (w:World) (hv:Vw w a len xs) (h:code xs = 0) :
  Calls Tryz.prog 96 #[.slice a len cap] w fun e w' => e = .returned .nilIface ∧ Below w.heap.size w w' := by
 have h1 := hv.1
 unfold code at h
 split at h
 ·rename_i e
  have:len = 5 := by omega
  subst this
  split at h
  ·omega
  ·rename_i hb
   refine (check_five a cap xs w hv).mono ?_
   rintro e w' ⟨rfl,hw⟩
   exact ⟨by rw [if_neg hb],hw⟩
 ·omega
theorem check_no (a:Option Addr) (len cap:Nat) (xs:List Int) (w:World) (hv:Vw w a len xs) (h:code xs ≠ 0) :
  Calls Tryz.prog 96 #[.slice a len cap] w fun e w' => e = .returned (.iface 70 (.int .i64 (code xs))) ∧ Below w.heap.size w w' := by
 have h1 := hv.1
 by_cases e:len = 5
 ·subst e
  have hb:bad xs = true := by
   cases hb:bad xs
   ·exact absurd (by simp [code,h1,hb]) h
   ·rfl
  refine (check_five a cap xs w hv).mono ?_
  rintro e w' ⟨rfl,hw⟩
  exact ⟨by simp [code,h1,hb],hw⟩
 ·refine (check_shape a len cap w e).mono ?_
  rintro e' w' ⟨rfl,hw⟩
  exact ⟨by simp [code,h1,e],hw⟩
end Go.Proofs.YtdmniblonikjlakGreatDoor.Vec


namespace Go.Proofs.YtdmniblonikjlakGreatDoor.Vec
open Go.RowKit
theorem getD_eq_of {xs ys:List Int} (hl:xs.length = ys.length) (h:∀ j,j < xs.length → xs.getD j 0 = ys.getD j 0):xs = ys := by
 apply List.ext_getElem hl
 intro i h1 h2
 have := h i h1
 simpa [h1,h2] using this
theorem ints_any (a b:Option Addr) (len cap len' cap':Nat) (xs ys:List Int) (w:World) (hv:Vw w a len xs) (hv':Vw w b len' ys) (hm:len ≤ maxLen) :
  Calls Tryz.prog 48 #[.slice a len cap,.slice b len' cap'] w fun e w' => e = .returned (.bool (decide (xs = ys))) ∧ ∃ n,w' = w.drewN n := by
 unfold maxLen at hm
 have h1 := hv.1
 have h2 := hv'.1
 by_cases hl:len = len'
 ·subst hl
  have HL:Hid (xs.length = ys.length) := by show xs.length = ys.length; omega
  have H1:Hid (xs.length = len) := h1
  obtain ⟨-,gv⟩ := hv
  obtain ⟨-,gv'⟩ := hv'
  have G:Hid _ := gv
  have G':Hid _ := gv'
  have hq:((len:Int) != (len:Int)) = false := by simp
  clear gv gv' h1 h2
  go_enter Tryz.func48,Tryz.ntmps48
  go_wp2
  go_loopw [5] (fun i wr => ∃ k:Nat,k ≤ len ∧ i = .int .i64 k ∧ (∃ n,wr = w.drewN n) ∧ Hid (∀ j,j < k → xs.getD j 0 = ys.getD j 0)) (fun i _ => len - (intOf i).toNat)
  case atStart => exact ⟨0,by omega,rfl,⟨0,rfl⟩,fun j hj => absurd hj (by omega)⟩
  case round =>
   obtain ⟨k,hk,rfl,⟨n,rfl⟩,hp⟩ := hrel
   by_cases hlt:k < len
   ·obtain ⟨p,off,rfl,hpb,hc⟩ := G.out (by omega)
    obtain ⟨p',off',rfl,hpb',hc'⟩ := G'.out (by omega)
    have hx := hc k hlt
    have hy := hc' k hlt
    obtain ⟨x,ex⟩:∃ x,x = xs.getD k 0 := ⟨_,rfl⟩
    obtain ⟨y,ey⟩:∃ y,y = ys.getD k 0 := ⟨_,rfl⟩
    rw [← ex] at hx
    rw [← ey] at hy
    have EX:Hid _ := ex
    have EY:Hid _ := ey
    have hk0:(0:Int) ≤ (k:Int) := by omega
    have hkl:(k:Int) < (len:Int) := by omega
    clear hc hc' ex ey
    by_cases hxy:x = y
    ·have hne:(x != y) = false := by simp [hxy]
     have HXY:Hid _ := hxy
     clear hxy
     go_wp2
     go_quiet (fail)
     go_wp2
     go_roundw
     case rel => exact ⟨k + 1,by omega,by go_num,⟨_,rfl⟩,fun j hj => if e:j < k then hp.out j e else by rw [show j = k by omega,← EX.out,← EY.out]; exact HXY.out⟩
     case measure => simp [intOf]; omega
    ·have hne:(x != y) = true := by simp [hxy]
     have HXY:Hid _ := hxy
     clear hxy
     go_wp2
     go_quiet (fail)
     go_wp2
     go_ret
     exact ⟨ret_bool (decide_eq_false fun e => HXY.out (by rw [EX.out,EY.out,e])).symm,_,World.drewN_drewN _ _ _⟩
   ·go_wp2
    go_ret
    exact ⟨ret_bool (decide_eq_true (getD_eq_of HL.out fun j hj => hp.out j (by have := H1.out; omega))).symm,_,rfl⟩
 ·have hne:((len:Int) != (len':Int)) = true := by rw [bne_iff_ne]; omega
  have HN:Hid (xs ≠ ys) := fun e => hl (by rw [← h1,← h2,e])
  clear h1 h2 hv hv'
  go_enter Tryz.func48,Tryz.ntmps48
  go_wp2
  go_ret
  exact ⟨ret_bool (decide_eq_false HN.out).symm,0,rfl⟩
end Go.Proofs.YtdmniblonikjlakGreatDoor.Vec


namespace Go.Proofs.YtdmniblonikjlakGreatDoor.Vec
open Go.RowKit
theorem Vw.lit (w:World) (x0 x1 x2 x3 x4:Int) (t:TypeId):Vw (w.alloc (.cells #[.int .i64 x0,.int .i64 x1,.int .i64 x2,.int .i64 x3,.int .i64 x4] t)) (some ⟨w.heap.size,0,none⟩) 5 [x0,x1,x2,x3,x4] := by
 refine ⟨rfl,fun _ => ⟨_,_,rfl,by simp,fun k hk => ?_⟩⟩
 match k,hk with
 | 0,_ => simp
 | 1,_ => simp
 | 2,_ => simp
 | 3,_ => simp
 | 4,_ => simp
end Go.Proofs.YtdmniblonikjlakGreatDoor.Vec


namespace Go.Proofs.YtdmniblonikjlakGreatDoor.Fif
theorem set_getD {H:List Int} {m:Nat} (hm:m < H.length) (x:Int) (j:Nat):(H.set m x).getD j 0 = if j = m then x else H.getD j 0 := by
 by_cases e:j = m
 ·subst e
  simp [List.getD,hm]
 ·rw [if_neg e]
  simp [List.getD,List.getElem?_set_ne (fun q => e q.symm)]
end Go.Proofs.YtdmniblonikjlakGreatDoor.Fif


namespace Go.Proofs.YtdmniblonikjlakGreatDoor.Fif
open Go.RowKit
open Vec (Vw)
theorem ret_bool {a b:Bool} (h:a = b):Ending.returned (.bool a) = .returned (.bool b) := by rw [h]
theorem own_lt {w:World} {base:Nat} {t:TypeId} {s:Nat} {v:Value} {n:Nat} {xs:List Value} (o:w.ownsRow base t s v n xs):∀ k,v.ownBlock = some k → base ≤ k ∧ k < w.heap.size := by
 intro k hk
 rcases o.2 with ⟨h2,_⟩ | ⟨g',cap',cur,hv,hbg,hh,_⟩
 ·rw [h2] at hk; cases hk
 ·rw [hv] at hk
  have:g' = k := by simpa [Value.ownBlock] using hk
  subst this
  refine ⟨hbg,?_⟩
  rcases Nat.lt_or_ge g' w.heap.size with hlt | hge
  ·exact hlt
  ·rw [Array.getElem?_eq_none hge] at hh; cases hh
theorem own_block {w w':World} {base:Nat} {t:TypeId} {s:Nat} {v:Value} {n:Nat} {xs:List Value} (o:w.ownsRow base t s v n xs) (hb:∀ k,v.ownBlock = some k → w'.heap[k]? = w.heap[k]?):w'.ownsRow base t s v n xs := by
 obtain ⟨h1,h2⟩ := o
 refine ⟨h1,?_⟩
 rcases h2 with h2 | ⟨g',cap',cur,hv,hbg,hh,hc,hm,hsz,ht⟩
 ·exact .inl h2
 ·refine .inr ⟨g',cap',cur,hv,hbg,?_,hc,hm,hsz,ht⟩
  rw [hb g' (by rw [hv]; rfl)]
  exact hh
theorem own_vw {w:World} {base n:Nat} {t:TypeId} {v:Value} {xs:List Int} (h:w.ownsRow base t 1 v n (xs.map (Value.int .i64))):∃ a cap,v = .slice a n cap ∧ Vw w a n xs := by
 obtain ⟨h1,h2⟩ := h
 have hl:xs.length = n := by simpa using h1
 rcases h2 with ⟨h2,rfl⟩ | ⟨g,cap,cur,hv,_,hh,_,_,hsz,ht⟩
 ·exact ⟨none,0,h2,hl,fun q => absurd q (by omega)⟩
 ·refine ⟨_,cap,hv,hl,fun _ => ⟨g,0,rfl,?_,fun k hk => ?_⟩⟩
  ·rcases Nat.lt_or_ge g w.heap.size with hlt | hge
   ·exact hlt
   ·rw [Array.getElem?_eq_none hge] at hh; cases hh
  ·rw [Nat.zero_add,World.cell?,hh]
   have:(cur.toList.take (n * 1))[k]? = (xs.map (Value.int .i64))[k]? := by rw [ht]
   rw [Nat.mul_one,List.getElem?_take_of_lt hk,List.getElem?_map] at this
   have hx:k < xs.length := by omega
   simp only [Option.isSome_none,Bool.false_eq_true,if_false]
   rw [← Array.getElem?_toList,this]
   simp [hx,List.getD]
theorem infoI:(Tryz.prog.info? 3).map (fun i => (i.zero,i.size,i.bytes)) = some (some (.int .i64 0),1,8) := by kernel_rfl
theorem info_int:∃ i,Tryz.prog.info? 3 = some i ∧ i.zero = some (.int .i64 0) ∧ i.size = 1 ∧ i.bytes = 8 := by
 obtain ⟨i,hi,hzz⟩ := Option.map_eq_some_iff.1 infoI
 simp only [Prod.mk.injEq] at hzz
 exact ⟨i,hi,hzz.1,hzz.2.1,hzz.2.2⟩
theorem new_int (w:World) (B:Nat) (hB:B = w.heap.size) (x:Int) (t:TypeId):∀ j u,[Value.int .i64 x][j]? = some u → (w.alloc (.cells #[.int .i64 x] t)).cell? ((⟨B,0,none⟩:Addr).add j) = some u := by
 subst hB
 intro j u hj
 rw [Addr.add_lit,Nat.zero_add]
 rcases j with _ | j
 ·simpa using hj
 ·simp at hj
theorem int_one (x:Int):∀ u ∈ [Value.int .i64 x],u.oneCell' = true := by
 intro u hu
 obtain rfl := List.mem_singleton.1 hu
 rfl
def Kp (w w':World) (P:Nat) (r:Option Nat):Prop := w.heap.size ≤ w'.heap.size ∧ ∀ b,b < w.heap.size → b ≠ P → some b ≠ r → w'.heap[b]? = w.heap[b]?
theorem Kp.trans {w w1 w2:World} {P:Nat} {r r':Option Nat} (h:Kp w w1 P r) (h':Kp w1 w2 P r') (hr:∀ k,r' = some k → w.heap.size ≤ k ∨ r = some k ∨ k = P):Kp w w2 P r := by
 refine ⟨Nat.le_trans h.1 h'.1,fun b hb hP hne => ?_⟩
 rw [h'.2 b (Nat.lt_of_lt_of_le hb h.1) hP (fun e => ?_),h.2 b hb hP hne]
 rcases hr b e.symm with a | a | a
 ·omega
 ·exact hne a.symm
 ·exact hP a
theorem Kp.grown {w w':World} {r:Option Nat} (hg:w.grownBy w' r) (P:Nat):Kp w w' P r := ⟨hg.size,fun b hb _ hne => hg.block b hb hne⟩
theorem Kp.alloc (w:World) (o:Obj) (P:Nat) (r:Option Nat):Kp w (w.alloc o) P r := ⟨by simp,fun b hb _ _ => ((Below.refl w.heap.size w).alloc (Nat.le_refl _) o).block b hb⟩
theorem Kp.setCell (w:World) (P i:Nat) (v:Value) (r:Option Nat):Kp w (w.setCell ⟨P,i,none⟩ v) P r := ⟨by simp [World.setCell],fun b _ hP _ => Deep.blk_setCell_other _ _ _ _ hP⟩
theorem Kp.below {w w':World} {P:Nat} (hb:Below w.heap.size w w') (r:Option Nat):Kp w w' P r := ⟨hb.size,fun b h _ _ => hb.block b h⟩
theorem own_mono {w:World} {b b':Nat} {t:TypeId} {s n:Nat} {v:Value} {xs:List Value} (o:w.ownsRow b t s v n xs) (hb:b' ≤ b):w.ownsRow b' t s v n xs := by
 obtain ⟨h1,h2⟩ := o
 refine ⟨h1,?_⟩
 rcases h2 with h2 | ⟨g',cap',cur,hv,hbg,hh⟩
 ·exact .inl h2
 ·exact .inr ⟨g',cap',cur,hv,Nat.le_trans hb hbg,hh⟩
theorem own_two {w:World} {b1 b2:Nat} {t1 t2:TypeId} (ht:t1 ≠ t2) {s1 s2 n1 n2:Nat} {v1 v2:Value} {x1 x2:List Value} (o1:w.ownsRow b1 t1 s1 v1 n1 x1) (o2:w.ownsRow b2 t2 s2 v2 n2 x2) {g:Nat} (hg:v2.ownBlock = some g):v1.ownBlock ≠ some g := by
 intro e
 rcases o1.2 with ⟨h2,_⟩ | ⟨g',cap',cur,hv,hbg,hh,_⟩
 ·rw [h2] at e; cases e
 ·rcases o2.2 with ⟨h2,_⟩ | ⟨g2,cap2,cur2,hv2,hbg2,hh2,_⟩
  ·rw [h2] at hg; cases hg
  ·rw [hv] at e
   rw [hv2] at hg
   have e1:g' = g := by simpa [Value.ownBlock] using e
   have e2:g2 = g := by simpa [Value.ownBlock] using hg
   subst e1 e2
   rw [hh] at hh2
   injection hh2 with hh2
   injection hh2 with _ hh2 _
   exact ht hh2
theorem own_form {w:World} {base:Nat} {t:TypeId} {s:Nat} {v:Value} {n:Nat} {xs:List Value} (o:w.ownsRow base t s v n xs):∃ q cap,v = .slice q n cap := by
 rcases o.2 with ⟨h2,h3⟩ | ⟨g',cap',cur,hv,_⟩
 ·exact ⟨none,0,by rw [h3]; exact h2⟩
 ·exact ⟨_,_,hv⟩
theorem row_grown {w w':World} {r:Option Nat} {P:Nat} {t:TypeId} {n:Nat} {f:Nat → Value} (h:w.rowIs P t n f) (hg:w.grownBy w' r) (hne:some P ≠ r):w'.rowIs P t n f := h.of_block (hg.block P h.lt hne)
def lenOf:Value → Nat
 | .slice _ n _ => n
 | _ => 0
end Go.Proofs.YtdmniblonikjlakGreatDoor.Fif
