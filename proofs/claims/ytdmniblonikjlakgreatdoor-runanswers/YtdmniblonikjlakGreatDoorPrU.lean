/-
  Texts put together: AsL, ToldL, ToldM, RunVa, RunBu, RunMw.
-/
import Derived.Test.YtdmniblonikjlakGreatDoorPrA
import Derived.Test.YtdmniblonikjlakGreatDoorPrT
import Derived.Test.YtdmniblonikjlakGreatDoorPrH
import Derived.Lib.AppendStr
import Derived.Lib.Builder
import Derived.OwnWalk
import Derived.Test.YtdmniblonikjlakGreatDoorPrQ
import Derived.Maps.OwnSet
import Derived.Maps.Keyed
import Derived.MapViews


namespace Go.Proofs.YtdmniblonikjlakGreatDoor.As
open Go.RowKit Go.Extern.Stop Go.Stop Go.Extern
theorem valueOfPL (t:Addr) (w:World):(ReflectliteValue.unpack (.iface 182 (.pointer (some t)))).run Tryz.prog w
  = .ok (.agg #[.pointer (some ⟨14,182,none⟩),.pointer (some ⟨w.heap.size,0,none⟩),.int .u64 150]) (w.alloc (.cells #[.pointer (some t)] 182)) := by kernel_rfl
theorem valueOfEL (n:Int) (w:World):(ReflectliteValue.unpack (.iface 181 (.agg #[.int .i64 n]))).run Tryz.prog w
  = .ok (.agg #[.pointer (some ⟨14,181,none⟩),.pointer (some ⟨w.heap.size,0,none⟩),.int .u64 153]) (w.alloc (.cells #[.int .i64 n] 181)) := by kernel_rfl
theorem typePL (a:Addr) (w:World):(ReflectliteValue.methodAny (ReflectliteValue.valueError "reflectlite.Value.Type" 0) (fun t _ _ _ => ReflectliteType.toType t) #[.agg #[.pointer (some ⟨14,182,none⟩),.pointer (some a),.int .u64 150]]).run Tryz.prog w
  = .ok (.iface 250 (.agg #[.pointer (some ⟨14,182,none⟩)])) w := by kernel_rfl
theorem kindPL (w:World):((ReflectliteType.abiMethod fun t => Functor.map (fun a:Nat => Value.int IntKind.u8 (a:Int)) (Rtype.kind t)) #[.pointer (some ⟨14,182,none⟩)]).run Tryz.prog w = .ok (.int .u8 22) w := by kernel_rfl
theorem kindEL (w:World):((ReflectliteType.abiMethod fun t => Functor.map (fun a:Nat => Value.int IntKind.u8 (a:Int)) (Rtype.kind t)) #[.pointer (some ⟨14,181,none⟩)]).run Tryz.prog w = .ok (.int .u8 25) w := by kernel_rfl
theorem elemPL (w:World):(ReflectliteType.method ReflectliteType.elem #[.agg #[.pointer (some ⟨14,182,none⟩)]]).run Tryz.prog w = .ok (.iface 250 (.agg #[.pointer (some ⟨14,181,none⟩)])) w := by kernel_rfl
theorem implementsEL (w:World):(ReflectliteType.relation "Implements" ReflectliteType.implements_ #[.agg #[.pointer (some ⟨14,181,none⟩)],.iface 250 (.agg #[.pointer (some ⟨14,26,none⟩)])]).run Tryz.prog w = .ok (.bool true) w := by kernel_rfl
theorem typeOfEL (v:Value) (w:World):(ReflectliteType.typeOf #[.iface 181 v]).run Tryz.prog w = .ok (.iface 250 (.agg #[.pointer (some ⟨14,181,none⟩)])) w := by kernel_rfl
theorem assignableEL (w:World):(ReflectliteType.relation "AssignableTo" ReflectliteType.assignableTo #[.agg #[.pointer (some ⟨14,181,none⟩)],.iface 250 (.agg #[.pointer (some ⟨14,181,none⟩)])]).run Tryz.prog w = .ok (.bool true) w := by kernel_rfl
theorem partsPL (a:Addr) (w:World):(ReflectliteValue.parts (.agg #[.pointer (some ⟨14,182,none⟩),.pointer (some a),.int .u64 150])).run Tryz.prog w = .ok (some (182,a,150)) w := by kernel_rfl
theorem partsAL (a:Addr) (w:World):(ReflectliteValue.parts (.agg #[.pointer (some ⟨14,181,none⟩),.pointer (some a),.int .u64 409])).run Tryz.prog w = .ok (some (181,a,409)) w := by kernel_rfl
theorem partsEL (a:Addr) (w:World):(ReflectliteValue.parts (.agg #[.pointer (some ⟨14,181,none⟩),.pointer (some a),.int .u64 153])).run Tryz.prog w = .ok (some (181,a,153)) w := by kernel_rfl
theorem elemOfPL (w:World):(Rtype.elem? 182).run Tryz.prog w = .ok (some 181) w := by kernel_rfl
theorem mkEL (p:Addr) (w:World):(ReflectliteValue.mk 181 p ReflectliteValue.flagAddr).run Tryz.prog w = .ok (.agg #[.pointer (some ⟨14,181,none⟩),.pointer (some p),.int .u64 409]) w := by kernel_rfl
theorem directEL (w:World):(Rtype.directlyAssignable 181 181).run Tryz.prog w = .ok true w := by kernel_rfl
theorem isNilPL (a p:Addr) (W:World) (ha:W.cell? a = some (.pointer (some p))) :
  (ReflectliteValue.method (ReflectliteValue.valueError "reflectlite.Value.IsNil" 0) ReflectliteValue.isNil #[.agg #[.pointer (some ⟨14,182,none⟩),.pointer (some a),.int .u64 150]]).run Tryz.prog W = .ok (.bool false) W := by
 show Sem.run Tryz.prog (ReflectliteValue.parts (.agg #[.pointer (some ⟨14,182,none⟩),.pointer (some a),.int .u64 150]) >>= _) W = _
 simp only [Sem.run_bind,partsPL,Result.andThen]
 simp [ReflectliteValue.isNil,loadVar,isAgg,underlying,Tryz.underlying182,ha,Result.andThen]
theorem elemVL (a p:Addr) (W:World) (ha:W.cell? a = some (.pointer (some p))) :
  (ReflectliteValue.method (ReflectliteValue.valueError "reflectlite.Value.Elem" 0) ReflectliteValue.elem #[.agg #[.pointer (some ⟨14,182,none⟩),.pointer (some a),.int .u64 150]]).run Tryz.prog W
   = .ok (.agg #[.pointer (some ⟨14,181,none⟩),.pointer (some p),.int .u64 409]) W := by
 show Sem.run Tryz.prog (ReflectliteValue.parts (.agg #[.pointer (some ⟨14,182,none⟩),.pointer (some a),.int .u64 150]) >>= _) W = _
 simp only [Sem.run_bind,partsPL,Result.andThen]
 simp [ReflectliteValue.elem,loadVar,isAgg,underlying,Tryz.underlying182,ha,Result.andThen,elemOfPL,mkEL]
theorem setEL (ta b:Addr) (n:Int) (old:Value) (W:World) (hb:W.cell? b = some (.int .i64 n)) (ht:W.cell? ta = some old) (hf:W.frozen? ta = false) :
  (ReflectliteValue.set #[.agg #[.pointer (some ⟨14,181,none⟩),.pointer (some ta),.int .u64 409],.agg #[.pointer (some ⟨14,181,none⟩),.pointer (some b),.int .u64 153]]).run Tryz.prog W
   = .ok (.tuple #[]) (W.setCell ta (.int .i64 n)) := by
 have hl:(loadCells b 1).run Tryz.prog W = .ok #[.int .i64 n] W := run_loadCells W b 1 (fun _ => .int .i64 n) fun j hj => by
  obtain rfl:j = 0 := by omega
  exact hb
 show Sem.run Tryz.prog (ReflectliteValue.parts (.agg #[.pointer (some ⟨14,181,none⟩),.pointer (some ta),.int .u64 409]) >>= fun r => ReflectliteValue.parts (.agg #[.pointer (some ⟨14,181,none⟩),.pointer (some b),.int .u64 153]) >>= fun q => _) W = _
 simp only [Sem.run_bind,partsAL,partsEL,Result.andThen]
 simp [ReflectliteValue.flagAddr,loadVar,isAgg,underlying,Tryz.underlying181,hl,Result.andThen,directEL,storeVar,Value.cells,storeCells,Addr.add]
 rw [run_store Tryz.prog W ta _ _ (by rfl)]
 simp [ht,hf]
theorem noAs (v:Value) (w:World):(Instr.typeAssert (.iface 70 v) 26 255 true).run Tryz.prog w = .ok (.tuple #[.nilIface,.bool false]) w := run_typeAssert_lacksB Tryz.underlying255 (by kernel_rfl) (by kernel_rfl) v 26 w
theorem noUnwrap (v:Value) (w:World):(Instr.typeAssert (.iface 70 v) 26 258 true).run Tryz.prog w = .ok (.tuple #[.nilIface,.bool false]) w := run_typeAssert_lacksB Tryz.underlying258 (by kernel_rfl) (by kernel_rfl) v 26 w
theorem noUnwraps (v:Value) (w:World):(Instr.typeAssert (.iface 70 v) 26 259 true).run Tryz.prog w = .ok (.tuple #[.nilIface,.bool false]) w := run_typeAssert_lacksB Tryz.underlying259 (by kernel_rfl) (by kernel_rfl) v 26 w
theorem assignableN (w:World):(ReflectliteType.relation "AssignableTo" ReflectliteType.assignableTo #[.agg #[.pointer (some ⟨14,70,none⟩)],.iface 250 (.agg #[.pointer (some ⟨14,181,none⟩)])]).run Tryz.prog w = .ok (.bool false) w := by kernel_rfl
end Go.Proofs.YtdmniblonikjlakGreatDoor.As


namespace Go.Proofs.YtdmniblonikjlakGreatDoor.As
open Go.RowKit Go.Extern.Stop Go.Stop Go.Extern
set_option maxHeartbeats 4000000 in
theorem as_hitL (n:Int) (t:Addr) (old:Value) (w:World) (hg:w.cell? ⟨0,0,none⟩ = some (.iface 250 (.agg #[.pointer (some ⟨14,26,none⟩)]))) (ht0:w.cell? t = some old) (hf0:w.frozen? t = false) :
  Calls Tryz.prog 88 #[.iface 181 (.agg #[.int .i64 n]),.iface 182 (.pointer (some t))] w fun ev w' => ev = .returned (.bool true) ∧
   w' = ((((w.alloc (.cells #[.pointer (some t)] 182)).alloc (.cells #[.pointer (some ⟨14,182,none⟩),.pointer (some ⟨w.heap.size,0,none⟩),.int .u64 150] 221)).alloc (.cells #[.pointer (some ⟨14,182,none⟩),.pointer (some ⟨w.heap.size,0,none⟩),.int .u64 150] 221)).alloc (.cells #[.int .i64 n] 181)).setCell t (.int .i64 n) := by
 have h1 := @run_callFunc_extern Tryz.prog 123 _ (fun args => ReflectliteValue.unpack (args.getD 0 (.tuple #[]))) Tryz.func123 (by kernel_rfl) (by kernel_rfl) (by kernel_rfl) (by kernel_rfl)
 have h2 := @run_callFunc_extern Tryz.prog 124 _ (ReflectliteValue.methodAny (ReflectliteValue.valueError "reflectlite.Value.Type" 0) (fun t _ _ _ => ReflectliteType.toType t)) Tryz.func124 (by kernel_rfl) (by kernel_rfl) (by kernel_rfl) (by kernel_rfl)
 have h3 := @run_callFunc_extern Tryz.prog 125 _ (ReflectliteValue.method (ReflectliteValue.valueError "reflectlite.Value.IsNil" 0) ReflectliteValue.isNil) Tryz.func125 (by kernel_rfl) (by kernel_rfl) (by kernel_rfl) (by kernel_rfl)
 have h4 := @run_callFunc_extern Tryz.prog 228 _ (ReflectliteType.abiMethod fun t => do pure (.int .u8 (← Rtype.kind t))) Tryz.func228 (by kernel_rfl) (by kernel_rfl) (by kernel_rfl) (by kernel_rfl)
 have h5 := @run_callFunc_extern Tryz.prog 240 _ (ReflectliteType.method ReflectliteType.elem) Tryz.func240 (by kernel_rfl) (by kernel_rfl) (by kernel_rfl) (by kernel_rfl)
 have h6 := @run_callFunc_extern Tryz.prog 241 _ (ReflectliteType.relation "Implements" ReflectliteType.implements_) Tryz.func241 (by kernel_rfl) (by kernel_rfl) (by kernel_rfl) (by kernel_rfl)
 have h7 := @run_callFunc_extern Tryz.prog 159 _ ReflectliteType.typeOf Tryz.func159 (by kernel_rfl) (by kernel_rfl) (by kernel_rfl) (by kernel_rfl)
 have h8 := @run_callFunc_extern Tryz.prog 238 _ (ReflectliteType.relation "AssignableTo" ReflectliteType.assignableTo) Tryz.func238 (by kernel_rfl) (by kernel_rfl) (by kernel_rfl) (by kernel_rfl)
 have h9 := @run_callFunc_extern Tryz.prog 160 _ (ReflectliteValue.method (ReflectliteValue.valueError "reflectlite.Value.Elem" 0) ReflectliteValue.elem) Tryz.func160 (by kernel_rfl) (by kernel_rfl) (by kernel_rfl) (by kernel_rfl)
 have h10 := @run_callFunc_extern Tryz.prog 161 _ ReflectliteValue.set Tryz.func161 (by kernel_rfl) (by kernel_rfl) (by kernel_rfl) (by kernel_rfl)
 have g1 := typeOfEL
 have g2 := methodAssignableTo
 have g3 := assignableEL
 have g4 := valueOfEL
 have g5 := valueOfPL
 have g6 := typePL
 have g7 := methodKind
 have g8 := methodElem
 have g9 := methodImplements
 have g10 := kindPL
 have g11 := kindEL
 have g12 := elemPL
 have g13 := implementsEL
 have n8 := isNilPL ⟨w.heap.size,0,none⟩ t ((w.alloc (.cells #[.pointer (some t)] 182)).alloc (.cells #[.pointer (some ⟨14,182,none⟩),.pointer (some ⟨w.heap.size,0,none⟩),.int .u64 150] 221)) (by simp)
 have hlt:0 < w.heap.size := block_lt_of_cell hg
 have hg2:((w.alloc (.cells #[.pointer (some t)] 182)).alloc (.cells #[.pointer (some ⟨14,182,none⟩),.pointer (some ⟨w.heap.size,0,none⟩),.int .u64 150] 221)).cell? ⟨0,0,none⟩ = some (.iface 250 (.agg #[.pointer (some ⟨14,26,none⟩)])) := by
  rw [World.cell?_alloc_lt _ _ ⟨0,0,none⟩ (by simp),World.cell?_alloc_lt _ _ ⟨0,0,none⟩ hlt]; exact hg
 have htl:t.block < w.heap.size := block_lt_of_cell ht0
 have el := elemVL ⟨w.heap.size,0,none⟩ t (((w.alloc (.cells #[.pointer (some t)] 182)).alloc (.cells #[.pointer (some ⟨14,182,none⟩),.pointer (some ⟨w.heap.size,0,none⟩),.int .u64 150] 221)).alloc (.cells #[.pointer (some ⟨14,182,none⟩),.pointer (some ⟨w.heap.size,0,none⟩),.int .u64 150] 221)) (by rw [World.cell?_alloc_lt _ _ ⟨w.heap.size,0,none⟩ (by simp; omega)]; simp)
 have st := setEL t ⟨w.heap.size + 1 + 1 + 1,0,none⟩ n old ((((w.alloc (.cells #[.pointer (some t)] 182)).alloc (.cells #[.pointer (some ⟨14,182,none⟩),.pointer (some ⟨w.heap.size,0,none⟩),.int .u64 150] 221)).alloc (.cells #[.pointer (some ⟨14,182,none⟩),.pointer (some ⟨w.heap.size,0,none⟩),.int .u64 150] 221)).alloc (.cells #[.int .i64 n] 181))
  (by rw [World.cell?_alloc_at _ _ _ _ (by simp)]; rfl)
  (by rw [World.cell?_alloc_lt _ _ t (by simp; omega),World.cell?_alloc_lt _ _ t (by simp; omega),World.cell?_alloc_lt _ _ t (by simp; omega),World.cell?_alloc_lt _ _ t htl]; exact ht0)
  (by rw [World.frozen?_alloc_old _ _ t (by simp; omega),World.frozen?_alloc_old _ _ t (by simp; omega),World.frozen?_alloc_old _ _ t (by simp; omega),World.frozen?_alloc_old _ _ t (Nat.ne_of_lt htl)]; exact hf0)
 go_enter Tryz.func88,Tryz.ntmps88
 go_wp2
 refine wp_loop_rounds 1 ?_
 rw [rounds_succ]
 go_wp2
 go_ret
 exact ⟨rfl,rfl⟩
set_option maxHeartbeats 4000000 in
set_option maxRecDepth 100000 in
theorem as_missL (n:Int) (t:Addr) (w:World) (hg:w.cell? ⟨0,0,none⟩ = some (.iface 250 (.agg #[.pointer (some ⟨14,26,none⟩)]))) :
  Calls Tryz.prog 88 #[.iface 70 (.int .i64 n),.iface 182 (.pointer (some t))] w fun ev w' => ev = .returned (.bool false) ∧ Below w.heap.size w w' := by
 have h1 := @run_callFunc_extern Tryz.prog 123 _ (fun args => ReflectliteValue.unpack (args.getD 0 (.tuple #[]))) Tryz.func123 (by kernel_rfl) (by kernel_rfl) (by kernel_rfl) (by kernel_rfl)
 have h2 := @run_callFunc_extern Tryz.prog 124 _ (ReflectliteValue.methodAny (ReflectliteValue.valueError "reflectlite.Value.Type" 0) (fun t _ _ _ => ReflectliteType.toType t)) Tryz.func124 (by kernel_rfl) (by kernel_rfl) (by kernel_rfl) (by kernel_rfl)
 have h3 := @run_callFunc_extern Tryz.prog 125 _ (ReflectliteValue.method (ReflectliteValue.valueError "reflectlite.Value.IsNil" 0) ReflectliteValue.isNil) Tryz.func125 (by kernel_rfl) (by kernel_rfl) (by kernel_rfl) (by kernel_rfl)
 have h4 := @run_callFunc_extern Tryz.prog 228 _ (ReflectliteType.abiMethod fun t => do pure (.int .u8 (← Rtype.kind t))) Tryz.func228 (by kernel_rfl) (by kernel_rfl) (by kernel_rfl) (by kernel_rfl)
 have h5 := @run_callFunc_extern Tryz.prog 240 _ (ReflectliteType.method ReflectliteType.elem) Tryz.func240 (by kernel_rfl) (by kernel_rfl) (by kernel_rfl) (by kernel_rfl)
 have h6 := @run_callFunc_extern Tryz.prog 241 _ (ReflectliteType.relation "Implements" ReflectliteType.implements_) Tryz.func241 (by kernel_rfl) (by kernel_rfl) (by kernel_rfl) (by kernel_rfl)
 have h7 := @run_callFunc_extern Tryz.prog 159 _ ReflectliteType.typeOf Tryz.func159 (by kernel_rfl) (by kernel_rfl) (by kernel_rfl) (by kernel_rfl)
 have h8 := @run_callFunc_extern Tryz.prog 238 _ (ReflectliteType.relation "AssignableTo" ReflectliteType.assignableTo) Tryz.func238 (by kernel_rfl) (by kernel_rfl) (by kernel_rfl) (by kernel_rfl)
 have g1 := typeOfE
 have g2 := methodAssignableTo
 have g3 := assignableN
 have n1 := noAs (.int .i64 n)
 have n2 := noUnwrap (.int .i64 n)
 have n3 := noUnwraps (.int .i64 n)
 have g5 := valueOfPL
 have g6 := typePL
 have g7 := methodKind
 have g8 := methodElem
 have g9 := methodImplements
 have g10 := kindPL
 have g11 := kindEL
 have g12 := elemPL
 have g13 := implementsEL
 have n8 := isNilPL ⟨w.heap.size,0,none⟩ t ((w.alloc (.cells #[.pointer (some t)] 182)).alloc (.cells #[.pointer (some ⟨14,182,none⟩),.pointer (some ⟨w.heap.size,0,none⟩),.int .u64 150] 221)) (by simp)
 have hlt:0 < w.heap.size := block_lt_of_cell hg
 have hg2:((w.alloc (.cells #[.pointer (some t)] 182)).alloc (.cells #[.pointer (some ⟨14,182,none⟩),.pointer (some ⟨w.heap.size,0,none⟩),.int .u64 150] 221)).cell? ⟨0,0,none⟩ = some (.iface 250 (.agg #[.pointer (some ⟨14,26,none⟩)])) := by
  rw [World.cell?_alloc_lt _ _ ⟨0,0,none⟩ (by simp),World.cell?_alloc_lt _ _ ⟨0,0,none⟩ hlt]; exact hg
 go_enter Tryz.func88,Tryz.ntmps88
 go_wp2
 refine wp_loop_rounds 1 ?_
 rw [rounds_succ]
 go_wp2
 go_ret
 exact ⟨rfl,(((Below.refl _ _).alloc (Nat.le_refl _) _).alloc (by simp) _).alloc (by simp <;> omega) _⟩
end Go.Proofs.YtdmniblonikjlakGreatDoor.As


namespace Go.Proofs.YtdmniblonikjlakGreatDoor.Run
open Go.RowKit
open As (Laid as_hit as_hitL as_missL)
set_option linter.unusedVariables false
set_option maxRecDepth 100000 in
theorem err_name (c:Int) (h:1 ≤ c ∧ c ≤ 8) (w:World):Calls Tryz.prog 97 #[.int .i64 c] w fun e w' => e = .returned (.string (tx (nm c))) ∧ w' = w := by
 have h8:c = 1 ∨ c = 2 ∨ c = 3 ∨ c = 4 ∨ c = 5 ∨ c = 6 ∨ c = 7 ∨ c = 8 := by omega
 clear h
 rcases h8 with rfl | rfl | rfl | rfl | rfl | rfl | rfl | rfl
 all_goals
  go_enter Tryz.func97,Tryz.ntmps97
  go_wp2
  go_ret
  exact ⟨rfl,rfl⟩
set_option maxRecDepth 100000 in
theorem told_line (w:World) (hg:Laid w):Calls Tryz.prog 50 #[lineE] w fun e w' => e = .returned (.string (ByteArray.mk #[98,97,100])) ∧ Below w.heap.size w w' := by
 obtain ⟨W0,eW⟩:∃ W,W = (w.alloc (.cells #[.int .i64 0] 181)).alloc (.cells #[.int .i64 0] 70) := ⟨_,rfl⟩
 have B0:Hid (Below w.heap.size w W0) := by subst eW; exact ((Below.refl _ _).alloc (Nat.le_refl _) _).alloc (by simp) _
 have G0:Hid (Laid W0) := hg.later B0.out
 have T0:Hid (W0.cell? ⟨w.heap.size,0,none⟩ = some (.int .i64 0) ∧ W0.frozen? ⟨w.heap.size,0,none⟩ = false ∧ w.heap.size < W0.heap.size) := by
  subst eW
  refine ⟨?_,?_,by simp <;> omega⟩
  ·rw [World.cell?_alloc_lt _ _ ⟨w.heap.size,0,none⟩ (by simp)]
   simp
  ·rw [World.frozen?_alloc_old _ _ ⟨w.heap.size,0,none⟩ (by simp)]
   simp
 have E:lineE = .iface 181 (.agg #[.int .i64 2]) := rfl
 rw [E]
 clear hg E
 go_enter Tryz.func50,Tryz.ntmps50
 go_wp2_with fail
 rw [← eW]
 clear eW
 refine (as_hitL 2 ⟨w.heap.size,0,none⟩ (.int .i64 0) W0 G0.out T0.out.1 T0.out.2.1).mono ?_
 rintro e w1 ⟨rfl,hw⟩
 have B1:Hid (Below w.heap.size w w1) := by
  have hs := B0.out.size
  subst hw
  exact ((((B0.out.alloc hs _).alloc (by simp <;> omega) _).alloc (by simp <;> omega) _).alloc (by simp <;> omega) _).setCell (Nat.le_refl _) _
 clear hw
 go_wp2
 go_ret
 exact ⟨rfl,B1.out⟩
set_option maxRecDepth 100000 in
set_option maxHeartbeats 2000000 in
theorem told_errno (c:Int) (hc:1 ≤ c ∧ c ≤ 8) (w:World) (hg:Laid w):Calls Tryz.prog 50 #[.iface 70 (.int .i64 c)] w fun e w' => e = .returned (.string (tx (nm c))) ∧ Below w.heap.size w w' := by
 obtain ⟨W0,eW⟩:∃ W,W = (w.alloc (.cells #[.int .i64 0] 181)).alloc (.cells #[.int .i64 0] 70) := ⟨_,rfl⟩
 have B0:Hid (Below w.heap.size w W0) := by subst eW; exact ((Below.refl _ _).alloc (Nat.le_refl _) _).alloc (by simp) _
 have G0:Hid (Laid W0) := hg.later B0.out
 have T0:Hid (W0.cell? ⟨w.heap.size + 1,0,none⟩ = some (.int .i64 0) ∧ W0.frozen? ⟨w.heap.size + 1,0,none⟩ = false ∧ w.heap.size + 1 < W0.heap.size) := by
  subst eW
  refine ⟨?_,World.frozen?_alloc_at _ _ _ _ (by simp),by simp <;> omega⟩
  rw [World.cell?_alloc_at _ _ _ _ (by simp)]
  rfl
 have HC:Hid (1 ≤ c ∧ c ≤ 8) := hc
 clear hg hc
 go_enter Tryz.func50,Tryz.ntmps50
 go_wp2_with fail
 rw [← eW]
 clear eW
 refine (as_missL c ⟨w.heap.size,0,none⟩ W0 G0.out).mono ?_
 rintro e w1 ⟨rfl,hb⟩
 have t1:w1.cell? ⟨w.heap.size + 1,0,none⟩ = some (.int .i64 0) := (hb.cell (p := ⟨w.heap.size + 1,0,none⟩) T0.out.2.2).trans T0.out.1
 have t2:w1.frozen? ⟨w.heap.size + 1,0,none⟩ = false := (hb.frozen (p := ⟨w.heap.size + 1,0,none⟩) T0.out.2.2).trans T0.out.2.1
 have B1:Hid (Below w.heap.size w w1 ∧ w1.cell? ⟨w.heap.size + 1,0,none⟩ = some (.int .i64 0) ∧ w1.frozen? ⟨w.heap.size + 1,0,none⟩ = false ∧ w.heap.size + 1 < w1.heap.size) := ⟨B0.out.trans (hb.mono B0.out.size),t1,t2,Nat.lt_of_lt_of_le T0.out.2.2 hb.size⟩
 have G1:Hid (Laid w1) := G0.out.later hb
 clear hb t1 t2
 go_wp2_with fail
 refine (as_hit c ⟨w.heap.size + 1,0,none⟩ (.int .i64 0) w1 G1.out B1.out.2.1 B1.out.2.2.1).mono ?_
 rintro e w2 ⟨rfl,hw⟩
 have c2:w2.cell? ⟨w.heap.size + 1,0,none⟩ = some (.int .i64 c) := by
  subst hw
  refine World.cell?_setCell_same _ _ _ (u := .int .i64 0) ?_
  have hlt := B1.out.2.2.2
  rw [World.cell?_alloc_lt _ _ ⟨w.heap.size + 1,0,none⟩ (by simp <;> omega),World.cell?_alloc_lt _ _ ⟨w.heap.size + 1,0,none⟩ (by simp <;> omega),World.cell?_alloc_lt _ _ ⟨w.heap.size + 1,0,none⟩ (by simp <;> omega),World.cell?_alloc_lt _ _ ⟨w.heap.size + 1,0,none⟩ hlt]
  exact B1.out.2.1
 have B2:Hid (Below w.heap.size w w2) := by
  have hs := B1.out.1.size
  subst hw
  exact ((((B1.out.1.alloc hs _).alloc (by simp <;> omega) _).alloc (by simp <;> omega) _).alloc (by simp <;> omega) _).setCell (by show w.heap.size ≤ w.heap.size + 1; omega) _
 clear hw
 go_wp2_with fail
 refine (err_name c HC.out w2).mono ?_
 rintro e w3 ⟨rfl,rfl⟩
 go_wp2
 go_ret
 exact ⟨rfl,B2.out⟩
end Go.Proofs.YtdmniblonikjlakGreatDoor.Run


namespace Go.Proofs.YtdmniblonikjlakGreatDoor.Run
open Go.RowKit
open Vec (Vw)
open His (Ev Ew chkC rows rows_length rows_get Lw vectors_ok)
set_option linter.unusedVariables false
set_option maxRecDepth 100000 in
theorem vector_no (a:Option Addr) (len cap:Nat) (h:List Ev) (i:Nat) (w:World) (hlc:len ≤ cap) (hm:cap ≤ maxLen) (hv:Ew w a len h) (hc:chkC h = 0) (hi:len ≤ i) (hi9:i ≤ 9999) :
  Calls Tryz.prog 152 #[.slice a len cap,.int .i64 (i:Int)] w fun e w' => e = .returned (.tuple #[.slice none 0 0,.iface 70 (.int .i64 1)]) ∧ Below w.heap.size w w' := by
 have hlI:(len:Int) ≤ (i:Int) := by omega
 have hi9I:(i:Int) ≤ 9999 := by omega
 have VC:Hid (Calls Tryz.prog 17 #[.slice a len cap] w fun e w' => ∃ A,e = .returned (.tuple #[.slice (some ⟨A,0,none⟩) len len,.nilIface]) ∧ Below w.heap.size w w' ∧ Lw w' (some ⟨A,0,none⟩) len (rows h len)) := vectors_ok a len cap h w hlc hm hv hc
 clear hlc hm hv hc hi hi9
 go_enter Tryz.func152,Tryz.ntmps152
 go_wp2_with fail
 refine VC.out.mono ?_
 rintro e w1 ⟨A,rfl,hb,-⟩
 have B1:Hid (Below w.heap.size w w1) := hb
 clear hb
 go_wp2
 go_ret2
 exact ⟨rfl,B1.out⟩
set_option maxRecDepth 100000 in
theorem vector_ok (a:Option Addr) (len cap:Nat) (h:List Ev) (i:Nat) (w:World) (hlc:len ≤ cap) (hm:cap ≤ maxLen) (hv:Ew w a len h) (hc:chkC h = 0) (hi:i < len) (hl9:len ≤ 60) :
  Calls Tryz.prog 152 #[.slice a len cap,.int .i64 (i:Int)] w fun e w' => (∃ q c,e = .returned (.tuple #[.slice q 5 c,.nilIface]) ∧ Vw w' q 5 (His.row h i)) ∧ Below w.heap.size w w' := by
 have hlI:¬ (len:Int) ≤ (i:Int) := by omega
 have hiI:(i:Int) < (len:Int) := by omega
 have hi0:(0:Int) ≤ (i:Int) := by omega
 have hi9I:(i:Int) ≤ 60 := by omega
 have HI:Hid (i < len) := hi
 have VC:Hid (Calls Tryz.prog 17 #[.slice a len cap] w fun e w' => ∃ A,e = .returned (.tuple #[.slice (some ⟨A,0,none⟩) len len,.nilIface]) ∧ Below w.heap.size w w' ∧ Lw w' (some ⟨A,0,none⟩) len (rows h len)) := vectors_ok a len cap h w hlc hm hv hc
 clear hlc hm hv hc hi hl9
 go_enter Tryz.func152,Tryz.ntmps152
 go_wp2_with fail
 refine VC.out.mono ?_
 rintro e w1 ⟨A,rfl,hb,hL⟩
 have B1:Hid (Below w.heap.size w w1) := hb
 obtain ⟨b,off,eA,-,hr⟩ := hL.2 (by omega)
 cases eA
 obtain ⟨q,c,hcell,hvw⟩ := hr i HI.out
 rw [rows_get h HI.out] at hcell hvw
 rw [Nat.zero_add] at hcell
 rw [His.row_len] at hcell hvw
 have V1:Hid (Vw w1 q 5 (His.row h i)) := hvw
 clear hb hL hr hvw
 go_wp2
 go_ret2
 exact ⟨⟨q,c,rfl,V1.out⟩,B1.out⟩
end Go.Proofs.YtdmniblonikjlakGreatDoor.Run


namespace Go.Proofs.YtdmniblonikjlakGreatDoor.Run
open Go.RowKit
open Fif (own_lt own_block own_form own_mono)
set_option linter.unusedVariables false
theorem sizeBd:(Tryz.prog.info? 114).map (·.size) = some 2 := by kernel_rfl
theorem liesBd:liesAt Tryz.prog Tryz.prog.depth 114 (2 / Tryz.prog.cellsOf 114) 0 114 1 = true := by kernel_rfl
theorem infoBd:(Tryz.prog.info? 5).map (fun i => (i.zero,i.size,i.bytes)) = some (some (.int .u8 0),1,1) := by kernel_rfl
theorem info_bd:∃ i,Tryz.prog.info? 5 = some i ∧ i.zero = some (.int .u8 0) ∧ i.size = 1 ∧ i.bytes = 1 := by
 obtain ⟨i,hi,hzz⟩ := Option.map_eq_some_iff.1 infoBd
 simp only [Prod.mk.injEq] at hzz
 exact ⟨i,hi,hzz.1,hzz.2.1,hzz.2.2⟩
structure Bd (w:World) (B b:Nat) (p v:Value) (l:T):Prop where
 lo:B ≤ b
 own:w.ownsRow B 5 1 v l.length (Lib.byteCells l)
 ne:v.ownBlock ≠ some b
 ptr:p = .pointer none ∨ p = .pointer (some ⟨b,0,none⟩)
 blk:w.heap[b]? = some (.cells #[p,v] 114 (0,0))
theorem Bd.lt {w:World} {B b:Nat} {p v:Value} {l:T} (h:Bd w B b p v l):b < w.heap.size := (Array.getElem?_eq_some_iff.1 h.blk).1
theorem Bd.keep {w w':World} {B b:Nat} {p v:Value} {l:T} (h:Bd w B b p v l) (hb:w'.heap[b]? = w.heap[b]?) (hv:∀ k,v.ownBlock = some k → w'.heap[k]? = w.heap[k]?):Bd w' B b p v l :=
 ⟨h.lo,own_block h.own hv,h.ne,h.ptr,hb.trans h.blk⟩
theorem Bd.at {w:World} {B b:Nat} {p v:Value} {l:T} (h:Bd w B b p v l):Lib.BuilderAt 114 5 B b p (Lib.byteCells l) w :=
 ⟨h.lo,v,h.blk,by rw [Lib.byteCells_length]; exact h.own,h.ne⟩
theorem Bd.is {w:World} {B b:Nat} {p v:Value} {l:T} (h:Bd w B b p v l):Lib.IsBuilder 114 5 B b (Lib.byteCells l) w := by
 rcases h.ptr with e | e <;> subst e
 ·exact .inl h.at
 ·exact .inr h.at
theorem bd_put {w:World} {B b:Nat} {p v v':Value} {l:T} (hb:w.heap[b]? = some (.cells #[p,v] 114 (0,0))) (ho:w.ownsRow B 5 1 v' l.length (Lib.byteCells l)) (hB:B ≤ b) (hp:p = .pointer none ∨ p = .pointer (some ⟨b,0,none⟩)) (hne:v'.ownBlock ≠ some b):Bd (w.setCell ⟨b,1,none⟩ v') B b p v' l := by
 refine ⟨hB,own_block ho fun k q => Below.heap_setCell w _ _ k fun e => hne (by rw [q,e]),hne,hp,?_⟩
 show (w.heap.modify b _)[b]? = _
 rw [Array.getElem?_modify,if_pos rfl,hb]
 rfl
structure Bs (w w':World) (b:Nat) (v v':Value):Prop where
 size:w.heap.size ≤ w'.heap.size
 old:∀ k,k < w.heap.size → k ≠ b → v.ownBlock ≠ some k → w'.heap[k]? = w.heap[k]?
 new:∀ k,v'.ownBlock = some k → v.ownBlock = some k ∨ w.heap.size ≤ k
set_option maxRecDepth 100000 in
theorem used_bd (b:Nat) (w:World) (h0:w.cell? ⟨b,0,none⟩ = some (.pointer (some ⟨b,0,none⟩))) :
  Calls Tryz.prog 100 #[.pointer (some ⟨b,0,none⟩)] w fun e w' => e = .returned (.tuple #[]) ∧ w' = w := by
 obtain ⟨j,hj,-⟩ := Option.map_eq_some_iff.1 sizeBd
 have en := Lib.run_neq_ptr_same (P := Tryz.prog) w ⟨b,0,none⟩ Tryz.underlying112 hj
 go_enter Tryz.func100,Tryz.ntmps100
 go_wp2
 go_end0
 exact ⟨rfl,rfl⟩
set_option maxRecDepth 100000 in
theorem fresh_bd (b:Nat) (w:World) (h0:w.cell? ⟨b,0,none⟩ = some (.pointer none)) (hsh:w.shape? b = some (114,2)) (hfz:w.frozen? ⟨b,0,none⟩ = false) :
  Calls Tryz.prog 100 #[.pointer (some ⟨b,0,none⟩)] w fun e w' => e = .returned (.tuple #[]) ∧ w' = w.setCell ⟨b,0,none⟩ (.pointer (some ⟨b,0,none⟩)) := by
 obtain ⟨j,hj,hjs⟩ := Option.map_eq_some_iff.1 sizeBd
 have e1 := Lib.run_to_unsafe (P := Tryz.prog) w ⟨b,0,none⟩ Tryz.underlying112 Tryz.underlying218 hj (by rw [hjs]; decide) hsh (Nat.zero_lt_succ 1)
 have e2 := Lib.run_from_unsafe (P := Tryz.prog) w ⟨b,0,none⟩ Tryz.underlying218 Tryz.underlying112 hj hsh liesBd
 have e3:∀ x W,(callFunc 140 #[x]).run Tryz.prog W = .ok (.value x) W := by
  intro x W
  rw [run_callFunc_extern Tryz.func140 (by kernel_rfl) (by kernel_rfl) (by kernel_rfl) (e := Extern.AbiNoEscape.same) (by kernel_rfl),Lib.run_noEscape]
  rfl
 go_enter Tryz.func100,Tryz.ntmps100
 go_wp2
 go_end0
 exact ⟨rfl,rfl⟩
theorem copy_bd {w:World} {B b:Nat} {p v:Value} {l:T} (h:Bd w B b p v l) :
  Calls Tryz.prog 100 #[.pointer (some ⟨b,0,none⟩)] w fun e w' => e = .returned (.tuple #[]) ∧ Bd w' B b (.pointer (some ⟨b,0,none⟩)) v l ∧ Below B w w' ∧ w'.heap.size = w.heap.size ∧ ∀ k,k ≠ b → w'.heap[k]? = w.heap[k]? := by
 rcases h.ptr with e | e
 ·subst e
  refine (fresh_bd b w h.at.cell0 h.at.shape h.at.frozen0).mono ?_
  rintro e w' ⟨rfl,rfl⟩
  have hk:∀ k,k ≠ b → (w.setCell ⟨b,0,none⟩ (.pointer (some ⟨b,0,none⟩))).heap[k]? = w.heap[k]? := fun k hk => Below.heap_setCell w _ _ k hk
  refine ⟨rfl,⟨h.lo,own_block h.own fun k q => hk k fun e => h.ne (by rw [q,e]),h.ne,.inr rfl,?_⟩,(Below.refl B w).setCell (p := ⟨b,0,none⟩) h.lo _,?_,hk⟩
  ·show (w.heap.modify b _)[b]? = _
   rw [Array.getElem?_modify,if_pos rfl,h.blk]
   rfl
  ·show (w.heap.modify b _).size = _
   exact Array.size_modify
 ·subst e
  refine (used_bd b w h.at.cell0).mono ?_
  rintro e w' ⟨rfl,rfl⟩
  exact ⟨rfl,h,Below.refl B _,rfl,fun _ _ => rfl⟩
theorem run_text (w:World) (base:Nat) (ty:TypeId) (v:Value) (l:T) (hown:w.ownsRow base 5 1 v l.length (Lib.byteCells l)) (s:ByteArray) (hn:l.length + s.size ≤ 100000000000000) (hbase:base ≤ w.heap.size) :
  ∃ v' w',(Builtin.append_ #[89,9] ty #[v,.string s]).run Tryz.prog w = .ok v' w' ∧ w'.ownsRow base 5 1 v' (l ++ bs s).length (Lib.byteCells (l ++ bs s)) ∧ w.grownBy w' v.ownBlock ∧ ∀ k,v'.ownBlock = some k → v.ownBlock = some k ∨ w.heap.size ≤ k := by
 obtain ⟨i,h1,h2,h3,h4⟩ := info_bd
 have e1:(l ++ bs s).length = l.length + s.size := by rw [List.length_append,bs_len]
 have e2:Lib.byteCells (l ++ bs s) = Lib.byteCells l ++ Lib.strCells s := Lib.byteCells_append l (bs s)
 rw [e1,e2]
 rcases hown.2 with ⟨rfl,hl⟩ | ⟨g,cap,cur,rfl,hb,hg,hc,hm,hsz,ht⟩
 ·have hl0:l = [] := List.eq_nil_of_length_eq_zero hl
  obtain ⟨v',w',hr,h5,h6,-⟩ := Lib.run_append_own_string (P := Tryz.prog) w w.heap.size 89 9 ty 5 i Tryz.underlying89 Tryz.underlying9 h1 h2 h3 h4 (.slice none 0 0) l.length (Lib.byteCells l) (by subst hl0; exact World.ownsRow_nil _ _ _ _) s (by unfold maxLen; omega) (by omega) (Nat.le_refl _)
  exact ⟨v',w',hr,own_mono h5 hbase,h6,fun k hk => .inr (own_lt h5 k hk).1⟩
 ·by_cases hroom:l.length + s.size ≤ cap
  ·obtain ⟨v',w',hr,h5,h6,-⟩ := Lib.run_append_own_string (P := Tryz.prog) w base 89 9 ty 5 i Tryz.underlying89 Tryz.underlying9 h1 h2 h3 h4 _ l.length (Lib.byteCells l) hown s (by unfold maxLen; omega) (by omega) hbase
   have hr2 := Lib.run_append_room_string (P := Tryz.prog) w 89 9 ty 5 i Tryz.underlying89 Tryz.underlying9 h1 h3 g l.length cap cur hg s hroom (by omega)
   have e := hr.symm.trans hr2
   injection e with e3 e4
   exact ⟨v',w',hr,h5,h6,fun k hk => .inl (by rw [e3] at hk; exact hk)⟩
  ·obtain ⟨v',w',hr,h5,h6,-⟩ := Lib.run_append_own_string (P := Tryz.prog) w base 89 9 ty 5 i Tryz.underlying89 Tryz.underlying9 h1 h2 h3 h4 _ l.length (Lib.byteCells l) hown s (by unfold maxLen; omega) (by omega) hbase
   have hr2 := Lib.run_append_grow_string (P := Tryz.prog) w 89 9 ty 5 i (.int .u8 0) Tryz.underlying89 Tryz.underlying9 h1 h2 ⟨g,0,none⟩ l.length cap (Lib.byteCells l) (by rw [h3,Lib.byteCells_length,Nat.mul_one]) (hown.cells (g := g) rfl) s (by omega) (by omega) (by rw [h4]; exact growslice_fits (by omega) (by omega))
   have e := hr.symm.trans hr2
   injection e with e3 e4
   exact ⟨v',w',hr,h5,h6,fun k hk => .inr (by rw [e3] at hk; simp [Value.ownBlock] at hk; omega)⟩
theorem app_txt (w:World) {ops:Array Oper} {rest:List Oper} {o:Oper} {a:Act} {Q:Exit → Act → World → Prop} (hgd:o.guard = none) (sl x:Operand)
  (ho:o.op = .call { callee := .builtin .append,args := #[sl,x],argTypes := #[89,9] }) (base:Nat) (v:Value) (l:T) (hs:a.eval sl = v) (hown:w.ownsRow base 5 1 v l.length (Lib.byteCells l))
  (s:ByteArray) (hx:a.eval x = .string s) (hn:l.length + s.size ≤ 100000000000000) (hbase:base ≤ w.heap.size)
  (h:∀ v' w',w'.ownsRow base 5 1 v' (l ++ bs s).length (Lib.byteCells (l ++ bs s)) → w.grownBy w' v.ownBlock → (∀ k,v'.ownBlock = some k → v.ownBlock = some k ∨ w.heap.size ≤ k) → wpList Tryz.prog ops Q rest (a.put o.dst v') w'):wpList Tryz.prog ops Q (o :: rest) a w := by
 refine wpList_plain hgd fun K hK => ?_
 obtain ⟨v',w',hr,h2,h3,h4⟩ := run_text w base o.type v l hown s hn hbase
 unfold Oper.wp execOp
 simp only [ho,resolve,invoke,builtin,Sem.run_bind,Sem.run_pure,Result.andThen_ok,List.map_toArray,List.map_cons,List.map_nil,hs,hx,hr]
 exact hK _ _ (h v' w' h2 h3 h4)
theorem one_byte (c:UInt8):∀ u ∈ [Value.int .u8 (c.toNat:Int)],u.oneCell' = true := by
 intro u hu
 obtain rfl := List.mem_singleton.1 hu
 rfl
theorem app_byte (w:World) {ops:Array Oper} {rest:List Oper} {o:Oper} {a:Act} {Q:Exit → Act → World → Prop} (hgd:o.guard = none) (sl x:Operand)
  (ho:o.op = .call { callee := .builtin .append,args := #[sl,x],argTypes := #[89,89] }) (base:Nat) (v:Value) (l:T) (hs:a.eval sl = v) (hown:w.ownsRow base 5 1 v l.length (Lib.byteCells l))
  (c:UInt8) (g n:Nat) (hx:a.eval x = .slice (some ⟨g,0,none⟩) 1 n) (hc:∀ j u,[Value.int .u8 (c.toNat:Int)][j]? = some u → w.cell? ((⟨g,0,none⟩:Addr).add j) = some u) (hn:l.length + 1 ≤ 100000000000000) (hbase:base ≤ w.heap.size)
  (h:∀ v' w',w'.ownsRow base 5 1 v' (l ++ [c]).length (Lib.byteCells (l ++ [c])) → w.grownBy w' v.ownBlock → (∀ k,v'.ownBlock = some k → v.ownBlock = some k ∨ w.heap.size ≤ k) → wpList Tryz.prog ops Q rest (a.put o.dst v') w'):wpList Tryz.prog ops Q (o :: rest) a w := by
 obtain ⟨i,h1,h2,h3,h4⟩ := info_bd
 refine wpList_append_lies w hgd sl x 89 ho base 5 i (.int .u8 0) 1 1 Tryz.underlying89 h1 h2 h3 h4 rfl (by decide) v l.length (Lib.byteCells l) hs hown ⟨g,0,none⟩ 1 n [.int .u8 (c.toNat:Int)] hx rfl hc (one_byte c) (by decide) (by unfold maxLen; omega) (by omega) hbase _ rfl ?_
 intro g9 c9 w' ho' hg hl _
 refine h _ w' ?_ hg fun k hk => ?_
 ·rw [List.length_append,Lib.byteCells_append]
  exact ho'
 ·have e:k = g9 := by simpa [Value.ownBlock] using hk.symm
  rw [e]
  rcases hl with hl | hl
  ·exact .inl hl
  ·exact .inr (by omega)
set_option maxRecDepth 100000 in
theorem write_bd {w:World} {B b:Nat} {p v:Value} {l:T} (s:ByteArray) (h:Bd w B b p v l) (hn:l.length + s.size ≤ 100000000000000) (hB:B ≤ w.heap.size) :
  Calls Tryz.prog 52 #[.pointer (some ⟨b,0,none⟩),.string s] w fun e w' => e = .returned (.tuple #[.int .i64 s.size,.nilIface]) ∧ Below B w w' ∧ ∃ p' v',Bd w' B b p' v' (l ++ bs s) ∧ Bs w w' b v v' := by
 have HL:Hid (l.length + s.size ≤ 100000000000000 ∧ B ≤ w.heap.size) := ⟨hn,hB⟩
 have HBL:Hid (B ≤ b ∧ b < w.heap.size ∧ v.ownBlock ≠ some b) := ⟨h.lo,h.lt,h.ne⟩
 clear hn hB
 go_enter Tryz.func52,Tryz.ntmps52
 go_wp2_with (refine (copy_bd h).mono ?_)
 rintro e w1 ⟨rfl,h1,hb1,hsz,hk1⟩
 have c1:w1.cell? ⟨b,1,none⟩ = some v := by rw [Lib.cell_of_heap h1.blk]; rfl
 have K:Hid (Bd w1 B b (.pointer (some ⟨b,0,none⟩)) v l ∧ Below B w w1 ∧ w1.heap.size = w.heap.size ∧ ∀ k,k ≠ b → w1.heap[k]? = w.heap[k]?) := ⟨h1,hb1,hsz,hk1⟩
 clear h1 hb1 hsz hk1 h
 go_wp2_with (at_builtin; refine app_txt _ rfl _ _ rfl B v l rfl K.out.1.own s rfl HL.out.1 (by have := HL.out; have := K.out.2.2.1; omega) ?_)
 intro v' w2 hown' hgrow hnew
 have hb2:w2.heap[b]? = some (.cells #[.pointer (some ⟨b,0,none⟩),v] 114 (0,0)) := (hgrow.block b K.out.1.lt (fun e => K.out.1.ne e.symm)).trans K.out.1.blk
 have d1:w2.cell? ⟨b,1,none⟩ = some v := by rw [Lib.cell_of_heap hb2]; rfl
 have f1:w2.frozen? ⟨b,1,none⟩ = false := Lib.frozen_of_heap hb2 1
 obtain ⟨ao,n',cap,rfl⟩:∃ ao n' cap,v' = .slice ao n' cap := by
  obtain ⟨q,cap,e⟩ := own_form hown'
  exact ⟨_,_,_,e⟩
 have K2:Hid (w2.heap[b]? = some (.cells #[.pointer (some ⟨b,0,none⟩),v] 114 (0,0)) ∧ w2.ownsRow B 5 1 (.slice ao n' cap) (l ++ bs s).length (Lib.byteCells (l ++ bs s)) ∧ w1.grownBy w2 v.ownBlock ∧ ∀ k,(Value.slice ao n' cap).ownBlock = some k → v.ownBlock = some k ∨ w1.heap.size ≤ k) := ⟨hb2,by rw [List.length_append]; exact hown',hgrow,hnew⟩
 clear hb2 hown' hgrow hnew
 go_wp2
 go_ret2
 refine ⟨rfl,?_,_,_,bd_put K2.out.1 K2.out.2.1 K.out.1.lo (.inr rfl) (fun e => ?_),?_⟩
 ·exact (K.out.2.1.grown K2.out.2.2.1 (by have := K.out.2.2.1; have := HL.out; omega) (fun k hk => (own_lt K.out.1.own k hk).1)).setCell (p := ⟨b,1,none⟩) K.out.1.lo _
 ·rcases K2.out.2.2.2 b e with q | q
  ·exact K.out.1.ne q
  ·have := K.out.1.lt; omega
 ·refine ⟨?_,fun k hk hkb hkv => ?_,fun k hk => ?_⟩
  ·have := K2.out.2.2.1.size
   rw [K.out.2.2.1] at this
   rw [show (w2.setCell ⟨b,1,none⟩ (.slice ao n' cap)).heap.size = w2.heap.size from Array.size_modify]
   exact this
  ·rw [Below.heap_setCell w2 _ _ k hkb,K2.out.2.2.1.block k (by rw [K.out.2.2.1]; exact hk) (fun e => hkv e.symm)]
   exact K.out.2.2.2 k hkb
  ·rcases K2.out.2.2.2 k hk with q | q
   ·exact .inl q
   ·exact .inr (by rw [K.out.2.2.1] at q; exact q)
set_option maxRecDepth 100000 in
theorem byte_bd {w:World} {B b:Nat} {p v:Value} {l:T} (c:UInt8) (ci:Int) (hci:ci = (c.toNat:Int)) (h:Bd w B b p v l) (hn:l.length + 1 ≤ 100000000000000) (hB:B ≤ w.heap.size) :
  Calls Tryz.prog 54 #[.pointer (some ⟨b,0,none⟩),.int .u8 ci] w fun e w' => e = .returned .nilIface ∧ Below B w w' ∧ ∃ p' v',Bd w' B b p' v' (l ++ [c]) ∧ Bs w w' b v v' := by
 subst hci
 have HL:Hid (l.length + 1 ≤ 100000000000000 ∧ B ≤ w.heap.size) := ⟨hn,hB⟩
 have HBL:Hid (B ≤ b ∧ b < w.heap.size ∧ v.ownBlock ≠ some b) := ⟨h.lo,h.lt,h.ne⟩
 obtain ⟨z,ez⟩:∃ z:Int,z = (c.toNat:Int) := ⟨_,rfl⟩
 have EZ:Hid (z = (c.toNat:Int)) := ez
 rw [← ez]
 clear hn hB ez
 go_enter Tryz.func54,Tryz.ntmps54
 go_wp2_with (refine (copy_bd h).mono ?_)
 rintro e w1 ⟨rfl,h1,hb1,hsz,hk1⟩
 have c1:w1.cell? ⟨b,1,none⟩ = some v := by rw [Lib.cell_of_heap h1.blk]; rfl
 have K:Hid (Bd w1 B b (.pointer (some ⟨b,0,none⟩)) v l ∧ Below B w w1 ∧ w1.heap.size = w.heap.size ∧ ∀ k,k ≠ b → w1.heap[k]? = w.heap[k]?) := ⟨h1,hb1,hsz,hk1⟩
 clear h1 hb1 hsz hk1 h
 have A1:Hid (Below B w (w1.alloc (.cells #[.int .u8 z] 5)) ∧ (w1.alloc (.cells #[.int .u8 z] 5)).ownsRow B 5 1 v l.length (Lib.byteCells l) ∧ (w1.alloc (.cells #[.int .u8 z] 5)).heap[b]? = some (.cells #[.pointer (some ⟨b,0,none⟩),v] 114 (0,0)) ∧ (∀ k,k < w1.heap.size → (w1.alloc (.cells #[.int .u8 z] 5)).heap[k]? = w1.heap[k]?) ∧ (w1.alloc (.cells #[.int .u8 z] 5)).heap.size = w1.heap.size + 1) := by
  have ha:∀ k,k < w1.heap.size → (w1.alloc (.cells #[.int .u8 z] 5)).heap[k]? = w1.heap[k]? := fun k hk => Below.heap_alloc _ _ _ hk
  exact ⟨K.out.2.1.alloc (by have := HL.out; have := K.out.2.2.1; omega) _,own_block K.out.1.own fun k q => ha k (own_lt K.out.1.own k q).2,(ha b K.out.1.lt).trans K.out.1.blk,ha,by simp⟩
 go_wp2_with (at_builtin; refine app_byte _ rfl _ _ rfl B v l rfl A1.out.2.1 c w1.heap.size 1 rfl (by rw [← EZ.out]; exact new_str _ _ rfl _ _) HL.out.1 (by have := HL.out; have := K.out.2.2.1; have := A1.out.2.2.2.2; omega) ?_)
 intro v' w2 hown' hgrow hnew
 have hb2:w2.heap[b]? = some (.cells #[.pointer (some ⟨b,0,none⟩),v] 114 (0,0)) := (hgrow.block b (by have := K.out.1.lt; have := A1.out.2.2.2.2; omega) (fun e => K.out.1.ne e.symm)).trans A1.out.2.2.1
 have d1:w2.cell? ⟨b,1,none⟩ = some v := by rw [Lib.cell_of_heap hb2]; rfl
 have f1:w2.frozen? ⟨b,1,none⟩ = false := Lib.frozen_of_heap hb2 1
 obtain ⟨ao,n',cap,rfl⟩:∃ ao n' cap,v' = .slice ao n' cap := by
  obtain ⟨q,cap,e⟩ := own_form hown'
  exact ⟨_,_,_,e⟩
 have K2:Hid (w2.heap[b]? = some (.cells #[.pointer (some ⟨b,0,none⟩),v] 114 (0,0)) ∧ w2.ownsRow B 5 1 (.slice ao n' cap) (l ++ [c]).length (Lib.byteCells (l ++ [c])) ∧ (w1.alloc (.cells #[.int .u8 z] 5)).grownBy w2 v.ownBlock ∧ ∀ k,(Value.slice ao n' cap).ownBlock = some k → v.ownBlock = some k ∨ w1.heap.size + 1 ≤ k) := ⟨hb2,by rw [List.length_append]; exact hown',hgrow,by first | exact hnew | (rw [A1.out.2.2.2.2] at hnew; exact hnew)⟩
 clear hb2 hown' hgrow hnew
 go_wp2
 go_ret
 refine ⟨rfl,?_,_,_,bd_put K2.out.1 K2.out.2.1 K.out.1.lo (.inr rfl) (fun e => ?_),?_⟩
 ·exact (A1.out.1.grown K2.out.2.2.1 (by have := K.out.2.2.1; have := HL.out; have := A1.out.2.2.2.2; omega) (fun k hk => (own_lt K.out.1.own k hk).1)).setCell (p := ⟨b,1,none⟩) K.out.1.lo _
 ·rcases K2.out.2.2.2 b e with q | q
  ·exact K.out.1.ne q
  ·have := K.out.1.lt; omega
 ·refine ⟨?_,fun k hk hkb hkv => ?_,fun k hk => ?_⟩
  ·have := K2.out.2.2.1.size
   rw [A1.out.2.2.2.2,K.out.2.2.1] at this
   rw [show (w2.setCell ⟨b,1,none⟩ (.slice ao n' cap)).heap.size = w2.heap.size from Array.size_modify]
   omega
  ·rw [Below.heap_setCell w2 _ _ k hkb,K2.out.2.2.1.block k (by rw [A1.out.2.2.2.2,K.out.2.2.1]; omega) (fun e => hkv e.symm),A1.out.2.2.2.1 k (by rw [K.out.2.2.1]; exact hk)]
   exact K.out.2.2.2 k hkb
  ·rcases K2.out.2.2.2 k hk with q | q
   ·exact .inl q
   ·exact .inr (by rw [K.out.2.2.1] at q; omega)
end Go.Proofs.YtdmniblonikjlakGreatDoor.Run


namespace Go.Proofs.YtdmniblonikjlakGreatDoor.Run
open Go.RowKit Go.Maps
open Cas (G GI CA start newC_ok start_gi)
open As (Laid)
set_option linter.unusedVariables false
theorem lawS:Keyed Tryz.prog 9 := string_keyed Tryz.underlying9
theorem keyS (s:ByteArray) (hs:s.size ≤ maxLen):keyOf Tryz.prog 9 (.string s) = some (.string (bs s)) := by
 rw [keyOf_string Tryz.underlying9]
 simp [mapKey,Tryz.underlying9,bs,hs]
theorem klS_inj {x y:T} (h:Lit.string x = Lit.string y):x = y := by
 injection h
def RVs (v:Value):Option (DataW Value × List MemPlace) := some (.held v,[])
theorem RVs_inv {u v:Value} {ps:List MemPlace} (h:RVs u = some (.held v,ps)):u = v := by
 have h1:(DataW.held u,([]:List MemPlace)) = (DataW.held v,ps) := Option.some.inj h
 have h2:DataW.held u = DataW.held v := (Prod.mk.inj h1).1
 exact DataW.held.inj h2
theorem ownS_norm {k:TypeId} {w:World} {b n:Nat} {D:DataW Value} (h:w.ownsMap Tryz.prog k RVs b n D):w.ownsMap Tryz.prog k RVs b (Maps.size D) D := by
 obtain ⟨es,clock,hb,F,_,rfl⟩ := h
 exact ⟨es,clock,hb,F,by simp [Maps.size,length_sorted],rfl⟩
theorem ownS_heap {k:TypeId} {w w':World} {b n:Nat} {D:DataW Value} (h:w.ownsMap Tryz.prog k RVs b n D) (he:w'.heap[b]? = w.heap[b]?):w'.ownsMap Tryz.prog k RVs b n D := by
 obtain ⟨es,clock,hb,r⟩ := h
 exact ⟨es,clock,by rw [he]; exact hb,r⟩
structure MPs (D:DataW Value) (F:T → Option Int) (c:Nat):Prop where
 tidy:Tidy D
 has:∀ i,Maps.has D (.string i) = (F i).isSome
 at_:∀ i x,F i = some x → ∀ z,D.atKey (.string i) z = .held (.int .i64 x)
 size:Maps.size D = c
theorem MPs.start:MPs (.map []) (fun _ => none) 0 := ⟨tidy_empty,fun _ => rfl,fun i t h => absurd h (by simp),rfl⟩
def MMs (w:World) (mb:Nat) (F:T → Option Int) (c:Nat):Prop := ∃ D,w.ownsMap Tryz.prog 9 RVs mb (Maps.size D) D ∧ MPs D F c
def putS (F:T → Option Int) (i:T) (x:Int):T → Option Int := fun k => if k = i then some x else F k
variable {w w':World} {mb c:Nat} {F:T → Option Int}
theorem MMs.lt (h:MMs w mb F c):mb < w.heap.size := by
 obtain ⟨D,h,_⟩ := h
 exact h.lt
theorem MMs.of_block (h:MMs w mb F c) (he:w'.heap[mb]? = w.heap[mb]?):MMs w' mb F c := by
 obtain ⟨D,h,v⟩ := h
 exact ⟨D,ownS_heap h he,v⟩
theorem zeroIs (W:World):(zeroValue 3).run Tryz.prog W = .ok (.int .i64 0) W := by kernel_rfl
theorem MMs.look (h:MMs w mb F c) (s:ByteArray) (hs:s.size ≤ maxLen):∀ W:World,W.heap[mb]? = w.heap[mb]? → (Instr.lookup 106 (.map (some mb)) (.string s) false).run Tryz.prog W = .ok (.int .i64 ((F (bs s)).getD 0)) W := by
 obtain ⟨D,hm,v⟩ := h
 intro W hW
 obtain ⟨u,ps,e1,e2⟩ := (ownS_heap hm hW).lookup lawS Tryz.underlying106 (zeroIs W) (zd := .held _) (zp := []) rfl (keyS s hs)
 cases q:F (bs s) with
 | none =>
  rw [atKey_of_not_has (by rw [v.has,q]; rfl)] at e2
  rw [RVs_inv e2] at e1
  exact e1
 | some x =>
  rw [v.at_ _ x q] at e2
  rw [RVs_inv e2] at e1
  exact e1
theorem MMs.put (h:MMs w mb F c) (s:ByteArray) (hs:s.size ≤ maxLen) (x:Int) (hc:c < 1000000):∃ w',(Instr.mapUpdate 106 (.map (some mb)) (.string s) (.int .i64 x)).run Tryz.prog w = .ok () w' ∧ MMs w' mb (putS F (bs s) x) (if (F (bs s)).isSome = true then c else c + 1) ∧ w.mapTurned w' mb := by
 obtain ⟨D,hm,v⟩ := h
 have hk := keyS s hs
 obtain ⟨w',er,h',tt⟩ := hm.store lawS Tryz.underlying106 (by rw [v.size]; unfold maxLen; omega) hk (val := .int .i64 x) rfl
 refine ⟨w',er,⟨_,ownS_norm h',⟨v.tidy.put (lawS.key hk) _,fun y => ?_,fun y z hy => ?_,?_⟩⟩,tt⟩
 ·unfold putS
  by_cases e:y = bs s
  ·rw [if_pos e,e]
   exact has_put_same v.tidy.isMap (lawS.key hk) _
  ·rw [if_neg e,has_put_other (fun q => e (klS_inj q)),v.has]
 ·unfold putS at hy
  by_cases e:y = bs s
  ·rw [if_pos e] at hy
   intro z'
   rw [e,atKey_put_same v.tidy.isMap (lawS.key hk),← Option.some.inj hy]
  ·rw [if_neg e] at hy
   intro z'
   rw [atKey_put_other (fun q => e (klS_inj q)),v.at_ y z hy]
 ·rw [size_put v.tidy,v.has,v.size]
def wantsF:T → Option Int := putS (putS (putS (putS (putS (putS (putS (putS (fun _ => none) [115,97,121] 2) [103,105,118,101] 1) [100,114,111,112] 1) [116,119,105,99,101] 1) [119,97,121] 0) [104,101,97,114,100] 1) [102,97,99,101,115] 0) [99,108,111,99,107] 1
def wantN (w:T):Nat := match many w with | some k => k | none => 0
theorem wants_eq (w:T):(wantsF w).getD 0 = (wantN w:Int) := by
 by_cases h1:w = [115,97,121]; · subst h1; rfl
 by_cases h2:w = [103,105,118,101]; · subst h2; rfl
 by_cases h3:w = [100,114,111,112]; · subst h3; rfl
 by_cases h4:w = [116,119,105,99,101]; · subst h4; rfl
 by_cases h5:w = [119,97,121]; · subst h5; rfl
 by_cases h6:w = [104,101,97,114,100]; · subst h6; rfl
 by_cases h7:w = [102,97,99,101,115]; · subst h7; rfl
 by_cases h8:w = [99,108,111,99,107]; · subst h8; rfl
 have e:many w = none := by simp [many,h1,h2,h3,h4,h5,h6,h7,h8]
 simp [wantsF,putS,wantN,e,h1,h2,h3,h4,h5,h6,h7,h8]
def WM (w:World) (mb:Nat):Prop := ∃ c,MMs w mb wantsF c
theorem WM.look {w:World} {mb:Nat} (h:WM w mb) (s:ByteArray) (hs:s.size ≤ maxLen):(Instr.lookup 106 (.map (some mb)) (.string s) false).run Tryz.prog w = .ok (.int .i64 (wantN (bs s):Nat)) w := by
 obtain ⟨c,h⟩ := h
 rw [← wants_eq]
 exact h.look s hs w rfl
theorem WM.keep {w w':World} {mb:Nat} (h:WM w mb) (he:w'.heap[mb]? = w.heap[mb]?):WM w' mb := by
 obtain ⟨c,h⟩ := h
 exact ⟨c,h.of_block he⟩
theorem WM.lt {w:World} {mb:Nat} (h:WM w mb):mb < w.heap.size := by
 obtain ⟨c,h⟩ := h
 exact h.lt
theorem turned_below {w w':World} {mb B:Nat} (t:w.mapTurned w' mb) (hB:B ≤ mb) (hs:B ≤ w.heap.size):Below B w w' := (Below.refl B w).grown t.grown hs (fun k e => by cases e; exact hB)
structure DS (w:World) (base P M:Nat) (g:G) (fp:List Nat):Prop where
 ca:CA w base P g fp
 gi:GI g
 n3:g.n = 3
 wm:WM w M
 mlo:base ≤ M
 out:M ∉ fp
theorem ret_desk {fn:Func} {tmps:Array Value} {w:World} {p u:Tmp} {B:Nat} {v0 v1 x:Value} (h:fn.results = #[.cell p 108,.tmp u]) (hp:tmps.getD p undef = .pointer (some ⟨B,0,none⟩)) (hu:tmps.getD u undef = x)
  (y0:w.cell? ⟨B,0,none⟩ = some v0) (y1:w.cell? ⟨B,1,none⟩ = some v1):(results fn tmps).run Tryz.prog w = .ok (.tuple #[.agg #[v0,v1],x]) w := by
 rw [results_cell_tmp h,hp,hu]
 simp [asAddr,go_sem,y0,y1]
set_option maxRecDepth 100000 in
set_option maxHeartbeats 1000000 in
theorem desk_any (w:World) (hL:Laid w):Calls Tryz.prog 49 #[] w fun e w' => ∃ P M fp,e = .returned (.tuple #[.agg #[.pointer (some ⟨P,0,none⟩),.map (some M)],.nilIface]) ∧ DS w' (w.heap.size + 1) P M (Cas.start 3) fp ∧ Below w.heap.size w w' := by
 obtain ⟨W0,eW⟩:∃ W,W = w.alloc (.cells #[.pointer none,.map none] 108) := ⟨_,rfl⟩
 have HW:Hid (Below w.heap.size w W0 ∧ W0.heap.size = w.heap.size + 1 ∧ W0.heap[w.heap.size]? = some (.cells #[.pointer none,.map none] 108 (0,0))) := by
  subst eW
  exact ⟨(Below.refl _ _).alloc (Nat.le_refl _) _,by simp,heap_alloc_new w _⟩
 have HL:Hid (Laid W0) := hL.later HW.out.1
 have hmk:∀ W:World,(Instr.makeMap 106 none).run Tryz.prog W = .ok (.map (some W.heap.size)) (W.alloc (.map #[] 0)) := fun _ => rfl
 clear hL
 go_enter Tryz.func49,Tryz.ntmps49
 go_wp2_with fail
 rw [← eW]
 clear eW
 refine (newC_ok 3 W0 (by decide) (by decide) HL.out).mono ?_
 rintro e w1 ⟨P,fp,rfl,hca,hb⟩
 have K1:Hid (CA w1 W0.heap.size P (Cas.start 3) fp ∧ Below W0.heap.size W0 w1) := ⟨hca,hb⟩
 have M0:MMs (w1.alloc (.map #[] 0)) w1.heap.size (fun _ => none) 0 := ⟨.map [],ownS_heap (World.ownsMap_made w1 _ _ _) rfl,MPs.start⟩
 have T0:∀ k,k < w1.heap.size → (w1.alloc (.map #[] 0)).heap[k]? = w1.heap[k]? := fun k hk => Below.heap_alloc _ _ _ hk
 have S0:(w1.alloc (.map #[] 0)).heap.size = w1.heap.size + 1 := by simp
 have U0:Below w1.heap.size w1 (w1.alloc (.map #[] 0)) := (Below.refl _ _).alloc (Nat.le_refl _) _
 clear hca hb
 obtain ⟨V1,e1,M1,t1⟩ := M0.put (ByteArray.mk #[115,97,121]) (by decide) 2 (by decide)
 obtain ⟨V2,e2,M2,t2⟩ := M1.put (ByteArray.mk #[103,105,118,101]) (by decide) 1 (by decide)
 obtain ⟨V3,e3,M3,t3⟩ := M2.put (ByteArray.mk #[100,114,111,112]) (by decide) 1 (by decide)
 obtain ⟨V4,e4,M4,t4⟩ := M3.put (ByteArray.mk #[116,119,105,99,101]) (by decide) 1 (by decide)
 obtain ⟨V5,e5,M5,t5⟩ := M4.put (ByteArray.mk #[119,97,121]) (by decide) 0 (by decide)
 obtain ⟨V6,e6,M6,t6⟩ := M5.put (ByteArray.mk #[104,101,97,114,100]) (by decide) 1 (by decide)
 obtain ⟨V7,e7,M7,t7⟩ := M6.put (ByteArray.mk #[102,97,99,101,115]) (by decide) 0 (by decide)
 obtain ⟨V8,e8,M8,t8⟩ := M7.put (ByteArray.mk #[99,108,111,99,107]) (by decide) 1 (by decide)
 have HM:Hid (WM V8 w1.heap.size) := ⟨_,M8⟩
 have T1:∀ k,k < w1.heap.size → V1.heap[k]? = w1.heap[k]? := fun k hk => (t1.grown.block k (by have := S0; omega) (fun e => by cases e; omega)).trans (T0 k hk)
 have S1:w1.heap.size < V1.heap.size := M1.lt
 have U1:Below w1.heap.size w1 V1 := U0.trans (turned_below t1 (Nat.le_refl _) (Nat.le_of_lt (by have := S0; omega)))
 have T2:∀ k,k < w1.heap.size → V2.heap[k]? = w1.heap[k]? := fun k hk => (t2.grown.block k (by have := S1; omega) (fun e => by cases e; omega)).trans (T1 k hk)
 have S2:w1.heap.size < V2.heap.size := M2.lt
 have U2:Below w1.heap.size w1 V2 := U1.trans (turned_below t2 (Nat.le_refl _) (Nat.le_of_lt (by have := S1; omega)))
 have T3:∀ k,k < w1.heap.size → V3.heap[k]? = w1.heap[k]? := fun k hk => (t3.grown.block k (by have := S2; omega) (fun e => by cases e; omega)).trans (T2 k hk)
 have S3:w1.heap.size < V3.heap.size := M3.lt
 have U3:Below w1.heap.size w1 V3 := U2.trans (turned_below t3 (Nat.le_refl _) (Nat.le_of_lt (by have := S2; omega)))
 have T4:∀ k,k < w1.heap.size → V4.heap[k]? = w1.heap[k]? := fun k hk => (t4.grown.block k (by have := S3; omega) (fun e => by cases e; omega)).trans (T3 k hk)
 have S4:w1.heap.size < V4.heap.size := M4.lt
 have U4:Below w1.heap.size w1 V4 := U3.trans (turned_below t4 (Nat.le_refl _) (Nat.le_of_lt (by have := S3; omega)))
 have T5:∀ k,k < w1.heap.size → V5.heap[k]? = w1.heap[k]? := fun k hk => (t5.grown.block k (by have := S4; omega) (fun e => by cases e; omega)).trans (T4 k hk)
 have S5:w1.heap.size < V5.heap.size := M5.lt
 have U5:Below w1.heap.size w1 V5 := U4.trans (turned_below t5 (Nat.le_refl _) (Nat.le_of_lt (by have := S4; omega)))
 have T6:∀ k,k < w1.heap.size → V6.heap[k]? = w1.heap[k]? := fun k hk => (t6.grown.block k (by have := S5; omega) (fun e => by cases e; omega)).trans (T5 k hk)
 have S6:w1.heap.size < V6.heap.size := M6.lt
 have U6:Below w1.heap.size w1 V6 := U5.trans (turned_below t6 (Nat.le_refl _) (Nat.le_of_lt (by have := S5; omega)))
 have T7:∀ k,k < w1.heap.size → V7.heap[k]? = w1.heap[k]? := fun k hk => (t7.grown.block k (by have := S6; omega) (fun e => by cases e; omega)).trans (T6 k hk)
 have S7:w1.heap.size < V7.heap.size := M7.lt
 have U7:Below w1.heap.size w1 V7 := U6.trans (turned_below t7 (Nat.le_refl _) (Nat.le_of_lt (by have := S6; omega)))
 have T8:∀ k,k < w1.heap.size → V8.heap[k]? = w1.heap[k]? := fun k hk => (t8.grown.block k (by have := S7; omega) (fun e => by cases e; omega)).trans (T7 k hk)
 have S8:w1.heap.size < V8.heap.size := M8.lt
 have U8:Below w1.heap.size w1 V8 := U7.trans (turned_below t8 (Nat.le_refl _) (Nat.le_of_lt (by have := S7; omega)))
 have HT:Hid ((∀ k,k < w1.heap.size → V8.heap[k]? = w1.heap[k]?) ∧ w1.heap.size < V8.heap.size ∧ Below w1.heap.size w1 V8) := ⟨T8,S8,U8⟩
 have hbk:V8.heap[w.heap.size]? = some (.cells #[.pointer none,.map none] 108 (0,0)) := by
  have hlt:w.heap.size < W0.heap.size := by have := HW.out.2.1; omega
  exact (T8 _ (Nat.lt_of_lt_of_le hlt K1.out.2.size)).trans ((K1.out.2.block _ hlt).trans HW.out.2.2)
 have c0:V8.cell? ⟨w.heap.size,0,none⟩ = some (.pointer none) := by rw [Lib.cell_of_heap hbk]; rfl
 have c1:V8.cell? ⟨w.heap.size,1,none⟩ = some (.map none) := by rw [Lib.cell_of_heap hbk]; rfl
 have f0:V8.frozen? ⟨w.heap.size,0,none⟩ = false := Lib.frozen_of_heap hbk 0
 have f1:V8.frozen? ⟨w.heap.size,1,none⟩ = false := Lib.frozen_of_heap hbk 1
 clear M0 T0 S0 U0 M1 T1 S1 U1 t1 M2 T2 S2 U2 t2 M3 T3 S3 U3 t3 M4 T4 S4 U4 t4 M5 T5 S5 U5 t5 M6 T6 S6 U6 t6 M7 T7 S7 U7 t7 M8 T8 S8 U8 t8
 go_wp2_with fail
 have z0:((V8.setCell ⟨w.heap.size,0,none⟩ (.pointer (some ⟨P,0,none⟩))).setCell ⟨w.heap.size,1,none⟩ (.map (some w1.heap.size))).cell? ⟨w.heap.size,0,none⟩ = some (.pointer (some ⟨P,0,none⟩)) := by
  rw [World.cell?_setCell_other _ _ _ _ (by intro e; cases e)]
  exact World.cell?_setCell_same _ _ _ c0
 have z1:((V8.setCell ⟨w.heap.size,0,none⟩ (.pointer (some ⟨P,0,none⟩))).setCell ⟨w.heap.size,1,none⟩ (.map (some w1.heap.size))).cell? ⟨w.heap.size,1,none⟩ = some (.map (some w1.heap.size)) := by
  refine World.cell?_setCell_same _ _ _ (u := .map none) ?_
  rw [World.cell?_setCell_other _ _ _ _ (by intro e; cases e)]
  exact c1
 have zk:∀ k,k ≠ w.heap.size → ((V8.setCell ⟨w.heap.size,0,none⟩ (.pointer (some ⟨P,0,none⟩))).setCell ⟨w.heap.size,1,none⟩ (.map (some w1.heap.size))).heap[k]? = V8.heap[k]? := fun k hk => (Below.heap_setCell _ _ _ k hk).trans (Below.heap_setCell _ _ _ k hk)
 have zb:Below w.heap.size V8 ((V8.setCell ⟨w.heap.size,0,none⟩ (.pointer (some ⟨P,0,none⟩))).setCell ⟨w.heap.size,1,none⟩ (.map (some w1.heap.size))) := ((Below.refl _ _).setCell (p := ⟨w.heap.size,0,none⟩) (Nat.le_refl _) _).setCell (p := ⟨w.heap.size,1,none⟩) (Nat.le_refl _) _
 refine bodyPost_ret (ret_desk rfl rfl rfl z0 z1) rfl ?_
 have hs1 := K1.out.2.size
 have hs0 := HW.out.2.1
 have hfp := K1.out.1.fp
 have hB8:Below w.heap.size w V8 := HW.out.1.trans ((K1.out.2.mono (by omega)).trans (HT.out.2.2.mono (by omega)))
 refine ⟨P,w1.heap.size,fp,rfl,⟨?_,(start_gi (n := 3) (by decide) (by decide)).1,rfl,HM.out.keep (zk _ (by omega)),by omega,fun q => by have := hfp _ q; omega⟩,hB8.trans zb⟩
 rw [← hs0]
 exact K1.out.1.of_blocks (Nat.le_trans HT.out.2.2.size zb.size) fun b q => (zk b (by have := hfp b q; omega)).trans (HT.out.1 b (hfp b q).2)
end Go.Proofs.YtdmniblonikjlakGreatDoor.Run
