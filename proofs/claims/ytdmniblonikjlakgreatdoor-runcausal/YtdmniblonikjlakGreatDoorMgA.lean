/-
  Texts put together: As, Told, Vec, VecA, VecB, VecC, FifM, FifA.
-/
import Derived.Test.YtdmniblonikjlakGreatDoorRows
import Derived.WalkKit
import Derived.WalkSmall
import Derived.LaidEql
import Derived.Stop.Asserts
import Derived.RowKitTokens
import Derived.Deep.QuietTactic
import Derived.BigQuiet
import Derived.Deep.AppendLies
import Derived.Deep.OwnRows

/-
  Contracts of errors.As at a target of type Errno, of plain.Told and of mootsame.Error: nil is OK, an Errno is itself, and nothing that was there is written.
-/
namespace Go.Proofs.YtdmniblonikjlakGreatDoor.As
open Go.RowKit Go.Extern.Stop Go.Stop Go.Extern

theorem valueOfP (t : Addr) (w : World) : (ReflectliteValue.unpack (.iface 171 (.pointer (some t)))).run Tryz.prog w
    = .ok (.agg #[.pointer (some ⟨14, 171, none⟩), .pointer (some ⟨w.heap.size, 0, none⟩), .int .u64 150]) (w.alloc (.cells #[.pointer (some t)] 171)) := by kernel_rfl
theorem valueOfE (n : Int) (w : World) : (ReflectliteValue.unpack (.iface 70 (.int .i64 n))).run Tryz.prog w
    = .ok (.agg #[.pointer (some ⟨14, 70, none⟩), .pointer (some ⟨w.heap.size, 0, none⟩), .int .u64 130]) (w.alloc (.cells #[.int .i64 n] 70)) := by kernel_rfl
theorem typeP (a : Addr) (w : World) : (ReflectliteValue.methodAny (ReflectliteValue.valueError "reflectlite.Value.Type" 0) (fun t _ _ _ => ReflectliteType.toType t) #[.agg #[.pointer (some ⟨14, 171, none⟩), .pointer (some a), .int .u64 150]]).run Tryz.prog w
    = .ok (.iface 250 (.agg #[.pointer (some ⟨14, 171, none⟩)])) w := by kernel_rfl
theorem methodKind (h : Value) (w : World) : (Go.method 448 250 (.agg #[h]) "Kind").run Tryz.prog w = .ok (228, h) w := by kernel_rfl
theorem methodElem (h : Value) (w : World) : (Go.method 448 250 (.agg #[h]) "Elem").run Tryz.prog w = .ok (240, .agg #[h]) w := by kernel_rfl
theorem methodImplements (h : Value) (w : World) : (Go.method 448 250 (.agg #[h]) "Implements").run Tryz.prog w = .ok (241, .agg #[h]) w := by kernel_rfl
theorem methodAssignableTo (h : Value) (w : World) : (Go.method 448 250 (.agg #[h]) "AssignableTo").run Tryz.prog w = .ok (238, .agg #[h]) w := by kernel_rfl
theorem kindP (w : World) : ((ReflectliteType.abiMethod fun t => Functor.map (fun a : Nat => Value.int IntKind.u8 (a : Int)) (Rtype.kind t)) #[.pointer (some ⟨14, 171, none⟩)]).run Tryz.prog w = .ok (.int .u8 22) w := by kernel_rfl
theorem kindE (w : World) : ((ReflectliteType.abiMethod fun t => Functor.map (fun a : Nat => Value.int IntKind.u8 (a : Int)) (Rtype.kind t)) #[.pointer (some ⟨14, 70, none⟩)]).run Tryz.prog w = .ok (.int .u8 2) w := by kernel_rfl
theorem elemP (w : World) : (ReflectliteType.method ReflectliteType.elem #[.agg #[.pointer (some ⟨14, 171, none⟩)]]).run Tryz.prog w = .ok (.iface 250 (.agg #[.pointer (some ⟨14, 70, none⟩)])) w := by kernel_rfl
theorem implementsE (w : World) : (ReflectliteType.relation "Implements" ReflectliteType.implements_ #[.agg #[.pointer (some ⟨14, 70, none⟩)], .iface 250 (.agg #[.pointer (some ⟨14, 26, none⟩)])]).run Tryz.prog w = .ok (.bool true) w := by kernel_rfl
theorem typeOfE (v : Value) (w : World) : (ReflectliteType.typeOf #[.iface 70 v]).run Tryz.prog w = .ok (.iface 250 (.agg #[.pointer (some ⟨14, 70, none⟩)])) w := by kernel_rfl
theorem assignableE (w : World) : (ReflectliteType.relation "AssignableTo" ReflectliteType.assignableTo #[.agg #[.pointer (some ⟨14, 70, none⟩)], .iface 250 (.agg #[.pointer (some ⟨14, 70, none⟩)])]).run Tryz.prog w = .ok (.bool true) w := by kernel_rfl
theorem partsP (a : Addr) (w : World) : (ReflectliteValue.parts (.agg #[.pointer (some ⟨14, 171, none⟩), .pointer (some a), .int .u64 150])).run Tryz.prog w = .ok (some (171, a, 150)) w := by kernel_rfl
theorem partsA (a : Addr) (w : World) : (ReflectliteValue.parts (.agg #[.pointer (some ⟨14, 70, none⟩), .pointer (some a), .int .u64 386])).run Tryz.prog w = .ok (some (70, a, 386)) w := by kernel_rfl
theorem partsE (a : Addr) (w : World) : (ReflectliteValue.parts (.agg #[.pointer (some ⟨14, 70, none⟩), .pointer (some a), .int .u64 130])).run Tryz.prog w = .ok (some (70, a, 130)) w := by kernel_rfl
theorem elemOfP (w : World) : (Rtype.elem? 171).run Tryz.prog w = .ok (some 70) w := by kernel_rfl
theorem mkE (p : Addr) (w : World) : (ReflectliteValue.mk 70 p ReflectliteValue.flagAddr).run Tryz.prog w = .ok (.agg #[.pointer (some ⟨14, 70, none⟩), .pointer (some p), .int .u64 386]) w := by kernel_rfl
theorem directE (w : World) : (Rtype.directlyAssignable 70 70).run Tryz.prog w = .ok true w := by kernel_rfl

theorem isNilP (a p : Addr) (W : World) (ha : W.cell? a = some (.pointer (some p))) :
    (ReflectliteValue.method (ReflectliteValue.valueError "reflectlite.Value.IsNil" 0) ReflectliteValue.isNil #[.agg #[.pointer (some ⟨14, 171, none⟩), .pointer (some a), .int .u64 150]]).run Tryz.prog W = .ok (.bool false) W := by
  show Sem.run Tryz.prog (ReflectliteValue.parts (.agg #[.pointer (some ⟨14, 171, none⟩), .pointer (some a), .int .u64 150]) >>= _) W = _
  simp only [Sem.run_bind, partsP, Result.andThen]
  simp [ReflectliteValue.isNil, loadVar, isAgg, underlying, Tryz.underlying171, ha, Result.andThen]

theorem elemV (a p : Addr) (W : World) (ha : W.cell? a = some (.pointer (some p))) :
    (ReflectliteValue.method (ReflectliteValue.valueError "reflectlite.Value.Elem" 0) ReflectliteValue.elem #[.agg #[.pointer (some ⟨14, 171, none⟩), .pointer (some a), .int .u64 150]]).run Tryz.prog W
      = .ok (.agg #[.pointer (some ⟨14, 70, none⟩), .pointer (some p), .int .u64 386]) W := by
  show Sem.run Tryz.prog (ReflectliteValue.parts (.agg #[.pointer (some ⟨14, 171, none⟩), .pointer (some a), .int .u64 150]) >>= _) W = _
  simp only [Sem.run_bind, partsP, Result.andThen]
  simp [ReflectliteValue.elem, loadVar, isAgg, underlying, Tryz.underlying171, ha, Result.andThen, elemOfP, mkE]

theorem setE (ta b : Addr) (n : Int) (old : Value) (W : World) (hb : W.cell? b = some (.int .i64 n)) (ht : W.cell? ta = some old) (hf : W.frozen? ta = false) :
    (ReflectliteValue.set #[.agg #[.pointer (some ⟨14, 70, none⟩), .pointer (some ta), .int .u64 386], .agg #[.pointer (some ⟨14, 70, none⟩), .pointer (some b), .int .u64 130]]).run Tryz.prog W
      = .ok (.tuple #[]) (W.setCell ta (.int .i64 n)) := by
  show Sem.run Tryz.prog (ReflectliteValue.parts (.agg #[.pointer (some ⟨14, 70, none⟩), .pointer (some ta), .int .u64 386]) >>= fun r => ReflectliteValue.parts (.agg #[.pointer (some ⟨14, 70, none⟩), .pointer (some b), .int .u64 130]) >>= fun q => _) W = _
  simp only [Sem.run_bind, partsA, partsE, Result.andThen]
  simp [ReflectliteValue.flagAddr, loadVar, isAgg, underlying, Tryz.underlying70, hb, Result.andThen, directE, storeVar, Value.cells, storeCells, Addr.add]
  rw [run_store Tryz.prog W ta _ _ (by rfl)]
  simp [ht, hf]

end Go.Proofs.YtdmniblonikjlakGreatDoor.As

/-
  Contracts of errors.As at a target of type Errno, of plain.Told and of mootsame.Error: nil is OK, an Errno is itself, and nothing that was there is written.
-/
namespace Go.Proofs.YtdmniblonikjlakGreatDoor.As
open Go.RowKit Go.Extern.Stop Go.Stop Go.Extern

def Laid (w : World) : Prop := w.cell? ⟨0, 0, none⟩ = some (.iface 250 (.agg #[.pointer (some ⟨14, 26, none⟩)]))

theorem Laid.pos {w : World} (h : Laid w) : 0 < w.heap.size := block_lt_of_cell h
theorem Laid.later {w w' : World} (h : Laid w) (hb : Below w.heap.size w w') : Laid w' := (hb.cell (p := ⟨0, 0, none⟩) h.pos).trans h

set_option maxHeartbeats 4000000 in
theorem as_hit (n : Int) (t : Addr) (old : Value) (w : World) (hg : w.cell? ⟨0, 0, none⟩ = some (.iface 250 (.agg #[.pointer (some ⟨14, 26, none⟩)]))) (ht0 : w.cell? t = some old) (hf0 : w.frozen? t = false) :
    Calls Tryz.prog 88 #[.iface 70 (.int .i64 n), .iface 171 (.pointer (some t))] w fun ev w' => ev = .returned (.bool true) ∧
      w' = ((((w.alloc (.cells #[.pointer (some t)] 171)).alloc (.cells #[.pointer (some ⟨14, 171, none⟩), .pointer (some ⟨w.heap.size, 0, none⟩), .int .u64 150] 221)).alloc (.cells #[.pointer (some ⟨14, 171, none⟩), .pointer (some ⟨w.heap.size, 0, none⟩), .int .u64 150] 221)).alloc (.cells #[.int .i64 n] 70)).setCell t (.int .i64 n) := by
  have h1 := @run_callFunc_extern Tryz.prog 123 _ (fun args => ReflectliteValue.unpack (args.getD 0 (.tuple #[]))) Tryz.func123 (by kernel_rfl) (by kernel_rfl) (by kernel_rfl) (by kernel_rfl)
  have h2 := @run_callFunc_extern Tryz.prog 124 _ (ReflectliteValue.methodAny (ReflectliteValue.valueError "reflectlite.Value.Type" 0) (fun t _ _ _ => ReflectliteType.toType t)) Tryz.func124 (by kernel_rfl) (by kernel_rfl) (by kernel_rfl) (by kernel_rfl)
  have h3 := @run_callFunc_extern Tryz.prog 125 _ (ReflectliteValue.method (ReflectliteValue.valueError "reflectlite.Value.IsNil" 0) ReflectliteValue.isNil) Tryz.func125 (by kernel_rfl) (by kernel_rfl) (by kernel_rfl) (by kernel_rfl)
  have h4 := @run_callFunc_extern Tryz.prog 228 _ (ReflectliteType.abiMethod fun t => do pure (.int .u8 (← Rtype.kind t))) Tryz.func228 (by kernel_rfl) (by kernel_rfl) (by kernel_rfl) (by kernel_rfl)
  have h5 := @run_callFunc_extern Tryz.prog 240 _ (ReflectliteType.method ReflectliteType.elem) Tryz.func240 (by kernel_rfl) (by kernel_rfl) (by kernel_rfl) (by kernel_rfl)
  have h6 := @run_callFunc_extern Tryz.prog 241 _ (ReflectliteType.relation "Implements" ReflectliteType.implements_) Tryz.func241 (by kernel_rfl) (by kernel_rfl) (by kernel_rfl) (by kernel_rfl)
  have h7 := @run_callFunc_extern Tryz.prog 159 _ ReflectliteType.typeOf Tryz.func159 (by kernel_rfl) (by kernel_rfl) (by kernel_rfl) (by kernel_rfl)
  have h8 := @run_callFunc_extern Tryz.prog 238 _ (ReflectliteType.relation "AssignableTo" ReflectliteType.assignableTo) Tryz.func238 (by kernel_rfl) (by kernel_rfl) (by kernel_rfl) (by kernel_rfl)
  have h9 := @run_callFunc_extern Tryz.prog 160 _ (ReflectliteValue.method (ReflectliteValue.valueError "reflectlite.Value.Elem" 0) ReflectliteValue.elem) Tryz.func160 (by kernel_rfl) (by kernel_rfl) (by kernel_rfl) (by kernel_rfl)
  have h10 := @run_callFunc_extern Tryz.prog 161 _ ReflectliteValue.set Tryz.func161 (by kernel_rfl) (by kernel_rfl) (by kernel_rfl) (by kernel_rfl)
  have g1 := typeOfE
  have g2 := methodAssignableTo
  have g3 := assignableE
  have g4 := valueOfE
  have g5 := valueOfP
  have g6 := typeP
  have g7 := methodKind
  have g8 := methodElem
  have g9 := methodImplements
  have g10 := kindP
  have g11 := kindE
  have g12 := elemP
  have g13 := implementsE
  have n8 := isNilP ⟨w.heap.size, 0, none⟩ t ((w.alloc (.cells #[.pointer (some t)] 171)).alloc (.cells #[.pointer (some ⟨14, 171, none⟩), .pointer (some ⟨w.heap.size, 0, none⟩), .int .u64 150] 221)) (by simp)
  have hlt : 0 < w.heap.size := block_lt_of_cell hg
  have hg2 : ((w.alloc (.cells #[.pointer (some t)] 171)).alloc (.cells #[.pointer (some ⟨14, 171, none⟩), .pointer (some ⟨w.heap.size, 0, none⟩), .int .u64 150] 221)).cell? ⟨0, 0, none⟩ = some (.iface 250 (.agg #[.pointer (some ⟨14, 26, none⟩)])) := by
    rw [World.cell?_alloc_lt _ _ ⟨0, 0, none⟩ (by simp), World.cell?_alloc_lt _ _ ⟨0, 0, none⟩ hlt]; exact hg
  have htl : t.block < w.heap.size := block_lt_of_cell ht0
  have el := elemV ⟨w.heap.size, 0, none⟩ t (((w.alloc (.cells #[.pointer (some t)] 171)).alloc (.cells #[.pointer (some ⟨14, 171, none⟩), .pointer (some ⟨w.heap.size, 0, none⟩), .int .u64 150] 221)).alloc (.cells #[.pointer (some ⟨14, 171, none⟩), .pointer (some ⟨w.heap.size, 0, none⟩), .int .u64 150] 221)) (by rw [World.cell?_alloc_lt _ _ ⟨w.heap.size, 0, none⟩ (by simp; omega)]; simp)
  have st := setE t ⟨w.heap.size + 1 + 1 + 1, 0, none⟩ n old ((((w.alloc (.cells #[.pointer (some t)] 171)).alloc (.cells #[.pointer (some ⟨14, 171, none⟩), .pointer (some ⟨w.heap.size, 0, none⟩), .int .u64 150] 221)).alloc (.cells #[.pointer (some ⟨14, 171, none⟩), .pointer (some ⟨w.heap.size, 0, none⟩), .int .u64 150] 221)).alloc (.cells #[.int .i64 n] 70))
    (by rw [World.cell?_alloc_at _ _ _ _ (by simp)]; rfl)
    (by rw [World.cell?_alloc_lt _ _ t (by simp; omega), World.cell?_alloc_lt _ _ t (by simp; omega), World.cell?_alloc_lt _ _ t (by simp; omega), World.cell?_alloc_lt _ _ t htl]; exact ht0)
    (by rw [World.frozen?_alloc_old _ _ t (by simp; omega), World.frozen?_alloc_old _ _ t (by simp; omega), World.frozen?_alloc_old _ _ t (by simp; omega), World.frozen?_alloc_old _ _ t (Nat.ne_of_lt htl)]; exact hf0)
  go_enter Tryz.func88, Tryz.ntmps88
  go_wp2
  refine wp_loop_rounds 1 ?_
  rw [rounds_succ]
  go_wp2
  go_ret
  exact ⟨rfl, rfl⟩





end Go.Proofs.YtdmniblonikjlakGreatDoor.As

/-
  Contracts of package vector's Check, checkBoth, anyGreater, Leq and Apart, for whatever two lists of numbers: what each returns, and that nothing that was there is written.
-/
namespace Go.Proofs.YtdmniblonikjlakGreatDoor.Vec
open Go.RowKit

def out (x : Int) : Bool := decide (x < 0) || decide (1000000 < x)
def anyP (p : Nat → Bool) : Bool := p 0 || p 1 || p 2 || p 3 || p 4

theorem anyP_true {p : Nat → Bool} {k : Nat} (hk : k < 5) (h : p k = true) : anyP p = true := by
  unfold anyP
  match k, hk with
  | 0, _ => simp [h]
  | 1, _ => simp [h]
  | 2, _ => simp [h]
  | 3, _ => simp [h]
  | 4, _ => simp [h]
theorem anyP_false {p : Nat → Bool} (h : ∀ j, j < 5 → p j = false) : anyP p = false := by
  unfold anyP; simp [h 0 (by omega), h 1 (by omega), h 2 (by omega), h 3 (by omega), h 4 (by omega)]

theorem ret_bool {a b : Bool} (h : a = b) : Ending.returned (.bool a) = .returned (.bool b) := by rw [h]

theorem chk1 (b off cap B k : Nat) (x : Int) (w : World) (hk : k < 5) (hv : w.cell? ⟨B, 0, none⟩ = some (.slice (some ⟨b, off, none⟩) 5 cap))
    (hc : w.cell? ⟨b, off + k, none⟩ = some (.int .i64 x)) :
    Calls Tryz.prog 138 #[.int .i64 k, .pointer (some ⟨B, 0, none⟩)] w fun e w' => e = .returned (.bool (out x)) ∧ w' = w := by
  by_cases h1 : x < 0
  · go_enter Tryz.func138, Tryz.ntmps138
    go_wp2
    go_ret
    exact ⟨by simp [out, h1], rfl⟩
  · go_enter Tryz.func138, Tryz.ntmps138
    go_wp2
    go_ret
    exact ⟨by simp [out]; omega, rfl⟩

theorem any1 (p : Nat → Bool) (B : Nat) (w : World)
    (h : Hid (∀ k : Nat, k < 5 → ∀ n, Calls Tryz.prog 138 #[.int .i64 k, .pointer (some ⟨B, 0, none⟩)] (w.drewN n) fun e w' => e = .returned (.bool (p k)) ∧ ∃ m, w' = w.drewN m)) :
    Calls Tryz.prog 137 #[.func (.func 138) #[] #[.pointer (some ⟨B, 0, none⟩)]] w fun e w' => e = .returned (.bool (anyP p)) ∧ ∃ m, w' = w.drewN m := by
  go_enter Tryz.func137, Tryz.ntmps137
  go_wp2
  go_loopw [4] (fun i wr => ∃ k : Nat, k ≤ 5 ∧ i = .int .i64 k ∧ (∃ n, wr = w.drewN n) ∧ Hid (∀ j, j < k → p j = false)) (fun i _ => 5 - (intOf i).toNat)
  case atStart => exact ⟨0, by omega, rfl, ⟨0, rfl⟩, fun j hj => absurd hj (by omega)⟩
  case round =>
    obtain ⟨k, hk, rfl, ⟨n, rfl⟩, hp⟩ := hrel
    by_cases hlt : k < 5
    · cases hb : p k
      · go_wp2_with (go_at_call 138; refine (h.out k hlt _).mono ?_; rintro e w' ⟨rfl, m, rfl⟩)
        go_roundw
        case rel => exact ⟨k + 1, by omega, by go_num, ⟨_, rfl⟩, fun j hj => if e : j < k then hp.out j e else by rw [show j = k by omega]; exact hb⟩
        case measure => simp [intOf]; omega
      · go_wp2_with (go_at_call 138; refine (h.out k hlt _).mono ?_; rintro e w' ⟨rfl, m, rfl⟩)
        go_ret
        exact ⟨ret_bool (anyP_true hlt hb).symm, _, rfl⟩
    · go_wp2
      go_ret
      exact ⟨ret_bool (anyP_false fun j hj => hp.out j (by omega)).symm, _, rfl⟩

end Go.Proofs.YtdmniblonikjlakGreatDoor.Vec

/-
  Contracts of package vector's Check, checkBoth, anyGreater, Leq and Apart, for whatever two lists of numbers: what each returns, and that nothing that was there is written.
-/
namespace Go.Proofs.YtdmniblonikjlakGreatDoor.Vec
open Go.RowKit

def Vw (w : World) (a : Option Addr) (len : Nat) (xs : List Int) : Prop :=
  xs.length = len ∧ (0 < len → ∃ b off, a = some ⟨b, off, none⟩ ∧ b < w.heap.size ∧ ∀ k, k < len → w.cell? ⟨b, off + k, none⟩ = some (.int .i64 (xs.getD k 0)))

theorem Vw.later {w w' : World} {a : Option Addr} {len : Nat} {xs : List Int} (h : Vw w a len xs) (hb : Below w.heap.size w w') : Vw w' a len xs := by
  refine ⟨h.1, fun hl => ?_⟩
  obtain ⟨b, off, e, hlt, hc⟩ := h.2 hl
  exact ⟨b, off, e, Nat.lt_of_lt_of_le hlt hb.size, fun k hk => (hb.cell (p := ⟨b, off + k, none⟩) hlt).trans (hc k hk)⟩

def bad (xs : List Int) : Bool := anyP fun k => out (xs.getD k 0)
def code (xs : List Int) : Int := if xs.length = 5 then (if bad xs then 1 else 0) else 3
def gt (xs ys : List Int) : Bool := anyP fun k => decide (ys.getD k 0 < xs.getD k 0)

theorem check_shape (a : Option Addr) (len cap : Nat) (w : World) (h : len ≠ 5) :
    Calls Tryz.prog 96 #[.slice a len cap] w fun e w' => e = .returned (.iface 70 (.int .i64 3)) ∧ Below w.heap.size w w' := by
  have h5 : ((len : Int) != 5) = true := by rw [bne_iff_ne]; omega
  go_enter Tryz.func96, Tryz.ntmps96
  go_wp2
  go_ret
  exact ⟨rfl, (Below.refl _ _).alloc (Nat.le_refl _) _⟩

theorem check_five (a : Option Addr) (cap : Nat) (xs : List Int) (w : World) (hv : Vw w a 5 xs) :
    Calls Tryz.prog 96 #[.slice a 5 cap] w fun e w' => e = .returned (if bad xs then .iface 70 (.int .i64 1) else .nilIface) ∧ Below w.heap.size w w' := by
  obtain ⟨b, off, rfl, hlt, hc⟩ := hv.2 (by omega)
  have hcall : ∀ B, w.heap.size = B → Hid (∀ k : Nat, k < 5 → ∀ n, Calls Tryz.prog 138 #[.int .i64 k, .pointer (some ⟨B, 0, none⟩)] ((w.alloc (.cells #[.slice (some ⟨b, off, none⟩) 5 cap] 30)).drewN n)
      fun e w' => e = .returned (.bool ((fun k => out (xs.getD k 0)) k)) ∧ ∃ m, w' = (w.alloc (.cells #[.slice (some ⟨b, off, none⟩) 5 cap] 30)).drewN m) := by
    intro B hB k hk n
    subst hB
    refine (chk1 b off cap w.heap.size k (xs.getD k 0) _ hk ?_ ?_).mono ?_
    · simp
    · exact ((below_drewN ((Below.refl w.heap.size w).alloc (Nat.le_refl _) _) n).cell (p := ⟨b, off + k, none⟩) hlt).trans (hc k hk)
    · rintro e w' ⟨rfl, rfl⟩
      exact ⟨rfl, n, rfl⟩
  have H := hcall _ rfl
  clear hcall hc
  cases hb : bad xs
  · have hb' : anyP (fun k => out (xs.getD k 0)) = false := hb
    go_enter Tryz.func96, Tryz.ntmps96
    go_wp2_with fail
    refine (any1 (fun k => out (xs.getD k 0)) _ _ H).mono ?_
    rintro e w' ⟨rfl, m, rfl⟩
    rw [hb']
    go_wp2
    go_ret
    exact ⟨rfl, below_drewN ((Below.refl _ _).alloc (Nat.le_refl _) _) _⟩
  · have hb' : anyP (fun k => out (xs.getD k 0)) = true := hb
    go_enter Tryz.func96, Tryz.ntmps96
    go_wp2_with fail
    refine (any1 (fun k => out (xs.getD k 0)) _ _ H).mono ?_
    rintro e w' ⟨rfl, m, rfl⟩
    rw [hb']
    go_wp2
    go_ret
    exact ⟨rfl, below_drewN ((Below.refl _ _).alloc (Nat.le_refl _) _) _⟩

theorem check_ok (a : Option Addr) (len cap : Nat) (xs : List Int) (w : World) (hv : Vw w a len xs) (h : code xs = 0) :
    Calls Tryz.prog 96 #[.slice a len cap] w fun e w' => e = .returned .nilIface ∧ Below w.heap.size w w' := by
  have h1 := hv.1
  unfold code at h
  split at h
  · rename_i e
    have : len = 5 := by omega
    subst this
    split at h
    · omega
    · rename_i hb
      refine (check_five a cap xs w hv).mono ?_
      rintro e w' ⟨rfl, hw⟩
      exact ⟨by rw [if_neg hb], hw⟩
  · omega

theorem check_no (a : Option Addr) (len cap : Nat) (xs : List Int) (w : World) (hv : Vw w a len xs) (h : code xs ≠ 0) :
    Calls Tryz.prog 96 #[.slice a len cap] w fun e w' => e = .returned (.iface 70 (.int .i64 (code xs))) ∧ Below w.heap.size w w' := by
  have h1 := hv.1
  by_cases e : len = 5
  · subst e
    have hb : bad xs = true := by
      cases hb : bad xs
      · exact absurd (by simp [code, h1, hb]) h
      · rfl
    refine (check_five a cap xs w hv).mono ?_
    rintro e w' ⟨rfl, hw⟩
    exact ⟨by simp [code, h1, hb], hw⟩
  · refine (check_shape a len cap w e).mono ?_
    rintro e' w' ⟨rfl, hw⟩
    exact ⟨by simp [code, h1, e], hw⟩

end Go.Proofs.YtdmniblonikjlakGreatDoor.Vec

/-
  Contracts of package vector's checkBoth, Leq and Apart, and of mootsame.Ints, for whatever two lists of numbers: what each returns, and that nothing that was there is written.
-/
namespace Go.Proofs.YtdmniblonikjlakGreatDoor.Vec
open Go.RowKit

def code2 (xs ys : List Int) : Int := if code xs = 0 then code ys else code xs

theorem code_len {xs : List Int} (h : code xs = 0) : xs.length = 5 := by
  unfold code at h
  split at h
  · assumption
  · omega

theorem getD_eq_of {xs ys : List Int} (hl : xs.length = ys.length) (h : ∀ j, j < xs.length → xs.getD j 0 = ys.getD j 0) : xs = ys := by
  apply List.ext_getElem hl
  intro i h1 h2
  have := h i h1
  simpa [h1, h2] using this

theorem ints_any (a b : Option Addr) (len cap len' cap' : Nat) (xs ys : List Int) (w : World) (hv : Vw w a len xs) (hv' : Vw w b len' ys) (hm : len ≤ maxLen) :
    Calls Tryz.prog 48 #[.slice a len cap, .slice b len' cap'] w fun e w' => e = .returned (.bool (decide (xs = ys))) ∧ ∃ n, w' = w.drewN n := by
  unfold maxLen at hm
  have h1 := hv.1
  have h2 := hv'.1
  by_cases hl : len = len'
  · subst hl
    have HL : Hid (xs.length = ys.length) := by show xs.length = ys.length; omega
    have H1 : Hid (xs.length = len) := h1
    obtain ⟨-, gv⟩ := hv
    obtain ⟨-, gv'⟩ := hv'
    have G : Hid _ := gv
    have G' : Hid _ := gv'
    have hq : ((len : Int) != (len : Int)) = false := by simp
    clear gv gv' h1 h2
    go_enter Tryz.func48, Tryz.ntmps48
    go_wp2
    go_loopw [5] (fun i wr => ∃ k : Nat, k ≤ len ∧ i = .int .i64 k ∧ (∃ n, wr = w.drewN n) ∧ Hid (∀ j, j < k → xs.getD j 0 = ys.getD j 0)) (fun i _ => len - (intOf i).toNat)
    case atStart => exact ⟨0, by omega, rfl, ⟨0, rfl⟩, fun j hj => absurd hj (by omega)⟩
    case round =>
      obtain ⟨k, hk, rfl, ⟨n, rfl⟩, hp⟩ := hrel
      by_cases hlt : k < len
      · obtain ⟨p, off, rfl, hpb, hc⟩ := G.out (by omega)
        obtain ⟨p', off', rfl, hpb', hc'⟩ := G'.out (by omega)
        have hx := hc k hlt
        have hy := hc' k hlt
        obtain ⟨x, ex⟩ : ∃ x, x = xs.getD k 0 := ⟨_, rfl⟩
        obtain ⟨y, ey⟩ : ∃ y, y = ys.getD k 0 := ⟨_, rfl⟩
        rw [← ex] at hx
        rw [← ey] at hy
        have EX : Hid _ := ex
        have EY : Hid _ := ey
        have hk0 : (0 : Int) ≤ (k : Int) := by omega
        have hkl : (k : Int) < (len : Int) := by omega
        clear hc hc' ex ey
        by_cases hxy : x = y
        · have hne : (x != y) = false := by simp [hxy]
          have HXY : Hid _ := hxy
          clear hxy
          go_wp2
          go_quiet (fail)
          go_wp2
          go_roundw
          case rel => exact ⟨k + 1, by omega, by go_num, ⟨_, rfl⟩, fun j hj => if e : j < k then hp.out j e else by rw [show j = k by omega, ← EX.out, ← EY.out]; exact HXY.out⟩
          case measure => simp [intOf]; omega
        · have hne : (x != y) = true := by simp [hxy]
          have HXY : Hid _ := hxy
          clear hxy
          go_wp2
          go_quiet (fail)
          go_wp2
          go_ret
          exact ⟨ret_bool (decide_eq_false fun e => HXY.out (by rw [EX.out, EY.out, e])).symm, _, World.drewN_drewN _ _ _⟩
      · go_wp2
        go_ret
        exact ⟨ret_bool (decide_eq_true (getD_eq_of HL.out fun j hj => hp.out j (by have := H1.out; omega))).symm, _, rfl⟩
  · have hne : ((len : Int) != (len' : Int)) = true := by rw [bne_iff_ne]; omega
    have HN : Hid (xs ≠ ys) := fun e => hl (by rw [← h1, ← h2, e])
    clear h1 h2 hv hv'
    go_enter Tryz.func48, Tryz.ntmps48
    go_wp2
    go_ret
    exact ⟨ret_bool (decide_eq_false HN.out).symm, 0, rfl⟩

end Go.Proofs.YtdmniblonikjlakGreatDoor.Vec

/-
  Small facts on vectors that lie in memory: a list that came in is seen by its numbers, and so is one that was written out in the text; who is greater than whom.
-/
namespace Go.Proofs.YtdmniblonikjlakGreatDoor.Vec
open Go.RowKit

def IsRow (k : IntKind) (w : World) (a : Option Addr) (len cap : Nat) (zs : List Int) : Prop :=
  (a = none ∧ len = 0 ∧ cap = 0 ∧ zs = []) ∨
  ∃ x, a = some x ∧ len ≤ cap ∧ cap ≤ maxLen ∧ zs.length = cap ∧ (∀ i, i < zs.length → w.cell? (x.add i) = some (.int k (zs.getD i 0))) ∧ ∀ n ∈ zs, (Lit.int k n).wf = true

theorem IsRow.len {w : World} {a : Option Addr} {len cap : Nat} {zs : List Int} (h : IsRow .i64 w a len cap zs) : len ≤ maxLen := by
  rcases h with ⟨_, rfl, _, _⟩ | ⟨_, _, h1, h2, _⟩
  · unfold maxLen; omega
  · omega

theorem IsRow.vw {w : World} {a : Option Addr} {len cap : Nat} {zs : List Int} (h : IsRow .i64 w a len cap zs) : Vw w a len (zs.take len) := by
  rcases h with ⟨rfl, rfl, _, rfl⟩ | ⟨⟨b, off, spot⟩, rfl, h1, _, h3, hc, _⟩
  · exact ⟨rfl, fun h => absurd h (by omega)⟩
  · refine ⟨by rw [List.length_take]; omega, fun hl => ?_⟩
    have h0 := hc 0 (by omega)
    have hs : spot = none := by simpa [Addr.add] using World.cell?_spot h0
    subst hs
    refine ⟨b, off, rfl, ?_, fun k hk => ?_⟩
    · have := block_lt_of_cell h0
      simpa [Addr.add] using this
    · have := hc k (by omega)
      rw [Addr.add_lit] at this
      rw [this]
      simp [hk]

theorem Vw.lit (w : World) (x0 x1 x2 x3 x4 : Int) (t : TypeId) : Vw (w.alloc (.cells #[.int .i64 x0, .int .i64 x1, .int .i64 x2, .int .i64 x3, .int .i64 x4] t)) (some ⟨w.heap.size, 0, none⟩) 5 [x0, x1, x2, x3, x4] := by
  refine ⟨rfl, fun _ => ⟨_, _, rfl, by simp, fun k hk => ?_⟩⟩
  match k, hk with
  | 0, _ => simp
  | 1, _ => simp
  | 2, _ => simp
  | 3, _ => simp
  | 4, _ => simp

theorem Vw.litAt (w : World) (N : Nat) (hN : N = w.heap.size) (x0 x1 x2 x3 x4 : Int) (t : TypeId) : Vw (w.alloc (.cells #[.int .i64 x0, .int .i64 x1, .int .i64 x2, .int .i64 x3, .int .i64 x4] t)) (some ⟨N, 0, none⟩) 5 [x0, x1, x2, x3, x4] := by
  subst hN; exact Vw.lit w x0 x1 x2 x3 x4 t

theorem Vw.alloc {w : World} {a : Option Addr} {len : Nat} {xs : List Int} (h : Vw w a len xs) (o : Obj) : Vw (w.alloc o) a len xs := h.later ((Below.refl _ _).alloc (Nat.le_refl _) _)

theorem gt_self (xs : List Int) : gt xs xs = false := anyP_false fun j _ => by simp

theorem gt_false {xs ys : List Int} (h : gt xs ys = false) : ∀ j, j < 5 → xs.getD j 0 ≤ ys.getD j 0 := by
  intro j hj
  cases hb : decide (ys.getD j 0 < xs.getD j 0)
  · have := of_decide_eq_false hb; omega
  · have := anyP_true (p := fun k => decide (ys.getD k 0 < xs.getD k 0)) hj hb
    unfold gt at h
    rw [h] at this
    exact absurd this (by decide)

theorem gt_of {xs ys : List Int} (h : ∀ j, j < 5 → xs.getD j 0 ≤ ys.getD j 0) : gt xs ys = false := anyP_false fun j hj => by have := h j hj; simp; simpa using this

theorem eq_of_gt {xs ys : List Int} (hx : xs.length = 5) (hy : ys.length = 5) (h : gt xs ys = false) (h' : gt ys xs = false) : xs = ys :=
  getD_eq_of (by omega) fun j hj => by have := gt_false h j (by omega); have := gt_false h' j (by omega); omega

end Go.Proofs.YtdmniblonikjlakGreatDoor.Vec

/-
  Plain facts on words that come to one who hears of each member the first, then the second, and so on: what is refused, what is heard, what waits.
-/
namespace Go.Proofs.YtdmniblonikjlakGreatDoor.Fif

/-- a word that has come: whose, which, what -/
abbrev Cm := Int × Int × Int
def key (who n : Int) (c : Cm) : Bool := decide (c.1 = who) && decide (c.2.1 = n)
/-- the word that waits at a place -/
def fnd (ws : List Cm) (who n : Int) : Option Int := (ws.find? (key who n)).map (·.2.2)
def rm (ws : List Cm) (who n : Int) : List Cm := ws.filter fun c => !(key who n c)
/-- no place twice -/
def Uq (ws : List Cm) : Prop := ws.Pairwise fun c d => ¬ (c.1 = d.1 ∧ c.2.1 = d.2.1)

theorem key_iff {who n : Int} {c : Cm} : key who n c = true ↔ c.1 = who ∧ c.2.1 = n := by simp [key]
theorem fnd_none {ws : List Cm} {who n : Int} : fnd ws who n = none ↔ ∀ c ∈ ws, key who n c = false := by
  unfold fnd
  rw [Option.map_eq_none_iff, List.find?_eq_none]
  simp
theorem uq_one {ws : List Cm} (hu : Uq ws) {c d : Cm} (hc : c ∈ ws) (hd : d ∈ ws) (h1 : c.1 = d.1) (h2 : c.2.1 = d.2.1) : c = d := by
  induction ws with
  | nil => exact absurd hc List.not_mem_nil
  | cons e ws ih =>
    unfold Uq at hu
    rw [List.pairwise_cons] at hu
    rcases List.mem_cons.1 hc with rfl | hc'
    · rcases List.mem_cons.1 hd with rfl | hd'
      · rfl
      · exact absurd ⟨h1, h2⟩ (hu.1 d hd')
    · rcases List.mem_cons.1 hd with rfl | hd'
      · exact absurd ⟨h1.symm, h2.symm⟩ (hu.1 c hc')
      · exact ih hu.2 hc' hd'
theorem fnd_some {ws : List Cm} (hu : Uq ws) {who n x : Int} : fnd ws who n = some x ↔ (who, n, x) ∈ ws := by
  unfold fnd
  rw [Option.map_eq_some_iff]
  constructor
  · rintro ⟨c, hc, rfl⟩
    have h1 := List.mem_of_find?_eq_some hc
    have h2 := key_iff.1 (List.find?_some hc)
    have : c = (who, n, c.2.2) := Prod.ext h2.1 (Prod.ext h2.2 rfl)
    rw [← this]
    exact h1
  · intro hm
    cases hf : ws.find? (key who n) with
    | none =>
      rw [List.find?_eq_none] at hf
      exact absurd (key_iff.2 ⟨rfl, rfl⟩) (hf _ hm)
    | some c =>
      refine ⟨c, rfl, ?_⟩
      have h1 := List.mem_of_find?_eq_some hf
      have h2 := key_iff.1 (List.find?_some hf)
      by_cases e : c = (who, n, x)
      · rw [e]
      · exact absurd (uq_one hu h1 hm h2.1 h2.2) e
theorem fnd_rm (ws : List Cm) (who n a b : Int) : fnd (rm ws who n) a b = if a = who ∧ b = n then none else fnd ws a b := by
  by_cases h : a = who ∧ b = n
  · rw [if_pos h, fnd_none]
    intro c hc
    have := (List.mem_filter.1 hc).2
    rw [h.1, h.2]
    simpa using this
  · rw [if_neg h]
    unfold fnd rm
    rw [List.find?_filter]
    congr 2
    funext c
    by_cases hk : key a b c = true
    · have := key_iff.1 hk
      have hn : key who n c = false := by
        rw [Bool.eq_false_iff]
        intro q
        have := key_iff.1 q
        omega
      simp [hk, hn]
    · simp [hk]
theorem rm_uq {ws : List Cm} (hu : Uq ws) (who n : Int) : Uq (rm ws who n) := hu.sublist (List.filter_sublist ..)
theorem rm_none {ws : List Cm} {who n : Int} (h : fnd ws who n = none) : rm ws who n = ws := by
  rw [fnd_none] at h
  exact List.filter_eq_self.2 fun c hc => by simp [h c hc]
/-- one goes, where there is one -/
theorem rm_split {l r : List Cm} {c : Cm} (hu : Uq (l ++ c :: r)) : rm (l ++ c :: r) c.1 c.2.1 = l ++ r := by
  unfold Uq at hu
  rw [List.pairwise_append, List.pairwise_cons] at hu
  obtain ⟨_, ⟨h2, _⟩, h3⟩ := hu
  unfold rm
  rw [List.filter_append, List.filter_cons]
  have hc : key c.1 c.2.1 c = true := key_iff.2 ⟨rfl, rfl⟩
  rw [hc]
  simp only [Bool.not_true, Bool.false_eq_true, if_false]
  congr 1
  · refine List.filter_eq_self.2 fun d hd => ?_
    have := h3 d hd c (List.mem_cons_self ..)
    simp only [Bool.not_eq_true', Bool.eq_false_iff]
    intro q
    exact this (key_iff.1 q)
  · refine List.filter_eq_self.2 fun d hd => ?_
    have := h2 d hd
    simp only [Bool.not_eq_true', Bool.eq_false_iff]
    intro q
    have := key_iff.1 q
    exact h2 d hd ⟨this.1.symm, this.2.symm⟩
theorem rm_len {ws : List Cm} (hu : Uq ws) {who n x : Int} (h : fnd ws who n = some x) : (rm ws who n).length + 1 = ws.length := by
  have hm := (fnd_some hu).1 h
  obtain ⟨l, r, rfl⟩ := List.append_of_mem hm
  have := rm_split hu
  simp only at this
  rw [this]
  simp
  omega

/-- those that wait are heard, as long as one is the next: what is heard, how far one has come, what still waits -/
def drain (who : Int) : Nat → Int → List Cm → List Int × Int × List Cm
  | 0, h, ws => ([], h, ws)
  | f + 1, h, ws => match fnd ws who (h + 1) with
    | none => ([], h, ws)
    | some x => (x :: (drain who f (h + 1) (rm ws who (h + 1))).1, (drain who f (h + 1) (rm ws who (h + 1))).2)
theorem drain_stop {who h : Int} {ws : List Cm} (hn : fnd ws who (h + 1) = none) : ∀ f, drain who f h ws = ([], h, ws)
  | 0 => rfl
  | f + 1 => by simp [drain, hn]
theorem drain_go {who h x : Int} {ws : List Cm} {f : Nat} (hs : fnd ws who (h + 1) = some x) : drain who (f + 1) h ws = (x :: (drain who f (h + 1) (rm ws who (h + 1))).1, (drain who f (h + 1) (rm ws who (h + 1))).2) := by
  simp [drain, hs]
/-- more fuel is no more -/
theorem drain_fuel {who : Int} : ∀ (f : Nat) (h : Int) (ws : List Cm), Uq ws → ws.length ≤ f → ∀ g, ws.length ≤ g → drain who f h ws = drain who g h ws := by
  intro f
  induction f with
  | zero =>
    intro h ws _ hf g _
    have : ws = [] := List.eq_nil_of_length_eq_zero (by omega)
    subst this
    rw [drain_stop rfl, drain_stop rfl]
  | succ f ih =>
    intro h ws hu hf g hg
    cases hs : fnd ws who (h + 1) with
    | none => rw [drain_stop hs, drain_stop hs]
    | some x =>
      have hl := rm_len hu hs
      cases g with
      | zero => omega
      | succ g => rw [drain_go hs, drain_go hs, ih (h + 1) _ (rm_uq hu _ _) (by omega) g (by omega)]
def run (who h : Int) (ws : List Cm) : List Int × Int × List Cm := drain who ws.length h ws
theorem run_stop {who h : Int} {ws : List Cm} (hn : fnd ws who (h + 1) = none) : run who h ws = ([], h, ws) := drain_stop hn _
theorem run_go {who h x : Int} {ws : List Cm} (hu : Uq ws) (hs : fnd ws who (h + 1) = some x) : run who h ws = (x :: (run who (h + 1) (rm ws who (h + 1))).1, (run who (h + 1) (rm ws who (h + 1))).2) := by
  have hl := rm_len hu hs
  unfold run
  cases hn : ws.length with
  | zero => omega
  | succ n => rw [drain_go hs, drain_fuel n (h + 1) _ (rm_uq hu _ _) (by omega) _ (Nat.le_refl _)]
/-- what comes of it -/
theorem run_spec {who : Int} : ∀ (n : Nat) (h : Int) (ws : List Cm), ws.length ≤ n → Uq ws →
    h ≤ (run who h ws).2.1 ∧ ((run who h ws).1.length : Int) = (run who h ws).2.1 - h ∧ Uq (run who h ws).2.2 ∧ fnd (run who h ws).2.2 who ((run who h ws).2.1 + 1) = none ∧
    (∀ a b, fnd (run who h ws).2.2 a b = if a = who ∧ h < b ∧ b ≤ (run who h ws).2.1 then none else fnd ws a b) ∧
    (∀ b, h < b → b ≤ (run who h ws).2.1 → fnd ws who b = some ((run who h ws).1.getD (b - h - 1).toNat 0)) ∧
    (run who h ws).2.2.length + (run who h ws).1.length = ws.length := by
  intro n
  induction n with
  | zero =>
    intro h ws hn hu
    have : ws = [] := List.eq_nil_of_length_eq_zero (by omega)
    subst this
    rw [run_stop rfl]
    refine ⟨Int.le_refl _, by simp, hu, rfl, fun a b => ?_, fun b h1 h2 => by simp at h2; omega, rfl⟩
    rw [if_neg (by show ¬ (a = who ∧ h < b ∧ b ≤ h); omega)]
  | succ n ih =>
    intro h ws hn hu
    cases hs : fnd ws who (h + 1) with
    | none =>
      rw [run_stop hs]
      refine ⟨Int.le_refl _, by simp, hu, hs, fun a b => ?_, fun b h1 h2 => by simp at h2; omega, by simp⟩
      rw [if_neg (by show ¬ (a = who ∧ h < b ∧ b ≤ h); omega)]
    | some x =>
      have hl := rm_len hu hs
      obtain ⟨i1, i2, i3, i4, i5, i6, i7⟩ := ih (h + 1) (rm ws who (h + 1)) (by omega) (rm_uq hu _ _)
      rw [run_go hu hs]
      generalize hR : run who (h + 1) (rm ws who (h + 1)) = R at *
      obtain ⟨o, h', ws'⟩ := R
      simp only at i1 i2 i3 i4 i5 i6 i7 ⊢
      refine ⟨by omega, by simp; omega, i3, i4, fun a b => ?_, fun b h1 h2 => ?_, by simp; omega⟩
      · rw [i5, fnd_rm]
        by_cases e1 : a = who
        · subst e1
          by_cases e2 : b = h + 1
          · subst e2
            rw [if_neg (by omega), if_pos ⟨rfl, rfl⟩, if_pos ⟨rfl, by omega, by omega⟩]
          · by_cases e3 : h + 1 < b ∧ b ≤ h'
            · rw [if_pos ⟨rfl, e3⟩, if_pos ⟨rfl, by omega, by omega⟩]
            · rw [if_neg (by omega), if_neg (by omega), if_neg (by omega)]
        · rw [if_neg (by simp [e1]), if_neg (by simp [e1]), if_neg (by simp [e1])]
      · by_cases e2 : b = h + 1
        · subst e2
          rw [hs]
          simp [show (h + 1 - h - 1).toNat = 0 by omega]
        · have := i6 b (by omega) h2
          rw [fnd_rm, if_neg (by omega)] at this
          rw [this, show (b - h - 1).toNat = (b - (h + 1) - 1).toNat + 1 by omega]
          rfl

/-! one more has come -/
theorem fnd_snoc {ws : List Cm} {who n x : Int} (hn : fnd ws who n = none) (a b : Int) : fnd (ws ++ [(who, n, x)]) a b = if a = who ∧ b = n then some x else fnd ws a b := by
  unfold fnd
  rw [List.find?_append]
  by_cases h : a = who ∧ b = n
  · obtain ⟨rfl, rfl⟩ := h
    rw [if_pos ⟨rfl, rfl⟩]
    unfold fnd at hn
    rw [Option.map_eq_none_iff] at hn
    rw [hn]
    simp [key]
  · rw [if_neg h]
    have : key a b (who, n, x) = false := by
      rw [Bool.eq_false_iff]
      intro q
      have := key_iff.1 q
      simp only at this
      omega
    rw [List.find?_cons, this]
    simp
theorem uq_snoc {ws : List Cm} (hu : Uq ws) {who n : Int} (x : Int) (hn : fnd ws who n = none) : Uq (ws ++ [(who, n, x)]) := by
  unfold Uq
  rw [List.pairwise_append]
  refine ⟨hu, by simp, fun c hc d hd => ?_⟩
  rw [List.mem_singleton] at hd
  subst hd
  rw [fnd_none] at hn
  intro q
  exact absurd (key_iff.2 ⟨q.1, q.2⟩) (by rw [hn c hc]; decide)
def bad (who n word : Int) : Bool := decide (who < 0) || decide (4 < who) || decide (n < 1) || decide (1000000 < n) || decide (word < 1) || decide (30 < word)
/-- what is wrong with a word that comes, where so many of its member were heard -/
def tkC (hw : Int) (ws : List Cm) (who n word : Int) : Int :=
  if bad who n word = true then 1 else if n ≤ hw then 7 else if (fnd ws who n).isSome = true then 7 else if hw + 1 < n ∧ 40 ≤ ws.length then 4 else 0
theorem tkC_ok {hw : Int} {ws : List Cm} {who n word : Int} (hc : tkC hw ws who n word = 0) : bad who n word = false ∧ hw < n ∧ fnd ws who n = none ∧ ¬ (hw + 1 < n ∧ 40 ≤ ws.length) := by
  unfold tkC at hc
  split at hc
  · omega
  · rename_i h1
    split at hc
    · omega
    · split at hc
      · omega
      · rename_i h3
        split at hc
        · omega
        · rename_i h4
          exact ⟨by simpa using h1, by omega, by simpa using h3, h4⟩

/-! words of one member, each its own number -/
theorem few {l : List Int} : ∀ (n : Nat), l.Nodup → (∀ x ∈ l, 1 ≤ x ∧ x ≤ (n : Int)) → l.length ≤ n := by
  intro n
  induction n generalizing l with
  | zero =>
    intro _ hl
    cases l with
    | nil => simp
    | cons x l => have := hl x (List.mem_cons_self ..); omega
  | succ n ih =>
    intro hd hl
    by_cases hm : ((n + 1 : Nat) : Int) ∈ l
    · have h1 := List.length_erase_of_mem hm
      have h2 : (l.erase ((n + 1 : Nat) : Int)).length ≤ n := ih (hd.erase _) fun x hx => by
        obtain ⟨a, b⟩ := (hd.mem_erase_iff).1 hx
        have := hl x b
        omega
      omega
    · have := ih hd fun x hx => by
        have h1 := hl x hx
        have : x ≠ ((n + 1 : Nat) : Int) := fun e => hm (e ▸ hx)
        omega
      omega
/-- those that have come are the first so many, heard, and those that wait -/
structure Wh (who n : Int) (S : Int → Bool) (m : Int) (ws : List Cm) : Prop where
  low : 0 ≤ m
  high : m ≤ n
  uq : Uq ws
  own : ∀ c ∈ ws, c.1 = who ∧ c.2.2 = c.2.1 ∧ m + 1 < c.2.1 ∧ c.2.1 ≤ n
  come : ∀ k, S k = true ↔ (1 ≤ k ∧ k ≤ m) ∨ (fnd ws who k).isSome = true
theorem Wh.start (who : Int) {n : Int} (hn : 0 ≤ n) : Wh who n (fun _ => false) 0 [] :=
  ⟨Int.le_refl _, hn, List.Pairwise.nil, fun c hc => absurd hc List.not_mem_nil, fun k => by
    constructor
    · intro h; exact absurd h (by decide)
    · rintro (h | h)
      · omega
      · exact absurd h (by simp [fnd])⟩
theorem Wh.len {who n : Int} {S : Int → Bool} {m : Int} {ws : List Cm} (g : Wh who n S m ws) (hn : n ≤ 30) : ws.length ≤ 30 := by
  have h1 : (ws.map (·.2.1)).length ≤ 30 := few 30 (by
    rw [List.Nodup, List.pairwise_map]
    refine List.Pairwise.imp_of_mem (fun {c d} hc hd h e => h ⟨?_, e⟩) g.uq
    rw [(g.own c hc).1, (g.own d hd).1]) fun x hx => by
      obtain ⟨c, hc, rfl⟩ := List.mem_map.1 hx
      have := g.own c hc
      have := g.low
      omega
  simpa using h1
theorem Wh.next {who n : Int} {S : Int → Bool} {m : Int} {ws : List Cm} (g : Wh who n S m ws) : S (m + 1) = false := by
  rw [Bool.eq_false_iff]
  intro h
  rcases (g.come _).1 h with a | a
  · omega
  · obtain ⟨x, hx⟩ := Option.isSome_iff_exists.1 a
    have := g.own _ ((fnd_some g.uq).1 hx)
    simp only at this
    omega
/-- when all have come all are heard -/
theorem Wh.all {who n : Int} {S : Int → Bool} {m : Int} {ws : List Cm} (g : Wh who n S m ws) (ha : ∀ k, 1 ≤ k → k ≤ n → S k = true) : m = n ∧ ws = [] := by
  have h1 := g.low
  have h2 := g.high
  have e : m = n := by
    rcases Int.lt_or_le m n with a | a
    · have := g.next
      rw [ha (m + 1) (by omega) (by omega)] at this
      exact absurd this (by decide)
    · omega
  refine ⟨e, ?_⟩
  cases ws with
  | nil => rfl
  | cons c ws =>
    have := g.own c (List.mem_cons_self ..)
    omega
/-- while the first has not come none is heard -/
theorem Wh.notYet {who n : Int} {S : Int → Bool} {m : Int} {ws : List Cm} (g : Wh who n S m ws) (h1 : S 1 = false) : m = 0 := by
  have h0 := g.low
  rcases Int.lt_or_le m 1 with a | a
  · omega
  · rw [(g.come 1).2 (.inl ⟨by omega, a⟩)] at h1
    exact absurd h1 (by decide)
/-- a number that has come already -/
theorem Wh.twice {who n : Int} {S : Int → Bool} {m : Int} {ws : List Cm} (g : Wh who n S m ws) {k : Int} (hk : S k = true) (hb : bad who k k = false) : tkC m ws who k k = 7 := by
  unfold tkC
  rw [if_neg (by rw [hb]; decide)]
  by_cases h : k ≤ m
  · rw [if_pos h]
  · rw [if_neg h, if_pos]
    rcases (g.come k).1 hk with a | a
    · omega
    · exact a
/-- a new one -/
theorem Wh.new {who n : Int} {S : Int → Bool} {m : Int} {ws : List Cm} (g : Wh who n S m ws) (hn : n ≤ 30) {k : Int} (hk : S k = false) (h1 : 1 ≤ k) (h2 : k ≤ n) (hb : bad who k k = false) :
    tkC m ws who k k = 0 ∧ Wh who n (fun j => S j || decide (j = k)) (run who m (ws ++ [(who, k, k)])).2.1 (run who m (ws ++ [(who, k, k)])).2.2 ∧
    (run who m (ws ++ [(who, k, k)])).1 = (List.range ((run who m (ws ++ [(who, k, k)])).2.1 - m).toNat).map (fun i : Nat => m + 1 + (i : Int)) := by
  have hkm : m < k := by
    rcases Int.lt_or_le m k with a | a
    · exact a
    · rw [(g.come k).2 (.inl ⟨h1, a⟩)] at hk
      exact absurd hk (by decide)
  have hf : fnd ws who k = none := by
    cases hs : fnd ws who k with
    | none => rfl
    | some x =>
      rw [(g.come k).2 (.inr (by rw [hs]; rfl))] at hk
      exact absurd hk (by decide)
  have hlen := g.len hn
  have hu := uq_snoc g.uq k hf
  have hs := fnd_snoc (x := k) hf
  obtain ⟨r1, r2, r3, r4, r5, r6, -⟩ := run_spec (who := who) _ m (ws ++ [(who, k, k)]) (Nat.le_refl _) hu
  have hval : ∀ b, m < b → b ≤ (run who m (ws ++ [(who, k, k)])).2.1 → (run who m (ws ++ [(who, k, k)])).1.getD (b - m - 1).toNat 0 = b ∧ b ≤ n := by
    intro b hb1 hb2
    have := r6 b hb1 hb2
    rw [hs] at this
    by_cases e : b = k
    · rw [if_pos ⟨rfl, e⟩] at this
      exact ⟨by have := Option.some.inj this; omega, by omega⟩
    · rw [if_neg (by simp [e])] at this
      have := g.own _ ((fnd_some g.uq).1 this)
      simp only at this
      exact ⟨by omega, by omega⟩
  have hhigh : (run who m (ws ++ [(who, k, k)])).2.1 ≤ n := by
    rcases Int.lt_or_le m (run who m (ws ++ [(who, k, k)])).2.1 with a | a
    · exact (hval _ a (Int.le_refl _)).2
    · have := g.high
      omega
  refine ⟨?_, ⟨by have := g.low; omega, hhigh, r3, fun c hc => ?_, fun j => ?_⟩, ?_⟩
  · unfold tkC
    rw [if_neg (by rw [hb]; decide), if_neg (by omega), if_neg (by rw [hf]; decide), if_neg (by omega)]
  · have hx : fnd (run who m (ws ++ [(who, k, k)])).2.2 c.1 c.2.1 = some c.2.2 := (fnd_some r3).2 hc
    have hx' := hx
    rw [r5] at hx
    split at hx
    · cases hx
    · rename_i hcond
      rw [hs] at hx
      have hwho : c.1 = who ∧ c.2.2 = c.2.1 ∧ m < c.2.1 ∧ c.2.1 ≤ n := by
        split at hx
        · rename_i e
          have := Option.some.inj hx
          exact ⟨e.1, by omega, by omega, by omega⟩
        · have := g.own _ ((fnd_some g.uq).1 hx)
          simp only at this
          exact ⟨this.1, this.2.1, by omega, this.2.2.2⟩
      refine ⟨hwho.1, hwho.2.1, ?_, hwho.2.2.2⟩
      have h3 : ¬ c.2.1 ≤ (run who m (ws ++ [(who, k, k)])).2.1 := fun q => hcond ⟨hwho.1, hwho.2.2.1, q⟩
      have h4 : c.2.1 ≠ (run who m (ws ++ [(who, k, k)])).2.1 + 1 := by
        intro q
        rw [hwho.1, q, r4] at hx'
        cases hx'
      omega
  · simp only [Bool.or_eq_true, decide_eq_true_eq]
    rw [r5, g.come j]
    constructor
    · rintro ((a | a) | a)
      · left; omega
      · obtain ⟨x, hx⟩ := Option.isSome_iff_exists.1 a
        have := g.own _ ((fnd_some g.uq).1 hx)
        simp only at this
        by_cases q : j ≤ (run who m (ws ++ [(who, k, k)])).2.1
        · left; have := g.low; omega
        · right
          rw [if_neg (by omega), hs]
          split
          · rfl
          · exact a
      · subst a
        by_cases q : j ≤ (run who m (ws ++ [(who, j, j)])).2.1
        · left; omega
        · right
          rw [if_neg (by omega), hs, if_pos ⟨rfl, rfl⟩]
          rfl
    · rintro (a | a)
      · by_cases q : j ≤ m
        · exact .inl (.inl ⟨a.1, q⟩)
        · have := r6 j (by omega) a.2
          rw [hs] at this
          by_cases e : j = k
          · exact .inr e
          · rw [if_neg (by simp [e])] at this
            exact .inl (.inr (by rw [this]; rfl))
      · split at a
        · exact absurd a (by decide)
        · rw [hs] at a
          by_cases e : j = k
          · exact .inr e
          · rw [if_neg (by simp [e])] at a
            exact .inl (.inr a)
  · refine List.ext_getElem (by simp; omega) fun i h3 h4 => ?_
    have h5 : (i : Int) < (run who m (ws ++ [(who, k, k)])).2.1 - m := by omega
    have := (hval (m + 1 + i) (by omega) (by omega)).1
    rw [show (m + 1 + (i : Int) - m - 1).toNat = i by omega] at this
    simp only [List.getElem_map, List.getElem_range]
    rw [← this]
    simp [List.getD, h3]

/-- what comes of a word that has come -/
def tk (H : List Int) (ws : List Cm) (who n word : Int) : List Int × List Int × List Cm :=
  if tkC (H.getD who.toNat 0) ws who n word = 0 then ((run who (H.getD who.toNat 0) (ws ++ [(who, n, word)])).1, H.set who.toNat (run who (H.getD who.toNat 0) (ws ++ [(who, n, word)])).2.1, (run who (H.getD who.toNat 0) (ws ++ [(who, n, word)])).2.2) else ([], H, ws)
/-- what holds of a fifo at any time -/
structure Inv (H : List Int) (ws : List Cm) : Prop where
  five : H.length = 5
  num : ∀ j, j < 5 → 0 ≤ H.getD j 0 ∧ H.getD j 0 ≤ 1000000
  uq : Uq ws
  keys : ∀ c ∈ ws, c.2.1 ≤ 1000000
  len : ws.length ≤ 40
theorem Inv.start : Inv [0, 0, 0, 0, 0] [] :=
  ⟨rfl, fun j hj => by rcases j with _ | _ | _ | _ | _ | j <;> first | (constructor <;> decide) | omega, List.Pairwise.nil, fun c hc => absurd hc List.not_mem_nil, by simp⟩
theorem bad_who {who n word : Int} (hb : bad who n word = false) : (0 ≤ who ∧ who ≤ 4) ∧ (1 ≤ n ∧ n ≤ 1000000) ∧ 1 ≤ word ∧ word ≤ 30 := by
  simp [bad] at hb
  omega
theorem set_getD {H : List Int} {m : Nat} (hm : m < H.length) (x : Int) (j : Nat) : (H.set m x).getD j 0 = if j = m then x else H.getD j 0 := by
  by_cases e : j = m
  · subst e
    simp [List.getD, hm]
  · rw [if_neg e]
    simp [List.getD, List.getElem?_set_ne (fun q => e q.symm)]
theorem Inv.take {H : List Int} {ws : List Cm} (g : Inv H ws) (who n word : Int) : Inv (tk H ws who n word).2.1 (tk H ws who n word).2.2 := by
  unfold tk
  by_cases hc : tkC (H.getD who.toNat 0) ws who n word = 0
  · rw [if_pos hc]
    obtain ⟨hb, hlt, hf, h40⟩ := tkC_ok hc
    obtain ⟨hw, hn, _⟩ := bad_who hb
    have hm : who.toNat < 5 := by omega
    have hu := uq_snoc g.uq word hf
    have hs := fnd_snoc (x := word) hf
    have hkeys : ∀ c ∈ ws ++ [(who, n, word)], c.2.1 ≤ 1000000 := by
      intro c hc
      rcases List.mem_append.1 hc with a | a
      · exact g.keys c a
      · rw [List.mem_singleton.1 a]; exact hn.2
    obtain ⟨r1, r2, r3, r4, r5, r6, r7⟩ := run_spec (who := who) _ (H.getD who.toNat 0) (ws ++ [(who, n, word)]) (Nat.le_refl _) hu
    have hnum := g.num _ hm
    refine ⟨by rw [List.length_set]; exact g.five, fun j hj => ?_, r3, fun c hc => ?_, ?_⟩
    · rw [set_getD (by rw [g.five]; exact hm)]
      split
      · refine ⟨by omega, ?_⟩
        rcases Int.lt_or_le (H.getD who.toNat 0) (run who (H.getD who.toNat 0) (ws ++ [(who, n, word)])).2.1 with a | a
        · exact hkeys _ ((fnd_some hu).1 (r6 _ a (Int.le_refl _)))
        · omega
      · exact g.num j hj
    · have hx : fnd (run who (H.getD who.toNat 0) (ws ++ [(who, n, word)])).2.2 c.1 c.2.1 = some c.2.2 := (fnd_some r3).2 hc
      rw [r5] at hx
      split at hx
      · cases hx
      · exact hkeys _ ((fnd_some hu).1 hx)
    · show (run who (H.getD who.toNat 0) (ws ++ [(who, n, word)])).2.2.length ≤ 40
      rw [List.length_append] at r7
      simp only [List.length_cons, List.length_nil] at r7
      have hl := g.len
      by_cases e : H.getD who.toNat 0 + 1 < n
      · have : ¬ 40 ≤ ws.length := fun q => h40 ⟨e, q⟩
        omega
      · have hfn : fnd (ws ++ [(who, n, word)]) who (H.getD who.toNat 0 + 1) = some word := by rw [hs, if_pos ⟨rfl, by omega⟩]
        have : (run who (H.getD who.toNat 0) (ws ++ [(who, n, word)])).1 ≠ [] := by
          rw [run_go hu hfn]
          simp
        have := List.length_pos_iff.2 this
        omega
  · rw [if_neg hc]
    exact g
theorem tk_no {H : List Int} {ws : List Cm} {who n word : Int} (hc : tkC (H.getD who.toNat 0) ws who n word ≠ 0) : tk H ws who n word = ([], H, ws) := if_neg hc
theorem tk_ok {H : List Int} {ws : List Cm} {who n word : Int} (hc : tkC (H.getD who.toNat 0) ws who n word = 0) : tk H ws who n word = ((run who (H.getD who.toNat 0) (ws ++ [(who, n, word)])).1, H.set who.toNat (run who (H.getD who.toNat 0) (ws ++ [(who, n, word)])).2.1, (run who (H.getD who.toNat 0) (ws ++ [(who, n, word)])).2.2) := if_pos hc

end Go.Proofs.YtdmniblonikjlakGreatDoor.Fif

/-
  Small facts on rows that the call owns: of numbers, and of words that have come; what is left alone.
-/
namespace Go.Proofs.YtdmniblonikjlakGreatDoor.Fif
open Go.RowKit
open Go.Proofs.YtdmniblonikjlakGreatDoor.Vec (Vw)

theorem ret_bool {a b : Bool} (h : a = b) : Ending.returned (.bool a) = .returned (.bool b) := by rw [h]
theorem below_up {w w1 w2 : World} {B : Nat} (h : Below B w w1) (h' : Below w1.heap.size w1 w2) : Below B w w2 ∨ w.heap.size < B := by
  rcases Nat.lt_or_ge w.heap.size B with a | a
  · exact .inr a
  · exact .inl (h.trans (h'.mono (Nat.le_trans a h.size)))
theorem own_lt {w : World} {base : Nat} {t : TypeId} {s : Nat} {v : Value} {n : Nat} {xs : List Value} (o : w.ownsRow base t s v n xs) : ∀ k, v.ownBlock = some k → base ≤ k ∧ k < w.heap.size := by
  intro k hk
  rcases o.2 with ⟨h2, _⟩ | ⟨g', cap', cur, hv, hbg, hh, _⟩
  · rw [h2] at hk; cases hk
  · rw [hv] at hk
    have : g' = k := by simpa [Value.ownBlock] using hk
    subst this
    refine ⟨hbg, ?_⟩
    rcases Nat.lt_or_ge g' w.heap.size with hlt | hge
    · exact hlt
    · rw [Array.getElem?_eq_none hge] at hh; cases hh
/-- a row stays where its block stays -/
theorem own_block {w w' : World} {base : Nat} {t : TypeId} {s : Nat} {v : Value} {n : Nat} {xs : List Value} (o : w.ownsRow base t s v n xs) (hb : ∀ k, v.ownBlock = some k → w'.heap[k]? = w.heap[k]?) : w'.ownsRow base t s v n xs := by
  obtain ⟨h1, h2⟩ := o
  refine ⟨h1, ?_⟩
  rcases h2 with h2 | ⟨g', cap', cur, hv, hbg, hh, hc, hm, hsz, ht⟩
  · exact .inl h2
  · refine .inr ⟨g', cap', cur, hv, hbg, ?_, hc, hm, hsz, ht⟩
    rw [hb g' (by rw [hv]; rfl)]
    exact hh
theorem own_vw {w : World} {base n : Nat} {t : TypeId} {v : Value} {xs : List Int} (h : w.ownsRow base t 1 v n (xs.map (Value.int .i64))) : ∃ a cap, v = .slice a n cap ∧ Vw w a n xs := by
  obtain ⟨h1, h2⟩ := h
  have hl : xs.length = n := by simpa using h1
  rcases h2 with ⟨h2, rfl⟩ | ⟨g, cap, cur, hv, _, hh, _, _, hsz, ht⟩
  · exact ⟨none, 0, h2, hl, fun q => absurd q (by omega)⟩
  · refine ⟨_, cap, hv, hl, fun _ => ⟨g, 0, rfl, ?_, fun k hk => ?_⟩⟩
    · rcases Nat.lt_or_ge g w.heap.size with hlt | hge
      · exact hlt
      · rw [Array.getElem?_eq_none hge] at hh; cases hh
    · rw [Nat.zero_add, World.cell?, hh]
      have : (cur.toList.take (n * 1))[k]? = (xs.map (Value.int .i64))[k]? := by rw [ht]
      rw [Nat.mul_one, List.getElem?_take_of_lt hk, List.getElem?_map] at this
      have hx : k < xs.length := by omega
      simp only [Option.isSome_none, Bool.false_eq_true, if_false]
      rw [← Array.getElem?_toList, this]
      simp [hx, List.getD]
theorem infoI : (Tryz.prog.info? 3).map (fun i => (i.zero, i.size, i.bytes)) = some (some (.int .i64 0), 1, 8) := by kernel_rfl
theorem info_int : ∃ i, Tryz.prog.info? 3 = some i ∧ i.zero = some (.int .i64 0) ∧ i.size = 1 ∧ i.bytes = 8 := by
  obtain ⟨i, hi, hzz⟩ := Option.map_eq_some_iff.1 infoI
  simp only [Prod.mk.injEq] at hzz
  exact ⟨i, hi, hzz.1, hzz.2.1, hzz.2.2⟩
theorem new_int (w : World) (B : Nat) (hB : B = w.heap.size) (x : Int) (t : TypeId) : ∀ j u, [Value.int .i64 x][j]? = some u → (w.alloc (.cells #[.int .i64 x] t)).cell? ((⟨B, 0, none⟩ : Addr).add j) = some u := by
  subst hB
  intro j u hj
  rw [Addr.add_lit, Nat.zero_add]
  rcases j with _ | j
  · simpa using hj
  · simp at hj
theorem int_one (x : Int) : ∀ u ∈ [Value.int .i64 x], u.oneCell' = true := by
  intro u hu
  obtain rfl := List.mem_singleton.1 hu
  rfl
/-- all is left alone but one block and one row -/
def Kp (w w' : World) (P : Nat) (r : Option Nat) : Prop := w.heap.size ≤ w'.heap.size ∧ ∀ b, b < w.heap.size → b ≠ P → some b ≠ r → w'.heap[b]? = w.heap[b]?
theorem Kp.refl (w : World) (P : Nat) (r : Option Nat) : Kp w w P r := ⟨Nat.le_refl _, fun _ _ _ _ => rfl⟩
/-- what is changed later is that block, that row, or was not there -/
theorem Kp.trans {w w1 w2 : World} {P : Nat} {r r' : Option Nat} (h : Kp w w1 P r) (h' : Kp w1 w2 P r') (hr : ∀ k, r' = some k → w.heap.size ≤ k ∨ r = some k ∨ k = P) : Kp w w2 P r := by
  refine ⟨Nat.le_trans h.1 h'.1, fun b hb hP hne => ?_⟩
  rw [h'.2 b (Nat.lt_of_lt_of_le hb h.1) hP (fun e => ?_), h.2 b hb hP hne]
  rcases hr b e.symm with a | a | a
  · omega
  · exact hne a.symm
  · exact hP a
theorem Kp.grown {w w' : World} {r : Option Nat} (hg : w.grownBy w' r) (P : Nat) : Kp w w' P r := ⟨hg.size, fun b hb _ hne => hg.block b hb hne⟩
theorem Kp.alloc (w : World) (o : Obj) (P : Nat) (r : Option Nat) : Kp w (w.alloc o) P r := ⟨by simp, fun b hb _ _ => ((Below.refl w.heap.size w).alloc (Nat.le_refl _) o).block b hb⟩
theorem Kp.setCell (w : World) (P i : Nat) (v : Value) (r : Option Nat) : Kp w (w.setCell ⟨P, i, none⟩ v) P r := ⟨by simp [World.setCell], fun b _ hP _ => Deep.blk_setCell_other _ _ _ _ hP⟩
theorem Kp.below {w w' : World} {P : Nat} (hb : Below w.heap.size w w') (r : Option Nat) : Kp w w' P r := ⟨hb.size, fun b h _ _ => hb.block b h⟩
theorem own_mono {w : World} {b b' : Nat} {t : TypeId} {s n : Nat} {v : Value} {xs : List Value} (o : w.ownsRow b t s v n xs) (hb : b' ≤ b) : w.ownsRow b' t s v n xs := by
  obtain ⟨h1, h2⟩ := o
  refine ⟨h1, ?_⟩
  rcases h2 with h2 | ⟨g', cap', cur, hv, hbg, hh⟩
  · exact .inl h2
  · exact .inr ⟨g', cap', cur, hv, Nat.le_trans hb hbg, hh⟩
theorem own_two {w : World} {b1 b2 : Nat} {t1 t2 : TypeId} (ht : t1 ≠ t2) {s1 s2 n1 n2 : Nat} {v1 v2 : Value} {x1 x2 : List Value} (o1 : w.ownsRow b1 t1 s1 v1 n1 x1) (o2 : w.ownsRow b2 t2 s2 v2 n2 x2) {g : Nat} (hg : v2.ownBlock = some g) : v1.ownBlock ≠ some g := by
  intro e
  rcases o1.2 with ⟨h2, _⟩ | ⟨g', cap', cur, hv, hbg, hh, _⟩
  · rw [h2] at e; cases e
  · rcases o2.2 with ⟨h2, _⟩ | ⟨g2, cap2, cur2, hv2, hbg2, hh2, _⟩
    · rw [h2] at hg; cases hg
    · rw [hv] at e
      rw [hv2] at hg
      have e1 : g' = g := by simpa [Value.ownBlock] using e
      have e2 : g2 = g := by simpa [Value.ownBlock] using hg
      subst e1 e2
      rw [hh] at hh2
      injection hh2 with hh2
      injection hh2 with _ hh2 _
      exact ht hh2
theorem own_form {w : World} {base : Nat} {t : TypeId} {s : Nat} {v : Value} {n : Nat} {xs : List Value} (o : w.ownsRow base t s v n xs) : ∃ q cap, v = .slice q n cap := by
  rcases o.2 with ⟨h2, h3⟩ | ⟨g', cap', cur, hv, _⟩
  · exact ⟨none, 0, by rw [h3]; exact h2⟩
  · exact ⟨_, _, hv⟩
/-- a row keeps through what leaves its block -/
theorem row_grown {w w' : World} {r : Option Nat} {P : Nat} {t : TypeId} {n : Nat} {f : Nat → Value} (h : w.rowIs P t n f) (hg : w.grownBy w' r) (hne : some P ≠ r) : w'.rowIs P t n f := h.of_block (hg.block P h.lt hne)
def lenOf : Value → Nat
  | .slice _ n _ => n
  | _ => 0
end Go.Proofs.YtdmniblonikjlakGreatDoor.Fif
