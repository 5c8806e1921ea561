/-
  Errors as the program tells them; two words that were said are the same; what a call leaves alone.
-/
import Derived.Test.YtndjejbnappmeadDoorCauM
import Derived.Test.YtndjejbnappmeadDoorFifA
import Derived.Test.YtndjejbnappmeadDoorTold
namespace Go.Proofs.YtndjejbnappmeadDoor.Cau
open Go.RowKit
open Go.Proofs.YtndjejbnappmeadDoor.Vec (Vw)
open Go.Proofs.YtndjejbnappmeadDoor.Fif (own_lt own_block own_form own_vw Kp ret_bool)
set_option linter.unusedVariables false

def errF (c : Int) : Value := if c = 0 then .nilIface else .iface 50 (.int .i64 c)
theorem errF_ok : errF 0 = .nilIface := rfl
theorem errF_no {c : Int} (h : c ≠ 0) : errF c = .iface 50 (.int .i64 c) := if_neg h
theorem errF_same (c : Int) (w : World) (hL : As.Laid w) : Calls Tryd.prog 5 #[errF c, .int .i64 c] w fun e w' => e = .returned (.bool true) ∧ Below w.heap.size w w' := by
  by_cases h : c = 0
  · subst h
    rw [errF_ok]
    refine (As.error_nil 0 w).mono ?_
    rintro e w' ⟨rfl, hb⟩
    exact ⟨ret_bool (by simp), hb⟩
  · rw [errF_no h]
    refine (As.error_errno c c w hL).mono ?_
    rintro e w' ⟨rfl, hb⟩
    exact ⟨ret_bool (by simp), hb⟩
theorem ints_same (a b : Option Addr) (len cap len' cap' : Nat) (xs : List Int) (w : World) (hv : Vw w a len xs) (hv' : Vw w b len' xs) (hm : len ≤ maxLen) :
    Calls Tryd.prog 11 #[.slice a len cap, .slice b len' cap'] w fun e w' => e = .returned (.bool true) ∧ ∃ n, w' = w.drewN n := by
  refine (Vec.ints_any a b len cap len' cap' xs xs w hv hv' hm).mono ?_
  rintro e w' ⟨rfl, hb⟩
  exact ⟨ret_bool (by simp), hb⟩
theorem own_max {w : World} {base : Nat} {t : TypeId} {s : Nat} {v : Value} {n : Nat} {xs : List Value} (o : w.ownsRow base t s v n xs) : n ≤ maxLen := by
  rcases o.2 with ⟨_, h3⟩ | ⟨g', cap', cur, hv, _, _, h1, h2, _⟩
  · unfold maxLen; omega
  · omega
theorem below_heap2 {B : Nat} {w w1 w2 : World} (h : Below B w w1) (e : w2.heap = w1.heap) (e1 : w2.os = w1.os) (e2 : w2.tape = w1.tape) (e3 : w2.output = w1.output) : Below B w w2 :=
  ⟨e1.trans h.os, e2.trans h.tape, e3.trans h.output, by rw [e]; exact h.size, fun k hk => by rw [e]; exact h.block k hk⟩
/-- all is left alone but some blocks -/
def KpL (w w' : World) (fp : List Nat) : Prop := w.heap.size ≤ w'.heap.size ∧ ∀ b, b < w.heap.size → b ∉ fp → w'.heap[b]? = w.heap[b]?
/-- blocks that were there, or are new -/
def NewL (w : World) (fp fp' : List Nat) : Prop := ∀ b ∈ fp', b ∈ fp ∨ w.heap.size ≤ b
/-- what is wrong with a word that one says; what is told of it -/
def sayC (me : Int) (K : List Int) (word : Int) : Int := if word < 1 ∨ 30 < word then 1 else if K.getD me.toNat 0 = 1000000 then 4 else 0
def sayK (me : Int) (K : List Int) (word : Int) : List Int := if sayC me K word = 0 then inc K me else K
def sayL (me : Int) (K : List Int) (word : Int) : List Int := if sayC me K word = 0 then inc K me else []
def SayR (w' : World) (b : Nat) (me : Int) (K : List Int) (word s0 s1 : Int) (vc : Value) : Prop :=
  s0 = (if sayC me K word = 0 then me else 0) ∧ s1 = (if sayC me K word = 0 then word else 0) ∧ w'.ownsRow b 3 1 vc (sayL me K word).length ((sayL me K word).map (Value.int .i64))
set_option maxRecDepth 100000 in
theorem said_same (s0 s1 : Int) (qa qb : Option Addr) (n ca cb : Nat) (xs : List Int) (w : World) (hv : Vw w qa n xs) (hv' : Vw w qb n xs) (hm : n ≤ maxLen) :
    Calls Tryd.prog 8 #[.agg #[.int .i64 s0, .int .i64 s1, .slice qa n ca], .agg #[.int .i64 s0, .int .i64 s1, .slice qb n cb]] w fun e w' => e = .returned (.bool true) ∧ Below w.heap.size w w' := by
  obtain ⟨W, eW⟩ : ∃ W, W = (w.alloc (.cells #[.int .i64 s0, .int .i64 s1, .slice qa n ca] 35)).alloc (.cells #[.int .i64 s0, .int .i64 s1, .slice qb n cb] 35) := ⟨_, rfl⟩
  have BW : Hid (Below w.heap.size w W) := by rw [eW]; exact ((Below.refl _ _).alloc (Nat.le_refl _) _).alloc (by simp) _
  have HV : Hid (Vw W qa n xs ∧ Vw W qb n xs ∧ n ≤ maxLen) := ⟨hv.later BW.out, hv'.later BW.out, hm⟩
  have h0 : (s0 == s0) = true := by simp
  have h1 : (s1 == s1) = true := by simp
  clear hv hv' hm
  go_enter Tryd.func8, Tryd.ntmps8
  go_wp2_with fail
  rw [← eW]
  refine (ints_same qa qb n ca n cb xs W HV.out.1 HV.out.2.1 HV.out.2.2).mono ?_
  rintro e w1 ⟨rfl, k, rfl⟩
  clear eW
  go_wp2
  go_ret
  exact ⟨rfl, below_heap2 BW.out rfl rfl rfl rfl⟩
end Go.Proofs.YtndjejbnappmeadDoor.Cau
