/-
  The program's token and the document's own side by side; places that are the same; the document's own token made.
-/
import Derived.Test.YtfjhjjikaodadagDoorTkqR
import Derived.Test.YtfjhjjikaodadagDoorTokP
namespace Go.Proofs.YtfjhjjikaodadagDoor.Tok
open Go.RowKit
open Go.Proofs.YtfjhjjikaodadagDoor.Fif (own_lt own_block own_form own_mono ret_bool)
open Go.Proofs.YtfjhjjikaodadagDoor.Off (OR)
open Go.Proofs.YtfjhjjikaodadagDoor.Sep (KpL NewL)
open Go.Proofs.YtfjhjjikaodadagDoor.Ldr (errF Sl)
set_option linter.unusedVariables false

theorem eqGp : Tryd.prog.eqGuardType Tryd.prog.depth 37 = false := by kernel_rfl
theorem eqPl (a b : Int) (w : World) : (Op.equalIn 10000 37 (.agg #[.int .i64 a, .int .i64 b]) (.agg #[.int .i64 a, .int .i64 b])).run Tryd.prog w = .ok true w := by
  have u3 := Tryd.underlying3
  have a3 := Tryd.isAgg3
  have z3 := Tryd.sizeOf3
  have hS : Tryd.prog.underlying 37 = some (.struct (Tryd.prog.fieldsOf 37)) := by kernel_rfl
  have hp : Tryd.prog.stoodInHeld 37 = false := by kernel_rfl
  rw [show (10000 : Nat) = 9999 + 1 from rfl, run_equalIn_agg w 9999 37 _ _ hS hp]
  simp only [Program.fieldsOf, Tryd.underlying37]
  go_simp
set_option maxRecDepth 100000 in
theorem placed_same (a a' : Option Addr) (c c' : Nat) (l : List (Int × Int)) (w : World) (hu : Pl w a l.length l) (hv : Pl w a' l.length l) (hl : l.length ≤ 100) :
    Calls Tryd.prog 16 #[.slice a l.length c, .slice a' l.length c'] w fun e w' => e = .returned (.bool true) ∧ Below w.heap.size w w' := by
  obtain ⟨n, en⟩ : ∃ n, n = l.length := ⟨_, rfl⟩
  rw [← en] at hl hu hv ⊢
  have F1 : Hid (Pl w a n l ∧ Pl w a' n l) := ⟨hu, hv⟩
  have hn : ((n : Int) != (n : Int)) = false := by simp
  clear hu hv en
  go_enter Tryd.func16, Tryd.ntmps16
  go_wp2
  go_loopw [5] (fun x wr => ∃ k : Nat, k ≤ n ∧ x = .int .i64 (k : Int) ∧ ∃ m, wr = w.drewN m) (fun x _ => n - (intOf x).toNat)
  case atStart => exact ⟨0, by omega, rfl, 0, rfl⟩
  case round =>
    obtain ⟨k, hk, rfl, m, rfl⟩ := hrel
    by_cases hlt : k < n
    · obtain ⟨b1, o1, rfl, l1, g1⟩ := F1.out.1.2 (by omega)
      obtain ⟨b2, o2, rfl, l2, g2⟩ := F1.out.2.2 (by omega)
      obtain ⟨x0, x1⟩ := g1 k hlt
      obtain ⟨y0, y1⟩ := g2 k hlt
      obtain ⟨p, ep⟩ : ∃ p, p = l.getD k (0, 0) := ⟨_, rfl⟩
      rw [← ep] at x0 x1 y0 y1
      obtain ⟨p0, p1⟩ := p
      simp only at x0 x1 y0 y1
      have hk0 : (0 : Int) ≤ (k : Int) := by omega
      have hkn : (k : Int) < (n : Int) := by omega
      have hgd := eqGp
      have hev := eqPl p0 p1
      clear ep g1 g2
      go_wp2_with fail
      go_quiet (fail)
      go_wp2
      go_roundw
      case rel => exact ⟨k + 1, by omega, by go_num, _, rfl⟩
      case measure => simp [intOf]; omega
    · have hkn : ¬ (k : Int) < (n : Int) := by omega
      go_wp2
      go_ret
      exact ⟨rfl, rfl, rfl, rfl, Nat.le_refl _, fun _ _ => rfl⟩
/-! the document's own token made -/
def zTk : Array Value := Array.ofFn fun i : Fin 40 => tv (start 0 0) (fun _ => .slice none 0 0) i.val
set_option maxRecDepth 100000 in
theorem zero_tk (W : World) : (zeroValue 53).run Tryd.prog W = .ok (.agg zTk) W := by kernel_rfl
theorem zTk_size : zTk.size = 40 := by unfold zTk; simp
theorem zTk_ne : (zTk = #[]) = False := by
  refine eq_false fun e => ?_
  have := zTk_size
  rw [e] at this
  simp at this
theorem RT.made (w : World) (base n most : Nat) (hb : base ≤ w.heap.size) : RT (w.alloc (.cells ((zTk.setIfInBounds 0 (.int .i64 (n : Int))).setIfInBounds 1 (.int .i64 (most : Int))) 53)) base w.heap.size (start n most) (fun _ => .slice none 0 0) := by
  refine ⟨?_, fun m _ => OR.nil _ _, hb, fun i j _ _ _ b q => by cases q⟩
  have h := World.rowIs_alloc w ((zTk.setIfInBounds 0 (.int .i64 (n : Int))).setIfInBounds 1 (.int .i64 (most : Int))) 53 (tv (start n most) (fun _ => .slice none 0 0)) (fun i hi => by
    have hi' : i < 40 := by rw [Array.size_setIfInBounds, Array.size_setIfInBounds, zTk_size] at hi; exact hi
    by_cases e1 : i = 1
    · subst e1
      rw [Array.getElem?_setIfInBounds_self_of_lt (by rw [Array.size_setIfInBounds, zTk_size]; omega)]
      rfl
    · rw [Array.getElem?_setIfInBounds_ne (fun e => e1 e.symm)]
      by_cases e0 : i = 0
      · subst e0
        rw [Array.getElem?_setIfInBounds_self_of_lt (by rw [zTk_size]; omega)]
        rfl
      · rw [Array.getElem?_setIfInBounds_ne (fun e => e0 e.symm)]
        have : zTk[i]? = some (tv (start 0 0) (fun _ => .slice none 0 0) i) := by
          unfold zTk
          rw [Array.getElem?_ofFn]
          simp [hi']
        rw [this]
        congr 1
        unfold tv
        rw [if_neg e0, if_neg e1, if_neg e0, if_neg e1]
        rfl)
  rw [Array.size_setIfInBounds, Array.size_setIfInBounds, zTk_size] at h
  exact h
/-! side by side -/
/-- three numbers in a block -/
def V3 (w : World) (V : Nat) (k0 k1 k2 : Int) : Prop := w.cell? ⟨V, 0, none⟩ = some (.int .i64 k0) ∧ w.cell? ⟨V, 1, none⟩ = some (.int .i64 k1) ∧ w.cell? ⟨V, 2, none⟩ = some (.int .i64 k2)
theorem V3.of_block {w w' : World} {V : Nat} {k0 k1 k2 : Int} (h : V3 w V k0 k1 k2) (e : w'.heap[V]? = w.heap[V]?) : V3 w' V k0 k1 k2 := ⟨(World.cell?_of_block (a := ⟨V, 0, none⟩) e).trans h.1, (World.cell?_of_block (a := ⟨V, 1, none⟩) e).trans h.2.1, (World.cell?_of_block (a := ⟨V, 2, none⟩) e).trans h.2.2⟩
structure PS (w : World) (P Q V : Nat) (wr : World) (kp : K) (fp : List Nat) (kr : K) (v : Nat → Value) (k0 k1 k2 : Int) : Prop where
  ag : TS wr w.heap.size P kp fp
  ra : RT wr w.heap.size Q kr v
  dj : ∀ b, b ∈ fp → b ∉ rfp Q v
  tr : V3 wr V k0 k1 k2
  vl : V < wr.heap.size
  vf : V ∉ fp
  vr : V ∉ rfp Q v
  bel : Below w.heap.size w wr
variable {w wr w' : World} {P Q V : Nat} {kp kr : K} {fp : List Nat} {v : Nat → Value} {k0 k1 k2 : Int}
theorem PS.later (h : PS w P Q V wr kp fp kr v k0 k1 k2) (hb : Below wr.heap.size wr w') : PS w P Q V w' kp fp kr v k0 k1 k2 :=
  ⟨h.ag.of_blocks hb.size fun b hb' => hb.block b (h.ag.fp b hb').2, h.ra.later hb, h.dj, h.tr.of_block (hb.block V h.vl), Nat.lt_of_lt_of_le h.vl hb.size, h.vf, h.vr, h.bel.trans (hb.mono h.bel.size)⟩
/-- the document's own turns -/
theorem PS.ref {kr' : K} {v' : Nat → Value} (h : PS w P Q V wr kp fp kr v k0 k1 k2) (hr : RT w' w.heap.size Q kr' v') (hb : Below w.heap.size wr w') (hk : KpL wr w' (rfp Q v)) (hn : NewL wr (rfp Q v) (rfp Q v')) : PS w P Q V w' kp fp kr' v' k0 k1 k2 := by
  refine ⟨h.ag.of_blocks hk.1 fun b hb' => hk.2 b (h.ag.fp b hb').2 (h.dj b hb'), hr, fun b hb' q => ?_, h.tr.of_block (hk.2 V h.vl h.vr), Nat.lt_of_lt_of_le h.vl hk.1, h.vf, fun q => ?_, h.bel.trans hb⟩
  · rcases hn b q with z | z
    · exact h.dj b hb' z
    · have := (h.ag.fp b hb').2; omega
  · rcases hn V q with z | z
    · exact h.vr z
    · have := h.vl; omega
/-- the program's turns -/
theorem PS.prog {kp' : K} {fp' : List Nat} (h : PS w P Q V wr kp fp kr v k0 k1 k2) (ha : TS w' w.heap.size P kp' fp') (hb : Below w.heap.size wr w') (hk : KpL wr w' fp) (hn : NewL wr fp fp') : PS w P Q V w' kp' fp' kr v k0 k1 k2 := by
  refine ⟨ha, h.ra.of_blocks fun b hb' => hk.2 b (h.ra.fp b hb').2 (fun q => h.dj b q hb'), fun b hb' q => ?_, h.tr.of_block (hk.2 V h.vl h.vf), Nat.lt_of_lt_of_le h.vl hk.1, fun q => ?_, h.vr, h.bel.trans hb⟩
  · rcases hn b hb' with z | z
    · exact h.dj b z q
    · have := (h.ra.fp b q).2; omega
  · rcases hn V q with z | z
    · exact h.vf z
    · have := h.vl; omega
/-- how they stand at a round's head -/
def PA (w : World) (P Q n most : Nat) (wr : World) : Prop := ∃ k fp v, TS wr w.heap.size P k fp ∧ RT wr w.heap.size Q k v ∧ (∀ b, b ∈ fp → b ∉ rfp Q v) ∧ Inv k ∧ k.n = n ∧ Below w.heap.size w wr
theorem PS.pa {n most : Nat} (h : PS w P Q V wr kp fp kp v k0 k1 k2) (hi : Inv kp) (hn : kp.n = n) : PA w P Q n most wr := ⟨kp, fp, v, h.ag, h.ra, h.dj, hi, hn, h.bel⟩
def R3q (wo wz : World) : Prop := ∃ f : Nat → Int, wz.rowIs wo.heap.size 35 3 (fun t => .int .i64 (f t)) ∧ Below wo.heap.size wo wz
end Go.Proofs.YtfjhjjikaodadagDoor.Tok
