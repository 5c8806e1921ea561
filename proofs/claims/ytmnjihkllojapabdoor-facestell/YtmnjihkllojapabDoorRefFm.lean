/-
  What the document's own Faces holds in memory as it goes; how its flags go on.
-/
import Derived.Test.YtmnjihkllojapabDoorFacN
import Derived.Test.YtmnjihkllojapabDoorFacC
import Derived.Test.YtmnjihkllojapabDoorRefC
import Derived.Test.YtmnjihkllojapabDoorRefA
namespace Go.Proofs.YtmnjihkllojapabDoor.His
open Go.RowKit
open Go.Proofs.YtmnjihkllojapabDoor.Vec

def fv (F C T : Bool) (j : Nat) : Value := if j = 0 then .bool F else if j = 1 then .bool C else .bool T
/-- what lies in memory: the histories, the square, the result's place, the flags -/
def FX (h : List Ev) (len : Nat) (w : World) (Q : Nat) (wr : World) (F C T : Bool) : Prop :=
  Below w.heap.size w wr ∧ Sq wr Q (wa h len len) ∧ wr.rowIs w.heap.size 44 3 (fun _ => .bool false) ∧ wr.rowIs (w.heap.size + 1) 44 3 (fv F C T)
theorem FX.later {h : List Ev} {len : Nat} {w : World} {Q : Nat} {wr w' : World} {F C T : Bool} (g : FX h len w Q wr F C T) (hb : Below wr.heap.size wr w') : FX h len w Q w' F C T :=
  ⟨below_up rfl g.1 hb, Sq.later g.2.1 hb, rowIs_later g.2.2.1 hb, rowIs_later g.2.2.2 hb⟩
theorem FX.drewN {h : List Ev} {len : Nat} {w : World} {Q : Nat} {wr : World} {F C T : Bool} (g : FX h len w Q wr F C T) (n : Nat) : FX h len w Q (wr.drewN n) F C T := g.later (below_drewN (Below.refl _ _) n)
theorem FX.set {h : List Ev} {len : Nat} {w : World} {Q : Nat} {wr : World} {F C T F' C' T' : Bool} (g : FX h len w Q wr F C T) (hQ : w.heap.size + 2 ≤ Q) (i : Nat) (hv : ∀ j, j < 3 → (if j = i then Value.bool false else fv F C T j) = fv F' C' T' j) : FX h len w Q (wr.setCell ⟨w.heap.size + 1, i, none⟩ (.bool false)) F' C' T' :=
  ⟨g.1.setCell (p := ⟨_, _, none⟩) (Nat.le_succ _) _, World.rowIs.setOther g.2.1 (a := ⟨_, _, none⟩) (by show Q ≠ w.heap.size + 1; omega) _, World.rowIs.setOther g.2.2.1 (a := ⟨_, _, none⟩) (by show w.heap.size ≠ w.heap.size + 1; omega) _, (World.rowIs.set g.2.2.2 i _).congr hv⟩
theorem FX.setF {h : List Ev} {len : Nat} {w : World} {Q : Nat} {wr : World} {F C T : Bool} (g : FX h len w Q wr F C T) (hQ : w.heap.size + 2 ≤ Q) : FX h len w Q (wr.setCell ⟨w.heap.size + 1, 0, none⟩ (.bool false)) false C T :=
  g.set hQ 0 fun j hj => by rcases j with _ | _ | _ | j <;> first | rfl | omega
theorem FX.setC {h : List Ev} {len : Nat} {w : World} {Q : Nat} {wr : World} {F C T : Bool} (g : FX h len w Q wr F C T) (hQ : w.heap.size + 2 ≤ Q) : FX h len w Q (wr.setCell ⟨w.heap.size + 1, 1, none⟩ (.bool false)) F false T :=
  g.set hQ 1 fun j hj => by rcases j with _ | _ | _ | j <;> first | rfl | omega
theorem FX.setT {h : List Ev} {len : Nat} {w : World} {Q : Nat} {wr : World} {F C T : Bool} (g : FX h len w Q wr F C T) (hQ : w.heap.size + 2 ≤ Q) : FX h len w Q (wr.setCell ⟨w.heap.size + 1, 2, none⟩ (.bool false)) F C false :=
  g.set hQ 2 fun j hj => by rcases j with _ | _ | _ | j <;> first | rfl | omega
/-- the place of a flag can be written -/
theorem FX.place {h : List Ev} {len : Nat} {w : World} {Q : Nat} {wr : World} {F C T : Bool} (g : FX h len w Q wr F C T) {i : Nat} (hi : i < 3) : wr.cell? ⟨w.heap.size + 1, i, none⟩ = some (fv F C T i) ∧ wr.frozen? ⟨w.heap.size + 1, i, none⟩ = false := ⟨World.rowIs.cell g.2.2.2 hi, World.rowIs.frozen g.2.2.2 i⟩
theorem FX.to {h : List Ev} {len : Nat} {w : World} {Q : Nat} {wr : World} {F C T F' C' T' : Bool} (g : FX h len w Q wr F C T) (hF : F = F') (hC : C = C') (hT : T = T') : FX h len w Q wr F' C' T' := by
  subst hF hC hT
  exact g
theorem FX.bef {h : List Ev} {len : Nat} {w : World} {Q : Nat} {wr : World} {F C T : Bool} (g : FX h len w Q wr F C T) (hg : Good h len) (h60 : len ≤ 60) {i k : Nat} (hi : i < len) (hk : k < len) : wr.cell? ⟨Q, i * 60 + k, none⟩ = some (.bool (bef h i k)) := by
  rw [Sq.cell g.2.1 (by omega) (by omega), wa_eq hg hi hk]
/-- the cells of an event -/
def Ev3 (w : World) (b off : Nat) (k : Nat) (e : Ev) : Prop := w.cell? ⟨b, off + k * 3, none⟩ = some (.int .i64 e.1) ∧ w.cell? ⟨b, off + k * 3 + 1, none⟩ = some (.int .i64 e.2.1) ∧ w.cell? ⟨b, off + k * 3 + 2, none⟩ = some (.int .i64 e.2.2)
theorem Ew.ev3 {w w' : World} {b off len : Nat} {h : List Ev} (g : Ew w (some ⟨b, off, none⟩) len h) (hb : Below w.heap.size w w') {k : Nat} (hk : k < len) : Ev3 w' b off k (ev h k) := by
  obtain ⟨_, _, e, _, hc⟩ := (g.later hb).2 (by omega)
  cases e
  exact hc k hk

/-! how the flags go on -/
theorem all_skip (p : Nat → Bool) (n : Nat) (hp : ∀ j, j < n → p j = true) : (List.range n).all p = true := by
  rw [List.all_eq_true]
  exact fun j hj => hp j (List.mem_range.1 hj)
theorem fI_zero (h : List Ev) (N : Nat) : fI h N 0 = true := rfl
theorem cI_zero (h : List Ev) (N : Nat) : cI h N 0 = true := rfl
theorem fK_start (h : List Ev) (N i : Nat) : fK h N i (i + 1) = true := all_skip _ _ fun j hj => by simp [pairB, show ¬ i < j by omega]
theorem cK_start (h : List Ev) (N i : Nat) : cK h N i (i + 1) = true := all_skip _ _ fun j hj => by simp [pairB, show ¬ i < j by omega]
theorem cJ_start (h : List Ev) (i k : Nat) : cJ h i k (k + 1) = true := all_skip _ _ fun j hj => by simp [missB, show ¬ k < j by omega]
theorem fJ_start (h : List Ev) (i k : Nat) : fJ h i k (k + 1) = true := by simp [fJ, cJ_start]
theorem fI_step (h : List Ev) (N i : Nat) : fI h N (i + 1) = (fI h N i && fK h N i N) := all_step _ _
theorem cI_step (h : List Ev) (N i : Nat) : cI h N (i + 1) = (cI h N i && cK h N i N) := all_step _ _
theorem fK_no {h : List Ev} {N i k : Nat} (hp : pairB h i k = false) (a : Bool) : (a && fK h N i k) = (a && fK h N i (k + 1)) := by
  rw [fK, fK, all_step, hp]; simp
theorem cK_no {h : List Ev} {N i k : Nat} (hp : pairB h i k = false) (a : Bool) : (a && cK h N i k) = (a && cK h N i (k + 1)) := by
  rw [cK, cK, all_step, hp]; simp
theorem fK_yes {h : List Ev} {N i k : Nat} (hp : pairB h i k = true) (a : Bool) : ((a && fK h N i k) && fJ h i k N) = (a && fK h N i (k + 1)) := by
  rw [fK, fK, all_step, hp, Bool.and_assoc]; simp
theorem cK_yes {h : List Ev} {N i k : Nat} (hp : pairB h i k = true) (a : Bool) : ((a && cK h N i k) && cJ h i k N) = (a && cK h N i (k + 1)) := by
  rw [cK, cK, all_step, hp, Bool.and_assoc]; simp
theorem cJ_no {h : List Ev} {i k j : Nat} (hm : missB h i k j = false) : cJ h i k j = cJ h i k (j + 1) := by
  rw [cJ, cJ, all_step, hm]; simp
theorem fJ_no {h : List Ev} {i k j : Nat} (hm : missB h i k j = false) : fJ h i k j = fJ h i k (j + 1) := by
  rw [fJ, fJ, cJ_no hm]
theorem cJ_yes {h : List Ev} {i k j : Nat} (hm : missB h i k j = true) : cJ h i k (j + 1) = false := by
  rw [cJ, all_step, hm]; simp
theorem fJ_same {h : List Ev} {i k j : Nat} (hm : missB h i k j = true) (hs : smB h i k = true) : fJ h i k (j + 1) = false := by
  rw [fJ, cJ_yes hm, hs]; rfl
theorem fJ_other {h : List Ev} {i k j : Nat} (hs : smB h i k = false) : fJ h i k j = fJ h i k (j + 1) := by
  rw [fJ, fJ, hs]; rfl
theorem hadB_step (h : List Ev) (i j m : Nat) : hadB h i j (m + 1) = (hadB h i j m || (decide ((ev h m).1 = (ev h j).1) && decide ((ev h m).2.2 = (ev h i).2.2) && decide ((ev h m).2.1 ≠ 1))) := any_step _ _
theorem tA_zero (h : List Ev) : tA h 0 = true := rfl
theorem tC_zero (h : List Ev) (a : Nat) : tC h a 0 = true := rfl
theorem tI_zero (x y : List Int) : tI x y 0 = true := rfl
theorem tK_start (x y : List Int) (i : Nat) : tK x y i (i + 1) = true := all_skip _ _ fun j hj => by simp [unB, show ¬ i < j by omega]
theorem tA_step (h : List Ev) (a : Nat) : tA h (a + 1) = (tA h a && tC h a a) := all_step _ _
theorem tC_step (h : List Ev) (a c : Nat) (b : Bool) : ((b && tC h a c) && tI (hrd h a) (hrd h c) (hrd h a).length) = (b && tC h a (c + 1)) := by
  rw [tC, tC, all_step, Bool.and_assoc]
theorem tI_step (x y : List Int) (i : Nat) (b : Bool) : ((b && tI x y i) && tK x y i x.length) = (b && tI x y (i + 1)) := by
  rw [tI, tI, all_step, Bool.and_assoc]
theorem tK_no {x y : List Int} {i k : Nat} (hu : unB x y i k = false) : tK x y i k = tK x y i (k + 1) := by
  rw [tK, tK, all_step, hu]; simp
theorem tK_yes {x y : List Int} {i k : Nat} (hu : unB x y i k = true) : tK x y i (k + 1) = false := by
  rw [tK, all_step, hu]; simp
/-- in unlike orders, as it is asked -/
theorem unB_eq {x y : List Int} {i k : Nat} (hik : i < k) : unB x y i k = (decide (0 ≤ ixI y (x.getD i 0)) && decide (0 ≤ ixI y (x.getD k 0)) && decide (ixI y (x.getD k 0) < ixI y (x.getD i 0))) := by
  unfold unB ixI
  by_cases h1 : x.getD i 0 ∈ y
  · by_cases h2 : x.getD k 0 ∈ y
    · rw [if_pos h1, if_pos h2]
      simp only [hik, h1, h2, decide_true, Bool.true_and]
      rw [Bool.eq_iff_iff]
      simp only [decide_eq_true_eq, Bool.and_eq_true]
      omega
    · rw [if_neg h2, decide_eq_false h2, Bool.and_false, Bool.false_and, decide_eq_false (show ¬ (0 : Int) ≤ -1 by omega), Bool.and_false, Bool.false_and]
  · rw [if_neg h1, decide_eq_false h1, Bool.and_false, Bool.false_and, Bool.false_and, decide_eq_false (show ¬ (0 : Int) ≤ -1 by omega), Bool.false_and, Bool.false_and]
end Go.Proofs.YtmnjihkllojapabDoor.His
