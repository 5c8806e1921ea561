/-
  How the program's picture stands in a walk; small facts on sums.
-/
import Derived.Test.YtgcdbcljneoifajDoorPicP
import Derived.Deep.QuietTactic
import Derived.BigQuiet
import Derived.Deep.RegionHeld3
import Derived.WalkLawsBesides
import Derived.Handy
import Derived.Deep.CutBlock
import Derived.Deep.CutRange
namespace Go.Proofs.YtgcdbcljneoifajDoor.Pic
open Go.RowKit
open Go.Proofs.YtgcdbcljneoifajDoor.Fif (ret_bool)
open Go.Proofs.YtgcdbcljneoifajDoor.Vec (Vw)
open Go.Proofs.YtgcdbcljneoifajDoor.Sep (KpL NewL)
open Go.Proofs.YtgcdbcljneoifajDoor.Ldr (errF errF_ok errF_no Sl)
set_option linter.unusedVariables false

theorem TS.later {w w' : World} {base P : Nat} {g : G} {fp : List Nat} (h : TS w base P g fp) (hb : Below w.heap.size w w') : TS w' base P g fp := h.of_blocks hb.size fun b hb' => hb.block b (h.fp b hb').2
/-- how it stands -/
structure TO (w wr : World) (P : Nat) (g : G) (fp : List Nat) : Prop where
  us : TS wr w.heap.size P g fp
  bel : Below w.heap.size w wr
theorem TO.later {w wr w' : World} {P : Nat} {g : G} {fp : List Nat} (h : TO w wr P g fp) (hb : Below wr.heap.size wr w') : TO w w' P g fp := ⟨h.us.later hb, h.bel.trans (hb.mono h.bel.size)⟩
theorem sl_vwP {w : World} {q : Option Addr} {n c : Nat} {l : List Int} (h : Sl w (.slice q n c) l) : n = l.length ∧ Vw w q n l ∧ n ≤ c ∧ c ≤ maxLen := by
  obtain ⟨a', c', e, h1, h2, hv⟩ := h
  injection e with e1 e2 e3
  subst e1 e2 e3
  exact ⟨rfl, hv, h1, h2⟩
theorem S_le {f : Nat → Int} {n : Nat} (h : ∀ i, i < n → f i ≤ 1000) : S f n ≤ 1000 * (n : Int) := by
  induction n with
  | zero => exact Int.le_refl _
  | succ n ih =>
    show S f n + f n ≤ _
    have h1 := ih fun i hi => h i (by omega)
    have h2 := h n (by omega)
    omega
theorem gold_le {l : List Int} (h : newC l = 0) {i : Nat} (hi : i < l.length) : 0 ≤ l.getD i 0 ∧ l.getD i 0 ≤ 1000 := by
  have e : l.getD i 0 = l[i] := by simp [List.getD, hi]
  rw [e]
  exact (len_start l h).2 _ (List.getElem_mem hi)
theorem S_bound {l : List Int} (h : newC l = 0) {k : Nat} (hk : k ≤ l.length) : 0 ≤ S (fun i => l.getD i 0) k ∧ S (fun i => l.getD i 0) k ≤ 5000 := by
  have h5 := (len_start l h).1.2
  have h1 := S_le (f := fun i => l.getD i 0) (n := k) fun i hi => (gold_le h (by omega)).2
  exact ⟨S_pos fun i hi => (gold_le h (by omega)).1, by omega⟩
theorem beg_again {g : G} {m : Nat} (hm : m < g.n) (hb : g.begun = true) : begC g (m : Int) = 6 := by
  unfold begC
  rw [if_pos (show inM g (m : Int) from ⟨by omega, by omega⟩), if_pos hb]
theorem sum_done {g : G} (h : Dn g) : doneB g = true ∧ sumC g = 0 ∧ had g = S g.wrote g.n ∧ onw g = g.ow := ⟨decide_eq_true h, if_pos h, if_pos h, if_pos h⟩
theorem S_mono {f : Nat → Int} {n k : Nat} (h : ∀ i, i < n → 0 ≤ f i) (hk : k ≤ n) : S f k ≤ S f n := by
  induction n with
  | zero => rw [show k = 0 by omega]; exact Int.le_refl _
  | succ n ih =>
    by_cases e : k = n + 1
    · rw [e]; exact Int.le_refl _
    · have h1 := ih (fun i hi => h i (by omega)) (by omega)
      have h2 := h n (by omega)
      show S f k ≤ S f n + f n
      omega
theorem Inv.ow0 {all : Int} {g : G} (h : Inv all g) : 0 ≤ g.ow := by
  rw [h.gone]
  exact S_pos fun i _ => S_pos fun j _ => by
    show 0 ≤ if cl g i j = true then g.part i j else 0
    split
    · exact h.ppos i j
    · exact Int.le_refl _
theorem beg_begun (g : G) (m : Int) : (beg g m).begun = (decide (begC g m = 0) || g.begun) := by
  unfold beg
  split
  · rename_i q
    rw [decide_eq_true q]
    rfl
  · rename_i q
    rw [decide_eq_false q]
    rfl
theorem beg_n (g : G) (m : Int) : (beg g m).n = g.n := by unfold beg; split <;> rfl
theorem pay_n (g : G) (a b x : Int) : (pay g a b x).n = g.n ∧ (pay g a b x).begun = g.begun := by unfold pay; split <;> exact ⟨rfl, rfl⟩
end Go.Proofs.YtgcdbcljneoifajDoor.Pic
