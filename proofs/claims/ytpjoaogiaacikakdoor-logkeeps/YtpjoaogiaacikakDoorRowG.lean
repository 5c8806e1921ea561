/-
  Plain facts on rows in memory and on what an event reaches.
-/
import Derived.Test.YtpjoaogiaacikakDoorHisC
import Derived.Deep.OwnRows
namespace Go.Proofs.YtpjoaogiaacikakDoor.His
open Go.RowKit

theorem rowIs_later {w w' : World} {b : Nat} {t : TypeId} {n : Nat} {f : Nat → Value} (h : w.rowIs b t n f) (hb : Below w.heap.size w w') : w'.rowIs b t n f := h.of_block (hb.block b h.lt)

theorem wp_gen {P : Program} {c : Code} {Q : Exit → Act → World → Prop} {a : Act} {w : World} (R : World → Prop) (h : R w) (k : ∀ w', R w' → Code.wp P c Q a w') : Code.wp P c Q a w := k w h

theorem list5 {r : List Int} (h : r.length = 5) : [r.getD 0 0, r.getD 1 0, r.getD 2 0, r.getD 3 0, r.getD 4 0] = r := by
  match r, h with
  | [a, b, c, d, e], _ => rfl
theorem last_bd {h : List Ev} {N n : Nat} (hg : Good h N) (hn : n < N) (m : Nat) : 0 ≤ (last h n (W h n)).getD m 0 ∧ (last h n (W h n)).getD m 0 ≤ n := by
  rcases last_spec h (W h n) n with ⟨j, h1, h2, h3, h4⟩ | ⟨_, h2⟩
  · rw [h4]
    have := row_nonneg hg (show j < N by omega) m
    have := row_le hg (show j < N by omega) m
    have := cnt_le h m (j + 1)
    omega
  · rw [h2]
    rcases m with _ | _ | _ | _ | _ | m <;> simp [zero5]
theorem row_bd {h : List Ev} {N n : Nat} (hg : Good h N) (hn : n < N) (m : Nat) : 0 ≤ (row h n).getD m 0 ∧ (row h n).getD m 0 ≤ n + 1 := by
  have := row_nonneg hg hn m
  have := row_le hg hn m
  have := cnt_le h m (n + 1)
  omega
theorem row_plain {h : List Ev} {n : Nat} (h3 : (ev h n).2.1 ≠ 3) : row h n = upd (last h n (W h n)) (W h n) := by
  unfold row far
  rw [if_neg h3]
  rfl
theorem row_hear {h : List Ev} {N n : Nat} (hg : Good h N) (hn : n < N) (h3 : (ev h n).2.1 = 3) : row h n = upd (joinR (last h n (W h n)) (row h (sayAt h (ev h n).2.2))) (W h n) := by
  have e : row h n = upd (if (ev h n).2.1 = 3 then joinR (last h n (W h n)) ((st h n).1.getD (sayAt h (ev h n).2.2) zero5) else last h n (W h n)) (W h n) := rfl
  rw [e, if_pos h3, st_get h n _ (sayAt_lt hg hn h3).1]

theorem Bx.set {w : World} {B F i : Nat} {x0 x1 x2 : Int} (h : Bx w B x0 x1 x2) (hne : B ≠ F) (v : Value) : Bx (w.setCell ⟨F, i, none⟩ v) B x0 x1 x2 := by
  have key : ∀ j, (w.setCell ⟨F, i, none⟩ v).cell? ⟨B, j, none⟩ = w.cell? ⟨B, j, none⟩ := fun j => World.cell?_setCell_other _ _ _ _ (fun e => hne (congrArg Addr.block e).symm)
  refine ⟨?_, by rw [key]; exact h.2.1, by rw [key]; exact h.2.2.1, by rw [key]; exact h.2.2.2⟩
  have := h.1
  simpa [World.setCell] using this
end Go.Proofs.YtpjoaogiaacikakDoor.His
