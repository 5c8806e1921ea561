/-
  The document's own group that flushes: the end of a Change, put together.
-/
import Derived.Test.YtgdmbnfdcbekaaiDoorFlqD
namespace Go.Proofs.YtgdmbnfdcbekaaiDoor.Flu
open Go.RowKit
open Go.Proofs.YtgdmbnfdcbekaaiDoor.Fif (own_lt own_block own_form own_vw ret_bool info_int new_int int_one)
open Go.Proofs.YtgdmbnfdcbekaaiDoor.Vec (Vw)
set_option linter.unusedVariables false
variable {w wr w5 w6 : World} {base R g cap B lst : Nat} {f : F} {rv rvc : Nat → Value} {gc : Nat → List Int} {qst : Option Addr} {st : List Int}

/-- what those who stay heard is written down -/
theorem CX.end1 (h : CX w wr base R f rv rvc g cap B gc qst lst st) (v : Nat → Value) (hv : ∀ m, m < 5 → v m = rvc (ix (num f) m)) : RX (((((wr.setCell ⟨g, num f * 5, none⟩ (v 0)).setCell ⟨g, num f * 5 + 1, none⟩ (v 1)).setCell ⟨g, num f * 5 + 2, none⟩ (v 2)).setCell ⟨g, num f * 5 + 3, none⟩ (v 3)).setCell ⟨g, num f * 5 + 4, none⟩ (v 4)) base R (cntF f) f.v.n f.was (rv 0) (rv 1) (lsG f gc) rvc g cap (num f + 1) (fun k m => rvc (ix k m)) ∧ XR w (((((wr.setCell ⟨g, num f * 5, none⟩ (v 0)).setCell ⟨g, num f * 5 + 1, none⟩ (v 1)).setCell ⟨g, num f * 5 + 2, none⟩ (v 2)).setCell ⟨g, num f * 5 + 3, none⟩ (v 3)).setCell ⟨g, num f * 5 + 4, none⟩ (v 4)) base R g (cntF f) rv g (cntF f) rvc := by
  obtain ⟨a, b⟩ := h.rx.five (k := num f) (by omega) v
  refine ⟨⟨a.main, a.ints, a.rows.congr fun k m hk hm => ?_, a.low⟩, h.xr.trans b⟩
  by_cases e : k = num f
  · rw [if_pos e, hv m hm, e]
  · rw [if_neg e]
    exact h.old _ (by unfold ix; omega)
def rvE (f : F) (rvc : Nat → Value) : Nat → Value := fun i => if i < cntF f then rvc i else nilV
def lsE (f : F) (gc : Nat → List Int) : Nat → List Int := fun i => if i < cntF f then lsG f gc i else []
variable {g' cap' : Nat}
/-- one view more, its number, and nobody in it yet -/
theorem RX.end2 (h : RX wr base R (cntF f) f.v.n f.was (rv 0) (rv 1) (lsG f gc) rvc g cap (num f + 1) (fun k m => rvc (ix k m))) (hx : XR w wr base R g (cntF f) rv g (cntF f) rvc) (hg : wr.grownBy w5 (some g)) (ho : w5.ownsRow base 48 5 (.slice (some ⟨g', 0, none⟩) (num f + 1 + 1) cap') (num f + 1 + 1) (flatH (fun k m => rvc (ix k m)) (num f + 1) ++ [nilV, nilV, nilV, nilV, nilV])) (hat : some g = some g' ∨ wr.heap.size ≤ g') (x : Int) :
    RX (((w5.setCell ⟨R, 34, none⟩ (.slice (some ⟨g', 0, none⟩) (num f + 1 + 1) cap')).setCell ⟨R, 0, none⟩ (.int .i64 x)).setCell ⟨R, 1, none⟩ nilV) base R (cntF f + 5) x f.was nilV (rv 1) (upV (lsE f gc) 0 []) (upV (rvE f rvc) 0 nilV) g' cap' (num f + 1 + 1) (fun k m => if k = num f + 1 then nilV else rvc (ix k m)) ∧
    XR w (((w5.setCell ⟨R, 34, none⟩ (.slice (some ⟨g', 0, none⟩) (num f + 1 + 1) cap')).setCell ⟨R, 0, none⟩ (.int .i64 x)).setCell ⟨R, 1, none⟩ nilV) base R g (cntF f) rv g' (cntF f + 5) (upV (rvE f rvc) 0 nilV) := by
  obtain ⟨a1, b1⟩ := h.more hg ho hat
  obtain ⟨a2, b2⟩ := a1.wider 5
  obtain ⟨a3, b3⟩ := a2.onR (a2.main.setN x)
  obtain ⟨a4, b4⟩ := a3.bare (i := 0) (by unfold cntF; omega)
  obtain ⟨a5, b5⟩ := a4.onR (a4.main.setH nilV)
  exact ⟨a5, ((((hx.trans b1).trans b2).trans b3).trans b4).trans b5⟩
/-- those who are told are in it, and nothing was said -/
theorem RX.end3 {has : List Int} {v6 : Value} {hvf : Nat → Nat → Value} {x : Int} (h : RX wr base R (cntF f + 5) x f.was nilV (rv 1) (upV (lsE f gc) 0 []) (upV (rvE f rvc) 0 nilV) g' cap' (num f + 1 + 1) hvf) (hx : XR w wr base R g (cntF f) rv g' (cntF f + 5) (upV (rvE f rvc) 0 nilV)) (hg : wr.grownBy w6 none) (ho : Orw w6 base v6 has) (hat : ∀ b, v6.ownBlock = some b → wr.heap.size ≤ b) :
    RX ((w6.setCell ⟨R, 1, none⟩ v6).setCell ⟨R, 33, none⟩ nilV) base R (cntF f + 5) x f.was v6 nilV (upV (upV (upV (lsE f gc) 0 []) 0 has) 1 []) (upV (upV (upV (rvE f rvc) 0 nilV) 0 v6) 1 nilV) g' cap' (num f + 1 + 1) hvf ∧
    XR w ((w6.setCell ⟨R, 1, none⟩ v6).setCell ⟨R, 33, none⟩ nilV) base R g (cntF f) rv g' (cntF f + 5) (upV (upV (upV (rvE f rvc) 0 nilV) 0 v6) 1 nilV) := by
  obtain ⟨a1, b1⟩ := h.fill (i := 0) (by unfold cntF; omega) hg ho hat
  obtain ⟨a2, b2⟩ := a1.onR (a1.main.setH v6)
  obtain ⟨a3, b3⟩ := a2.bare (i := 1) (by unfold cntF; omega)
  obtain ⟨a4, b4⟩ := a3.onR (a3.main.setS nilV)
  exact ⟨a4, (((hx.trans b1).trans b2).trans b3).trans b4⟩
theorem num_turnE (hi : Inv f) (has : List Int) : num (turn f has) = num f + 1 := by
  have := hi.numI
  show (f.v.n + 1).toNat = num f + 1
  omega
theorem cnt_turnE (hi : Inv f) (has : List Int) : cntF (turn f has) = cntF f + 5 := by
  unfold cntF
  rw [num_turnE hi]
  omega
theorem RX.end4 {has : List Int} {v6 : Value} (hi : Inv f) (h : RX wr base R (cntF f + 5) (f.v.n + 1) f.was v6 nilV (upV (upV (upV (lsE f (fl (stay f has) (cur f) f.said)) 0 []) 0 has) 1 []) (upV (upV (upV (rvE f rvc) 0 nilV) 0 v6) 1 nilV) g' cap' (num f + 1 + 1) (fun k m => if k = num f + 1 then nilV else rvc (ix k m))) (hx : XR w wr base R g (cntF f) rv g' (cntF f + 5) (upV (upV (upV (rvE f rvc) 0 nilV) 0 v6) 1 nilV)) :
    FR w wr base R f (turn f has) rv (upV (upV (upV (rvE f rvc) 0 nilV) 0 v6) 1 nilV) g g' cap' := by
  refine FR.of (h.rf (f' := turn f has) (cnt_turnE hi has).symm rfl (fun _ _ _ => rfl) ?_ ?_ (fun i hiN => ?_) (by rw [num_turnE hi]) (fun k m hk hm => ?_)) (by rw [cnt_turnE hi]; exact hx)
  · rw [upV_other _ _ (by decide), upV_same]
  · rw [upV_same]
  · by_cases q0 : i = 0
    · subst q0
      rw [upV_other _ _ (by decide), upV_same]
      rfl
    · by_cases q1 : i = 1
      · subst q1
        rw [upV_same]
        rfl
      · rw [upV_other _ _ q1, upV_other _ _ q0, upV_other _ _ q0]
        have e1 : lsF (turn f has) i = up1 f.hd (num f) (fl (stay f has) (cur f) f.said) ((i - 2) / 5) ((i - 2) % 5) := by
          unfold lsF
          rw [if_neg q0, if_neg q1]
          rfl
        rw [e1]
        unfold lsE lsG
        by_cases q2 : i < cntF f
        · rw [if_pos q2]
          unfold cntF at q2
          by_cases q3 : 2 + 5 * num f ≤ i
          · rw [if_pos q3, show (i - 2) / 5 = num f by omega, up1_same, show (i - 2) % 5 = i - (2 + 5 * num f) by omega]
          · rw [if_neg q3, up1_other _ _ _ (by omega)]
            unfold lsF
            rw [if_neg q0, if_neg q1]
        · rw [if_neg q2]
          unfold cntF at q2
          rw [up1_other _ _ _ (by omega)]
          exact hi.new _ (by omega) _
  · have e0 : ix k m ≠ 0 := by unfold ix; omega
    have e1 : ix k m ≠ 1 := by unfold ix; omega
    rw [upV_other _ _ e1, upV_other _ _ e0, upV_other _ _ e0]
    unfold rvE
    by_cases q : k = num f + 1
    · rw [if_pos q, if_neg (by unfold cntF ix; omega)]
    · rw [if_neg q, if_pos (by unfold cntF ix; omega)]
end Go.Proofs.YtgdmbnfdcbekaaiDoor.Flu
