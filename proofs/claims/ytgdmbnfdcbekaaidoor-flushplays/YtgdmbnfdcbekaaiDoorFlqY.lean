/-
  The document's own group that flushes, while those who stay hear.
-/
import Derived.Test.YtgdmbnfdcbekaaiDoorFlqS
import Derived.Test.YtgdmbnfdcbekaaiDoorFlqM
import Derived.Test.YtgdmbnfdcbekaaiDoorFlqN
import Derived.Test.YtgdmbnfdcbekaaiDoorVwtR
import Derived.Test.YtgdmbnfdcbekaaiDoorFluO
namespace Go.Proofs.YtgdmbnfdcbekaaiDoor.Flu
open Go.RowKit
open Go.Proofs.YtgdmbnfdcbekaaiDoor.Fif (own_lt own_block own_form own_vw ret_bool info_int new_int int_one)
open Go.Proofs.YtgdmbnfdcbekaaiDoor.Vec (Vw)
open Go.Proofs.YtgdmbnfdcbekaaiDoor.Viw (refIn ret_iv refNext refShared Ow nxC nextC shared)
set_option linter.unusedVariables false
variable {w wr w' w5 : World} {base R g cap B : Nat} {f : F} {rv rvc : Nat → Value} {gc : Nat → List Int} {qst : Option Addr} {lst : Nat} {st : List Int}

/-- what stands in the rows while those who stay hear -/
def lsG (f : F) (gc : Nat → List Int) (i : Nat) : List Int := if 2 + 5 * num f ≤ i then gc (i - (2 + 5 * num f)) else lsF f i
theorem lsG_ix {m : Nat} : lsG f gc (ix (num f) m) = gc m := by
  unfold lsG ix
  rw [if_pos (by omega), show 2 + 5 * num f + m - (2 + 5 * num f) = m by omega]
theorem lsG_start : ∀ i, i < cntF f → lsG f (cur f) i = lsF f i := by
  intro i hi
  unfold lsG
  by_cases e : 2 + 5 * num f ≤ i
  · rw [if_pos e]
    unfold cntF at hi
    have : i = ix (num f) (i - (2 + 5 * num f)) := by unfold ix; omega
    conv => rhs; rw [this]
    rw [lsF_ix f (by omega)]
    rfl
  · rw [if_neg e]
theorem vw_of {w w' : World} {a : Option Addr} {len : Nat} {l : List Int} (h : Vw w a len l) (hs : w.heap.size ≤ w'.heap.size) (hk : ∀ ad, a = some ad → 0 < len → w'.heap[ad.block]? = w.heap[ad.block]?) : Vw w' a len l := by
  refine ⟨h.1, fun q => ?_⟩
  obtain ⟨b, off, e, hlt, hc⟩ := h.2 q
  have eb := hk _ e q
  exact ⟨b, off, e, Nat.lt_of_lt_of_le hlt hs, fun k hk => (World.cell?_of_block (a := ⟨b, off + k, none⟩) eb).trans (hc k hk)⟩
structure CX (w wr : World) (base R : Nat) (f : F) (rv rvc : Nat → Value) (g cap B : Nat) (gc : Nat → List Int) (qst : Option Addr) (lst : Nat) (st : List Int) : Prop where
  rx : RX wr base R (cntF f) f.v.n f.was (rv 0) (rv 1) (lsG f gc) rvc g cap (num f + 1) (fun k m => rv (ix k m))
  old : ∀ i, i < 2 + 5 * num f → rvc i = rv i
  bx : wr.rowIs B 48 5 (fun m => rvc (ix (num f) m))
  bn : ¬ Fb R g (cntF f) rvc B ∧ w.heap.size ≤ B
  sv : Vw wr qst lst st
  sn : ∀ ad, qst = some ad → 0 < lst → ¬ Fb R g (cntF f) rvc ad.block ∧ ad.block ≠ B
  xr : XR w wr base R g (cntF f) rv g (cntF f) rvc
  lo : base ≤ w.heap.size
theorem CX.later (h : CX w wr base R f rv rvc g cap B gc qst lst st) (hb : Below wr.heap.size wr w') (hbw : base ≤ wr.heap.size) : CX w w' base R f rv rvc g cap B gc qst lst st := ⟨h.rx.later hb, h.old, World.rowIs.of_block h.bx (hb.block B (World.rowIs.lt h.bx)), h.bn, h.sv.later hb, h.sn, h.xr.trans (XR.later hbw hb _ _ _ _), h.lo⟩
/-- one who stays hears a word more -/
theorem CX.app (h : CX w wr base R f rv rvc g cap B gc qst lst st) {s k gg c5 : Nat} {x : Int} (hs : s < 5) (hk : k = (gc s).length) (hg : wr.grownBy w5 (rvc (ix (num f) s)).ownBlock) (ho : w5.ownsRow base 3 1 (.slice (some ⟨gg, 0, none⟩) (k + 1) c5) (k + 1) ((gc s).map (Value.int .i64) ++ [.int .i64 x])) (hat : (rvc (ix (num f) s)).ownBlock = some gg ∨ wr.heap.size ≤ gg) :
    CX w (w5.setCell ⟨B, s, none⟩ (.slice (some ⟨gg, 0, none⟩) (k + 1) c5)) base R f rv (upV rvc (ix (num f) s) (.slice (some ⟨gg, 0, none⟩) (k + 1) c5)) g cap B (fun m => if m = s then gc s ++ [x] else gc m) qst lst st := by
  have hix : ix (num f) s < cntF f := ix_lt (Nat.le_refl _) hs
  have eL : lsG f gc (ix (num f) s) = gc s := lsG_ix
  obtain ⟨a1, a2⟩ := h.rx.app (k := k) (gg := gg) (gc := c5) (x := x) hix (by rw [eL]; exact hk) hg (by rw [eL]; exact ho) hat
  have hBl := World.rowIs.lt h.bx
  have nB : ¬ Fb R g (cntF f) (upV rvc (ix (num f) s) (.slice (some ⟨gg, 0, none⟩) (k + 1) c5)) B := fun z => by
    rcases a2.new B z with q | q
    · exact h.bn.1 q
    · omega
  have hB5 : w5.heap[B]? = wr.heap[B]? := a2.kp B hBl h.bn.1
  have far : ∀ b, b ≠ B → (w5.setCell ⟨B, s, none⟩ (.slice (some ⟨gg, 0, none⟩) (k + 1) c5)).heap[b]? = w5.heap[b]? := fun b q => Deep.blk_setCell_other _ _ _ _ q
  have hsz := a2.bel.size
  refine ⟨?_, fun i hi => ?_, ?_, ⟨nB, h.bn.2⟩, ?_, fun ad e q => ?_, ?_, h.lo⟩
  · have r := a1.of_blocks (w' := w5.setCell ⟨B, s, none⟩ (.slice (some ⟨gg, 0, none⟩) (k + 1) c5)) fun b hb => far b fun e => nB (by rw [← e]; exact hb)
    refine ⟨r.main, r.ints.congr (fun i hi => ?_) (fun _ _ => rfl), r.rows, r.low⟩
    by_cases e : i = ix (num f) s
    · rw [e, upV_same, eL, lsG_ix, if_pos rfl]
    · rw [upV_other _ _ e]
      unfold lsG
      by_cases e2 : 2 + 5 * num f ≤ i
      · rw [if_pos e2, if_pos e2]
        exact if_neg (by unfold ix at e; omega)
      · rw [if_neg e2, if_neg e2]
  · rw [upV_other _ _ (by unfold ix; omega)]
    exact h.old i hi
  · refine (World.rowIs.set (World.rowIs.of_block h.bx hB5) s _).congr fun j hj => ?_
    by_cases e : j = s
    · rw [if_pos e, e, upV_same]
    · rw [if_neg e, upV_other _ _ (fun z => e ((ix_inj hj hs).1 z).2)]
  · refine vw_of h.sv (by simp [World.setCell]; exact hsz) fun ad e q => ?_
    have z := h.sn ad e q
    obtain ⟨b, off, e', hlt, _⟩ := h.sv.2 q
    rw [e'] at e
    cases e
    exact (far _ z.2).trans (a2.kp _ hlt z.1)
  · have z := h.sn ad e q
    refine ⟨fun y => ?_, z.2⟩
    obtain ⟨b, off, e', hlt, _⟩ := h.sv.2 q
    rw [e'] at e
    cases e
    rcases a2.new _ y with p | p
    · exact z.1 p
    · have p' : wr.heap.size ≤ b := p
      have hlt' : b < wr.heap.size := hlt
      omega
  · have y := h.xr.trans a2
    exact ⟨y.bel.setCell (p := ⟨B, s, none⟩) (Nat.le_trans h.lo h.bn.2) _, fun b hb hn => (far b (by have := h.bn.2; omega)).trans (y.kp b hb hn), y.new⟩
end Go.Proofs.YtgdmbnfdcbekaaiDoor.Flu
