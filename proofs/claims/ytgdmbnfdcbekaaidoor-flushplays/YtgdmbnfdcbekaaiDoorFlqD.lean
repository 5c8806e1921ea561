/-
  The document's own group that flushes, while those who stay hear: what is seen of it.
-/
import Derived.Test.YtgdmbnfdcbekaaiDoorFlqZ
namespace Go.Proofs.YtgdmbnfdcbekaaiDoor.Flu
open Go.RowKit
open Go.Proofs.YtgdmbnfdcbekaaiDoor.Fif (own_lt own_block own_form own_vw ret_bool info_int new_int int_one)
open Go.Proofs.YtgdmbnfdcbekaaiDoor.Vec (Vw)
open Go.Proofs.YtgdmbnfdcbekaaiDoor.Viw (refIn ret_iv refNext refShared Ow nxC nextC shared drewsV)
set_option linter.unusedVariables false
variable {w wr w' w5 : World} {base R g cap B : Nat} {f : F} {rv rvc : Nat → Value} {gc : Nat → List Int} {qst : Option Addr} {lst : Nat} {st : List Int}

/-- what one of them heard so far, as it is seen -/
theorem CX.see (h : CX w wr base R f rv rvc g cap B gc qst lst st) {s : Nat} (hs : s < 5) : ∃ q c, rvc (ix (num f) s) = .slice q (gc s).length c ∧ Vw wr q (gc s).length (gc s) ∧ wr.cell? ⟨B, s, none⟩ = some (.slice q (gc s).length c) ∧ wr.ownsRow base 3 1 (.slice q (gc s).length c) (gc s).length ((gc s).map (Value.int .i64)) := by
  have hix : ix (num f) s < cntF f := ix_lt (Nat.le_refl _) hs
  obtain ⟨q, c, e, hv⟩ := h.rx.ints.see hix
  rw [lsG_ix] at e hv
  have o : wr.ownsRow base 3 1 (rvc (ix (num f) s)) (lsG f gc (ix (num f) s)).length ((lsG f gc (ix (num f) s)).map (Value.int .i64)) := h.rx.ints.own _ hix
  rw [lsG_ix, e] at o
  have c1 := World.rowIs.cell h.bx (i := s) hs
  rw [e] at c1
  exact ⟨q, c, e, hv, c1, o⟩
theorem CX.said (h : CX w wr base R f rv rvc g cap B gc qst lst st) {qs : Option Addr} {ls cs : Nat} (e : rv 1 = .slice qs ls cs) : Vw wr qs ls f.said ∧ wr.cell? ⟨R, 33, none⟩ = some (.slice qs ls cs) ∧ (∀ ad, qs = some ad → 0 < ls → ∀ s, s < 5 → (rvc (ix (num f) s)).ownBlock ≠ some ad.block ∧ ad.block ≠ B) := by
  have h1 : 1 < cntF f := by unfold cntF; omega
  obtain ⟨q, c, e2, hv⟩ := h.rx.ints.see h1
  have e3 : rvc 1 = .slice qs ls cs := by rw [h.old 1 (by omega)]; exact e
  have eL : lsG f gc 1 = f.said := by unfold lsG; rw [if_neg (by omega)]; rfl
  rw [e3] at e2
  injection e2 with a1 a2 a3
  subst a1 a3
  rw [eL] at hv a2
  rw [← a2] at hv
  have c33 := h.rx.main.cs
  rw [e] at c33
  refine ⟨hv, c33, fun ad ea q s hs => ⟨fun z => ?_, fun z => ?_⟩⟩
  · have hix : ix (num f) s < cntF f := ix_lt (Nat.le_refl _) hs
    refine h.rx.ints.sep 1 (ix (num f) s) h1 hix (by have := ix_two (num f) s; omega) ad.block ?_ z
    rw [e3, ea]; rfl
  · exact h.bn.1 (.inr (.inr ⟨1, h1, by rw [e3, ea, z.symm]; rfl⟩))
theorem CX.stayF (h : CX w wr base R f rv rvc g cap B gc qst lst st) : ∀ ad, qst = some ad → 0 < lst → ∀ s, s < 5 → (rvc (ix (num f) s)).ownBlock ≠ some ad.block ∧ ad.block ≠ B := fun ad e q s hs => ⟨fun z => (h.sn ad e q).1 (.inr (.inr ⟨_, ix_lt (Nat.le_refl _) hs, z⟩)), (h.sn ad e q).2⟩
theorem CX.neR (h : CX w wr base R f rv rvc g cap B gc qst lst st) {s : Nat} (hs : s < 5) : (rvc (ix (num f) s)).ownBlock ≠ some R ∧ (rvc (ix (num f) s)).ownBlock ≠ some B ∧ R ≠ B := ⟨fun z => (h.rx.neI (ix_lt (Nat.le_refl _) hs) z).1 rfl, fun z => h.bn.1 (.inr (.inr ⟨_, ix_lt (Nat.le_refl _) hs, z⟩)), fun z => h.bn.1 (.inl z.symm)⟩
end Go.Proofs.YtgdmbnfdcbekaaiDoor.Flu
