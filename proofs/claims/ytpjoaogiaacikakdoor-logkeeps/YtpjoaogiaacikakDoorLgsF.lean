/-
  Contract of package log: Faces.
-/
import Derived.Test.YtpjoaogiaacikakDoorLgsG
import Derived.Test.YtpjoaogiaacikakDoorLgsH
import Derived.Test.YtpjoaogiaacikakDoorFacF
import Derived.Laws.ResultCell
namespace Go.Proofs.YtpjoaogiaacikakDoor.Lgs
open Go.RowKit
open Go.Proofs.YtpjoaogiaacikakDoor.His (Ev Ew ev errV errV_ok errV_no Eo flat flat_get chkC)
open Go.Proofs.YtpjoaogiaacikakDoor.Sep (KpL NewL)
set_option linter.unusedVariables false
variable {w w' : World} {base P : Nat} {v : Value} {lf : Int} {hb : List Int} {l : L}

set_option maxRecDepth 100000 in
set_option maxHeartbeats 4000000 in
theorem faces_any (h : LF w base P v lf hb l) (hi : Inv l) : Calls Tryd.prog 17 #[.pointer (some ⟨P, 0, none⟩)] w fun x w' => x = .returned (.tuple #[.agg #[.bool (His.fifoB l.es), .bool (His.causB l.es), .bool (His.totB l.es)], .nilIface]) ∧ Below w.heap.size w w' := by
  obtain ⟨W0, eW⟩ : ∃ W, W = w.alloc (.cells #[.bool false, .bool false, .bool false] 41) := ⟨_, rfl⟩
  have B0 : Hid (Below w.heap.size w W0) := by
    subst eW
    exact (Below.refl _ _).alloc (Nat.le_refl _) _
  have R0 : Hid (W0.rowIs w.heap.size 41 3 (fun _ => .bool false)) := by
    have := World.rowIs_alloc w #[.bool false, .bool false, .bool false] 41 (fun _ => .bool false) His.zero3
    rw [← eW] at this
    exact this
  have HG : Hid (LF W0 base P v lf hb l ∧ Inv l) := ⟨h.later B0.out, hi⟩
  clear h hi
  go_enter Tryd.func17, Tryd.ntmps17
  go_wp2_with fail
  rw [← eW]
  refine (all_any HG.out.1 HG.out.2).mono ?_
  rintro e w1 ⟨u, rfl, ho, hb1⟩
  obtain ⟨q, c, rfl, hlc, hcm, hew⟩ := eo_view ho
  have S1 : Hid (Ew w1 q l.es.length l.es ∧ Below W0.heap.size W0 w1 ∧ l.es.length ≤ c ∧ c ≤ maxLen) := ⟨hew, hb1, hlc, hcm⟩
  clear ho hb1 hlc hcm hew
  go_wp2_with fail
  refine (His.of_ok q l.es.length c l.es w1 S1.out.2.2.1 S1.out.2.2.2 S1.out.1 HG.out.2.good).mono ?_
  rintro e w2 ⟨rfl, hb2⟩
  have B2 : Hid (Below W0.heap.size W0 w2) := S1.out.2.1.trans (hb2.mono S1.out.2.1.size)
  have hlt : w.heap.size < W0.heap.size := R0.out.lt
  have R2 : Hid (w2.rowIs w.heap.size 41 3 (fun _ => .bool false)) := R0.out.of_block (B2.out.block _ hlt)
  have f0 := R2.out.frozen 0
  have f1 := R2.out.frozen 1
  have f2 := R2.out.frozen 2
  have c0 := R2.out.cell (i := 0) (by omega)
  have c1 := R2.out.cell (i := 1) (by omega)
  have c2 := R2.out.cell (i := 2) (by omega)
  clear hb2
  go_wp2
  have r5 := ((World.rowIs.set R2.out 0 (.bool (His.fifoB l.es))).set 1 (.bool (His.causB l.es))).set 2 (.bool (His.totB l.es))
  have y0 := r5.cell (i := 0) (by omega)
  have y1 := r5.cell (i := 1) (by omega)
  have y2 := r5.cell (i := 2) (by omega)
  simp at y0 y1 y2
  exact bodyPost_ret (v := .tuple #[.agg #[.bool (His.fifoB l.es), .bool (His.causB l.es), .bool (His.totB l.es)], .nilIface]) (His.ret3 rfl rfl rfl y0 y1 y2) rfl ⟨rfl, (((B0.out.trans (B2.out.mono B0.out.size)).trans (set_below _ 0 _ (Nat.le_refl _))).trans (set_below _ 1 _ (Nat.le_refl _))).trans (set_below _ 2 _ (Nat.le_refl _))⟩
end Go.Proofs.YtpjoaogiaacikakDoor.Lgs
