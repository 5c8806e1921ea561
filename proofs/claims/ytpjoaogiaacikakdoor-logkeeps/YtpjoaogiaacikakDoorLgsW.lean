/-
  A log, and what stood ahead of it: its calls in the forms that the walks want.
-/
import Derived.Test.YtpjoaogiaacikakDoorLgsP
namespace Go.Proofs.YtpjoaogiaacikakDoor.Lgs
open Go.RowKit
open Go.Proofs.YtpjoaogiaacikakDoor.His (Ev ev errV errV_ok errV_no Eo)
open Go.Proofs.YtpjoaogiaacikakDoor.Sep (KpL NewL)
set_option linter.unusedVariables false

/-- a log, and what stood ahead of it -/
structure LW (w wr : World) (B P : Nat) (l : L) : Prop where
  lg : ∃ fp, LG wr B P l fp
  inv : Inv l
  bel : Below w.heap.size w wr
  low : w.heap.size ≤ B ∧ B ≤ wr.heap.size
variable {w wr w' : World} {B P : Nat} {l : L}
theorem LW.later (h : LW w wr B P l) (hb : Below wr.heap.size wr w') : LW w w' B P l := by
  obtain ⟨fp, hl⟩ := h.lg
  exact ⟨⟨fp, hl.of_blocks hb.size fun b q => hb.block b (hl.fp b q).2⟩, h.inv, h.bel.trans (hb.mono h.bel.size), h.low.1, Nat.le_trans h.low.2 hb.size⟩
theorem LW.new (w : World) : Calls Tryd.prog 5 #[] w fun x w' => ∃ P, x = .returned (.pointer (some ⟨P, 0, none⟩)) ∧ LW w w' w.heap.size P new := by
  refine (newG w).mono ?_
  rintro x w' ⟨P, fp, rfl, h, hb⟩
  exact ⟨P, rfl, ⟨fp, h⟩, Inv.new, hb, Nat.le_refl _, hb.size⟩
theorem LW.do (e : Ev) (h : LW w wr B P l) : Calls Tryd.prog 6 #[.pointer (some ⟨P, 0, none⟩), .agg #[.int .i64 e.1, .int .i64 e.2.1, .int .i64 e.2.2]] wr fun x w' => ∃ k, x = .returned (errV (doC l e)) ∧ 2 ≤ k ∧ LW w w' B P (doL l e k) := by
  obtain ⟨fp, hl⟩ := h.lg
  refine (doG B P l fp e wr hl h.inv h.low.2).mono ?_
  rintro x w' ⟨k, fp', rfl, ⟨h2, h3⟩, h4, hb, hk, hn⟩
  exact ⟨k, rfl, h2, ⟨fp', h4⟩, h.inv.doL e h2 h3, h.bel.trans (hb.mono h.low.1), h.low.1, Nat.le_trans h.low.2 hk.1⟩
theorem LW.bytes (h : LW w wr B P l) : Calls Tryd.prog 8 #[.pointer (some ⟨P, 0, none⟩)] wr fun x w' => x = .returned (.int .i64 (Lgs.bytes l : Nat)) ∧ LW w w' B P l := by
  obtain ⟨fp, hl⟩ := h.lg
  refine (bytesG B P l fp wr hl h.inv).mono ?_
  rintro x w' ⟨rfl, hb⟩
  exact ⟨rfl, h.later hb⟩
theorem LW.all (h : LW w wr B P l) : Calls Tryd.prog 10 #[.pointer (some ⟨P, 0, none⟩)] wr fun x w' => ∃ v, x = .returned v ∧ Eo w' wr.heap.size v l.es ∧ LW w w' B P l ∧ Below wr.heap.size wr w' := by
  obtain ⟨fp, hl⟩ := h.lg
  refine (allG B P l fp wr hl h.inv).mono ?_
  rintro x w' ⟨v, rfl, ho, hb⟩
  exact ⟨v, rfl, ho, h.later hb, hb⟩
theorem LW.sync (h : LW w wr B P l) : Calls Tryd.prog 11 #[.pointer (some ⟨P, 0, none⟩)] wr fun x w' => x = .returned (errV (syncC l)) ∧ LW w w' B P (syncL l) := by
  obtain ⟨fp, hl⟩ := h.lg
  refine (syncG B P l fp wr hl h.inv h.low.2).mono ?_
  rintro x w' ⟨fp', rfl, h4, hb, hk, hn⟩
  exact ⟨rfl, ⟨fp', h4⟩, h.inv.syncL, h.bel.trans (hb.mono h.low.1), h.low.1, Nat.le_trans h.low.2 hk.1⟩
theorem LW.fail (n : Int) (hn : n ≤ 9223372036854775807) (h : LW w wr B P l) : Calls Tryd.prog 14 #[.pointer (some ⟨P, 0, none⟩), .int .i64 n] wr fun x w' => x = .returned (.tuple #[]) ∧ LW w w' B P (failL l n) := by
  obtain ⟨fp, hl⟩ := h.lg
  refine (failG B P l fp n wr hl h.inv h.low.2 hn).mono ?_
  rintro x w' ⟨fp', rfl, h4, hb, hk, hn⟩
  exact ⟨rfl, ⟨fp', h4⟩, h.inv.failL n, h.bel.trans (hb.mono h.low.1), h.low.1, Nat.le_trans h.low.2 hk.1⟩
theorem LW.crash (keep : Int) (h : LW w wr B P l) : Calls Tryd.prog 12 #[.pointer (some ⟨P, 0, none⟩), .int .i64 keep] wr fun x w' => x = .returned (.tuple #[]) ∧ LW w w' B P (crashL l keep) := by
  obtain ⟨fp, hl⟩ := h.lg
  refine (crashG B P l fp keep wr hl h.inv h.low.2).mono ?_
  rintro x w' ⟨fp', rfl, h4, hb, hk, hn⟩
  exact ⟨rfl, ⟨fp', h4⟩, h.inv.crashL keep, h.bel.trans (hb.mono h.low.1), h.low.1, Nat.le_trans h.low.2 hk.1⟩
theorem LW.safe (h : LW w wr B P l) : Calls Tryd.prog 13 #[.pointer (some ⟨P, 0, none⟩)] wr fun x w' => x = .returned (.int .i64 (l.safe : Nat)) ∧ LW w w' B P l := by
  obtain ⟨fp, hl⟩ := h.lg
  refine (safeG B P l fp wr hl h.inv).mono ?_
  rintro x w' ⟨rfl, hb⟩
  exact ⟨rfl, h.later hb⟩
end Go.Proofs.YtpjoaogiaacikakDoor.Lgs
