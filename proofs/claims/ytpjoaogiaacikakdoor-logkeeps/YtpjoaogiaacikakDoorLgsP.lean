/-
  The landed package log in the forms that the walks want.
-/
import Derived.Test.YtpjoaogiaacikakDoorLgsG
import Derived.Test.YtpjoaogiaacikakDoorLgsH
import Derived.Test.YtpjoaogiaacikakDoorLgsF
import Derived.Test.YtpjoaogiaacikakDoorLgsD
import Derived.Test.YtpjoaogiaacikakDoorLgsX
namespace Go.Proofs.YtpjoaogiaacikakDoor.Lgs
open Go.RowKit
open Go.Proofs.YtpjoaogiaacikakDoor.His (Ev ev errV errV_ok errV_no Eo)
open Go.Proofs.YtpjoaogiaacikakDoor.Sep (KpL NewL)
set_option linter.unusedVariables false

theorem Re.all {w w' : World} {base P : Nat} {l l' : L} {v v' : Value} (r : Re w w' base P l v v' l') : LG w' base P l' (fpL P v') ∧ Below base w w' ∧ KpL w w' (fpL P v) ∧ NewL w (fpL P v) (fpL P v') := by
  obtain ⟨⟨lf, hb, h⟩, h1, h2, h3⟩ := r
  exact ⟨⟨v', lf, hb, rfl, h⟩, h1, h2, h3⟩
theorem newG (w : World) : Calls Tryd.prog 5 #[] w fun x w' => ∃ P fp, x = .returned (.pointer (some ⟨P, 0, none⟩)) ∧ LG w' w.heap.size P new fp ∧ Below w.heap.size w w' := new_any w
theorem doG (base P : Nat) (l : L) (fp : List Nat) (e : Ev) (w : World) (h : LG w base P l fp) (hi : Inv l) (hbw : base ≤ w.heap.size) : Calls Tryd.prog 6 #[.pointer (some ⟨P, 0, none⟩), .agg #[.int .i64 e.1, .int .i64 e.2.1, .int .i64 e.2.2]] w fun x w' => ∃ k fp', x = .returned (errV (doC l e)) ∧ (2 ≤ k ∧ k ≤ 1000) ∧ LG w' base P (doL l e k) fp' ∧ Below base w w' ∧ KpL w w' fp ∧ NewL w fp fp' := by
  obtain ⟨v, lf, hb, rfl, g⟩ := h
  refine (do_any e.1 e.2.1 e.2.2 g hi hbw).mono ?_
  rintro x w' ⟨rfl, v', r⟩
  obtain ⟨r1, r2, r3, r4⟩ := r.all
  exact ⟨3, _, rfl, by decide, r1, r2, r3, r4⟩
theorem syncG (base P : Nat) (l : L) (fp : List Nat) (w : World) (h : LG w base P l fp) (hi : Inv l) (hbw : base ≤ w.heap.size) : Calls Tryd.prog 11 #[.pointer (some ⟨P, 0, none⟩)] w fun x w' => ∃ fp', x = .returned (errV (syncC l)) ∧ LG w' base P (syncL l) fp' ∧ Below base w w' ∧ KpL w w' fp ∧ NewL w fp fp' := by
  obtain ⟨v, lf, hb, rfl, g⟩ := h
  refine (sync_any g hi).mono ?_
  rintro x w' ⟨rfl, r⟩
  obtain ⟨r1, r2, r3, r4⟩ := r.all
  exact ⟨_, rfl, r1, r2, r3, r4⟩
theorem failG (base P : Nat) (l : L) (fp : List Nat) (n : Int) (w : World) (h : LG w base P l fp) (hi : Inv l) (hbw : base ≤ w.heap.size) (hn : n ≤ 9223372036854775807) : Calls Tryd.prog 14 #[.pointer (some ⟨P, 0, none⟩), .int .i64 n] w fun x w' => ∃ fp', x = .returned (.tuple #[]) ∧ LG w' base P (failL l n) fp' ∧ Below base w w' ∧ KpL w w' fp ∧ NewL w fp fp' := by
  obtain ⟨v, lf, hb, rfl, g⟩ := h
  refine (fail_any n hn g).mono ?_
  rintro x w' ⟨rfl, r⟩
  obtain ⟨r1, r2, r3, r4⟩ := r.all
  exact ⟨_, rfl, r1, r2, r3, r4⟩
theorem crashG (base P : Nat) (l : L) (fp : List Nat) (keep : Int) (w : World) (h : LG w base P l fp) (hi : Inv l) (hbw : base ≤ w.heap.size) : Calls Tryd.prog 12 #[.pointer (some ⟨P, 0, none⟩), .int .i64 keep] w fun x w' => ∃ fp', x = .returned (.tuple #[]) ∧ LG w' base P (crashL l keep) fp' ∧ Below base w w' ∧ KpL w w' fp ∧ NewL w fp fp' := by
  obtain ⟨v, lf, hb, rfl, g⟩ := h
  refine (crash_any keep g hi).mono ?_
  rintro x w' ⟨rfl, v', r⟩
  obtain ⟨r1, r2, r3, r4⟩ := r.all
  exact ⟨_, rfl, r1, r2, r3, r4⟩
theorem allG (base P : Nat) (l : L) (fp : List Nat) (w : World) (h : LG w base P l fp) (hi : Inv l) : Calls Tryd.prog 10 #[.pointer (some ⟨P, 0, none⟩)] w fun x w' => ∃ v, x = .returned v ∧ Eo w' w.heap.size v l.es ∧ Below w.heap.size w w' := by
  obtain ⟨v, lf, hb, rfl, g⟩ := h
  exact all_any g hi
theorem facesG (base P : Nat) (l : L) (fp : List Nat) (w : World) (h : LG w base P l fp) (hi : Inv l) : Calls Tryd.prog 17 #[.pointer (some ⟨P, 0, none⟩)] w fun x w' => x = .returned (.tuple #[.agg #[.bool (His.fifoB l.es), .bool (His.causB l.es), .bool (His.totB l.es)], .nilIface]) ∧ Below w.heap.size w w' := by
  obtain ⟨v, lf, hb, rfl, g⟩ := h
  exact faces_any g hi
theorem bytesG (base P : Nat) (l : L) (fp : List Nat) (w : World) (h : LG w base P l fp) (hi : Inv l) : Calls Tryd.prog 8 #[.pointer (some ⟨P, 0, none⟩)] w fun x w' => x = .returned (.int .i64 (bytes l : Nat)) ∧ Below w.heap.size w w' := by
  obtain ⟨v, lf, hb, rfl, g⟩ := h
  exact bytes_any g
theorem safeG (base P : Nat) (l : L) (fp : List Nat) (w : World) (h : LG w base P l fp) (hi : Inv l) : Calls Tryd.prog 13 #[.pointer (some ⟨P, 0, none⟩)] w fun x w' => x = .returned (.int .i64 (l.safe : Nat)) ∧ Below w.heap.size w w' := by
  obtain ⟨v, lf, hb, rfl, g⟩ := h
  exact safe_any g
end Go.Proofs.YtpjoaogiaacikakDoor.Lgs
