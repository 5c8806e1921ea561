/-
  TopCast: how the group and the log stand at any time.
-/
import Derived.Test.YtpjoaogiaacikakGreatDoorTpcM
import Derived.Test.YtpjoaogiaacikakGreatDoorMgQ
import Derived.Test.YtpjoaogiaacikakGreatDoorLgsW
import Derived.Test.YtpjoaogiaacikakGreatDoorClkV
import Derived.Test.YtpjoaogiaacikakGreatDoorFacF
import Derived.Test.YtpjoaogiaacikakGreatDoorRowsF
import Derived.Test.YtpjoaogiaacikakGreatDoorTopO
import Derived.Test.YtpjoaogiaacikakGreatDoorEvS
import Derived.Test.YtpjoaogiaacikakGreatDoorWirT
import Derived.Laws.ResultCell
import Derived.Deep.CutRange
namespace Go.Proofs.YtpjoaogiaacikakGreatDoor.Tpc
open Go.RowKit
open Go.Proofs.YtpjoaogiaacikakGreatDoor.As (Laid)
open Go.Proofs.YtpjoaogiaacikakGreatDoor.Cas (G GI CA start say give sayC_any giveC_any say_gi give_gi)
open Go.Proofs.YtpjoaogiaacikakGreatDoor.Fif (own_lt own_block own_form own_mono)
open Go.Proofs.YtpjoaogiaacikakGreatDoor.His (Ev Ew ev chkC Eo flat)
open Go.Proofs.YtpjoaogiaacikakGreatDoor.Lgs
set_option linter.unusedVariables false

theorem ca_lat {w w' : World} {base P : Nat} {g : G} {fp : List Nat} (h : CA w base P g fp) (hb : Below w.heap.size w w') : CA w' base P g fp := h.of_blocks hb.size fun b q => hb.block b (h.fp b q).2
/-- how the group stands at any time -/
def CI (x wr : World) (P : Nat) : Prop := ∃ g fp, CA wr x.heap.size P g fp ∧ GI g ∧ Below x.heap.size x wr
theorem CI.later {x wr w' : World} {P : Nat} (h : CI x wr P) (hb : Below wr.heap.size wr w') : CI x w' P := by
  obtain ⟨g, fp, h1, h2, h5⟩ := h
  exact ⟨g, fp, ca_lat h1 hb, h2, h5.trans (hb.mono h5.size)⟩
theorem CI.bel {x wr : World} {P : Nat} (h : CI x wr P) : Below x.heap.size x wr := by
  obtain ⟨g, fp, h1, h2, h5⟩ := h
  exact h5
theorem sayW {x wr : World} {P : Nat} (h : CI x wr P) (hL : Laid wr) (a b : Int) : Calls Tryz.prog 6 #[.pointer (some ⟨P, 0, none⟩), .int .i64 a, .int .i64 b] wr fun e w' => ∃ v, e = .returned v ∧ CI x w' P := by
  obtain ⟨g, fp, h1, h2, h5⟩ := h
  refine (sayC_any x.heap.size P g fp a b wr h1 h2 h5.size hL).mono ?_
  rintro e w' ⟨fp', rfl, q1, q2, _⟩
  exact ⟨_, rfl, _, _, q1, say_gi h2 _ _, h5.trans q2⟩
theorem giveW {x wr : World} {P : Nat} (h : CI x wr P) (hL : Laid wr) (i : Int) : Calls Tryz.prog 7 #[.pointer (some ⟨P, 0, none⟩), .int .i64 i] wr fun e w' => ∃ v, e = .returned v ∧ CI x w' P := by
  obtain ⟨g, fp, h1, h2, h5⟩ := h
  refine (giveC_any x.heap.size P g fp i wr h1 h2 h5.size hL).mono ?_
  rintro e w' ⟨fp', vo, rfl, q1, _, q2, _⟩
  exact ⟨_, rfl, _, _, q1, give_gi h2 _, h5.trans q2⟩
/-- three numbers in a variable of the round's own -/
def R3 (wo wz : World) : Prop := ∃ f : Nat → Int, wz.rowIs wo.heap.size 29 3 (fun t => .int .i64 (f t)) ∧ Below wo.heap.size wo wz
/-- an event of a history that is seen -/
theorem ew_at {w : World} {q : Option Addr} {n : Nat} {h : List Ev} (g : Ew w q n h) {k : Nat} (hk : k < n) : ∃ b o, q = some ⟨b, o, none⟩ ∧ b < w.heap.size ∧ w.cell? ⟨b, o + k * 3, none⟩ = some (.int .i64 (ev h k).1) ∧ w.cell? ⟨b, o + k * 3 + 1, none⟩ = some (.int .i64 (ev h k).2.1) ∧ w.cell? ⟨b, o + k * 3 + 2, none⟩ = some (.int .i64 (ev h k).2.2) := by
  obtain ⟨b, o, e, hlt, hc⟩ := g.2 (by omega)
  exact ⟨b, o, e, hlt, hc k hk⟩
variable {w wr w' : World} {B P : Nat} {l : L}
theorem facesW (h : LW w wr B P l) : Calls Tryz.prog 13 #[.pointer (some ⟨P, 0, none⟩)] wr fun x w' => x = .returned (.tuple #[.agg #[.bool (His.fifoB l.es), .bool (His.causB l.es), .bool (His.totB l.es)], .nilIface]) ∧ Below wr.heap.size wr w' := by
  obtain ⟨fp, hl⟩ := h.lg
  exact facesG B P l fp wr hl h.inv
/-- the log while the history is logged -/
def LJ (w wr : World) (P i : Nat) (H : List Ev) : Prop := ∃ l, LW w wr w.heap.size P l ∧ LK l (H.take i)
theorem LJ.do {H : List Ev} {i : Nat} (h : LJ w wr P i H) (hi : i < H.length) (hc : chkC H = 0) {p : Ev} (hp : ev H i = p) : Calls Tryz.prog 10 #[.pointer (some ⟨P, 0, none⟩), .agg #[.int .i64 p.1, .int .i64 p.2.1, .int .i64 p.2.2]] wr fun x w' => x = .returned .nilIface ∧ LJ w w' P (i + 1) H := by
  obtain ⟨l, h1, h2⟩ := h
  obtain ⟨e1, e2⟩ := take_ok hc hi
  subst hp
  obtain ⟨d1, d2⟩ := h2.do e2
  refine (h1.do (ev H i)).mono ?_
  rintro x w' ⟨k, rfl, _, h3⟩
  refine ⟨by rw [d1]; rfl, _, h3, ?_⟩
  rw [← e1]
  exact d2 k
/-- the log when all is safe -/
def LS (w wr : World) (P : Nat) (H : List Ev) : Prop := ∃ l, LW w wr w.heap.size P l ∧ LK l H ∧ l.safe = l.rs.sum
theorem LJ.sync {H : List Ev} (h : LJ w wr P H.length H) : Calls Tryz.prog 11 #[.pointer (some ⟨P, 0, none⟩)] wr fun x w' => x = .returned .nilIface ∧ LS w w' P H := by
  obtain ⟨l, h1, h2⟩ := h
  rw [List.take_length] at h2
  obtain ⟨d1, d2, d3⟩ := h2.sync h1.inv
  refine h1.sync.mono ?_
  rintro x w' ⟨rfl, h3⟩
  exact ⟨by rw [d1]; rfl, _, h3, d2, d3⟩
/-- the log behind the crash -/
def LE (w wr : World) (P : Nat) (H : List Ev) : Prop := ∃ l, LW w wr w.heap.size P l ∧ l.es = H
theorem LS.crash {H : List Ev} (h : LS w wr P H) : Calls Tryz.prog 12 #[.pointer (some ⟨P, 0, none⟩), .int .i64 0] wr fun x w' => x = .returned (.tuple #[]) ∧ LE w w' P H := by
  obtain ⟨l, h1, h2, h3⟩ := h
  refine (h1.crash 0).mono ?_
  rintro x w' ⟨rfl, h4⟩
  exact ⟨rfl, _, h4, h2.crash h1.inv h3⟩
theorem LE.bel {H : List Ev} (h : LE w wr P H) : Below w.heap.size w wr := by
  obtain ⟨l, h1, _⟩ := h
  exact h1.bel
theorem LE.later {H : List Ev} (h : LE w wr P H) (hb : Below wr.heap.size wr w') : LE w w' P H := by
  obtain ⟨l, h1, h2⟩ := h
  exact ⟨l, h1.later hb, h2⟩
theorem LE.faces {H : List Ev} (h : LE w wr P H) : Calls Tryz.prog 13 #[.pointer (some ⟨P, 0, none⟩)] wr fun x w' => x = .returned (.tuple #[.agg #[.bool (His.fifoB H), .bool (His.causB H), .bool (His.totB H)], .nilIface]) ∧ Below wr.heap.size wr w' := by
  obtain ⟨l, h1, rfl⟩ := h
  exact facesW h1
theorem LE.all {H : List Ev} (h : LE w wr P H) : Calls Tryz.prog 16 #[.pointer (some ⟨P, 0, none⟩)] wr fun x w' => ∃ v, x = .returned v ∧ Eo w' wr.heap.size v H ∧ Below wr.heap.size wr w' := by
  obtain ⟨l, h1, rfl⟩ := h
  refine h1.all.mono ?_
  rintro x w' ⟨v, rfl, h2, _, h4⟩
  exact ⟨v, rfl, h2, h4⟩
theorem LJ.bel {H : List Ev} {i : Nat} (h : LJ w wr P i H) : Below w.heap.size w wr := by
  obtain ⟨l, h1, _⟩ := h
  exact h1.bel
theorem LS.bel {H : List Ev} (h : LS w wr P H) : Below w.heap.size w wr := by
  obtain ⟨l, h1, _⟩ := h
  exact h1.bel
theorem newJ (w : World) (H : List Ev) : Calls Tryz.prog 9 #[] w fun x w' => ∃ P, x = .returned (.pointer (some ⟨P, 0, none⟩)) ∧ LJ w w' P 0 H := by
  refine (LW.new w).mono ?_
  rintro x w' ⟨P, rfl, h⟩
  exact ⟨P, rfl, _, h, LK.new⟩
end Go.Proofs.YtpjoaogiaacikakGreatDoor.Tpc
