/-
  Plain facts for TopCast: a right history is logged event by event, nothing is lost, each event with its vector is a word that can be packed.
-/
import Derived.Test.YtpjoaogiaacikakGreatDoorLgsM
import Derived.Test.YtpjoaogiaacikakGreatDoorMgB
import Derived.Test.YtpjoaogiaacikakGreatDoorMgH
import Derived.Test.YtpjoaogiaacikakGreatDoorMgV
namespace Go.Proofs.YtpjoaogiaacikakGreatDoor.Tpc
open Go.Proofs.YtpjoaogiaacikakGreatDoor.His (Ev ev chkC chk_zero row row_len row_bd isOne)
open Go.Proofs.YtpjoaogiaacikakGreatDoor.Lgs
set_option linter.unusedVariables false

theorem whole_all (rs : List Nat) : whole rs rs.sum = rs.length := by
  have h := (whole_iff (rs := rs) (h := rs.sum) (i := rs.length) (Nat.le_refl _)).1 (by rw [List.take_length]; exact Nat.le_refl _)
  have := whole_le rs rs.sum
  omega
/-- a log that goes on, of this history -/
def LK (l : L) (h : List Ev) : Prop := l.es = h ∧ l.stop = false ∧ l.left = -1
theorem LK.new : LK Lgs.new [] := ⟨rfl, rfl, rfl⟩
theorem LK.do {l : L} {h : List Ev} (k : LK l h) {e : Ev} (hc : chkC (h ++ [e]) = 0) : doC l e = 0 ∧ ∀ n, LK (doL l e n) (h ++ [e]) := by
  obtain ⟨rfl, hs, hl⟩ := k
  have n1 : ¬ l.stop = true := by rw [hs]; decide
  have n2 : ¬ l.left = 0 := by rw [hl]; decide
  constructor
  · unfold doC
    rw [if_neg n1, if_neg (fun q => q hc), if_neg n2]
  · intro n
    have e : doL l e n = { l with es := l.es ++ [e], rs := l.rs ++ [n], left := tick l.left } := by
      unfold doL
      rw [if_neg (fun q => q.elim n1 (fun q => q hc)), if_neg n2]
    rw [e]
    refine ⟨rfl, hs, ?_⟩
    show tick l.left = -1
    rw [hl]
    rfl
theorem LK.sync {l : L} {h : List Ev} (g : Inv l) (k : LK l h) : syncC l = 0 ∧ LK (syncL l) h ∧ (syncL l).safe = (syncL l).rs.sum := by
  obtain ⟨rfl, hs, hl⟩ := k
  have n1 : ¬ l.stop = true := by rw [hs]; decide
  have n2 : ¬ l.left = 0 := by rw [hl]; decide
  have e : syncL l = { l with safe := Lgs.bytes l, left := tick l.left } := by
    unfold syncL
    rw [if_neg n1, if_neg n2]
  refine ⟨?_, ?_, ?_⟩
  · unfold syncC
    rw [if_neg (fun q => q.elim n1 n2)]
  · rw [e]
    refine ⟨rfl, hs, ?_⟩
    show tick l.left = -1
    rw [hl]
    rfl
  · rw [e]
    show Lgs.bytes l = l.rs.sum
    unfold Lgs.bytes
    rw [g.half0 hs]
    rfl
theorem LK.crash {l : L} {h : List Ev} (g : Inv l) (k : LK l h) (hs : l.safe = l.rs.sum) : (crashL l 0).es = h := by
  show l.es.take (whole l.rs (high l 0)) = h
  have e : high l 0 = l.rs.sum := by
    unfold high
    rw [if_pos (Int.le_refl _), hs]
  rw [e, whole_all, g.len, List.take_length]
  exact k.1
/-- what a group said and heard -/
theorem cast_ok {g : Cas.G} (h : Cas.GI g) : chkC g.H = 0 := (His.chk_ok (Cas.len60 h) (Cas.faces_ok h).1).1
theorem cast_what {g : Cas.G} (h : Cas.GI g) {i : Nat} (hi : i < g.H.length) : (ev g.H i).2.1 ≠ 1 := by
  have := His.ev_what h.i0.good h.i0.turn hi
  omega
theorem take_ok {h : List Ev} (hc : chkC h = 0) {i : Nat} (hi : i < h.length) : h.take i ++ [ev h i] = h.take (i + 1) ∧ chkC (h.take i ++ [ev h i]) = 0 := by
  have e : h.take i ++ [ev h i] = h.take (i + 1) := by
    rw [List.take_add_one, ev, List.getD, List.getElem?_eq_getElem hi]
    rfl
  exact ⟨e, by rw [e]; exact chk_take hc _⟩
/-- an event and its vector, as a word -/
def sd (h : List Ev) (i : Nat) : Cau.Sd := ((ev h i).1, (ev h i).2.2, row h i)
theorem code_row {h : List Ev} (hc : chkC h = 0) {i : Nat} (hi : i < h.length) : Vec.code (row h i) = 0 := by
  obtain ⟨h60, hg⟩ := chk_zero hc
  have hl := row_len h i
  have b0 := row_bd hg hi 0
  have b1 := row_bd hg hi 1
  have b2 := row_bd hg hi 2
  have b3 := row_bd hg hi 3
  have b4 := row_bd hg hi 4
  generalize row h i = r at *
  match r, hl, b0, b1, b2, b3, b4 with
  | [a, b, c, d, e], _, b0, b1, b2, b3, b4 =>
    simp [List.getD] at b0 b1 b2 b3 b4
    unfold Vec.code
    rw [if_pos (show [a, b, c, d, e].length = 5 from rfl), if_neg]
    simp [Vec.bad, Vec.anyP, Vec.out]
    omega
theorem sd_ok {h : List Ev} (hc : chkC h = 0) {i : Nat} (hi : i < h.length) (hw : (ev h i).2.1 ≠ 1) : Wir.packC (sd h i) = 0 := by
  have g := (chk_zero hc).2 i hi
  have h1 : isOne (ev h i) = true := by
    unfold His.next at g
    cases q : isOne (ev h i)
    · rw [q] at g; simp at g
    · rfl
  simp only [isOne, Bool.and_eq_true, Bool.or_eq_true, decide_eq_true_eq] at h1
  unfold Wir.packC
  rw [if_neg]
  · exact code_row hc hi
  · intro q
    simp only [Cau.sdBad, sd, Bool.or_eq_true] at q
    rcases q with ((q | q) | q) | q <;> have := of_decide_eq_true q <;> omega
/-- what is packed is read as it was -/
theorem back {s : Cau.Sd} (h : Wir.packC s = 0) : Wir.packS s = Wir.txt (Wir.pk s) ∧ Wir.unC (Wir.txt (Wir.pk s)) = 0 ∧ Wir.unS (Wir.txt (Wir.pk s)) = s := by
  have ho := Wir.okU_pk h
  refine ⟨if_pos h, if_pos ho, ?_⟩
  unfold Wir.unS
  rw [if_pos ho]
  exact Wir.rd_pk h
end Go.Proofs.YtpjoaogiaacikakGreatDoor.Tpc
