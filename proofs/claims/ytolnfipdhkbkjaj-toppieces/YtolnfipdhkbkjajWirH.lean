/-
  A piece alone, a row of pieces.
-/
import Derived.Test.YtolnfipdhkbkjajWirB
import Derived.Test.YtolnfipdhkbkjajPieX
import Derived.Deep.CutBlock
import Derived.Deep.CutRange
namespace Go.Proofs.Ytolnfipdhkbkjaj.Wir
open Go.RowKit
open Go.Proofs.Ytolnfipdhkbkjaj.Fif (own_lt own_block own_form own_mono Kp ret_bool)
open Go.Proofs.Ytolnfipdhkbkjaj.Pie (Pc Pw pc pcBad errF errF_ok errF_no takeC JS JInv newJ takeP_any box3)
set_option linter.unusedVariables false

def oneC (p : Pc) : Int := if pcBad p = true then 1 else 0
theorem take_one (p : Pc) : takeC Pie.start p = oneC p := by
  unfold takeC oneC
  split
  · rfl
  · rw [if_neg, if_neg]
    · simp [Pie.other, Pie.start]
    · rintro ⟨h, _⟩
      exact h rfl
set_option maxRecDepth 100000 in
theorem one_any (p : Pc) (w : World) : Calls Try.prog 13 #[.agg #[.int .i64 p.1, .int .i64 p.2.1, .string p.2.2]] w fun e w' => e = .returned (errF (oneC p)) ∧ Below w.heap.size w w' := by
  obtain ⟨a, b, c⟩ := p
  obtain ⟨W, eW⟩ : ∃ W, W = w.alloc (.cells #[.int .i64 a, .int .i64 b, .string c] 35) := ⟨_, rfl⟩
  have B0 : Hid (Below w.heap.size w W ∧ w.heap.size < W.heap.size) := by
    rw [eW]
    exact ⟨(Below.refl _ _).alloc (Nat.le_refl _) _, by simp⟩
  have b0 := box3 w a b c
  rw [← eW] at b0
  have HS : Hid (∀ X : World, (∀ k, k < W.heap.size → X.heap[k]? = W.heap[k]?) → X.cell? ⟨w.heap.size, 0, none⟩ = some (.int .i64 a) ∧ X.cell? ⟨w.heap.size, 1, none⟩ = some (.int .i64 b) ∧ X.cell? ⟨w.heap.size, 2, none⟩ = some (.string c)) := by
    intro X hX
    have r := World.rowIs.of_block b0 (hX _ (World.rowIs.lt b0))
    exact ⟨World.rowIs.cell r (i := 0) (by omega), World.rowIs.cell r (i := 1) (by omega), World.rowIs.cell r (i := 2) (by omega)⟩
  clear b0
  go_enter Try.func13, Try.ntmps13
  go_upto_region 1 with fail
  rw [← eW]
  clear eW
  go_region_held3 (fun X => X.cell? ⟨w.heap.size, 0, none⟩ = some (.int .i64 a) ∧ X.cell? ⟨w.heap.size, 1, none⟩ = some (.int .i64 b) ∧ X.cell? ⟨w.heap.size, 2, none⟩ = some (.string c)) (first | exact HS.out _ (fun _ _ => rfl) | exact HS.out _ (fun k hk => J4.out.2.block k hk) | exact HS.out _ (fun k hk => B5.out.block k hk)) (first
    | (go_at_call 7; refine (newJ _).mono ?_; rintro e4 w4 ⟨P, fp, rfl, hj, hb⟩; have J4 : Hid (JS w4 W.heap.size P Pie.start fp ∧ Below W.heap.size W w4) := ⟨hj, ⟨hb.os, hb.tape, hb.output, hb.size, hb.block⟩⟩; clear hj hb)
    | (go_at_call 8; refine (takeP_any W.heap.size P Pie.start fp (a, b, c) _ J4.out.1 JInv.start J4.out.2.size).mono ?_; rintro e5 w5 ⟨fp5, rfl, _, hb, _, _⟩; have B5 : Hid (Below W.heap.size W w5) := J4.out.2.trans hb; clear hb))
  go_wp2
  go_ret
  exact ⟨by rw [← take_one]; rfl, B0.out.1.trans (B5.out.mono (Nat.le_of_lt B0.out.2))⟩
/-- what is wrong with a row of pieces -/
def rowC (l : List Pc) : Int := if 60 < l.length then 4 else if l.any pcBad = true then 1 else 0
def rowN (l : List Pc) : Nat → ByteArray
  | 0 => .empty
  | k + 1 => rowN l k ++ txt [(pc l k).1, (pc l k).2.1, ((pc l k).2.2.size : Int)] ++ (pc l k).2.2
def rowS (l : List Pc) : ByteArray := if rowC l = 0 then rowN l l.length else .empty
theorem rowN_succ (l : List Pc) (k : Nat) : rowN l (k + 1) = rowN l k ++ txt [(pc l k).1, (pc l k).2.1, ((pc l k).2.2.size : Int)] ++ (pc l k).2.2 := rfl
theorem rowN_size {l : List Pc} {k : Nat} (h : ∀ j, j < k → pcBad (pc l j) = false) : (rowN l k).size ≤ k * 15 := by
  induction k with
  | zero => simp [rowN]
  | succ k ih =>
    have e := (Pie.pcBad_no (h k (by omega))).2.2
    rw [rowN_succ, ByteArray.size_append, ByteArray.size_append, txt_size]
    have := ih fun j hj => h j (by omega)
    simp only [List.length_cons, List.length_nil]
    omega
theorem row_bad {l : List Pc} (h60 : l.length ≤ 60) {k : Nat} (hk : k < l.length) (h : pcBad (pc l k) = true) : rowC l = 1 ∧ rowS l = .empty := by
  have e : rowC l = 1 := by
    unfold rowC
    rw [if_neg (by omega), if_pos]
    rw [List.any_eq_true]
    refine ⟨l[k], List.getElem_mem hk, ?_⟩
    have : pc l k = l[k] := by simp [pc, List.getD, hk]
    rw [← this]
    exact h
  exact ⟨e, by unfold rowS; rw [e, if_neg (by decide)]⟩
theorem row_ok {l : List Pc} (h60 : l.length ≤ 60) (h : ∀ j, j < l.length → pcBad (pc l j) = false) : rowC l = 0 ∧ rowS l = rowN l l.length := by
  have e : rowC l = 0 := by
    unfold rowC
    rw [if_neg (by omega), if_neg]
    rw [List.any_eq_true]
    rintro ⟨p, hp, hb⟩
    obtain ⟨k, hk, rfl⟩ := List.getElem_of_mem hp
    have := h k hk
    simp [pc, List.getD, hk] at this
    rw [this] at hb
    cases hb
  exact ⟨e, by unfold rowS; rw [e, if_pos rfl]⟩
theorem row_long {l : List Pc} (h : 60 < l.length) : rowC l = 4 ∧ rowS l = .empty := by
  have e : rowC l = 4 := if_pos h
  exact ⟨e, by unfold rowS; rw [e, if_neg (by decide)]⟩
theorem row_full (a : Option Addr) (len cap : Nat) (w : World) (h : 60 < len) : Calls Try.prog 6 #[.slice a len cap] w fun e w' => e = .returned (.tuple #[.string .empty, errF 4]) ∧ Below w.heap.size w w' := by
  have d0 : decide ((len : Int) > 60) = true := decide_eq_true (by omega)
  go_enter Try.func6, Try.ntmps6
  go_wp2
  go_ret2
  exact ⟨rfl, Below.refl _ _⟩
set_option maxRecDepth 100000 in
set_option maxHeartbeats 2000000 in
theorem row_right (a : Option Addr) (n cap : Nat) (l : List Pc) (w : World) (hv : Pw w a n l) (h60 : n ≤ 60) : Calls Try.prog 6 #[.slice a n cap] w fun e w' => e = .returned (.tuple #[.string (rowS l), errF (rowC l)]) ∧ Below w.heap.size w w' := by
  have d0 : decide ((n : Int) > 60) = false := decide_eq_false (by omega)
  have H : Hid (Pw w a n l ∧ l.length = n) := ⟨hv, hv.1⟩
  clear hv
  go_enter Try.func6, Try.ntmps6
  go_wp2_with fail
  go_loopw [4, 14] (fun v x wr => ∃ i : Nat, i ≤ n ∧ x = .int .i64 (i : Int) ∧ Hid (Bo wr w.heap.size v (rowN l i) ∧ Below w.heap.size w wr ∧ ∀ j, j < i → pcBad (pc l j) = false)) (fun _ x _ => n - (intOf x).toNat)
  case atStart => exact ⟨0, by omega, rfl, Bo.nil _ _, Below.refl _ _, fun j hj => absurd hj (by omega)⟩
  case round =>
    obtain ⟨i, hin, rfl, hR⟩ := hrel
    by_cases hlt : i < n
    · have hi0 : (0 : Int) ≤ (i : Int) := by omega
      have hin' : (i : Int) < (n : Int) := by omega
      obtain ⟨g, o, rfl, hg, hc⟩ := (H.out.1.later hR.out.2.1).2 (by omega)
      obtain ⟨x0, x1, x2⟩ := hc i hlt
      obtain ⟨p, ep⟩ : ∃ p, p = pc l i := ⟨_, rfl⟩
      rw [← ep] at x0 x1 x2
      have EP : Hid (p = pc l i) := ep
      obtain ⟨p0, p1, p2⟩ := p
      simp only at x0 x1 x2
      clear hc ep hg
      go_wp2_with fail
      refine (one_any (p0, p1, p2) _).mono ?_
      rintro e w2 ⟨rfl, hb⟩
      have B2 : Hid (Below wr.heap.size wr w2) := ((Below.refl wr.heap.size wr).alloc (Nat.le_refl _) _).trans (hb.mono (by simp))
      have r2 := World.rowIs.of_block (box3 wr p0 p1 p2) (hb.block wr.heap.size (by simp))
      have R2 : Hid (w2.rowIs wr.heap.size 35 3 (fun k => if k = 0 then .int .i64 p0 else if k = 1 then .int .i64 p1 else .string p2)) := r2
      have k0 : w2.cell? ⟨wr.heap.size, 0, none⟩ = some (.int .i64 p0) := World.rowIs.cell r2 (i := 0) (by omega)
      have k1 : w2.cell? ⟨wr.heap.size, 1, none⟩ = some (.int .i64 p1) := World.rowIs.cell r2 (i := 1) (by omega)
      have k2 : w2.cell? ⟨wr.heap.size, 2, none⟩ = some (.string p2) := World.rowIs.cell r2 (i := 2) (by omega)
      clear hb r2 x0 x1 x2
      cases hbad : pcBad (p0, p1, p2)
      · have e0 : oneC (p0, p1, p2) = 0 := by unfold oneC; rw [hbad]; rfl
        obtain ⟨⟨q1, q2⟩, ⟨q3, q4⟩, q5⟩ := Pie.pcBad_no hbad
        simp only at q1 q2 q3 q4 q5
        rw [e0, errF_ok]
        have m0 : p0 % 256 = p0 := by omega
        have m1 : p1 % 256 = p1 := by omega
        have m2 : ((p2.size : Int)) % 256 = (p2.size : Int) := by omega
        have BY : Hid (Byt [p0, p1, (p2.size : Int)]) := by
          intro b hb
          simp only [List.mem_cons, List.not_mem_nil, or_false] at hb
          rcases hb with rfl | rfl | rfl <;> omega
        have SZ : Hid ((rowN l i).size ≤ 900 ∧ p2.size ≤ 12) := ⟨by have := rowN_size hR.out.2.2; omega, q5⟩
        have O2 : Hid (Bo w2 w.heap.size _ (rowN l i) ∧ Below w.heap.size w w2 ∧ w.heap.size ≤ w2.heap.size) := ⟨hR.out.1.later B2.out, hR.out.2.1.trans (B2.out.mono hR.out.2.1.size), Nat.le_trans hR.out.2.1.size B2.out.size⟩
        obtain ⟨qb, cb, rfl, _⟩ := O2.out.1.form
        have NB : Hid (∀ k, (Value.slice qb (rowN l i).size cb).ownBlock = some k → k ≠ wr.heap.size) := fun k hk => Nat.ne_of_lt (own_lt hR.out.1 k hk).2
        have NX : Hid (pcBad (pc l i) = false) := by rw [← EP.out]; exact hbad
        obtain ⟨T3, eT⟩ : ∃ T3, T3 = rowN l i ++ txt [p0, p1, (p2.size : Int)] := ⟨_, rfl⟩
        have ET : Hid (T3 = rowN l i ++ txt [p0, p1, (p2.size : Int)] ∧ T3.size ≤ 903) := ⟨eT, by rw [eT, ByteArray.size_append, txt_size]; have := SZ.out.1; simp only [List.length_cons, List.length_nil]; omega⟩
        clear e0 hbad eT
        go_wp2_with (first
          | (at_builtin; refine app_bytes _ rfl _ _ rfl w.heap.size _ (rowN l i) rfl (O2.out.1.later ((Below.refl _ _).alloc (Nat.le_refl _) _)) [p0, p1, (p2.size : Int)] BY.out w2.heap.size 3 3 rfl rfl (new_row _ _ rfl _ _) (by have := SZ.out.1; omega) (by have := O2.out.2.2; simp; omega) ?_; intro v3 w3 hown hgrow; rw [← ET.out.1] at hown; have O3 : Hid (Bo w3 w.heap.size v3 T3 ∧ Below w.heap.size w w3 ∧ w.heap.size ≤ w3.heap.size) := ⟨hown, (O2.out.2.1.alloc O2.out.2.2 _).grown hgrow (by have := O2.out.2.2; simp; omega) (fun k hk => (own_lt O2.out.1 k hk).1), Nat.le_trans O2.out.2.2 (Nat.le_trans (by simp) hgrow.size)⟩; have k3 : w3.cell? ⟨wr.heap.size, 2, none⟩ = some (.string p2) := World.rowIs.cell (World.rowIs.of_block R2.out ((hgrow.block _ (Nat.lt_of_lt_of_le (World.rowIs.lt R2.out) (by simp)) (fun e => NB.out _ e.symm rfl)).trans (Below.heap_alloc _ _ _ (World.rowIs.lt R2.out)))) (i := 2) (by omega); obtain ⟨q3', c3', rfl, _⟩ := hown.form; clear hown hgrow)
          | (at_builtin; refine app_text _ rfl _ _ rfl w.heap.size _ T3 rfl O3.out.1 p2 rfl (by have := SZ.out.2; have := ET.out.2; omega) O3.out.2.2 ?_; intro v4 w4 hown hgrow; have O4 : Hid (Bo w4 w.heap.size v4 (T3 ++ p2) ∧ Below w.heap.size w w4) := ⟨hown, O3.out.2.1.grown hgrow O3.out.2.2 (fun k hk => (own_lt O3.out.1 k hk).1)⟩; clear hown hgrow))
        go_roundw
        case rel =>
          refine ⟨i + 1, by omega, by go_num, ?_, O4.out.2, fun j hj => ?_⟩
          · rw [rowN_succ, ← EP.out, ← ET.out.1]
            exact O4.out.1
          · by_cases e : j < i
            · exact hR.out.2.2 j e
            · rw [show j = i by omega]
              exact NX.out
        case measure => simp [intOf]; omega
      · have e1 : oneC (p0, p1, p2) = 1 := by unfold oneC; rw [hbad]; rfl
        have hrow := row_bad (by rw [H.out.2]; exact h60) (by rw [H.out.2]; exact hlt) (by rw [← EP.out]; exact hbad)
        rw [e1, errF_no (by decide)]
        have E : Hid _ := hrow
        clear hrow e1 hbad
        go_wp2
        go_ret2
        exact ⟨by rw [E.out.1, E.out.2]; rfl, hR.out.2.1.trans (B2.out.mono hR.out.2.1.size)⟩
    · have hi : i = n := by omega
      subst hi
      have hrow := row_ok (by rw [H.out.2]; exact h60) (by rw [H.out.2]; exact hR.out.2.2)
      have E : Hid _ := hrow
      have hcv := text_of hR.out.1 wr (fun _ _ => rfl)
      clear hrow
      go_wp2
      go_ret2
      exact ⟨by rw [E.out.1, E.out.2, H.out.2]; rfl, hR.out.2.1⟩
theorem rowP (a : Option Addr) (n cap : Nat) (l : List Pc) (w : World) (hv : Pw w a n l) : Calls Try.prog 6 #[.slice a n cap] w fun e w' => e = .returned (.tuple #[.string (rowS l), errF (rowC l)]) ∧ Below w.heap.size w w' := by
  by_cases h : 60 < n
  · obtain ⟨e1, e2⟩ := row_long (l := l) (by rw [hv.1]; exact h)
    rw [e1, e2]
    exact row_full a n cap w h
  · exact row_right a n cap l w hv (by omega)
end Go.Proofs.Ytolnfipdhkbkjaj.Wir
