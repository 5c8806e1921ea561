/-
  The walk of CastAll: of a word of one as many are on the way as there are others, to each one.
-/
import Derived.Test.YtgnffanlgmbieadDoorMgQ
import Derived.Laws.ResultCell
import Derived.Deep.CutRange
namespace Go.Proofs.YtgnffanlgmbieadDoor.Cas
open Go.RowKit
open Go.Proofs.YtgnffanlgmbieadDoor.Net (Pk pk Po errF errF_ok errF_no errF_same KpL NewL dropC twC C3 c3_of)
open Go.Proofs.YtgnffanlgmbieadDoor.As (Laid)
open Go.Proofs.YtgnffanlgmbieadDoor.Fif (own_lt own_block own_form own_mono Kp ret_bool)
set_option linter.unusedVariables false

theorem ca_later {w w' : World} {base P : Nat} {g : G} {fp : List Nat} (h : CA w base P g fp) (hb : Below w.heap.size w w') : CA w' base P g fp := h.of_blocks hb.size fun b q => hb.block b (h.fp b q).2
theorem start_say (n : Nat) (h2 : 2 ≤ n) (h5 : n ≤ 5) (who word : Int) : sayC (start n) who word = if who < 0 ∨ (n : Int) ≤ who ∨ word < 1 ∨ 30 < word then 1 else 0 := by
  unfold sayC
  by_cases h : who < 0 ∨ (n : Int) ≤ who ∨ word < 1 ∨ 30 < word
  · have h' : who < 0 ∨ ((start n).n : Int) ≤ who ∨ word < 1 ∨ 30 < word := h
    rw [if_pos h, if_pos h']
  · have h' : ¬ (who < 0 ∨ ((start n).n : Int) ≤ who ∨ word < 1 ∨ 30 < word) := h
    rw [if_neg h, if_neg h', if_neg (by simp [start]), if_neg]
    show ¬ (40 < 0 + (n - 1) ∨ 60 < (0 + 1) * n)
    omega
theorem pks_at {n b : Nat} (h5 : n ≤ 5) (hb : b < n) (word : Int) {i : Nat} (hi : i < n - 1) : pk (pks n (b : Int) word) i = ((b : Int), (if (i : Int) < (b : Int) then (i : Int) else (i : Int) + 1), word) := by
  have hn : n = 2 ∨ n = 3 ∨ n = 4 ∨ n = 5 := by omega
  have hbb : b = 0 ∨ b = 1 ∨ b = 2 ∨ b = 3 ∨ b = 4 := by omega
  have hii : i = 0 ∨ i = 1 ∨ i = 2 ∨ i = 3 := by omega
  rcases hn with rfl | rfl | rfl | rfl <;> rcases hbb with rfl | rfl | rfl | rfl | rfl <;> rcases hii with rfl | rfl | rfl | rfl <;> first | (exfalso; omega) | rfl
theorem all_bad (n who word : Int) (w : World) (h : n < 2 ∨ 5 < n) :
    Calls Tryd.prog 7 #[.int .i64 n, .int .i64 who, .int .i64 word] w fun e w' => e = .returned (.bool true) ∧ Below w.heap.size w w' := by
  rcases (show n < 2 ∨ (2 ≤ n ∧ 5 < n) by omega) with h1 | ⟨h1, h2⟩
  all_goals
    go_enter Tryd.func7, Tryd.ntmps7
    go_wp2_with fail
    refine (newC_no n w h).mono ?_
    rintro e w1 ⟨v, rfl, hb⟩
    rw [errF_no (by decide)]
    have B : Hid (Below w.heap.size w w1) := hb
    clear hb h
    go_wp2
    go_ret
    exact ⟨rfl, B.out⟩
theorem all_refused (n : Nat) (who word : Int) (w : World) (h2 : 2 ≤ n) (h5 : n ≤ 5) (h : who < 0 ∨ (n : Int) ≤ who ∨ word < 1 ∨ 30 < word) (hL : Laid w) :
    Calls Tryd.prog 7 #[.int .i64 (n : Int), .int .i64 who, .int .i64 word] w fun e w' => e = .returned (.bool true) ∧ Below w.heap.size w w' := by
  have HL : Hid (Laid w) := hL
  have HC : Hid (sayC (start n) who word = 1 ∧ 2 ≤ n ∧ n ≤ 5) := ⟨by rw [start_say n h2 h5, if_pos h], h2, h5⟩
  rcases (show who < 0 ∨ (0 ≤ who ∧ (n : Int) ≤ who) ∨ (0 ≤ who ∧ who < (n : Int) ∧ word < 1) ∨ (0 ≤ who ∧ who < (n : Int) ∧ 1 ≤ word ∧ 30 < word) by omega) with h1 | ⟨h1, h3⟩ | ⟨h1, h3, h4⟩ | ⟨h1, h3, h4, h6⟩
  all_goals
    clear h
    go_enter Tryd.func7, Tryd.ntmps7
    go_wp2_with fail
    refine (newC_ok n w h2 h5 HL.out).mono ?_
    rintro e w1 ⟨P, fp, rfl, hA, hb⟩
    have A1 : Hid (CA w1 w.heap.size P (start n) fp ∧ Below w.heap.size w w1) := ⟨hA, hb⟩
    clear hA hb
    go_wp2_with fail
    refine (sayC_any w.heap.size P (start n) fp who word w1 A1.out.1 (start_gi HC.out.2.1 HC.out.2.2).1 A1.out.2.size (HL.out.later A1.out.2)).mono ?_
    rintro e w2 ⟨fp', rfl, _, hb, _, _⟩
    rw [HC.out.1, errF_no (by decide)]
    have B : Hid (Below w.heap.size w1 w2) := hb
    clear hb
    go_wp2
    go_ret
    exact ⟨rfl, A1.out.2.trans B.out⟩
set_option maxRecDepth 100000 in
set_option maxHeartbeats 1000000 in
theorem all_ok (n b : Nat) (word : Int) (w : World) (h2 : 2 ≤ n) (h5 : n ≤ 5) (hb : b < n) (w1 : 1 ≤ word) (w30 : word ≤ 30) (hL : Laid w) :
    Calls Tryd.prog 7 #[.int .i64 (n : Int), .int .i64 (b : Int), .int .i64 word] w fun e w' => e = .returned (.bool true) ∧ Below w.heap.size w w' := by
  have HL : Hid (Laid w) := hL
  have hcast : ((n - 1 : Nat) : Int) = (n : Int) - 1 := by omega
  have hne : (((n - 1 : Nat) : Int) != (n : Int) - 1) = false := by rw [hcast]; simp
  have hc : sayC (start n) (b : Int) word = 0 := by rw [start_say n h2 h5, if_neg (by omega)]
  have hg : GI (say (start n) (b : Int) word) := say_gi (start_gi h2 h5).1 _ _
  have hl : (say (start n) (b : Int) word).l = pks n (b : Int) word := by
    unfold say
    rw [if_pos hc]
    show [] ++ pks n (b : Int) word = _
    rw [List.nil_append]
  have hc7 : sayC (say (start n) (b : Int) word) (b : Int) word = 7 := by
    unfold sayC
    have e1 : (say (start n) (b : Int) word).n = n := by unfold say; rw [if_pos hc]; rfl
    have e2 : ((say (start n) (b : Int) word).said word).isSome = true := by
      unfold say
      rw [if_pos hc]
      show (if word = word then some _ else none).isSome = true
      rw [if_pos rfl]
      rfl
    rw [e1, if_neg (by omega), if_pos e2]
  have HC : Hid (sayC (start n) (b : Int) word = 0 ∧ 2 ≤ n ∧ n ≤ 5 ∧ GI (say (start n) (b : Int) word) ∧ (say (start n) (b : Int) word).l = pks n (b : Int) word ∧ sayC (say (start n) (b : Int) word) (b : Int) word = 7 ∧ b < n) := ⟨hc, h2, h5, hg, hl, hc7, hb⟩
  have hb0 : (0 : Int) ≤ (b : Int) := by omega
  have hbn : (b : Int) < (n : Int) := by omega
  have hn5 : (n : Int) ≤ 5 := by omega
  have hn2 : (2 : Int) ≤ (n : Int) := by omega
  clear hc hg hl hc7
  go_enter Tryd.func7, Tryd.ntmps7
  go_wp2_with fail
  refine (newC_ok n w h2 h5 HL.out).mono ?_
  rintro e x1 ⟨P, fp, rfl, hA, hbl⟩
  have A1 : Hid (CA x1 w.heap.size P (start n) fp ∧ Below w.heap.size w x1) := ⟨hA, hbl⟩
  clear hA hbl
  go_wp2_with fail
  refine (sayC_any w.heap.size P (start n) fp (b : Int) word x1 A1.out.1 (start_gi HC.out.2.1 HC.out.2.2.1).1 A1.out.2.size (HL.out.later A1.out.2)).mono ?_
  rintro e x2 ⟨fp2, rfl, hA, hbl, _, _⟩
  rw [HC.out.1, errF_ok]
  have A2 : Hid (CA x2 w.heap.size P (say (start n) (b : Int) word) fp2 ∧ Below w.heap.size w x2) := ⟨hA, A1.out.2.trans hbl⟩
  clear hA hbl
  go_wp2_with fail
  refine (onwayC_any w.heap.size P _ fp2 x2 A2.out.1 HC.out.2.2.2.1).mono ?_
  rintro e x3 ⟨v, rfl, hP, hbl⟩
  rw [HC.out.2.2.2.2.1] at hP
  have hlen : (pks n (b : Int) word).length = n - 1 := pks_len h5 hb
  obtain ⟨q, c, rfl, hlc, hcm, hform⟩ := hP.form
  rw [hlen] at hform ⊢
  obtain ⟨gb, rfl, hgb, hgl, hcs⟩ := hform (by omega)
  have A3 : Hid (CA x3 w.heap.size P (say (start n) (b : Int) word) fp2 ∧ Below w.heap.size w x3 ∧ x2.heap.size ≤ gb ∧ gb < x3.heap.size ∧ (∀ y ∈ fp2, y < x2.heap.size) ∧ ∀ i, i < n - 1 → C3 x3 gb i (pk (pks n (b : Int) word) i)) := ⟨ca_later A2.out.1 hbl, A2.out.2.trans (hbl.mono A2.out.2.size), hgb, hgl, fun y hy => (A2.out.1.fp y hy).2, fun i hi => c3_of hcs (by rw [hlen]; exact hi)⟩
  clear hP hbl hlen hcs hform hgb hgl hcm hlc
  go_wp2_with fail
  refine (sayC_any w.heap.size P _ fp2 (b : Int) word x3 A3.out.1 HC.out.2.2.2.1 A3.out.2.1.size (HL.out.later A3.out.2.1)).mono ?_
  rintro e x4 ⟨fp4, rfl, _, hbl, hk4, _⟩
  rw [HC.out.2.2.2.2.2.1]
  have A4 : Hid (Below w.heap.size w x4 ∧ x3.heap.size ≤ x4.heap.size ∧ x4.heap[gb]? = x3.heap[gb]?) := ⟨A3.out.2.1.trans hbl, hk4.1, hk4.2 gb A3.out.2.2.2.1 (fun q => by have := A3.out.2.2.2.2.1 gb q; have := A3.out.2.2.1; omega)⟩
  clear hbl hk4
  go_wp2_with fail
  refine (errF_same 7 x4 (HL.out.later A4.out.1)).mono ?_
  rintro e x5 ⟨rfl, hbl⟩
  have A5 : Hid (Below w.heap.size w x5 ∧ ∀ i, i < n - 1 → C3 x5 gb i (pk (pks n (b : Int) word) i)) := by
    refine ⟨A4.out.1.trans (hbl.mono A4.out.1.size), fun i hi => ?_⟩
    have hk : x5.heap[gb]? = x3.heap[gb]? := (hbl.block gb (Nat.lt_of_lt_of_le A3.out.2.2.2.1 A4.out.2.1)).trans A4.out.2.2
    obtain ⟨y0, y1, y2⟩ := A3.out.2.2.2.2.2 i hi
    exact ⟨(World.cell?_of_block (a := ⟨gb, i * 3, none⟩) hk).trans y0, (World.cell?_of_block (a := ⟨gb, i * 3 + 1, none⟩) hk).trans y1, (World.cell?_of_block (a := ⟨gb, i * 3 + 2, none⟩) hk).trans y2⟩
  clear hbl
  go_wp2
  go_loopw [10] (fun y wr => ∃ i : Nat, i ≤ n - 1 ∧ y = .int .i64 (i : Int) ∧ wr = x5) (fun y _ => n - 1 - (intOf y).toNat)
  case atStart => exact ⟨0, by omega, rfl, rfl⟩
  case round =>
    obtain ⟨i, hi, rfl, rfl⟩ := hrel
    by_cases hlt : i < n - 1
    · obtain ⟨y0, y1, y2⟩ := A5.out.2 i hlt
      rw [pks_at HC.out.2.2.1 HC.out.2.2.2.2.2.2 word hlt] at y0 y1 y2
      simp only at y0 y1 y2
      have hlti : (i : Int) < ((n - 1 : Nat) : Int) := by omega
      have hi0 : (0 : Int) ≤ (i : Int) := by omega
      have hi9 : (i : Int) < 9 := by omega
      have bb : ((b : Int) != (b : Int)) = false := by simp
      have ww : (word != word) = false := by simp
      by_cases hib : (i : Int) < (b : Int)
      · rw [if_pos hib] at y1
        have ii : ((i : Int) != (i : Int)) = false := by simp
        go_wp2
        go_roundw
        case rel => exact ⟨i + 1, by omega, by go_num, by first | rfl | trivial⟩
        case measure => simp [intOf]; omega
      · rw [if_neg hib] at y1
        have ii : ((i : Int) + 1 != (i : Int) + 1) = false := by simp
        go_wp2
        go_roundw
        case rel => exact ⟨i + 1, by omega, by go_num, by first | rfl | trivial⟩
        case measure => simp [intOf]; omega
    · have hi : i = n - 1 := by omega
      subst hi
      go_wp2
      go_ret
      exact ⟨rfl, A5.out.1⟩
theorem all_walk (n who word : Int) (w : World) (hL : Laid w) :
    Calls Tryd.prog 7 #[.int .i64 n, .int .i64 who, .int .i64 word] w fun e w' => e = .returned (.bool true) ∧ Below w.heap.size w w' := by
  by_cases h : n < 2 ∨ 5 < n
  · exact all_bad n who word w h
  · obtain ⟨m, rfl⟩ : ∃ m : Nat, n = (m : Int) := ⟨n.toNat, by omega⟩
    by_cases h1 : who < 0 ∨ (m : Int) ≤ who ∨ word < 1 ∨ 30 < word
    · exact all_refused m who word w (by omega) (by omega) h1 hL
    · obtain ⟨b, rfl⟩ : ∃ b : Nat, who = (b : Int) := ⟨who.toNat, by omega⟩
      exact all_ok m b word w (by omega) (by omega) (by omega) (by omega) (by omega) hL
end Go.Proofs.YtgnffanlgmbieadDoor.Cas
