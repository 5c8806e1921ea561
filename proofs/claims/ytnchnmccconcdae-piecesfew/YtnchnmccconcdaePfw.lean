/-
  PiecesFew: the walk.
-/
import Derived.Test.YtnchnmccconcdaePieP
namespace Go.Proofs.Ytnchnmccconcdae.Pie
open Go.RowKit
open Go.Proofs.Ytnchnmccconcdae.Fif (own_lt own_block own_form own_mono Kp ret_bool)
set_option linter.unusedVariables false

set_option maxRecDepth 100000 in
theorem few_bad (t : ByteArray) (size : Int) (w : World) (h : splitC t size ≠ 0) :
    Calls Try.prog 3 #[.string t, .int .i64 size] w fun x w' => x = .returned (.bool true) ∧ Below w.heap.size w w' := by
  have H : Hid (splitC t size ≠ 0) := h
  have hw : (60 : Int) < (t.size : Int) ∨ (¬ (60 : Int) < (t.size : Int) ∧ size < 1) ∨ (¬ (60 : Int) < (t.size : Int) ∧ ¬ size < 1 ∧ 12 < size) := by
    unfold splitC at h
    split at h
    · left; omega
    · split at h
      · omega
      · exact absurd rfl h
  clear h
  rcases hw with h1 | ⟨h1, h2⟩ | ⟨h1, h2, h3⟩
  all_goals
    go_enter Try.func3, Try.ntmps3
    go_wp2_with fail
    refine (splitP_any t size w).mono ?_
    rintro e w1 ⟨v, rfl, ho, hb⟩
    rw [errF_no H.out]
    have B : Hid (Below w.heap.size w w1) := hb
    clear ho hb
    go_wp2
    go_ret
    exact ⟨rfl, B.out⟩
set_option maxRecDepth 100000 in
theorem few_ok (t : ByteArray) (size : Nat) (w : World) (h1 : 1 ≤ size) (h12 : size ≤ 12) (h60 : t.size ≤ 60) :
    Calls Try.prog 3 #[.string t, .int .i64 (size : Int)] w fun x w' => x = .returned (.bool true) ∧ Below w.heap.size w w' := by
  have hc : splitC t (size : Int) = 0 := by
    unfold splitC
    rw [if_neg (by omega), if_neg (by omega)]
  have H : Hid (splitC t (size : Int) = 0 ∧ 1 ≤ size ∧ size ≤ 12 ∧ t.size ≤ 60) := ⟨hc, h1, h12, h60⟩
  have hs1 : (1 : Int) ≤ (size : Int) := by omega
  have hs12 : (size : Int) ≤ 12 := by omega
  have ht60 : (t.size : Int) ≤ 60 := by omega
  obtain ⟨n, en⟩ : ∃ n, n = many t.size size := ⟨_, rfl⟩
  have EN : Hid (n = many t.size size ∧ 1 ≤ n ∧ n ≤ 60) := ⟨en, by rw [en]; exact (many_spec h1).1, by rw [en]; exact many_le h1 h60⟩
  obtain ⟨q0, eq0⟩ : ∃ q0 : Int, q0 = ((t.size : Int) + (size : Int) - 1).tdiv (size : Int) := ⟨_, rfl⟩
  have hq0 : (q0 = 0 ∧ (n : Int) = 1) ∨ (q0 ≠ 0 ∧ q0 = (n : Int)) := by
    have e1 : q0 = (((t.size + size - 1) / size : Nat) : Int) := by
      rw [eq0, Int.tdiv_eq_ediv_of_nonneg (by omega), show (t.size : Int) + (size : Int) - 1 = ((t.size + size - 1 : Nat) : Int) by omega, Int.natCast_ediv]
    rw [en]
    unfold many
    by_cases z : t.size ≤ size
    · rw [if_pos z]
      by_cases z0 : t.size = 0
      · have : (t.size + size - 1) / size = 0 := Nat.div_eq_of_lt (by omega)
        left; rw [e1, this]; exact ⟨rfl, rfl⟩
      · have : (t.size + size - 1) / size = 1 := by
          apply Nat.div_eq_of_lt_le <;> omega
        right; rw [e1, this]; exact ⟨by decide, rfl⟩
    · rw [if_neg z]
      have : 1 ≤ (t.size + size - 1) / size := (Nat.le_div_iff_mul_le (by omega)).2 (by omega)
      right
      rw [e1]
      exact ⟨by omega, rfl⟩
  clear h1 h12 h60 hc en
  rcases hq0 with ⟨hq, hn⟩ | ⟨hq, hn⟩
  · go_enter Try.func3, Try.ntmps3
    go_wp2_with fail
    refine (splitP_any t (size : Int) w).mono ?_
    rintro e w1 ⟨v, rfl, ho, hb⟩
    rw [H.out.1, errF_ok]
    rw [split_zero H.out.1, Int.toNat_natCast, ← EN.out.1] at ho
    obtain ⟨q, cap, rfl, hm, hv⟩ := ho.view
    rw [pcs_len] at hm hv ⊢
    have V : Hid (Pw w1 q n (pcs t size n) ∧ Below w.heap.size w w1) := ⟨hv, hb⟩
    clear ho hb hv
    have hn60 : n ≤ 60 := EN.out.2.2
    go_wp2_with fail
    go_loopw [8] (fun x wr => ∃ i : Nat, i ≤ n ∧ x = .int .i64 (i : Int) ∧ wr = w1) (fun x _ => n - (intOf x).toNat)
    case atStart => exact ⟨0, by omega, rfl, rfl⟩
    case round =>
      obtain ⟨i, hin, rfl, rfl⟩ := hrel
      by_cases hlt : i < n
      · obtain ⟨b, off, rfl, _, hcs⟩ := V.out.1.2 (by omega)
        obtain ⟨x0, x1, x2⟩ := hcs i hlt
        have ep : pc (pcs t size n) i = ((i : Int), (many t.size size : Int), cut t size i) := pcs_get t size hlt
        rw [ep, ← EN.out.1] at x0 x1 x2
        simp only at x0 x1 x2
        have hi0 : (0 : Int) ≤ (i : Int) := by omega
        have hilt : (i : Int) < (n : Int) := by omega
        have d1 : ((i : Int) != (i : Int)) = false := by simp
        obtain ⟨c, ec⟩ : ∃ c, c = cut t size i := ⟨_, rfl⟩
        rw [← ec] at x2
        have EC : Hid (c = cut t size i) := ec
        clear hcs ep ec
        have d2 : ((n : Int) != 1) = false := by simp; omega
        have d3 : decide ((i : Int) < 0) = false := decide_eq_false (by omega)
        go_wp2
        go_roundw
        case rel => exact ⟨i + 1, by omega, by go_num, by first | rfl | trivial⟩
        case measure => simp [intOf]; omega
      · have hi : i = n := by omega
        subst hi
        go_wp2
        go_ret
        exact ⟨rfl, V.out.2⟩
  · go_enter Try.func3, Try.ntmps3
    go_wp2_with fail
    refine (splitP_any t (size : Int) w).mono ?_
    rintro e w1 ⟨v, rfl, ho, hb⟩
    rw [H.out.1, errF_ok]
    rw [split_zero H.out.1, Int.toNat_natCast, ← EN.out.1] at ho
    obtain ⟨q, cap, rfl, hm, hv⟩ := ho.view
    rw [pcs_len] at hm hv ⊢
    have V : Hid (Pw w1 q n (pcs t size n) ∧ Below w.heap.size w w1) := ⟨hv, hb⟩
    clear ho hb hv
    have hn60 : n ≤ 60 := EN.out.2.2
    have hdn : ((n : Int) != (n : Int)) = false := by simp
    have e1 : ((t.size : Int) + (size : Int) - 1).tdiv (size : Int) = (n : Int) := by rw [← eq0]; exact hn
    have hd0 : ((n : Int) == 0) = false := by have := EN.out.2.1; simp; omega
    clear eq0 hn hq
    go_wp2_with fail
    go_loopw [8] (fun x wr => ∃ i : Nat, i ≤ n ∧ x = .int .i64 (i : Int) ∧ wr = w1) (fun x _ => n - (intOf x).toNat)
    case atStart => exact ⟨0, by omega, rfl, rfl⟩
    case round =>
      obtain ⟨i, hin, rfl, rfl⟩ := hrel
      by_cases hlt : i < n
      · obtain ⟨b, off, rfl, _, hcs⟩ := V.out.1.2 (by omega)
        obtain ⟨x0, x1, x2⟩ := hcs i hlt
        have ep : pc (pcs t size n) i = ((i : Int), (many t.size size : Int), cut t size i) := pcs_get t size hlt
        rw [ep, ← EN.out.1] at x0 x1 x2
        simp only at x0 x1 x2
        have hi0 : (0 : Int) ≤ (i : Int) := by omega
        have hilt : (i : Int) < (n : Int) := by omega
        have d1 : ((i : Int) != (i : Int)) = false := by simp
        obtain ⟨c, ec⟩ : ∃ c, c = cut t size i := ⟨_, rfl⟩
        rw [← ec] at x2
        have EC : Hid (c = cut t size i) := ec
        clear hcs ep ec
        have d2 : ((n : Int) != (n : Int)) = false := by simp
        by_cases hl : i + 1 < n
        · have d3 : decide ((i : Int) < (n : Int) - 1) = true := decide_eq_true (by omega)
          have hsz : c.size = size := by rw [EC.out]; exact cut_full H.out.2.1 (by rw [← EN.out.1]; exact hl)
          have d4 : ((c.size : Int) != (size : Int)) = false := by rw [hsz]; simp
          clear hsz
          go_wp2
          go_roundw
          case rel => exact ⟨i + 1, by omega, by go_num, by first | rfl | trivial⟩
          case measure => simp [intOf]; omega
        · have d3 : decide ((i : Int) < (n : Int) - 1) = false := decide_eq_false (by omega)
          go_wp2
          go_roundw
          case rel => exact ⟨i + 1, by omega, by go_num, by first | rfl | trivial⟩
          case measure => simp [intOf]; omega
      · have hi : i = n := by omega
        subst hi
        go_wp2
        go_ret
        exact ⟨rfl, V.out.2⟩
theorem few_any (t : ByteArray) (size : Int) (w : World) : Calls Try.prog 3 #[.string t, .int .i64 size] w fun x w' => x = .returned (.bool true) ∧ Below w.heap.size w w' := by
  by_cases h : splitC t size = 0
  · obtain ⟨h1, h2, h3⟩ := split_size h
    obtain ⟨s, rfl⟩ : ∃ s : Nat, size = (s : Int) := ⟨size.toNat, by omega⟩
    exact few_ok t s w (by omega) (by omega) h1
  · exact few_bad t size w h
end Go.Proofs.Ytnchnmccconcdae.Pie
