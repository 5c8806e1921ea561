/-
  Contracts of the landed package stable: New, Told, Row, Least, May.
-/
import Derived.Test.YtcmiihdbkdcfgagStbK
namespace Go.Proofs.Ytcmiihdbkdcfgag.Stb
open Go.RowKit
open Go.Proofs.Ytcmiihdbkdcfgag.Vec (Vw join_new join_no joinL code2)
open Go.Proofs.Ytcmiihdbkdcfgag.Sep (KpL NewL)
open Go.Proofs.Ytcmiihdbkdcfgag.Ldr (errF errF_ok errF_no Sl)
open Go.Proofs.Ytcmiihdbkdcfgag.His (joinR joinR_len getD_joinR zero5)
set_option linter.unusedVariables false
variable {w w' : World} {base P : Nat} {t : T} {ff : List Nat}

theorem has_any (h : BS w base P t ff) (x : Int) : Calls Try.prog 56 #[.pointer (some ⟨P, 0, none⟩), .int .i64 x] w fun e w' => e = .returned (.bool (decide (0 ≤ x ∧ x < (t.n : Int)))) ∧ w' = w := by
  have c0 := h.c0
  obtain ⟨n, en⟩ : ∃ n : Int, n = (t.n : Int) := ⟨_, rfl⟩
  rw [← en] at c0 ⊢
  clear h en
  by_cases h1 : 0 ≤ x
  · by_cases h2 : x < n
    · rw [decide_eq_true (show 0 ≤ x ∧ x < n from ⟨h1, h2⟩)]
      go_enter Try.func56, Try.ntmps56
      go_wp2
      go_ret
      exact ⟨rfl, rfl⟩
    · rw [decide_eq_false (show ¬ (0 ≤ x ∧ x < n) from fun q => h2 q.2)]
      go_enter Try.func56, Try.ntmps56
      go_wp2
      go_ret
      exact ⟨rfl, rfl⟩
  · rw [decide_eq_false (show ¬ (0 ≤ x ∧ x < n) from fun q => h1 q.1)]
    go_enter Try.func56, Try.ntmps56
    go_wp2
    go_ret
    exact ⟨rfl, rfl⟩
set_option maxRecDepth 100000 in
theorem all_any (h : BS w base P t ff) (hi : Inv t) {i : Nat} (h5 : i < 5) : Calls Try.prog 58 #[.pointer (some ⟨P, 0, none⟩), .int .i64 (i : Int)] w fun e w' => e = .returned (.int .i64 (ls t i)) ∧ w' = w := by
  have c0 := h.c0
  have HS : Hid (BS w base P t ff ∧ Inv t) := ⟨h, hi⟩
  have hn5 := hi.five
  obtain ⟨n, en⟩ : ∃ n : Nat, n = t.n := ⟨_, rfl⟩
  rw [← en] at c0 hn5
  have EN : Hid (n = t.n) := en
  have hi0 : (0 : Int) ≤ (i : Int) := by omega
  have hi5 : (i : Int) < 5 := by omega
  clear h hi en
  go_enter Try.func58, Try.ntmps58
  go_wp2
  go_loopw [5, 11] (fun l x wr => ∃ k : Nat, k ≤ n ∧ x = .int .i64 (k : Int) ∧ wr = w ∧ l = .int .i64 (hm t i k)) (fun _ x _ => n - (intOf x).toNat)
  case atStart => exact ⟨0, by omega, rfl, rfl, rfl⟩
  case round =>
    obtain ⟨k, hk, rfl, rfl, rfl⟩ := hrel
    by_cases hlt : k < n
    · have cr := HS.out.1.cr (m := k) (i := i) (by omega) h5
      have e1 : hm t i (k + 1) = min (hm t i k) ((t.r k).getD i 0) := rfl
      obtain ⟨a, ea⟩ : ∃ a, a = hm t i k := ⟨_, rfl⟩
      obtain ⟨b, eb⟩ : ∃ b, b = (t.r k).getD i 0 := ⟨_, rfl⟩
      rw [← ea] at e1 ⊢
      rw [← eb] at e1 cr
      have E1 : Hid (hm t i (k + 1) = min a b) := e1
      have hk0 : (0 : Int) ≤ (k : Int) := by omega
      have hk5 : (k : Int) < 5 := by omega
      have hkn : (k : Int) < (n : Int) := by omega
      have m0 : (if b < a then b else a) = min a b := by split <;> omega
      have m1 : (if a < b then a else b) = min a b := by split <;> omega
      have m2 : (if a ≤ b then a else b) = min a b := by split <;> omega
      clear ea eb e1
      go_wp2
      go_roundw
      case rel => exact ⟨k + 1, by omega, by go_num, trivial, by rw [E1.out]⟩
      case measure => simp [intOf]; omega
    · have hkn : ¬ (k : Int) < (n : Int) := by omega
      have e : hm t i k = ls t i := by
        have := hm_ls HS.out.2 i
        rw [← EN.out, show n = k by omega] at this
        exact this
      rw [e]
      clear e
      go_wp2
      go_ret
      exact ⟨rfl, rfl⟩
/-! New -/
theorem newB_no (n : Int) (hn : n < 2 ∨ 5 < n) (w : World) : Calls Try.prog 23 #[.int .i64 n] w fun x w' => x = .returned (.tuple #[.pointer none, errF 1]) ∧ Below w.heap.size w w' := by
  rw [errF_no (by decide)]
  by_cases h1 : n < 2
  · clear hn
    go_enter Try.func23, Try.ntmps23
    go_wp2
    go_ret2
    exact ⟨rfl, Below.refl _ _⟩
  · have h2 : n > 5 := by omega
    clear hn
    go_enter Try.func23, Try.ntmps23
    go_wp2
    go_ret2
    exact ⟨rfl, Below.refl _ _⟩
theorem made (n : Nat) (w : World) : BS (w.alloc (.cells #[.int .i64 (n : Int), .int .i64 0, .int .i64 0, .int .i64 0, .int .i64 0, .int .i64 0, .int .i64 0, .int .i64 0, .int .i64 0, .int .i64 0, .int .i64 0, .int .i64 0, .int .i64 0, .int .i64 0, .int .i64 0, .int .i64 0, .int .i64 0, .int .i64 0, .int .i64 0, .int .i64 0, .int .i64 0, .int .i64 0, .int .i64 0, .int .i64 0, .int .i64 0, .int .i64 0] 105)) w.heap.size w.heap.size (start n) [w.heap.size] := by
  refine ⟨rfl, Nat.le_refl _, World.rowIs_alloc w _ _ _ fun i hi => ?_⟩
  have hi' : i < 26 := hi
  have e : av (start n) i = if i = 0 then .int .i64 (n : Int) else .int .i64 0 := by
    unfold av
    by_cases z : i = 0
    · rw [if_pos z, if_pos z]; rfl
    · rw [if_neg z, if_neg z]
      show Value.int .i64 (zero5.getD ((i - 1) % 5) 0) = _
      rw [zero5_get]
  rw [e]
  match i, hi' with
  | 0, _ => rfl
  | 1, _ | 2, _ | 3, _ | 4, _ | 5, _ | 6, _ | 7, _ | 8, _ | 9, _ | 10, _ | 11, _ | 12, _ | 13, _ | 14, _ | 15, _ | 16, _ | 17, _ | 18, _ | 19, _ | 20, _ | 21, _ | 22, _ | 23, _ | 24, _ | 25, _ => rfl
  | k + 26, q => omega
set_option maxRecDepth 100000 in
theorem newB_ok (n : Nat) (h2 : 2 ≤ n) (h5 : n ≤ 5) (w : World) : Calls Try.prog 23 #[.int .i64 (n : Int)] w fun x w' => ∃ P fp, x = .returned (.tuple #[.pointer (some ⟨P, 0, none⟩), .nilIface]) ∧ BS w' w.heap.size P (start n) fp ∧ Below w.heap.size w w' := by
  have h2' : ¬ (n : Int) < 2 := by omega
  have h5' : ¬ (n : Int) > 5 := by omega
  go_enter Try.func23, Try.ntmps23
  go_wp2
  go_ret2
  exact ⟨w.heap.size, rfl, ⟨_, made n w⟩, (Below.refl _ _).alloc (Nat.le_refl _) _⟩
/-! May -/
set_option maxRecDepth 100000 in
theorem mayB (base P : Nat) (t : T) (fp : List Nat) (who n : Int) (w : World) (h : BS w base P t fp) (hi : Inv t) : Calls Try.prog 29 #[.pointer (some ⟨P, 0, none⟩), .int .i64 who, .int .i64 n] w fun x w' => x = .returned (.tuple #[.bool (may t who n), errF (mayC t who n)]) ∧ Below w.heap.size w w' := by
  have HS : Hid (BS w base P t fp ∧ Inv t) := ⟨h, hi⟩
  by_cases h1 : 0 ≤ who ∧ who < (t.n : Int)
  · by_cases h2 : n < 0
    · have ec : mayC t who n = 1 := if_pos (.inr (.inl h2))
      have em : may t who n = false := by unfold may; rw [ec]; rfl
      rw [ec, em, errF_no (by decide)]
      have D : Hid (decide (0 ≤ who ∧ who < (t.n : Int)) = true) := decide_eq_true h1
      clear h hi h1
      go_enter Try.func29, Try.ntmps29
      go_wp2_with fail
      refine (has_any HS.out.1 who).mono ?_
      rintro e w ⟨rfl, rfl⟩
      rw [D.out]
      go_wp2
      go_ret2
      exact ⟨rfl, Below.refl _ _⟩
    · by_cases h3 : n > 1000000
      · have ec : mayC t who n = 1 := if_pos (.inr (.inr h3))
        have em : may t who n = false := by unfold may; rw [ec]; rfl
        rw [ec, em, errF_no (by decide)]
        have D : Hid (decide (0 ≤ who ∧ who < (t.n : Int)) = true) := decide_eq_true h1
        clear h hi h1
        go_enter Try.func29, Try.ntmps29
        go_wp2_with fail
        refine (has_any HS.out.1 who).mono ?_
        rintro e w ⟨rfl, rfl⟩
        rw [D.out]
        go_wp2
        go_ret2
        exact ⟨rfl, Below.refl _ _⟩
      · obtain ⟨m, rfl⟩ : ∃ m : Nat, who = (m : Int) := ⟨who.toNat, by omega⟩
        have hm5 : m < 5 := by have := hi.five; omega
        have ec : mayC t (m : Int) n = 0 := if_neg (by omega)
        have em : may t (m : Int) n = decide (n ≤ ls t m) := by unfold may; rw [ec]; rfl
        rw [ec, em, errF_ok]
        have D : Hid (decide (0 ≤ (m : Int) ∧ (m : Int) < (t.n : Int)) = true) := decide_eq_true h1
        obtain ⟨y, ey⟩ : ∃ y, y = ls t m := ⟨_, rfl⟩
        have EY : Hid (y = ls t m) := ey
        rw [← ey]
        clear h hi h1 ey ec em
        go_enter Try.func29, Try.ntmps29
        go_wp2_with fail
        refine (has_any HS.out.1 (m : Int)).mono ?_
        rintro e w ⟨rfl, rfl⟩
        rw [D.out]
        go_wp2_with fail
        refine (all_any HS.out.1 HS.out.2 hm5).mono ?_
        rintro e w ⟨rfl, rfl⟩
        rw [← EY.out]
        go_wp2
        go_ret2
        exact ⟨rfl, Below.refl _ _⟩
  · have ec : mayC t who n = 1 := if_pos (.inl (by omega))
    have em : may t who n = false := by unfold may; rw [ec]; rfl
    rw [ec, em, errF_no (by decide)]
    have D : Hid (decide (0 ≤ who ∧ who < (t.n : Int)) = false) := decide_eq_false h1
    clear h hi h1
    go_enter Try.func29, Try.ntmps29
    go_wp2_with fail
    refine (has_any HS.out.1 who).mono ?_
    rintro e w ⟨rfl, rfl⟩
    rw [D.out]
    go_wp2
    go_ret2
    exact ⟨rfl, Below.refl _ _⟩
/-! Row -/
theorem in_iff (t : T) (who : Int) : (0 ≤ who ∧ who < (t.n : Int)) ↔ inC t who = 0 := by
  unfold inC
  by_cases z : who < 0 ∨ (t.n : Int) ≤ who
  · rw [if_pos z]; constructor
    · omega
    · intro q; exact absurd q (by decide)
  · rw [if_neg z]; constructor
    · intro _; rfl
    · omega
theorem in_no {who : Int} (h : ¬ (0 ≤ who ∧ who < (t.n : Int))) : inC t who = 1 := if_pos (by omega)
/-- five numbers of a row into a row just made -/
theorem copyOut (w : World) (p off cap : Nat) (xs : List Int) (hl : xs.length = 5) (hpb : p < w.heap.size) (hc : ∀ k, k < 5 → w.cell? ⟨p, off + k, none⟩ = some (.int .i64 (xs.getD k 0))) : ∃ x0 x1 x2 x3 x4, xs = [x0, x1, x2, x3, x4] ∧
    (Builtin.copy_ #[22, 22] 3 #[.slice (some ⟨w.heap.size, 0, none⟩) 5 5, .slice (some ⟨p, off, none⟩) 5 cap]).run Try.prog (w.alloc (.cells #[.int .i64 0, .int .i64 0, .int .i64 0, .int .i64 0, .int .i64 0] 3)) =
      .ok (.int .i64 5) (w.alloc (.cells #[.int .i64 x0, .int .i64 x1, .int .i64 x2, .int .i64 x3, .int .i64 x4] 3)) := by
  obtain ⟨x0, x1, x2, x3, x4, rfl⟩ := five hl
  refine ⟨x0, x1, x2, x3, x4, rfl, ?_⟩
  rw [run_copy_row Try.prog _ 22 22 3 3 w.heap.size 0 5 5 ⟨p, off, none⟩ 5 cap #[.int .i64 0, .int .i64 0, .int .i64 0, .int .i64 0, .int .i64 0] 3 [.int .i64 x0, .int .i64 x1, .int .i64 x2, .int .i64 x3, .int .i64 x4] Try.underlying22 (by kernel_rfl) (heap_alloc_new w _) rfl ?_ (by simp) (by intro v hv; simp at hv; rcases hv with rfl | rfl | rfl | rfl | rfl <;> rfl)]
  · simp only [World.setRow_alloc_new]
    rfl
  · intro j v hj
    rw [Addr.add_lit, World.cell?_alloc_lt (h := hpb)]
    match j, hj with
    | 0, hj => rw [hc 0 (by omega)]; simpa using hj
    | 1, hj => rw [hc 1 (by omega)]; simpa using hj
    | 2, hj => rw [hc 2 (by omega)]; simpa using hj
    | 3, hj => rw [hc 3 (by omega)]; simpa using hj
    | 4, hj => rw [hc 4 (by omega)]; simpa using hj
set_option maxRecDepth 100000 in
theorem rowB (base P : Nat) (t : T) (fp : List Nat) (who : Int) (w : World) (h : BS w base P t fp) (hi : Inv t) : Calls Try.prog 26 #[.pointer (some ⟨P, 0, none⟩), .int .i64 who] w fun x w' => ∃ a c, x = .returned (.tuple #[.slice a (rowL t who).length c, errF (inC t who)]) ∧ Sl w' (.slice a (rowL t who).length c) (rowL t who) ∧ (∀ ad, a = some ad → 0 < (rowL t who).length → w.heap.size ≤ ad.block) ∧ Below w.heap.size w w' := by
  have HS : Hid (BS w base P t fp ∧ Inv t) := ⟨h, hi⟩
  by_cases h1 : 0 ≤ who ∧ who < (t.n : Int)
  · obtain ⟨m, rfl⟩ : ∃ m : Nat, who = (m : Int) := ⟨who.toNat, by omega⟩
    have hm5 : m < 5 := by have := hi.five; omega
    have hmk : ∀ w, (Instr.makeSlice 22 (.int .i64 5) (.int .i64 5)).run Try.prog w = .ok (.slice (some ⟨w.heap.size, 0, none⟩) 5 5) (w.alloc (.cells #[.int .i64 0, .int .i64 0, .int .i64 0, .int .i64 0, .int .i64 0] 3)) := fun _ => by kernel_rfl
    have D : Hid (decide (0 ≤ (m : Int) ∧ (m : Int) < (t.n : Int)) = true) := decide_eq_true h1
    obtain ⟨x0, x1, x2, x3, x4, ex, hcp⟩ := copyOut w P (1 + m * 5) 5 (t.r m) (hi.len m) h.lt (fun k hk => h.cr hm5 hk)
    rw [row_in (show m < t.n by omega), in_ok (show m < t.n by omega), errF_ok, ex]
    have hm0 : (0 : Int) ≤ (m : Int) := by omega
    have hm5' : (m : Int) < 5 := by omega
    clear h hi h1 ex
    go_enter Try.func26, Try.ntmps26
    go_wp2_with fail
    refine (has_any HS.out.1 (m : Int)).mono ?_
    rintro e w ⟨rfl, rfl⟩
    rw [D.out]
    go_wp2
    go_ret2
    exact ⟨some ⟨w.heap.size, 0, none⟩, 5, rfl, ⟨_, 5, rfl, Nat.le_refl _, by decide, Vec.Vw.lit w x0 x1 x2 x3 x4 3⟩, fun ad e _ => by injection e with e; rw [← e]; exact Nat.le_refl _, (Below.refl _ _).alloc (Nat.le_refl _) _⟩
  · have ec : inC t who = 1 := in_no h1
    have er : rowL t who = [] := if_neg (by rw [ec]; decide)
    rw [ec, er, errF_no (by decide)]
    have D : Hid (decide (0 ≤ who ∧ who < (t.n : Int)) = false) := decide_eq_false h1
    clear h hi h1
    go_enter Try.func26, Try.ntmps26
    go_wp2_with fail
    refine (has_any HS.out.1 who).mono ?_
    rintro e w ⟨rfl, rfl⟩
    rw [D.out]
    go_wp2
    go_ret2
    exact ⟨none, 0, rfl, Ldr.Sl.nil w, fun ad e => (by cases e), Below.refl _ _⟩
/-! Told -/
theorem code2_row (hi : Inv t) (m : Nat) (v : List Int) : code2 (t.r m) v = vecC v := by
  have e : Vec.code (t.r m) = 0 := row_vec hi m
  unfold code2
  simp [e]
theorem join_R (a b : List Int) : joinL a b = joinR a b := rfl
set_option maxRecDepth 100000 in
theorem toldB (base P : Nat) (t : T) (fp : List Nat) (who : Int) (a : Option Addr) (len cap : Nat) (v : List Int) (w : World) (h : BS w base P t fp) (hi : Inv t) (hbw : base ≤ w.heap.size) (hv : Vw w a len v) (hm : len ≤ maxLen) (hk : ∀ ad, a = some ad → 0 < len → ad.block ∉ fp) : Calls Try.prog 24 #[.pointer (some ⟨P, 0, none⟩), .int .i64 who, .slice a len cap] w fun x w' => ∃ fp', x = .returned (errF (toldC t who v)) ∧ BS w' base P (told t who v) fp' ∧ Below base w w' ∧ KpL w w' fp ∧ NewL w fp fp' := by
  have HS : Hid (BS w base P t fp ∧ Inv t) := ⟨h, hi⟩
  by_cases h1 : 0 ≤ who ∧ who < (t.n : Int)
  · obtain ⟨m, rfl⟩ : ∃ m : Nat, who = (m : Int) := ⟨who.toNat, by omega⟩
    have hmn : m < t.n := by omega
    have hm5 : m < 5 := by have := hi.five; omega
    have D : Hid (decide (0 ≤ (m : Int) ∧ (m : Int) < (t.n : Int)) = true) := decide_eq_true h1
    have ei : inC t (m : Int) = 0 := in_ok hmn
    have et : toldC t (m : Int) v = vecC v := by unfold toldC; rw [ei]; rfl
    have HV : Hid (Vw w a len v ∧ base ≤ w.heap.size) := ⟨hv, hbw⟩
    have hm0 : (0 : Int) ≤ (m : Int) := by omega
    have hm5' : (m : Int) < 5 := by omega
    by_cases hc : vecC v = 0
    · have eT : told t (m : Int) v = { t with r := up t.r m (joinR (t.r m) v) } := by unfold told; rw [if_pos (et.trans hc), Int.toNat_natCast]
      rw [et, hc, eT, errF_ok]
      have HC : Hid (vecC v = 0 ∧ m < t.n ∧ m < 5) := ⟨hc, hmn, hm5⟩
      clear h hi h1 ei et hc eT hv hbw hm hk hmn hm5
      go_enter Try.func24, Try.ntmps24
      go_wp2_with fail
      refine (has_any HS.out.1 (m : Int)).mono ?_
      rintro e w ⟨rfl, rfl⟩
      rw [D.out]
      go_wp2_with fail
      refine (join_new _ a 5 5 len cap (t.r m) v w (HS.out.1.vw HS.out.2 HC.out.2.2) HV.out.1 (row_vec HS.out.2 m) HC.out.1).mono ?_
      rintro e w1 ⟨g, rfl, hg, hgs, hb⟩
      have hgP : g ≠ P := by have := HS.out.1.lt; omega
      obtain ⟨w2, hcp, hbs, hkp, hbe⟩ := copyIn (cap := 5) (cap' := 5) (HS.out.1.low hb) HS.out.2 HC.out.2.1 hg hgP
      rw [join_R] at hbs
      have R : Hid (BS w2 base P { t with r := up t.r m (joinR (t.r m) v) } fp ∧ KpL w1 w2 [P] ∧ Below base w1 w2 ∧ Below w.heap.size w w1) := ⟨hbs, hkp, hbe, hb⟩
      clear hg hgs hb hgP hbs hkp hbe
      go_wp2
      go_ret
      refine ⟨fp, rfl, R.out.1, (R.out.2.2.2.mono HV.out.2).trans R.out.2.2.1, ⟨Nat.le_trans R.out.2.2.2.size R.out.2.1.1, fun b hb hn => ?_⟩, NewL.refl _ _⟩
      have hP := HS.out.1.1
      rw [hP] at hn
      exact (R.out.2.1.2 b (Nat.lt_of_lt_of_le hb R.out.2.2.2.size) hn).trans (R.out.2.2.2.block b hb)
    · have eT : told t (m : Int) v = t := if_neg (by rw [et]; exact hc)
      rw [et, eT, errF_no hc]
      have e2 : code2 (t.r m) v = vecC v := code2_row hi m v
      have HC : Hid (code2 (t.r m) v ≠ 0 ∧ m < t.n ∧ m < 5) := ⟨by rw [e2]; exact hc, hmn, hm5⟩
      rw [← e2]
      clear h hi h1 ei et hc eT hv hbw hm hk hmn hm5 e2
      go_enter Try.func24, Try.ntmps24
      go_wp2_with fail
      refine (has_any HS.out.1 (m : Int)).mono ?_
      rintro e w ⟨rfl, rfl⟩
      rw [D.out]
      go_wp2_with fail
      refine (join_no _ a 5 5 len cap (t.r m) v w (HS.out.1.vw HS.out.2 HC.out.2.2) HV.out.1 HC.out.1).mono ?_
      rintro e w1 ⟨rfl, hb⟩
      have R : Hid (Below w.heap.size w w1) := hb
      clear hb
      go_wp2
      go_ret
      exact ⟨fp, rfl, HS.out.1.low R.out, R.out.mono HV.out.2, KpL.below R.out fp, NewL.refl _ _⟩
  · have ei : inC t who = 1 := in_no h1
    have et : toldC t who v = 1 := by unfold toldC; rw [ei]; rfl
    have eT : told t who v = t := if_neg (by rw [et]; decide)
    rw [et, eT, errF_no (by decide)]
    have D : Hid (decide (0 ≤ who ∧ who < (t.n : Int)) = false) := decide_eq_false h1
    clear h hi h1 ei et eT hv hbw hm hk
    go_enter Try.func24, Try.ntmps24
    go_wp2_with fail
    refine (has_any HS.out.1 who).mono ?_
    rintro e w ⟨rfl, rfl⟩
    rw [D.out]
    go_wp2
    go_ret
    exact ⟨fp, rfl, HS.out.1, Below.refl _ _, KpL.below (Below.refl _ _) fp, NewL.refl _ _⟩
/-! Least -/
theorem least_map (t : T) : (List.range 5).map (ls t) = least t := rfl
set_option maxRecDepth 100000 in
theorem leastB (base P : Nat) (t : T) (fp : List Nat) (w : World) (h : BS w base P t fp) (hi : Inv t) : Calls Try.prog 25 #[.pointer (some ⟨P, 0, none⟩)] w fun x w' => ∃ a c, x = .returned (.slice a 5 c) ∧ Sl w' (.slice a 5 c) (least t) ∧ (∀ ad, a = some ad → w.heap.size ≤ ad.block) ∧ Below w.heap.size w w' := by
  have HS : Hid (BS w base P t fp ∧ Inv t) := ⟨h, hi⟩
  have hmk : ∀ w, (Instr.makeSlice 22 (.int .i64 5) (.int .i64 5)).run Try.prog w = .ok (.slice (some ⟨w.heap.size, 0, none⟩) 5 5) (w.alloc (.cells #[.int .i64 0, .int .i64 0, .int .i64 0, .int .i64 0, .int .i64 0] 3)) := fun _ => by kernel_rfl
  clear h hi
  go_enter Try.func25, Try.ntmps25
  go_wp2
  generalize hg : w.heap.size = g
  have H0 : Hid (Vec.Own5 (w.alloc (.cells #[.int .i64 0, .int .i64 0, .int .i64 0, .int .i64 0, .int .i64 0] 3)) g (ls t) 0) := by
    subst hg
    intro j hj
    match j, hj with
    | 0, _ => simp
    | 1, _ => simp
    | 2, _ => simp
    | 3, _ => simp
    | 4, _ => simp
  have HG : Hid (w.heap.size = g) := hg
  clear hg
  go_loopw [6] (fun i wr => ∃ k : Nat, k ≤ 5 ∧ i = .int .i64 k ∧ Hid (Vec.Own5 wr g (ls t) k ∧ Below w.heap.size w wr)) (fun i _ => 5 - (intOf i).toNat)
  case atStart => exact ⟨0, by omega, rfl, H0.out, (Below.refl _ _).alloc (Nat.le_refl _) _⟩
  case round =>
    obtain ⟨k, hk, rfl, hO⟩ := hrel
    by_cases hlt : k < 5
    · have hk0 : (0 : Int) ≤ (k : Int) := by omega
      have hk5 : (k : Int) < 5 := by omega
      obtain ⟨ho, hf⟩ := hO.out.1 k hlt
      have hbs := HS.out.1.low hO.out.2
      have R : Hid (BS wr base P t fp) := hbs
      obtain ⟨y, ey⟩ : ∃ y, y = ls t k := ⟨_, rfl⟩
      have EY : Hid (y = ls t k) := ey
      clear hbs ey
      go_wp2_with fail
      refine (all_any R.out HS.out.2 hlt).mono ?_
      rintro e w1 ⟨rfl, rfl⟩
      rw [← EY.out]
      go_wp2
      go_roundw
      case rel => exact ⟨k + 1, by omega, by go_num, by
        have := hO.out.1.step hlt EY.out
        exact this, by
        exact (hO.out.2.setCell (Nat.le_of_eq HG.out) _)⟩
      case measure => simp [intOf]; omega
    · have hk5 : ¬ (k : Int) < 5 := by omega
      go_wp2
      go_ret
      obtain rfl : k = 5 := by omega
      exact ⟨some ⟨g, 0, none⟩, 5, rfl, ⟨_, 5, rfl, Nat.le_refl _, by decide, hO.out.1.vw⟩, fun ad e => by injection e with e; rw [← e]; exact Nat.le_of_eq HG.out, hO.out.2⟩
end Go.Proofs.Ytcmiihdbkdcfgag.Stb
