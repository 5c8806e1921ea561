/-
  The greater number goes last: the walk of AgreeTwo.
-/
import Derived.Test.YtcolcjnmdejfeafAgtM
import Derived.Test.YtcolcjnmdejfeafAgrP
import Derived.Deep.QuietTactic
import Derived.WalkLawsBesides
import Derived.Handy
namespace Go.Proofs.Ytcolcjnmdejfeaf.Agr
open Go.RowKit
open Go.Proofs.Ytcolcjnmdejfeaf.Fif (ret_bool)
open Go.Proofs.Ytcolcjnmdejfeaf.Sep (KpL NewL)
set_option linter.unusedVariables false

theorem hd_in' {g : G} {m : Nat} (h : m < g.n) : hdC g (m : Int) = 0 ∧ hdL g (m : Int) = g.hd m := by
  have e : hdC g (m : Int) = 0 := if_neg (by omega)
  exact ⟨e, if_pos e⟩
theorem AS.later {w w' : World} {base P : Nat} {g : G} {fp : List Nat} (h : AS w base P g fp) (hb : Below w.heap.size w w') : AS w' base P g fp := h.of_blocks hb.size fun b hb' => hb.block b (h.fp b hb').2
set_option maxRecDepth 100000 in
theorem two_bad (n : Int) (a b : Int) (w : World) (hn : n < 2 ∨ 5 < n) : Calls Try.prog 3 #[.int .i64 n, .int .i64 a, .int .i64 b] w fun x w' => x = .returned (.bool true) ∧ Below w.heap.size w w' := by
  go_enter Try.func3, Try.ntmps3
  go_wp2_with fail
  refine (newA_no n hn w).mono ?_
  rintro e w1 ⟨rfl, hb⟩
  rw [errF_no (by decide)]
  go_wp2
  go_ret
  exact ⟨rfl, hb⟩
set_option maxRecDepth 100000 in
/-- one of the two can't be said -/
theorem two_say (n : Nat) (h2 : 2 ≤ n) (h5 : n ≤ 5) (a b : Int) (w : World) (ha : a < 1 ∨ 30 < a) : Calls Try.prog 3 #[.int .i64 (n : Int), .int .i64 a, .int .i64 b] w fun x w' => x = .returned (.bool true) ∧ Below w.heap.size w w' := by
  have hc : Hid (sayC (start n) a = 1) := if_pos ha
  have HI : Hid (Inv (start n) ∧ ∀ m, (start n).most m ≤ 10000) := ⟨Inv.start h2 h5, fun m => Nat.zero_le _⟩
  by_cases a1 : a < 1
  · clear ha
    go_enter Try.func3, Try.ntmps3
    go_wp2_with fail
    refine (newA_ok n h2 h5 w).mono ?_
    rintro e w1 ⟨P, fp, rfl, hA, hb⟩
    have B1 : Hid (Below w.heap.size w w1 ∧ AS w1 w.heap.size P (start n) fp) := ⟨hb, hA⟩
    clear hA hb
    go_wp2_with fail
    refine (sayA w.heap.size P (start n) fp a w1 B1.out.2 HI.out.1 HI.out.2 B1.out.1.size).mono ?_
    rintro e w2 ⟨f2, rfl, hA2, hb2, _, _⟩
    rw [hc.out, errF_no (by decide)]
    go_wp2
    go_ret
    exact ⟨rfl, B1.out.1.trans hb2⟩
  · have a30 : 30 < a := by omega
    clear ha
    go_enter Try.func3, Try.ntmps3
    go_wp2_with fail
    refine (newA_ok n h2 h5 w).mono ?_
    rintro e w1 ⟨P, fp, rfl, hA, hb⟩
    have B1 : Hid (Below w.heap.size w w1 ∧ AS w1 w.heap.size P (start n) fp) := ⟨hb, hA⟩
    clear hA hb
    go_wp2_with fail
    refine (sayA w.heap.size P (start n) fp a w1 B1.out.2 HI.out.1 HI.out.2 B1.out.1.size).mono ?_
    rintro e w2 ⟨f2, rfl, hA2, hb2, _, _⟩
    rw [hc.out, errF_no (by decide)]
    go_wp2
    go_ret
    exact ⟨rfl, B1.out.1.trans hb2⟩
set_option maxRecDepth 100000 in
theorem two_say2 (n a : Nat) (h2 : 2 ≤ n) (h5 : n ≤ 5) (b : Int) (w : World) (ha : 1 ≤ a ∧ a ≤ 30) (hb : b < 1 ∨ 30 < b ∨ (a : Int) = b) : Calls Try.prog 3 #[.int .i64 (n : Int), .int .i64 (a : Int), .int .i64 b] w fun x w' => x = .returned (.bool true) ∧ Below w.heap.size w w' := by
  have c1 : Hid (sayC (start n) (a : Int) = 0) := sayC_new ha rfl
  have e1 : say (start n) (a : Int) = also (start n) a := if_pos c1.out
  have c2 : Hid (sayC (say (start n) (a : Int)) b ≠ 0) := by
    show sayC _ _ ≠ 0
    rw [e1]
    unfold sayC
    by_cases q : b < 1 ∨ 30 < b
    · rw [if_pos q]; decide
    · rw [if_neg q, if_pos]
      · decide
      · show (if b.toNat = a then true else false) = true
        rw [if_pos (by omega)]
  have HI : Hid (Inv (start n) ∧ (∀ m, (start n).most m ≤ 10000) ∧ Inv (say (start n) (a : Int)) ∧ ∀ m, (say (start n) (a : Int)).most m ≤ 10000) := ⟨Inv.start h2 h5, fun m => Nat.zero_le _, (Inv.start h2 h5).say _, fun m => by rw [e1]; exact Nat.zero_le _⟩
  have q1 : ¬ (a : Int) < 1 := by omega
  have q2 : ¬ 30 < (a : Int) := by omega
  have hend : ((((false || decide ((a : Int) < 1)) || decide ((a : Int) > 30)) || decide (b < 1)) || decide (b > 30)) || ((a : Int) == b) = true := by
    simp
    omega
  clear e1
  go_enter Try.func3, Try.ntmps3
  go_wp2_with fail
  refine (newA_ok n h2 h5 w).mono ?_
  rintro e w1 ⟨P, fp, rfl, hA, hb1⟩
  have B1 : Hid (Below w.heap.size w w1 ∧ AS w1 w.heap.size P (start n) fp) := ⟨hb1, hA⟩
  clear hA hb1
  go_wp2_with fail
  refine (sayA w.heap.size P (start n) fp (a : Int) w1 B1.out.2 HI.out.1 HI.out.2.1 B1.out.1.size).mono ?_
  rintro e w2 ⟨f2, rfl, hA2, hb2, _, _⟩
  rw [c1.out, errF_ok]
  have B2 : Hid (Below w.heap.size w w2 ∧ AS w2 w.heap.size P (say (start n) (a : Int)) f2) := ⟨B1.out.1.trans hb2, hA2⟩
  clear hA2 hb2
  go_wp2_with fail
  refine (sayA w.heap.size P _ f2 b w2 B2.out.2 HI.out.2.2.1 HI.out.2.2.2 B2.out.1.size).mono ?_
  rintro e w3 ⟨f3, rfl, hA3, hb3, _, _⟩
  rw [errF_no c2.out]
  have B3 : Hid (Below w.heap.size w w3) := B2.out.1.trans hb3
  clear hA3 hb3
  by_cases z1 : b < 1
  · clear hb hend
    go_wp2
    go_ret
    exact ⟨rfl, B3.out⟩
  · by_cases z2 : 30 < b
    · clear hb hend
      go_wp2
      go_ret
      exact ⟨rfl, B3.out⟩
    · have z3 : ((a : Int) == b) = true := by simp; omega
      clear hb hend
      go_wp2
      go_ret
      exact ⟨rfl, B3.out⟩
set_option maxRecDepth 100000 in
set_option maxHeartbeats 1000000 in
theorem two_ok (n a b : Nat) (h2 : 2 ≤ n) (h5 : n ≤ 5) (w : World) (ha : 1 ≤ a ∧ a ≤ 30) (hb : 1 ≤ b ∧ b ≤ 30) (hab : a ≠ b) : Calls Try.prog 3 #[.int .i64 (n : Int), .int .i64 (a : Int), .int .i64 (b : Int)] w fun x w' => x = .returned (.bool true) ∧ Below w.heap.size w w' := by
  obtain ⟨c1, c2, t0⟩ := T2.start h2 h5 ha hb hab
  have HC : Hid (sayC (start n) (a : Int) = 0 ∧ sayC (say (start n) (a : Int)) (b : Int) = 0 ∧ T2 n a b (say (say (start n) (a : Int)) (b : Int)) 0 0 ∧ Le (say (say (start n) (a : Int)) (b : Int)) 0 ∧ Inv (start n) ∧ Inv (say (start n) (a : Int)) ∧ Le (say (start n) (a : Int)) 0) := ⟨c1, c2, t0, ((Le.start n).say _).say _, Inv.start h2 h5, (Inv.start h2 h5).say _, (Le.start n).say _⟩
  clear c1 c2 t0
  go_enter Try.func3, Try.ntmps3
  go_wp2_with fail
  refine (newA_ok n h2 h5 w).mono ?_
  rintro e w1 ⟨P, fp, rfl, hA, hb1⟩
  have B1 : Hid (Below w.heap.size w w1 ∧ AS w1 w.heap.size P (start n) fp) := ⟨hb1, hA⟩
  clear hA hb1
  go_wp2_with fail
  refine (sayA w.heap.size P (start n) fp (a : Int) w1 B1.out.2 HC.out.2.2.2.2.1 (fun m => Nat.zero_le _) B1.out.1.size).mono ?_
  rintro e w2 ⟨f2, rfl, hA2, hb2, _, _⟩
  rw [HC.out.1, errF_ok]
  have B2 : Hid (Below w.heap.size w w2 ∧ AS w2 w.heap.size P (say (start n) (a : Int)) f2) := ⟨B1.out.1.trans hb2, hA2⟩
  clear hA2 hb2
  go_wp2_with fail
  refine (sayA w.heap.size P _ f2 (b : Int) w2 B2.out.2 HC.out.2.2.2.2.2.1 (HC.out.2.2.2.2.2.2.mono (by omega)) B2.out.1.size).mono ?_
  rintro e w3 ⟨f3, rfl, hA3, hb3, _, _⟩
  rw [HC.out.2.1, errF_ok]
  have M0 : Hid (AS w3 w.heap.size P (say (say (start n) (a : Int)) (b : Int)) f3 ∧ T2 n a b (say (say (start n) (a : Int)) (b : Int)) 0 0 ∧ Le (say (say (start n) (a : Int)) (b : Int)) (2 * 0) ∧ Below w.heap.size w w3) := ⟨hA3, HC.out.2.2.1, HC.out.2.2.2.1, B2.out.1.trans hb3⟩
  clear hA3 hb3 B1 B2 HC
  go_wp2
  go_loopw [9] (fun x wr => ∃ p : Nat, p ≤ n ∧ x = .int .i64 (p : Int) ∧ ∃ g fp, Hid (AS wr w.heap.size P g fp ∧ T2 n a b g p 0 ∧ Le g (2 * p) ∧ Below w.heap.size w wr)) (fun x _ => n - (intOf x).toNat)
  case atStart => exact ⟨0, by omega, rfl, _, _, M0⟩
  case round =>
    obtain ⟨p, hp, rfl, g, f, hQ⟩ := hrel
    by_cases hlt : p < n
    · have q : (p : Int) < (n : Int) := by omega
      by_cases hodd : p % 2 = 1
      · have hr : ((p : Int) % 2 == 1) = true := by simp; omega
        have hp := T2.pro hQ.out.2.1 hlt (x := b) (y := a) (.inr ⟨rfl, rfl⟩)
        have HP : Hid _ := hp
        clear hp hodd
        go_wp2_with fail
        refine (proA w.heap.size P g f (p : Int) (b : Int) wr hQ.out.1 hQ.out.2.1.inv (hQ.out.2.2.1.mono (by omega)) hQ.out.2.2.2.size).mono ?_
        rintro e w4 ⟨f4, rfl, hA4, hb4, _, _⟩
        rw [HP.out.1, errF_ok]
        have M4 : Hid (AS w4 w.heap.size P (pro g (p : Int) (b : Int)) f4 ∧ Below w.heap.size w w4) := ⟨hA4, hQ.out.2.2.2.trans hb4⟩
        have A4 : Hid (AS (w4.alloc (.cells #[.int .i64 ((proS g (p : Int) (b : Int)).1 : Int), .int .i64 ((proS g (p : Int) (b : Int)).2 : Int)] 29)) w.heap.size P (pro g (p : Int) (b : Int)) f4 ∧ Below w.heap.size w (w4.alloc (.cells #[.int .i64 ((proS g (p : Int) (b : Int)).1 : Int), .int .i64 ((proS g (p : Int) (b : Int)).2 : Int)] 29))) := ⟨hA4.later ((Below.refl _ _).alloc (Nat.le_refl _) _), M4.out.2.alloc M4.out.2.size _⟩
        clear hA4 hb4
        go_wp2_with fail
        refine (proA w.heap.size P _ f4 (p : Int) (a : Int) _ A4.out.1 (hQ.out.2.1.inv.pro _ _) ((hQ.out.2.2.1.pro _ _).mono (by omega)) A4.out.2.size).mono ?_
        rintro e w5 ⟨f5, rfl, hA5, hb5, _, _⟩
        rw [HP.out.2.1, errF_ok]
        have M5 : Hid (AS w5 w.heap.size P (pro (pro g (p : Int) (b : Int)) (p : Int) (a : Int)) f5 ∧ Below w.heap.size w w5) := ⟨hA5, A4.out.2.trans hb5⟩
        clear hA5 hb5
        go_wp2
        go_roundw
        case rel => exact ⟨p + 1, by omega, by go_num, _, f5, M5.out.1.later ((Below.refl _ _).alloc (Nat.le_refl _) _), HP.out.2.2, ((hQ.out.2.2.1.pro _ _).pro _ _).mono (by omega), M5.out.2.alloc M5.out.2.size _⟩
        case measure => simp [intOf]; omega
      · have hr : ((p : Int) % 2 == 1) = false := by simp; omega
        have hp := T2.pro hQ.out.2.1 hlt (x := a) (y := b) (.inl ⟨rfl, rfl⟩)
        have HP : Hid _ := hp
        clear hp hodd
        go_wp2_with fail
        refine (proA w.heap.size P g f (p : Int) (a : Int) wr hQ.out.1 hQ.out.2.1.inv (hQ.out.2.2.1.mono (by omega)) hQ.out.2.2.2.size).mono ?_
        rintro e w4 ⟨f4, rfl, hA4, hb4, _, _⟩
        rw [HP.out.1, errF_ok]
        have M4 : Hid (AS w4 w.heap.size P (pro g (p : Int) (a : Int)) f4 ∧ Below w.heap.size w w4) := ⟨hA4, hQ.out.2.2.2.trans hb4⟩
        have A4 : Hid (AS (w4.alloc (.cells #[.int .i64 ((proS g (p : Int) (a : Int)).1 : Int), .int .i64 ((proS g (p : Int) (a : Int)).2 : Int)] 29)) w.heap.size P (pro g (p : Int) (a : Int)) f4 ∧ Below w.heap.size w (w4.alloc (.cells #[.int .i64 ((proS g (p : Int) (a : Int)).1 : Int), .int .i64 ((proS g (p : Int) (a : Int)).2 : Int)] 29))) := ⟨hA4.later ((Below.refl _ _).alloc (Nat.le_refl _) _), M4.out.2.alloc M4.out.2.size _⟩
        clear hA4 hb4
        go_wp2_with fail
        refine (proA w.heap.size P _ f4 (p : Int) (b : Int) _ A4.out.1 (hQ.out.2.1.inv.pro _ _) ((hQ.out.2.2.1.pro _ _).mono (by omega)) A4.out.2.size).mono ?_
        rintro e w5 ⟨f5, rfl, hA5, hb5, _, _⟩
        rw [HP.out.2.1, errF_ok]
        have M5 : Hid (AS w5 w.heap.size P (pro (pro g (p : Int) (a : Int)) (p : Int) (b : Int)) f5 ∧ Below w.heap.size w w5) := ⟨hA5, A4.out.2.trans hb5⟩
        clear hA5 hb5
        go_wp2
        go_roundw
        case rel => exact ⟨p + 1, by omega, by go_num, _, f5, M5.out.1.later ((Below.refl _ _).alloc (Nat.le_refl _) _), HP.out.2.2, ((hQ.out.2.2.1.pro _ _).pro _ _).mono (by omega), M5.out.2.alloc M5.out.2.size _⟩
        case measure => simp [intOf]; omega
    · have hpn : p = n := by omega
      subst hpn
      have M1 : Hid (AS wr w.heap.size P g f ∧ T2 p a b g p 0 ∧ Le g (2 * p) ∧ Below w.heap.size w wr) := hQ.out
      clear hQ hlt
      go_wp2
      go_loopw [16] (fun x wr => ∃ s : Nat, s ≤ p ∧ x = .int .i64 (s : Int) ∧ ∃ g fp, Hid (AS wr w.heap.size P g fp ∧ T2 p a b g p s ∧ Le g (2 * p) ∧ Below w.heap.size w wr)) (fun x _ => p - (intOf x).toNat)
      case atStart => exact ⟨0, by omega, rfl, _, _, M1⟩
      case round =>
        obtain ⟨s, hs, rfl, g, f, hQ⟩ := hrel
        by_cases hlt : s < p
        · have q : (s : Int) < (p : Int) := by omega
          have HP : Hid _ := T2.set hQ.out.2.1 hlt
          go_wp2_with fail
          refine (setA w.heap.size P g f (s : Int) (b : Int) wr hQ.out.1 hQ.out.2.1.inv (hQ.out.2.2.1.mono (by omega)) hQ.out.2.2.2.size).mono ?_
          rintro e w4 ⟨x4, f4, rfl, _, hA4, hb4, _, _⟩
          rw [HP.out.1, errF_ok]
          have M4 : Hid (AS w4 w.heap.size P (set g (s : Int) (b : Int)) f4 ∧ Below w.heap.size w w4) := ⟨hA4, hQ.out.2.2.2.trans hb4⟩
          clear hA4 hb4
          go_wp2_with fail
          refine (setA w.heap.size P _ f4 (s : Int) (a : Int) w4 M4.out.1 (hQ.out.2.1.inv.set _ _) ((hQ.out.2.2.1.set hQ.out.2.1.inv.toInv0 _ _).mono (by omega)) M4.out.2.size).mono ?_
          rintro e w5 ⟨x5, f5, rfl, _, hA5, hb5, _, _⟩
          rw [HP.out.2.1, errF_ok]
          have M5 : Hid (AS w5 w.heap.size P (set (set g (s : Int) (b : Int)) (s : Int) (a : Int)) f5 ∧ Below w.heap.size w w5) := ⟨hA5, M4.out.2.trans hb5⟩
          clear hA5 hb5
          go_wp2
          go_roundw
          case rel => exact ⟨s + 1, by omega, by go_num, _, f5, M5.out.1, HP.out.2.2, (hQ.out.2.2.1.set hQ.out.2.1.inv.toInv0 _ _).set (hQ.out.2.1.inv.set _ _).toInv0 _ _, M5.out.2⟩
          case measure => simp [intOf]; omega
        · have hsn : s = p := by omega
          subst hsn
          have M2 : Hid (AS wr w.heap.size P g f ∧ T2 s a b g s s ∧ (∀ m, g.most m ≤ 10000) ∧ Below w.heap.size w wr) := ⟨hQ.out.1, hQ.out.2.1, hQ.out.2.2.1.mono (by omega), hQ.out.2.2.2⟩
          have e0 : Hid (hdC g 0 = 0 ∧ hdL g 0 = g.hd 0) := hd_in' (m := 0) (by rw [M2.out.2.1.n]; omega)
          clear hQ hlt M1
          go_wp2_with fail
          refine (hdA w.heap.size P g f 0 wr M2.out.1 M2.out.2.1.inv M2.out.2.2.1).mono ?_
          rintro e w6 ⟨x6, rfl, hs6, hb6⟩
          rw [e0.out.1, errF_ok]
          rw [e0.out.2] at hs6
          obtain ⟨a6, c6, rfl, h61, h62, h63⟩ := hs6
          have l2 : (g.hd 0).length = 2 := M2.out.2.1.two (by omega)
          have S6 : Hid (Sl w6 (.slice a6 2 c6) (g.hd 0) ∧ AS w6 w.heap.size P g f ∧ Below w.heap.size w w6) := ⟨⟨a6, c6, by rw [l2], h61, h62, h63⟩, M2.out.1.later hb6, M2.out.2.2.2.trans (hb6.mono M2.out.2.2.2.size)⟩
          rw [l2]
          clear h61 h62 h63 hb6 l2
          go_wp2
          go_loopw [22] (fun x wr => ∃ m : Nat, 1 ≤ m ∧ m ≤ s ∧ x = .int .i64 (m : Int) ∧ Hid (Below w6.heap.size w6 wr)) (fun x _ => s - (intOf x).toNat)
          case atStart => exact ⟨1, by omega, by omega, rfl, Below.refl _ _⟩
          case round =>
            obtain ⟨m, hm1, hm, rfl, hB⟩ := hrel
            by_cases hlt : m < s
            · have q : (m : Int) < (s : Int) := by omega
              have e1 : Hid (hdC g (m : Int) = 0 ∧ hdL g (m : Int) = g.hd m) := hd_in' (by rw [M2.out.2.1.n]; exact hlt)
              go_wp2_with fail
              refine (hdA w.heap.size P g f (m : Int) wr (S6.out.2.1.later hB.out) M2.out.2.1.inv M2.out.2.2.1).mono ?_
              rintro e w7 ⟨x7, rfl, hs7, hb7⟩
              rw [e1.out.1, errF_ok]
              rw [e1.out.2] at hs7
              have S7 : Hid (Sl w7 x7 (g.hd m) ∧ Below w6.heap.size w6 w7) := ⟨hs7, hB.out.trans (hb7.mono hB.out.size)⟩
              clear hs7 hb7
              go_wp2_with fail
              refine (same_any S7.out.1 (S6.out.1.later S7.out.2)).mono ?_
              rintro e w8 ⟨rfl, hb8⟩
              have e8 : decide (g.hd m = g.hd 0) = true := decide_eq_true (M2.out.2.1.same hlt (by omega))
              rw [e8]
              have S8 : Hid (Below w6.heap.size w6 w8) := S7.out.2.trans (hb8.mono S7.out.2.size)
              clear hb8 e8
              go_wp2
              go_roundw
              case rel => exact ⟨m + 1, by omega, by omega, by go_num, S8.out⟩
              case measure => simp [intOf]; omega
            · have hms : m = s := by omega
              subst hms
              go_wp2
              go_ret
              exact ⟨rfl, S6.out.2.2.trans (hB.out.mono S6.out.2.2.size)⟩
theorem two_any (n a b : Int) (w : World) : Calls Try.prog 3 #[.int .i64 n, .int .i64 a, .int .i64 b] w fun x w' => x = .returned (.bool true) ∧ Below w.heap.size w w' := by
  by_cases hn : n < 2 ∨ 5 < n
  · exact two_bad n a b w hn
  · obtain ⟨k, rfl⟩ : ∃ k : Nat, n = (k : Int) := ⟨n.toNat, by omega⟩
    by_cases ha : a < 1 ∨ 30 < a
    · exact two_say k (by omega) (by omega) a b w ha
    · obtain ⟨x, rfl⟩ : ∃ x : Nat, a = (x : Int) := ⟨a.toNat, by omega⟩
      by_cases hb : b < 1 ∨ 30 < b ∨ (x : Int) = b
      · exact two_say2 k x (by omega) (by omega) b w (by omega) hb
      · obtain ⟨y, rfl⟩ : ∃ y : Nat, b = (y : Int) := ⟨b.toNat, by omega⟩
        exact two_ok k x y (by omega) (by omega) w (by omega) (by omega) (by omega)
end Go.Proofs.Ytcolcjnmdejfeaf.Agr
