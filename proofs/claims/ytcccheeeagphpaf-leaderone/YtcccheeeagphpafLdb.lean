/-
  Places that come the wrong way round are heard with the first: the walk of LeaderBack.
-/
import Derived.Test.YtcccheeeagphpafLdbM
import Derived.Test.YtcccheeeagphpafLdrP
import Derived.Deep.QuietTactic
import Derived.WalkLawsBesides
import Derived.Handy
namespace Go.Proofs.Ytcccheeeagphpaf.Ldr
open Go.RowKit
open Go.Proofs.Ytcccheeeagphpaf.Fif (ret_bool)
open Go.Proofs.Ytcccheeeagphpaf.Sep (KpL NewL)
set_option linter.unusedVariables false

theorem LS.later {w w' : World} {base P : Nat} {l : L} {fp : List Nat} (h : LS w base P l fp) (hb : Below w.heap.size w w') : LS w' base P l fp := h.of_blocks hb.size fun b hb' => hb.block b (h.fp b hb').2
set_option maxRecDepth 100000 in
theorem back_n (n : Int) (many : Int) (w : World) (hn : n < 2 ∨ 5 < n) : Calls Try.prog 5 #[.int .i64 n, .int .i64 many] w fun x w' => x = .returned (.bool true) ∧ Below w.heap.size w w' := by
  have HN : Hid (n < 2 ∨ 5 < n) := hn
  by_cases h1 : n < 2
  · clear hn
    go_enter Try.func5, Try.ntmps5
    go_wp2_with fail
    refine (newL_no n HN.out w).mono ?_
    rintro e w1 ⟨rfl, hb⟩
    rw [errF_no (by decide)]
    go_wp2
    go_ret
    exact ⟨rfl, hb⟩
  · have h2 : 5 < n := by omega
    clear hn
    go_enter Try.func5, Try.ntmps5
    go_wp2_with fail
    refine (newL_no n HN.out w).mono ?_
    rintro e w1 ⟨rfl, hb⟩
    rw [errF_no (by decide)]
    go_wp2
    go_ret
    exact ⟨rfl, hb⟩
set_option maxRecDepth 100000 in
theorem back_many (n : Nat) (many : Int) (w : World) (h2 : 2 ≤ n) (h5 : n ≤ 5) (hm : many < 1 ∨ 30 < many) : Calls Try.prog 5 #[.int .i64 (n : Int), .int .i64 many] w fun x w' => x = .returned (.bool true) ∧ Below w.heap.size w w' := by
  by_cases h1 : many < 1
  · clear hm
    go_enter Try.func5, Try.ntmps5
    go_wp2_with fail
    refine (newL_ok n h2 h5 w).mono ?_
    rintro e w1 ⟨P, fp, rfl, hA, hb⟩
    go_wp2
    go_ret
    exact ⟨rfl, hb⟩
  · have h3 : 30 < many := by omega
    clear hm
    go_enter Try.func5, Try.ntmps5
    go_wp2_with fail
    refine (newL_ok n h2 h5 w).mono ?_
    rintro e w1 ⟨P, fp, rfl, hA, hb⟩
    go_wp2
    go_ret
    exact ⟨rfl, hb⟩
set_option maxRecDepth 100000 in
set_option maxHeartbeats 1000000 in
theorem back_ok (n many : Nat) (w : World) (h2 : 2 ≤ n) (h5 : n ≤ 5) (hm1 : 1 ≤ many) (hm30 : many ≤ 30) : Calls Try.prog 5 #[.int .i64 (n : Int), .int .i64 (many : Int)] w fun x w' => x = .returned (.bool true) ∧ Below w.heap.size w w' := by
  have q1 : (1 : Int) ≤ (many : Int) := by omega
  have q30 : (many : Int) ≤ 30 := by omega
  go_enter Try.func5, Try.ntmps5
  go_wp2_with fail
  refine (newL_ok n h2 h5 w).mono ?_
  rintro e w1 ⟨P, fp, rfl, hA, hb⟩
  have M0 : Hid (LS w1 w.heap.size P (start n) fp ∧ LB n (1 - 1) (1 - 1) (start n) ∧ Below w.heap.size w w1) := ⟨hA, LB.start h2 h5, hb⟩
  clear hA hb
  go_wp2
  go_loopw [7] (fun x wr => ∃ v : Nat, 1 ≤ v ∧ v ≤ many + 1 ∧ x = .int .i64 (v : Int) ∧ ∃ l fp, Hid (LS wr w.heap.size P l fp ∧ LB n (v - 1) (v - 1) l ∧ Below w.heap.size w wr)) (fun x _ => many + 1 - (intOf x).toNat)
  case atStart => exact ⟨1, by omega, by omega, rfl, _, _, M0⟩
  case round =>
    obtain ⟨v, hv1, hvm, rfl, l, f, hQ⟩ := hrel
    by_cases hlt : (v : Int) ≤ (many : Int)
    · have hs := LB.say hQ.out.2.1 (by omega)
      have ev : ((v - 1 : Nat) : Int) + 1 = (v : Int) := by omega
      have ev2 : v - 1 + 1 = v := by omega
      rw [ev, ev2] at hs
      have HS : Hid _ := hs
      clear hs ev2
      go_wp2_with fail
      refine (sayL w.heap.size P l f (v : Int) wr hQ.out.1 hQ.out.2.1.inv hQ.out.2.2.size).mono ?_
      rintro e w2 ⟨f2, rfl, hA2, hb2, _, _⟩
      rw [HS.out.1, HS.out.2.1, errF_ok]
      have M2 : Hid (LS w2 w.heap.size P (say l (v : Int)) f2 ∧ Below w.heap.size w w2) := ⟨hA2, hQ.out.2.2.trans hb2⟩
      have d : (((v - 1 : Nat) : Int) != (v : Int) - 1) = false := by simp; omega
      clear hA2 hb2 ev
      go_wp2
      go_roundw
      case rel => exact ⟨v + 1, by omega, by omega, by go_num, _, f2, M2.out.1.later ((Below.refl _ _).alloc (Nat.le_refl _) _), by rw [show v + 1 - 1 = v by omega]; exact HS.out.2.2, M2.out.2.alloc M2.out.2.size _⟩
      case measure => simp [intOf]; omega
    · have hve : v = many + 1 := by omega
      have M1 : Hid (LS wr w.heap.size P l f ∧ LB n many (many - 1 + 1) l ∧ Below w.heap.size w wr) := by
        have q := hQ.out.2.1
        rw [hve, show many + 1 - 1 = many by omega] at q
        rw [show many - 1 + 1 = many by omega]
        exact ⟨hQ.out.1, q, hQ.out.2.2⟩
      have em : (many : Int) - 1 = ((many - 1 : Nat) : Int) := by omega
      clear hQ hve
      go_wp2
      clear em
      go_loopw [10] (fun x wr => ∃ a : Nat, a < many ∧ x = .int .i64 (a : Int) ∧ ∃ l fp, Hid (LS wr w.heap.size P l fp ∧ LB n many (a + 1) l ∧ Below w.heap.size w wr)) (fun x _ => (intOf x).toNat)
      case atStart => exact ⟨many - 1, by omega, rfl, _, _, M1⟩
      case round =>
        obtain ⟨a, ha, rfl, l, f, hQ⟩ := hrel
        by_cases hlt : 0 < a
        · have hlt' : (0 : Int) < (a : Int) := by omega
          have HT : Hid _ := LB.tk hQ.out.2.1 ha (show 0 < n by omega)
          have HO : Hid (tkO l 0 (a : Int) = []) := LB.quiet hQ.out.2.1 ha (by omega) hlt
          go_wp2_with fail
          refine (tkL w.heap.size P l f 0 (a : Int) wr hQ.out.1 hQ.out.2.1.inv hQ.out.2.2.size (MapV.wfI (by omega) (by omega))).mono ?_
          rintro e w2 ⟨v2, f2, rfl, hs2, hA2, hb2, _, _⟩
          rw [HT.out.1, errF_ok]
          rw [HO.out] at hs2
          obtain ⟨a2, c2, rfl, _, _, _⟩ := hs2
          have M2 : Hid (LS w2 w.heap.size P (tk l 0 (a : Int)) f2 ∧ Below w.heap.size w w2) := ⟨hA2, hQ.out.2.2.trans hb2⟩
          have l0 : ([] : List Int).length = 0 := rfl
          rw [l0]
          have ea : (a : Int) - 1 = ((a - 1 : Nat) : Int) := by omega
          clear hA2 hb2 l0
          go_wp2
          go_roundw
          case rel => exact ⟨a - 1, by omega, by first | rfl | rw [ea] | go_num, _, f2, M2.out.1, by rw [show a - 1 + 1 = a by omega]; exact HT.out.2, M2.out.2⟩
          case measure => simp [intOf]; omega
        · have hae : a = 0 := by omega
          subst hae
          have HT : Hid _ := LB.tk (a := 0) hQ.out.2.1 ha (show 0 < n by omega)
          have HO : Hid ((tkO l 0 0).length = many) := LB.all hQ.out.2.1 (by omega) (by omega)
          have H1 : Hid (hd (tk l 0 0) 1 = [] ∧ inC (tk l 0 0) 1 = 0 ∧ tkC l 0 0 = 0 ∧ Inv (tk l 0 0)) := by
            have q := HT.out.2
            have c := HT.out.1
            refine ⟨LB.quiet1 q (by omega), in_ok (m := 1) ?_, c, q.inv⟩
            show 1 < (tk l 0 ((0 : Nat) : Int)).n
            rw [q.num]
            omega
          go_wp2_with fail
          refine (tkL w.heap.size P l f 0 0 wr hQ.out.1 hQ.out.2.1.inv hQ.out.2.2.size (by decide)).mono ?_
          rintro e w2 ⟨v2, f2, rfl, hs2, hA2, hb2, _, _⟩
          rw [H1.out.2.2.1, errF_ok]
          obtain ⟨a2, c2, rfl, _, _, _⟩ := hs2
          rw [HO.out]
          have M2 : Hid (LS w2 w.heap.size P (tk l 0 0) f2 ∧ Below w.heap.size w w2) := ⟨hA2, hQ.out.2.2.trans hb2⟩
          clear hA2 hb2
          go_wp2_with fail
          refine (hdL w.heap.size P _ f2 1 w2 M2.out.1 H1.out.2.2.2).mono ?_
          rintro e w3 ⟨v3, rfl, hs3, hb3⟩
          rw [H1.out.2.1, errF_ok]
          rw [H1.out.1] at hs3
          obtain ⟨a3, c3, rfl, _, _, _⟩ := hs3
          have l0 : ([] : List Int).length = 0 := rfl
          rw [l0]
          have B3 : Hid (Below w.heap.size w w3) := M2.out.2.trans (hb3.mono M2.out.2.size)
          clear l0 hb3
          go_wp2
          go_ret
          exact ⟨rfl, B3.out⟩
theorem back_any (n many : Int) (w : World) : Calls Try.prog 5 #[.int .i64 n, .int .i64 many] w fun x w' => x = .returned (.bool true) ∧ Below w.heap.size w w' := by
  by_cases hn : n < 2 ∨ 5 < n
  · exact back_n n many w hn
  · obtain ⟨k, rfl⟩ : ∃ k : Nat, n = (k : Int) := ⟨n.toNat, by omega⟩
    by_cases hm : many < 1 ∨ 30 < many
    · exact back_many k many w (by omega) (by omega) hm
    · obtain ⟨m, rfl⟩ : ∃ m : Nat, many = (m : Int) := ⟨many.toNat, by omega⟩
      exact back_ok k m w (by omega) (by omega) (by omega) (by omega)
end Go.Proofs.Ytcccheeeagphpaf.Ldr
