/-
  WireLong: the walk.
-/
import Derived.Test.YtolnfipdhkbkjajDoorWirG
namespace Go.Proofs.YtolnfipdhkbkjajDoor.Wir
open Go.RowKit
open Go.Proofs.YtolnfipdhkbkjajDoor.Fif (own_lt own_block own_form own_mono own_vw Kp ret_bool)
open Go.Proofs.YtolnfipdhkbkjajDoor.Vec (Vw code)
open Go.Proofs.YtolnfipdhkbkjajDoor.Cau (Sd sdBad)
open Go.Proofs.YtolnfipdhkbkjajDoor.As (Laid)
set_option linter.unusedVariables false

theorem lit_sl (w : World) (x0 x1 x2 x3 x4 : Int) (t : TypeId) : Sl (w.alloc (.cells #[.int .i64 x0, .int .i64 x1, .int .i64 x2, .int .i64 x3, .int .i64 x4] t)) (.slice (some ⟨w.heap.size, 0, none⟩) 5 5) [x0, x1, x2, x3, x4] :=
  ⟨_, 5, rfl, Nat.le_refl _, by unfold maxLen; omega, Vec.Vw.lit w x0 x1 x2 x3 x4 t⟩
theorem long_all {who word n : Int} (h0 : ¬ who < 0) (h1 : ¬ who > 4) (h2 : ¬ word < 1) (h3 : ¬ word > 30) (h4 : ¬ n < 0) (h5 : ¬ n > 1000000) : packC (who, word, [n, n, 0, n, 1]) = 0 := by
  unfold packC
  rw [if_neg]
  · have hb : Vec.bad [n, n, 0, n, 1] = false := Vec.anyP_false fun j hj => by
      rcases j with _ | _ | _ | _ | _ | j
      · simp [Vec.out]; omega
      · simp [Vec.out]; omega
      · rfl
      · simp [Vec.out]; omega
      · rfl
      · omega
    simp [Vec.code, hb]
  · simp [sdBad]
    omega
set_option maxRecDepth 100000 in
set_option maxHeartbeats 2000000 in
theorem long_any (who word n : Int) (w : World) (hL : Laid w) : Calls Tryd.prog 6 #[.int .i64 who, .int .i64 word, .int .i64 n] w fun x w' => x = .returned (.bool true) ∧ Below w.heap.size w w' := by
  have L : Hid (Laid w) := hL
  have B0 : Hid (Below w.heap.size w (w.alloc (.cells #[.int .i64 n, .int .i64 n, .int .i64 0, .int .i64 n, .int .i64 1] 3))) := (Below.refl _ _).alloc (Nat.le_refl _) _
  have HP := packP (who, word, [n, n, 0, n, 1]) (.slice (some ⟨w.heap.size, 0, none⟩) 5 5) (w.alloc (.cells #[.int .i64 n, .int .i64 n, .int .i64 0, .int .i64 n, .int .i64 1] 3)) (lit_sl w _ _ _ _ _ _)
  clear hL
  by_cases hz : packC (who, word, [n, n, 0, n, 1]) = 0
  · rw [hz] at HP
    obtain ⟨T, eT⟩ : ∃ T, T = packS (who, word, [n, n, 0, n, 1]) := ⟨_, rfl⟩
    have hT : T.size = 18 := by
      rw [eT, show packS (who, word, [n, n, 0, n, 1]) = txt (pk (who, word, [n, n, 0, n, 1])) from if_pos hz, txt_size, (pk_byt hz).2]
    rw [← eT] at HP
    clear eT hz
    have HH : Hid (Calls Tryd.prog 23 #[.agg #[.int .i64 who, .int .i64 word, .slice (some ⟨w.heap.size, 0, none⟩) 5 5]] (w.alloc (.cells #[.int .i64 n, .int .i64 n, .int .i64 0, .int .i64 n, .int .i64 1] 3)) fun e w' => e = .returned (.tuple #[.string T, errF 0]) ∧ Below (w.alloc (.cells #[.int .i64 n, .int .i64 n, .int .i64 0, .int .i64 n, .int .i64 1] 3)).heap.size (w.alloc (.cells #[.int .i64 n, .int .i64 n, .int .i64 0, .int .i64 n, .int .i64 1] 3)) w') := HP
    clear HP
    have HX : Hid (unC (T.extract 1 18) = 2 ∧ unS (T.extract 1 18) = (0, 0, [])) := unC_no (by rw [ByteArray.size_extract, hT]; decide)
    go_enter Tryd.func6, Tryd.ntmps6
    go_wp2_with fail
    refine HH.out.mono ?_
    rintro e w1 ⟨rfl, hb⟩
    rw [errF_ok]
    have B1 : Hid (Below w.heap.size w w1) := B0.out.trans (hb.mono B0.out.size)
    clear hb
    go_wp2_with fail
    refine (unpackX (T.extract 1 18) w1).mono ?_
    rw [HX.out.1]
    rintro e w2 ⟨x, y, q, m, c, rfl, _, hb⟩
    have B2 : Hid (Below w.heap.size w (w2.alloc (.cells #[.int .i64 x, .int .i64 y, .slice q m c] 59))) := (B1.out.trans (hb.mono B1.out.size)).alloc (by have := B1.out.size; have := hb.size; omega) _
    rw [errF_no (by decide)]
    clear hb
    go_wp2_with fail
    have q := errF_same 2 _ (L.out.later B2.out)
    rw [errF_no (by decide)] at q
    refine q.mono ?_
    clear q
    rintro e w3 ⟨rfl, hb⟩
    have B3 : Hid (Below w.heap.size w w3) := B2.out.trans (hb.mono B2.out.size)
    clear hb
    go_wp2
    go_ret
    exact ⟨rfl, B3.out⟩
  · rw [errF_no hz] at HP
    obtain ⟨T, eT⟩ : ∃ T, T = packS (who, word, [n, n, 0, n, 1]) := ⟨_, rfl⟩
    obtain ⟨C, eC⟩ : ∃ C, C = packC (who, word, [n, n, 0, n, 1]) := ⟨_, rfl⟩
    rw [← eT, ← eC] at HP
    have HZ : Hid (packC (who, word, [n, n, 0, n, 1]) ≠ 0) := hz
    have HH : Hid (Calls Tryd.prog 23 #[.agg #[.int .i64 who, .int .i64 word, .slice (some ⟨w.heap.size, 0, none⟩) 5 5]] (w.alloc (.cells #[.int .i64 n, .int .i64 n, .int .i64 0, .int .i64 n, .int .i64 1] 3)) fun e w' => e = .returned (.tuple #[.string T, .iface 78 (.int .i64 C)]) ∧ Below (w.alloc (.cells #[.int .i64 n, .int .i64 n, .int .i64 0, .int .i64 n, .int .i64 1] 3)).heap.size (w.alloc (.cells #[.int .i64 n, .int .i64 n, .int .i64 0, .int .i64 n, .int .i64 1] 3)) w') := HP
    clear HP hz eT eC
    go_enter Tryd.func6, Tryd.ntmps6
    go_wp2_with fail
    refine HH.out.mono ?_
    rintro e w1 ⟨rfl, hb⟩
    have B1 : Hid (Below w.heap.size w w1) := B0.out.trans (hb.mono B0.out.size)
    clear hb
    cases d0 : decide (who < 0)
    · cases d1 : decide (who > 4)
      · cases d2 : decide (word < 1)
        · cases d3 : decide (word > 30)
          · cases d4 : decide (n < 0)
            · cases d5 : decide (n > 1000000)
              · exact absurd (long_all (of_decide_eq_false d0) (of_decide_eq_false d1) (of_decide_eq_false d2) (of_decide_eq_false d3) (of_decide_eq_false d4) (of_decide_eq_false d5)) HZ.out
              · go_wp2
                go_ret
                exact ⟨rfl, B1.out⟩
            · go_wp2
              go_ret
              exact ⟨rfl, B1.out⟩
          · go_wp2
            go_ret
            exact ⟨rfl, B1.out⟩
        · go_wp2
          go_ret
          exact ⟨rfl, B1.out⟩
      · go_wp2
        go_ret
        exact ⟨rfl, B1.out⟩
    · go_wp2
      go_ret
      exact ⟨rfl, B1.out⟩
end Go.Proofs.YtolnfipdhkbkjajDoor.Wir
