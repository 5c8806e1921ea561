/-
  Contracts of package fifo: within, came, check.
-/
import Derived.Test.YtgcdbcljneoifacDoorFifF
import Derived.Deep.QuietTactic
import Derived.BigQuiet
import Derived.Deep.RegionHeld3
import Derived.Handy
namespace Go.Proofs.YtgcdbcljneoifacDoor.Fif
open Go.RowKit Go.Maps
set_option linter.unusedVariables false

theorem within_yes (n low high : Int) (w : World) (h1 : low ≤ n) (h2 : n ≤ high) :
    Calls Tryd.prog 31 #[.int .i64 n, .int .i64 low, .int .i64 high] w fun e w' => e = .returned (.bool true) ∧ w' = w := by
  go_enter Tryd.func31, Tryd.ntmps31
  go_wp2
  go_ret
  exact ⟨rfl, rfl⟩
theorem within_no (n low high : Int) (w : World) (h : n < low ∨ high < n) :
    Calls Tryd.prog 31 #[.int .i64 n, .int .i64 low, .int .i64 high] w fun e w' => e = .returned (.bool false) ∧ w' = w := by
  by_cases h1 : low ≤ n
  · have h2 : ¬ n ≤ high := by omega
    go_enter Tryd.func31, Tryd.ntmps31
    go_wp2
    go_ret
    exact ⟨rfl, rfl⟩
  · go_enter Tryd.func31, Tryd.ntmps31
    go_wp2
    go_ret
    exact ⟨rfl, rfl⟩

set_option maxRecDepth 100000 in
theorem came_waits (base P mb m : Nat) (H : List Int) (ws : List Cm) (n : Int) (w : World) (hm : m < 5) (g : FoM w base P mb H ws) (hn : 1 ≤ n ∧ n ≤ 1000000) (x : Int) (hf : fnd ws (m : Int) n = some x) :
    Calls Tryd.prog 32 #[.pointer (some ⟨P, 0, none⟩), .agg #[.int .i64 (m : Int), .int .i64 n]] w fun e w' => e = .returned (.bool true) ∧ Below w.heap.size w w' := by
  obtain ⟨c5, z5⟩ := g.wait
  have hlt := g.lt.1
  have hlk := look_some (g.later ((Below.refl w.heap.size w).alloc (Nat.le_refl _) (.cells #[.int .i64 (m : Int), .int .i64 n] 61))) (okK_of (a := (m : Int)) (b := n) (by omega) (by omega)) hf
  have hlk' : ∀ k, (Instr.lookup 56 (.map (some mb)) (.agg #[.int .i64 (m : Int), .int .i64 n]) true).run Tryd.prog ((w.alloc (.cells #[.int .i64 (m : Int), .int .i64 n] 61)).drewN k) = .ok (.tuple #[.int .i64 x, .bool true]) ((w.alloc (.cells #[.int .i64 (m : Int), .int .i64 n] 61)).drewN k) := fun k => hlk _ rfl
  clear hlk g
  go_enter Tryd.func32, Tryd.ntmps32
  go_wp2_with fail
  go_quiet (fail)
  go_wp2_with fail
  go_quiet (fail)
  go_wp2
  go_ret
  exact ⟨rfl, below_drews (below_drews ((Below.refl w.heap.size w).alloc (Nat.le_refl _) _) _) _⟩
set_option maxRecDepth 100000 in
theorem came_not (base P mb m : Nat) (H : List Int) (ws : List Cm) (n : Int) (w : World) (hm : m < 5) (g : FoM w base P mb H ws) (hn : 1 ≤ n ∧ n ≤ 1000000) (hf : fnd ws (m : Int) n = none) :
    Calls Tryd.prog 32 #[.pointer (some ⟨P, 0, none⟩), .agg #[.int .i64 (m : Int), .int .i64 n]] w fun e w' => e = .returned (.bool (decide (n ≤ H.getD m 0))) ∧ Below w.heap.size w w' := by
  obtain ⟨c5, z5⟩ := g.wait
  obtain ⟨c0, z0⟩ := g.num hm
  have hlt := g.lt.1
  have hm0 : (0 : Int) ≤ (m : Int) := by omega
  have hm5 : (m : Int) < 5 := by omega
  have hlk := look_none (g.later ((Below.refl w.heap.size w).alloc (Nat.le_refl _) (.cells #[.int .i64 (m : Int), .int .i64 n] 61))) (okK_of (a := (m : Int)) (b := n) (by omega) (by omega)) hf
  have hlk' : ∀ k, (Instr.lookup 56 (.map (some mb)) (.agg #[.int .i64 (m : Int), .int .i64 n]) true).run Tryd.prog ((w.alloc (.cells #[.int .i64 (m : Int), .int .i64 n] 61)).drewN k) = .ok (.tuple #[.int .i64 0, .bool false]) ((w.alloc (.cells #[.int .i64 (m : Int), .int .i64 n] 61)).drewN k) := fun k => hlk _ rfl
  obtain ⟨y, ey⟩ : ∃ y, y = H.getD m 0 := ⟨_, rfl⟩
  rw [← ey] at c0 ⊢
  have hdec : decide (n < y + 1) = decide (n ≤ y) := by
    by_cases h : n ≤ y
    · simp [h]; omega
    · simp [h]; omega
  clear hlk g ey
  go_enter Tryd.func32, Tryd.ntmps32
  go_wp2_with fail
  go_quiet (fail)
  go_wp2_with fail
  go_quiet (fail)
  go_wp2
  go_ret
  exact ⟨by first | rfl | rw [hdec], below_drews (below_drews ((Below.refl w.heap.size w).alloc (Nat.le_refl _) _) _) _⟩

/-- what is wrong with a word -/
theorem check_any (base P mb : Nat) (H : List Int) (ws : List Cm) (who n word : Int) (w : World) (g : FoM w base P mb H ws) (hl : ws.length ≤ 41) (hH : ∀ j, j < 5 → 0 ≤ H.getD j 0 ∧ H.getD j 0 ≤ 1000000) :
    Calls Tryd.prog 18 #[.pointer (some ⟨P, 0, none⟩), .int .i64 who, .int .i64 n, .int .i64 word] w fun e w' => e = .returned (errF (tkC (H.getD who.toNat 0) ws who n word)) ∧ Below w.heap.size w w' := by
  have HG : Hid (FoM w base P mb H ws ∧ ∀ j, j < 5 → 0 ≤ H.getD j 0 ∧ H.getD j 0 ≤ 1000000) := ⟨g, hH⟩
  clear g hH
  by_cases w1 : 0 ≤ who ∧ who ≤ 4
  · obtain ⟨m, rfl⟩ : ∃ m : Nat, who = (m : Int) := ⟨who.toNat, by omega⟩
    have hm : m < 5 := by omega
    have hm0 : (0 : Int) ≤ (m : Int) := by omega
    have hm5 : (m : Int) < 5 := by omega
    by_cases w2 : 1 ≤ n ∧ n ≤ 1000000
    · by_cases w3 : 1 ≤ word ∧ word ≤ 30
      · have hb : bad (m : Int) n word = false := by simp [bad]; omega
        obtain ⟨y, ey⟩ : ∃ y, y = H.getD m 0 := ⟨_, rfl⟩
        have EY : Hid (y = H.getD m 0) := ey
        have hy : 0 ≤ y ∧ y ≤ 1000000 := by rw [ey]; exact HG.out.2 m hm
        rw [Int.toNat_natCast, ← ey]
        clear ey
        cases hf : fnd ws (m : Int) n with
        | some x =>
          have hc : tkC y ws (m : Int) n word = 7 := by
            unfold tkC
            rw [if_neg (by rw [hb]; decide)]
            by_cases q : n ≤ y
            · rw [if_pos q]
            · rw [if_neg q, if_pos (by rw [hf]; rfl)]
          rw [hc, errF_no (by decide)]
          go_enter Tryd.func18, Tryd.ntmps18
          go_wp2_with fail
          refine (within_yes (m : Int) 0 4 w w1.1 w1.2).mono ?_
          rintro e w1 ⟨rfl, rfl⟩
          go_wp2_with fail
          refine (within_yes n 1 1000000 _ w2.1 w2.2).mono ?_
          rintro e w1 ⟨rfl, rfl⟩
          go_wp2_with fail
          refine (within_yes word 1 30 _ w3.1 w3.2).mono ?_
          rintro e w1 ⟨rfl, rfl⟩
          go_wp2_with fail
          refine (came_waits base P mb m H ws n _ hm HG.out.1 w2 x hf).mono ?_
          rintro e w4 ⟨rfl, hb⟩
          have B4 : Hid _ := hb
          clear hb
          go_wp2
          go_ret
          exact ⟨rfl, B4.out⟩
        | none =>
          by_cases ho : n ≤ y
          · have hc : tkC y ws (m : Int) n word = 7 := by
              unfold tkC
              rw [if_neg (by rw [hb]; decide), if_pos ho]
            rw [hc, errF_no (by decide)]
            have hd : decide (n ≤ H.getD m 0) = true := by rw [← EY.out]; simp [ho]
            have HD : Hid (decide (n ≤ H.getD m 0) = true) := hd
            clear hd
            go_enter Tryd.func18, Tryd.ntmps18
            go_wp2_with fail
            refine (within_yes (m : Int) 0 4 w w1.1 w1.2).mono ?_
            rintro e w1 ⟨rfl, rfl⟩
            go_wp2_with fail
            refine (within_yes n 1 1000000 _ w2.1 w2.2).mono ?_
            rintro e w1 ⟨rfl, rfl⟩
            go_wp2_with fail
            refine (within_yes word 1 30 _ w3.1 w3.2).mono ?_
            rintro e w1 ⟨rfl, rfl⟩
            go_wp2_with fail
            refine (came_not base P mb m H ws n _ hm HG.out.1 w2 hf).mono ?_
            rintro e w4 ⟨rfl, hb⟩
            rw [HD.out]
            have B4 : Hid _ := hb
            clear hb
            go_wp2
            go_ret
            exact ⟨rfl, B4.out⟩
          · have hd : decide (n ≤ H.getD m 0) = false := by rw [← EY.out]; simp; omega
            have HD : Hid (decide (n ≤ H.getD m 0) = false) := hd
            clear hd
            by_cases hfu : y + 1 < n ∧ 40 ≤ ws.length
            · have hc : tkC y ws (m : Int) n word = 4 := by
                unfold tkC
                rw [if_neg (by rw [hb]; decide), if_neg ho, if_neg (by rw [hf]; decide), if_pos hfu]
              rw [hc, errF_no (by decide)]
              have hne : (n == y + 1) = false := by simp; omega
              have h40 : (40 : Int) ≤ (ws.length : Int) := by omega
              go_enter Tryd.func18, Tryd.ntmps18
              go_wp2_with fail
              refine (within_yes (m : Int) 0 4 w w1.1 w1.2).mono ?_
              rintro e w1 ⟨rfl, rfl⟩
              go_wp2_with fail
              refine (within_yes n 1 1000000 _ w2.1 w2.2).mono ?_
              rintro e w1 ⟨rfl, rfl⟩
              go_wp2_with fail
              refine (within_yes word 1 30 _ w3.1 w3.2).mono ?_
              rintro e w1 ⟨rfl, rfl⟩
              go_wp2_with fail
              refine (came_not base P mb m H ws n _ hm HG.out.1 w2 hf).mono ?_
              rintro e w4 ⟨rfl, hb⟩
              rw [HD.out]
              have B4 : Hid _ := hb
              have g4 := HG.out.1.later hb
              obtain ⟨c5, z5⟩ := g4.wait
              obtain ⟨c0, z0⟩ := g4.num hm
              rw [← EY.out] at c0
              have hlen := fun ty => g4.len ty w4 rfl
              clear hb g4
              go_wp2
              go_ret
              exact ⟨rfl, B4.out⟩
            · have hc : tkC y ws (m : Int) n word = 0 := by
                unfold tkC
                rw [if_neg (by rw [hb]; decide), if_neg ho, if_neg (by rw [hf]; decide), if_neg hfu]
              rw [hc, errF_ok]
              by_cases h40 : (40 : Int) ≤ (ws.length : Int)
              · have hne : (n == y + 1) = true := by simp; omega
                go_enter Tryd.func18, Tryd.ntmps18
                go_wp2_with fail
                refine (within_yes (m : Int) 0 4 w w1.1 w1.2).mono ?_
                rintro e w1 ⟨rfl, rfl⟩
                go_wp2_with fail
                refine (within_yes n 1 1000000 _ w2.1 w2.2).mono ?_
                rintro e w1 ⟨rfl, rfl⟩
                go_wp2_with fail
                refine (within_yes word 1 30 _ w3.1 w3.2).mono ?_
                rintro e w1 ⟨rfl, rfl⟩
                go_wp2_with fail
                refine (came_not base P mb m H ws n _ hm HG.out.1 w2 hf).mono ?_
                rintro e w4 ⟨rfl, hb⟩
                rw [HD.out]
                have B4 : Hid _ := hb
                have g4 := HG.out.1.later hb
                obtain ⟨c5, z5⟩ := g4.wait
                obtain ⟨c0, z0⟩ := g4.num hm
                rw [← EY.out] at c0
                have hlen := fun ty => g4.len ty w4 rfl
                clear hb g4
                go_wp2
                go_ret
                exact ⟨rfl, B4.out⟩
              · have h40' : (ws.length : Int) < 40 := by omega
                go_enter Tryd.func18, Tryd.ntmps18
                go_wp2_with fail
                refine (within_yes (m : Int) 0 4 w w1.1 w1.2).mono ?_
                rintro e w1 ⟨rfl, rfl⟩
                go_wp2_with fail
                refine (within_yes n 1 1000000 _ w2.1 w2.2).mono ?_
                rintro e w1 ⟨rfl, rfl⟩
                go_wp2_with fail
                refine (within_yes word 1 30 _ w3.1 w3.2).mono ?_
                rintro e w1 ⟨rfl, rfl⟩
                go_wp2_with fail
                refine (came_not base P mb m H ws n _ hm HG.out.1 w2 hf).mono ?_
                rintro e w4 ⟨rfl, hb⟩
                rw [HD.out]
                have B4 : Hid _ := hb
                have g4 := HG.out.1.later hb
                obtain ⟨c5, z5⟩ := g4.wait
                have hlen := fun ty => g4.len ty w4 rfl
                clear hb g4
                go_wp2
                go_ret
                exact ⟨rfl, B4.out⟩
      · have hc : tkC (H.getD ((m : Int)).toNat 0) ws (m : Int) n word = 1 := by
          unfold tkC
          rw [if_pos]
          simp [bad]; omega
        rw [hc, errF_no (by decide)]
        go_enter Tryd.func18, Tryd.ntmps18
        go_wp2_with fail
        refine (within_yes (m : Int) 0 4 w w1.1 w1.2).mono ?_
        rintro e w1 ⟨rfl, rfl⟩
        go_wp2_with fail
        refine (within_yes n 1 1000000 _ w2.1 w2.2).mono ?_
        rintro e w1 ⟨rfl, rfl⟩
        go_wp2_with fail
        refine (within_no word 1 30 _ (by omega)).mono ?_
        rintro e w1 ⟨rfl, rfl⟩
        go_wp2
        go_ret
        exact ⟨rfl, Below.refl _ _⟩
    · have hc : tkC (H.getD ((m : Int)).toNat 0) ws (m : Int) n word = 1 := by
        unfold tkC
        rw [if_pos]
        simp [bad]; omega
      rw [hc, errF_no (by decide)]
      go_enter Tryd.func18, Tryd.ntmps18
      go_wp2_with fail
      refine (within_yes (m : Int) 0 4 w w1.1 w1.2).mono ?_
      rintro e w1 ⟨rfl, rfl⟩
      go_wp2_with fail
      refine (within_no n 1 1000000 _ (by omega)).mono ?_
      rintro e w1 ⟨rfl, rfl⟩
      go_wp2
      go_ret
      exact ⟨rfl, Below.refl _ _⟩
  · have hc : tkC (H.getD who.toNat 0) ws who n word = 1 := by
      unfold tkC
      rw [if_pos]
      simp [bad]; omega
    rw [hc, errF_no (by decide)]
    go_enter Tryd.func18, Tryd.ntmps18
    go_wp2_with fail
    refine (within_no who 0 4 _ (by omega)).mono ?_
    rintro e w1 ⟨rfl, rfl⟩
    go_wp2
    go_ret
    exact ⟨rfl, Below.refl _ _⟩
end Go.Proofs.YtgcdbcljneoifacDoor.Fif
