/-
  The document's own picture: Way, Done.
-/
import Derived.Test.YtgcdbcljneoifajDoorPiqF
namespace Go.Proofs.YtgcdbcljneoifajDoor.Pic
open Go.RowKit
open Go.Proofs.YtgcdbcljneoifajDoor.Fif (own_lt own_block own_form own_vw ret_bool info_int new_int int_one)
open Go.Proofs.YtgcdbcljneoifajDoor.Vec (Vw)
open Go.Proofs.YtgcdbcljneoifajDoor.Off (OR)
set_option linter.unusedVariables false
variable {w : World} {base R gb gc : Nat} {g : G} {ov : Nat → Value}

theorem refWay (a b : Int) (h : RP w base R g gb gc ov) : Calls Tryd.prog 6 #[.pointer (some ⟨R, 0, none⟩), .int .i64 a, .int .i64 b] w fun x w' => x = .returned (.int .i64 (wayC g a b)) ∧ w' = w := by
  have c0 := h.c0
  obtain ⟨n, en⟩ : ∃ n, n = g.n := ⟨_, rfl⟩
  have EW : wayC g a b = if (0 ≤ a ∧ a < (n : Int)) ∧ (0 ≤ b ∧ b < (n : Int)) then (if a = b then 3 else 0) else 1 := by rw [en]; rfl
  rw [← en] at c0
  clear h en
  by_cases h1 : a < 0
  · rw [EW, if_neg (by omega)]
    go_enter Tryd.func6, Tryd.ntmps6
    go_wp2
    go_ret
    exact ⟨rfl, rfl⟩
  by_cases h2 : (n : Int) ≤ a
  · rw [EW, if_neg (by omega)]
    go_enter Tryd.func6, Tryd.ntmps6
    go_wp2
    go_ret
    exact ⟨rfl, rfl⟩
  by_cases h3 : b < 0
  · rw [EW, if_neg (by omega)]
    go_enter Tryd.func6, Tryd.ntmps6
    go_wp2
    go_ret
    exact ⟨rfl, rfl⟩
  by_cases h4 : (n : Int) ≤ b
  · rw [EW, if_neg (by omega)]
    go_enter Tryd.func6, Tryd.ntmps6
    go_wp2
    go_ret
    exact ⟨rfl, rfl⟩
  rw [EW, if_pos (by omega)]
  by_cases h5 : a = b
  · have hab : (a == b) = true := by simp [h5]
    rw [if_pos h5]
    clear EW h5
    go_enter Tryd.func6, Tryd.ntmps6
    go_wp2
    go_ret
    exact ⟨rfl, rfl⟩
  · have hab : (a == b) = false := by simp [h5]
    rw [if_neg h5]
    clear EW h5
    go_enter Tryd.func6, Tryd.ntmps6
    go_wp2
    go_ret
    exact ⟨rfl, rfl⟩
theorem refDone (h : RP w base R g gb gc ov) (h5 : g.n ≤ 5) : Calls Tryd.prog 15 #[.pointer (some ⟨R, 0, none⟩)] w fun x w' => x = .returned (.bool (doneB g)) ∧ w' = w := by
  have HR : Hid (RP w base R g gb gc ov) := h
  have c0 := h.c0
  obtain ⟨n, en⟩ : ∃ n, n = g.n := ⟨_, rfl⟩
  have EN : Hid (n = g.n) := en
  have hn : n ≤ 5 := by omega
  rw [← en] at c0
  clear h en h5
  go_enter Tryd.func15, Tryd.ntmps15
  go_wp2
  go_loopw [3, 4] (fun x y wr => ∃ i : Nat, i ≤ n ∧ x = .int .i64 (i : Int) ∧ w = wr ∧ Hid (∀ j, j < i → g.has j = true ∧ ∀ k, k < g.n → g.opn j k = false)) (fun x _ _ => n - (intOf x).toNat)
  case atStart => exact ⟨0, by omega, rfl, rfl, fun j hj => absurd hj (by omega)⟩
  case round =>
    obtain ⟨i, hin, rfl, rfl, hp⟩ := hrel
    by_cases hlt : i < n
    · have hi0 : (0 : Int) ≤ (i : Int) := by omega
      have hil : (i : Int) < (n : Int) := by omega
      have hi5 : (i : Int) < 5 := by omega
      have ch := HR.out.ch (m := i) (by omega)
      cases hcm : g.has i
      · rw [hcm] at ch
        have HC : Hid (g.has i = false) := hcm
        clear hcm
        go_wp2
        go_ret
        refine ⟨?_, rfl⟩
        have e : doneB g = false := decide_eq_false fun z => by
          have q := (z i (by rw [← EN.out]; exact hlt)).1
          rw [HC.out] at q
          cases q
        rw [e]
        rfl
      · rw [hcm] at ch
        have HC : Hid (g.has i = true) := hcm
        clear hcm
        go_wp2
        go_loopw [4] (fun y wr => ∃ k : Nat, k ≤ n ∧ y = .int .i64 (k : Int) ∧ w = wr ∧ Hid (∀ j, j < k → g.opn i j = false)) (fun y _ => n - (intOf y).toNat)
        case atStart => exact ⟨0, by omega, rfl, rfl, fun j hj => absurd hj (by omega)⟩
        case round =>
          obtain ⟨k, hkn, rfl, rfl, hq⟩ := hrel
          by_cases hltk : k < n
          · have hk0 : (0 : Int) ≤ (k : Int) := by omega
            have hkl : (k : Int) < (n : Int) := by omega
            have hk5 : (k : Int) < 5 := by omega
            have co := HR.out.co (a := i) (c := k) (by omega) (by omega)
            cases hcm : g.opn i k
            · rw [hcm] at co
              have HK : Hid (g.opn i k = false) := hcm
              clear hcm
              go_wp2
              go_roundw
              case rel => exact ⟨k + 1, by omega, by go_num, by first | rfl | trivial, fun j hj => if e : j < k then hq.out j e else by rw [show j = k by omega]; exact HK.out⟩
              case measure => simp [intOf]; omega
            · rw [hcm] at co
              have HK : Hid (g.opn i k = true) := hcm
              clear hcm
              go_wp2
              go_ret
              refine ⟨?_, rfl⟩
              have e : doneB g = false := decide_eq_false fun z => by
                have q := (z i (by rw [← EN.out]; exact hlt)).2 k (by rw [← EN.out]; exact hltk)
                rw [HK.out] at q
                cases q
              rw [e]
              rfl
          · have hke : k = n := by omega
            have hkl : ¬ (k : Int) < (n : Int) := by omega
            go_wp2
            go_roundw
            case rel => exact ⟨i + 1, by omega, by go_num, by first | rfl | trivial, fun j hj => if e : j < i then hp.out j e else by
              rw [show j = i by omega]
              exact ⟨HC.out, fun k2 z => hq.out k2 (by rw [hke, EN.out]; exact z)⟩⟩
            case measure => simp [intOf]; omega
    · have hie : i = n := by omega
      have hil : ¬ (i : Int) < (n : Int) := by omega
      go_wp2
      go_ret
      refine ⟨?_, rfl⟩
      have e : doneB g = true := decide_eq_true fun j hj => hp.out j (by rw [hie, EN.out]; exact hj)
      rw [e]
      rfl
end Go.Proofs.YtgcdbcljneoifajDoor.Pic
