/-
  Contracts of package cause's small functions: isMember, isWord, placeOf, isReady.
-/
import Derived.Test.YtndjejbnappmeadDoorCapM
import Derived.Test.YtndjejbnappmeadDoorVecB
import Derived.WalkLawsBesides
import Derived.Deep.QuietTactic
import Derived.BigQuiet
import Derived.Deep.RegionHeld3
import Derived.Handy
namespace Go.Proofs.YtndjejbnappmeadDoor.Cap
open Go.RowKit Go.Maps
open Go.Proofs.YtndjejbnappmeadDoor.Cau
open Go.Proofs.YtndjejbnappmeadDoor.Vec (code Vw anyP ret_bool)
open Go.Proofs.YtndjejbnappmeadDoor.Fif (own_lt own_block own_mono own_vw Kp)
set_option linter.unusedVariables false

theorem member_yes (x : Int) (w : World) (h1 : 0 ≤ x) (h2 : x ≤ 4) : Calls Tryd.prog 15 #[.int .i64 x] w fun e w' => e = .returned (.bool true) ∧ w' = w := by
  go_enter Tryd.func15, Tryd.ntmps15
  go_wp2
  go_ret
  exact ⟨ret_bool (decide_eq_true (by omega)), rfl⟩
theorem member_no (x : Int) (w : World) (h : x < 0 ∨ 4 < x) : Calls Tryd.prog 15 #[.int .i64 x] w fun e w' => e = .returned (.bool false) ∧ w' = w := by
  by_cases h1 : 0 ≤ x
  · have h2 : ¬ x ≤ 4 := by omega
    have h3 : ¬ x < 4 + 1 := by omega
    go_enter Tryd.func15, Tryd.ntmps15
    go_wp2
    go_ret
    exact ⟨ret_bool (decide_eq_false (by omega)), rfl⟩
  · go_enter Tryd.func15, Tryd.ntmps15
    go_wp2
    go_ret
    exact ⟨rfl, rfl⟩
theorem word_yes (x : Int) (w : World) (h1 : 1 ≤ x) (h2 : x ≤ 30) : Calls Tryd.prog 17 #[.int .i64 x] w fun e w' => e = .returned (.bool true) ∧ w' = w := by
  go_enter Tryd.func17, Tryd.ntmps17
  go_wp2
  go_ret
  exact ⟨rfl, rfl⟩
theorem word_no (x : Int) (w : World) (h : x < 1 ∨ 30 < x) : Calls Tryd.prog 17 #[.int .i64 x] w fun e w' => e = .returned (.bool false) ∧ w' = w := by
  by_cases h1 : 1 ≤ x
  · have h2 : ¬ x ≤ 30 := by omega
    have h3 : ¬ x < 30 + 1 := by omega
    go_enter Tryd.func17, Tryd.ntmps17
    go_wp2
    go_ret
    exact ⟨rfl, rfl⟩
  · go_enter Tryd.func17, Tryd.ntmps17
    go_wp2
    go_ret
    exact ⟨rfl, rfl⟩

theorem unheard1 (b off cap B B' P k : Nat) (x y : Int) (w : World) (hk : k < 5) (hv : w.cell? ⟨B, 2, none⟩ = some (.slice (some ⟨b, off, none⟩) 5 cap))
    (hv' : w.cell? ⟨B', 0, none⟩ = some (.pointer (some ⟨P, 0, none⟩)))
    (hc : w.cell? ⟨b, off + k, none⟩ = some (.int .i64 x)) (hc' : w.cell? ⟨P, 1 + k, none⟩ = some (.int .i64 y)) :
    Calls Tryd.prog 28 #[.int .i64 k, .pointer (some ⟨B, 0, none⟩), .pointer (some ⟨B', 0, none⟩)] w fun e w' => e = .returned (.bool (decide (y < x))) ∧ ∃ m, w' = w.drewN m := by
  have hk0 : (0 : Int) ≤ (k : Int) := by omega
  have hk5 : (k : Int) < 5 := by omega
  go_enter Tryd.func28, Tryd.ntmps28
  go_wp2
  go_quiet (fail)
  go_wp2
  go_ret
  exact ⟨rfl, _, rfl⟩

theorem other_any (p : Nat → Bool) (m B B' : Nat) (w : World) (hm : m < 5)
    (h : Hid (∀ k : Nat, k < 5 → ∀ n, Calls Tryd.prog 28 #[.int .i64 k, .pointer (some ⟨B, 0, none⟩), .pointer (some ⟨B', 0, none⟩)] (w.drewN n) fun e w' => e = .returned (.bool (p k)) ∧ ∃ m, w' = w.drewN m)) :
    Calls Tryd.prog 29 #[.int .i64 (m : Int), .func (.func 28) #[] #[.pointer (some ⟨B, 0, none⟩), .pointer (some ⟨B', 0, none⟩)]] w fun e w' => e = .returned (.bool (anyO m p)) ∧ ∃ m, w' = w.drewN m := by
  go_enter Tryd.func29, Tryd.ntmps29
  go_wp2
  go_loopw [6] (fun i wr => ∃ k : Nat, k ≤ 5 ∧ i = .int .i64 k ∧ (∃ n, wr = w.drewN n) ∧ Hid (∀ j, j < k → (decide (j ≠ m) && p j) = false)) (fun i _ => 5 - (intOf i).toNat)
  case atStart => exact ⟨0, by omega, rfl, ⟨0, rfl⟩, fun j hj => absurd hj (by omega)⟩
  case round =>
    obtain ⟨k, hk, rfl, ⟨n, rfl⟩, hp⟩ := hrel
    by_cases hlt : k < 5
    · by_cases hkm : k = m
      · subst hkm
        have hne : ((k : Int) != (k : Int)) = false := by simp
        go_wp2
        go_roundw
        case rel => exact ⟨k + 1, by omega, by go_num, ⟨_, rfl⟩, fun j hj => if e : j < k then hp.out j e else by rw [show j = k by omega]; simp⟩
        case measure => simp [intOf]; omega
      · have hne : ((k : Int) != (m : Int)) = true := by rw [bne_iff_ne]; omega
        cases hb : p k
        · go_wp2_with (go_at_call 28; refine (h.out k hlt _).mono ?_; rintro e w' ⟨rfl, q, rfl⟩)
          go_roundw
          case rel => exact ⟨k + 1, by omega, by go_num, ⟨_, rfl⟩, fun j hj => if e : j < k then hp.out j e else by rw [show j = k by omega, hb]; simp⟩
          case measure => simp [intOf]; omega
        · go_wp2_with (go_at_call 28; refine (h.out k hlt _).mono ?_; rintro e w' ⟨rfl, q, rfl⟩)
          go_ret
          exact ⟨ret_bool (Vec.anyP_true (p := fun k => decide (k ≠ m) && p k) hlt (by simp [hkm, hb])).symm, _, rfl⟩
    · go_wp2
      go_ret
      exact ⟨ret_bool (Vec.anyP_false (p := fun k => decide (k ≠ m) && p k) fun j hj => hp.out j (by omega)).symm, _, rfl⟩

/-- the five numbers of a member -/
def K5 (w : World) (P : Nat) (K : List Int) : Prop := P < w.heap.size ∧ (∀ j, j < 5 → w.cell? ⟨P, 1 + j, none⟩ = some (.int .i64 (K.getD j 0))) ∧ ∀ j, j < 5 → 0 ≤ K.getD j 0 ∧ K.getD j 0 ≤ 1000000
theorem K5.later {w w' : World} {P : Nat} {K : List Int} (h : K5 w P K) (hb : Below w.heap.size w w') : K5 w' P K :=
  ⟨Nat.lt_of_lt_of_le h.1 hb.size, fun j hj => (hb.cell (p := ⟨P, 1 + j, none⟩) h.1).trans (h.2.1 j hj), h.2.2⟩
theorem CF.k5 {w : World} {base P mb : Nat} {me : Int} {K : List Int} {cn : Int} {es : List En} (g : CF w base P mb me K cn es) : K5 w P K := ⟨g.lt.1, fun j hj => (g.clock hj).1, g.num⟩
set_option maxRecDepth 100000 in
theorem ready_any (P m g off cap : Nat) (K clk : List Int) (word : Int) (w : World) (hm : m < 5) (hK : K5 w P K) (hv : Vw w (some ⟨g, off, none⟩) 5 clk) :
    Calls Tryd.prog 23 #[.pointer (some ⟨P, 0, none⟩), .agg #[.int .i64 (m : Int), .int .i64 word, .slice (some ⟨g, off, none⟩) 5 cap]] w fun e w' => e = .returned (.bool (rdy K ((m : Int), word, clk))) ∧ Below w.heap.size w w' := by
  obtain ⟨b, o, e, hlt, hc⟩ := hv.2 (by omega)
  cases e
  obtain ⟨W, eW⟩ : ∃ W, W = (w.alloc (.cells #[.pointer (some ⟨P, 0, none⟩)] 24)).alloc (.cells #[.int .i64 (m : Int), .int .i64 word, .slice (some ⟨g, off, none⟩) 5 cap] 35) := ⟨_, rfl⟩
  have BW : Hid (Below w.heap.size w W) := by rw [eW]; exact ((Below.refl _ _).alloc (Nat.le_refl _) _).alloc (by simp) _
  have b0 : W.cell? ⟨w.heap.size, 0, none⟩ = some (.pointer (some ⟨P, 0, none⟩)) := by rw [eW]; go_cell
  have s0 : W.cell? ⟨w.heap.size + 1, 0, none⟩ = some (.int .i64 (m : Int)) := by rw [eW]; go_cell
  have s2 : W.cell? ⟨w.heap.size + 1, 2, none⟩ = some (.slice (some ⟨g, off, none⟩) 5 cap) := by rw [eW]; go_cell
  have K1 := hK.later BW.out
  have hc1 : ∀ k, k < 5 → W.cell? ⟨g, off + k, none⟩ = some (.int .i64 (clk.getD k 0)) := fun k hk => (BW.out.cell (p := ⟨g, off + k, none⟩) hlt).trans (hc k hk)
  have H : ∀ n0, Hid (∀ k : Nat, k < 5 → ∀ n, Calls Tryd.prog 28 #[.int .i64 k, .pointer (some ⟨w.heap.size + 1, 0, none⟩), .pointer (some ⟨w.heap.size, 0, none⟩)] ((W.drewN n0).drewN n) fun e w' => e = .returned (.bool ((fun k => decide (K.getD k 0 < clk.getD k 0)) k)) ∧ ∃ m, w' = (W.drewN n0).drewN m) := by
    intro n0 k hk n
    refine (unheard1 g off cap (w.heap.size + 1) w.heap.size P k (clk.getD k 0) (K.getD k 0) ((W.drewN n0).drewN n) hk s2 b0 (hc1 k hk) (K1.2.1 k hk)).mono ?_
    rintro e w' ⟨rfl, j, rfl⟩
    exact ⟨rfl, n + j, by rw [World.drewN_drewN]⟩
  have cm := hc1 m hm
  have km := K1.2.1 m hm
  have kn := K1.2.2 m hm
  obtain ⟨x, ex⟩ : ∃ x, x = clk.getD m 0 := ⟨_, rfl⟩
  obtain ⟨y, ey⟩ : ∃ y, y = K.getD m 0 := ⟨_, rfl⟩
  rw [rdy_split hm]
  rw [← ex] at cm ⊢
  rw [← ey] at km kn ⊢
  have hm0 : (0 : Int) ≤ (m : Int) := by omega
  have hm5 : (m : Int) < 5 := by omega
  have EW : Hid (W = (w.alloc (.cells #[.pointer (some ⟨P, 0, none⟩)] 24)).alloc (.cells #[.int .i64 (m : Int), .int .i64 word, .slice (some ⟨g, off, none⟩) 5 cap] 35)) := eW
  have hy : y + 1 ≤ 1000001 := by omega
  clear hc hc1 hK K1 hv ex ey
  by_cases h : x = y + 1
  · have hq : (x == y + 1) = true := by simp [h]
    clear eW
    go_enter Tryd.func23, Tryd.ntmps23
    go_wp2
    rw [← EW.out]
    go_quiet (first | (go_at_call 29; exact Calls.quiet_of (other_any (fun k => decide (K.getD k 0 < clk.getD k 0)) m _ _ (W.drewN _) hm (H _))))
    go_wp2
    go_ret
    exact ⟨ret_bool (by simp [h]), below_drews BW.out _⟩
  · have hq : (x == y + 1) = false := by simp [h]
    clear eW
    go_enter Tryd.func23, Tryd.ntmps23
    go_wp2
    rw [← EW.out]
    go_quiet (fail)
    go_wp2
    go_ret
    exact ⟨ret_bool (by simp [h]), below_drews BW.out _⟩
end Go.Proofs.YtndjejbnappmeadDoor.Cap
