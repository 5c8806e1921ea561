/-
  What is wrong with a word; the sum; Pack.
-/
import Derived.Test.YtolnfipdhkbkjajDoorWirE
namespace Go.Proofs.YtolnfipdhkbkjajDoor.Wir
open Go.RowKit
open Go.Proofs.YtolnfipdhkbkjajDoor.Fif (own_lt own_block own_form own_mono own_vw Kp ret_bool)
open Go.Proofs.YtolnfipdhkbkjajDoor.Vec (Vw code)
open Go.Proofs.YtolnfipdhkbkjajDoor.Cau (Sd sdBad)
set_option linter.unusedVariables false

set_option maxRecDepth 100000 in
theorem check_any (x y : Int) (l : List Int) (u : Value) (w : World) (hv : Sl w u l) : Calls Tryd.prog 40 #[.agg #[.int .i64 x, .int .i64 y, u]] w fun e w' => e = .returned (errF (packC (x, y, l))) ∧ Below w.heap.size w w' := by
  have HB : Hid (Below w.heap.size w (w.alloc (.cells #[.int .i64 x, .int .i64 y, u] 59))) := (Below.refl _ _).alloc (Nat.le_refl _) _
  have bad : sdBad (x, y, l) = true → packC (x, y, l) = 1 := fun h => if_pos h
  obtain ⟨q, c, rfl, _, _, hv⟩ := hv
  cases d1 : decide (x < 0)
  · cases d2 : decide (x ≥ 5)
    · cases d3 : decide (y < 1)
      · cases d4 : decide (y > 30)
        · have e : packC (x, y, l) = code l := if_neg (by simp at d1 d2 d3 d4; simp [sdBad]; omega)
          rw [e]
          have V : Hid (Vw w q l.length l) := hv
          clear e bad hv
          go_enter Tryd.func40, Tryd.ntmps40
          by_cases hc : code l = 0
          · go_wp2_with (refine (Vec.check_ok q l.length c l _ (V.out.later HB.out) hc).mono ?_)
            rintro e w1 ⟨rfl, hb⟩
            have B1 : Hid (Below w.heap.size w w1) := HB.out.trans (hb.mono HB.out.size)
            clear hb
            go_wp2
            go_ret
            exact ⟨by rw [hc]; rfl, B1.out⟩
          · go_wp2_with (refine (Vec.check_no q l.length c l _ (V.out.later HB.out) hc).mono ?_)
            rintro e w1 ⟨rfl, hb⟩
            have B1 : Hid (Below w.heap.size w w1) := HB.out.trans (hb.mono HB.out.size)
            clear hb
            go_wp2
            go_ret
            exact ⟨by rw [errF_no hc]; rfl, B1.out⟩
        · have e := bad (by simp at d4; simp [sdBad]; omega)
          rw [e]
          clear e bad hv
          go_enter Tryd.func40, Tryd.ntmps40
          go_wp2
          go_ret
          exact ⟨rfl, HB.out⟩
      · have e := bad (by simp at d3; simp [sdBad]; omega)
        rw [e]
        clear e bad hv
        go_enter Tryd.func40, Tryd.ntmps40
        go_wp2
        go_ret
        exact ⟨rfl, HB.out⟩
    · have e := bad (by simp at d2; simp [sdBad]; omega)
      rw [e]
      clear e bad hv
      go_enter Tryd.func40, Tryd.ntmps40
      go_wp2
      go_ret
      exact ⟨rfl, HB.out⟩
  · have e := bad (by simp at d1; simp [sdBad]; omega)
    rw [e]
    clear e bad hv
    go_enter Tryd.func40, Tryd.ntmps40
    go_wp2
    go_ret
    exact ⟨rfl, HB.out⟩
set_option maxRecDepth 100000 in
theorem sum_any (base : Nat) (v : Value) (l : List Int) (w : World) (h : Bo w base v (txt l)) (hb : Byt l) (hl : l.length ≤ 1000) : Calls Tryd.prog 41 #[v] w fun e w' => e = .returned (.int .u8 (tot l)) ∧ w' = w := by
  obtain ⟨q, c, rfl, hq⟩ := h.form
  rw [txt_size] at hq ⊢
  have HQ : Hid (Byt l ∧ ∀ i, i < l.length → ∃ g, q = some ⟨g, 0, none⟩ ∧ w.cell? ⟨g, i, none⟩ = some (.int .u8 (l.getD i 0))) := ⟨hb, fun i hi => by
    obtain ⟨g, e1, _, _, e2⟩ := hq (by omega)
    have e3 := e2 i hi
    rw [bt_txt hb hi] at e3
    exact ⟨g, e1, e3⟩⟩
  obtain ⟨n, en⟩ : ∃ n, n = l.length := ⟨_, rfl⟩
  have EN : Hid (n = l.length) := en
  rw [← en] at hl ⊢
  clear h hb hq en
  go_enter Tryd.func41, Tryd.ntmps41
  go_wp2
  go_loopw [3, 8] (fun y x wr => ∃ i : Nat, i ≤ n ∧ x = .int .i64 (i : Int) ∧ y = .int .u8 (tot (l.take i)) ∧ w = wr) (fun _ x _ => n - (intOf x).toNat)
  case atStart => exact ⟨0, by omega, rfl, rfl, rfl⟩
  case round =>
    obtain ⟨i, hin, rfl, rfl, rfl⟩ := hrel
    by_cases hlt : i < n
    · have hi0 : (0 : Int) ≤ (i : Int) := by omega
      have hin' : (i : Int) < (n : Int) := by omega
      obtain ⟨g, rfl, hc⟩ := HQ.out.2 i (by rw [← EN.out]; exact hlt)
      obtain ⟨b, eb⟩ : ∃ b, b = l.getD i 0 := ⟨_, rfl⟩
      rw [← eb] at hc
      obtain ⟨a, ea⟩ : ∃ a, a = tot (l.take i) := ⟨_, rfl⟩
      have EA : Hid (a = tot (l.take i) ∧ b = l.getD i 0) := ⟨ea, eb⟩
      rw [← ea]
      clear ea eb
      go_wp2
      go_roundw
      case rel =>
        refine ⟨i + 1, by omega, by go_num, ?_, trivial⟩
        have hl : i < l.length := by rw [← EN.out]; exact hlt
        have e1 : l.take (i + 1) = l.take i ++ [l.getD i 0] := by
          rw [List.take_succ_eq_append_getElem hl]
          simp [List.getD, hl]
        rw [e1, tot_snoc, ← EA.out.1, ← EA.out.2]
      case measure => simp [intOf]; omega
    · have hi : i = n := by omega
      subst hi
      go_wp2
      go_ret
      refine ⟨?_, rfl⟩
      rw [EN.out, List.take_length]
      rfl
end Go.Proofs.YtolnfipdhkbkjajDoor.Wir
