/-
  PicturePlays where there is no such group.
-/
import Derived.Test.YtgcdbcljneoifajDoorPipZ
import Derived.Test.YtgcdbcljneoifajDoorPicD
import Derived.Deep.CutBlock
import Derived.Deep.CutRange
namespace Go.Proofs.YtgcdbcljneoifajDoor.Pic
open Go.RowKit
open Go.Proofs.YtgcdbcljneoifajDoor.As (Laid)
open Go.Proofs.YtgcdbcljneoifajDoor.Fif (own_lt own_block own_form own_vw ret_bool info_int new_int int_one)
open Go.Proofs.YtgcdbcljneoifajDoor.Vec (Vw Rw)
open Go.Proofs.YtgcdbcljneoifajDoor.Sep (KpL NewL)
open Go.Proofs.YtgcdbcljneoifajDoor.Ldr (errF errF_ok errF_no errF_same Sl same_any)
open Go.Proofs.YtgcdbcljneoifajDoor.Off (OR step_append_off)
set_option linter.unusedVariables false

set_option maxRecDepth 100000 in
set_option maxHeartbeats 4000000 in
theorem plays_bad (q : Option Addr) (len cap : Nat) (l : List Int) (a : Option Addr) (len' cap' : Nat) (w : World) (hL : Laid w) (hs : Sl w (.slice q len cap) l) (hc : newC l ≠ 0) : Calls Tryd.prog 3 #[.slice q len cap, .slice a len' cap'] w fun e w' => e = .returned (.bool true) ∧ Below w.heap.size w w' := by
  obtain ⟨hl, hv, -, -⟩ := sl_vwP hs
  have HS : Hid (Sl w (.slice q len cap) l ∧ newC l ≠ 0 ∧ Laid w ∧ len = l.length ∧ Vw w q len l ∧ newC l = 1) := ⟨hs, hc, hL, hl, hv, newC_one hc⟩
  clear hs hc hL hl hv
  by_cases h25 : (2 : Int) ≤ (len : Int) ∧ (len : Int) ≤ 5
  · have d1 : ¬ (len : Int) < 2 := by omega
    have d2 : ¬ (len : Int) > 5 := by omega
    have H25 : Hid (2 ≤ l.length ∧ l.length ≤ 5) := by have := HS.out.2.2.2.1; exact ⟨by omega, by omega⟩
    have h5 : len ≤ 5 := by omega
    clear h25
    go_enter Tryd.func3, Tryd.ntmps3
    go_upto_block 0 with fail
    go_cut [5, 6] from 39 to 60 (fun x5 x6 wc => x5 = .int .i64 1 ∧ w = wc)
    case first =>
      go_wp2_with fail
      go_loopw [5, 6] (fun x5 x6 wr => ∃ (i : Nat) (e : Int), i ≤ len ∧ x6 = .int .i64 (i : Int) ∧ x5 = .int .i64 e ∧ w = wr ∧ Hid (lookC l i e)) (fun _ x6 _ => len - (intOf x6).toNat)
      case atStart => exact ⟨0, 0, by omega, rfl, rfl, rfl, .inl ⟨rfl, fun j hj => absurd hj (by omega)⟩⟩
      case round =>
        obtain ⟨i, e, hi, rfl, rfl, rfl, hp⟩ := hrel
        by_cases he : e = 1
        · subst he
          rcases (show (i : Int) < (len : Int) ∨ ¬ (i : Int) < (len : Int) by omega) with hlt | hlt
          all_goals
            go_wp2
            go_meet
            exact ⟨rfl, by first | rfl | trivial⟩
        · have he0 : e = 0 := by
            rcases hp.out with ⟨h, -⟩ | ⟨h, -⟩
            · exact h
            · exact absurd h he
          subst he0
          by_cases hlt : i < len
          · have hlt' : (i : Int) < (len : Int) := by omega
            obtain ⟨b, off, rfl, hpb, hcs⟩ := HS.out.2.2.2.2.1.2 (by omega)
            have c0 := hcs i hlt
            obtain ⟨y, ey⟩ : ∃ y, y = l.getD i 0 := ⟨_, rfl⟩
            rw [← ey] at c0
            have EY : Hid (y = l.getD i 0) := ey
            have hi0 : (0 : Int) ≤ (i : Int) := by omega
            clear hcs ey hpb he
            have bad : Hid (y < 0 ∨ 1000 < y → lookC l (i + 1) 1) := fun z => .inr ⟨rfl, i, by have := HS.out.2.2.2.1; omega, by rw [← EY.out]; exact z⟩
            by_cases q1 : y < 0
            · have N1 : Hid (lookC l (i + 1) 1) := bad.out (.inl q1)
              go_wp2
              go_roundw
              case rel => exact ⟨i + 1, 1, by omega, by go_num, rfl, by first | rfl | trivial, N1⟩
              case measure => simp [intOf]; omega
            · by_cases q2 : y > 1000
              · have N1 : Hid (lookC l (i + 1) 1) := bad.out (.inr q2)
                go_wp2
                go_roundw
                case rel => exact ⟨i + 1, 1, by omega, by go_num, rfl, by first | rfl | trivial, N1⟩
                case measure => simp [intOf]; omega
              · have N1 : Hid (lookC l (i + 1) 0) := by
                  rcases hp.out with ⟨-, h⟩ | ⟨h, -⟩
                  · refine .inl ⟨rfl, fun j hj => ?_⟩
                    by_cases e : j = i
                    · rw [e, ← EY.out]; omega
                    · exact h j (by omega)
                  · cases h
                go_wp2
                go_roundw
                case rel => exact ⟨i + 1, 0, by omega, by go_num, rfl, by first | rfl | trivial, N1⟩
                case measure => simp [intOf]; omega
          · exact absurd (lookC_end H25.out hp.out (.inl (by have := HS.out.2.2.2.1; omega))).symm (by rw [HS.out.2.2.2.2.2]; decide)
    case rest =>
      obtain ⟨rfl, rfl⟩ := hcut
      go_wp2_with fail
      refine (newG_no l q len cap w HS.out.1 HS.out.2.1).mono ?_
      rintro e w1 ⟨rfl, hb⟩
      have B1 : Hid (Below w.heap.size w w1) := hb
      clear hb
      go_wp2_with fail
      refine (errF_same 1 w1 (HS.out.2.2.1.later B1.out)).mono ?_
      rintro e w2 ⟨rfl, hb⟩
      have B2 : Hid (Below w.heap.size w w2) := B1.out.trans (hb.mono B1.out.size)
      clear hb
      go_wp2
      go_ret
      exact ⟨rfl, B2.out⟩
  · rcases (show (len : Int) < 2 ∧ (0 : Int) < (len : Int) ∨ (len : Int) < 2 ∧ ¬ (0 : Int) < (len : Int) ∨ (¬ (len : Int) < 2 ∧ (len : Int) > 5) ∧ (0 : Int) < (len : Int) by omega) with ⟨d1, d3⟩ | ⟨d1, d3⟩ | ⟨⟨d1, d2⟩, d3⟩
    all_goals
      clear h25
      go_enter Tryd.func3, Tryd.ntmps3
      go_upto_block 0 with fail
      go_cut [5, 6] from 39 to 60 (fun x5 x6 wc => x5 = .int .i64 1 ∧ w = wc)
      case first =>
        go_wp2_with fail
        go_loopw [5, 6] (fun x5 x6 wr => x6 = .int .i64 0 ∧ x5 = .int .i64 1 ∧ w = wr) (fun _ x6 _ => 0)
        case atStart => exact ⟨rfl, rfl, rfl⟩
        case round =>
          obtain ⟨rfl, rfl, rfl⟩ := hrel
          go_wp2
          go_meet
          exact ⟨rfl, by first | rfl | trivial⟩
      case rest =>
        obtain ⟨rfl, rfl⟩ := hcut
        go_wp2_with fail
        refine (newG_no l q len cap w HS.out.1 HS.out.2.1).mono ?_
        rintro e w1 ⟨rfl, hb⟩
        have B1 : Hid (Below w.heap.size w w1) := hb
        clear hb
        go_wp2_with fail
        refine (errF_same 1 w1 (HS.out.2.2.1.later B1.out)).mono ?_
        rintro e w2 ⟨rfl, hb⟩
        have B2 : Hid (Below w.heap.size w w2) := B1.out.trans (hb.mono B1.out.size)
        clear hb
        go_wp2
        go_ret
        exact ⟨rfl, B2.out⟩
end Go.Proofs.YtgcdbcljneoifajDoor.Pic
