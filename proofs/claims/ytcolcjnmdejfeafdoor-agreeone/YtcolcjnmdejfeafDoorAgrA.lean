/-
  alike: of each two members what one heard is the beginning of what the other one heard.
-/
import Derived.Test.YtcolcjnmdejfeafDoorAgrP
namespace Go.Proofs.YtcolcjnmdejfeafDoor.Agr
open Go.RowKit
open Go.Proofs.YtcolcjnmdejfeafDoor.Fif (ret_bool)
open Go.Proofs.YtcolcjnmdejfeafDoor.Sep (KpL NewL)
set_option linter.unusedVariables false

theorem hd_in {g : G} {m : Nat} (h : m < g.n) : hdC g (m : Int) = 0 ∧ hdL g (m : Int) = g.hd m := by
  have e : hdC g (m : Int) = 0 := if_neg (by omega)
  exact ⟨e, if_pos e⟩
set_option maxRecDepth 100000 in
set_option maxHeartbeats 1000000 in
theorem alike_any (base P n : Nat) (g : G) (fp : List Nat) (w : World) (h : AS w base P g fp) (hi : Inv g) (hM : ∀ m, g.most m ≤ 10000) (hn : n = g.n) : Calls Tryd.prog 20 #[.pointer (some ⟨P, 0, none⟩), .int .i64 (n : Int)] w fun x w' => x = .returned (.bool true) ∧ Below w.heap.size w w' := by
  have HH : Hid (AS w base P g fp ∧ Inv g ∧ (∀ m, g.most m ≤ 10000) ∧ n = g.n) := ⟨h, hi, hM, hn⟩
  have hn5 : n ≤ 5 := by rw [hn]; exact hi.five
  clear h hi hM hn
  go_enter Tryd.func20, Tryd.ntmps20
  go_wp2
  go_loopw [5] (fun x wr => ∃ m : Nat, 1 ≤ m ∧ m ≤ 6 ∧ x = .int .i64 (m : Int) ∧ Hid (Below w.heap.size w wr)) (fun x _ => 6 - (intOf x).toNat)
  case atStart => exact ⟨1, by omega, by omega, rfl, Below.refl _ _⟩
  case round =>
    obtain ⟨m, hm1, hm6, rfl, hB⟩ := hrel
    obtain ⟨wo, ewo⟩ : ∃ wo, wo = wr := ⟨_, rfl⟩
    subst ewo
    by_cases hlt : (m : Int) < (n : Int)
    · go_wp2
      go_loopw [6] (fun x wr => ∃ k : Nat, k ≤ m ∧ x = .int .i64 (k : Int) ∧ Hid (Below w.heap.size w wr)) (fun x _ => m - (intOf x).toNat)
      case atStart => exact ⟨0, by omega, rfl, hB.out⟩
      case round =>
        obtain ⟨k, hk, rfl, hB1⟩ := hrel
        by_cases hlt2 : (k : Int) < (m : Int)
        · have e1 : Hid (hdC g (m : Int) = 0 ∧ hdL g (m : Int) = g.hd m) := hd_in (by rw [← HH.out.2.2.2]; omega)
          have e2 : Hid (hdC g (k : Int) = 0 ∧ hdL g (k : Int) = g.hd k) := hd_in (by rw [← HH.out.2.2.2]; omega)
          have A1 : Hid (AS wr base P g fp) := HH.out.1.of_blocks hB1.out.size fun b hb => hB1.out.block b (HH.out.1.fp b hb).2
          go_wp2_with fail
          refine (hdA base P g fp (m : Int) wr A1.out HH.out.2.1 HH.out.2.2.1).mono ?_
          rintro e w1 ⟨x1, rfl, hs1, hb1⟩
          rw [e1.out.1, errF_ok]
          rw [e1.out.2] at hs1
          have S1 : Hid (Sl w1 x1 (g.hd m) ∧ Below wr.heap.size wr w1) := ⟨hs1, hb1⟩
          have A2 : Hid (AS w1 base P g fp) := A1.out.of_blocks hb1.size fun b hb => hb1.block b (A1.out.fp b hb).2
          clear hs1 hb1
          go_wp2_with fail
          refine (hdA base P g fp (k : Int) w1 A2.out HH.out.2.1 HH.out.2.2.1).mono ?_
          rintro e w2 ⟨x2, rfl, hs2, hb2⟩
          rw [e2.out.1, errF_ok]
          rw [e2.out.2] at hs2
          have S2 : Hid (Sl w2 x1 (g.hd m) ∧ Sl w2 x2 (g.hd k) ∧ Below wr.heap.size wr w2) := ⟨S1.out.1.later hb2, hs2, S1.out.2.trans (hb2.mono S1.out.2.size)⟩
          clear hs2 hb2
          go_wp2_with fail
          refine (begins_any S2.out.1 S2.out.2.1).mono ?_
          rintro e w3 ⟨rfl, hb3⟩
          have S3 : Hid (Sl w3 x1 (g.hd m) ∧ Sl w3 x2 (g.hd k) ∧ Below wr.heap.size wr w3) := ⟨S2.out.1.later hb3, S2.out.2.1.later hb3, S2.out.2.2.trans (hb3.mono S2.out.2.2.size)⟩
          clear hb3
          go_wp2_with fail
          refine (begins_any S3.out.2.1 S3.out.1).mono ?_
          rintro e w4 ⟨rfl, hb4⟩
          have S4 : Hid (Below w.heap.size w w4) := hB1.out.trans ((S3.out.2.2.trans (hb4.mono S3.out.2.2.size)).mono hB1.out.size)
          clear hb4
          have key := HH.out.2.1.alike m k
          obtain ⟨p, ep⟩ : ∃ p, p = decide (g.hd m <+: g.hd k) := ⟨_, rfl⟩
          obtain ⟨q, eq⟩ : ∃ q, q = decide (g.hd k <+: g.hd m) := ⟨_, rfl⟩
          rw [← ep, ← eq]
          have hpq : p = true ∨ q = true := by
            rcases key with z | z
            · exact .inl (by rw [ep]; exact decide_eq_true z)
            · exact .inr (by rw [eq]; exact decide_eq_true z)
          clear ep eq key
          cases p
          · have hq : q = true := hpq.resolve_left (by decide)
            subst hq
            clear hpq
            go_wp2
            go_roundw
            case rel => exact ⟨k + 1, by omega, by go_num, S4.out⟩
            case measure => simp [intOf]; omega
          · clear hpq
            go_wp2
            go_roundw
            case rel => exact ⟨k + 1, by omega, by go_num, S4.out⟩
            case measure => simp [intOf]; omega
        · go_wp2
          go_roundw
          case rel => exact ⟨m + 1, by omega, by omega, by go_num, hB1.out⟩
          case measure => simp [intOf]; omega
    · go_wp2
      go_ret
      exact ⟨rfl, hB.out⟩
end Go.Proofs.YtcolcjnmdejfeafDoor.Agr
