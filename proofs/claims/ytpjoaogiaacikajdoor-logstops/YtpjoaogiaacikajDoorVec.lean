/-
  Contracts of package vector's Check, checkBoth, anyGreater, Leq and Apart, for whatever two lists of numbers: what each returns, and that nothing that was there is written.
-/
import Derived.Test.YtpjoaogiaacikajDoorRows
import Derived.WalkKit
import Derived.WalkSmall
import Derived.Deep.QuietTactic
import Derived.BigQuiet
namespace Go.Proofs.YtpjoaogiaacikajDoor.Vec
open Go.RowKit

def out (x : Int) : Bool := decide (x < 0) || decide (1000000 < x)
def anyP (p : Nat → Bool) : Bool := p 0 || p 1 || p 2 || p 3 || p 4

theorem anyP_true {p : Nat → Bool} {k : Nat} (hk : k < 5) (h : p k = true) : anyP p = true := by
  unfold anyP
  match k, hk with
  | 0, _ => simp [h]
  | 1, _ => simp [h]
  | 2, _ => simp [h]
  | 3, _ => simp [h]
  | 4, _ => simp [h]
theorem anyP_false {p : Nat → Bool} (h : ∀ j, j < 5 → p j = false) : anyP p = false := by
  unfold anyP; simp [h 0 (by omega), h 1 (by omega), h 2 (by omega), h 3 (by omega), h 4 (by omega)]

theorem ret_bool {a b : Bool} (h : a = b) : Ending.returned (.bool a) = .returned (.bool b) := by rw [h]

theorem chk1 (b off cap B k : Nat) (x : Int) (w : World) (hk : k < 5) (hv : w.cell? ⟨B, 0, none⟩ = some (.slice (some ⟨b, off, none⟩) 5 cap))
    (hc : w.cell? ⟨b, off + k, none⟩ = some (.int .i64 x)) :
    Calls Tryd.prog 69 #[.int .i64 k, .pointer (some ⟨B, 0, none⟩)] w fun e w' => e = .returned (.bool (out x)) ∧ w' = w := by
  by_cases h1 : x < 0
  · go_enter Tryd.func69, Tryd.ntmps69
    go_wp2
    go_ret
    exact ⟨by simp [out, h1], rfl⟩
  · go_enter Tryd.func69, Tryd.ntmps69
    go_wp2
    go_ret
    exact ⟨by simp [out]; omega, rfl⟩

theorem any1 (p : Nat → Bool) (B : Nat) (w : World)
    (h : Hid (∀ k : Nat, k < 5 → ∀ n, Calls Tryd.prog 69 #[.int .i64 k, .pointer (some ⟨B, 0, none⟩)] (w.drewN n) fun e w' => e = .returned (.bool (p k)) ∧ ∃ m, w' = w.drewN m)) :
    Calls Tryd.prog 68 #[.func (.func 69) #[] #[.pointer (some ⟨B, 0, none⟩)]] w fun e w' => e = .returned (.bool (anyP p)) ∧ ∃ m, w' = w.drewN m := by
  go_enter Tryd.func68, Tryd.ntmps68
  go_wp2
  go_loopw [4] (fun i wr => ∃ k : Nat, k ≤ 5 ∧ i = .int .i64 k ∧ (∃ n, wr = w.drewN n) ∧ Hid (∀ j, j < k → p j = false)) (fun i _ => 5 - (intOf i).toNat)
  case atStart => exact ⟨0, by omega, rfl, ⟨0, rfl⟩, fun j hj => absurd hj (by omega)⟩
  case round =>
    obtain ⟨k, hk, rfl, ⟨n, rfl⟩, hp⟩ := hrel
    by_cases hlt : k < 5
    · cases hb : p k
      · go_wp2_with (go_at_call 69; refine (h.out k hlt _).mono ?_; rintro e w' ⟨rfl, m, rfl⟩)
        go_roundw
        case rel => exact ⟨k + 1, by omega, by go_num, ⟨_, rfl⟩, fun j hj => if e : j < k then hp.out j e else by rw [show j = k by omega]; exact hb⟩
        case measure => simp [intOf]; omega
      · go_wp2_with (go_at_call 69; refine (h.out k hlt _).mono ?_; rintro e w' ⟨rfl, m, rfl⟩)
        go_ret
        exact ⟨ret_bool (anyP_true hlt hb).symm, _, rfl⟩
    · go_wp2
      go_ret
      exact ⟨ret_bool (anyP_false fun j hj => hp.out j (by omega)).symm, _, rfl⟩

end Go.Proofs.YtpjoaogiaacikajDoor.Vec
