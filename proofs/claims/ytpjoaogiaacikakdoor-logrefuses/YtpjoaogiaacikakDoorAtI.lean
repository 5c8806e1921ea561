/-
  The document's own At: where a number is in a list.
-/
import Derived.Test.YtpjoaogiaacikakDoorVecC
import Derived.Test.YtpjoaogiaacikakDoorHisA
namespace Go.Proofs.YtpjoaogiaacikakDoor.His
open Go.RowKit
open Go.Proofs.YtpjoaogiaacikakDoor.Vec

def atI (xs : List Int) (n : Int) : Int := if n ∈ xs then (xs.idxOf n : Nat) else -1
theorem at_hit {xs : List Int} {n : Int} {k : Nat} (hk : k < xs.length) (hp : xs.getD k 0 = n) (hb : ∀ j, j < k → xs.getD j 0 ≠ n) : atI xs n = (k : Int) := by
  have e : ∀ j (hj : j < xs.length), xs.getD j 0 = xs[j] := by
    intro j hj
    simp [List.getD, hj]
  have hm : n ∈ xs := by rw [← hp, e k hk]; exact List.getElem_mem hk
  have hi : xs.idxOf n = k := by
    rw [List.idxOf, List.findIdx_eq hk]
    refine ⟨by rw [← e k hk, hp]; simp, fun j hj => ?_⟩
    have := hb j hj
    rw [e j (by omega)] at this
    simpa using this
  rw [atI, if_pos hm, hi]
theorem at_miss {xs : List Int} {n : Int} (hb : ∀ j, j < xs.length → xs.getD j 0 ≠ n) : atI xs n = -1 := by
  rw [atI, if_neg]
  intro hm
  obtain ⟨j, hj, e⟩ := List.getElem_of_mem hm
  exact hb j hj (by simp [List.getD, hj, e])
theorem at_any (a : Option Addr) (len cap : Nat) (xs : List Int) (n : Int) (w : World) (hm : len ≤ maxLen) (hv : Vw w a len xs) :
    Calls Tryd.prog 9 #[.slice a len cap, .int .i64 n] w fun e w' => e = .returned (.int .i64 (atI xs n)) ∧ w' = w := by
  unfold maxLen at hm
  have G : Hid (Vw w a len xs) := hv
  clear hv
  go_enter Tryd.func9, Tryd.ntmps9
  go_wp2
  go_loopw [5] (fun i wr => ∃ k : Nat, k ≤ len ∧ i = .int .i64 k ∧ wr = w ∧ Hid (∀ j, j < k → xs.getD j 0 ≠ n)) (fun i _ => len - (intOf i).toNat)
  case atStart => exact ⟨0, by omega, rfl, rfl, fun j hj => absurd hj (by omega)⟩
  case round =>
    obtain ⟨k, hk, rfl, rfl, hp⟩ := hrel
    by_cases hlt : k < len
    · obtain ⟨b, off, rfl, _, hcs⟩ := G.out.2 (by omega)
      have c0 := hcs k hlt
      obtain ⟨x, ex⟩ : ∃ x, x = xs.getD k 0 := ⟨_, rfl⟩
      rw [← ex] at c0
      have EX : Hid (x = xs.getD k 0) := ex
      have hk0 : (0 : Int) ≤ (k : Int) := by omega
      have hkl : (k : Int) < (len : Int) := by omega
      clear hcs ex
      by_cases hx : x = n
      · subst hx
        have ht : (x == x) = true := by simp
        go_wp2
        go_ret
        exact ⟨ret_int (at_hit (by rw [G.out.1]; exact hlt) EX.out.symm hp.out).symm, rfl⟩
      · have ht : (x == n) = false := by simp [hx]
        have HX : Hid (x ≠ n) := hx
        go_wp2
        go_roundw
        case rel => exact ⟨k + 1, by omega, by go_num, by first | rfl | trivial, fun j hj => if e : j < k then hp.out j e else by rw [show j = k by omega, ← EX.out]; exact HX.out⟩
        case measure => simp [intOf]; omega
    · go_wp2
      go_ret
      exact ⟨ret_int (at_miss fun j hj => hp.out j (by have := G.out.1; omega)).symm, rfl⟩

end Go.Proofs.YtpjoaogiaacikakDoor.His
