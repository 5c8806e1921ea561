/-
  Contracts of package vector's checkBoth, Leq and Apart, and of mootsame.Ints, for whatever two lists of numbers: what each returns, and that nothing that was there is written.
-/
import Derived.Test.YtpjoaogiaacikajDoorVecA
namespace Go.Proofs.YtpjoaogiaacikajDoor.Vec
open Go.RowKit

def code2 (xs ys : List Int) : Int := if code xs = 0 then code ys else code xs

theorem code_len {xs : List Int} (h : code xs = 0) : xs.length = 5 := by
  unfold code at h
  split at h
  · assumption
  · omega

theorem getD_eq_of {xs ys : List Int} (hl : xs.length = ys.length) (h : ∀ j, j < xs.length → xs.getD j 0 = ys.getD j 0) : xs = ys := by
  apply List.ext_getElem hl
  intro i h1 h2
  have := h i h1
  simpa [h1, h2] using this

theorem ints_any (a b : Option Addr) (len cap len' cap' : Nat) (xs ys : List Int) (w : World) (hv : Vw w a len xs) (hv' : Vw w b len' ys) (hm : len ≤ maxLen) :
    Calls Tryd.prog 18 #[.slice a len cap, .slice b len' cap'] w fun e w' => e = .returned (.bool (decide (xs = ys))) ∧ ∃ n, w' = w.drewN n := by
  unfold maxLen at hm
  have h1 := hv.1
  have h2 := hv'.1
  by_cases hl : len = len'
  · subst hl
    have HL : Hid (xs.length = ys.length) := by show xs.length = ys.length; omega
    have H1 : Hid (xs.length = len) := h1
    obtain ⟨-, gv⟩ := hv
    obtain ⟨-, gv'⟩ := hv'
    have G : Hid _ := gv
    have G' : Hid _ := gv'
    have hq : ((len : Int) != (len : Int)) = false := by simp
    clear gv gv' h1 h2
    go_enter Tryd.func18, Tryd.ntmps18
    go_wp2
    go_loopw [5] (fun i wr => ∃ k : Nat, k ≤ len ∧ i = .int .i64 k ∧ (∃ n, wr = w.drewN n) ∧ Hid (∀ j, j < k → xs.getD j 0 = ys.getD j 0)) (fun i _ => len - (intOf i).toNat)
    case atStart => exact ⟨0, by omega, rfl, ⟨0, rfl⟩, fun j hj => absurd hj (by omega)⟩
    case round =>
      obtain ⟨k, hk, rfl, ⟨n, rfl⟩, hp⟩ := hrel
      by_cases hlt : k < len
      · obtain ⟨p, off, rfl, hpb, hc⟩ := G.out (by omega)
        obtain ⟨p', off', rfl, hpb', hc'⟩ := G'.out (by omega)
        have hx := hc k hlt
        have hy := hc' k hlt
        obtain ⟨x, ex⟩ : ∃ x, x = xs.getD k 0 := ⟨_, rfl⟩
        obtain ⟨y, ey⟩ : ∃ y, y = ys.getD k 0 := ⟨_, rfl⟩
        rw [← ex] at hx
        rw [← ey] at hy
        have EX : Hid _ := ex
        have EY : Hid _ := ey
        have hk0 : (0 : Int) ≤ (k : Int) := by omega
        have hkl : (k : Int) < (len : Int) := by omega
        clear hc hc' ex ey
        by_cases hxy : x = y
        · have hne : (x != y) = false := by simp [hxy]
          have HXY : Hid _ := hxy
          clear hxy
          go_wp2
          go_quiet (fail)
          go_wp2
          go_roundw
          case rel => exact ⟨k + 1, by omega, by go_num, ⟨_, rfl⟩, fun j hj => if e : j < k then hp.out j e else by rw [show j = k by omega, ← EX.out, ← EY.out]; exact HXY.out⟩
          case measure => simp [intOf]; omega
        · have hne : (x != y) = true := by simp [hxy]
          have HXY : Hid _ := hxy
          clear hxy
          go_wp2
          go_quiet (fail)
          go_wp2
          go_ret
          exact ⟨ret_bool (decide_eq_false fun e => HXY.out (by rw [EX.out, EY.out, e])).symm, _, World.drewN_drewN _ _ _⟩
      · go_wp2
        go_ret
        exact ⟨ret_bool (decide_eq_true (getD_eq_of HL.out fun j hj => hp.out j (by have := H1.out; omega))).symm, _, rfl⟩
  · have hne : ((len : Int) != (len' : Int)) = true := by rw [bne_iff_ne]; omega
    have HN : Hid (xs ≠ ys) := fun e => hl (by rw [← h1, ← h2, e])
    clear h1 h2 hv hv'
    go_enter Tryd.func18, Tryd.ntmps18
    go_wp2
    go_ret
    exact ⟨ret_bool (decide_eq_false HN.out).symm, 0, rfl⟩

end Go.Proofs.YtpjoaogiaacikajDoor.Vec
