/-
  Contracts of package vector's Check, checkBoth, anyGreater, Leq and Apart, for whatever two lists of numbers: what each returns, and that nothing that was there is written.
-/
import Derived.Test.YtpjoaogiaacikajDoorVec
namespace Go.Proofs.YtpjoaogiaacikajDoor.Vec
open Go.RowKit

def Vw (w : World) (a : Option Addr) (len : Nat) (xs : List Int) : Prop :=
  xs.length = len ∧ (0 < len → ∃ b off, a = some ⟨b, off, none⟩ ∧ b < w.heap.size ∧ ∀ k, k < len → w.cell? ⟨b, off + k, none⟩ = some (.int .i64 (xs.getD k 0)))

theorem Vw.later {w w' : World} {a : Option Addr} {len : Nat} {xs : List Int} (h : Vw w a len xs) (hb : Below w.heap.size w w') : Vw w' a len xs := by
  refine ⟨h.1, fun hl => ?_⟩
  obtain ⟨b, off, e, hlt, hc⟩ := h.2 hl
  exact ⟨b, off, e, Nat.lt_of_lt_of_le hlt hb.size, fun k hk => (hb.cell (p := ⟨b, off + k, none⟩) hlt).trans (hc k hk)⟩

def bad (xs : List Int) : Bool := anyP fun k => out (xs.getD k 0)
def code (xs : List Int) : Int := if xs.length = 5 then (if bad xs then 1 else 0) else 3
def gt (xs ys : List Int) : Bool := anyP fun k => decide (ys.getD k 0 < xs.getD k 0)

theorem check_shape (a : Option Addr) (len cap : Nat) (w : World) (h : len ≠ 5) :
    Calls Tryd.prog 57 #[.slice a len cap] w fun e w' => e = .returned (.iface 88 (.int .i64 3)) ∧ Below w.heap.size w w' := by
  have h5 : ((len : Int) != 5) = true := by rw [bne_iff_ne]; omega
  go_enter Tryd.func57, Tryd.ntmps57
  go_wp2
  go_ret
  exact ⟨rfl, (Below.refl _ _).alloc (Nat.le_refl _) _⟩

theorem check_five (a : Option Addr) (cap : Nat) (xs : List Int) (w : World) (hv : Vw w a 5 xs) :
    Calls Tryd.prog 57 #[.slice a 5 cap] w fun e w' => e = .returned (if bad xs then .iface 88 (.int .i64 1) else .nilIface) ∧ Below w.heap.size w w' := by
  obtain ⟨b, off, rfl, hlt, hc⟩ := hv.2 (by omega)
  have hcall : ∀ B, w.heap.size = B → Hid (∀ k : Nat, k < 5 → ∀ n, Calls Tryd.prog 69 #[.int .i64 k, .pointer (some ⟨B, 0, none⟩)] ((w.alloc (.cells #[.slice (some ⟨b, off, none⟩) 5 cap] 22)).drewN n)
      fun e w' => e = .returned (.bool ((fun k => out (xs.getD k 0)) k)) ∧ ∃ m, w' = (w.alloc (.cells #[.slice (some ⟨b, off, none⟩) 5 cap] 22)).drewN m) := by
    intro B hB k hk n
    subst hB
    refine (chk1 b off cap w.heap.size k (xs.getD k 0) _ hk ?_ ?_).mono ?_
    · simp
    · exact ((below_drewN ((Below.refl w.heap.size w).alloc (Nat.le_refl _) _) n).cell (p := ⟨b, off + k, none⟩) hlt).trans (hc k hk)
    · rintro e w' ⟨rfl, rfl⟩
      exact ⟨rfl, n, rfl⟩
  have H := hcall _ rfl
  clear hcall hc
  cases hb : bad xs
  · have hb' : anyP (fun k => out (xs.getD k 0)) = false := hb
    go_enter Tryd.func57, Tryd.ntmps57
    go_wp2_with fail
    refine (any1 (fun k => out (xs.getD k 0)) _ _ H).mono ?_
    rintro e w' ⟨rfl, m, rfl⟩
    rw [hb']
    go_wp2
    go_ret
    exact ⟨rfl, below_drewN ((Below.refl _ _).alloc (Nat.le_refl _) _) _⟩
  · have hb' : anyP (fun k => out (xs.getD k 0)) = true := hb
    go_enter Tryd.func57, Tryd.ntmps57
    go_wp2_with fail
    refine (any1 (fun k => out (xs.getD k 0)) _ _ H).mono ?_
    rintro e w' ⟨rfl, m, rfl⟩
    rw [hb']
    go_wp2
    go_ret
    exact ⟨rfl, below_drewN ((Below.refl _ _).alloc (Nat.le_refl _) _) _⟩

theorem check_ok (a : Option Addr) (len cap : Nat) (xs : List Int) (w : World) (hv : Vw w a len xs) (h : code xs = 0) :
    Calls Tryd.prog 57 #[.slice a len cap] w fun e w' => e = .returned .nilIface ∧ Below w.heap.size w w' := by
  have h1 := hv.1
  unfold code at h
  split at h
  · rename_i e
    have : len = 5 := by omega
    subst this
    split at h
    · omega
    · rename_i hb
      refine (check_five a cap xs w hv).mono ?_
      rintro e w' ⟨rfl, hw⟩
      exact ⟨by rw [if_neg hb], hw⟩
  · omega

theorem check_no (a : Option Addr) (len cap : Nat) (xs : List Int) (w : World) (hv : Vw w a len xs) (h : code xs ≠ 0) :
    Calls Tryd.prog 57 #[.slice a len cap] w fun e w' => e = .returned (.iface 88 (.int .i64 (code xs))) ∧ Below w.heap.size w w' := by
  have h1 := hv.1
  by_cases e : len = 5
  · subst e
    have hb : bad xs = true := by
      cases hb : bad xs
      · exact absurd (by simp [code, h1, hb]) h
      · rfl
    refine (check_five a cap xs w hv).mono ?_
    rintro e w' ⟨rfl, hw⟩
    exact ⟨by simp [code, h1, hb], hw⟩
  · refine (check_shape a len cap w e).mono ?_
    rintro e' w' ⟨rfl, hw⟩
    exact ⟨by simp [code, h1, e], hw⟩

end Go.Proofs.YtpjoaogiaacikajDoor.Vec
