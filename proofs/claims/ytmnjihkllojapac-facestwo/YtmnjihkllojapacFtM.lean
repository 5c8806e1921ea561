/-
  Plain facts on two who speak at once, and two who hear both.
-/
import Derived.Test.YtmnjihkllojapacFacM
namespace Go.Proofs.Ytmnjihkllojapac.His

def two (a b x y : Int) : List Ev := [(0, 2, a), (1, 2, b), (2, 3, a), (2, 3, b), (3, 3, x), (3, 3, y)]
theorem two_good {a b x y : Int} (ha : 1 ≤ a ∧ a ≤ 30) (hb : 1 ≤ b ∧ b ≤ 30) (hab : a ≠ b) (hxy : (x = a ∧ y = b) ∨ (x = b ∧ y = a)) : Good (two a b x y) 6 := by
  have hba : b ≠ a := fun e => hab e.symm
  rcases hxy with ⟨rfl, rfl⟩ | ⟨rfl, rfl⟩ <;>
  · intro i hi
    rcases i with _ | _ | _ | _ | _ | _ | i <;> first | omega | simp [two, ev, next, isOne, says, ha, hb, hab, hba]
theorem two_keep (a b x y : Int) (needs : Nat → Nat → Bool) (hn : needs 0 1 = false) : keepB (two a b x y) needs = true := by
  rw [keep_iff]
  intro i k hik hk h1 h2 h3
  have hk' : k < 6 := hk
  rcases k with _ | _ | _ | _ | _ | _ | k
  · omega
  · obtain rfl : i = 0 := by omega
    rw [hn] at h3
    exact absurd h3 (by decide)
  · exact absurd h2 (by simp [two, ev])
  · exact absurd h2 (by simp [two, ev])
  · exact absurd h2 (by simp [two, ev])
  · exact absurd h2 (by simp [two, ev])
  · omega
theorem two_fifo (a b x y : Int) : fifoB (two a b x y) = true := two_keep a b x y _ rfl
theorem two_caus (a b x y : Int) : causB (two a b x y) = true := two_keep a b x y _ rfl
theorem two_hrd (a b x y : Int) : hrd (two a b x y) 0 = [a] ∧ hrd (two a b x y) 1 = [b] ∧ hrd (two a b x y) 2 = [a, b] ∧ hrd (two a b x y) 3 = [x, y] ∧ hrd (two a b x y) 4 = [] := by
  refine ⟨?_, ?_, ?_, ?_, ?_⟩ <;> simp [hrd, two, has]
theorem two_tot (a b : Int) (hab : a ≠ b) : totB (two a b a b) = true ∧ totB (two a b b a) = false := by
  have hba : b ≠ a := fun e => hab e.symm
  obtain ⟨a0, a1, a2, a3, a4⟩ := two_hrd a b a b
  obtain ⟨b0, b1, b2, b3, b4⟩ := two_hrd a b b a
  constructor
  · simp [totB, List.range_succ, ag1, both, a0, a1, a2, a3, a4, hab, hba]
  · simp [totB, List.range_succ, ag1, both, b0, b1, b2, b3, b4, hab, hba]
end Go.Proofs.Ytmnjihkllojapac.His
