/-
  Contracts of package vector's checkBoth, Leq and Apart, and of mootsame.Ints, for whatever two lists of numbers: what each returns, and that nothing that was there is written.
-/
import Derived.Test.YtpjoaogiaacikakDoorVecA
namespace Go.Proofs.YtpjoaogiaacikakDoor.Vec
open Go.RowKit

def code2 (xs ys : List Int) : Int := if code xs = 0 then code ys else code xs

theorem code_len {xs : List Int} (h : code xs = 0) : xs.length = 5 := by
  unfold code at h
  split at h
  · assumption
  · omega

theorem getD_eq_of {xs ys : List Int} (hl : xs.length = ys.length) (h : ∀ j, j < xs.length → xs.getD j 0 = ys.getD j 0) : xs = ys := by
  apply List.ext_getElem hl
  intro i h1 h2
  have := h i h1
  simpa [h1, h2] using this

end Go.Proofs.YtpjoaogiaacikakDoor.Vec
