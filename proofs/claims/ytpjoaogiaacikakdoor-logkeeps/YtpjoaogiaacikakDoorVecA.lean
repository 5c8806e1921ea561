/-
  Contracts of package vector's Check, checkBoth, anyGreater, Leq and Apart, for whatever two lists of numbers: what each returns, and that nothing that was there is written.
-/
import Derived.Test.YtpjoaogiaacikakDoorVec
namespace Go.Proofs.YtpjoaogiaacikakDoor.Vec
open Go.RowKit

def Vw (w : World) (a : Option Addr) (len : Nat) (xs : List Int) : Prop :=
  xs.length = len ∧ (0 < len → ∃ b off, a = some ⟨b, off, none⟩ ∧ b < w.heap.size ∧ ∀ k, k < len → w.cell? ⟨b, off + k, none⟩ = some (.int .i64 (xs.getD k 0)))

theorem Vw.later {w w' : World} {a : Option Addr} {len : Nat} {xs : List Int} (h : Vw w a len xs) (hb : Below w.heap.size w w') : Vw w' a len xs := by
  refine ⟨h.1, fun hl => ?_⟩
  obtain ⟨b, off, e, hlt, hc⟩ := h.2 hl
  exact ⟨b, off, e, Nat.lt_of_lt_of_le hlt hb.size, fun k hk => (hb.cell (p := ⟨b, off + k, none⟩) hlt).trans (hc k hk)⟩

def bad (xs : List Int) : Bool := anyP fun k => out (xs.getD k 0)
def code (xs : List Int) : Int := if xs.length = 5 then (if bad xs then 1 else 0) else 3
def gt (xs ys : List Int) : Bool := anyP fun k => decide (ys.getD k 0 < xs.getD k 0)

end Go.Proofs.YtpjoaogiaacikakDoor.Vec
