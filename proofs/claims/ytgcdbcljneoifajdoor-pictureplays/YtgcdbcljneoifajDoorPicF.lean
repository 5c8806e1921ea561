/-
  A slice of numbers among the arguments, as the reader reads it, with its room.
-/
import Derived.Test.YtgcdbcljneoifajDoorLdrE
import Derived.Test.YtgcdbcljneoifajDoorVecC
import Derived.ProofKit
import Derived.OpenShut
import Derived.ChangeOld
import Derived.ChangeSame
import Derived.ChangeSlices
import Derived.Deep.Strs
import Derived.Deep.Slices
namespace Go.Proofs.YtgcdbcljneoifajDoor.Pic
open Go.RowKit Go.ChangeShapes Go.WideShapes Go.Deep
open Go.Proofs.YtgcdbcljneoifajDoor.Vec (Vw IsRow)
open Go.Proofs.YtgcdbcljneoifajDoor.Ldr (Sl)

theorem row_slP {w : World} {a : Option Addr} {len cap : Nat} {zs : List Int} (h : IsRow .i64 w a len cap zs) : Sl w (.slice a len cap) (zs.take len) := by
  have hv := h.vw
  have e := hv.1
  have hc : len ≤ cap ∧ cap ≤ maxLen := by
    rcases h with ⟨_, rfl, rfl, _⟩ | ⟨_, _, h1, h2, _⟩
    · exact ⟨Nat.le_refl _, Nat.zero_le _⟩
    · exact ⟨h1, h2⟩
  exact ⟨a, cap, by rw [e], by rw [e]; exact hc.1, hc.2, by rw [e]; exact hv⟩
end Go.Proofs.YtgcdbcljneoifajDoor.Pic
