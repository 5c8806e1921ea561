/-
  The walk of VectorTells, all ways together: for whatever two lists and whatever number it returns true, and nothing that was there is written.
-/
import Derived.Test.YtcmfhlegpgmakaaDoorTellsB
import Derived.Test.YtcmfhlegpgmakaaDoorTellsYlo
import Derived.Test.YtcmfhlegpgmakaaDoorTellsYhi
import Derived.Test.YtcmfhlegpgmakaaDoorTellsYfull
import Derived.Test.YtcmfhlegpgmakaaDoorTellsYok
namespace Go.Proofs.YtcmfhlegpgmakaaDoor.Tells
open Go.RowKit Go.Proofs.YtcmfhlegpgmakaaDoor.Vec Go.Proofs.YtcmfhlegpgmakaaDoor.As

theorem walk (a0 : Option Addr) (len0 cap0 : Nat) (z0 : List Int) (a1 : Option Addr) (len1 cap1 : Nat) (z1 : List Int) (a2 : Int) (w : World) (w0 : IsRow .i64 w a0 len0 cap0 z0) (w1 : IsRow .i64 w a1 len1 cap1 z1) (hl : Laid w) :
    Calls Tryd.prog 3 #[.slice a0 len0 cap0, .slice a1 len1 cap1, .int .i64 a2] w fun e w' => e = .returned (.bool true) ∧ Below w.heap.size w w' := by
  by_cases h : code (z0.take len0) = 0
  · by_cases h' : code (z1.take len1) = 0
    · by_cases hlo : a2 < 0
      · exact walk_lo_y _ _ _ _ _ _ _ _ _ w w0.vw w1.vw hl h hlo h'
      · by_cases hhi : 4 < a2
        · exact walk_hi_y _ _ _ _ _ _ _ _ _ w w0.vw w1.vw hl h hhi h'
        · obtain ⟨n, rfl⟩ := Int.eq_ofNat_of_zero_le (show 0 ≤ a2 by omega)
          by_cases hx : (z0.take len0).getD n 0 = 1000000
          · exact walk_full_y _ _ _ _ _ _ _ _ _ w w0.vw w1.vw hl h n rfl (by omega) hx h'
          · exact walk_ok_y _ _ _ _ _ _ _ _ _ w w0.vw w1.vw hl h n rfl (by omega) hx h'
    · by_cases hlo : a2 < 0
      · exact walk_lo_n _ _ _ _ _ _ _ _ _ w w0.vw w1.vw hl h hlo h'
      · by_cases hhi : 4 < a2
        · exact walk_hi_n _ _ _ _ _ _ _ _ _ w w0.vw w1.vw hl h hhi h'
        · obtain ⟨n, rfl⟩ := Int.eq_ofNat_of_zero_le (show 0 ≤ a2 by omega)
          by_cases hx : (z0.take len0).getD n 0 = 1000000
          · exact walk_full_n _ _ _ _ _ _ _ _ _ w w0.vw w1.vw hl h n rfl (by omega) hx h'
          · exact walk_ok_n _ _ _ _ _ _ _ _ _ w w0.vw w1.vw hl h n rfl (by omega) hx h'
  · exact walk_a _ _ _ _ _ _ _ _ _ w w0.vw w1.vw hl h

end Go.Proofs.YtcmfhlegpgmakaaDoor.Tells
