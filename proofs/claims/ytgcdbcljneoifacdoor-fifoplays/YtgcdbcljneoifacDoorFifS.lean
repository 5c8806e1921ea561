/-
  The document's own Take of a fifo in one form; what holds of a fifo at any time.
-/
import Derived.Test.YtgcdbcljneoifacDoorFifR
namespace Go.Proofs.YtgcdbcljneoifacDoor.Fif
open Go.RowKit

theorem refTake (base P : Nat) (H : List Int) (ws : List Cm) (v : Value) (who n word : Int) (w : World) (hs : RS w base P H ws v) (g : Inv H ws) (hbw : base ≤ w.heap.size) :
    Calls Tryd.prog 10 #[.pointer (some ⟨P, 0, none⟩), .int .i64 who, .int .i64 n, .int .i64 word] w fun x w' => ∃ vo v', x = .returned (.tuple #[vo, .int .i64 (tkC (H.getD who.toNat 0) ws who n word)]) ∧
      RS w' base P (tk H ws who n word).2.1 (tk H ws who n word).2.2 v' ∧ w'.ownsRow w.heap.size 3 1 vo (tk H ws who n word).1.length ((tk H ws who n word).1.map (Value.int .i64)) ∧ Below base w w' ∧ Kp w w' P v.ownBlock := by
  have no : ∀ c : Int, c ≠ 0 → tkC (H.getD who.toNat 0) ws who n word = c → ∀ x w', (x = Ending.returned (.tuple #[.slice none 0 0, .int .i64 c]) ∧ w' = w) → ∃ vo v', x = .returned (.tuple #[vo, .int .i64 (tkC (H.getD who.toNat 0) ws who n word)]) ∧
      RS w' base P (tk H ws who n word).2.1 (tk H ws who n word).2.2 v' ∧ w'.ownsRow w.heap.size 3 1 vo (tk H ws who n word).1.length ((tk H ws who n word).1.map (Value.int .i64)) ∧ Below base w w' ∧ Kp w w' P v.ownBlock := by
    rintro c hc0 hc x w' ⟨rfl, rfl⟩
    rw [tk_no (by rw [hc]; exact hc0), hc]
    exact ⟨_, v, rfl, hs, World.ownsRow_nil _ _ _ _, Below.refl _ _, Kp.refl _ _ _⟩
  cases hb : bad who n word with
  | true => exact (refTake_bad base P who n word w hb).mono (no 1 (by decide) (by unfold tkC; rw [if_pos hb]))
  | false =>
    obtain ⟨hw, hn, _⟩ := bad_who hb
    obtain ⟨m, rfl⟩ : ∃ m : Nat, who = (m : Int) := ⟨who.toNat, by omega⟩
    have hm : m < 5 := by omega
    simp only [Int.toNat_natCast] at no ⊢
    have hH := g.num m hm
    have hl : ws.length ≤ 41 := by have := g.len; omega
    by_cases ho : n ≤ H.getD m 0
    · exact (refTake_old base P m H ws v n word w hm hs hl hH hb ho).mono (no 7 (by decide) (by unfold tkC; rw [if_neg (by rw [hb]; decide), if_pos ho]))
    · cases hf : fnd ws (m : Int) n with
      | some x =>
        exact (refTake_clash base P m H ws v n word w hm hs hl hH hb (by omega) (by rw [hf]; rfl)).mono (no 7 (by decide) (by unfold tkC; rw [if_neg (by rw [hb]; decide), if_neg ho, if_pos (by rw [hf]; rfl)]))
      | none =>
        by_cases hfu : H.getD m 0 + 1 < n ∧ 40 ≤ ws.length
        · exact (refTake_full base P m H ws v n word w hm hs hl hH hb hfu.1 hf hfu.2).mono (no 4 (by decide) (by unfold tkC; rw [if_neg (by rw [hb]; decide), if_neg ho, if_neg (by rw [hf]; decide), if_pos hfu]))
        · have hc : tkC (H.getD ((m : Int)).toNat 0) ws (m : Int) n word = 0 := by unfold tkC; rw [Int.toNat_natCast, if_neg (by rw [hb]; decide), if_neg ho, if_neg (by rw [hf]; decide), if_neg hfu]
          have e := tk_ok hc
          rw [Int.toNat_natCast] at e hc
          rw [e, hc]
          exact refTake_ok base P m H ws v n word w hm hs hl hH hb hbw g.uq g.keys (by omega) hf hfu g.len
end Go.Proofs.YtgcdbcljneoifacDoor.Fif
