/-
  Two events are the same; two histories are.
-/
import Derived.Test.YtpjoaogiaacikakDoorHisP
import Derived.Deep.QuietTactic
import Derived.BigQuiet
import Derived.Laws.ResultCell
namespace Go.Proofs.YtpjoaogiaacikakDoor.Lgs
open Go.RowKit
open Go.Proofs.YtpjoaogiaacikakDoor.His (Ev ev)
set_option linter.unusedVariables false

theorem eqGdL : Tryd.prog.eqGuardType Tryd.prog.depth 28 = false := by kernel_rfl
theorem eqSameL (a b c : Int) (w : World) : (Op.equalIn 10000 28 (.agg #[.int .i64 a, .int .i64 b, .int .i64 c]) (.agg #[.int .i64 a, .int .i64 b, .int .i64 c])).run Tryd.prog w = .ok true w := by
  have u3 := Tryd.underlying3
  have a3 := Tryd.isAgg3
  have z3 := Tryd.sizeOf3
  have hS : Tryd.prog.underlying 28 = some (.struct (Tryd.prog.fieldsOf 28)) := by kernel_rfl
  have hp : Tryd.prog.stoodInHeld 28 = false := by kernel_rfl
  rw [show (10000 : Nat) = 9999 + 1 from rfl, run_equalIn_agg w 9999 28 _ _ hS hp]
  simp only [Program.fieldsOf, Tryd.underlying28]
  go_simp
theorem ev_cells {w : World} {base : Nat} {v : Value} {H : List Ev} (o : w.ownsRow base 28 3 v H.length (His.flat H)) : ∃ q c, v = .slice q H.length c ∧ ∀ k, k < H.length → ∃ g, q = some ⟨g, 0, none⟩ ∧ w.cell? ⟨g, k * 3, none⟩ = some (.int .i64 (ev H k).1) ∧ w.cell? ⟨g, k * 3 + 1, none⟩ = some (.int .i64 (ev H k).2.1) ∧ w.cell? ⟨g, k * 3 + 2, none⟩ = some (.int .i64 (ev H k).2.2) := by
  rcases o.2 with ⟨h2, h3⟩ | ⟨g, cap, cur, hv, hb, hh, hc, hm, hsz, ht⟩
  · exact ⟨none, 0, by rw [h3]; exact h2, fun k q => absurd q (by omega)⟩
  · refine ⟨_, cap, hv, fun k hk => ⟨g, rfl, ?_⟩⟩
    have key : ∀ j u, j < H.length * 3 → (His.flat H)[j]? = some u → w.cell? ⟨g, j, none⟩ = some u := by
      intro j u hj hu
      rw [← ht, List.getElem?_take_of_lt hj] at hu
      simp only [World.cell?, hh]
      simpa using hu
    obtain ⟨a, b, c⟩ := His.flat_get H k hk
    exact ⟨key _ _ (by omega) a, key _ _ (by omega) b, key _ _ (by omega) c⟩
set_option maxRecDepth 100000 in
theorem events_same (b1 b2 : Nat) (u v : Value) (H : List Ev) (w : World) (hu : w.ownsRow b1 28 3 u H.length (His.flat H)) (hv : w.ownsRow b2 28 3 v H.length (His.flat H)) (hl : H.length ≤ 60) :
    Calls Tryd.prog 16 #[u, v] w fun e w' => e = .returned (.bool true) ∧ ∃ n, w' = w.drewN n := by
  obtain ⟨q1, c1, rfl, hf1⟩ := ev_cells hu
  obtain ⟨q2, c2, rfl, hf2⟩ := ev_cells hv
  obtain ⟨n, en⟩ : ∃ n, n = H.length := ⟨_, rfl⟩
  rw [← en] at hl hf1 hf2 ⊢
  have F1 : Hid (∀ k, k < n → _) := hf1
  have F2 : Hid (∀ k, k < n → _) := hf2
  have hn : ((n : Int) != (n : Int)) = false := by simp
  clear hu hv hf1 hf2 en
  go_enter Tryd.func16, Tryd.ntmps16
  go_wp2
  go_loopw [5] (fun x wr => ∃ k : Nat, k ≤ n ∧ x = .int .i64 (k : Int) ∧ ∃ m, wr = w.drewN m) (fun x _ => n - (intOf x).toNat)
  case atStart => exact ⟨0, by omega, rfl, 0, rfl⟩
  case round =>
    obtain ⟨k, hk, rfl, m, rfl⟩ := hrel
    by_cases hlt : k < n
    · obtain ⟨g1, rfl, x0, x1, x2⟩ := F1.out k hlt
      obtain ⟨g2, rfl, y0, y1, y2⟩ := F2.out k hlt
      obtain ⟨p, ep⟩ : ∃ p, p = ev H k := ⟨_, rfl⟩
      rw [← ep] at x0 x1 x2 y0 y1 y2
      obtain ⟨p0, p1, p2⟩ := p
      simp only at x0 x1 x2 y0 y1 y2
      have hk0 : (0 : Int) ≤ (k : Int) := by omega
      have hkn : (k : Int) < (n : Int) := by omega
      have hgd := eqGdL
      have hev := eqSameL p0 p1 p2
      clear ep
      go_wp2
      go_quiet (fail)
      go_wp2
      go_roundw
      case rel => exact ⟨k + 1, by omega, by go_num, _, rfl⟩
      case measure => simp [intOf]; omega
    · have hkn : k = n := by omega
      subst hkn
      go_wp2
      go_ret
      exact ⟨rfl, _, rfl⟩
end Go.Proofs.YtpjoaogiaacikakDoor.Lgs
