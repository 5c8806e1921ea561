/-
  Two packets are the same; two lists of packets are.
-/
import Derived.Test.YtgnffanlgmbieaeDoorMgB
import Derived.Laws.ResultCell
namespace Go.Proofs.YtgnffanlgmbieaeDoor.Net
open Go.RowKit
open Go.Proofs.YtgnffanlgmbieaeDoor.Fif (own_lt own_block own_form own_mono Kp ret_bool)
set_option linter.unusedVariables false

theorem eqGd : Tryd.prog.eqGuardType Tryd.prog.depth 52 = false := by kernel_rfl
theorem eqPk (a b c d e f : Int) (w : World) : (Op.equalIn 10000 52 (.agg #[.int .i64 a, .int .i64 b, .int .i64 c]) (.agg #[.int .i64 d, .int .i64 e, .int .i64 f])).run Tryd.prog w = .ok (((d, e, f) : Pk) == (a, b, c)) w := by
  have u3 := Tryd.underlying3
  have a3 := Tryd.isAgg3
  have z3 := Tryd.sizeOf3
  have hS : Tryd.prog.underlying 52 = some (.struct (Tryd.prog.fieldsOf 52)) := by kernel_rfl
  have hp : Tryd.prog.stoodInHeld 52 = false := by kernel_rfl
  rw [show (10000 : Nat) = 9999 + 1 from rfl, run_equalIn_agg w 9999 52 _ _ hS hp]
  simp only [Program.fieldsOf, Tryd.underlying52]
  go_simp
  have e1 : (d = a) = (a = d) := propext eq_comm
  have e2 : (e = b) = (b = e) := propext eq_comm
  have e3 : (f = c) = (c = f) := propext eq_comm
  have h0 : (((d, e, f) : Pk) == (a, b, c)) = (decide (a = d) && (decide (b = e) && decide (c = f))) := by
    rw [Bool.eq_iff_iff]
    simp [e1, e2, e3]
  rw [h0]
  by_cases h1 : a = d <;> by_cases h2 : b = e <;> by_cases h3 : c = f <;> simp [h1, h2, h3]
theorem eqSame (a b c : Int) (w : World) : (Op.equalIn 10000 52 (.agg #[.int .i64 a, .int .i64 b, .int .i64 c]) (.agg #[.int .i64 a, .int .i64 b, .int .i64 c])).run Tryd.prog w = .ok true w := by
  rw [eqPk]
  simp
set_option maxRecDepth 100000 in
theorem packets_same (b1 b2 : Nat) (u v : Value) (l : List Pk) (w : World) (hu : Po w b1 u l) (hv : Po w b2 v l) (hl : l.length ≤ 40) :
    Calls Tryd.prog 16 #[u, v] w fun e w' => e = .returned (.bool true) ∧ ∃ n, w' = w.drewN n := by
  obtain ⟨q1, c1, rfl, _, _, hf1⟩ := hu.form
  obtain ⟨q2, c2, rfl, _, _, hf2⟩ := hv.form
  obtain ⟨n, en⟩ : ∃ n, n = l.length := ⟨_, rfl⟩
  have F1 : Hid (∀ k, k < n → ∃ g, q1 = some ⟨g, 0, none⟩ ∧ C3 w g k (pk l k)) := fun k hk => by
    obtain ⟨g, e, _, _, hc⟩ := hf1 (by omega)
    exact ⟨g, e, c3_of hc (by omega)⟩
  have F2 : Hid (∀ k, k < n → ∃ g, q2 = some ⟨g, 0, none⟩ ∧ C3 w g k (pk l k)) := fun k hk => by
    obtain ⟨g, e, _, _, hc⟩ := hf2 (by omega)
    exact ⟨g, e, c3_of hc (by omega)⟩
  have hn : ((n : Int) != (n : Int)) = false := by simp
  rw [← en] at hl ⊢
  clear hu hv hf1 hf2 en
  go_enter Tryd.func16, Tryd.ntmps16
  go_wp2
  go_loopw [5] (fun x wr => ∃ k : Nat, k ≤ n ∧ x = .int .i64 (k : Int) ∧ ∃ m, wr = w.drewN m) (fun x _ => n - (intOf x).toNat)
  case atStart => exact ⟨0, by omega, rfl, 0, rfl⟩
  case round =>
    obtain ⟨k, hk, rfl, m, rfl⟩ := hrel
    by_cases hlt : k < n
    · obtain ⟨g1, rfl, x0, x1, x2⟩ := F1.out k hlt
      obtain ⟨g2, rfl, y0, y1, y2⟩ := F2.out k hlt
      obtain ⟨p, ep⟩ : ∃ p, p = pk l k := ⟨_, rfl⟩
      rw [← ep] at x0 x1 x2 y0 y1 y2
      obtain ⟨p0, p1, p2⟩ := p
      simp only at x0 x1 x2 y0 y1 y2
      have hk0 : (0 : Int) ≤ (k : Int) := by omega
      have hkn : (k : Int) < (n : Int) := by omega
      have hgd := eqGd
      have hev := eqSame p0 p1 p2
      clear ep
      go_wp2
      go_quiet (fail)
      go_wp2
      go_roundw
      case rel => exact ⟨k + 1, by omega, by go_num, _, rfl⟩
      case measure => simp [intOf]; omega
    · have hkn : k = n := by omega
      subst hkn
      go_wp2
      go_ret
      exact ⟨rfl, _, rfl⟩
end Go.Proofs.YtgnffanlgmbieaeDoor.Net
