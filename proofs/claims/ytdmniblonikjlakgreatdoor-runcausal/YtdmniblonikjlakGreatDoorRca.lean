/-
  RunCausal: the walk.
-/
import Derived.Test.YtdmniblonikjlakGreatDoorMgX
import Derived.Test.YtdmniblonikjlakGreatDoorRunC
import Derived.Test.YtdmniblonikjlakGreatDoorMgS
import Derived.Deep.CutRange
namespace Go.Proofs.YtdmniblonikjlakGreatDoor.Run
open Go.RowKit
open Go.Proofs.YtdmniblonikjlakGreatDoor.Fif (own_lt own_block own_form own_mono)
set_option linter.unusedVariables false

theorem lit_eq (l : T) : ((tx l).toList == l) = true := by
  rw [Lib.toList_data]
  show (bs (tx l) == l) = true
  rw [bs_tx]
  simp
theorem two_eq {a b : ByteArray} (h : bs a = bs b) : (a.toList == b.toList) = true := by rw [bs_inj h]; simp
set_option maxRecDepth 100000 in
set_option maxHeartbeats 4000000 in
theorem causal_no (q a : Int) (first : Bool) (w : World) (hL : Fit w) (h : q < 1 ∨ (1 ≤ q ∧ 30 < q) ∨ (1 ≤ q ∧ q ≤ 30 ∧ a < 1) ∨ (1 ≤ q ∧ q ≤ 30 ∧ 1 ≤ a ∧ 30 < a) ∨ (1 ≤ q ∧ q ≤ 30 ∧ 1 ≤ a ∧ a ≤ 30 ∧ q = a)) : Calls Tryz.prog 6 #[.int .i64 q, .int .i64 a, .bool first] w fun e w' => e = .returned (.bool true) ∧ Below w.heap.size w w' := by
  have HL : Hid (Fit w) := hL
  have RA : Hid (Calls Tryz.prog 23 #[.string (ByteArray.mk #[115, 97, 121, 32, 48, 32, 48, 10])] w fun e w' => e = .returned (.string (tx [69, 114, 114, 82, 97, 110, 103, 101, 10])) ∧ Below w.heap.size w w') := by
    have z := runP (ByteArray.mk #[115, 97, 121, 32, 48, 32, 48, 10]) w hL
    rw [show run (bs (ByteArray.mk #[115, 97, 121, 32, 48, 32, 48, 10])) = [69, 114, 114, 82, 97, 110, 103, 101, 10] from say00] at z
    exact z
  have hf := lit_eq [69, 114, 114, 82, 97, 110, 103, 101, 10]
  clear hL
  have h' : q < 1 ∨ (¬ q < 1 ∧ 30 < q) ∨ (¬ q < 1 ∧ ¬ 30 < q ∧ a < 1) ∨ (¬ q < 1 ∧ ¬ 30 < q ∧ ¬ a < 1 ∧ 30 < a) ∨ (¬ q < 1 ∧ ¬ 30 < q ∧ ¬ a < 1 ∧ ¬ 30 < a ∧ (q == a) = true) := by
    rcases h with h | h | h | h | h
    · exact .inl h
    · exact .inr (.inl (by omega))
    · exact .inr (.inr (.inl (by omega)))
    · exact .inr (.inr (.inr (.inl (by omega))))
    · exact .inr (.inr (.inr (.inr ⟨by omega, by omega, by omega, by omega, by rw [h.2.2.2.2]; simp⟩)))
  clear h
  rcases h' with h1 | ⟨h1, h2⟩ | ⟨h1, h2, h3⟩ | ⟨h1, h2, h3, h4⟩ | ⟨h1, h2, h3, h4, h5⟩
  all_goals
    go_enter Tryz.func6, Tryz.ntmps6
    go_wp2_with fail
    refine RA.out.mono ?_
    rintro e w1 ⟨rfl, hb⟩
    have B1 : Hid (Below w.heap.size w w1) := hb
    clear hb
    go_wp2
    go_ret
    exact ⟨rfl, B1.out⟩
set_option maxRecDepth 100000 in
set_option maxHeartbeats 4000000 in
theorem causal_yes (q a : Nat) (first : Bool) (w : World) (hL : Fit w) (hq : 1 ≤ q ∧ q ≤ 30) (ha : 1 ≤ a ∧ a ≤ 30) (hne : q ≠ a) : Calls Tryz.prog 6 #[.int .i64 (q : Int), .int .i64 (a : Int), .bool first] w fun e w' => e = .returned (.bool true) ∧ Below w.heap.size w w' := by
  have HL : Hid (Fit w) := hL
  obtain ⟨hlen, x0, x1, x2, x3, x4, x7, hcut⟩ := causal hq ha hne first
  obtain ⟨dq, edq⟩ : ∃ d, d = tx (dig q) := ⟨_, rfl⟩
  obtain ⟨da, eda⟩ : ∃ d, d = tx (dig a) := ⟨_, rfl⟩
  have DQ : Hid (∀ w : World, Calls Tryz.prog 27 #[.int .i64 (q : Int)] w fun e w' => e = .returned (.string dq) ∧ w' = w) := by rw [edq]; exact digits_any q (by omega)
  have DA : Hid (∀ w : World, Calls Tryz.prog 27 #[.int .i64 (a : Int)] w fun e w' => e = .returned (.string da) ∧ w' = w) := by rw [eda]; exact digits_any a (by omega)
  have sq : dq.size ≤ 100 := by rw [edq, tx_size]; have := dig_len q; omega
  have sa : da.size ≤ 100 := by rw [eda, tx_size]; have := dig_len a; omega
  obtain ⟨R, eR⟩ : ∃ R, R = run (sess q a first) := ⟨_, rfl⟩
  rw [← eR] at hlen hcut
  have HR : Hid (R.length ≤ 1000 ∧ cut 10 R = [x0, x1, x2, x3, x4, dig q ++ 32 :: dig a, allT, x7]) := ⟨hlen, hcut⟩
  have RA : Hid (∀ (t : ByteArray) (w' : World), bs t = sess q a first → Below w.heap.size w w' → Calls Tryz.prog 23 #[.string t] w' fun e w2 => e = .returned (.string (tx R)) ∧ Below w'.heap.size w' w2) := by
    intro t w' ht hw'
    have z := runP t w' (HL.out.later hw')
    rw [ht, ← eR] at z
    exact z
  have ES : Hid (bs dq = dig q ∧ bs da = dig a) := ⟨by rw [edq, bs_tx], by rw [eda, bs_tx]⟩
  have h1 : ¬ (q : Int) < 1 := by omega
  have h2 : ¬ (30 : Int) < (q : Int) := by omega
  have h3 : ¬ (a : Int) < 1 := by omega
  have h4 : ¬ (30 : Int) < (a : Int) := by omega
  have h5 : ((q : Int) == (a : Int)) = false := by rw [beq_eq_false_iff_ne]; omega
  have z1 : (ByteArray.mk #[115, 97, 121, 32, 48, 32]).size = 6 := rfl
  have z2 : (ByteArray.mk #[10, 103, 105, 118, 101, 32, 48, 10, 115, 97, 121, 32, 49, 32]).size = 14 := rfl
  have z3 : (ByteArray.mk #[10]).size = 1 := rfl
  have z4 : (ByteArray.mk #[103, 105, 118, 101, 32, 50, 10, 103, 105, 118, 101, 32, 48, 10]).size = 14 := rfl
  have z5 : (ByteArray.mk #[103, 105, 118, 101, 32, 48, 10, 103, 105, 118, 101, 32, 49, 10]).size = 14 := rfl
  have z6 : (ByteArray.mk #[104, 101, 97, 114, 100, 32, 50, 10, 102, 97, 99, 101, 115, 10]).size = 14 := rfl
  have z7 : (ByteArray.mk #[32]).size = 1 := rfl
  have e5 : ((tx (dig q ++ 32 :: dig a)).toList == (dq ++ ByteArray.mk #[32] ++ da).toList) = true := two_eq (by
    rw [bs_tx, bs_append, bs_append, ES.out.1, ES.out.2]
    show dig q ++ 32 :: dig a = dig q ++ [32] ++ dig a
    simp)
  have e6 := lit_eq [102, 105, 102, 111, 32, 99, 97, 117, 115, 97, 108, 32, 116, 111, 116, 97, 108]
  clear hL hlen hcut eR edq eda hq ha hne
  cases first
  all_goals
    go_enter Tryz.func6, Tryz.ntmps6
    go_wp2_with fail
    refine (DQ.out w).mono ?_
    rintro e w1 ⟨rfl, rfl⟩
    go_wp2_with fail
    refine (DA.out w1).mono ?_
    rintro e w2 ⟨rfl, rfl⟩
    go_wp2_with fail
    refine (RA.out _ w2 (by
      simp only [bs_append, ES.out.1, ES.out.2]
      unfold sess
      first | rfl | simp [bs]) (Below.refl _ _)).mono ?_
    rintro e w3 ⟨rfl, hb⟩
    have B3 : Hid (Below w2.heap.size w2 w3) := hb
    clear hb
    go_wp2_with fail
    refine (cut_any (tx R) 10 (by rw [tx_size]; have := HR.out.1; omega) w3).mono ?_
    rintro e w4 ⟨v, rfl, ho, hb⟩
    have B4 : Hid (Below w2.heap.size w2 w4) := B3.out.trans (hb.mono B3.out.size)
    rw [bs_tx, HR.out.2] at ho
    obtain ⟨qv, cv, rfl, _, _, hc⟩ := ho.form
    obtain ⟨g, rfl, _, _, c5⟩ := hc 5 (by show 5 < 8; decide)
    obtain ⟨g', eg, _, _, c6⟩ := hc 6 (by show 6 < 8; decide)
    cases eg
    have k5 : w4.cell? ⟨g, 5, none⟩ = some (.string (tx (dig q ++ 32 :: dig a))) := c5
    have k6 : w4.cell? ⟨g, 6, none⟩ = some (.string (tx [102, 105, 102, 111, 32, 99, 97, 117, 115, 97, 108, 32, 116, 111, 116, 97, 108])) := c6
    clear hb ho hc c5 c6
    go_wp2
    go_ret
    exact ⟨rfl, B4.out⟩
theorem causal_any (q a : Int) (first : Bool) (w : World) (hL : Fit w) : Calls Tryz.prog 6 #[.int .i64 q, .int .i64 a, .bool first] w fun e w' => e = .returned (.bool true) ∧ Below w.heap.size w w' := by
  by_cases h : 1 ≤ q ∧ q ≤ 30 ∧ 1 ≤ a ∧ a ≤ 30 ∧ q ≠ a
  · obtain ⟨m, rfl⟩ : ∃ m : Nat, q = (m : Int) := ⟨q.toNat, by omega⟩
    obtain ⟨k, rfl⟩ : ∃ k : Nat, a = (k : Int) := ⟨a.toNat, by omega⟩
    exact causal_yes m k first w hL (by omega) (by omega) (by omega)
  · exact causal_no q a first w hL (by omega)
end Go.Proofs.YtdmniblonikjlakGreatDoor.Run
