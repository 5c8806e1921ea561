/-
  RunBegins: the walk.
-/
import Derived.Test.YtdmniblonikjlakGreatDoorMgX
import Derived.Test.YtdmniblonikjlakGreatDoorRunC
import Derived.Test.YtdmniblonikjlakGreatDoorMgS
import Derived.Deep.CutRange
namespace Go.Proofs.YtdmniblonikjlakGreatDoor.Run
open Go.RowKit
set_option linter.unusedVariables false

/-- as far as whole lines were counted -/
def KB (t : ByteArray) (many : Int) (k : Nat) (n : Int) : Prop := (k = 0 ∨ (∃ h : k - 1 < t.size, t[k - 1]'h = 10) ∨ n < many) ∧ (0 ≤ n ∧ n ≤ (k : Int))
/-- a beginning of whole lines -/
theorem whole {t : ByteArray} {k : Nat} (hk : k ≤ t.size) (h : k = 0 ∨ ∃ h : k - 1 < t.size, t[k - 1]'h = 10) : (bs t).take k = [] ∨ ∃ a, (bs t).take k = a ++ [10] := by
  rcases Nat.eq_zero_or_pos k with h0 | h0
  · left
    rw [h0]
    rfl
  · rcases h with h | ⟨hl, h10⟩
    · omega
    · right
      refine ⟨(bs t).take (k - 1), ?_⟩
      have e : k = (k - 1) + 1 := by omega
      have := take_at (f := 0) hl (Nat.zero_le _)
      rw [h10] at this
      simp only [List.drop_zero] at this
      rw [← e] at this
      exact this
theorem begun {t : ByteArray} {k : Nat} (ht : t.size ≤ 3000) (hk : k ≤ t.size) (h : k = t.size ∨ k = 0 ∨ ∃ h : k - 1 < t.size, t[k - 1]'h = 10) : ∃ r, run (bs t) = run ((bs t).take k) ++ r := by
  rcases h with h | h
  · refine ⟨[], ?_⟩
    rw [List.append_nil, List.take_of_length_le (by rw [bs_len]; omega)]
  · have e : bs t = (bs t).take k ++ (bs t).drop k := (List.take_append_drop k _).symm
    have hp := begins ((bs t).take k) ((bs t).drop k) (by rw [← e, bs_len]; exact ht) (whole hk h)
    rw [← e] at hp
    obtain ⟨r, hr⟩ := hp
    exact ⟨r, hr.symm⟩
theorem fact_run : run (bs (ByteArray.mk #[115, 97, 121, 32, 48, 32, 53, 10, 119, 97, 121, 10, 102, 108, 121, 10, 103, 105, 118, 101, 32, 49, 10])) = [111, 107, 10, 48, 62, 49, 58, 53, 32, 48, 62, 50, 58, 53, 10, 98, 97, 100, 10, 53, 10] := four
theorem str_self (a b : ByteArray) (h : a = b) : (a.toList == b.toList) = true := by rw [h]; simp
theorem str_lit (l : T) : ((tx l).toList == l) = true := by
  rw [Lib.toList_data]
  show (bs (tx l) == l) = true
  rw [bs_tx]
  simp
set_option maxRecDepth 100000 in
set_option maxHeartbeats 4000000 in
theorem begins_any (t : ByteArray) (many : Int) (w : World) (hL : Fit w) : Calls Tryz.prog 5 #[.string t, .int .i64 many] w fun e w' => e = .returned (.bool true) ∧ Below w.heap.size w w' := by
  have HL : Hid (Fit w) := hL
  obtain ⟨N, eN⟩ : ∃ N, N = t.size := ⟨_, rfl⟩
  have hsz : (t.size : Int) = (N : Int) := by rw [eN]
  have EN : Hid (N = t.size) := eN
  have hf := str_lit [111, 107, 10, 48, 62, 49, 58, 53, 32, 48, 62, 50, 58, 53, 10, 98, 97, 100, 10, 53, 10]
  clear hL eN
  go_enter Tryz.func5, Tryz.ntmps5
  go_wp2_with fail
  refine (runP _ w HL.out).mono ?_
  rw [fact_run]
  rintro e w1 ⟨rfl, hb⟩
  have B1 : Hid (Below w.heap.size w w1) := hb
  clear hb
  by_cases hl : 3000 < N
  · have hlI : (3000 : Int) < (N : Int) := by omega
    have hr : run (bs t) = [116, 111, 111, 32, 108, 111, 110, 103, 10] := if_pos (by rw [bs_len]; have := EN.out; omega)
    have hg := str_lit [116, 111, 111, 32, 108, 111, 110, 103, 10]
    clear hl
    go_wp2_with fail
    refine (runP t w1 (HL.out.later B1.out)).mono ?_
    rw [hr]
    rintro e w2 ⟨rfl, hb⟩
    have B2 : Hid (Below w.heap.size w w2) := B1.out.trans (hb.mono B1.out.size)
    clear hb hr
    go_wp2
    go_ret
    exact ⟨rfl, B2.out⟩
  · have hlI : ¬ (3000 : Int) < (N : Int) := by omega
    have hN9 : (N : Int) ≤ 3000 := by omega
    clear hl
    go_wp2
    go_loopw [7, 8] (fun y z wr => ∃ (k : Nat) (n : Int), k ≤ N ∧ y = .int .i64 (k : Int) ∧ z = .int .i64 n ∧ Hid (KB t many k n) ∧ w1 = wr) (fun y _ _ => N - (intOf y).toNat)
    case atStart => exact ⟨0, 0, by omega, rfl, rfl, ⟨.inl rfl, by omega, by omega⟩, rfl⟩
    case round =>
      obtain ⟨k, n, hk, rfl, rfl, hK, rfl⟩ := hrel
      have hk0 : (0 : Int) ≤ (k : Int) := by omega
      have hn0 := hK.out.2.1
      have hn1 := hK.out.2.2
      by_cases hlt : (k : Int) < (N : Int)
      · by_cases hm : n < many
        · have hil : k < t.size := by have := EN.out; omega
          have i0 := index_at (t := t) (i := k) (a := (k : Int)) rfl hil
          obtain ⟨x, ex⟩ : ∃ x, x = t[k]'hil := ⟨_, rfl⟩
          rw [← ex] at i0
          by_cases hx : x = 10
          · have hx1 : ((x.toNat : Int) == 10) = true := by rw [hx]; rfl
            have HK : Hid (KB t many (k + 1) (n + 1)) := ⟨.inr (.inl ⟨hil, by rw [← hx, ex]; rfl⟩), by omega, by omega⟩
            clear hx ex hK
            go_wp2
            go_roundw
            case rel => exact ⟨k + 1, n + 1, by omega, by go_num, rfl, HK.out, by first | rfl | trivial⟩
            case measure => simp [intOf]; omega
          · have hx1 : ((x.toNat : Int) == 10) = false := by
              rw [beq_eq_false_iff_ne]
              intro z
              exact hx (UInt8.toNat_inj.1 (by show x.toNat = 10; omega))
            have HK : Hid (KB t many (k + 1) n) := ⟨.inr (.inr hm), by omega, by omega⟩
            clear hx ex hK
            go_wp2
            go_roundw
            case rel => exact ⟨k + 1, n, by omega, by go_num, rfl, HK.out, by first | rfl | trivial⟩
            case measure => simp [intOf]; omega
        · have hw : k = 0 ∨ ∃ h : k - 1 < t.size, t[k - 1]'h = 10 := by
            rcases hK.out.1 with a | a | a
            · exact .inl a
            · exact .inr a
            · exact absurd a hm
          have KE : Hid (∃ r, run (bs t) = run ((bs t).take k) ++ r) := begun (by have := EN.out; omega) (by have := EN.out; omega) (.inr hw)
          clear hK hw
          obtain ⟨r, er⟩ := KE.out
          obtain ⟨ra, era⟩ : ∃ ra, ra = tx (run ((bs t).take k)) := ⟨_, rfl⟩
          obtain ⟨rb, erb⟩ : ∃ rb, rb = tx (run (bs t)) := ⟨_, rfl⟩
          have ER : Hid (rb = ra ++ tx r) := by show _ = _; rw [erb, er, tx_append, era]
          have hle : (ra.size : Int) ≤ (rb.size : Int) := by
            rw [ER.out, ByteArray.size_append]
            omega
          have hex : (rb.extract 0 ra.size).toList == ra.toList := by
            have e : rb.extract 0 ra.size = ra := by
              apply bs_inj
              rw [bs_extract, ER.out, bs_append, List.drop_zero, List.take_append_of_le_length (by rw [bs_len]; omega), List.take_of_length_le (by rw [bs_len]; omega)]
            rw [e]
            simp
          obtain ⟨tk, etk⟩ : ∃ tk, tk = t.extract 0 k := ⟨_, rfl⟩
          have hsl : ∀ W : World, (Instr.slice 9 (.string t) none (some (.int .i64 (k : Int))) none).run Tryz.prog W = .ok (.string tk) W := fun W => by
            rw [run_slice_string_to_if W 9 t .i64 (k : Int) Tryz.underlying9, if_pos ⟨by omega, by have := EN.out; omega⟩, etk]
            rfl
          have RA : Hid (∀ w', Below w.heap.size w w' → Calls Tryz.prog 23 #[.string tk] w' fun e w2 => e = .returned (.string ra) ∧ Below w'.heap.size w' w2) := by
            intro w' hw'
            have q := runP tk w' (HL.out.later hw')
            have e : bs tk = (bs t).take k := by rw [etk, bs_extract, List.drop_zero]
            rw [e, ← era] at q
            exact q
          have RB : Hid (∀ w', Below w.heap.size w w' → Calls Tryz.prog 23 #[.string t] w' fun e w2 => e = .returned (.string rb) ∧ Below w'.heap.size w' w2) := by
            intro w' hw'
            have q := runP t w' (HL.out.later hw')
            rw [← erb] at q
            exact q
          clear er era erb etk
          go_wp2_with fail
          refine (RA.out w1 B1.out).mono ?_
          rintro e w2 ⟨rfl, hb⟩
          have B2 : Hid (Below w.heap.size w w2) := B1.out.trans (hb.mono B1.out.size)
          clear hb
          go_wp2_with fail
          refine (RB.out w2 B2.out).mono ?_
          rintro e w3 ⟨rfl, hb⟩
          have B3 : Hid (Below w.heap.size w w3) := B2.out.trans (hb.mono B2.out.size)
          clear hb
          go_wp2
          go_ret
          exact ⟨rfl, B3.out⟩
      · have hkN : k = N := by omega
        have KE : Hid (∃ r, run (bs t) = run ((bs t).take k) ++ r) := begun (by have := EN.out; omega) (by have := EN.out; omega) (.inl (by have := EN.out; omega))
        clear hK hkN
        obtain ⟨r, er⟩ := KE.out
        obtain ⟨ra, era⟩ : ∃ ra, ra = tx (run ((bs t).take k)) := ⟨_, rfl⟩
        obtain ⟨rb, erb⟩ : ∃ rb, rb = tx (run (bs t)) := ⟨_, rfl⟩
        have ER : Hid (rb = ra ++ tx r) := by show _ = _; rw [erb, er, tx_append, era]
        have hle : (ra.size : Int) ≤ (rb.size : Int) := by
          rw [ER.out, ByteArray.size_append]
          omega
        have hex : (rb.extract 0 ra.size).toList == ra.toList := by
          have e : rb.extract 0 ra.size = ra := by
            apply bs_inj
            rw [bs_extract, ER.out, bs_append, List.drop_zero, List.take_append_of_le_length (by rw [bs_len]; omega), List.take_of_length_le (by rw [bs_len]; omega)]
          rw [e]
          simp
        obtain ⟨tk, etk⟩ : ∃ tk, tk = t.extract 0 k := ⟨_, rfl⟩
        have hsl : ∀ W : World, (Instr.slice 9 (.string t) none (some (.int .i64 (k : Int))) none).run Tryz.prog W = .ok (.string tk) W := fun W => by
          rw [run_slice_string_to_if W 9 t .i64 (k : Int) Tryz.underlying9, if_pos ⟨by omega, by have := EN.out; omega⟩, etk]
          rfl
        have RA : Hid (∀ w', Below w.heap.size w w' → Calls Tryz.prog 23 #[.string tk] w' fun e w2 => e = .returned (.string ra) ∧ Below w'.heap.size w' w2) := by
          intro w' hw'
          have q := runP tk w' (HL.out.later hw')
          have e : bs tk = (bs t).take k := by rw [etk, bs_extract, List.drop_zero]
          rw [e, ← era] at q
          exact q
        have RB : Hid (∀ w', Below w.heap.size w w' → Calls Tryz.prog 23 #[.string t] w' fun e w2 => e = .returned (.string rb) ∧ Below w'.heap.size w' w2) := by
          intro w' hw'
          have q := runP t w' (HL.out.later hw')
          rw [← erb] at q
          exact q
        clear er era erb etk
        go_wp2_with fail
        refine (RA.out w1 B1.out).mono ?_
        rintro e w2 ⟨rfl, hb⟩
        have B2 : Hid (Below w.heap.size w w2) := B1.out.trans (hb.mono B1.out.size)
        clear hb
        go_wp2_with fail
        refine (RB.out w2 B2.out).mono ?_
        rintro e w3 ⟨rfl, hb⟩
        have B3 : Hid (Below w.heap.size w w3) := B2.out.trans (hb.mono B2.out.size)
        clear hb
        go_wp2
        go_ret
        exact ⟨rfl, B3.out⟩
end Go.Proofs.YtdmniblonikjlakGreatDoor.Run
