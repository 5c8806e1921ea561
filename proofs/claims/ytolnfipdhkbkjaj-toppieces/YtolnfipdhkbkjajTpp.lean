/-
  TopPieces: the walk.
-/
import Derived.Test.YtolnfipdhkbkjajTppM
import Derived.Test.YtolnfipdhkbkjajTopO
namespace Go.Proofs.Ytolnfipdhkbkjaj.Wir
open Go.RowKit
open Go.Proofs.Ytolnfipdhkbkjaj.Fif (own_lt own_block own_form own_mono Kp ret_bool)
open Go.Proofs.Ytolnfipdhkbkjaj.Pie (Pc Pw pc pcs pcs_len pcs_get pcBad cut many many_spec many_le BK put cnt errF errF_ok errF_no splitC splitL split_zero split_size splitP_any JS JInv newJ takeP_any textP_any takeC takeN takeJ textC textS)
set_option linter.unusedVariables false

set_option maxRecDepth 100000 in
theorem pieces_no (t : ByteArray) (size : Int) (w : World) (h : splitC t size ≠ 0) : Calls Try.prog 3 #[.string t, .int .i64 size] w fun x w' => x = .returned (.bool true) ∧ Below w.heap.size w w' := by
  have H : Hid (splitC t size ≠ 0) := h
  clear h
  go_enter Try.func3, Try.ntmps3
  go_wp2_with fail
  refine (His.one_any w).mono ?_
  rintro e w1 ⟨rfl, hb⟩
  have B1 : Hid (Below w.heap.size w w1) := hb
  clear hb
  go_wp2_with fail
  refine (splitP_any t size w1).mono ?_
  rintro e w2 ⟨v2, rfl, ho2, hb2⟩
  rw [errF_no H.out]
  have B2 : Hid (Below w.heap.size w w2) := B1.out.trans (hb2.mono B1.out.size)
  clear ho2 hb2
  go_wp2
  go_ret
  exact ⟨rfl, B2.out⟩
/-- how all stands while pieces come -/
structure TP (w2 wr : World) (P : Nat) (t : ByteArray) (size : Nat) (is : Nat → Bool) : Prop where
  js : ∃ j fp, JS wr w2.heap.size P j fp ∧ BK t size j is ∧ JInv j
  bel : Below w2.heap.size w2 wr
set_option maxRecDepth 100000 in
set_option maxHeartbeats 4000000 in
theorem pieces_ok (t : ByteArray) (size : Nat) (w : World) (h1 : 1 ≤ size) (h12 : size ≤ 12) (h60 : t.size ≤ 60) : Calls Try.prog 3 #[.string t, .int .i64 (size : Int)] w fun x w' => x = .returned (.bool true) ∧ Below w.heap.size w w' := by
  have hc : splitC t (size : Int) = 0 := by
    unfold splitC
    rw [if_neg (by omega), if_neg (by omega)]
  obtain ⟨n, en⟩ : ∃ n, n = many t.size size := ⟨_, rfl⟩
  have H : Hid (splitC t (size : Int) = 0 ∧ 1 ≤ size ∧ size ≤ 12 ∧ t.size ≤ 60 ∧ n = many t.size size) := ⟨hc, h1, h12, h60, en⟩
  have hn1 : 1 ≤ n := by rw [en]; exact (many_spec h1).1
  have hn60 : n ≤ 60 := by rw [en]; exact many_le h1 h60
  have hts : (t.size : Int) ≤ 60 := by omega
  clear hc h1 h12 h60 en
  go_enter Try.func3, Try.ntmps3
  go_wp2_with fail
  refine (His.one_any w).mono ?_
  rintro e w1 ⟨rfl, hb⟩
  have B1 : Hid (Below w.heap.size w w1) := hb
  clear hb
  go_wp2_with fail
  refine (splitP_any t (size : Int) w1).mono ?_
  rintro e w2 ⟨v2, rfl, ho2, hb2⟩
  rw [H.out.1, errF_ok]
  rw [split_zero H.out.1, Int.toNat_natCast, ← H.out.2.2.2.2] at ho2
  obtain ⟨q2, cap2, rfl, _, hv2⟩ := ho2.view
  rw [pcs_len] at hv2 ⊢
  have V2 : Hid (Pw w2 q2 n (pcs t size n) ∧ Below w.heap.size w w2) := ⟨hv2, B1.out.trans (hb2.mono B1.out.size)⟩
  clear ho2 hb2 hv2
  obtain ⟨R, eR⟩ : ∃ R, R = rowN (pcs t size n) n := ⟨_, rfl⟩
  have hrow := rowP q2 n cap2 (pcs t size n) w2 V2.out.1
  have hRs : R.size = t.size + 3 * n := by rw [eR, H.out.2.2.2.2]; exact rows_len H.out.2.1
  have hro := rows_ok H.out.2.1 H.out.2.2.1 H.out.2.2.2.1
  rw [← H.out.2.2.2.2] at hro
  rw [hro.1, hro.2, ← eR, errF_ok] at hrow
  have HRow : Hid (Calls Try.prog 6 #[.slice q2 n cap2] w2 fun e w' => e = .returned (.tuple #[.string R, .nilIface]) ∧ Below w2.heap.size w2 w') := hrow
  have dR : ((R.size : Int) != (t.size : Int) + 3 * (n : Int)) = false := by
    rw [hRs]
    simp
  have dR2 : (((t.size : Int) + 3 * (n : Int)) != (t.size : Int) + 3 * (n : Int)) = false := by simp
  clear hrow hro eR
  go_wp2_with fail
  refine HRow.out.mono ?_
  rintro e w3 ⟨rfl, hb⟩
  have B3 : Hid (Below w2.heap.size w2 w3) := hb
  clear hb HRow
  go_wp2_with fail
  refine (newJ w3).mono ?_
  rintro e w4 ⟨P, fp, rfl, hj, hb⟩
  have T4 : Hid (TP w3 w4 P t size (got n 0 n)) := by
    rw [got_start]
    exact ⟨⟨Pie.start, fp, hj, BK.start t size, JInv.start⟩, hb⟩
  clear hj hb dR dR2
  go_wp2_with fail
  go_loopw [11] (fun x wr => ∃ r : Nat, r ≤ 2 ∧ x = .int .i64 (r : Int) ∧ Hid (TP w3 wr P t size (got n r n))) (fun x _ => 2 - (intOf x).toNat)
  case atStart => exact ⟨0, by omega, rfl, T4.out⟩
  case round =>
    clear T4
    obtain ⟨r, hr2, rfl, hQ⟩ := hrel
    have hr0 : (0 : Int) ≤ (r : Int) := by omega
    by_cases hlt : r < 2
    · have hr2' : (r : Int) < 2 := by omega
      have BW : Hid (Below w.heap.size w wr) := (V2.out.2.trans (B3.out.mono V2.out.2.size)).trans (hQ.out.bel.mono (Nat.le_trans V2.out.2.size B3.out.size))
      go_wp2_with fail
      go_loopw [12] (fun x wi => ∃ m : Nat, m ≤ n ∧ x = .int .i64 ((m : Int) - 1) ∧ Hid (TP w3 wi P t size (got n r m))) (fun x _ => ((intOf x) + 1).toNat)
      case atStart => exact ⟨n, by omega, rfl, hQ.out⟩
      case round =>
        clear hQ
        obtain ⟨m, hmn, rfl, hT⟩ := hrel
        by_cases hm : 0 < m
        · obtain ⟨k, rfl⟩ : ∃ k, m = k + 1 := ⟨m - 1, by omega⟩
          have hk : k < n := by omega
          have ek : ((k + 1 : Nat) : Int) - 1 = (k : Int) := by omega
          rw [ek]
          have hk0 : (0 : Int) ≤ (k : Int) := by omega
          have hkn : (k : Int) < (n : Int) := by omega
          have hk60 : (k : Int) < 60 := by omega
          obtain ⟨bl, ol, rfl, hbl, hcl⟩ := (V2.out.1.later (B3.out.trans (hT.out.bel.mono B3.out.size))).2 (by omega)
          obtain ⟨x0, x1, x2⟩ := hcl k hk
          rw [show pc (pcs t size n) k = ((k : Int), (many t.size size : Int), cut t size k) from pc_at t size hk] at x0 x1 x2
          simp only at x0 x1 x2
          obtain ⟨c, ec⟩ : ∃ c, c = cut t size k := ⟨_, rfl⟩
          rw [← ec] at x2
          rw [← H.out.2.2.2.2] at x1
          obtain ⟨j, fj, hjs, hbk, hji⟩ := hT.out.js
          have T1 : Hid (takeC j ((k : Int), (n : Int), c) = 0 ∧ takeN j ((k : Int), (n : Int), c) = (!decide (r ≠ 0)) ∧ BK t size (takeJ j ((k : Int), (n : Int), c)) (got n r k)) := by
            have e5 := H.out.2.2.2.2
            have hk' := hk
            rw [e5] at hk'
            have g1 := hbk.takeC H.out.2.1 H.out.2.2.1 H.out.2.2.2.1 hk'
            have g2 := hbk.takeN H.out.2.1 H.out.2.2.1 H.out.2.2.2.1 hk'
            have g3 := hbk.take H.out.2.1 H.out.2.2.1 H.out.2.2.2.1 hk'
            rw [← e5, ← ec] at g1 g2 g3
            rw [got_put hk] at g3
            rw [got_at hk] at g2
            exact ⟨g1, g2, g3⟩
          have J1 : Hid (JS wr w3.heap.size P j fj ∧ JInv j ∧ w3.heap.size ≤ wr.heap.size) := ⟨hjs, hji, hT.out.bel.size⟩
          clear hcl hjs hbk hji ec ek
          go_wp2_with fail
          refine (takeP_any w3.heap.size P j fj ((k : Int), (n : Int), c) wr J1.out.1 J1.out.2.1 J1.out.2.2).mono ?_
          rintro e w5 ⟨fp5, rfl, hj5, hb5, hk5, hn5⟩
          rw [T1.out.1, T1.out.2.1, errF_ok]
          have T5 : Hid (TP w3 w5 P t size (got n r k)) := ⟨⟨_, fp5, hj5, T1.out.2.2, J1.out.2.1.take _⟩, hT.out.bel.trans hb5⟩
          clear hj5 hb5 hk5 hn5 x0 x1 x2
          by_cases hre : r = 0
          · have dq : ((r : Int) == 0) = true := by simp [hre]
            have dz : (!decide (r ≠ 0)) = true := by simp [hre]
            rw [dz]
            clear dz hre
            go_wp2
            go_roundw
            case rel => exact ⟨k, by omega, by go_num, T5.out⟩
            case measure => simp [intOf]
          · have dq : ((r : Int) == 0) = false := by simp; omega
            have dz : (!decide (r ≠ 0)) = false := by simp [hre]
            rw [dz]
            clear dz hre
            go_wp2
            go_roundw
            case rel => exact ⟨k, by omega, by go_num, T5.out⟩
            case measure => simp [intOf]
        · have hm0 : m = 0 := by omega
          subst hm0
          have T6 : Hid (TP w3 wr P t size (got n (r + 1) n)) := by
            have q := hT.out
            rcases r with _ | _ | r
            · rw [got_next] at q
              exact q
            · rw [got_two] at q
              exact q
            · omega
          go_wp2
          go_roundw
          case rel => exact ⟨r + 1, by omega, by go_num, T6.out⟩
          case measure => simp [intOf]; omega
    · have hr : r = 2 := by omega
      subst hr
      obtain ⟨j, fj, hjs, hbk, hji⟩ := hQ.out.js
      obtain ⟨p1, p2, _⟩ := hbk.whole H.out.2.1 (by rw [← H.out.2.2.2.2]; exact got_all n 2 (by omega) n)
      have ht := textP_any w3.heap.size P j fj wr hjs hji
      rw [p1, p2, errF_ok] at ht
      have HT : Hid (Calls Try.prog 9 #[.pointer (some ⟨P, 0, none⟩)] wr fun x w' => x = .returned (.tuple #[.string t, .nilIface]) ∧ Below wr.heap.size wr w') := ht
      have BW : Hid (Below w.heap.size w wr) := (V2.out.2.trans (B3.out.mono V2.out.2.size)).trans (hQ.out.bel.mono (Nat.le_trans V2.out.2.size B3.out.size))
      have dt : (t.toList == t.toList) = true := by simp
      clear hjs hbk hji p1 p2 ht
      go_wp2_with fail
      refine HT.out.mono ?_
      rintro e w6 ⟨rfl, hb⟩
      have B6 : Hid (Below w.heap.size w w6) := BW.out.trans (hb.mono BW.out.size)
      clear hb HT
      go_wp2
      go_ret
      exact ⟨rfl, B6.out⟩
theorem pieces_any (t : ByteArray) (size : Int) (w : World) : Calls Try.prog 3 #[.string t, .int .i64 size] w fun x w' => x = .returned (.bool true) ∧ Below w.heap.size w w' := by
  by_cases h : splitC t size = 0
  · obtain ⟨h1, h2, h3⟩ := split_size h
    obtain ⟨s, rfl⟩ : ∃ s : Nat, size = (s : Int) := ⟨size.toNat, by omega⟩
    exact pieces_ok t s w (by omega) (by omega) h1
  · exact pieces_no t size w h
end Go.Proofs.Ytolnfipdhkbkjaj.Wir
