/-
  The walk of ClockAlone: of a member that thinks so often numbers and vectors count.
-/
import Derived.Test.YtibgdikahihgeabClkC
import Derived.Test.YtibgdikahihgeabHisP
namespace Go.Proofs.Ytibgdikahihgeab.His
open Go.RowKit
open Go.Proofs.Ytibgdikahihgeab.Vec

def alone (who : Int) (n : Nat) : List Ev := List.replicate n (who, 1, 0)
theorem alone_len (who : Int) (n : Nat) : (alone who n).length = n := by simp [alone]
theorem alone_ev {who : Int} {n i : Nat} (hi : i < n) : ev (alone who n) i = (who, 1, 0) := by simp [ev, alone, List.getD, hi]
theorem alone_step (who : Int) (n : Nat) : alone who (n + 1) = alone who n ++ [(who, 1, 0)] := by simp [alone, List.replicate_succ']
theorem alone_good {who : Int} {n : Nat} (h0 : 0 ≤ who) (h5 : who < 5) : Good (alone who n) n := by
  intro i hi
  rw [alone_ev hi]
  have h1 : isOne (who, 1, 0) = true := by simp [isOne, h0, h5]
  unfold next
  rw [if_neg (by rw [h1]; decide), if_neg (by simp), if_pos (by simp)]
theorem alone_chk {who : Int} {n : Nat} (h0 : 0 ≤ who) (h5 : who < 5) (hn : n ≤ 60) : chkC (alone who n) = 0 :=
  (chk_ok (by rw [alone_len]; exact hn) (by rw [alone_len]; exact alone_good h0 h5)).1
theorem alone_W {who : Int} {n i : Nat} (hi : i < n) : W (alone who n) i = who.toNat := by simp [W, alone_ev hi]
theorem alone_cnt {who : Int} {n : Nat} : ∀ i, i ≤ n → cnt (alone who n) who.toNat i = i := by
  intro i
  induction i with
  | zero => intro _; rfl
  | succ i ih =>
    intro hi
    rw [cnt_step, ih (by omega), if_pos (alone_W (by omega))]
    omega
theorem alone_row {who : Int} {n k : Nat} (h0 : 0 ≤ who) (h5 : who < 5) (hk : k < n) : (row (alone who n) k).getD who.toNat 0 = k + 1 := by
  have := row_self (alone_good (n := n) h0 h5) hk
  rw [alone_W hk] at this
  rw [this, own, alone_W hk, alone_cnt _ (by omega)]
  rfl
theorem alone_num {who : Int} {n : Nat} (h0 : 0 ≤ who) (h5 : who < 5) : ∀ k, k < n → num (alone who n) k = k + 1 := by
  intro k
  induction k using Nat.strongRecOn with
  | _ k ih =>
    intro hk
    have hg := alone_good (n := n) h0 h5
    rw [num_get hg hk, if_neg (by rw [alone_ev hk]; simp)]
    have : nlast (alone who n) k (W (alone who n) k) = k := by
      rcases nlast_spec (alone who n) (W (alone who n) k) k with ⟨j, h1, h2, h3, h4⟩ | ⟨h1, h2⟩
      · rw [h4, ih j h1 (by omega)]
        rcases Nat.lt_or_ge (j + 1) k with a | a
        · exact absurd (by rw [alone_W (by omega), alone_W hk]) (h3 (j + 1) (by omega) a)
        · omega
      · rcases Nat.eq_zero_or_pos k with rfl | a
        · exact h2
        · exact absurd (by rw [alone_W (by omega), alone_W hk]) (h1 0 a)
    rw [this]
    omega

set_option maxRecDepth 100000 in
set_option maxHeartbeats 4000000 in
theorem alone_walk (who n : Int) (w : World) :
    Calls Try.prog 4 #[.int .i64 who, .int .i64 n] w fun e w' => e = .returned (.bool true) ∧ Below w.heap.size w w' := by
  by_cases h1 : who < 0
  · go_enter Try.func4, Try.ntmps4
    go_wp2
    go_ret
    exact ⟨rfl, Below.refl _ _⟩
  by_cases h2 : 4 < who
  · go_enter Try.func4, Try.ntmps4
    go_wp2
    go_ret
    exact ⟨rfl, Below.refl _ _⟩
  by_cases h3 : n < 1
  · go_enter Try.func4, Try.ntmps4
    go_wp2
    go_ret
    exact ⟨rfl, Below.refl _ _⟩
  by_cases h4 : 60 < n
  · go_enter Try.func4, Try.ntmps4
    go_wp2
    go_ret
    exact ⟨rfl, Below.refl _ _⟩
  obtain ⟨N, rfl⟩ : ∃ N : Nat, n = N := ⟨n.toNat, by omega⟩
  obtain ⟨m, rfl⟩ : ∃ m : Nat, who = m := ⟨who.toNat, by omega⟩
  have hN1 : 1 ≤ N := by omega
  have hN60 : N ≤ 60 := by omega
  have hm5 : m < 5 := by omega
  have hm0' : (0 : Int) ≤ (m : Int) := by omega
  have hm5' : (m : Int) < 5 := by omega
  obtain ⟨ie, hi, hz0, hz1, hz2⟩ := info_ev
  have HI : Hid (Try.prog.info? 24 = some ie ∧ ie.zero = some (.agg #[.int .i64 0, .int .i64 0, .int .i64 0]) ∧ ie.size = 3 ∧ ie.bytes = 24) := ⟨hi, hz0, hz1, hz2⟩
  clear hi hz0 hz1 hz2
  go_enter Try.func4, Try.ntmps4
  go_wp2
  go_loopw [5, 6] (fun v i wr => ∃ k : Nat, k ≤ N ∧ i = .int .i64 k ∧ Hid (Below w.heap.size w wr) ∧ Hid (Eo wr w.heap.size v (alone m k))) (fun _ i _ => N - (intOf i).toNat)
  case atStart => exact ⟨0, by omega, rfl, Below.refl _ _, World.ownsRow_nil _ _ _ _⟩
  case round =>
    obtain ⟨k, hk, rfl, hbel, hE⟩ := hrel
    by_cases hlt : k < N
    · have hkl : (k : Int) < (N : Int) := by omega
      have SZ : Hid (w.heap.size ≤ wr.heap.size) := hbel.out.size
      go_wp2_with (at_builtin; refine wpList_append_own _ rfl _ _ 22 rfl w.heap.size 24 ie (.agg #[.int .i64 0, .int .i64 0, .int .i64 0]) 3 24 Try.underlying22 HI.out.1 HI.out.2.1 HI.out.2.2.1 HI.out.2.2.2 rfl (by decide) _ k (flat (alone m k)) rfl (by have o := hE.out.alloc (.cells #[.int .i64 (m : Int), .int .i64 1, .int .i64 0] 24); unfold Eo at o; rw [alone_len] at o; exact o) ⟨wr.heap.size, 0, none⟩ 1 1 (flat [((m : Int), 1, 0)]) rfl rfl (by exact news1 wr _ rfl (m : Int) 1 0 24) (flat_one _) (by unfold maxLen; omega) (by omega) (by have := SZ.out; simp; omega) ?_; intro v' wn hown hgrow _; have HO : Hid _ := hown; have HGr : Hid _ := hgrow; clear hown hgrow)
      go_roundw
      case rel =>
        refine ⟨k + 1, by omega, by go_num, ?_, ?_⟩
        · exact (hbel.out.alloc SZ.out _).grown HGr.out (by have := SZ.out; simp; omega) hE.out.own
        · show World.ownsRow _ _ _ _ _ _ _
          rw [alone_len, alone_step, flat_append]
          exact HO.out
      case measure => simp [intOf]; omega
    · have hkl : k = N := by omega
      subst hkl
      have hv : ∃ g cap, u5 = .slice (some ⟨g, 0, none⟩) k cap ∧ Ew wr (some ⟨g, 0, none⟩) k (alone m k) ∧ k ≤ cap ∧ cap ≤ maxLen := by
        have o := hE.out
        rcases o.2 with ⟨_, h0⟩ | ⟨g, cap, cur, e, _⟩
        · rw [alone_len] at h0; omega
        · rw [alone_len] at e
          subst e
          obtain ⟨_, a, b, c, _⟩ := o.ew
          exact ⟨g, cap, rfl, a, b, c⟩
      obtain ⟨g, cap, rfl, hv, hlc, hmx⟩ := hv
      have HV : Hid (Ew wr (some ⟨g, 0, none⟩) k (alone m k)) := hv
      have hc : chkC (alone (m : Int) k) = 0 := alone_chk hm0' hm5' hN60
      clear hv
      go_wp2_with fail
      refine (vectors_ok _ k cap _ _ hlc hmx HV.out hc).mono ?_
      rintro e w1 ⟨A, rfl, hb, hL⟩
      have V1 : Hid (Below w.heap.size w w1) := below_up rfl hbel.out hb
      have HV1 : Hid (Ew w1 (some ⟨g, 0, none⟩) k (alone m k)) := HV.out.later hb
      have L1 : Hid (Lw w1 (some ⟨A, 0, none⟩) k (rows (alone m k) k)) := hL
      clear hb hL
      go_wp2_with fail
      refine (numbers_ok _ k cap _ _ hlc hmx HV1.out hc).mono ?_
      rintro e w2 ⟨A2, rfl, hb, hN, -, -⟩
      have V2 : Hid (Below w.heap.size w w2) := below_up rfl V1.out hb
      have L2 : Hid (Lw w2 (some ⟨A, 0, none⟩) k (rows (alone m k) k)) := L1.out.later hb
      have N2 : Hid (Vw w2 (some ⟨A2, 0, none⟩) k (nums (alone m k) k)) := hN
      clear hb hN hE
      go_wp2
      go_loopw [11] (fun i wz => ∃ j : Nat, j ≤ k ∧ i = .int .i64 j ∧ Hid (Below w2.heap.size w2 wz)) (fun i _ => k - (intOf i).toNat)
      case atStart => exact ⟨0, by omega, rfl, Below.refl _ _⟩
      case round =>
        obtain ⟨j, hj, rfl, hbz⟩ := hrel
        by_cases hjlt : j < k
        · have hj0 : (0 : Int) ≤ (j : Int) := by omega
          have hjl : (j : Int) < (k : Int) := by omega
          obtain ⟨b, off, e, _, hc1⟩ := (L2.out.later hbz.out).2 (by omega)
          cases e
          obtain ⟨q, c, c0, hq⟩ := hc1 j hjlt
          rw [rows_get _ hjlt, row_len] at c0 hq
          obtain ⟨b1, off1, rfl, _, hc2⟩ := hq.2 (by omega)
          have c1 := hc2 m hm5
          have hr := alone_row (who := (m : Int)) (n := k) hm0' hm5' hjlt
          rw [Int.toNat_natCast] at hr
          rw [hr] at c1
          obtain ⟨b2, off2, e, _, hc3⟩ := (N2.out.later hbz.out).2 (by omega)
          cases e
          have c2 := hc3 j hjlt
          rw [nums_get _ hjlt, alone_num hm0' hm5' j hjlt] at c2
          rw [Nat.zero_add] at c0 c2
          clear hc1 hc2 hc3 hq hr
          go_wp2
          go_roundw
          case rel => exact ⟨j + 1, by omega, by go_num, hbz.out⟩
          case measure => simp [intOf]; omega
        · have hkl : j = k := by omega
          subst hkl
          go_wp2
          go_ret
          exact ⟨rfl, below_up rfl V2.out hbz.out⟩
end Go.Proofs.Ytibgdikahihgeab.His
