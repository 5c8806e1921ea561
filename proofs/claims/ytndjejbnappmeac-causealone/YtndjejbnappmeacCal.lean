/-
  The walk of CauseAlone: words of one, in order, are heard at once.
-/
import Derived.Test.YtndjejbnappmeacCauP
import Derived.Test.YtndjejbnappmeacCalM
namespace Go.Proofs.Ytndjejbnappmeac.Cau
open Go.RowKit
open Go.Proofs.Ytndjejbnappmeac.Vec (Vw)
open Go.Proofs.Ytndjejbnappmeac.Fif (own_lt own_block own_form own_vw own_mono Kp ret_bool)
set_option linter.unusedVariables false

theorem cs_laterA {w w' : World} {base P : Nat} {me : Int} {K : List Int} {ws : List Sd} {fp : List Nat} (g : CS w base P me K ws fp) (hb : Below w.heap.size w w') : CS w' base P me K ws fp := g.of_blocks hb.size (fun b h => hb.block b (g.fp b h).2)
theorem cs_kpl {w w' : World} {base P : Nat} {me : Int} {K : List Int} {ws : List Sd} {fp fp' : List Nat} (g : CS w base P me K ws fp) (hk : KpL w w' fp') (sep : ∀ b ∈ fp, b ∉ fp') : CS w' base P me K ws fp := g.of_blocks hk.1 (fun b h => hk.2 b (g.fp b h).2 (sep b h))
theorem own_laterA {w w' : World} {base : Nat} {t : TypeId} {s : Nat} {v : Value} {n : Nat} {xs : List Value} (o : w.ownsRow base t s v n xs) (hb : Below w.heap.size w w') : w'.ownsRow base t s v n xs := own_block o fun k hk => hb.block k (own_lt o k hk).2
theorem vw_heapA {w w' : World} {a : Option Addr} {n : Nat} {xs : List Int} (h : Vw w a n xs) (e : w'.heap = w.heap) : Vw w' a n xs :=
  ⟨h.1, fun hn => by
    obtain ⟨b, off, e1, h1, h2⟩ := h.2 hn
    exact ⟨b, off, e1, by rw [e]; exact h1, fun k hk => (World.cell?_of_block (w := w) (by rw [e])).trans (h2 k hk)⟩⟩
/-- both stand alike -/
def AL (w : World) (PX PY : Nat) (a : Nat) (b : Int) (i : Int) (wr : World) : Prop :=
  ∃ fx fy, CS wr w.heap.size PX (a : Int) (Ka a i) [] fx ∧ CS wr w.heap.size PY b (Ka a i) [] fy ∧ (∀ k ∈ fx, k ∉ fy) ∧ Below w.heap.size w wr

set_option maxRecDepth 100000 in
set_option maxHeartbeats 2000000 in
theorem calone_yes (a b : Nat) (n : Int) (w : World) (ha : a < 5) (hb : b < 5) (hab : a ≠ b) (h0 : 0 ≤ n) (h1 : n ≤ 30) :
    Calls Try.prog 5 #[.int .i64 (a : Int), .int .i64 (b : Int), .int .i64 n] w fun e w' => e = .returned (.bool true) ∧ Below w.heap.size w w' := by
  have hA0 : (0 : Int) ≤ (a : Int) := by omega
  have hA4 : (a : Int) ≤ 4 := by omega
  have hA5 : (a : Int) < 5 := by omega
  have hB4 : 0 ≤ (b : Int) ∧ (b : Int) ≤ 4 := by omega
  have hne : ((a : Int) == (b : Int)) = false := by simp; omega
  have d1 : decide (n < 0) = false := by simp; omega
  have d2 : decide (30 < n) = false := by simp; omega
  have HAB : Hid (¬ (a : Int) = (b : Int)) := (by show ¬ _; omega)
  go_enter Try.func5, Try.ntmps5
  go_wp2_with fail
  refine (newC_ok (a : Int) w ⟨hA0, hA4⟩).mono ?_
  rintro e w1 ⟨PX, fx, rfl, hC, hB⟩
  have S1 : Hid (CS w1 w.heap.size PX (a : Int) [0, 0, 0, 0, 0] [] fx ∧ Below w.heap.size w w1) := ⟨hC, hB⟩
  clear hC hB
  go_wp2_with fail
  refine (newC_ok (b : Int) w1 hB4).mono ?_
  rintro e w2 ⟨PY, fy, rfl, hC, hB⟩
  have S2 : Hid (AL w PX PY a (b : Int) 0 w2) := by
    refine ⟨fx, fy, ?_, ?_, fun k hk q => ?_, S1.out.2.trans (hB.mono S1.out.2.size)⟩
    · rw [Ka_start a ha]; exact cs_laterA S1.out.1 hB
    · rw [Ka_start a ha]; exact hC.low S1.out.2.size
    · have := (S1.out.1.fp k hk).2
      have := (hC.fp k q).1
      omega
  clear hC hB
  go_wp2
  go_loopw [11] (fun x wr => ∃ i : Int, 0 ≤ i ∧ i ≤ n ∧ x = .int .i64 (i + 1) ∧ Hid (AL w PX PY a (b : Int) i wr)) (fun x _ => (n + 1 - intOf x).toNat)
  case atStart => exact ⟨0, by omega, by omega, rfl, S2⟩
  case round =>
    obtain ⟨i, hi0, hin, rfl, hR⟩ := hrel
    obtain ⟨fx2, fy2, q1, q2, q3, q4⟩ := hR.out
    have R : Hid (CS wr w.heap.size PX (a : Int) (Ka a i) [] fx2 ∧ CS wr w.heap.size PY (b : Int) (Ka a i) [] fy2 ∧ (∀ k ∈ fx2, k ∉ fy2) ∧ Below w.heap.size w wr) := ⟨q1, q2, q3, q4⟩
    clear q1 q2 q3 q4 hR
    by_cases hlt : i + 1 ≤ n
    · have SC : Hid (sayC (a : Int) (Ka a i) (i + 1) = 0) := Ka_say ha hi0 (by omega)
      have TC : Hid _ := Ka_take ha HAB.out hi0 (show i < 30 by omega)
      go_wp2_with fail
      refine (sayP_any w.heap.size PX (a : Int) (Ka a i) [] fx2 (i + 1) wr R.out.1 (Ka_inv ha ⟨hA0, hA4⟩ hi0 (by omega)) R.out.2.2.2.size).mono ?_
      rintro e w3 ⟨s0, s1, vc, fx3, rfl, hC3, hS3, hB3, hK3, hN3, hV3⟩
      obtain ⟨f0, f1, o3⟩ := hS3
      rw [if_pos SC.out] at f0 f1
      subst f0 f1
      rw [sayL, if_pos SC.out, Ka_inc ha, Ka_len] at o3
      rw [sayK, if_pos SC.out, Ka_inc ha] at hC3
      rw [SC.out, errF_ok]
      obtain ⟨qc, cc, rfl⟩ := own_form o3
      obtain ⟨W3, eW3⟩ : ∃ W3, W3 = w3.alloc (.cells #[.int .i64 (a : Int), .int .i64 (i + 1), .slice qc 5 cc] 45) := ⟨_, rfl⟩
      have BW3 : Below w3.heap.size w3 W3 := by rw [eW3]; exact (Below.refl _ _).alloc (Nat.le_refl _) _
      have G3 : Hid (CS W3 w.heap.size PX (a : Int) (Ka a (i + 1)) [] fx3 ∧ CS W3 w.heap.size PY (b : Int) (Ka a i) [] fy2 ∧ (∀ k ∈ fx3, k ∉ fy2) ∧ Below w.heap.size w W3 ∧ Vw W3 qc 5 (Ka a (i + 1))) := by
        obtain ⟨_, _, q, hv⟩ := own_vw o3
        cases q
        have b3 := R.out.2.2.2.trans hB3
        refine ⟨cs_laterA hC3 BW3, cs_laterA (cs_kpl R.out.2.1 hK3 (fun k hk q => R.out.2.2.1 k q hk)) BW3, fun k hk q => ?_, b3.trans (BW3.mono b3.size), hv.later BW3⟩
        rcases hN3 k hk with z | z
        · exact R.out.2.2.1 k z q
        · have := (R.out.2.1.fp k q).2; omega
      clear hC3 o3 hB3 hK3 hN3 hV3 BW3
      go_wp2_with fail
      rw [← eW3]
      clear eW3
      refine (takeP_any w.heap.size PY (b : Int) (Ka a i) [] fy2 (a : Int) (i + 1) qc 5 cc (Ka a (i + 1)) W3 G3.out.2.1 (Ka_inv ha hB4 hi0 (by omega)) G3.out.2.2.2.1.size G3.out.2.2.2.2).mono ?_
      rintro e w4 ⟨vo, fy4, rfl, hC4, hO4, hB4', hK4, hN4, hV4⟩
      rw [TC.out.2] at hC4 hO4
      rw [TC.out.1, errF_ok]
      obtain ⟨qo, co, rfl, hvo⟩ := own_vw hO4
      obtain ⟨b4, o4, rfl, -, hcs⟩ := hvo.2 (by show 0 < 1; omega)
      have k0 : w4.cell? ⟨b4, o4, none⟩ = some (.int .i64 (i + 1)) := hcs 0 (by show 0 < 1; omega)
      have R4 : Hid (AL w PX PY a (b : Int) (i + 1) w4) := by
        refine ⟨fx3, fy4, cs_kpl G3.out.1 hK4 G3.out.2.2.1, hC4, fun k hk q => ?_, G3.out.2.2.2.1.trans hB4'⟩
        rcases hN4 k q with z | z
        · exact G3.out.2.2.1 k hk z
        · have := (G3.out.1.fp k hk).2; omega
      have hee : (i + 1 != i + 1) = false := by simp
      clear hC4 hO4 hB4' hK4 hN4 hV4 hvo hcs G3
      go_wp2
      go_roundw
      case rel => exact ⟨i + 1, by omega, by omega, by go_num, R4.out⟩
      case measure => simp [intOf]; omega
    · have hin' : i = n := by omega
      subst hin'
      go_wp2_with fail
      refine (clockP_any w.heap.size PX (a : Int) (Ka a i) [] fx2 wr R.out.1).mono ?_
      rintro e w5 ⟨vx, rfl, o5, b5⟩
      obtain ⟨qx, cx, rfl, hvx⟩ := own_vw o5
      have G5 : Hid (CS w5 w.heap.size PY (b : Int) (Ka a i) [] fy2 ∧ Below w.heap.size w w5 ∧ Vw w5 qx 5 (Ka a i)) := ⟨cs_laterA R.out.2.1 b5, R.out.2.2.2.trans (b5.mono R.out.2.2.2.size), hvx⟩
      clear o5 b5 hvx
      go_wp2_with fail
      refine (clockP_any w.heap.size PY (b : Int) (Ka a i) [] fy2 w5 G5.out.1).mono ?_
      rintro e w6 ⟨vy, rfl, o6, b6⟩
      obtain ⟨qy, cy, rfl, hvy⟩ := own_vw o6
      have G6 : Hid (CS w6 w.heap.size PY (b : Int) (Ka a i) [] fy2 ∧ Below w.heap.size w w6 ∧ Vw w6 qx 5 (Ka a i) ∧ Vw w6 qy 5 (Ka a i)) := ⟨cs_laterA G5.out.1 b6, G5.out.2.1.trans (b6.mono G5.out.2.1.size), G5.out.2.2.later b6, hvy⟩
      clear o6 b6 hvy G5
      go_wp2_with fail
      refine (ints_same qx qy 5 cx 5 cy (Ka a i) w6 G6.out.2.2.1 G6.out.2.2.2 (by unfold maxLen; omega)).mono ?_
      rintro e w7 ⟨rfl, n7, e7⟩
      have G7 : Hid (CS w7 w.heap.size PY (b : Int) (Ka a i) [] fy2 ∧ Below w.heap.size w w7) := by
        rw [e7]
        exact ⟨G6.out.1.of_blocks (Nat.le_refl _) (fun _ _ => rfl), below_heap2 G6.out.2.1 rfl rfl rfl rfl⟩
      have hv7 : Vw w7 qx 5 (Ka a i) := by rw [e7]; exact vw_heapA G6.out.2.2.1 rfl
      obtain ⟨bx, ox, rfl, -, hcx⟩ := hv7.2 (by omega)
      have kx := hcx a ha
      rw [Ka_get ha, if_pos rfl] at kx
      have hii : (i == i) = true := by simp
      clear e7 hv7 hcx G6
      go_wp2_with fail
      refine (waitsP_any w.heap.size PY (b : Int) (Ka a i) [] fy2 w7 G7.out.1).mono ?_
      rintro e w8 ⟨rfl, n8, e8⟩
      have B8 : Hid (Below w.heap.size w w8) := by rw [e8]; exact below_heap2 G7.out.2 rfl rfl rfl rfl
      clear e8
      go_wp2
      go_ret
      exact ⟨rfl, B8.out⟩
theorem new_any (me : Int) (w : World) : Calls Try.prog 12 #[.int .i64 me] w fun x w' => ∃ v e, x = .returned (.tuple #[v, e]) ∧ (0 ≤ me ∧ me ≤ 4 → e = .nilIface) ∧ (¬ (0 ≤ me ∧ me ≤ 4) → e = .iface 61 (.int .i64 1)) ∧ Below w.heap.size w w' := by
  by_cases h : 0 ≤ me ∧ me ≤ 4
  · refine (newC_ok me w h).mono ?_
    rintro x w' ⟨P, fp, rfl, _, hb⟩
    exact ⟨_, _, rfl, fun _ => rfl, fun q => absurd h q, hb⟩
  · refine (newC_no me w (by omega)).mono ?_
    rintro x w' ⟨v, rfl, hb⟩
    exact ⟨_, _, rfl, fun q => absurd q h, fun _ => errF_no (by decide), hb⟩
set_option maxRecDepth 100000 in
theorem calone_no (a b n : Int) (w : World) (h : ¬ ((0 ≤ a ∧ a ≤ 4) ∧ (0 ≤ b ∧ b ≤ 4) ∧ a ≠ b ∧ 0 ≤ n ∧ n ≤ 30)) :
    Calls Try.prog 5 #[.int .i64 a, .int .i64 b, .int .i64 n] w fun e w' => e = .returned (.bool true) ∧ Below w.heap.size w w' := by
  have HH : Hid (¬ ((0 ≤ a ∧ a ≤ 4) ∧ (0 ≤ b ∧ b ≤ 4) ∧ a ≠ b ∧ 0 ≤ n ∧ n ≤ 30)) := h
  clear h
  go_enter Try.func5, Try.ntmps5
  go_wp2_with fail
  refine (new_any a w).mono ?_
  rintro e w1 ⟨v1, e1, rfl, ha1, ha2, hb⟩
  have B1 : Hid (Below w.heap.size w w1) := hb
  have HA : Hid ((0 ≤ a ∧ a ≤ 4 → e1 = .nilIface) ∧ (¬ (0 ≤ a ∧ a ≤ 4) → e1 = .iface 61 (.int .i64 1))) := ⟨ha1, ha2⟩
  clear hb ha1 ha2
  go_wp2_with fail
  refine (new_any b w1).mono ?_
  rintro e w2 ⟨v2, e2, rfl, ha1, ha2, hb⟩
  have B2 : Hid (Below w.heap.size w w2) := B1.out.trans (hb.mono B1.out.size)
  clear hb
  by_cases pa : 0 ≤ a ∧ a ≤ 4
  · obtain rfl := HA.out.1 pa
    by_cases pb : 0 ≤ b ∧ b ≤ 4
    · obtain rfl := ha1 pb
      clear ha1 ha2 HA
      have hc : a = b ∨ (a ≠ b ∧ n < 0) ∨ (a ≠ b ∧ 0 ≤ n ∧ 30 < n) := by have := HH.out; omega
      rcases hc with q | ⟨q, q1⟩ | ⟨q, q1, q2⟩
      · have q' : (a == b) = true := by simp [q]
        clear q
        go_wp2
        go_ret
        exact ⟨rfl, B2.out⟩
      · have q' : (a == b) = false := by simp [q]
        clear q
        go_wp2
        go_ret
        exact ⟨rfl, B2.out⟩
      · have q' : (a == b) = false := by simp [q]
        clear q
        go_wp2
        go_ret
        exact ⟨rfl, B2.out⟩
    · obtain rfl := ha2 pb
      clear ha1 ha2 HA
      go_wp2
      go_ret
      exact ⟨rfl, B2.out⟩
  · obtain rfl := HA.out.2 pa
    by_cases pb : 0 ≤ b ∧ b ≤ 4
    · obtain rfl := ha1 pb
      clear ha1 ha2 HA
      go_wp2
      go_ret
      exact ⟨rfl, B2.out⟩
    · obtain rfl := ha2 pb
      clear ha1 ha2 HA
      go_wp2
      go_ret
      exact ⟨rfl, B2.out⟩
theorem calone_walk (a b n : Int) (w : World) :
    Calls Try.prog 5 #[.int .i64 a, .int .i64 b, .int .i64 n] w fun e w' => e = .returned (.bool true) ∧ Below w.heap.size w w' := by
  by_cases h : (0 ≤ a ∧ a ≤ 4) ∧ (0 ≤ b ∧ b ≤ 4) ∧ a ≠ b ∧ 0 ≤ n ∧ n ≤ 30
  · obtain ⟨x, rfl⟩ : ∃ x : Nat, a = (x : Int) := ⟨a.toNat, by omega⟩
    obtain ⟨y, rfl⟩ : ∃ y : Nat, b = (y : Int) := ⟨b.toNat, by omega⟩
    exact calone_yes x y n w (by omega) (by omega) (by omega) (by omega) (by omega)
  · exact calone_no a b n w h
end Go.Proofs.Ytndjejbnappmeac.Cau
