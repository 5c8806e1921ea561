/-
  Contracts of package token's Say, placeFirst and Pass.
-/
import Derived.Test.YtfjhjjikaodadagDoorTokC
namespace Go.Proofs.YtfjhjjikaodadagDoor.Tok
open Go.RowKit Go.Maps
open Go.Proofs.YtfjhjjikaodadagDoor.Fif (own_lt own_block own_form own_mono own_vw ret_bool info_int lenOf new_int int_one)
open Go.Proofs.YtfjhjjikaodadagDoor.MapV (MM putT delT wfI turned_below g_of_turned)
open Go.Proofs.YtfjhjjikaodadagDoor.Sep (KpL NewL)
open Go.Proofs.YtfjhjjikaodadagDoor.Ldr (errF errF_ok errF_no Sl)
set_option linter.unusedVariables false
variable {w w' : World} {base P mS : Nat} {mb nx : Nat → Nat} {S : Int → Option Value} {c : Nat} {k : K}

set_option maxRecDepth 100000 in
theorem say_out (h : MF w base P mS mb nx (SD k) c k) (who word : Int) (hc : (who < 0 ∨ (k.n : Int) ≤ who) ∨ word < 1 ∨ 30 < word) : Calls Tryd.prog 15 #[.pointer (some ⟨P, 0, none⟩), .int .i64 who, .int .i64 word] w fun x w' => x = .returned (errF 1) ∧ Below w.heap.size w w' := by
  rw [errF_no (by decide)]
  by_cases h1 : 0 ≤ who ∧ who < (k.n : Int)
  · have d1 : Hid (decide (0 ≤ who ∧ who < (k.n : Int)) = true) := decide_eq_true h1
    have HG : Hid (MF w base P mS mb nx (SD k) c k) := h
    by_cases h2 : word < 1
    · clear h h1 hc
      go_enter Tryd.func15, Tryd.ntmps15
      go_wp2_with fail
      refine (hasT_any HG.out who).mono ?_
      rintro e w ⟨rfl, rfl⟩
      rw [d1.out]
      go_wp2
      go_ret
      exact ⟨rfl, Below.refl _ _⟩
    · have h3 : word > 30 := by omega
      clear h h1 hc
      go_enter Tryd.func15, Tryd.ntmps15
      go_wp2_with fail
      refine (hasT_any HG.out who).mono ?_
      rintro e w ⟨rfl, rfl⟩
      rw [d1.out]
      go_wp2
      go_ret
      exact ⟨rfl, Below.refl _ _⟩
  · have d1 : Hid (decide (0 ≤ who ∧ who < (k.n : Int)) = false) := decide_eq_false h1
    have HG : Hid (MF w base P mS mb nx (SD k) c k) := h
    clear h h1 hc
    go_enter Tryd.func15, Tryd.ntmps15
    go_wp2_with fail
    refine (hasT_any HG.out who).mono ?_
    rintro e w ⟨rfl, rfl⟩
    rw [d1.out]
    go_wp2
    go_ret
    exact ⟨rfl, Below.refl _ _⟩
set_option maxRecDepth 100000 in
theorem say_was (h : MF w base P mS mb nx (SD k) c k) (m : Nat) (hm : m < k.n) (word : Int) (hw : 1 ≤ word ∧ word ≤ 30) (hs : k.said word = true) : Calls Tryd.prog 15 #[.pointer (some ⟨P, 0, none⟩), .int .i64 (m : Int), .int .i64 word] w fun x w' => x = .returned (errF 7) ∧ Below w.heap.size w w' := by
  have d1 : Hid (decide (0 ≤ (m : Int) ∧ (m : Int) < (k.n : Int)) = true) := decide_eq_true ⟨by omega, by omega⟩
  have HG : Hid (MF w base P mS mb nx (SD k) c k ∧ (1 ≤ word ∧ word ≤ 30) ∧ k.said word = true) := ⟨h, hw, hs⟩
  have d2 : ¬ word < 1 := by omega
  have d3 : ¬ word > 30 := by omega
  rw [errF_no (by decide)]
  clear h hm hs hw
  go_enter Tryd.func15, Tryd.ntmps15
  go_wp2_with fail
  refine (hasT_any HG.out.1 (m : Int)).mono ?_
  rintro e w ⟨rfl, rfl⟩
  rw [d1.out]
  go_wp2_with fail
  refine (saidT_any HG.out.1 word HG.out.2.1).mono ?_
  rintro e w1 ⟨rfl, hb⟩
  rw [HG.out.2.2]
  have B1 : Hid (Below w.heap.size w w1) := hb
  clear hb
  go_wp2
  go_ret
  exact ⟨rfl, B1.out⟩
/-- a word is put behind those that wait -/
theorem put_end {w4 : World} {m : Nat} {word : Int} (h : MF w4 base P mS mb nx S c k) (hm : m < k.n) {z : Nat} (hz : z = nx m + (k.wt m).length) (hl : z ≤ 1000) : ∃ w6, (Instr.mapUpdate 61 (.map (some (mb m))) (.int .i64 (z : Int)) (.int .i64 word)).run Tryd.prog w4 = .ok () w6 ∧ MF w6 base P mS mb nx S c (put k m word) ∧ w4.mapTurned w6 (mb m) := by
  subst hz
  obtain ⟨w6, e6, m6, t6⟩ := (h.wait m hm).put Tryd.underlying61 (i := ((nx m + (k.wt m).length : Nat) : Int)) (wfI (by omega) (by omega)) (.int .i64 word) (by omega)
  refine ⟨w6, e6, h.putW hm ?_ t6, t6⟩
  rw [TW_end] at m6
  exact m6
set_option maxRecDepth 100000 in
set_option maxHeartbeats 1000000 in
theorem say_okT (h : MF w base P mS mb nx (SD k) (cs k) k) (hi : Inv k) (hbw : base ≤ w.heap.size) (m : Nat) (hm : m < k.n) (word : Int) (hw : 1 ≤ word ∧ word ≤ 30) (hs : k.said word = false) : Calls Tryd.prog 15 #[.pointer (some ⟨P, 0, none⟩), .int .i64 (m : Int), .int .i64 word] w fun x w' => x = .returned .nilIface ∧ MF w' base P mS mb nx (SD (put k m word)) (cs (put k m word)) (put k m word) ∧ Below base w w' ∧ KpL w w' (fpT P mS k.n mb) := by
  have hm5 : m < 5 := Nat.lt_of_lt_of_le hm h.five
  have d1 : Hid (decide (0 ≤ (m : Int) ∧ (m : Int) < (k.n : Int)) = true) := decide_eq_true ⟨by omega, by omega⟩
  have HG : Hid (MF w base P mS mb nx (SD k) (cs k) k ∧ (1 ≤ word ∧ word ≤ 30) ∧ k.said word = false ∧ base ≤ w.heap.size ∧ m < k.n ∧ nx m + (k.wt m).length ≤ 30) := ⟨h, hw, hs, hbw, hm, nl_le h hi m⟩
  have d2 : ¬ word < 1 := by omega
  have d3 : ¬ word > 30 := by omega
  have hm0 : (0 : Int) ≤ (m : Int) := by omega
  have hm5' : (m : Int) < 5 := by omega
  obtain ⟨z, ez⟩ : ∃ z, z = nx m + (k.wt m).length := ⟨_, rfl⟩
  have EZ : Hid (z = nx m + (k.wt m).length) := ez
  have hz30 : z ≤ 30 := by have := HG.out.2.2.2.2.2; omega
  clear h hm hs hw hbw hi hm5 ez
  go_enter Tryd.func15, Tryd.ntmps15
  go_wp2_with fail
  refine (hasT_any HG.out.1 (m : Int)).mono ?_
  rintro e w ⟨rfl, rfl⟩
  rw [d1.out]
  go_wp2_with fail
  refine (saidT_any HG.out.1 word HG.out.2.1).mono ?_
  rintro e w1 ⟨rfl, hb⟩
  rw [HG.out.2.2.1]
  have B1 : Hid (Below w.heap.size w w1) := hb
  have G1 : Hid (MF w1 base P mS mb nx (SD k) (cs k) k) := HG.out.1.later hb
  have c4 := G1.out.c4
  obtain ⟨W2, e2, m2, t2⟩ := G1.out.said.put Tryd.underlying70 (i := word) (wfI (by have := HG.out.2.1; omega) (by have := HG.out.2.1; omega)) (.agg #[]) (by have := cs_le k; omega)
  have G2 : Hid (MF W2 base P mS mb nx (SD (put k m word)) (cs (put k m word)) k ∧ w1.mapTurned W2 mS) := by
    refine ⟨(G1.out.turnS m2 t2).said' (SD_put HG.out.2.1) ?_, t2⟩
    rw [SD_some HG.out.2.1, HG.out.2.2.1, cs_put HG.out.2.1 HG.out.2.2.1]
    rfl
  clear hb m2 t2
  go_wp2_with fail
  have HS : Hid (∀ X : World, (∀ b, b < W2.heap.size → b ≠ mb m → X.heap[b]? = W2.heap[b]?) → X.cell? ⟨P, 5 + m, none⟩ = some (.map (some (mb m)))) := by
    intro X hX
    have bP := hX P G2.out.1.lt (fun e => (G2.out.1.wait m HG.out.2.2.2.2.1).row G2.out.1.row e)
    exact (World.cell?_of_block (a := ⟨P, 5 + m, none⟩) bP).trans (G2.out.1.cw HG.out.2.2.2.2.1)
  clear c4 e2
  go_region_held3 (fun X => X.cell? ⟨P, 5 + m, none⟩ = some (.map (some (mb m)))) (first | exact HS.out _ (fun _ _ _ => rfl) | exact HS.out _ K4.out | exact HS.out _ K6.out) (first
    | (go_at_call 29; refine (endT_at (by exact MF.heap G2.out.1 rfl) HG.out.2.2.2.2.1 EZ.out (by omega)).mono ?_; rintro e4 w4 ⟨rfl, hh, hb⟩; have B4 : Hid (w4.heap = W2.heap ∧ Below W2.heap.size W2 w4) := ⟨hh, below_sameK hb rfl rfl rfl rfl⟩; obtain ⟨w6, hup, hF6, hT6⟩ := put_end (word := word) (MF.heap (w' := w4) G2.out.1 B4.out.1) HG.out.2.2.2.2.1 EZ.out (by omega); have K4 : Hid (∀ b, b < W2.heap.size → b ≠ mb m → w4.heap[b]? = W2.heap[b]?) := fun b _ _ => (by rw [B4.out.1]); have F6 : Hid (MF w6 base P mS mb nx (SD (put k m word)) (cs (put k m word)) (put k m word) ∧ w4.mapTurned w6 (mb m)) := ⟨hF6, hT6⟩; have K6 : Hid (∀ b, b < W2.heap.size → b ≠ mb m → w6.heap[b]? = W2.heap[b]?) := fun b hb' hne => (g_of_turned F6.out.2 (by rw [B4.out.1]; exact hb') hne).trans (K4.out b hb' hne); clear hb hh hF6 hT6))
  go_wp2
  go_ret
  refine ⟨rfl, F6.out.1, ?_, ?_⟩
  · exact (((B1.out.mono HG.out.2.2.2.1).trans (turned_below G2.out.2 HG.out.1.low.2.1)).trans (B4.out.2.mono (Nat.le_trans HG.out.2.2.2.1 (Nat.le_trans B1.out.size G2.out.2.grown.size)))).trans (turned_below F6.out.2 (HG.out.1.low.2.2 m HG.out.2.2.2.2.1))
  · exact kp_trans (kp_trans (kp_trans (KpL.below B1.out _) (kp_turned G2.out.2 S_fp)) (kp_heap (kp_refl W2 _) B4.out.1)) (kp_turned F6.out.2 (W_fp HG.out.2.2.2.2.1))
theorem sayT (base P : Nat) (k : K) (fp : List Nat) (who word : Int) (w : World) (h : TS w base P k fp) (hi : Inv k) (hbw : base ≤ w.heap.size) : Calls Tryd.prog 15 #[.pointer (some ⟨P, 0, none⟩), .int .i64 who, .int .i64 word] w fun x w' => ∃ fp', x = .returned (errF (sayC k who word)) ∧ TS w' base P (say k who word) fp' ∧ Below base w w' ∧ KpL w w' fp ∧ NewL w fp fp' := by
  obtain ⟨mS, mb, nx, rfl, h⟩ := h
  by_cases hc : (who < 0 ∨ (k.n : Int) ≤ who) ∨ word < 1 ∨ 30 < word
  · have e0 : sayC k who word = 1 := if_pos hc
    have e2 : say k who word = k := by unfold say; rw [e0, if_neg (by decide)]
    rw [e0, e2]
    refine (say_out h who word hc).mono ?_
    rintro x w' ⟨rfl, hb⟩
    exact ⟨_, rfl, ⟨mS, mb, nx, rfl, h.later hb⟩, hb.mono hbw, KpL.below hb _, NewL.refl _ _⟩
  · obtain ⟨m, rfl⟩ : ∃ m : Nat, who = (m : Int) := ⟨who.toNat, by omega⟩
    have hm : m < k.n := by omega
    cases hs : k.said word with
    | true =>
      have e0 : sayC k (m : Int) word = 7 := by unfold sayC; rw [if_neg hc, if_pos hs]
      have e2 : say k (m : Int) word = k := by unfold say; rw [e0, if_neg (by decide)]
      rw [e0, e2]
      refine (say_was h m hm word (by omega) hs).mono ?_
      rintro x w' ⟨rfl, hb⟩
      exact ⟨_, rfl, ⟨mS, mb, nx, rfl, h.later hb⟩, hb.mono hbw, KpL.below hb _, NewL.refl _ _⟩
    | false =>
      have e0 : sayC k (m : Int) word = 0 := by unfold sayC; rw [if_neg hc, if_neg (by rw [hs]; decide)]
      have e2 : say k (m : Int) word = put k m word := by unfold say; rw [e0, if_pos rfl, Int.toNat_natCast]
      rw [e0, e2, errF_ok]
      refine (say_okT h hi hbw m hm word (by omega) hs).mono ?_
      rintro x w' ⟨rfl, hf, hb, hk⟩
      exact ⟨_, rfl, ⟨mS, mb, nx, rfl, hf⟩, hb, hk, NewL.refl _ _⟩
end Go.Proofs.YtfjhjjikaodadagDoor.Tok
