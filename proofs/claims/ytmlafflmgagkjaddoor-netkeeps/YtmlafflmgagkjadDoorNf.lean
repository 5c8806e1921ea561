/-
  The walk of NetFull: more than may be on the way are refused, till one comes.
-/
import Derived.Test.YtmlafflmgagkjadDoorNetP
import Derived.Test.YtmlafflmgagkjadDoorNetS
namespace Go.Proofs.YtmlafflmgagkjadDoor.Net
open Go.RowKit
open Go.Proofs.YtmlafflmgagkjadDoor.As (Laid)
open Go.Proofs.YtmlafflmgagkjadDoor.Fif (own_lt own_block own_form own_mono Kp ret_bool)
set_option linter.unusedVariables false

theorem ns_later {w w' : World} {base P : Nat} {no : Int → Int → Bool} {l : List Pk} {fp : List Nat} (g : NS w base P no l fp) (hb : Below w.heap.size w w') : NS w' base P no l fp := g.of_blocks hb.size fun b h => hb.block b (g.fp b h).2
theorem Po.len {w : World} {base : Nat} {v : Value} {l : List Pk} (h : Po w base v l) : ∃ q c, v = .slice q l.length c := own_form h
/-- so many like one -/
def rep (p : Pk) (k : Nat) : List Pk := List.replicate k p
theorem rep_inv {p : Pk} (h : pkBad p = false ∧ p.1 ≠ p.2.1) {k : Nat} (hk : k ≤ 40) : NInv (rep p k) := ⟨fun q hq => by rw [List.eq_of_mem_replicate hq]; exact h, by rw [rep, List.length_replicate]; exact hk⟩
theorem rep_send {p : Pk} (h : pkBad p = false ∧ p.1 ≠ p.2.1) (k : Nat) : sendC (rep p k) p = if 40 ≤ k then 4 else 0 := by
  unfold sendC
  rw [if_neg (by rw [h.1]; decide), if_neg h.2, rep, List.length_replicate]
theorem rep_sendL {p : Pk} (h : pkBad p = false ∧ p.1 ≠ p.2.1) {k : Nat} (hk : k < 40) : sendL (rep p k) p = rep p (k + 1) := by
  rw [sendL, if_pos (by rw [rep_send h, if_neg (by omega)]), rep, rep, List.replicate_succ']
theorem rep_full {p : Pk} (h : pkBad p = false ∧ p.1 ≠ p.2.1) : sendL (rep p 40) p = rep p 40 := by
  rw [sendL, if_neg (by rw [rep_send h, if_pos (by omega)]; decide)]
theorem send_good {p : Pk} (h : sendC [] p = 0) : pkBad p = false ∧ p.1 ≠ p.2.1 := by
  unfold sendC at h
  by_cases h1 : pkBad p = true
  · rw [if_pos h1] at h; omega
  · rw [if_neg h1] at h
    by_cases h2 : p.1 = p.2.1
    · rw [if_pos h2] at h; omega
    · exact ⟨by simpa using h1, h2⟩
theorem rep_give {p : Pk} {k : Nat} (hk : 1 ≤ k) : giveC (fun _ _ => false) (rep p k) 0 = 0 ∧ giveP (fun _ _ => false) (rep p k) 0 = p ∧ giveL (fun _ _ => false) (rep p k) 0 = rep p (k - 1) := by
  have h0 : isIn (rep p k) 0 = true := by
    have := isIn_of (l := rep p k) (k := 0) (by rw [rep, List.length_replicate]; omega)
    simpa using this
  have h1 : giveC (fun _ _ => false) (rep p k) 0 = 0 := by rw [giveC, if_pos h0, if_neg (by decide)]
  obtain ⟨j, rfl⟩ : ∃ j, k = j + 1 := ⟨k - 1, by omega⟩
  refine ⟨h1, ?_, ?_⟩
  · rw [giveP, if_pos h1]
    rfl
  · rw [giveL, if_pos h1]
    rfl
set_option maxRecDepth 100000 in
theorem nfull_out (a b c n : Int) (w : World) (h : n < 1 ∨ 60 < n) :
    Calls Tryd.prog 5 #[.agg #[.int .i64 a, .int .i64 b, .int .i64 c], .int .i64 n] w fun e w' => e = .returned (.bool true) ∧ Below w.heap.size w w' := by
  obtain ⟨W, eW⟩ : ∃ W, W = w.alloc (.cells #[.int .i64 a, .int .i64 b, .int .i64 c] 54) := ⟨_, rfl⟩
  have BW : Hid (Below w.heap.size w W) := by rw [eW]; exact (Below.refl _ _).alloc (Nat.le_refl _) _
  rcases (show n < 1 ∨ (1 ≤ n ∧ 60 < n) by omega) with h1 | ⟨h1, h2⟩
  all_goals
    clear h
    go_enter Tryd.func5, Tryd.ntmps5
    go_wp2_with fail
    rw [← eW]
    clear eW
    refine (newN W).mono ?_
    rintro e w1 ⟨P, fp, rfl, hN, hb⟩
    have G1 : Hid (NS w1 W.heap.size P (fun _ _ => false) [] fp ∧ Below W.heap.size W w1) := ⟨hN, hb⟩
    clear hN hb
    go_wp2_with fail
    refine (allN W.heap.size P (fun _ _ => false) [] fp w1 G1.out.1 NInv.start).mono ?_
    rintro e w2 ⟨v, rfl, hP, hb⟩
    obtain ⟨q, c, rfl⟩ := hP.len
    have B2 : Hid (Below w1.heap.size w1 w2) := hb
    clear hP hb
    go_wp2_with fail
    refine (dropN W.heap.size P (fun _ _ => false) [] fp 0 w2 (ns_later G1.out.1 B2.out) NInv.start (Nat.le_trans G1.out.2.size B2.out.size)).mono ?_
    rintro e w3 ⟨fp', rfl, _, hb, _, _⟩
    have B3 : Hid (Below W.heap.size w2 w3) := hb
    have ed : errF (dropC [] 0) = .iface 76 (.int .i64 1) := by rw [show dropC [] 0 = 1 from rfl, errF_no (by decide)]
    rw [ed]
    clear hb ed
    go_wp2
    go_ret
    exact ⟨rfl, BW.out.trans (((G1.out.2.trans (B2.out.mono G1.out.2.size)).trans B3.out).mono BW.out.size)⟩
set_option maxRecDepth 100000 in
theorem nfull_no (p : Pk) (n : Int) (w : World) (h1 : 1 ≤ n) (h60 : n ≤ 60) (hs : sendC [] p ≠ 0) :
    Calls Tryd.prog 5 #[.agg #[.int .i64 p.1, .int .i64 p.2.1, .int .i64 p.2.2], .int .i64 n] w fun e w' => e = .returned (.bool true) ∧ Below w.heap.size w w' := by
  obtain ⟨W, eW⟩ : ∃ W, W = w.alloc (.cells #[.int .i64 p.1, .int .i64 p.2.1, .int .i64 p.2.2] 54) := ⟨_, rfl⟩
  have BW : Hid (Below w.heap.size w W ∧ w.heap.size < W.heap.size) := ⟨by rw [eW]; exact (Below.refl _ _).alloc (Nat.le_refl _) _, by rw [eW]; simp⟩
  have s0 : W.cell? ⟨w.heap.size, 0, none⟩ = some (.int .i64 p.1) := by rw [eW]; go_cell
  have s1 : W.cell? ⟨w.heap.size, 1, none⟩ = some (.int .i64 p.2.1) := by rw [eW]; go_cell
  have s2 : W.cell? ⟨w.heap.size, 2, none⟩ = some (.int .i64 p.2.2) := by rw [eW]; go_cell
  have HS : Hid (sendC [] p ≠ 0) := hs
  clear hs
  go_enter Tryd.func5, Tryd.ntmps5
  go_wp2_with fail
  rw [← eW]
  clear eW
  refine (newN W).mono ?_
  rintro e w1 ⟨P, fp, rfl, hN, hb⟩
  have G1 : Hid (NS w1 W.heap.size P (fun _ _ => false) [] fp ∧ Below W.heap.size W w1) := ⟨hN, hb⟩
  have t0 := (hb.cell (p := ⟨w.heap.size, 0, none⟩) BW.out.2).trans s0
  have t1 := (hb.cell (p := ⟨w.heap.size, 1, none⟩) BW.out.2).trans s1
  have t2 := (hb.cell (p := ⟨w.heap.size, 2, none⟩) BW.out.2).trans s2
  clear hN hb
  go_wp2_with fail
  refine (sendN W.heap.size P (fun _ _ => false) [] fp p w1 G1.out.1 NInv.start G1.out.2.size).mono ?_
  rintro e w2 ⟨fp', rfl, hN, hb, _, _⟩
  rw [errF_no HS.out]
  have e1 : sendL [] p = [] := if_neg HS.out
  rw [e1] at hN
  have G2 : Hid (NS w2 W.heap.size P (fun _ _ => false) [] fp' ∧ Below W.heap.size W w2) := ⟨hN, G1.out.2.trans hb⟩
  clear hN hb e1
  go_wp2_with fail
  refine (allN W.heap.size P (fun _ _ => false) [] fp' w2 G2.out.1 NInv.start).mono ?_
  rintro e w3 ⟨v, rfl, hP, hb⟩
  obtain ⟨q, c, rfl⟩ := hP.len
  have B3 : Hid (Below w2.heap.size w2 w3) := hb
  clear hP hb
  go_wp2
  go_ret
  exact ⟨rfl, BW.out.1.trans ((G2.out.2.trans (B3.out.mono G2.out.2.size)).mono BW.out.1.size)⟩
/-- how it stands when so many were sent -/
def NF (W : World) (P B : Nat) (p : Pk) (k : Nat) (wr : World) : Prop := (∃ fp, NS wr W.heap.size P (fun _ _ => false) (rep p k) fp) ∧ Below W.heap.size W wr
set_option maxRecDepth 100000 in
set_option maxHeartbeats 1000000 in
theorem nfull_yes (p : Pk) (n : Nat) (w : World) (hL : Laid w) (h1 : 1 ≤ n) (h60 : n ≤ 60) (hs : sendC [] p = 0) :
    Calls Tryd.prog 5 #[.agg #[.int .i64 p.1, .int .i64 p.2.1, .int .i64 p.2.2], .int .i64 (n : Int)] w fun e w' => e = .returned (.bool true) ∧ Below w.heap.size w w' := by
  obtain ⟨W, eW⟩ : ∃ W, W = w.alloc (.cells #[.int .i64 p.1, .int .i64 p.2.1, .int .i64 p.2.2] 54) := ⟨_, rfl⟩
  have BW : Hid (Below w.heap.size w W ∧ w.heap.size < W.heap.size ∧ Laid W) := by
    have b : Below w.heap.size w W := by rw [eW]; exact (Below.refl _ _).alloc (Nat.le_refl _) _
    exact ⟨b, by rw [eW]; simp, hL.later b⟩
  have SW : Hid (W.cell? ⟨w.heap.size, 0, none⟩ = some (.int .i64 p.1) ∧ W.cell? ⟨w.heap.size, 1, none⟩ = some (.int .i64 p.2.1) ∧ W.cell? ⟨w.heap.size, 2, none⟩ = some (.int .i64 p.2.2)) := by
    rw [eW]
    exact ⟨by go_cell, by go_cell, by go_cell⟩
  have HS : Hid (pkBad p = false ∧ p.1 ≠ p.2.1) := send_good hs
  have cell : ∀ X : World, Below W.heap.size W X → X.cell? ⟨w.heap.size, 0, none⟩ = some (.int .i64 p.1) ∧ X.cell? ⟨w.heap.size, 1, none⟩ = some (.int .i64 p.2.1) ∧ X.cell? ⟨w.heap.size, 2, none⟩ = some (.int .i64 p.2.2) := fun X hX => ⟨(hX.cell (p := ⟨w.heap.size, 0, none⟩) BW.out.2.1).trans SW.out.1, (hX.cell (p := ⟨w.heap.size, 1, none⟩) BW.out.2.1).trans SW.out.2.1, (hX.cell (p := ⟨w.heap.size, 2, none⟩) BW.out.2.1).trans SW.out.2.2⟩
  have CE : Hid (∀ X : World, Below W.heap.size W X → X.cell? ⟨w.heap.size, 0, none⟩ = some (.int .i64 p.1) ∧ X.cell? ⟨w.heap.size, 1, none⟩ = some (.int .i64 p.2.1) ∧ X.cell? ⟨w.heap.size, 2, none⟩ = some (.int .i64 p.2.2)) := cell
  have hn1 : decide ((n : Int) < 1) = false := by simp; omega
  have hn60 : decide (60 < (n : Int)) = false := by simp; omega
  have hgd := eqGd
  have hev := eqSame p.1 p.2.1 p.2.2
  clear hs hL cell
  go_enter Tryd.func5, Tryd.ntmps5
  go_wp2_with fail
  rw [← eW]
  clear eW
  refine (newN W).mono ?_
  rintro e w1 ⟨P, fp, rfl, hN, hb⟩
  have G1 : Hid (NS w1 W.heap.size P (fun _ _ => false) [] fp ∧ Below W.heap.size W w1) := ⟨hN, hb⟩
  obtain ⟨t0, t1, t2⟩ := CE.out w1 hb
  clear hN hb
  go_wp2_with fail
  refine (sendN W.heap.size P (fun _ _ => false) [] fp p w1 G1.out.1 NInv.start G1.out.2.size).mono ?_
  rintro e w2 ⟨fp', rfl, hN, hb, _, _⟩
  have e0 : sendC [] p = 0 := by
    have := rep_send HS.out 0
    rw [if_neg (by omega)] at this
    exact this
  have e1 : sendL [] p = rep p 1 := if_pos e0
  rw [e0, errF_ok]
  rw [e1] at hN
  have F2 : Hid (NF W P w.heap.size p 1 w2) := ⟨⟨fp', hN⟩, G1.out.2.trans hb⟩
  clear hN hb e0 e1 t0 t1 t2
  go_wp2
  go_loopw [7, 8, 9] (fun x y z wr => ∃ k : Nat, 1 ≤ k ∧ k ≤ n ∧ x = .int .i64 ((min k 40 : Nat) : Int) ∧ y = .int .i64 (k : Int) ∧ Hid (NF W P w.heap.size p (min k 40) wr)) (fun _ y _ _ => n - (intOf y).toNat)
  case atStart => exact ⟨1, by omega, h1, rfl, rfl, F2⟩
  case round =>
    obtain ⟨k, hk1, hkn, rfl, rfl, hF⟩ := hrel
    obtain ⟨⟨fp2, hN⟩, hB⟩ := hF.out
    obtain ⟨t0, t1, t2⟩ := CE.out wr hB
    have G : Hid (NS wr W.heap.size P (fun _ _ => false) (rep p (min k 40)) fp2 ∧ Below W.heap.size W wr) := ⟨hN, hB⟩
    clear hN hB hF
    by_cases hlt : k < n
    · have hlt' : (k : Int) < (n : Int) := by omega
      by_cases h40 : k < 40
      · have em : min k 40 = k := by omega
        rw [em] at G ⊢
        go_wp2_with fail
        refine (sendN W.heap.size P (fun _ _ => false) (rep p k) fp2 p wr G.out.1 (rep_inv HS.out (by omega)) G.out.2.size).mono ?_
        rintro e w3 ⟨fp3, rfl, hN, hb, _, _⟩
        rw [rep_send HS.out, if_neg (by omega), errF_ok]
        rw [rep_sendL HS.out h40] at hN
        have F3 : Hid (NF W P w.heap.size p (k + 1) w3) := ⟨⟨fp3, hN⟩, G.out.2.trans hb⟩
        clear hN hb t0 t1 t2
        go_wp2
        go_roundw
        case rel => exact ⟨k + 1, by omega, by omega, by rw [show min (k + 1) 40 = k + 1 by omega]; go_num, by go_num, by rw [show min (k + 1) 40 = k + 1 by omega]; exact F3⟩
        case measure => simp [intOf]; omega
      · have em : min k 40 = 40 := by omega
        rw [em] at G ⊢
        go_wp2_with fail
        refine (sendN W.heap.size P (fun _ _ => false) (rep p 40) fp2 p wr G.out.1 (rep_inv HS.out (by omega)) G.out.2.size).mono ?_
        rintro e w3 ⟨fp3, rfl, hN, hb, _, _⟩
        rw [rep_send HS.out, if_pos (by omega)]
        rw [rep_full HS.out] at hN
        have F3 : Hid (NF W P w.heap.size p 40 w3) := ⟨⟨fp3, hN⟩, G.out.2.trans hb⟩
        have e4 : errF 4 = .iface 76 (.int .i64 4) := errF_no (by decide)
        rw [e4]
        clear hN hb t0 t1 t2
        go_wp2_with fail
        rw [← e4]
        refine (errF_same 4 w3 (BW.out.2.2.later (F3.out.2.mono (Nat.le_refl _)))).mono ?_
        rintro e w4 ⟨rfl, hb⟩
        have F4 : Hid (NF W P w.heap.size p 40 w4) := by
          obtain ⟨⟨fp4, hN⟩, hB⟩ := F3.out
          exact ⟨⟨fp4, ns_later hN hb⟩, hB.trans (hb.mono hB.size)⟩
        rw [e4]
        clear hb e4
        go_wp2
        go_roundw
        case rel => exact ⟨k + 1, by omega, by omega, by rw [show min (k + 1) 40 = 40 by omega]; rfl, by go_num, by rw [show min (k + 1) 40 = 40 by omega]; exact F4⟩
        case measure => simp [intOf]; omega
    · have hkn' : n = k := by omega
      subst hkn'
      obtain ⟨m, em⟩ : ∃ m, m = min n 40 := ⟨_, rfl⟩
      have hm : 1 ≤ m ∧ m ≤ 40 := by omega
      rw [← em] at G ⊢
      clear em
      obtain ⟨r1, r2, r3⟩ := rep_give (p := p) hm.1
      have RG : Hid (giveC (fun _ _ => false) (rep p m) 0 = 0 ∧ giveP (fun _ _ => false) (rep p m) 0 = p ∧ giveL (fun _ _ => false) (rep p m) 0 = rep p (m - 1)) := ⟨r1, r2, r3⟩
      clear r1 r2 r3
      go_wp2_with fail
      refine (giveN W.heap.size P (fun _ _ => false) (rep p m) fp2 0 wr G.out.1 (rep_inv HS.out hm.2) G.out.2.size).mono ?_
      rintro e w3 ⟨fp3, rfl, hN, hb, _, _⟩
      rw [RG.out.1, RG.out.2.1, errF_ok]
      rw [RG.out.2.2] at hN
      obtain ⟨W4, eW4⟩ : ∃ W4, W4 = w3.alloc (.cells #[.int .i64 p.1, .int .i64 p.2.1, .int .i64 p.2.2] 54) := ⟨_, rfl⟩
      have B4 : Hid (Below w3.heap.size w3 W4) := by rw [eW4]; exact (Below.refl _ _).alloc (Nat.le_refl _) _
      have bb : Below W.heap.size W W4 := (G.out.2.trans hb).trans (B4.out.mono (G.out.2.trans hb).size)
      have G4 : Hid (NS W4 W.heap.size P (fun _ _ => false) (rep p (m - 1)) fp3 ∧ Below W.heap.size W W4) := ⟨ns_later hN B4.out, bb⟩
      obtain ⟨u0, u1, u2⟩ := CE.out W4 bb
      rw [eW4] at u0 u1 u2
      clear hN hb bb t0 t1 t2
      go_wp2_with fail
      rw [← eW4]
      clear eW4
      refine (allN W.heap.size P (fun _ _ => false) (rep p (m - 1)) fp3 W4 G4.out.1 (rep_inv HS.out (by omega))).mono ?_
      rintro e w5 ⟨v, rfl, hP, hb⟩
      obtain ⟨q, c, rfl⟩ := hP.len
      have el : (rep p (m - 1)).length = m - 1 := by rw [rep, List.length_replicate]
      rw [el]
      have hml : (((m - 1 : Nat) : Int) == (m : Int) - 1) = true := by simp; omega
      have bb : Below W.heap.size W w5 := G4.out.2.trans (hb.mono G4.out.2.size)
      have G5 : Hid (NS w5 W.heap.size P (fun _ _ => false) (rep p (m - 1)) fp3 ∧ Below W.heap.size W w5) := ⟨ns_later G4.out.1 hb, bb⟩
      obtain ⟨t0, t1, t2⟩ := CE.out w5 bb
      have hm1 : (1 : Int) ≤ (m : Int) := by omega
      have hm2 : (m : Int) ≤ 40 := by omega
      clear hP hb bb el u0 u1 u2
      go_wp2_with fail
      refine (sendN W.heap.size P (fun _ _ => false) (rep p (m - 1)) fp3 p w5 G5.out.1 (rep_inv HS.out (by omega)) G5.out.2.size).mono ?_
      rintro e w6 ⟨fp6, rfl, _, hb, _, _⟩
      rw [rep_send HS.out, if_neg (by omega), errF_ok]
      have B6 : Hid (Below W.heap.size W w6) := G5.out.2.trans hb
      clear hb
      go_wp2
      go_ret
      exact ⟨rfl, BW.out.1.trans (B6.out.mono BW.out.1.size)⟩
theorem nfull_any (a b c n : Int) (w : World) (hL : Laid w) : Calls Tryd.prog 5 #[.agg #[.int .i64 a, .int .i64 b, .int .i64 c], .int .i64 n] w fun e w' => e = .returned (.bool true) ∧ Below w.heap.size w w' := by
  by_cases h : n < 1 ∨ 60 < n
  · exact nfull_out a b c n w h
  · by_cases hs : sendC [] (a, b, c) = 0
    · obtain ⟨m, rfl⟩ : ∃ m : Nat, n = (m : Int) := ⟨n.toNat, by omega⟩
      exact nfull_yes (a, b, c) m w hL (by omega) (by omega) hs
    · exact nfull_no (a, b, c) n w (by omega) (by omega) hs
end Go.Proofs.YtmlafflmgagkjadDoor.Net
