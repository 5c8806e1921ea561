/-
  The walk of NetKeeps: of packets none is made but by sending and doubling, none goes but by coming and dropping; what is cut keeps what is on its way.
-/
import Derived.Test.YtmlafflmgagkjadDoorNf
import Derived.Test.YtmlafflmgagkjadDoorPkF
import Derived.Test.YtmlafflmgagkjadDoorVecA
namespace Go.Proofs.YtmlafflmgagkjadDoor.Net
open Go.RowKit
open Go.Proofs.YtmlafflmgagkjadDoor.As (Laid)
open Go.Proofs.YtmlafflmgagkjadDoor.Vec (Vw)
open Go.Proofs.YtmlafflmgagkjadDoor.Fif (own_lt own_block own_form own_mono Kp ret_bool)
set_option linter.unusedVariables false

def no0 : Int → Int → Bool := fun _ _ => false
def no1 : Int → Int → Bool := cutN no0 1 0 true
def no2 : Int → Int → Bool := cutN no1 0 1 false
theorem fact1 : sendC [] ((0, 1, 3) : Pk) = 0 ∧ sendL [] ((0, 1, 3) : Pk) = [(0, 1, 3)] := ⟨by decide, by decide⟩
theorem fact2 : cutC 1 0 = 0 ∧ cutC 0 1 = 0 := ⟨by decide, by decide⟩
theorem fact3 : giveC no1 [((0, 1, 3) : Pk)] 0 = 6 ∧ giveL no1 [((0, 1, 3) : Pk)] 0 = [(0, 1, 3)] ∧ giveP no1 [((0, 1, 3) : Pk)] 0 = (0, 0, 0) := by decide
theorem fact4 : giveC no2 [((0, 1, 3) : Pk)] 0 = 0 ∧ giveL no2 [((0, 1, 3) : Pk)] 0 = [] ∧ giveP no2 [((0, 1, 3) : Pk)] 0 = (0, 1, 3) := by decide
theorem inv1 : NInv [((0, 1, 3) : Pk)] := ⟨fun p hp => by rw [List.mem_singleton.1 hp]; decide, by decide⟩
theorem isIn_lt {l : List Pk} {k : Int} (h : isIn l k = true) : k.toNat < l.length := by
  obtain ⟨i, rfl, hi⟩ := isIn_yes h
  simpa using hi
theorem isIn_len {l : List Pk} {k : Int} (h : isIn l k = true) : 1 ≤ l.length := by have := isIn_lt h; omega
theorem give_in {no : Int → Int → Bool} {l : List Pk} {k : Int} (h : giveC no l k = 0) : isIn l k = true := by
  cases q : isIn l k
  · rw [giveC, if_neg (by rw [q]; decide)] at h; omega
  · rfl
theorem tw_ok {l : List Pk} {k : Int} (h : twC l k = 0) : twL l k = l ++ [pk l k.toNat] := by
  cases q : isIn l k
  · rw [twC, if_neg (by rw [q]; decide)] at h; omega
  · rw [twC, if_pos q] at h
    rw [twL, if_pos q, sendL, if_pos h]
theorem tw_no {l : List Pk} {k : Int} (h : twC l k ≠ 0) : twL l k = l := by
  cases q : isIn l k
  · rw [twL, if_neg (by rw [q]; decide)]
  · rw [twC, if_pos q] at h
    rw [twL, if_pos q, sendL, if_neg h]
/-- how it stands at any time -/
def NK (w : World) (P : Nat) (l : List Pk) (wr : World) : Prop := (∃ fp, NS wr w.heap.size P no2 l fp) ∧ NInv l ∧ Below w.heap.size w wr
theorem NK.later {w : World} {P : Nat} {l : List Pk} {wr w' : World} (g : NK w P l wr) (hb : Below wr.heap.size wr w') : NK w P l w' := by
  obtain ⟨⟨fp, h⟩, hi, b⟩ := g
  exact ⟨⟨fp, ns_later h hb⟩, hi, b.trans (hb.mono b.size)⟩
set_option maxRecDepth 100000 in
set_option maxHeartbeats 1000000 in
theorem nkeeps_any (a1 : Option Addr) (n1 c1 : Nat) (ps : List Pk) (a2 : Option Addr) (n2 c2 : Nat) (xs : List Int) (w : World) (hL : Laid w) (hv1 : Pw w a1 n1 ps) (hm1 : n1 ≤ maxLen) (hv2 : Vw w a2 n2 xs) (hm2 : n2 ≤ maxLen) :
    Calls Tryd.prog 4 #[.slice a1 n1 c1, .slice a2 n2 c2] w fun e w' => e = .returned (.bool true) ∧ Below w.heap.size w w' := by
  have HL : Hid (Laid w ∧ Pw w a1 n1 ps ∧ Vw w a2 n2 xs) := ⟨hL, hv1, hv2⟩
  unfold maxLen at hm1 hm2
  clear hL hv1 hv2
  go_enter Tryd.func4, Tryd.ntmps4
  go_wp2_with fail
  refine (newN w).mono ?_
  rintro e w1 ⟨P, fp1, rfl, hN, hb⟩
  have G1 : Hid (NS w1 w.heap.size P no0 [] fp1 ∧ Below w.heap.size w w1) := ⟨hN, hb⟩
  clear hN hb
  go_wp2_with fail
  refine (sendN w.heap.size P no0 [] fp1 (0, 1, 3) w1 G1.out.1 NInv.start G1.out.2.size).mono ?_
  rintro e w2 ⟨fp2, rfl, hN, hb, _, _⟩
  rw [fact1.1, errF_ok]
  rw [fact1.2] at hN
  have G2 : Hid (NS w2 w.heap.size P no0 [(0, 1, 3)] fp2 ∧ Below w.heap.size w w2) := ⟨hN, G1.out.2.trans hb⟩
  clear hN hb G1
  go_wp2_with fail
  refine (cutNet w.heap.size P no0 [(0, 1, 3)] fp2 1 0 true w2 G2.out.1 inv1 G2.out.2.size).mono ?_
  rintro e w3 ⟨fp3, rfl, hN, hb, _, _⟩
  rw [fact2.1, errF_ok]
  have G3 : Hid (NS w3 w.heap.size P no1 [(0, 1, 3)] fp3 ∧ Below w.heap.size w w3) := ⟨hN, G2.out.2.trans hb⟩
  clear hN hb G2
  go_wp2_with fail
  refine (giveN w.heap.size P no1 [(0, 1, 3)] fp3 0 w3 G3.out.1 inv1 G3.out.2.size).mono ?_
  rintro e w4 ⟨fp4, rfl, hN, hb, _, _⟩
  rw [fact3.1, fact3.2.2]
  rw [fact3.2.1] at hN
  have e6 : errF 6 = .iface 76 (.int .i64 6) := errF_no (by decide)
  rw [e6]
  obtain ⟨W4, eW4⟩ : ∃ W4, W4 = w4.alloc (.cells #[.int .i64 0, .int .i64 0, .int .i64 0] 54) := ⟨_, rfl⟩
  have G4 : Hid (NS W4 w.heap.size P no1 [(0, 1, 3)] fp4 ∧ Below w.heap.size w W4) := by
    have b := G3.out.2.trans hb
    have ba : Below w4.heap.size w4 W4 := by rw [eW4]; exact (Below.refl _ _).alloc (Nat.le_refl _) _
    exact ⟨ns_later hN ba, b.trans (ba.mono b.size)⟩
  clear hN hb G3
  go_wp2_with fail
  rw [← eW4]
  clear eW4
  refine (cutNet w.heap.size P no1 [(0, 1, 3)] fp4 0 1 false W4 G4.out.1 inv1 G4.out.2.size).mono ?_
  rintro e w5 ⟨fp5, rfl, hN, hb, _, _⟩
  rw [fact2.2, errF_ok]
  have G5 : Hid (NS w5 w.heap.size P no2 [(0, 1, 3)] fp5 ∧ Below w.heap.size w w5) := ⟨hN, G4.out.2.trans hb⟩
  clear hN hb G4
  go_wp2_with fail
  refine (giveN w.heap.size P no2 [(0, 1, 3)] fp5 0 w5 G5.out.1 inv1 G5.out.2.size).mono ?_
  rintro e w6 ⟨fp6, rfl, hN, hb, _, _⟩
  rw [fact4.1, fact4.2.2, errF_ok]
  rw [fact4.2.1] at hN
  obtain ⟨W6, eW6⟩ : ∃ W6, W6 = w6.alloc (.cells #[.int .i64 0, .int .i64 1, .int .i64 3] 54) := ⟨_, rfl⟩
  have K6 : Hid (NK w P [] W6 ∧ W6.cell? ⟨w6.heap.size, 2, none⟩ = some (.int .i64 3) ∧ w6.heap.size < W6.heap.size) := by
    have b := G5.out.2.trans hb
    have ba : Below w6.heap.size w6 W6 := by rw [eW6]; exact (Below.refl _ _).alloc (Nat.le_refl _) _
    exact ⟨⟨⟨fp6, ns_later hN ba⟩, NInv.start, b.trans (ba.mono b.size)⟩, by rw [eW6]; go_cell, by rw [eW6]; simp⟩
  clear hN hb G5
  go_wp2_with fail
  rw [← eW6, ← e6]
  clear eW6
  refine (errF_same 6 W6 (HL.out.1.later K6.out.1.2.2)).mono ?_
  rintro e w7 ⟨rfl, hb⟩
  have K7 : Hid (NK w P [] w7) := K6.out.1.later hb
  have x3 := (hb.cell (p := ⟨w6.heap.size, 2, none⟩) K6.out.2.2).trans K6.out.2.1
  clear hb
  rw [e6]
  go_wp2_with fail
  obtain ⟨fp7, hn7⟩ := K7.out.1
  have N7 : Hid (NS w7 w.heap.size P no2 [] fp7) := hn7
  clear hn7
  refine (allN w.heap.size P no2 [] fp7 w7 N7.out NInv.start).mono ?_
  rintro e w8 ⟨v, rfl, hP, hb⟩
  obtain ⟨q, c, rfl⟩ := hP.len
  have K8 : Hid (NK w P [] w8) := K7.out.later hb
  clear hP hb x3 e6
  go_wp2
  go_loopw [13, 14] (fun x y wr => ∃ (j : Nat) (l : List Pk), j ≤ n2 ∧ x = .int .i64 (l.length : Int) ∧ y = .int .i64 (j : Int) ∧ Hid (NK w P l wr)) (fun _ y _ => n2 - (intOf y).toNat)
  case atStart => exact ⟨0, [], by omega, rfl, rfl, K8⟩
  case round =>
    obtain ⟨j, l, hj, rfl, rfl, hK⟩ := hrel
    by_cases hlt : j < n2
    · by_cases h120 : j < 120
      · obtain ⟨b2, o2, rfl, hb2, hc2⟩ := HL.out.2.2.2 (by omega)
        have x0 := (hK.out.2.2.cell (p := ⟨b2, o2 + j, none⟩) hb2).trans (hc2 j hlt)
        obtain ⟨k, ek⟩ : ∃ k, k = xs.getD j 0 := ⟨_, rfl⟩
        rw [← ek] at x0
        have hj0 : (0 : Int) ≤ (j : Int) := by omega
        have hjn : (j : Int) < (n2 : Int) := by omega
        have hj120 : (j : Int) < 120 := by omega
        obtain ⟨m, em⟩ : ∃ m, m = l.length := ⟨_, rfl⟩
        have hm40 : m ≤ 40 := by rw [em]; exact hK.out.2.1.len
        rw [← em]
        have EM : Hid (m = l.length) := em
        clear ek hc2 em
        have h4 : (j : Int).tmod 4 = ((j % 4 : Nat) : Int) := by
          rw [Int.tmod_eq_emod_of_nonneg hj0]
          omega
        rcases (show j % 4 = 0 ∨ j % 4 = 1 ∨ j % 4 = 2 ∨ j % 4 = 3 by omega) with h | h | h | h
        · rw [h] at h4
          by_cases h1 : k < 0
          · have d1 : decide ((0 : Int) ≤ k) = false := by simp; omega
            go_wp2_with fail
            obtain ⟨fpT, hnT⟩ := hK.out.1
            have NT : Hid (NS wr w.heap.size P no2 l fpT) := hnT
            clear hnT
            refine (allN w.heap.size P no2 l fpT wr NT.out hK.out.2.1).mono ?_
            rintro e wT ⟨v, rfl, hP, hb⟩
            obtain ⟨q, c, rfl⟩ := hP.len
            have KT : Hid (NK w P l wT) := hK.out.later hb
            rw [← EM.out]
            clear hP hb
            go_wp2
            go_roundw
            case rel => exact ⟨j + 1, l, by omega, by rw [← EM.out], by go_num, KT⟩
            case measure => simp [intOf]; omega
          · by_cases h2 : (n1 : Int) ≤ k
            · have d1 : decide ((0 : Int) ≤ k) = true := by simp; omega
              have d2 : decide (k < (n1 : Int)) = false := by simp; omega
              go_wp2_with fail
              obtain ⟨fpT, hnT⟩ := hK.out.1
              have NT : Hid (NS wr w.heap.size P no2 l fpT) := hnT
              clear hnT
              refine (allN w.heap.size P no2 l fpT wr NT.out hK.out.2.1).mono ?_
              rintro e wT ⟨v, rfl, hP, hb⟩
              obtain ⟨q, c, rfl⟩ := hP.len
              have KT : Hid (NK w P l wT) := hK.out.later hb
              rw [← EM.out]
              clear hP hb
              go_wp2
              go_roundw
              case rel => exact ⟨j + 1, l, by omega, by rw [← EM.out], by go_num, KT⟩
              case measure => simp [intOf]; omega
            · obtain ⟨kk, rfl⟩ : ∃ kk : Nat, k = (kk : Int) := ⟨k.toNat, by omega⟩
              have hkk : kk < n1 := by omega
              obtain ⟨b1, o1, rfl, hb1, hc1⟩ := HL.out.2.1.2 (by omega)
              obtain ⟨y0, y1, y2⟩ := hc1 kk hkk
              have z0 := (hK.out.2.2.cell (p := ⟨b1, o1 + kk * 3, none⟩) hb1).trans y0
              have z1 := (hK.out.2.2.cell (p := ⟨b1, o1 + kk * 3 + 1, none⟩) hb1).trans y1
              have z2 := (hK.out.2.2.cell (p := ⟨b1, o1 + kk * 3 + 2, none⟩) hb1).trans y2
              obtain ⟨p, ep⟩ : ∃ p, p = pk ps kk := ⟨_, rfl⟩
              rw [← ep] at z0 z1 z2
              obtain ⟨fpS, hnS⟩ := hK.out.1
              have NS0 : Hid (NS wr w.heap.size P no2 l fpS) := hnS
              have hk0 : (0 : Int) ≤ (kk : Int) := by omega
              have hk1 : (kk : Int) < (n1 : Int) := by omega
              clear hnS y0 y1 y2 hc1 ep
              by_cases hs : sendC l p = 0
              · go_wp2_with fail
                refine (sendN w.heap.size P no2 l fpS p wr NS0.out hK.out.2.1 hK.out.2.2.size).mono ?_
                rintro e wS ⟨fpR, rfl, hN, hb, _, _⟩
                have eL : sendL l p = l ++ [p] := if_pos hs
                rw [eL] at hN
                rw [hs, errF_ok]
                have hi := hK.out.2.1.send p
                rw [eL] at hi
                have KS : Hid (NK w P (l ++ [p]) wS) := ⟨⟨fpR, hN⟩, hi, hK.out.2.2.trans hb⟩
                have hl40 : (l ++ [p]).length ≤ 40 := hi.len
                have el : (l ++ [p]).length = m + 1 := by rw [List.length_append, EM.out]; rfl
                have hm39 : m + 1 ≤ 40 := by omega
                clear hN hb hi eL hl40
                go_wp2_with fail
                obtain ⟨fpT, hnT⟩ := KS.out.1
                have NT : Hid (NS wS w.heap.size P no2 (l ++ [p]) fpT) := hnT
                clear hnT
                refine (allN w.heap.size P no2 (l ++ [p]) fpT wS NT.out KS.out.2.1).mono ?_
                rintro e wT ⟨v, rfl, hP, hb⟩
                obtain ⟨q, c, rfl⟩ := hP.len
                have KT : Hid (NK w P (l ++ [p]) wT) := KS.out.later hb
                rw [el]
                clear hP hb
                go_wp2
                go_roundw
                case rel => exact ⟨j + 1, (l ++ [p]), by omega, by rw [el]; go_num, by go_num, KT⟩
                case measure => simp [intOf]; omega
              · go_wp2_with fail
                refine (sendN w.heap.size P no2 l fpS p wr NS0.out hK.out.2.1 hK.out.2.2.size).mono ?_
                rintro e wS ⟨fpR, rfl, hN, hb, _, _⟩
                have eL : sendL l p = l := if_neg hs
                rw [eL] at hN
                rw [errF_no hs]
                have KS : Hid (NK w P l wS) := ⟨⟨fpR, hN⟩, hK.out.2.1, hK.out.2.2.trans hb⟩
                clear hN hb eL
                go_wp2_with fail
                obtain ⟨fpT, hnT⟩ := KS.out.1
                have NT : Hid (NS wS w.heap.size P no2 l fpT) := hnT
                clear hnT
                refine (allN w.heap.size P no2 l fpT wS NT.out KS.out.2.1).mono ?_
                rintro e wT ⟨v, rfl, hP, hb⟩
                obtain ⟨q, c, rfl⟩ := hP.len
                have KT : Hid (NK w P l wT) := KS.out.later hb
                rw [← EM.out]
                clear hP hb
                go_wp2
                go_roundw
                case rel => exact ⟨j + 1, l, by omega, by rw [← EM.out], by go_num, KT⟩
                case measure => simp [intOf]; omega
        · rw [h] at h4
          by_cases h1 : k < 0
          · have d1 : decide ((0 : Int) ≤ k) = false := by simp; omega
            go_wp2_with fail
            obtain ⟨fpT, hnT⟩ := hK.out.1
            have NT : Hid (NS wr w.heap.size P no2 l fpT) := hnT
            clear hnT
            refine (allN w.heap.size P no2 l fpT wr NT.out hK.out.2.1).mono ?_
            rintro e wT ⟨v, rfl, hP, hb⟩
            obtain ⟨q, c, rfl⟩ := hP.len
            have KT : Hid (NK w P l wT) := hK.out.later hb
            rw [← EM.out]
            clear hP hb
            go_wp2
            go_roundw
            case rel => exact ⟨j + 1, l, by omega, by rw [← EM.out], by go_num, KT⟩
            case measure => simp [intOf]; omega
          · by_cases h2 : (n1 : Int) ≤ k
            · have d1 : decide ((0 : Int) ≤ k) = true := by simp; omega
              have d2 : decide (k < (n1 : Int)) = false := by simp; omega
              go_wp2_with fail
              obtain ⟨fpT, hnT⟩ := hK.out.1
              have NT : Hid (NS wr w.heap.size P no2 l fpT) := hnT
              clear hnT
              refine (allN w.heap.size P no2 l fpT wr NT.out hK.out.2.1).mono ?_
              rintro e wT ⟨v, rfl, hP, hb⟩
              obtain ⟨q, c, rfl⟩ := hP.len
              have KT : Hid (NK w P l wT) := hK.out.later hb
              rw [← EM.out]
              clear hP hb
              go_wp2
              go_roundw
              case rel => exact ⟨j + 1, l, by omega, by rw [← EM.out], by go_num, KT⟩
              case measure => simp [intOf]; omega
            · obtain ⟨kk, rfl⟩ : ∃ kk : Nat, k = (kk : Int) := ⟨k.toNat, by omega⟩
              have hkk : kk < n1 := by omega
              obtain ⟨b1, o1, rfl, hb1, hc1⟩ := HL.out.2.1.2 (by omega)
              obtain ⟨y0, y1, y2⟩ := hc1 kk hkk
              have z0 := (hK.out.2.2.cell (p := ⟨b1, o1 + kk * 3, none⟩) hb1).trans y0
              have z1 := (hK.out.2.2.cell (p := ⟨b1, o1 + kk * 3 + 1, none⟩) hb1).trans y1
              have z2 := (hK.out.2.2.cell (p := ⟨b1, o1 + kk * 3 + 2, none⟩) hb1).trans y2
              obtain ⟨p, ep⟩ : ∃ p, p = pk ps kk := ⟨_, rfl⟩
              rw [← ep] at z0 z1 z2
              obtain ⟨fpS, hnS⟩ := hK.out.1
              have NS0 : Hid (NS wr w.heap.size P no2 l fpS) := hnS
              have hk0 : (0 : Int) ≤ (kk : Int) := by omega
              have hk1 : (kk : Int) < (n1 : Int) := by omega
              clear hnS y0 y1 y2 hc1 ep
              by_cases hs : sendC l p = 0
              · go_wp2_with fail
                refine (sendN w.heap.size P no2 l fpS p wr NS0.out hK.out.2.1 hK.out.2.2.size).mono ?_
                rintro e wS ⟨fpR, rfl, hN, hb, _, _⟩
                have eL : sendL l p = l ++ [p] := if_pos hs
                rw [eL] at hN
                rw [hs, errF_ok]
                have hi := hK.out.2.1.send p
                rw [eL] at hi
                have KS : Hid (NK w P (l ++ [p]) wS) := ⟨⟨fpR, hN⟩, hi, hK.out.2.2.trans hb⟩
                have hl40 : (l ++ [p]).length ≤ 40 := hi.len
                have el : (l ++ [p]).length = m + 1 := by rw [List.length_append, EM.out]; rfl
                have hm39 : m + 1 ≤ 40 := by omega
                clear hN hb hi eL hl40
                go_wp2_with fail
                obtain ⟨fpT, hnT⟩ := KS.out.1
                have NT : Hid (NS wS w.heap.size P no2 (l ++ [p]) fpT) := hnT
                clear hnT
                refine (allN w.heap.size P no2 (l ++ [p]) fpT wS NT.out KS.out.2.1).mono ?_
                rintro e wT ⟨v, rfl, hP, hb⟩
                obtain ⟨q, c, rfl⟩ := hP.len
                have KT : Hid (NK w P (l ++ [p]) wT) := KS.out.later hb
                rw [el]
                clear hP hb
                go_wp2
                go_roundw
                case rel => exact ⟨j + 1, (l ++ [p]), by omega, by rw [el]; go_num, by go_num, KT⟩
                case measure => simp [intOf]; omega
              · go_wp2_with fail
                refine (sendN w.heap.size P no2 l fpS p wr NS0.out hK.out.2.1 hK.out.2.2.size).mono ?_
                rintro e wS ⟨fpR, rfl, hN, hb, _, _⟩
                have eL : sendL l p = l := if_neg hs
                rw [eL] at hN
                rw [errF_no hs]
                have KS : Hid (NK w P l wS) := ⟨⟨fpR, hN⟩, hK.out.2.1, hK.out.2.2.trans hb⟩
                clear hN hb eL
                go_wp2_with fail
                obtain ⟨fpT, hnT⟩ := KS.out.1
                have NT : Hid (NS wS w.heap.size P no2 l fpT) := hnT
                clear hnT
                refine (allN w.heap.size P no2 l fpT wS NT.out KS.out.2.1).mono ?_
                rintro e wT ⟨v, rfl, hP, hb⟩
                obtain ⟨q, c, rfl⟩ := hP.len
                have KT : Hid (NK w P l wT) := KS.out.later hb
                rw [← EM.out]
                clear hP hb
                go_wp2
                go_roundw
                case rel => exact ⟨j + 1, l, by omega, by rw [← EM.out], by go_num, KT⟩
                case measure => simp [intOf]; omega
        · rw [h] at h4
          obtain ⟨fpS, hnS⟩ := hK.out.1
          have NS0 : Hid (NS wr w.heap.size P no2 l fpS) := hnS
          clear hnS
          by_cases hs : twC l k = 0
          · have eT := tw_ok hs
            go_wp2_with fail
            refine (twiceN w.heap.size P no2 l fpS k wr NS0.out hK.out.2.1 hK.out.2.2.size).mono ?_
            rintro e wS ⟨fpR, rfl, hN, hb, _, _⟩
            have hi := hK.out.2.1.tw k
            rw [eT] at hN hi
            rw [hs, errF_ok]
            have KS : Hid (NK w P (l ++ [pk l k.toNat]) wS) := ⟨⟨fpR, hN⟩, hi, hK.out.2.2.trans hb⟩
            have hl40 : (l ++ [pk l k.toNat]).length ≤ 40 := hi.len
            have el : (l ++ [pk l k.toNat]).length = m + 1 := by rw [List.length_append, EM.out]; rfl
            have hm39 : m + 1 ≤ 40 := by omega
            clear hN hb hi hl40 eT
            go_wp2_with fail
            obtain ⟨fpT, hnT⟩ := KS.out.1
            have NT : Hid (NS wS w.heap.size P no2 (l ++ [pk l k.toNat]) fpT) := hnT
            clear hnT
            refine (allN w.heap.size P no2 (l ++ [pk l k.toNat]) fpT wS NT.out KS.out.2.1).mono ?_
            rintro e wT ⟨v, rfl, hP, hb⟩
            obtain ⟨q, c, rfl⟩ := hP.len
            have KT : Hid (NK w P (l ++ [pk l k.toNat]) wT) := KS.out.later hb
            rw [el]
            clear hP hb
            go_wp2
            go_roundw
            case rel => exact ⟨j + 1, (l ++ [pk l k.toNat]), by omega, by rw [el]; go_num, by go_num, KT⟩
            case measure => simp [intOf]; omega
          · have eT := tw_no hs
            go_wp2_with fail
            refine (twiceN w.heap.size P no2 l fpS k wr NS0.out hK.out.2.1 hK.out.2.2.size).mono ?_
            rintro e wS ⟨fpR, rfl, hN, hb, _, _⟩
            rw [eT] at hN
            rw [errF_no hs]
            have KS : Hid (NK w P l wS) := ⟨⟨fpR, hN⟩, hK.out.2.1, hK.out.2.2.trans hb⟩
            clear hN hb eT
            go_wp2_with fail
            obtain ⟨fpT, hnT⟩ := KS.out.1
            have NT : Hid (NS wS w.heap.size P no2 l fpT) := hnT
            clear hnT
            refine (allN w.heap.size P no2 l fpT wS NT.out KS.out.2.1).mono ?_
            rintro e wT ⟨v, rfl, hP, hb⟩
            obtain ⟨q, c, rfl⟩ := hP.len
            have KT : Hid (NK w P l wT) := KS.out.later hb
            rw [← EM.out]
            clear hP hb
            go_wp2
            go_roundw
            case rel => exact ⟨j + 1, l, by omega, by rw [← EM.out], by go_num, KT⟩
            case measure => simp [intOf]; omega
        · rw [h] at h4
          obtain ⟨fpS, hnS⟩ := hK.out.1
          have NS0 : Hid (NS wr w.heap.size P no2 l fpS) := hnS
          clear hnS
          by_cases hs : giveC no2 l k = 0
          · have hin := give_in hs
            have eG : giveL no2 l k = l.eraseIdx k.toNat := if_pos hs
            have hm1 : 1 ≤ m := by have := isIn_len hin; rw [← EM.out] at this; omega
            have hm1' : (1 : Int) ≤ (m : Int) := by omega
            have el : (l.eraseIdx k.toNat).length = m - 1 := by rw [List.length_eraseIdx, if_pos (isIn_lt hin), EM.out]
            have hml : (((m - 1 : Nat) : Int) != (m : Int) - 1) = false := by simp; omega
            have hmc : ((m - 1 : Nat) : Int) = (m : Int) - 1 := by omega
            have hm39 : (m : Int) - 1 ≤ 40 := by omega
            go_wp2_with fail
            refine (giveN w.heap.size P no2 l fpS k wr NS0.out hK.out.2.1 hK.out.2.2.size).mono ?_
            rintro e wS ⟨fpR, rfl, hN, hb, _, _⟩
            obtain ⟨g0, g1, g2⟩ := giveP no2 l k
            rw [eG] at hN
            rw [hs, errF_ok]
            obtain ⟨WA, eWA⟩ : ∃ WA, WA = wS.alloc (.cells #[.int .i64 g0, .int .i64 g1, .int .i64 g2] 54) := ⟨_, rfl⟩
            have KS : Hid (NK w P (l.eraseIdx k.toNat) WA) := by
              have k0 : NK w P (l.eraseIdx k.toNat) wS := ⟨⟨fpR, hN⟩, hK.out.2.1.erase _, hK.out.2.2.trans hb⟩
              exact k0.later (by rw [eWA]; exact (Below.refl _ _).alloc (Nat.le_refl _) _)
            clear hN hb eG
            go_wp2_with fail
            rw [← eWA]
            clear eWA
            obtain ⟨fpT, hnT⟩ := KS.out.1
            have NT : Hid (NS WA w.heap.size P no2 (l.eraseIdx k.toNat) fpT) := hnT
            clear hnT
            refine (allN w.heap.size P no2 (l.eraseIdx k.toNat) fpT WA NT.out KS.out.2.1).mono ?_
            rintro e wT ⟨v, rfl, hP, hb⟩
            obtain ⟨q, c, rfl⟩ := hP.len
            have KT : Hid (NK w P (l.eraseIdx k.toNat) wT) := KS.out.later hb
            rw [el]
            clear hP hb
            go_wp2
            go_roundw
            case rel => exact ⟨j + 1, (l.eraseIdx k.toNat), by omega, by rw [el, hmc], by go_num, KT⟩
            case measure => simp [intOf]; omega
          · have eG : giveL no2 l k = l := if_neg hs
            go_wp2_with fail
            refine (giveN w.heap.size P no2 l fpS k wr NS0.out hK.out.2.1 hK.out.2.2.size).mono ?_
            rintro e wS ⟨fpR, rfl, hN, hb, _, _⟩
            obtain ⟨g0, g1, g2⟩ := giveP no2 l k
            rw [eG] at hN
            rw [errF_no hs]
            obtain ⟨WA, eWA⟩ : ∃ WA, WA = wS.alloc (.cells #[.int .i64 g0, .int .i64 g1, .int .i64 g2] 54) := ⟨_, rfl⟩
            have KS : Hid (NK w P l WA) := by
              have k0 : NK w P l wS := ⟨⟨fpR, hN⟩, hK.out.2.1, hK.out.2.2.trans hb⟩
              exact k0.later (by rw [eWA]; exact (Below.refl _ _).alloc (Nat.le_refl _) _)
            clear hN hb eG
            obtain ⟨fpA, hnA⟩ := KS.out.1
            have NSA : Hid (NS WA w.heap.size P no2 l fpA) := hnA
            clear hnA
            go_wp2_with fail
            rw [← eWA]
            clear eWA
            refine (dropN w.heap.size P no2 l fpA k WA NSA.out KS.out.2.1 KS.out.2.2.size).mono ?_
            rintro e wD ⟨fpD, rfl, hN, hb, _, _⟩
            cases hin : isIn l k
            · have eD : dropL l k = l := if_neg (by rw [hin]; decide)
              have eC : dropC l k = 1 := if_neg (by rw [hin]; decide)
              rw [eD] at hN
              rw [eC, errF_no (by decide)]
              have KD : Hid (NK w P l wD) := ⟨⟨fpD, hN⟩, KS.out.2.1, KS.out.2.2.trans hb⟩
              clear hN hb eD eC
              go_wp2_with fail
              obtain ⟨fpT, hnT⟩ := KD.out.1
              have NT : Hid (NS wD w.heap.size P no2 l fpT) := hnT
              clear hnT
              refine (allN w.heap.size P no2 l fpT wD NT.out KD.out.2.1).mono ?_
              rintro e wT ⟨v, rfl, hP, hb⟩
              obtain ⟨q, c, rfl⟩ := hP.len
              have KT : Hid (NK w P l wT) := KD.out.later hb
              rw [← EM.out]
              clear hP hb
              go_wp2
              go_roundw
              case rel => exact ⟨j + 1, l, by omega, by rw [← EM.out], by go_num, KT⟩
              case measure => simp [intOf]; omega
            · have eD : dropL l k = l.eraseIdx k.toNat := if_pos hin
              have eC : dropC l k = 0 := if_pos hin
              have hm1 : 1 ≤ m := by have := isIn_len hin; rw [← EM.out] at this; omega
              have hm1' : (1 : Int) ≤ (m : Int) := by omega
              have el : (l.eraseIdx k.toNat).length = m - 1 := by rw [List.length_eraseIdx, if_pos (isIn_lt hin), EM.out]
              have hml : (((m - 1 : Nat) : Int) != (m : Int) - 1) = false := by simp; omega
              have hmc : ((m - 1 : Nat) : Int) = (m : Int) - 1 := by omega
              have hm39 : (m : Int) - 1 ≤ 40 := by omega
              rw [eD] at hN
              rw [eC, errF_ok]
              have KD : Hid (NK w P (l.eraseIdx k.toNat) wD) := ⟨⟨fpD, hN⟩, KS.out.2.1.erase _, KS.out.2.2.trans hb⟩
              clear hN hb eD eC
              go_wp2_with fail
              obtain ⟨fpT, hnT⟩ := KD.out.1
              have NT : Hid (NS wD w.heap.size P no2 (l.eraseIdx k.toNat) fpT) := hnT
              clear hnT
              refine (allN w.heap.size P no2 (l.eraseIdx k.toNat) fpT wD NT.out KD.out.2.1).mono ?_
              rintro e wT ⟨v, rfl, hP, hb⟩
              obtain ⟨q, c, rfl⟩ := hP.len
              have KT : Hid (NK w P (l.eraseIdx k.toNat) wT) := KD.out.later hb
              rw [el]
              clear hP hb
              go_wp2
              go_roundw
              case rel => exact ⟨j + 1, (l.eraseIdx k.toNat), by omega, by rw [el, hmc], by go_num, KT⟩
              case measure => simp [intOf]; omega
      · have d120 : decide ((j : Int) < 120) = false := by simp; omega
        have hjn : decide ((j : Int) < (n2 : Int)) = true := by simp; omega
        go_wp2
        go_ret
        exact ⟨rfl, hK.out.2.2⟩
    · have hjn : decide ((j : Int) < (n2 : Int)) = false := by simp; omega
      go_wp2
      go_ret
      exact ⟨rfl, hK.out.2.2⟩
end Go.Proofs.YtmlafflmgagkjadDoor.Net
