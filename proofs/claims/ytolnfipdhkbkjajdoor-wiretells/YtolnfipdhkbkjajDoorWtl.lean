/-
  WireTells: the walk.
-/
import Derived.Test.YtolnfipdhkbkjajDoorWirT
import Derived.Test.YtolnfipdhkbkjajDoorWirS
import Derived.Test.YtolnfipdhkbkjajDoorWirH
import Derived.Test.YtolnfipdhkbkjajDoorPieQ
import Derived.Deep.RegionLaw
import Derived.Deep.CutBlock
import Derived.Deep.CutRange
namespace Go.Proofs.YtolnfipdhkbkjajDoor.Wir
open Go.RowKit
open Go.Proofs.YtolnfipdhkbkjajDoor.Fif (own_lt own_block own_form own_mono own_vw Kp ret_bool)
open Go.Proofs.YtolnfipdhkbkjajDoor.Vec (Vw code)
open Go.Proofs.YtolnfipdhkbkjajDoor.Cau (Sd sdBad)
open Go.Proofs.YtolnfipdhkbkjajDoor.Pie (Pc Pw pc pcBad refPiece)
open Go.Proofs.YtolnfipdhkbkjajDoor.As (Laid)
set_option linter.unusedVariables false

theorem add_text (a b : ByteArray) (h : a.size + b.size ≤ 10000) (W : World) : (Op.stringOp .add a b).run Tryd.prog W = .ok (.string (a ++ b)) W := run_string_add_sum W a b (by omega)
theorem conv_row (w : World) {l : List Int} {n : Nat} (hb : Byt l) (hn : n = l.length) (hl : l.length ≤ 1000) (W : World) (hW : W.heap = (w.alloc (.cells (l.map (Value.int .u8)).toArray 5)).heap) : (convert 73 9 (.slice (some ⟨w.heap.size, 0, none⟩) n n)).run Tryd.prog W = .ok (.string (txt l)) W := by
  subst hn
  exact text_of (new_own w l 0 (Nat.zero_le _) hl hb) W (fun _ _ => by rw [hW])
theorem wrap_byte {b : Int} (h0 : 0 ≤ b) (h1 : b < 256) : IntKind.u8.wrap b = b := by
  simp only [IntKind.wrap, IntKind.bits, IntKind.signed]
  simp
  omega
/-- how the row stands -/
def RowAt (l : List Pc) (i : Nat) (e : Int) (r : ByteArray) : Prop := (e = 0 ∧ l.length ≤ 60 ∧ r = rowN l i ∧ ∀ j, j < i → pcBad (pc l j) = false) ∨ (e ≠ 0 ∧ e = rowC l ∧ r = rowS l)
theorem errF_pie (c : Int) : Pie.errF c = errF c := rfl
set_option maxRecDepth 100000 in
set_option maxHeartbeats 8000000 in
theorem tells_any (s0 : Sd) (u0 : Value) (t : ByteArray) (a : Option Addr) (n cap : Nat) (l : List Pc) (w : World) (hL : Laid w) (hs : Sl w u0 s0.2.2) (hl : Pw w a n l) (hm : n ≤ maxLen) :
    Calls Tryd.prog 4 #[.agg #[.int .i64 s0.1, .int .i64 s0.2.1, u0], .string t, .slice a n cap] w fun x w' => x = .returned (.bool true) ∧ Below w.heap.size w w' := by
  obtain ⟨x0, ex0⟩ : ∃ x, x = s0.1 := ⟨_, rfl⟩
  obtain ⟨y0, ey0⟩ : ∃ y, y = s0.2.1 := ⟨_, rfl⟩
  rw [← ex0, ← ey0]
  obtain ⟨W0, eW0⟩ : ∃ W0, W0 = w.alloc (.cells #[.int .i64 x0, .int .i64 y0, u0] 59) := ⟨_, rfl⟩
  have HW : Hid (W0.rowIs w.heap.size 59 3 (wv x0 y0 u0) ∧ Sl W0 u0 s0.2.2 ∧ Below w.heap.size w W0 ∧ Laid W0 ∧ w.heap.size < W0.heap.size ∧ (x0 = s0.1 ∧ y0 = s0.2.1)) := by
    have b := box w x0 y0 u0
    have b2 := (Below.refl w.heap.size w).alloc (Nat.le_refl _) (.cells #[.int .i64 x0, .int .i64 y0, u0] 59)
    rw [← eW0] at b b2
    exact ⟨b, hs.later b2, b2, hL.later b2, World.rowIs.lt b, ex0, ey0⟩
  have HX : Hid (∀ X : World, Below W0.heap.size W0 X → X.cell? ⟨w.heap.size, 0, none⟩ = some (.int .i64 x0) ∧ X.cell? ⟨w.heap.size, 1, none⟩ = some (.int .i64 y0) ∧ X.cell? ⟨w.heap.size, 2, none⟩ = some u0) := by
    intro X hX
    have r0 := World.rowIs.of_block HW.out.1 (hX.block _ HW.out.2.2.2.2.1)
    exact ⟨World.rowIs.cell r0 (i := 0) (by omega), World.rowIs.cell r0 (i := 1) (by omega), World.rowIs.cell r0 (i := 2) (by omega)⟩
  have HP : Hid (Pw W0 a n l ∧ l.length = n) := ⟨hl.later HW.out.2.2.1, hl.1⟩
  obtain ⟨q0, c0, hu0, _, _, _⟩ := hs
  subst hu0
  obtain ⟨n0, en0⟩ : ∃ n0, n0 = s0.2.2.length := ⟨_, rfl⟩
  have EN0 : Hid (n0 = s0.2.2.length) := en0
  rw [← en0] at HX HW eW0 ⊢
  have HV : Hid (Vw W0 q0 n0 s0.2.2) := by
    obtain ⟨a1, c1, e, _, _, hv⟩ := HW.out.2.1
    simp only [Value.slice.injEq] at e
    rw [e.1, e.2.1]
    exact hv
  obtain ⟨C, eC⟩ : ∃ C, C = packC s0 := ⟨_, rfl⟩
  have EC : Hid (C = packC s0) := eC
  have CB : Hid (sdBad (x0, y0, s0.2.2) = true → C = 1) := fun h => by
    rw [eC]
    unfold packC
    rw [if_pos]
    rw [ex0, ey0] at h
    exact h
  have CG : Hid (sdBad (x0, y0, s0.2.2) = false → C = code s0.2.2) := fun h => by
    rw [eC]
    unfold packC
    rw [if_neg]
    rw [ex0, ey0] at h
    rw [Bool.not_eq_true]
    exact h
  obtain ⟨bad, ebad⟩ : ∃ b, b = sdBad (x0, y0, s0.2.2) := ⟨_, rfl⟩
  have EB : Hid (bad = sdBad (x0, y0, s0.2.2)) := ebad
  clear ex0 ey0 hL hl eC en0 ebad
  go_enter Tryd.func4, Tryd.ntmps4
  go_upto_region 2 with fail
  rw [← eW0]
  clear eW0
  obtain ⟨k0, k1, k2⟩ := HX.out W0 (Below.refl _ _)
  go_cut [38] from 21 to 37 (fun x wx => x = .bool bad ∧ W0 = wx)
  case first =>
    cases d1 : decide (x0 < 0)
    · cases d2 : decide (x0 > 4)
      · cases d3 : decide (y0 < 1)
        · cases d4 : decide (y0 > 30)
          · have e : sdBad (x0, y0, s0.2.2) = false := by simp at d1 d2 d3 d4; simp [sdBad]; omega
            go_wp2_with fail
            go_meet
            exact ⟨by rw [EB.out, e], rfl⟩
          · have e : sdBad (x0, y0, s0.2.2) = true := by simp at d4; simp [sdBad]; omega
            go_wp2_with fail
            go_meet
            exact ⟨by rw [EB.out, e], rfl⟩
        · have e : sdBad (x0, y0, s0.2.2) = true := by simp at d3; simp [sdBad]; omega
          go_wp2_with fail
          go_meet
          exact ⟨by rw [EB.out, e], rfl⟩
      · have e : sdBad (x0, y0, s0.2.2) = true := by simp at d2; simp [sdBad]; omega
        go_wp2_with fail
        go_meet
        exact ⟨by rw [EB.out, e], rfl⟩
    · have e : sdBad (x0, y0, s0.2.2) = true := by simp at d1; simp [sdBad]; omega
      go_wp2_with fail
      go_meet
      exact ⟨by rw [EB.out, e], rfl⟩
  case rest =>
    obtain ⟨rfl, rfl⟩ := hcut
    go_upto_if 38 with fail
    go_cut [7] from 39 to 41 (fun x wx => x = .int .i64 C ∧ W0 = wx)
    case first =>
      cases bad
      · have hC := CG.out EB.out.symm
        go_wp2_with fail
        refine (Vec.refVector q0 n0 c0 s0.2.2 W0 HV.out).mono ?_
        rintro e w4 ⟨rfl, rfl⟩
        go_wp2_with fail
        go_meet
        exact ⟨by rw [hC], rfl⟩
      · have hC := CB.out EB.out.symm
        go_wp2_with fail
        go_meet
        exact ⟨by rw [hC], rfl⟩
    case rest =>
      obtain ⟨rfl, rfl⟩ := hcut
      clear k0 k1 k2
      go_upto_region 6 with fail
      obtain ⟨z, ez⟩ : ∃ z, z = (C == 0) := ⟨_, rfl⟩
      have EZ : Hid (z = (C == 0)) := ez
      go_cut [43] from 42 to 42 (fun x wx => x = .bool z ∧ W0 = wx)
      case first =>
        go_wp2_with fail
        go_meet
        exact ⟨by rw [ez], rfl⟩
      case rest =>
        obtain ⟨rfl, rfl⟩ := hcut
        clear ez
        go_upto_if 43 with fail
        go_cut [8] from 44 to 45 (fun x wx => x = .string (packS s0) ∧ Hid (Below W0.heap.size W0 wx))
        case first =>
          cases z
          · have hz : C ≠ 0 := by have := EZ.out; simpa using this.symm
            have hp : packS s0 = .empty := if_neg (by rw [← EC.out]; exact hz)
            go_wp2_with fail
            go_meet
            exact ⟨by rw [hp]; rfl, Below.refl _ _⟩
          · have hz : C = 0 := by have := EZ.out; simpa using this.symm
            have hz2 : packC s0 = 0 := by rw [← EC.out]; exact hz
            have hp : packS s0 = txt (pk s0) := if_pos hz2
            obtain ⟨k0, k1, k2⟩ := HX.out W0 (Below.refl _ _)
            have hc : (x0, y0, s0.2.2) = s0 := by rw [HW.out.2.2.2.2.2.1, HW.out.2.2.2.2.2.2]
            have hr := refBytes x0 y0 s0.2.2 (.slice q0 n0 c0) W0 HW.out.2.1 (by rw [hc]; exact hz2)
            rw [hc, ← hp] at hr
            clear hz hz2 hc hp
            go_wp2_with fail
            refine hr.mono ?_
            clear hr
            rintro e w4 ⟨rfl, hb⟩
            go_wp2_with fail
            go_meet
            exact ⟨rfl, hb⟩
        case rest =>
          obtain ⟨rfl, hK0⟩ := hcut
          obtain ⟨k0, k1, k2⟩ := HX.out wc hK0.out
          have hp := packP s0 (.slice q0 n0 c0) wc (HW.out.2.1.later hK0.out)
          rw [← HW.out.2.2.2.2.2.1, ← HW.out.2.2.2.2.2.2, ← EC.out] at hp
          obtain ⟨T, eT⟩ : ∃ T, T = packS s0 := ⟨_, rfl⟩
          rw [← eT] at hp ⊢
          have hTT : (T.toList == T.toList) = true := by simp
          have HPk : Hid (Calls Tryd.prog 23 #[.agg #[.int .i64 x0, .int .i64 y0, .slice q0 n0 c0]] wc fun e w' => e = .returned (.tuple #[.string T, errF C]) ∧ Below wc.heap.size wc w') := hp
          clear hp eT
          go_wp2_with fail
          refine HPk.out.mono ?_
          rintro e w4 ⟨rfl, hb⟩
          have K4 : Hid (Below W0.heap.size W0 w4) := hK0.out.trans (hb.mono hK0.out.size)
          clear hb HPk hK0 k0 k1 k2
          go_wp2_with fail
          refine (errF_same C w4 (HW.out.2.2.2.1.later K4.out)).mono ?_
          rintro e w5 ⟨rfl, hb⟩
          have K5 : Hid (Below W0.heap.size W0 w5) := K4.out.trans (hb.mono K4.out.size)
          clear hb K4
          go_wp2_with fail
          refine (refReadX t w5).mono ?_
          rintro e w6 ⟨x1, y1, q1, n1, c1, rfl, hs6, hb⟩
          obtain ⟨w7, ew7⟩ : ∃ w7, w7 = w6.alloc (.cells #[.int .i64 x1, .int .i64 y1, .slice q1 n1 c1] 59) := ⟨_, rfl⟩
          have b7 := box w6 x1 y1 (.slice q1 n1 c1)
          have K7 : Hid (Below W0.heap.size W0 w7 ∧ Sl w7 (.slice q1 n1 c1) (unS t).2.2 ∧ (x1 = (unS t).1 ∧ y1 = (unS t).2.1)) := by
            have h1 := K5.out.trans (hb.mono K5.out.size)
            rw [ew7]
            exact ⟨h1.alloc h1.size _, box_sl hs6.out.2 _ _, hs6.out.1⟩
          rw [← ew7] at b7
          obtain ⟨P1, eP1⟩ : ∃ P, P = w6.heap.size := ⟨_, rfl⟩
          rw [← eP1] at b7
          have R7 : Hid (w7.rowIs P1 59 3 (wv x1 y1 (.slice q1 n1 c1)) ∧ P1 < w7.heap.size) := ⟨b7, World.rowIs.lt b7⟩
          obtain ⟨ok, eok⟩ : ∃ ok, ok = okU t := ⟨_, rfl⟩
          have EOK : Hid (ok = okU t ∧ unC t = if ok = true then 0 else 2) := ⟨eok, by rw [eok]; rfl⟩
          rw [← eok]
          clear hb K5 hs6 b7 eok hTT
          go_upto_region 11 with fail
          rw [← ew7, ← eP1]
          clear ew7 eP1
          go_upto_if 65 with fail
          go_cut [7] from 64 to 66 (fun x wx => x = .int .i64 (unC t) ∧ w7 = wx)
          case first =>
            cases ok
            · have hc : unC t = 2 := EOK.out.2
              go_wp2_with fail
              go_meet
              exact ⟨by rw [hc], rfl⟩
            · have hc : unC t = 0 := EOK.out.2
              go_wp2_with fail
              go_meet
              exact ⟨by rw [hc], rfl⟩
          case rest =>
            obtain ⟨rfl, rfl⟩ := hcut
            obtain ⟨D, eD⟩ : ∃ D, D = unC t := ⟨_, rfl⟩
            have HU := unpackX t w7
            rw [← eD] at HU ⊢
            clear eD
            go_wp2_with fail
            refine HU.mono ?_
            clear HU
            rintro e w8 ⟨x2, y2, q2, n2, c2, rfl, hs8, hb⟩
            obtain ⟨w9, ew9⟩ : ∃ w9, w9 = w8.alloc (.cells #[.int .i64 x2, .int .i64 y2, .slice q2 n2 c2] 59) := ⟨_, rfl⟩
            obtain ⟨P2, eP2⟩ : ∃ P, P = w8.heap.size := ⟨_, rfl⟩
            have b9 := box w8 x2 y2 (.slice q2 n2 c2)
            have h78 : Below w7.heap.size w7 w9 := by rw [ew9]; exact hb.alloc hb.size _
            have K9 : Hid (Below W0.heap.size W0 w9 ∧ Sl w9 (.slice q2 n2 c2) (unS t).2.2 ∧ Sl w9 (.slice q1 n1 c1) (unS t).2.2) := ⟨K7.out.1.trans (h78.mono K7.out.1.size), by rw [ew9]; exact box_sl hs8.out.2 _ _, K7.out.2.1.later h78⟩
            have X9 : Hid (x1 = x2 ∧ y1 = y2) := ⟨K7.out.2.2.1.trans hs8.out.1.1.symm, K7.out.2.2.2.trans hs8.out.1.2.symm⟩
            rw [← ew9, ← eP2] at b9
            have r9 := World.rowIs.of_block R7.out.1 (h78.block _ R7.out.2)
            have i0 : w9.cell? ⟨P1, 0, none⟩ = some (.int .i64 x1) := World.rowIs.cell r9 (i := 0) (by omega)
            have i1 : w9.cell? ⟨P1, 1, none⟩ = some (.int .i64 y1) := World.rowIs.cell r9 (i := 1) (by omega)
            have i2 : w9.cell? ⟨P1, 2, none⟩ = some (.slice q1 n1 c1) := World.rowIs.cell r9 (i := 2) (by omega)
            have j0 : w9.cell? ⟨P2, 0, none⟩ = some (.int .i64 x2) := World.rowIs.cell b9 (i := 0) (by omega)
            have j1 : w9.cell? ⟨P2, 1, none⟩ = some (.int .i64 y2) := World.rowIs.cell b9 (i := 1) (by omega)
            have j2 : w9.cell? ⟨P2, 2, none⟩ = some (.slice q2 n2 c2) := World.rowIs.cell b9 (i := 2) (by omega)
            obtain ⟨e1, e2⟩ := X9.out
            subst e1
            subst e2
            have I9 : Hid (∀ X, Below w9.heap.size w9 X → (X.cell? ⟨P1, 0, none⟩ = some (.int .i64 x1) ∧ X.cell? ⟨P1, 1, none⟩ = some (.int .i64 y1) ∧ X.cell? ⟨P1, 2, none⟩ = some (.slice q1 n1 c1)) ∧ (X.cell? ⟨P2, 0, none⟩ = some (.int .i64 x1) ∧ X.cell? ⟨P2, 1, none⟩ = some (.int .i64 y1) ∧ X.cell? ⟨P2, 2, none⟩ = some (.slice q2 n2 c2))) := fun X hX => by
              have a1 := World.rowIs.of_block r9 (hX.block _ (World.rowIs.lt r9))
              have a2 := World.rowIs.of_block b9 (hX.block _ (World.rowIs.lt b9))
              exact ⟨⟨World.rowIs.cell a1 (i := 0) (by omega), World.rowIs.cell a1 (i := 1) (by omega), World.rowIs.cell a1 (i := 2) (by omega)⟩, World.rowIs.cell a2 (i := 0) (by omega), World.rowIs.cell a2 (i := 1) (by omega), World.rowIs.cell a2 (i := 2) (by omega)⟩
            clear hb hs8 b9 r9 h78 R7 K7 X9 i0 i1 i2 j0 j1 j2
            go_upto_region 15 with fail
            rw [← ew9, ← eP2]
            clear ew9 eP2
            go_wp2_with fail
            refine (errF_same D w9 (HW.out.2.2.2.1.later K9.out.1)).mono ?_
            rintro e w10 ⟨rfl, hb⟩
            have K10 : Hid (Below W0.heap.size W0 w10 ∧ Sl w10 (.slice q2 n2 c2) (unS t).2.2 ∧ Sl w10 (.slice q1 n1 c1) (unS t).2.2) := ⟨K9.out.1.trans (hb.mono K9.out.1.size), K9.out.2.1.later hb, K9.out.2.2.later hb⟩
            obtain ⟨⟨i0, i1, i2⟩, j0, j1, j2⟩ := I9.out w10 hb
            clear hb I9 K9
            go_wp2_with fail
            refine (said_same x1 y1 (unS t).2.2 (.slice q1 n1 c1) (.slice q2 n2 c2) w10 K10.out.2.2 K10.out.2.1).mono ?_
            rintro e w11 ⟨rfl, hb⟩
            have K11 : Hid (Below W0.heap.size W0 w11) := K10.out.1.trans (hb.mono K10.out.1.size)
            clear hb K10 i0 i1 i2 j0 j1 j2
            go_upto_region 17 with fail
            obtain ⟨e0, ee0⟩ : ∃ e : Int, e = if 60 < n then 4 else 0 := ⟨_, rfl⟩
            have E0 : Hid (RowAt l 0 e0 .empty) := by
              by_cases h : 60 < n
              · obtain ⟨f1, f2⟩ := row_long (l := l) (by rw [HP.out.2]; exact h)
                rw [if_pos h] at ee0
                exact .inr ⟨by omega, by rw [ee0, f1], f2.symm⟩
              · rw [if_neg h] at ee0
                exact .inl ⟨ee0, by rw [HP.out.2]; omega, rfl, fun j hj => absurd hj (by omega)⟩
            go_upto_if 81 with fail
            go_cut [7] from 79 to 81 (fun x wx => x = .int .i64 e0 ∧ w11 = wx)
            case first =>
              by_cases h : 60 < n
              · have d : decide ((n : Int) > 60) = true := decide_eq_true (by omega)
                rw [if_pos h] at ee0
                go_wp2_with fail
                go_meet
                exact ⟨by rw [ee0], rfl⟩
              · have d : decide ((n : Int) > 60) = false := decide_eq_false (by omega)
                rw [if_neg h] at ee0
                go_wp2_with fail
                go_meet
                exact ⟨by rw [ee0], rfl⟩
            case rest =>
              obtain ⟨rfl, rfl⟩ := hcut
              clear ee0
              go_wp2_with fail
              go_loopw [7, 16, 17] (fun e r x wr => ∃ (i : Nat) (ei : Int) (ri : ByteArray), i ≤ n ∧ x = .int .i64 (i : Int) ∧ e = .int .i64 ei ∧ r = .string ri ∧ Hid (RowAt l i ei ri ∧ Below W0.heap.size W0 wr)) (fun _ _ x _ => n - (intOf x).toNat)
              case atStart => exact ⟨0, e0, .empty, by omega, rfl, rfl, rfl, E0.out, K11.out⟩
              case round =>
                clear E0 K11
                obtain ⟨i, ei, ri, hin, rfl, rfl, rfl, hR⟩ := hrel
                have hi0 : (0 : Int) ≤ (i : Int) := by omega
                by_cases hlt : i < n
                · have hin' : (i : Int) < (n : Int) := by omega
                  by_cases h0 : ei = 0
                  · subst h0
                    have RA : Hid (l.length ≤ 60 ∧ ri = rowN l i ∧ ∀ j, j < i → pcBad (pc l j) = false) := by
                      rcases hR.out.1 with ⟨_, h1, h2, h3⟩ | ⟨h1, _⟩
                      · exact ⟨h1, h2, h3⟩
                      · exact absurd rfl h1
                    have hi60 : (i : Int) < 60 := by have := RA.out.1; have := HP.out.2; omega
                    obtain ⟨g, o, rfl, hg, hc⟩ := (HP.out.1.later hR.out.2).2 (by omega)
                    obtain ⟨x0', x1', x2'⟩ := hc i hlt
                    obtain ⟨p, ep⟩ : ∃ p, p = pc l i := ⟨_, rfl⟩
                    rw [← ep] at x0' x1' x2'
                    have EP : Hid (p = pc l i) := ep
                    obtain ⟨p0, p1, p2⟩ := p
                    simp only at x0' x1' x2'
                    have SX : Hid (∀ X : World, Below wr.heap.size wr X → X.cell? ⟨g, o + i * 3, none⟩ = some (.int .i64 p0) ∧ X.cell? ⟨g, o + i * 3 + 1, none⟩ = some (.int .i64 p1) ∧ X.cell? ⟨g, o + i * 3 + 2, none⟩ = some (.string p2)) := fun X hX => ⟨(hX.cell (p := ⟨g, o + i * 3, none⟩) hg).trans x0', (hX.cell (p := ⟨g, o + i * 3 + 1, none⟩) hg).trans x1', (hX.cell (p := ⟨g, o + i * 3 + 2, none⟩) hg).trans x2'⟩
                    clear hc ep
                    cases hbad : pcBad (p0, p1, p2)
                    · obtain ⟨⟨q3, q4⟩, ⟨q5, q6⟩, q7⟩ := Pie.pcBad_no hbad
                      simp only at q3 q4 q5 q6 q7
                      have hrp := refPiece p0 p1 p2 wr true (by rw [hbad]; rfl)
                      go_wp2_with fail
                      refine hrp.mono ?_
                      clear hrp
                      rintro e w4 ⟨rfl, hb⟩
                      clear x0' x1' x2'
                      obtain ⟨x0, x1, x2⟩ := SX.out w4 hb
                      have K4 : Hid (Below W0.heap.size W0 w4) := hR.out.2.trans (hb.mono hR.out.2.size)
                      have BY : Byt [p0, p1, (p2.size : Int)] := by
                        intro b hb
                        simp only [List.mem_cons, List.not_mem_nil, or_false] at hb
                        rcases hb with rfl | rfl | rfl <;> omega
                      have m0 : p0 % 256 = p0 := by omega
                      have m1 : p1 % 256 = p1 := by omega
                      have m2 : ((p2.size : Int)) % 256 = (p2.size : Int) := by omega
                      have SZ : (rowN l i).size ≤ 900 := by have := rowN_size RA.out.2.2; have := HP.out.2; have := RA.out.1; omega
                      have hu0 := wrap_byte (b := p0) (by omega) (by omega)
                      have hu1 := wrap_byte (b := p1) (by omega) (by omega)
                      have hu2 := wrap_byte (b := (p2.size : Int)) (by omega) (by omega)
                      have SA : Hid ((w4.alloc (.cells #[.int .u8 p0, .int .u8 p1, .int .u8 (p2.size : Int)] 5)).cell? ⟨g, o + i * 3, none⟩ = some (.int .i64 p0) ∧ (w4.alloc (.cells #[.int .u8 p0, .int .u8 p1, .int .u8 (p2.size : Int)] 5)).cell? ⟨g, o + i * 3 + 1, none⟩ = some (.int .i64 p1) ∧ (w4.alloc (.cells #[.int .u8 p0, .int .u8 p1, .int .u8 (p2.size : Int)] 5)).cell? ⟨g, o + i * 3 + 2, none⟩ = some (.string p2)) := SX.out _ (hb.alloc hb.size _)
                      go_upto_region 27 with fail
                      refine wp_region_held_drew (S := fun X => X.cell? ⟨g, o + i * 3, none⟩ = some (.int .i64 p0) ∧ X.cell? ⟨g, o + i * 3 + 1, none⟩ = some (.int .i64 p1) ∧ X.cell? ⟨g, o + i * 3 + 2, none⟩ = some (.string p2)) (by kernel_rfl) ⟨x0, x1, x2⟩ ?_
                      intro hS
                      refine takeH (i := 0) 99 (v := .slice (some ⟨g, o, none⟩) n cap) rfl rfl (by kernel_rfl) (by kernel_rfl) (by kernel_rfl) (fun _ _ _ h => h) (Or.inl ⟨by kernel_rfl, fun _ hS => by first | rfl | (obtain ⟨g0, g1, g2⟩ := hS; go_simp)⟩) hS ?_
                      try simp only [Act.put, List.setIfInBounds_toArray, List.set_cons_zero, List.set_cons_succ]
                      refine takeH (i := 1) 100 (v := .int .i64 (i : Int)) rfl rfl (by kernel_rfl) (by kernel_rfl) (by kernel_rfl) (fun _ _ _ h => h) (Or.inl ⟨by kernel_rfl, fun _ hS => by first | rfl | (obtain ⟨g0, g1, g2⟩ := hS; go_simp)⟩) hS ?_
                      try simp only [Act.put, List.setIfInBounds_toArray, List.set_cons_zero, List.set_cons_succ]
                      refine takeH (i := 2) 101 (v := .pointer (some ⟨g, o + i * 3, none⟩)) rfl rfl (by kernel_rfl) (by kernel_rfl) (by kernel_rfl) (fun _ _ _ h => h) (Or.inl ⟨by kernel_rfl, fun _ hS => by first | rfl | (obtain ⟨g0, g1, g2⟩ := hS; go_simp)⟩) hS ?_
                      try simp only [Act.put, List.setIfInBounds_toArray, List.set_cons_zero, List.set_cons_succ]
                      refine takeH (i := 3) 102 (v := .pointer (some ⟨g, o + i * 3, none⟩)) rfl rfl (by kernel_rfl) (by kernel_rfl) (by kernel_rfl) (fun _ _ _ h => h) (Or.inl ⟨by kernel_rfl, fun _ hS => by first | rfl | (obtain ⟨g0, g1, g2⟩ := hS; go_simp)⟩) hS ?_
                      try simp only [Act.put, List.setIfInBounds_toArray, List.set_cons_zero, List.set_cons_succ]
                      refine takeH (i := 4) 103 (v := .int .i64 p0) rfl rfl (by kernel_rfl) (by kernel_rfl) (by kernel_rfl) (fun _ _ _ h => h) (Or.inl ⟨by kernel_rfl, fun _ hS => by first | rfl | (obtain ⟨g0, g1, g2⟩ := hS; go_simp)⟩) hS ?_
                      try simp only [Act.put, List.setIfInBounds_toArray, List.set_cons_zero, List.set_cons_succ]
                      refine takeH (i := 5) 104 (v := .int .u8 p0) rfl rfl (by kernel_rfl) (by kernel_rfl) (by kernel_rfl) (fun _ _ _ h => h) (Or.inl ⟨by kernel_rfl, fun _ hS => by first | rfl | (obtain ⟨g0, g1, g2⟩ := hS; go_simp)⟩) hS ?_
                      try simp only [Act.put, List.setIfInBounds_toArray, List.set_cons_zero, List.set_cons_succ]
                      refine takeH (i := 6) 105 (v := .slice (some ⟨g, o, none⟩) n cap) rfl rfl (by kernel_rfl) (by kernel_rfl) (by kernel_rfl) (fun _ _ _ h => h) (Or.inl ⟨by kernel_rfl, fun _ hS => by first | rfl | (obtain ⟨g0, g1, g2⟩ := hS; go_simp)⟩) hS ?_
                      try simp only [Act.put, List.setIfInBounds_toArray, List.set_cons_zero, List.set_cons_succ]
                      refine takeH (i := 7) 106 (v := .int .i64 (i : Int)) rfl rfl (by kernel_rfl) (by kernel_rfl) (by kernel_rfl) (fun _ _ _ h => h) (Or.inl ⟨by kernel_rfl, fun _ hS => by first | rfl | (obtain ⟨g0, g1, g2⟩ := hS; go_simp)⟩) hS ?_
                      try simp only [Act.put, List.setIfInBounds_toArray, List.set_cons_zero, List.set_cons_succ]
                      refine takeH (i := 8) 107 (v := .pointer (some ⟨g, o + i * 3, none⟩)) rfl rfl (by kernel_rfl) (by kernel_rfl) (by kernel_rfl) (fun _ _ _ h => h) (Or.inl ⟨by kernel_rfl, fun _ hS => by first | rfl | (obtain ⟨g0, g1, g2⟩ := hS; go_simp)⟩) hS ?_
                      try simp only [Act.put, List.setIfInBounds_toArray, List.set_cons_zero, List.set_cons_succ]
                      refine takeH (i := 9) 108 (v := .pointer (some ⟨g, o + i * 3 + 1, none⟩)) rfl rfl (by kernel_rfl) (by kernel_rfl) (by kernel_rfl) (fun _ _ _ h => h) (Or.inl ⟨by kernel_rfl, fun _ hS => by first | rfl | (obtain ⟨g0, g1, g2⟩ := hS; go_simp)⟩) hS ?_
                      try simp only [Act.put, List.setIfInBounds_toArray, List.set_cons_zero, List.set_cons_succ]
                      refine takeH (i := 10) 109 (v := .int .i64 p1) rfl rfl (by kernel_rfl) (by kernel_rfl) (by kernel_rfl) (fun _ _ _ h => h) (Or.inl ⟨by kernel_rfl, fun _ hS => by first | rfl | (obtain ⟨g0, g1, g2⟩ := hS; go_simp)⟩) hS ?_
                      try simp only [Act.put, List.setIfInBounds_toArray, List.set_cons_zero, List.set_cons_succ]
                      refine takeH (i := 11) 110 (v := .int .u8 p1) rfl rfl (by kernel_rfl) (by kernel_rfl) (by kernel_rfl) (fun _ _ _ h => h) (Or.inl ⟨by kernel_rfl, fun _ hS => by first | rfl | (obtain ⟨g0, g1, g2⟩ := hS; go_simp)⟩) hS ?_
                      try simp only [Act.put, List.setIfInBounds_toArray, List.set_cons_zero, List.set_cons_succ]
                      refine takeH (i := 12) 111 (v := .slice (some ⟨g, o, none⟩) n cap) rfl rfl (by kernel_rfl) (by kernel_rfl) (by kernel_rfl) (fun _ _ _ h => h) (Or.inl ⟨by kernel_rfl, fun _ hS => by first | rfl | (obtain ⟨g0, g1, g2⟩ := hS; go_simp)⟩) hS ?_
                      try simp only [Act.put, List.setIfInBounds_toArray, List.set_cons_zero, List.set_cons_succ]
                      refine takeH (i := 13) 112 (v := .int .i64 (i : Int)) rfl rfl (by kernel_rfl) (by kernel_rfl) (by kernel_rfl) (fun _ _ _ h => h) (Or.inl ⟨by kernel_rfl, fun _ hS => by first | rfl | (obtain ⟨g0, g1, g2⟩ := hS; go_simp)⟩) hS ?_
                      try simp only [Act.put, List.setIfInBounds_toArray, List.set_cons_zero, List.set_cons_succ]
                      refine takeH (i := 14) 113 (v := .pointer (some ⟨g, o + i * 3, none⟩)) rfl rfl (by kernel_rfl) (by kernel_rfl) (by kernel_rfl) (fun _ _ _ h => h) (Or.inl ⟨by kernel_rfl, fun _ hS => by first | rfl | (obtain ⟨g0, g1, g2⟩ := hS; go_simp)⟩) hS ?_
                      try simp only [Act.put, List.setIfInBounds_toArray, List.set_cons_zero, List.set_cons_succ]
                      refine takeH (i := 15) 114 (v := .pointer (some ⟨g, o + i * 3 + 2, none⟩)) rfl rfl (by kernel_rfl) (by kernel_rfl) (by kernel_rfl) (fun _ _ _ h => h) (Or.inl ⟨by kernel_rfl, fun _ hS => by first | rfl | (obtain ⟨g0, g1, g2⟩ := hS; go_simp)⟩) hS ?_
                      try simp only [Act.put, List.setIfInBounds_toArray, List.set_cons_zero, List.set_cons_succ]
                      refine takeH (i := 16) 115 (v := .string p2) rfl rfl (by kernel_rfl) (by kernel_rfl) (by kernel_rfl) (fun _ _ _ h => h) (Or.inl ⟨by kernel_rfl, fun _ hS => by first | rfl | (obtain ⟨g0, g1, g2⟩ := hS; go_simp)⟩) hS ?_
                      try simp only [Act.put, List.setIfInBounds_toArray, List.set_cons_zero, List.set_cons_succ]
                      refine takeH (i := 17) 116 (v := .int .i64 (p2.size : Int)) rfl rfl (by kernel_rfl) (by kernel_rfl) (by kernel_rfl) (fun _ _ _ h => h) (Or.inl ⟨by kernel_rfl, fun _ hS => by first | rfl | (obtain ⟨g0, g1, g2⟩ := hS; go_simp)⟩) hS ?_
                      try simp only [Act.put, List.setIfInBounds_toArray, List.set_cons_zero, List.set_cons_succ]
                      refine takeH (i := 18) 117 (v := .int .u8 (p2.size : Int)) rfl rfl (by kernel_rfl) (by kernel_rfl) (by kernel_rfl) (fun _ _ _ h => h) (Or.inl ⟨by kernel_rfl, fun _ hS => by first | rfl | (obtain ⟨g0, g1, g2⟩ := hS; go_simp)⟩) hS ?_
                      try simp only [Act.put, List.setIfInBounds_toArray, List.set_cons_zero, List.set_cons_succ]
                      refine wpAnyH_ready (rs := [19]) (by kernel_rfl) (by simp) ?_
                      refine (AllReadyH.cons rfl (fun K9 hK9 => ?_) AllReadyH.nil)
                      go_simp
                      refine hK9.out _ _ ⟨SA.out.1, SA.out.2.1, SA.out.2.2⟩ (fun hS => ?_)
                      clear hK9 K9
                      refine wpAnyH_ready (rs := [20]) (by kernel_rfl) (by simp) ?_
                      refine (AllReadyH.cons rfl (fun K9 hK9 => ?_) AllReadyH.nil)
                      go_simp
                      refine hK9.out _ _ ⟨SA.out.1, SA.out.2.1, SA.out.2.2⟩ (fun hS => ?_)
                      clear hK9 K9
                      refine wpAnyH_done (by kernel_rfl) ?_ _
                      obtain ⟨y0, y1, y2⟩ := SA.out
                      obtain ⟨N3, eN3⟩ : ∃ N3, N3 = txt [p0, p1, (p2.size : Int)] := ⟨_, rfl⟩
                      have hN3 : N3.size = 3 := by rw [eN3, txt_size]; rfl
                      have cv := fun (W : World) (hW : W.heap = (w4.alloc (.cells #[.int .u8 p0, .int .u8 p1, .int .u8 (p2.size : Int)] 5)).heap) => conv_row w4 (n := 3) BY rfl (by simp) W hW
                      rw [← eN3] at cv
                      have cv1 := fun m => cv ((w4.alloc (.cells #[.int .u8 p0, .int .u8 p1, .int .u8 (p2.size : Int)] 5)).drewN m) rfl
                      have cv2 := cv ((w4.alloc (.cells #[.int .u8 p0, .int .u8 p1, .int .u8 (p2.size : Int)] 5)).drew) rfl
                      have cv3 := cv ((w4.alloc (.cells #[.int .u8 p0, .int .u8 p1, .int .u8 (p2.size : Int)] 5)).drew.drew) rfl
                      have hri : ri.size ≤ 900 := by rw [RA.out.2.1]; exact SZ
                      have a1 := add_text ri N3 (by omega)
                      have a2 := add_text (ri ++ N3) p2 (by rw [ByteArray.size_append]; omega)
                      have RN : Hid (RowAt l (i + 1) 0 (ri ++ N3 ++ p2)) := by
                        refine .inl ⟨rfl, RA.out.1, ?_, fun j hj => ?_⟩
                        · rw [rowN_succ, ← EP.out, RA.out.2.1, eN3]
                        · by_cases e : j < i
                          · exact RA.out.2.2 j e
                          · rw [show j = i by omega, ← EP.out]
                            exact hbad
                      have hz1 : ri.size + 3 ≤ 9223372036854775807 := by omega
                      have hz2 : ri.size + 3 + p2.size ≤ 9223372036854775807 := by omega
                      clear cv eN3 hbad BY SZ
                      go_upto_region 28 with fail
                      go_quiet (fail)
                      have K6 : Hid (∀ m, Below W0.heap.size W0 ((w4.alloc (.cells #[.int .u8 p0, .int .u8 p1, .int .u8 (p2.size : Int)] 5)).drewN m)) := fun m => drews (K4.out.alloc K4.out.size _) m
                      go_wp2
                      go_roundw
                      case rel => exact ⟨i + 1, 0, ri ++ N3 ++ p2, by omega, by go_num, rfl, rfl, RN.out, K6.out _⟩
                      case measure => simp [intOf]; omega
                    · have hrp := refPiece p0 p1 p2 wr false (by rw [hbad]; rfl)
                      have RB1 := row_bad RA.out.1 (by rw [HP.out.2]; exact hlt) (by rw [← EP.out]; exact hbad)
                      go_wp2_with fail
                      refine hrp.mono ?_
                      clear hrp
                      rintro e w4 ⟨rfl, hb⟩
                      have K4 : Hid (Below W0.heap.size W0 w4) := hR.out.2.trans (hb.mono hR.out.2.size)
                      have RB : Hid (RowAt l (i + 1) 1 .empty) := .inr ⟨by omega, by rw [RB1.1], RB1.2.symm⟩
                      clear hb RB1 hbad
                      go_wp2
                      go_roundw
                      case rel => exact ⟨i + 1, 1, .empty, by omega, by go_num, rfl, rfl, RB.out, K4.out⟩
                      case measure => simp [intOf]; omega
                  · have d0 : (ei == 0) = false := by simp [h0]
                    have RF : Hid (ei = rowC l ∧ ri = rowS l) := by
                      rcases hR.out.1 with ⟨h1, _⟩ | ⟨_, h1, h2⟩
                      · exact absurd h1 h0
                      · exact ⟨h1, h2⟩
                    have hrr : (ri.toList == ri.toList) = true := by simp
                    have hp := rowP a n cap l wr (HP.out.1.later hR.out.2)
                    rw [← RF.out.1, ← RF.out.2, errF_pie] at hp
                    have HRW : Hid (Calls Tryd.prog 28 #[.slice a n cap] wr fun e w' => e = .returned (.tuple #[.string ri, errF ei]) ∧ Below wr.heap.size wr w') := hp
                    clear hp
                    go_wp2_with fail
                    refine HRW.out.mono ?_
                    rintro e w2 ⟨rfl, hb⟩
                    have B2 : Hid (Below W0.heap.size W0 w2) := hR.out.2.trans (hb.mono hR.out.2.size)
                    clear hb HRW
                    go_wp2_with fail
                    refine (errF_same ei w2 (HW.out.2.2.2.1.later B2.out)).mono ?_
                    rintro e w3 ⟨rfl, hb⟩
                    have B3 : Hid (Below W0.heap.size W0 w3) := B2.out.trans (hb.mono B2.out.size)
                    clear hb
                    go_wp2
                    go_ret
                    exact ⟨rfl, HW.out.2.2.1.trans (B3.out.mono HW.out.2.2.1.size)⟩
                · have hi : i = n := by omega
                  have hin' : ¬ (i : Int) < (n : Int) := by omega
                  have RF : Hid (ei = rowC l ∧ ri = rowS l) := by
                    rcases hR.out.1 with ⟨h1, h2, h3, h4⟩ | ⟨_, h1, h2⟩
                    · obtain ⟨f1, f2⟩ := row_ok h2 (by rw [HP.out.2, ← hi]; exact h4)
                      exact ⟨by rw [h1, f1], by rw [h3, f2, HP.out.2, hi]⟩
                    · exact ⟨h1, h2⟩
                  have hrr : (ri.toList == ri.toList) = true := by simp
                  have hp := rowP a n cap l wr (HP.out.1.later hR.out.2)
                  rw [← RF.out.1, ← RF.out.2, errF_pie] at hp
                  have HRW : Hid (Calls Tryd.prog 28 #[.slice a n cap] wr fun e w' => e = .returned (.tuple #[.string ri, errF ei]) ∧ Below wr.heap.size wr w') := hp
                  clear hp
                  go_wp2_with fail
                  refine HRW.out.mono ?_
                  rintro e w2 ⟨rfl, hb⟩
                  have B2 : Hid (Below W0.heap.size W0 w2) := hR.out.2.trans (hb.mono hR.out.2.size)
                  clear hb HRW
                  go_wp2_with fail
                  refine (errF_same ei w2 (HW.out.2.2.2.1.later B2.out)).mono ?_
                  rintro e w3 ⟨rfl, hb⟩
                  have B3 : Hid (Below W0.heap.size W0 w3) := B2.out.trans (hb.mono B2.out.size)
                  clear hb
                  go_wp2
                  go_ret
                  exact ⟨rfl, HW.out.2.2.1.trans (B3.out.mono HW.out.2.2.1.size)⟩
end Go.Proofs.YtolnfipdhkbkjajDoor.Wir
