/-
  Anything that is given a place, and that comes: the walk of LeaderPlays.
-/
import Derived.Test.YtcccheeeagphpagDoorLdqW
import Derived.Deep.CutBlock
import Derived.Deep.CutRange
import Derived.Deep.AppendLies
import Derived.Deep.RegionLaw
namespace Go.Proofs.YtcccheeeagphpagDoor.Ldr
open Go.RowKit
open Go.Proofs.YtcccheeeagphpagDoor.Fif (own_lt own_block own_form own_mono own_vw ret_bool info_int new_int int_one lenOf)
open Go.Proofs.YtcccheeeagphpagDoor.Vec (Vw Rw Wf)
open Go.Proofs.YtcccheeeagphpagDoor.As (Laid)
open Go.Proofs.YtcccheeeagphpagDoor.Sep (KpL NewL)
set_option linter.unusedVariables false

set_option maxRecDepth 100000 in
theorem plays_bad (n : Int) (a : Option Addr) (len cap : Nat) (w : World) (hL : Laid w) (h : n < 2 ∨ 5 < n) : Calls Tryd.prog 3 #[.int .i64 n, .slice a len cap] w fun e w' => e = .returned (.bool true) ∧ Below w.heap.size w w' := by
  have HL : Hid (Laid w) := hL
  clear hL
  by_cases h1 : n < 2
  · have h0 : Hid (n < 2 ∨ 5 < n) := h
    clear h
    go_enter Tryd.func3, Tryd.ntmps3
    go_wp2_with fail
    refine (newL_no n h0.out w).mono ?_
    rintro e w1 ⟨rfl, hb⟩
    go_wp2_with fail
    refine (errF_same 1 w1 (HL.out.later hb)).mono ?_
    rintro e w2 ⟨rfl, hb2⟩
    go_wp2
    go_ret
    exact ⟨rfl, hb.trans (hb2.mono hb.size)⟩
  · have h0 : Hid (n < 2 ∨ 5 < n) := h
    have h2 : 5 < n := by omega
    clear h
    go_enter Tryd.func3, Tryd.ntmps3
    go_wp2_with fail
    refine (newL_no n h0.out w).mono ?_
    rintro e w1 ⟨rfl, hb⟩
    go_wp2_with fail
    refine (errF_same 1 w1 (HL.out.later hb)).mono ?_
    rintro e w2 ⟨rfl, hb2⟩
    go_wp2
    go_ret
    exact ⟨rfl, hb.trans (hb2.mono hb.size)⟩
set_option maxRecDepth 100000 in
set_option maxHeartbeats 8000000 in
theorem plays_ok (n : Nat) (a : Option Addr) (len cap : Nat) (ls : List (List Int)) (w : World) (hL : Laid w) (hR : Rw w a len ls) (hF : Wf ls) (h2 : 2 ≤ n) (h5 : n ≤ 5) : Calls Tryd.prog 3 #[.int .i64 (n : Int), .slice a len cap] w fun e w' => e = .returned (.bool true) ∧ Below w.heap.size w w' := by
  have HL : Hid (Laid w ∧ Rw w a len ls) := ⟨hL, hR⟩
  have HF : Hid (Wf ls) := hF
  clear hF
  have hlm : len ≤ maxLen := hR.2.1
  have hn2 : (2 : Int) ≤ (n : Int) := by omega
  have hn5 : (n : Int) ≤ 5 := by omega
  obtain ⟨ii, hii, hz0, hz1, hz2⟩ := info_int
  have HJ : Hid (Tryd.prog.info? 3 = some ii ∧ ii.zero = some (.int .i64 0) ∧ ii.size = 1 ∧ ii.bytes = 8) := ⟨hii, hz0, hz1, hz2⟩
  clear hL hR hii hz0 hz1 hz2
  go_enter Tryd.func3, Tryd.ntmps3
  go_wp2_with fail
  refine (newL_ok n h2 h5 w).mono ?_
  rintro e w1 ⟨P, fp1, rfl, hA, hb⟩
  have A1 : Hid (LS w1 w.heap.size P (start n) fp1 ∧ Below w.heap.size w w1) := ⟨hA, hb⟩
  clear hA hb
  go_wp2_with fail
  refine (As.error_nil 0 w1).mono ?_
  rintro e w2 ⟨rfl, hb2⟩
  have A2 : Hid (LS w2 w.heap.size P (start n) fp1 ∧ Below w.heap.size w w2) := ⟨A1.out.1.of_blocks hb2.size fun b hb' => hb2.block b (A1.out.1.fp b hb').2, A1.out.2.trans (hb2.mono A1.out.2.size)⟩
  clear hb2 A1
  have hzr := zero_ld
  have hzn := zLd_ne
  have P1 : Hid (PA w P w2.heap.size n (w2.alloc (.cells (zLd.setIfInBounds 0 (.int .i64 (n : Int))) 34))) := by
    have b3 : Below w2.heap.size w2 (w2.alloc (.cells (zLd.setIfInBounds 0 (.int .i64 (n : Int))) 34)) := (Below.refl _ _).alloc (Nat.le_refl _) _
    refine ⟨start n, fp1, .slice none 0 0, A2.out.1.of_blocks b3.size fun b hb' => b3.block b (A2.out.1.fp b hb').2, RL.made w2 w.heap.size n A2.out.2.size, fun b h1 q => ?_, Inv.start h2 h5, rfl, A2.out.2.trans (b3.mono A2.out.2.size)⟩
    have := (A2.out.1.fp b h1).2
    rcases mem_rfp.1 q with z | z
    · omega
    · cases z
  obtain ⟨Q, eQ⟩ : ∃ Q, Q = w2.heap.size := ⟨_, rfl⟩
  obtain ⟨w3, ew3⟩ : ∃ w3, w3 = w2.alloc (.cells (zLd.setIfInBounds 0 (.int .i64 (n : Int))) 34) := ⟨_, rfl⟩
  rw [← eQ, ← ew3] at P1
  go_wp2_with fail
  rw [← ew3, ← eQ]
  clear ew3 eQ hzr hzn A2
  go_loopw [10] (fun x wr => ∃ i : Nat, i ≤ len ∧ i ≤ 120 ∧ x = .int .i64 (i : Int) ∧ Hid (PA w P Q n wr)) (fun x _ => len - (intOf x).toNat)
  case atStart => exact ⟨0, by omega, by omega, rfl, P1⟩
  case round =>
    obtain ⟨i, hi, hi150, rfl, hC⟩ := hrel
    by_cases hgo : (i : Int) < (len : Int) ∧ (i : Int) < 120
    · obtain ⟨hil, hi120⟩ := hgo
      obtain ⟨wo, ewo⟩ : ∃ wo, wo = wr := ⟨_, rfl⟩
      subst ewo
      have hi0 : (0 : Int) ≤ (i : Int) := by omega
      obtain ⟨l, fp, v, p1, p2, p3, p4, p5, p7⟩ := hC.out
      have R : Hid (LS wo w.heap.size P l fp ∧ RL wo w.heap.size Q l v ∧ (∀ b, b ∈ fp → b ∉ rfp Q v) ∧ Inv l ∧ l.n = n ∧ Below w.heap.size w wo) := ⟨p1, p2, p3, p4, p5, p7⟩
      clear p1 p2 p3 p4 p5 p7 hC
      obtain ⟨rb, ro, rfl, hrb, hrc⟩ := (HL.out.2.later R.out.2.2.2.2.2).2.2 (by omega)
      obtain ⟨qi, ci, g0, hvi, hmi⟩ := hrc i (by omega)
      obtain ⟨li, eli⟩ : ∃ li, li = (ls.getD i []).length := ⟨_, rfl⟩
      rw [← eli] at g0 hvi hmi
      have XV : Hid (wo.cell? ⟨rb, ro + i, none⟩ = some (.slice qi li ci) ∧ rb < wo.heap.size ∧ Vw wo qi li (ls.getD i [])) := ⟨g0, hrb, hvi⟩
      have hmi2 : (li : Int) ≤ 9223372036854775807 := by unfold maxLen at hmi; omega
      clear hrc g0 hrb hvi hmi eli
      have A1 : Hid (R3q wo (wo.alloc (.cells #[.int .i64 0, .int .i64 0, .int .i64 0] 35))) := by
        refine ⟨fun _ => 0, ?_, (Below.refl _ _).alloc (Nat.le_refl _) _, fun _ => wf_zero⟩
        exact World.rowIs_alloc wo #[.int .i64 0, .int .i64 0, .int .i64 0] 35 _ (fun t ht => by rcases t with _ | _ | _ | t <;> first | rfl | (exfalso; have : _ < 3 := ht; omega))
      go_upto_block 2 with fail
      go_cut [12] from 63 to 84 (fun x wc => Hid (R3q wo wc))
      case first =>
        go_wp2_with fail
        go_loopw [12] (fun y wz => ∃ j : Nat, j ≤ 3 ∧ y = .int .i64 (j : Int) ∧ Hid (R3q wo wz)) (fun y _ => 3 - (intOf y).toNat)
        case atStart => exact ⟨0, by omega, rfl, A1⟩
        case round =>
          obtain ⟨j, hj, rfl, hA⟩ := hrel
          have x0 : wr.cell? ⟨rb, ro + i, none⟩ = some (.slice qi li ci) := by
            obtain ⟨f, _, hb, _⟩ := hA.out
            exact (hb.cell (p := ⟨rb, ro + i, none⟩) XV.out.2.1).trans XV.out.1
          have hj0 : (0 : Int) ≤ (j : Int) := by omega
          by_cases hjl : (j : Int) < (li : Int) ∧ (j : Int) < 3
          · obtain ⟨hjl, hj3⟩ := hjl
            obtain ⟨f, hf, hb, hfw⟩ := hA.out
            have FW : Hid (∀ t, (Lit.int .i64 (f t)).wf = true) := hfw
            obtain ⟨bi, oi, rfl, hlti, hci⟩ := XV.out.2.2.2 (by omega)
            have y0 := (hb.cell (p := ⟨bi, oi + j, none⟩) hlti).trans (hci j (by omega))
            have c0 := World.rowIs.cell hf (i := j) (by omega)
            have z0 := World.rowIs.frozen hf j
            obtain ⟨yv, ey⟩ : ∃ yv, yv = (ls.getD i []).getD j 0 := ⟨_, rfl⟩
            have HY : Hid ((Lit.int .i64 yv).wf = true) := by rw [ey]; exact HF.out i j
            rw [← ey] at y0
            have FB : Hid (wr.rowIs wo.heap.size 35 3 (fun t => .int .i64 (f t)) ∧ Below wo.heap.size wo wr) := ⟨hf, hb⟩
            clear hf hb hci hlti ey hA hfw
            go_wp2
            go_roundw
            case rel =>
              refine ⟨j + 1, by omega, by go_num, fun t => if t = j then yv else f t, (World.rowIs.set FB.out.1 j _).congr fun t ht => ?_, FB.out.2.setCell (p := ⟨wo.heap.size, j, none⟩) (Nat.le_refl _) _, fun t => wf_if HY.out (FW.out t)⟩
              by_cases e : t = j
              · rw [if_pos e]; simp [e]
              · rw [if_neg e]; simp [e]
            case measure => simp [intOf]; omega
          · rcases (show ((j : Int) < (li : Int) ∧ ¬ (j : Int) < 3) ∨ ¬ (j : Int) < (li : Int) by omega) with ⟨e1, e2⟩ | e1
            all_goals
              go_wp2
              go_meet
              exact hA.out
      case rest =>
        obtain ⟨f, hf, hb, hfw⟩ := hcut.out
        obtain ⟨k0, ek0⟩ : ∃ k, k = f 0 := ⟨_, rfl⟩
        obtain ⟨k1, ek1⟩ : ∃ k, k = f 1 := ⟨_, rfl⟩
        obtain ⟨k2, ek2⟩ : ∃ k, k = f 2 := ⟨_, rfl⟩
        obtain ⟨V, eV⟩ : ∃ V, V = wo.heap.size := ⟨_, rfl⟩
        have G2 : Hid (PS w P Q V wc l fp l v k0 k1 k2) := by
          rw [eV]
          refine ⟨R.out.1.of_blocks hb.size fun b hb' => hb.block b (R.out.1.fp b hb').2, R.out.2.1.later hb, R.out.2.2.1, ⟨?_, ?_, ?_⟩, World.rowIs.lt hf, fun q => ?_, fun q => ?_, R.out.2.2.2.2.2.trans (hb.mono R.out.2.2.2.2.2.size), by rw [ek2]; exact hfw 2⟩
          · rw [ek0]; exact World.rowIs.cell hf (i := 0) (by omega)
          · rw [ek1]; exact World.rowIs.cell hf (i := 1) (by omega)
          · rw [ek2]; exact World.rowIs.cell hf (i := 2) (by omega)
          · have := (R.out.1.fp _ q).2; omega
          · have := (R.out.2.1.fp _ q).2; omega
        have RI : Hid (Inv l ∧ l.n = n) := ⟨R.out.2.2.2.1, R.out.2.2.2.2.1⟩
        rw [← eV]
        clear hf hb hfw ek0 ek1 ek2 hcut eV A1 XV R
        obtain ⟨w4, ew4⟩ : ∃ w4, w4 = wc := ⟨_, rfl⟩
        subst ew4
        obtain ⟨y0, y1, y2⟩ := G2.out.tr
        have hV := G2.out.vl
        obtain ⟨inb, einb⟩ : ∃ b, b = decide (0 ≤ k1 ∧ k1 < (n : Int)) := ⟨_, rfl⟩
        have HIN : Hid (inb = decide (0 ≤ k1 ∧ k1 < (n : Int))) := einb
        clear einb
        go_upto_region 18 with fail
        go_cut [13] from 85 to 93 (fun x wz => x = .bool inb ∧ wz = w4)
        case first =>
          by_cases h1 : 0 ≤ k1
          · by_cases h3 : k1 < (n : Int)
            · have e : inb = true := by rw [HIN.out]; exact decide_eq_true ⟨h1, h3⟩
              go_wp2
              go_meet
              exact ⟨by rw [e], rfl⟩
            · have e : inb = false := by rw [HIN.out]; exact decide_eq_false (fun q => h3 q.2)
              go_wp2
              go_meet
              exact ⟨by rw [e], rfl⟩
          · have e : inb = false := by rw [HIN.out]; exact decide_eq_false (fun q => h1 q.1)
            go_wp2
            go_meet
            exact ⟨by rw [e], rfl⟩
        case rest =>
          obtain ⟨rfl, rfl⟩ := hcut
          obtain ⟨w4, ew4⟩ : ∃ w4, w4 = wc := ⟨_, rfl⟩
          subst ew4
          go_upto_if 96 with fail
          go_cut [5, 8, 13, 14, 15, 16, 17, 18, 19, 20, 21] from 96 to 201 (fun x5 x8 x13 x14 x15 x16 x17 x18 x19 x20 x21 wz => x8 = .bool true ∧ x13 = .bool inb ∧ Hid (∃ l fp v, PS w P Q V wz l fp l v k0 k1 k2 ∧ Inv l ∧ l.n = n))
          case first =>
            rename_i J KK hJ hKK
            refine ways_any n w HL.out.1 P Q V l fp v k0 k1 k2 inb w4 ii HJ G2 RI hn5 HIN _ (by kernel_rfl) _ _ _ (by exact ⟨_, _, _, rfl⟩) _ _ _ _ _ _ _ _ _ _ _ _ _ _ _ _ _ _ _ _ _ _ _ _ _ _ _ _ _ _ _ _ _ _ _ _ _ _ _ _ _ _ _ _ _ _ _ _ _ _ _ _ _ _ _ _ _ _ _ _ _ _ _ _ _ _ _ _ _ _ _ _ _ _ _ _ _ _ _ _ _ _ _ _ _ _ _ _ _ _ _ _ _ _ _ _ _ _ _ _ _ _ _ _ _ _ _ _ _ _ _ _ _ _ _ _ _ _ _ _ _ _ _ _ _ _ _ _ _ _ _ _ _ _ _ _ _ _ _ _ _ _ _ _ _ _ _ _ _ _ _ _ _ _ _ _ _ _ _ _ _ _ _ _ _ _ _ _ _ _ _ _ _ _ _ _ _ _ _ _ _ _ _ _ _ _ _ _ _ _ _ _ _ _ _ _ _ _ _ _ _ _ _ _ _ _ _ _ _ _ _ _ _ _ _ _ _ _ _ _ _ _ _ _ _ _ _ _ _ _ _ _ _ _ _ _ _ _ _ _ _ _ _ _ _ _ _ _ _ _ _ _ _ _ _ _ _ _ _ _ _ _ _ _ _ _ _ _ _ _ _ _ _ _ ?_
            intro s5 s8 s13 s14 s15 s16 s17 s18 s19 s20 s21 s96 s97 s98 s99 s100 s101 s102 s103 s104 s105 s106 s107 s108 s109 s110 s111 s112 s113 s114 s115 s116 s117 s118 s119 s120 s121 s122 s123 s124 s125 s126 s127 s128 s129 s130 s131 s132 s133 s134 s135 s136 s137 s138 s139 s140 s141 s142 s143 s144 s145 s146 s147 s148 s149 s150 s151 s152 s153 s154 s155 s156 s157 s158 s159 s160 s161 s162 s163 s164 s165 s166 s167 s168 s169 s170 s171 s172 s173 s174 s175 s176 s177 s178 s179 s180 s181 s182 s183 s184 s185 s186 s187 s188 s189 s190 s191 s192 s193 s194 s195 s196 s197 s198 s199 s200 s201 wz h8 h13 hx
            refine hKK _ _ (Met.intro (hJ _ _ ?_))
            (repeat apply Exists.intro)
            refine ⟨⟨?h8, ?h13, ?hx⟩, rfl⟩
            case h8 => exact h8
            case h13 => exact h13
            case hx => exact hx
          case rest =>
            obtain ⟨rfl, rfl, hx⟩ := hcut
            obtain ⟨w5, ew5⟩ : ∃ w5, w5 = wc := ⟨_, rfl⟩
            subst ew5
            clear G2 RI y0 y1 y2 hV
            obtain ⟨l, fp, v, hp, hi1, hn1⟩ := hx.out
            have G5 : Hid (PS w P Q V w5 l fp l v k0 k1 k2) := hp
            have RJ : Hid (Inv l ∧ l.n = n) := ⟨hi1, hn1⟩
            obtain ⟨qv, cv, ev⟩ := own_form hp.ra.own
            obtain ⟨nn, en⟩ : ∃ nn, nn = l.ws.length := ⟨_, rfl⟩
            have hnn : nn ≤ 30 := by rw [en]; exact hi1.len
            rw [← en] at ev
            have EV : Hid (v = .slice qv nn cv ∧ nn = l.ws.length) := ⟨ev, en⟩
            clear hx hp hi1 hn1 ev en
            obtain ⟨c, ec⟩ : ∃ c, c = inC l k1 := ⟨_, rfl⟩
            have SC : Hid (c = inC l k1) := ec
            clear ec
            have OUT : Hid (inb = false → inC l k1 = 1) := fun e => if_pos (by
              have h : ¬ (0 ≤ k1 ∧ k1 < (n : Int)) := of_decide_eq_false (by rw [← HIN.out]; exact e)
              rw [RJ.out.2]
              omega)
            have INN : Hid (inb = true → ∃ m : Nat, k1 = (m : Int) ∧ m < l.n ∧ m < 5) := fun e => by
              have h : 0 ≤ k1 ∧ k1 < (n : Int) := of_decide_eq_true (by rw [← HIN.out]; exact e)
              exact ⟨k1.toNat, by omega, by rw [RJ.out.2]; omega, by omega⟩
            go_upto_if 203 with fail
            go_cut [5, 13] from 202 to 203 (fun x5 x13 wz => x5 = .int .i64 c ∧ x13 = .bool inb ∧ wz = w5)
            case first =>
              have hin2 : inb = true ∨ inb = false := by cases inb <;> simp
              rcases hin2 with rfl | rfl
              · obtain ⟨m, hm, hml, hm5⟩ := INN.out rfl
                have e : c = 0 := by rw [SC.out, hm]; exact in_ok hml
                clear hm hml hm5
                go_wp2
                go_meet
                exact ⟨by rw [e], rfl, rfl⟩
              · have e : c = 1 := by rw [SC.out]; exact OUT.out rfl
                go_wp2
                go_meet
                exact ⟨by rw [e], rfl, rfl⟩
            case rest =>
              obtain ⟨rfl, rfl, rfl⟩ := hcut
              obtain ⟨w5, ew5⟩ : ∃ w5, w5 = wc := ⟨_, rfl⟩
              subst ew5
              go_upto_block 4 with fail
              go_cut [13, 22, 24] from 204 to 229 (fun x13 x22 x24 wz => x13 = .bool inb ∧ Hid (Below w5.heap.size w5 wz ∧ Sl wz x22 (lk l k1)))
              case first =>
                have c1 : w5.cell? ⟨Q, 1, none⟩ = some (.slice qv nn cv) := by rw [← EV.out.1]; exact G5.out.ra.cv.1
                have z1 := G5.out.tr.2.1
                have hV5 := G5.out.vl
                have hQ5 := G5.out.ra.lt
                have hin2 : inb = true ∨ inb = false := by cases inb <;> simp
                rcases hin2 with rfl | rfl
                · obtain ⟨m, hm, hml, hm5⟩ := INN.out rfl
                  subst hm
                  have hm0 : (0 : Int) ≤ (m : Int) := by omega
                  have hm5' : (m : Int) < 5 := by omega
                  have HM : Hid (m < l.n) := hml
                  have EL : Hid (lk l (m : Int) = lkN l m nn) := by show _ = _; rw [lk_in HM.out, EV.out.2]
                  clear hml OUT INN
                  go_wp2_with fail
                  go_loopw [22, 24] (fun y x wr => ∃ k : Nat, k ≤ nn ∧ x = .int .i64 (k : Int) ∧ Hid (wr.ownsRow w5.heap.size 3 1 y (lkN l m k).length ((lkN l m k).map (Value.int .i64)) ∧ Below w5.heap.size w5 wr)) (fun _ x _ => nn - (intOf x).toNat)
                  case atStart => exact ⟨0, by omega, rfl, World.ownsRow_nil _ _ _ _, Below.refl _ _⟩
                  case round =>
                    obtain ⟨k, hk, rfl, hQ⟩ := hrel
                    obtain ⟨qy, cy, rfl⟩ := own_form hQ.out.1
                    obtain ⟨ly, ely⟩ : ∃ ly, ly = (lkN l m k).length := ⟨_, rfl⟩
                    have hly : ly ≤ 30 := by have := lkN_len l m k; omega
                    have LY : Hid (ly = (lkN l m k).length) := ely
                    have OY : Hid (wr.ownsRow w5.heap.size 3 1 (.slice qy ly cy) ly ((lkN l m k).map (Value.int .i64)) ∧ Below w5.heap.size w5 wr) := by rw [ely]; exact hQ.out
                    rw [← ely]
                    have GR : Hid (PS w P Q V wr l fp l v k0 (m : Int) k2) := G5.out.later OY.out.2
                    have r1 : wr.cell? ⟨Q, 1, none⟩ = some (.slice qv nn cv) := by rw [← EV.out.1]; exact GR.out.ra.cv.1
                    have rv := GR.out.tr.2.1
                    have hVr := GR.out.vl
                    have hQr := GR.out.ra.lt
                    clear ely hQ
                    by_cases hlt : k < nn
                    · have hk0 : (0 : Int) ≤ (k : Int) := by omega
                      have hkl : (k : Int) < (nn : Int) := by omega
                      have hk31 : (k : Int) < 31 := by omega
                      have cc := (GR.out.ra.cc (i := m) (j := k) hm5 (by omega)).1
                      obtain ⟨cb, ecb⟩ : ∃ cb, cb = l.come m k := ⟨_, rfl⟩
                      rw [← ecb] at cc
                      have CB : Hid (cb = l.come m k) := ecb
                      clear ecb
                      cases cb
                      · go_wp2_with fail
                        go_quiet (fail)
                        obtain ⟨W6, eW6⟩ : ∃ W6, W6 = wr.drewN nq := ⟨_, rfl⟩
                        rw [← eW6]
                        have O6 : Hid (W6.ownsRow w5.heap.size 3 1 (.slice qy ly cy) ly ((lkN l m k).map (Value.int .i64)) ∧ Below w5.heap.size w5 W6) := by rw [eW6]; exact ⟨own_block OY.out.1 fun _ _ => rfl, drewsG OY.out.2 _⟩
                        have SZ : Hid (w5.heap.size ≤ W6.heap.size) := O6.out.2.size
                        clear eW6 r1 rv cc
                        go_wp2_with (at_builtin; refine wpList_append_own _ rfl _ _ 30 rfl w5.heap.size 3 ii (.int .i64 0) 1 8 Tryd.underlying30 HJ.out.1 HJ.out.2.1 HJ.out.2.2.1 HJ.out.2.2.2 rfl (by decide) (.slice qy ly cy) ly ((lkN l m k).map (Value.int .i64)) rfl (by exact own_block O6.out.1 fun b hb => Below.heap_alloc _ _ _ (own_lt O6.out.1 b hb).2) ⟨W6.heap.size, 0, none⟩ 1 1 [.int .i64 (k : Int)] rfl rfl (by exact new_int W6 _ rfl _ 3) (int_one _) (by unfold maxLen; omega) (by omega) (by have := SZ.out; simp; omega) ?_; intro v1 w7 hown hgrow _; obtain ⟨q1, k1', rfl⟩ := own_form hown; have HO1 : Hid (w7.ownsRow w5.heap.size 3 1 (.slice q1 (ly + 1) k1') (ly + 1) ((lkN l m k).map (Value.int .i64) ++ [.int .i64 (k : Int)])) := hown; have HG1 : Hid ((W6.alloc (.cells #[.int .i64 (k : Int)] 3)).grownBy w7 (Value.slice qy ly cy).ownBlock) := hgrow; clear hown hgrow)
                        go_roundw
                        case rel =>
                          have e : lkN l m (k + 1) = lkN l m k ++ [(k : Int)] := by rw [lkN_succ, ← CB.out]; simp
                          refine ⟨k + 1, by omega, by go_num, ?_, (O6.out.2.alloc SZ.out _).grown HG1.out (by have := SZ.out; simp; omega) (fun b hb => (own_lt O6.out.1 b hb).1)⟩
                          rw [e, List.length_append, List.map_append, ← LY.out]
                          exact HO1.out
                        case measure => simp [intOf]; omega
                      · go_wp2_with fail
                        go_quiet (fail)
                        go_wp2
                        go_roundw
                        case rel =>
                          have e : lkN l m (k + 1) = lkN l m k := by rw [lkN_succ, ← CB.out]; simp
                          refine ⟨k + 1, by omega, by go_num, ?_, drewsG OY.out.2 _⟩
                          rw [e, ← LY.out]
                          exact own_block OY.out.1 fun _ _ => rfl
                        case measure => simp [intOf]; omega
                    · have ekn : k = nn := by omega
                      have hkl : ¬ (k : Int) < (nn : Int) := by omega
                      have SLY : Hid (Sl wr (.slice qy ly cy) (lk l (m : Int)) ∧ Below w5.heap.size w5 wr) := by
                        have q := OY.out.1
                        rw [LY.out, ekn] at q
                        rw [LY.out, EL.out, ekn]
                        exact ⟨Sl.of_own q, OY.out.2⟩
                      go_wp2
                      go_meet
                      exact ⟨rfl, SLY.out.2, SLY.out.1⟩
                · have EL : Hid (lk l k1 = []) := if_neg (by rw [OUT.out rfl]; decide)
                  by_cases hz : nn = 0
                  · go_wp2
                    refine wp_loop_rounds 1 ?_
                    rw [rounds_succ]
                    go_wp2
                    go_meet
                    exact ⟨rfl, Below.refl _ _, by rw [EL.out]; exact Sl.nil _⟩
                  · have hzp : 0 < nn := by omega
                    have hzi : (0 : Int) < (nn : Int) := by omega
                    go_wp2
                    refine wp_loop_rounds 1 ?_
                    rw [rounds_succ]
                    go_wp2
                    go_meet
                    exact ⟨rfl, Below.refl _ _, by rw [EL.out]; exact Sl.nil _⟩
              case rest =>
                obtain ⟨rfl, hx⟩ := hcut
                obtain ⟨wr, ewr⟩ : ∃ wr, wr = wc := ⟨_, rfl⟩
                subst ewr
                have GR : Hid (PS w P Q V wr l fp l v k0 k1 k2 ∧ Sl wr u22 (lk l k1)) := ⟨G5.out.later hx.out.1, hx.out.2⟩
                clear hx
                go_upto_if 230 with fail
                go_cut [13, 23] from 230 to 239 (fun x13 x23 wz => x13 = .bool inb ∧ Hid (Below wr.heap.size wr wz ∧ ∀ X : World, RL X w.heap.size Q l v → Sl X x23 (hd l k1)))
                case first =>
                  have hin2 : inb = true ∨ inb = false := by cases inb <;> simp
                  rcases hin2 with rfl | rfl
                  · obtain ⟨m, hm, hml, hm5⟩ := INN.out rfl
                    subst hm
                    have hm0 : (0 : Int) ≤ (m : Int) := by omega
                    have hm5' : (m : Int) < 5 := by omega
                    have HM : Hid (m < l.n) := hml
                    have EH : Hid (hd l (m : Int) = l.ws.take (hn l m)) := hd_in HM.out
                    obtain ⟨te, ete⟩ : ∃ te, te = hn l m := ⟨_, rfl⟩
                    have ETE : Hid (te = hn l m) := ete
                    have hte : te ≤ nn := by rw [ete, EV.out.2]; exact cons_le _ _
                    obtain ⟨hvw, hc1, hc2⟩ := GR.out.1.ra.words EV.out.1 EV.out.2
                    have hteN : te ≤ cv := by omega
                    have htc : (te : Int) ≤ (cv : Int) := by omega
                    have hte0 : (0 : Int) ≤ (te : Int) := by omega
                    have HS : Hid (∀ X : World, X.heap = wr.heap → X.cell? ⟨Q, 1, none⟩ = some (.slice qv nn cv) ∧ X.cell? ⟨V, 1, none⟩ = some (.int .i64 (m : Int))) := fun X h => ⟨by rw [c_heapL h, ← EV.out.1]; exact GR.out.1.ra.cv.1, (c_heapL h _).trans GR.out.1.tr.2.1⟩
                    have SHD : Hid (∀ X : World, RL X w.heap.size Q l v → Sl X (.slice qv te cv) (hd l (m : Int))) := fun X h => by
                      obtain ⟨h1, h2, h3⟩ := h.words EV.out.1 EV.out.2
                      rw [EH.out, ← ETE.out]
                      exact sl_take h1 hte h2 h3
                    have hVr := GR.out.1.vl
                    have hQr := GR.out.1.ra.lt
                    clear ete hvw hml OUT INN
                    go_wp2_with fail
                    go_region_held3 (fun w' => w'.cell? ⟨Q, 1, none⟩ = some (.slice qv nn cv) ∧ w'.cell? ⟨V, 1, none⟩ = some (.int .i64 (m : Int))) (exact HS.out _ rfl) (first
                      | (go_at_call 8; refine (refHeard m _ (by exact GR.out.1.ra.heap rfl) RJ.out.1 HM.out).mono ?_; rintro e9 w9 ⟨rfl, rfl⟩; rw [← ETE.out]))
                    go_wp2
                    go_meet
                    exact ⟨rfl, ⟨rfl, rfl, rfl, Nat.le_refl _, fun _ _ => rfl⟩, SHD.out⟩
                  · have EH : Hid (hd l k1 = []) := if_neg (by rw [OUT.out rfl]; decide)
                    go_wp2
                    go_meet
                    exact ⟨rfl, Below.refl _ _, fun X _ => by rw [EH.out]; exact Sl.nil X⟩
                case rest =>
                  obtain ⟨rfl, hx⟩ := hcut
                  obtain ⟨WW, eW⟩ : ∃ WW, WW = wc := ⟨_, rfl⟩
                  subst eW
                  have GW : Hid (PS w P Q V WW l fp l v k0 k1 k2 ∧ Sl WW u22 (lk l k1)) := ⟨GR.out.1.later hx.out.1, GR.out.2.later hx.out.1⟩
                  have SHD : Hid (∀ X : World, RL X w.heap.size Q l v → Sl X u23 (hd l k1)) := hx.out.2
                  have yW := GW.out.1.tr.2.1
                  have hVW := GW.out.1.vl
                  clear hx OUT INN
                  go_wp2_with fail
                  refine (lkL w.heap.size P l fp k1 WW GW.out.1.ag RJ.out.1).mono ?_
                  rintro e w6 ⟨a6, c6, rfl, hs6, -, hb6⟩
                  rw [← SC.out]
                  obtain ⟨n6, en6⟩ : ∃ n6, n6 = (lk l k1).length := ⟨_, rfl⟩
                  rw [← en6] at hs6 ⊢
                  have G6 : Hid (PS w P Q V w6 l fp l v k0 k1 k2 ∧ Sl w6 (.slice a6 n6 c6) (lk l k1) ∧ Sl w6 u22 (lk l k1)) := ⟨GW.out.1.later hb6, hs6, GW.out.2.later hb6⟩
                  clear hs6 hb6 en6
                  go_wp2_with fail
                  refine (errF_same c w6 (HL.out.1.later G6.out.1.bel)).mono ?_
                  rintro e w7 ⟨rfl, hb7⟩
                  have G7 : Hid (PS w P Q V w7 l fp l v k0 k1 k2 ∧ Sl w7 (.slice a6 n6 c6) (lk l k1) ∧ Sl w7 u22 (lk l k1)) := ⟨G6.out.1.later hb7, G6.out.2.1.later hb7, G6.out.2.2.later hb7⟩
                  clear hb7
                  go_wp2_with fail
                  refine (same_any G7.out.2.1 G7.out.2.2).mono ?_
                  rintro e w8 ⟨rfl, hb8⟩
                  have e8 : decide (lk l k1 = lk l k1) = true := decide_eq_true rfl
                  rw [e8]
                  have G8 : Hid (PS w P Q V w8 l fp l v k0 k1 k2) := G7.out.1.later hb8
                  have y8 := G8.out.tr.2.1
                  have hV8 := G8.out.vl
                  clear hb8 e8 yW hVW
                  go_wp2_with fail
                  refine (hdL w.heap.size P l fp k1 w8 G8.out.ag RJ.out.1).mono ?_
                  rintro e w9 ⟨v9, rfl, hs9, hb9⟩
                  rw [← SC.out]
                  have G9 : Hid (PS w P Q V w9 l fp l v k0 k1 k2 ∧ Sl w9 v9 (hd l k1)) := ⟨G8.out.later hb9, hs9⟩
                  clear hs9 hb9
                  go_wp2_with fail
                  refine (errF_same c w9 (HL.out.1.later G9.out.1.bel)).mono ?_
                  rintro e wa ⟨rfl, hba⟩
                  have Ga : Hid (PS w P Q V wa l fp l v k0 k1 k2 ∧ Sl wa v9 (hd l k1)) := ⟨G9.out.1.later hba, G9.out.2.later hba⟩
                  clear hba
                  go_wp2_with fail
                  refine (same_any Ga.out.2 (SHD.out wa Ga.out.1.ra)).mono ?_
                  rintro e wb ⟨rfl, hbb⟩
                  have eb : decide (hd l k1 = hd l k1) = true := decide_eq_true rfl
                  rw [eb]
                  have Gb : Hid (PS w P Q V wb l fp l v k0 k1 k2) := Ga.out.1.later hbb
                  clear hbb eb
                  go_wp2
                  go_roundw
                  case rel => exact ⟨i + 1, by omega, by omega, by go_num, Gb.out.pa RJ.out.1 RJ.out.2⟩
                  case measure => simp [intOf]; omega
    · rcases (show ((i : Int) < (len : Int) ∧ ¬ (i : Int) < 120) ∨ ¬ (i : Int) < (len : Int) by omega) with ⟨e1, e2⟩ | e1
      all_goals
        obtain ⟨l, fp, v, p1, p2, p3, p4, p5, p7⟩ := hC.out
        have B9 : Hid (Below w.heap.size w wr) := p7
        clear p1 p2 p3 p4 p5 p7 hC hgo
        go_wp2
        go_ret
        exact ⟨rfl, B9.out⟩
theorem plays_any (n : Int) (a : Option Addr) (len cap : Nat) (ls : List (List Int)) (w : World) (hL : Laid w) (hR : Rw w a len ls) (hF : Wf ls) : Calls Tryd.prog 3 #[.int .i64 n, .slice a len cap] w fun e w' => e = .returned (.bool true) ∧ Below w.heap.size w w' := by
  by_cases h : n < 2 ∨ 5 < n
  · exact plays_bad n a len cap w hL h
  · obtain ⟨k, rfl⟩ : ∃ k : Nat, n = (k : Int) := ⟨n.toNat, by omega⟩
    exact plays_ok k a len cap ls w hL hR hF (by omega) (by omega)
end Go.Proofs.YtcccheeeagphpagDoor.Ldr
