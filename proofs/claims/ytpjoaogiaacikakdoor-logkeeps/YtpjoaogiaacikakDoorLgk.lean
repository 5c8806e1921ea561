/-
  LogKeeps: the walk.
-/
import Derived.Test.YtpjoaogiaacikakDoorLgkI
import Derived.Deep.CutBlock
import Derived.Deep.CutRange
import Derived.Deep.RegionHeld3
namespace Go.Proofs.YtpjoaogiaacikakDoor.Lgs
open Go.RowKit
open Go.Proofs.YtpjoaogiaacikakDoor.Fif (own_lt own_block own_form own_mono own_vw info_int int_one new_int)
open Go.Proofs.YtpjoaogiaacikakDoor.His (Ev ev errV errV_ok errV_no Eo Ew chkC flat flat_len flat_append info_ev flat_one news1 right_any fifoB causB totB)
open Go.Proofs.YtpjoaogiaacikakDoor.Sep (KpL NewL)
open Go.Proofs.YtpjoaogiaacikakDoor.Vec (Vw)
open Go.Proofs.YtpjoaogiaacikakDoor.As (Laid)
set_option linter.unusedVariables false

set_option maxRecDepth 100000 in
set_option maxHeartbeats 8000000 in
theorem keeps_any (a0 a1 a2 a3 : Option Addr) (n n1 n2 n3 cap cap1 cap2 cap3 : Nat) (es : List Ev) (sy fa ke : List Int) (w : World) (hL : Laid w) (he : Ew w a0 n es) (h1 : Vw w a1 n1 sy) (h2 : Vw w a2 n2 fa) (h3 : Vw w a3 n3 ke) (hn : n ≤ maxLen) (hn1 : n1 ≤ maxLen) (hn2 : n2 ≤ maxLen) (hn3 : n3 ≤ maxLen) (hfz : ∀ i, i < n2 → fa.getD i 0 ≤ 9223372036854775807) :
    Calls Tryd.prog 4 #[.slice a0 n cap, .slice a1 n1 cap1, .slice a2 n2 cap2, .slice a3 n3 cap3] w fun x w' => x = .returned (.bool true) ∧ Below w.heap.size w w' := by
  have H : Hid (Laid w ∧ Ew w a0 n es ∧ Vw w a1 n1 sy ∧ Vw w a2 n2 fa ∧ Vw w a3 n3 ke) := ⟨hL, he, h1, h2, h3⟩
  have HZF : Hid (∀ i, i < n2 → fa.getD i 0 ≤ 9223372036854775807) := hfz
  unfold maxLen at hn hn1 hn2 hn3
  clear hL he h1 h2 h3 hfz
  go_enter Tryd.func4, Tryd.ntmps4
  go_wp2_with fail
  refine (LW.new w).mono ?_
  rintro e w1 ⟨P1, rfl, hl⟩
  have L1 : Hid (LW w w1 w.heap.size P1 new) := hl
  clear hl
  go_wp2_with fail
  refine (L1.out.do say1).mono ?_
  rintro e w2 ⟨k2, rfl, _, hl⟩
  rw [(fact_one k2).1, errV_ok]
  have L2 : Hid (LW w w2 w.heap.size P1 (doL new say1 k2)) := hl
  clear hl
  go_wp2_with fail
  refine L2.out.sync.mono ?_
  rintro e w3 ⟨rfl, hl⟩
  rw [(fact_two k2).1, errV_ok]
  have L3 : Hid (LW w w3 w.heap.size P1 (syncL (doL new say1 k2))) := hl
  clear hl
  go_wp2_with fail
  refine (L3.out.do hear1).mono ?_
  rintro e w4 ⟨k4, rfl, hk4, hl⟩
  rw [(fact_three k2 k4).1, errV_ok]
  have L4 : Hid (LW w w4 w.heap.size P1 (doL (syncL (doL new say1 k2)) hear1 k4) ∧ 2 ≤ k4) := ⟨hl, hk4⟩
  clear hl hk4
  go_wp2_with fail
  refine (L4.out.1.crash 0).mono ?_
  rintro e w5 ⟨rfl, hl⟩
  obtain ⟨lc, elc⟩ : ∃ lc, lc = crashL (doL (syncL (doL new say1 k2)) hear1 k4) 0 := ⟨_, rfl⟩
  have EL : Hid (lc.es = [say1] ∧ bytes lc = lc.safe) := ⟨by rw [elc]; exact fact_four L4.out.2, by rw [elc]; exact (crash_bytes 0).1⟩
  rw [← elc] at hl
  have L5 : Hid (LW w w5 w.heap.size P1 lc) := hl
  clear hl elc
  go_wp2_with fail
  refine L5.out.all.mono ?_
  rintro e w6 ⟨u, rfl, ho, hl, _⟩
  rw [EL.out.1] at ho
  obtain ⟨g, c, rfl, hw, _, _⟩ := eo_at ho (k := 0) (by decide)
  have L6 : Hid (LW w w6 w.heap.size P1 lc) := hl
  obtain ⟨b, off, eb, hlt, hc⟩ := hw.2 (by decide)
  simp only [Option.some.injEq, Addr.mk.injEq] at eb
  obtain ⟨rfl, rfl, _⟩ := eb
  have c6 : w6.cell? ⟨g, 2, none⟩ = some (.int .i64 1) := by
    have q := (hc 0 (by decide)).2.2
    rw [show (ev [say1] 0).2.2 = 1 from rfl] at q
    simpa using q
  rw [show [say1].length = 1 from rfl]
  clear hl ho hw hlt hc
  go_wp2_with fail
  refine L6.out.bytes.mono ?_
  rintro e w7 ⟨rfl, hl⟩
  have L7 : Hid (LW w w7 w.heap.size P1 lc) := hl
  clear hl c6
  have dsf : ((bytes lc : Int) != (lc.safe : Int)) = false := by rw [EL.out.2]; simp
  go_wp2_with fail
  refine L7.out.safe.mono ?_
  rintro e w8 ⟨rfl, hl⟩
  have L8 : Hid (Below w.heap.size w w8) := hl.bel
  clear hl
  go_wp2_with fail
  clear dsf
  refine (newG w8).mono ?_
  rintro e w9 ⟨P, fp, rfl, hl, hb⟩
  have K0 : Hid (KS w (w9.alloc (.cells #[.int .i64 0] 3)) w8.heap.size P new (.slice none 0 0) (.slice (some ⟨w9.heap.size, 0, none⟩) 1 1) (.slice none 0 0)) := by
    have hb2 := (Below.refl w9.heap.size w9).alloc (Nat.le_refl _) (.cells #[.int .i64 0] 3)
    have h89 := L8.out.trans (hb.mono L8.out.size)
    refine ⟨⟨fp, hl.of_blocks hb2.size fun b q => hb2.block b (hl.fp b q).2, fun b q => by simp [Value.ownBlock] at q, fun b q z => ?_, fun b q => by simp [Value.ownBlock] at q⟩, World.ownsRow_nil _ _ _ _, ?_, fun b q => by simp [Value.ownBlock] at q, Inv.new, h89.trans (hb2.mono h89.size), L8.out.size, Nat.le_trans hb.size hb2.size⟩
    · have : b = w9.heap.size := by simpa [Value.ownBlock] using q.symm
      have := (hl.fp b z).2
      omega
    · rw [marks_new]
      exact ⟨rfl, .inr ⟨w9.heap.size, 1, #[.int .i64 0], rfl, by have := h89.size; omega, heap_alloc_new w9 _, Nat.le_refl _, by unfold maxLen; omega, rfl, rfl⟩⟩
  obtain ⟨B, eB⟩ : ∃ B, B = w8.heap.size := ⟨_, rfl⟩
  rw [← eB] at K0
  clear hl hb eB L8
  go_wp2_with fail
  go_loopw [15, 16, 17, 18] (fun vd vm at1 r wr => ∃ r0 i0 : Nat, r0 ≤ 4 ∧ r = .int .i64 (r0 : Int) ∧ i0 ≤ n ∧ at1 = .int .i64 (i0 : Int) ∧ Hid (∃ l, KS w wr B P l vd vm (.slice none 0 0))) (fun _ _ _ r _ => 4 - (intOf r).toNat)
  case atStart => exact ⟨0, 0, by omega, rfl, by omega, rfl, _, K0.out⟩
  case round =>
    clear K0
    obtain ⟨r0, i0, hr4, rfl, hin, rfl, hK⟩ := hrel
    have hr0 : (0 : Int) ≤ (r0 : Int) := by omega
    have hi0 : (0 : Int) ≤ (i0 : Int) := by omega
    obtain ⟨l, hk⟩ := hK.out
    have K1 : Hid (KS w wr B P l u15 u16 (.slice none 0 0)) := hk
    clear hk hK
    by_cases hgo : r0 ≤ n2 ∧ r0 < 4
    · have g1 : decide ((r0 : Int) ≤ (n2 : Int)) = true := decide_eq_true (by omega)
      have g2 : decide ((r0 : Int) < 4) = true := decide_eq_true (by omega)
      have g3 : (r0 : Int) < 4 := by omega
      go_upto_if 93 with fail
      go_cut [18] from 90 to 99 (fun x wx => x = .int .i64 (r0 : Int) ∧ Hid (∃ l, KS w wx B P l u15 u16 (.slice none 0 0)))
      case first =>
        by_cases hf : r0 < n2
        · have hf' : decide ((r0 : Int) < (n2 : Int)) = true := decide_eq_true (by omega)
          have hfi : (r0 : Int) < (n2 : Int) := by omega
          obtain ⟨bf, of, rfl, _, hcf⟩ := (H.out.2.2.2.1.later K1.out.bel).2 (by omega)
          have cf := hcf r0 hf
          obtain ⟨f0, ef0⟩ : ∃ f, f = fa.getD r0 0 := ⟨_, rfl⟩
          rw [← ef0] at cf
          have HF0 : Hid (f0 ≤ 9223372036854775807) := by rw [ef0]; exact HZF.out r0 hf
          clear hcf ef0
          go_wp2_with fail
          refine (K1.out.fail f0 HF0.out).mono ?_
          rintro e w2 ⟨rfl, hk⟩
          go_wp2_with fail
          go_meet
          exact ⟨rfl, _, hk⟩
        · have hf' : decide ((r0 : Int) < (n2 : Int)) = false := decide_eq_false (by omega)
          have hfi : ¬ (r0 : Int) < (n2 : Int) := by omega
          go_wp2_with fail
          go_meet
          exact ⟨rfl, _, K1.out⟩
      case rest =>
        obtain ⟨rfl, hK⟩ := hcut
        clear K1 g1 g2
        go_upto_block 2 with fail
        go_cut [15, 16, 17, 19, 20, 21, 22, 23, 24, 25] from 100 to 183 (fun vd vm at1 _ _ _ _ _ _ _ wx => ∃ i1 : Nat, i1 ≤ n ∧ at1 = .int .i64 (i1 : Int) ∧ Hid (∃ l, KS w wx B P l vd vm (.slice none 0 0)))
        case first =>
          rename_i J KK hJ hKK
          refine round_any a0 a1 a2 a3 n n1 n2 n3 cap cap1 i0 es sy fa ke w _ B P _ _ H hn hn1 hin hK _ _ _ _ _ _ _ _ _ _ _ _ _ _ _ _ _ _ _ _ _ _ _ _ _ _ _ _ _ _ _ _ _ _ _ _ _ _ _ _ _ _ _ _ _ _ _ _ _ _ _ _ _ _ _ _ _ _ _ _ _ _ _ _ _ _ _ _ _ _ _ _ _ _ _ _ _ _ _ _ _ _ _ _ _ _ _ _ _ _ _ _ _ _ _ _ _ _ _ _ _ _ _ _ _ _ _ _ _ _ _ _ _ _ _ _ _ _ _ _ _ _ _ _ _ _ _ _ _ _ _ _ _ _ _ _ _ _ _ _ _ _ _ _ _ _ _ _ _ _ _ _ _ _ _ _ _ _ _ _ _ _ _ _ _ _ _ _ _ _ _ _ _ _ _ _ _ _ _ _ _ _ _ _ _ _ _ _ _ _ _ _ _ _ _ _ _ _ _ _ _ _ _ _ _ _ _ _ _ _ _ _ _ _ _ _ _ _ _ _ _ _ _ _ _ _ _ _ _ _ _ _ _ _ _ _ _ _ _ _ _ _ _ _ _ _ _ _ _ _ _ _ _ _ _ _ _ _ _ _ _ _ _ _ _ _ _ _ _ _ _ _ _ _ _ ?_
          intro s8 s15 s16 s19 s20 s21 s22 s23 s24 s25 s100 s101 s102 s103 s104 s105 s106 s107 s108 s109 s110 s111 s112 s113 s114 s115 s116 s117 s118 s119 s120 s121 s122 s123 s124 s125 s126 s127 s128 s129 s130 s131 s132 s133 s134 s135 s136 s137 s138 s139 s140 s141 s142 s143 s144 s145 s146 s147 s148 s149 s150 s151 s152 s153 s154 s155 s156 s157 s158 s159 s160 s161 s162 s163 s164 s165 s166 s167 s168 s169 s170 s171 s172 s173 s174 s175 s176 s177 s178 s179 s180 s181 s182 s183 wx i1 h1 hz
          refine hKK _ _ (Met.intro (hJ _ _ ?_))
          (repeat apply Exists.intro)
          refine ⟨?rel, rfl⟩
          case rel => exact ⟨i1, h1, rfl, hz⟩
        case rest =>
          clear hK hi0 hin
          obtain ⟨i1, hin, rfl, hK⟩ := hcut
          obtain ⟨l, hk⟩ := hK.out
          have K1 : Hid (KS w wc B P l u15 u16 (.slice none 0 0)) := hk
          clear hk hK
          go_upto_if 187 with fail
          go_cut [26] from 184 to 191 (fun x wx => ∃ kp : Int, x = .int .i64 kp ∧ Hid (KS w wx B P l u15 u16 (.slice none 0 0)))
          case first =>
            by_cases hf : r0 < n3
            · have hf' : decide ((r0 : Int) < (n3 : Int)) = true := decide_eq_true (by omega)
              have hfi : (r0 : Int) < (n3 : Int) := by omega
              obtain ⟨bf, of, rfl, _, hcf⟩ := (H.out.2.2.2.2.later K1.out.bel).2 (by omega)
              have cf := hcf r0 hf
              obtain ⟨f0, ef0⟩ : ∃ f, f = ke.getD r0 0 := ⟨_, rfl⟩
              rw [← ef0] at cf
              clear hcf ef0
              go_wp2_with fail
              go_meet
              exact ⟨f0, rfl, K1.out⟩
            · have hf' : decide ((r0 : Int) < (n3 : Int)) = false := decide_eq_false (by omega)
              have hfi : ¬ (r0 : Int) < (n3 : Int) := by omega
              go_wp2_with fail
              go_meet
              exact ⟨0, rfl, K1.out⟩
          case rest =>
            clear K1
            obtain ⟨kp, rfl, hk⟩ := hcut
            have K1 : Hid (KS w wc B P l u15 u16 (.slice none 0 0)) := hk
            clear hk
            obtain ⟨b1, eb1⟩ : ∃ b : Nat, b = Lgs.bytes l := ⟨_, rfl⟩
            obtain ⟨s1, es1⟩ : ∃ b : Nat, b = l.safe := ⟨_, rfl⟩
            have hsm := K1.out.inv.small.2
            rw [← eb1, ← es1] at hsm
            obtain ⟨hsm1, hsm2⟩ := hsm
            have EB : Hid (b1 = Lgs.bytes l ∧ s1 = l.safe) := ⟨eb1, es1⟩
            clear eb1 es1
            go_wp2_with fail
            refine K1.out.bytes.mono ?_
            rintro e w2 ⟨rfl, hk, _⟩
            rw [← EB.out.1]
            have K2 : Hid (KS w w2 B P l u15 u16 (.slice none 0 0)) := hk
            clear hk
            go_wp2_with fail
            refine K2.out.safe.mono ?_
            rintro e w3 ⟨rfl, hk, _⟩
            rw [← EB.out.2]
            have K3 : Hid (KS w w3 B P l u15 u16 (.slice none 0 0)) := hk
            clear hk
            go_wp2_with fail
            refine (K3.out.crash kp).mono ?_
            rintro e w4 ⟨rfl, hk⟩
            have K4 : Hid (KC w w4 B P l (crashL l kp) u15 u16) := hk
            clear hk
            go_upto_region 48 with fail
            go_cut [208] from 200 to 207 (fun v wx => ∃ cc : Bool, v = .bool cc ∧ (cc = true ↔ 0 < kp ∧ kp < (b1 : Int) - s1) ∧ wx = w4)
            case first =>
              by_cases h0 : kp > 0
              · by_cases h1 : kp < (b1 : Int) - s1
                · have d0 : decide (kp > 0) = true := decide_eq_true h0
                  have d1 : decide (kp < (b1 : Int) - s1) = true := decide_eq_true h1
                  go_wp2_with fail
                  go_meet
                  exact ⟨true, by simp [*], ⟨fun _ => ⟨h0, h1⟩, fun _ => rfl⟩, rfl⟩
                · have d0 : decide (kp > 0) = true := decide_eq_true h0
                  have d1 : decide (kp < (b1 : Int) - s1) = false := decide_eq_false h1
                  go_wp2_with fail
                  go_meet
                  exact ⟨false, by simp [*], ⟨fun z => (by cases z), fun z => by have := z.2; omega⟩, rfl⟩
              · have d0 : decide (kp > 0) = false := decide_eq_false h0
                go_wp2_with fail
                go_meet
                exact ⟨false, by simp [*], ⟨fun z => (by cases z), fun z => by have := z.1; omega⟩, rfl⟩
            case rest =>
              obtain ⟨cc, rfl, hcc, rfl⟩ := hcut
              have HC : Hid (cc = true ↔ 0 < kp ∧ kp < (b1 : Int) - s1) := hcc
              clear hcc
              go_upto_if 208 with fail
              go_cut [29] from 209 to 214 (fun x wx => x = .int .i64 ((high l kp : Nat) : Int) ∧ Hid (KC w wx B P l (crashL l kp) u15 u16))
              case first =>
                have EH : Hid _ := high_of K3.out.inv kp
                cases cc
                · by_cases h0 : kp > 0
                  · have d0 : decide (kp > 0) = true := decide_eq_true h0
                    go_wp2_with fail
                    go_meet
                    refine ⟨?_, K4.out⟩
                    have z := HC.out
                    rw [EH.out, ← EB.out.1, ← EB.out.2, if_neg (by omega), if_neg (by simp at z; omega)]
                  · have d0 : decide (kp > 0) = false := decide_eq_false h0
                    go_wp2_with fail
                    go_meet
                    refine ⟨?_, K4.out⟩
                    rw [EH.out, ← EB.out.2, if_pos (by omega)]
                · have z := HC.out.1 rfl
                  go_wp2_with fail
                  go_meet
                  refine ⟨?_, K4.out⟩
                  rw [EH.out, ← EB.out.1, ← EB.out.2, if_neg (by omega), if_pos (by omega)]
              case rest =>
                obtain ⟨rfl, hk⟩ := hcut
                have hinv : Hid (Inv l) := K3.out.inv
                have hlen : Hid (l.rs.length = l.es.length) := hinv.out.len
                obtain ⟨q1, c1, e15⟩ := own_form hk.out.d
                obtain ⟨q2, c2, e16, hvm⟩ := own_vw hk.out.m
                subst e15 e16
                obtain ⟨M, eM⟩ : ∃ M, M = (marks l).length := ⟨_, rfl⟩
                obtain ⟨kk, ekk⟩ : ∃ kk, kk = kept l kp := ⟨_, rfl⟩
                have EM : Hid (M = (marks l).length ∧ kk = kept l kp ∧ kk < M ∧ M = l.rs.length + 1 ∧ M ≤ 61) := by
                  have a := kept_le (l := l) kp
                  have b := marks_len l
                  have c := hinv.out.small.1
                  have d := hlen.out
                  exact ⟨eM, ekk, by omega, by omega, by omega⟩
                rw [← eM] at hvm
                have HV : Hid (Vw wc q2 M (marks l)) := hvm
                have HK : Hid (KC w wc B P l (crashL l kp) (.slice q1 l.es.length c1) (.slice q2 M c2)) := by
                  have z := hk.out
                  rw [← eM] at z
                  exact z
                obtain ⟨hi, ehi⟩ : ∃ hi, hi = high l kp := ⟨_, rfl⟩
                have EHI : Hid (hi = high l kp ∧ hi ≤ 61000) := by
                  have := high_le3 hinv.out kp
                  have := hinv.out.small.2.1
                  exact ⟨ehi, by omega⟩
                rw [← ehi, ← eM]
                have hM61 : M ≤ 61 := EM.out.2.2.2.2
                have hhi : (hi : Int) ≤ 61000 := by have := EHI.out.2; omega
                clear hvm hk eM ekk ehi K1 K2 K3 K4
                go_wp2_with fail
                go_loopw [30, 31] (fun y z wx => ∃ i : Nat, i ≤ M ∧ z = .int .i64 (i : Int) ∧ y = .int .i64 ((lastOf kk i : Nat) : Int) ∧ wc = wx) (fun _ z _ => M - (intOf z).toNat)
                case atStart => exact ⟨0, by omega, rfl, rfl, rfl⟩
                case round =>
                  obtain ⟨i, hi9, rfl, rfl, rfl⟩ := hrel
                  have hi0' : (0 : Int) ≤ (i : Int) := by omega
                  by_cases hgo : (i : Int) < (M : Int)
                  · obtain ⟨bm, om, rfl, _, hcm⟩ := HV.out.2 (by omega)
                    have cm := hcm i (by omega)
                    have mb := mark_below (l := l) (keep := kp) (i := i) (by have := EM.out; omega)
                    obtain ⟨x, ex⟩ : ∃ x, x = (marks l).getD i 0 := ⟨_, rfl⟩
                    rw [← ex] at cm mb
                    rw [← EM.out.2.1, ← EHI.out.1] at mb
                    clear hcm ex
                    by_cases hle : x ≤ (hi : Int)
                    · have EL9 : Hid (lastOf kk (i + 1) = i) := last_step (mb.1 hle)
                      clear mb
                      go_wp2
                      go_roundw
                      case rel => exact ⟨i + 1, by omega, by go_num, by rw [EL9.out], by first | rfl | trivial⟩
                      case measure => simp [intOf]; omega
                    · have EL9 : Hid (lastOf kk (i + 1) = lastOf kk i) := last_stay (by have := mt mb.2 hle; omega)
                      clear mb
                      go_wp2
                      go_roundw
                      case rel => exact ⟨i + 1, by omega, by go_num, by rw [EL9.out], by first | rfl | trivial⟩
                      case measure => simp [intOf]; omega
                  · have hiM : i = M := by omega
                    subst hiM
                    have EL9 : lastOf kk i = kk := by
                      have := EM.out
                      rw [this.2.2.2.1]
                      exact last_all (by omega)
                    rw [EL9]
                    clear EL9
                    obtain ⟨bm, om, rfl, _, hcm⟩ := HV.out.2 (by have := EM.out; omega)
                    have cm : wc.cell? ⟨bm, om + kk, none⟩ = some (.int .i64 ((marks l).getD kk 0)) := hcm kk EM.out.2.2.1
                    obtain ⟨lc, elc⟩ : ∃ lc, lc = crashL l kp := ⟨_, rfl⟩
                    obtain ⟨hc0, hc1, hc2⟩ := HK.out.cut hinv.out rfl EM.out.1
                    rw [← EM.out.2.1, ← elc] at hc0
                    obtain ⟨sf, esf⟩ : ∃ sf, sf = lc.safe := ⟨_, rfl⟩
                    have EC : Hid (lc.es.length = kk ∧ Lgs.bytes lc = sf ∧ lc.safe = sf) := by
                      refine ⟨?_, ?_, esf.symm⟩
                      · rw [elc, crash_es, List.length_take, ← EM.out.2.1]
                        have := EM.out
                        have := hlen.out
                        omega
                      · rw [esf, elc]; exact (crash_bytes kp).1
                    have esm : (marks l).getD kk 0 = (sf : Int) := by
                      rw [esf, elc, EM.out.2.1]
                      exact (crash_bytes kp).2.symm
                    rw [esm] at cm
                    have K5 : Hid (KS w wc B P lc (.slice q1 kk c1) (.slice (some ⟨bm, om, none⟩) (kk + 1) c2) (.slice none 0 0)) := hc0
                    have CM : Hid (wc.cell? ⟨bm, om + kk, none⟩ = some (.int .i64 (sf : Int)) ∧ bm < wc.heap.size) := by
                      refine ⟨cm, ?_⟩
                      obtain ⟨b', o', e', hlt, _⟩ := HV.out.2 (by have := EM.out; omega)
                      cases e'
                      exact hlt
                    have hnk : kk ≤ l.es.length := by have := EM.out; have := hlen.out; omega
                    have hk1 : (kk : Int) ≤ (c1 : Int) := by omega
                    have hk2 : (kk : Int) + 1 ≤ (c2 : Int) := by have := EM.out; omega
                    have hk0 : (0 : Int) ≤ (kk : Int) := by omega
                    have hk61 : (kk : Int) ≤ 61 := by have := EM.out; omega
                    have hD := HK.out.d
                    clear hcm cm elc hc0 esf esm
                    go_upto_region 58 with fail
                    go_cut [15] from 228 to 230 (fun x wx => x = .slice q1 kk c1 ∧ wc = wx)
                    case first =>
                      rcases hD.2 with ⟨e1, e2⟩ | ⟨g, cap, cur, e1, _⟩
                      · simp only [Value.slice.injEq] at e1
                        obtain ⟨rfl, e3, rfl⟩ := e1
                        have hkz : kk = 0 := by omega
                        subst hkz
                        clear hD
                        go_wp2_with fail
                        go_meet
                        exact ⟨rfl, rfl⟩
                      · simp only [Value.slice.injEq] at e1
                        obtain ⟨rfl, -, rfl⟩ := e1
                        clear hD
                        go_wp2_with fail
                        go_meet
                        exact ⟨rfl, rfl⟩
                    case rest =>
                    obtain ⟨rfl, rfl⟩ := hcut
                    clear hD
                    go_wp2_with fail
                    refine K5.out.faces.mono ?_
                    rintro e w5 ⟨rfl, hk5, hb5⟩
                    obtain ⟨f0, ef0⟩ : ∃ f, f = fifoB lc.es := ⟨_, rfl⟩
                    obtain ⟨f1, ef1⟩ : ∃ f, f = causB lc.es := ⟨_, rfl⟩
                    obtain ⟨f2, ef2⟩ : ∃ f, f = totB lc.es := ⟨_, rfl⟩
                    have EF : Hid (f0 = fifoB lc.es ∧ f1 = causB lc.es ∧ f2 = totB lc.es) := ⟨ef0, ef1, ef2⟩
                    rw [← ef0, ← ef1, ← ef2]
                    have K6 : Hid (KS w w5 B P lc (.slice q1 kk c1) (.slice (some ⟨bm, om, none⟩) (kk + 1) c2) (.slice none 0 0) ∧ Below wc.heap.size wc w5) := ⟨hk5, hb5⟩
                    clear hk5 hb5 ef0 ef1 ef2
                    go_wp2_with fail
                    obtain ⟨W5, eW5⟩ : ∃ W, W = w5.alloc (.cells #[.bool f0, .bool f1, .bool f2] 41) := ⟨_, rfl⟩
                    obtain ⟨BF, eBF⟩ : ∃ b, b = w5.heap.size := ⟨_, rfl⟩
                    rw [← eW5, ← eBF]
                    have C5 : Hid ((W5.cell? ⟨BF, 0, none⟩ = some (.bool f0) ∧ W5.cell? ⟨BF, 1, none⟩ = some (.bool f1) ∧ W5.cell? ⟨BF, 2, none⟩ = some (.bool f2)) ∧ BF < W5.heap.size ∧ Below w5.heap.size w5 W5) := by
                      rw [eW5]
                      exact ⟨three_new w5 f0 f1 f2 BF eBF, by rw [eBF]; simp, (Below.refl _ _).alloc (Nat.le_refl _) _⟩
                    clear eW5 eBF
                    have K7 : Hid (KS w W5 B P lc (.slice q1 kk c1) (.slice (some ⟨bm, om, none⟩) (kk + 1) c2) (.slice none 0 0)) := K6.out.1.later C5.out.2.2
                    have VD : Hid (Ew W5 q1 kk lc.es ∧ kk ≤ c1 ∧ c1 ≤ maxLen) := by
                      obtain ⟨q, c, e, h1, h2, h3⟩ := eo_view K7.out.d
                      rw [EC.out.1] at e h1 h3
                      cases e
                      exact ⟨h3, h1, h2⟩
                    go_wp2_with fail
                    refine (His.of_ok q1 kk c1 lc.es W5 VD.out.2.1 VD.out.2.2 VD.out.1 K7.out.inv.good).mono ?_
                    rintro e w6 ⟨rfl, hb6⟩
                    rw [← EF.out.1, ← EF.out.2.1, ← EF.out.2.2]
                    have B6 : Hid (Below W5.heap.size W5 w6) := hb6
                    clear hb6
                    go_upto_region 62 with fail
                    obtain ⟨w7, eW7⟩ : ∃ W, W = w6.alloc (.cells #[.bool f0, .bool f1, .bool f2] 41) := ⟨_, rfl⟩
                    obtain ⟨BG, eBG⟩ : ∃ b, b = w6.heap.size := ⟨_, rfl⟩
                    rw [← eW7, ← eBG]
                    have C7 : Hid ((w7.cell? ⟨BG, 0, none⟩ = some (.bool f0) ∧ w7.cell? ⟨BG, 1, none⟩ = some (.bool f1) ∧ w7.cell? ⟨BG, 2, none⟩ = some (.bool f2)) ∧ BG < w7.heap.size ∧ Below w6.heap.size w6 w7) := by
                      rw [eW7]
                      exact ⟨three_new w6 f0 f1 f2 BG eBG, by rw [eBG]; simp, (Below.refl _ _).alloc (Nat.le_refl _) _⟩
                    clear eW7 eBG
                    have B7 : Hid (Below W5.heap.size W5 w7) := B6.out.trans (C7.out.2.2.mono B6.out.size)
                    have K8 : Hid (KS w w7 B P lc (.slice q1 kk c1) (.slice (some ⟨bm, om, none⟩) (kk + 1) c2) (.slice none 0 0)) := K7.out.later B7.out
                    have S9 : Hid (∀ {X : World}, Below w7.heap.size w7 X → X.cell? ⟨BF, 0, none⟩ = some (.bool f0) ∧ X.cell? ⟨BF, 1, none⟩ = some (.bool f1) ∧ X.cell? ⟨BF, 2, none⟩ = some (.bool f2) ∧ X.cell? ⟨BG, 0, none⟩ = some (.bool f0) ∧ X.cell? ⟨BG, 1, none⟩ = some (.bool f1) ∧ X.cell? ⟨BG, 2, none⟩ = some (.bool f2) ∧ X.cell? ⟨bm, om + kk, none⟩ = some (.int .i64 (sf : Int))) := by
                      intro X hX
                      have b1 := B7.out.trans (hX.mono B7.out.size)
                      have b2 := (K6.out.2.trans (C5.out.2.2.mono K6.out.2.size))
                      have b3 := b2.trans (b1.mono b2.size)
                      obtain ⟨⟨x0, x1, x2⟩, xl, _⟩ := C5.out
                      obtain ⟨⟨y0, y1, y2⟩, yl, _⟩ := C7.out
                      exact ⟨(b1.cell (p := ⟨BF, 0, none⟩) xl).trans x0, (b1.cell (p := ⟨BF, 1, none⟩) xl).trans x1, (b1.cell (p := ⟨BF, 2, none⟩) xl).trans x2, (hX.cell (p := ⟨BG, 0, none⟩) yl).trans y0, (hX.cell (p := ⟨BG, 1, none⟩) yl).trans y1, (hX.cell (p := ⟨BG, 2, none⟩) yl).trans y2, (b3.cell (p := ⟨bm, om + kk, none⟩) CM.out.2).trans CM.out.1⟩
                    have eqF := eqSameF f0 f1 f2
                    have egF := eqGdF
                    have hlt1 : (kk : Int) < (kk : Int) + 1 := by omega
                    clear hk1 hk2
                    refine wp_region_held_drew (S := fun X => X.cell? ⟨BF, 0, none⟩ = some (.bool f0) ∧ X.cell? ⟨BF, 1, none⟩ = some (.bool f1) ∧ X.cell? ⟨BF, 2, none⟩ = some (.bool f2) ∧ X.cell? ⟨BG, 0, none⟩ = some (.bool f0) ∧ X.cell? ⟨BG, 1, none⟩ = some (.bool f1) ∧ X.cell? ⟨BG, 2, none⟩ = some (.bool f2) ∧ X.cell? ⟨bm, om + kk, none⟩ = some (.int .i64 (sf : Int))) (by kernel_rfl) (S9.out (Below.refl _ _).drew) ?_
                    intro hS
                    refine takeL (i := 0) 245 (v := .nilIface) rfl rfl (by kernel_rfl) (by kernel_rfl) (by kernel_rfl) (fun _ _ _ h => h) (Or.inl ⟨by kernel_rfl, fun _ hS => by first | rfl | (obtain ⟨k0, k1, k2, k3, k4, k5, k6⟩ := hS; go_simp)⟩) hS ?_
                    try simp only [Act.put, List.setIfInBounds_toArray, List.set_cons_zero, List.set_cons_succ]
                    refine takeL (i := 1) 246 (v := .bool false) rfl rfl (by kernel_rfl) (by kernel_rfl) (by kernel_rfl) (fun _ _ _ h => h) (Or.inl ⟨by kernel_rfl, fun _ hS => by first | rfl | (obtain ⟨k0, k1, k2, k3, k4, k5, k6⟩ := hS; go_simp)⟩) hS ?_
                    try simp only [Act.put, List.setIfInBounds_toArray, List.set_cons_zero, List.set_cons_succ]
                    refine takeL (i := 2) 247 (v := .bool false) rfl rfl (by kernel_rfl) (by kernel_rfl) (by kernel_rfl) (fun _ _ _ h => h) (Or.inl ⟨by kernel_rfl, fun _ hS => by first | rfl | (obtain ⟨k0, k1, k2, k3, k4, k5, k6⟩ := hS; go_simp)⟩) hS ?_
                    try simp only [Act.put, List.setIfInBounds_toArray, List.set_cons_zero, List.set_cons_succ]
                    refine takeL (i := 3) 248 (v := .nilIface) rfl rfl (by kernel_rfl) (by kernel_rfl) (by kernel_rfl) (fun _ _ _ h => h) (Or.inl ⟨by kernel_rfl, fun _ hS => by first | rfl | (obtain ⟨k0, k1, k2, k3, k4, k5, k6⟩ := hS; go_simp)⟩) hS ?_
                    try simp only [Act.put, List.setIfInBounds_toArray, List.set_cons_zero, List.set_cons_succ]
                    refine takeL (i := 4) 249 (v := .bool false) rfl rfl (by kernel_rfl) (by kernel_rfl) (by kernel_rfl) (fun _ _ _ h => h) (Or.inl ⟨by kernel_rfl, fun _ hS => by first | rfl | (obtain ⟨k0, k1, k2, k3, k4, k5, k6⟩ := hS; go_simp)⟩) hS ?_
                    try simp only [Act.put, List.setIfInBounds_toArray, List.set_cons_zero, List.set_cons_succ]
                    refine takeL (i := 5) 250 (v := .bool false) rfl rfl (by kernel_rfl) (by kernel_rfl) (by kernel_rfl) (fun _ _ _ h => h) (Or.inl ⟨by kernel_rfl, fun _ hS => by first | rfl | (obtain ⟨k0, k1, k2, k3, k4, k5, k6⟩ := hS; go_simp)⟩) hS ?_
                    try simp only [Act.put, List.setIfInBounds_toArray, List.set_cons_zero, List.set_cons_succ]
                    refine takeL (i := 6) 251 (v := .bool false) rfl rfl (by kernel_rfl) (by kernel_rfl) (by kernel_rfl) (fun _ _ _ h => h) (Or.inl ⟨by kernel_rfl, fun _ hS => by first | rfl | (obtain ⟨k0, k1, k2, k3, k4, k5, k6⟩ := hS; go_simp)⟩) hS ?_
                    try simp only [Act.put, List.setIfInBounds_toArray, List.set_cons_zero, List.set_cons_succ]
                    refine takeL (i := 7) 252 (v := .agg #[.bool f0, .bool f1, .bool f2]) rfl rfl (by kernel_rfl) (by kernel_rfl) (by kernel_rfl) (fun _ _ _ h => h) (Or.inl ⟨by kernel_rfl, fun _ hS => by first | rfl | (obtain ⟨k0, k1, k2, k3, k4, k5, k6⟩ := hS; go_simp)⟩) hS ?_
                    try simp only [Act.put, List.setIfInBounds_toArray, List.set_cons_zero, List.set_cons_succ]
                    refine takeL (i := 8) 253 (v := .agg #[.bool f0, .bool f1, .bool f2]) rfl rfl (by kernel_rfl) (by kernel_rfl) (by kernel_rfl) (fun _ _ _ h => h) (Or.inl ⟨by kernel_rfl, fun _ hS => by first | rfl | (obtain ⟨k0, k1, k2, k3, k4, k5, k6⟩ := hS; go_simp)⟩) hS ?_
                    try simp only [Act.put, List.setIfInBounds_toArray, List.set_cons_zero, List.set_cons_succ]
                    refine takeL (i := 9) 254 (v := .bool false) rfl rfl (by kernel_rfl) (by kernel_rfl) (by kernel_rfl) (fun _ _ _ h => h) (Or.inl ⟨by kernel_rfl, fun _ hS => by first | rfl | (obtain ⟨k0, k1, k2, k3, k4, k5, k6⟩ := hS; go_simp)⟩) hS ?_
                    try simp only [Act.put, List.setIfInBounds_toArray, List.set_cons_zero, List.set_cons_succ]
                    refine takeL (i := 10) 255 (v := .bool false) rfl rfl (by kernel_rfl) (by kernel_rfl) (by kernel_rfl) (fun _ _ _ h => h) (Or.inl ⟨by kernel_rfl, fun _ hS => by first | rfl | (obtain ⟨k0, k1, k2, k3, k4, k5, k6⟩ := hS; go_simp)⟩) hS ?_
                    try simp only [Act.put, List.setIfInBounds_toArray, List.set_cons_zero, List.set_cons_succ]
                    refine takeL (i := 11) 256 (v := .bool false) rfl rfl (by kernel_rfl) (by kernel_rfl) (by kernel_rfl) (fun _ _ _ h => h) (Or.inl ⟨by kernel_rfl, fun _ hS => by first | rfl | (obtain ⟨k0, k1, k2, k3, k4, k5, k6⟩ := hS; go_simp)⟩) hS ?_
                    try simp only [Act.put, List.setIfInBounds_toArray, List.set_cons_zero, List.set_cons_succ]
                    refine takeL (i := 12) 257 (v := .pointer (some ⟨P, 0, none⟩)) rfl rfl (by kernel_rfl) (by kernel_rfl) (by kernel_rfl) (fun _ _ _ h => h) (Or.inl ⟨by kernel_rfl, fun _ hS => by first | rfl | (obtain ⟨k0, k1, k2, k3, k4, k5, k6⟩ := hS; go_simp)⟩) hS ?_
                    try simp only [Act.put, List.setIfInBounds_toArray, List.set_cons_zero, List.set_cons_succ]
                    refine takeL (i := 14) 259 (v := .slice q1 kk c1) rfl rfl (by kernel_rfl) (by kernel_rfl) (by kernel_rfl) (fun _ _ _ h => h) (Or.inl ⟨by kernel_rfl, fun _ hS => by first | rfl | (obtain ⟨k0, k1, k2, k3, k4, k5, k6⟩ := hS; go_simp)⟩) hS ?_
                    try simp only [Act.put, List.setIfInBounds_toArray, List.set_cons_zero, List.set_cons_succ]
                    refine wpAnyH_ready (rs := [13]) (by kernel_rfl) (by simp) ?_
                    refine AllReadyH.cons rfl (fun K9 hK9 => ?_) AllReadyH.nil
                    go_simp
                    refine (K8.out.later (Below.refl w7.heap.size w7).drew).all.mono ?_
                    rintro e w8 ⟨v8, rfl, ho8, hk8, hb8⟩
                    have T8 : Hid (KS w w8 B P lc (.slice q1 kk c1) (.slice (some ⟨bm, om, none⟩) (kk + 1) c2) (.slice none 0 0) ∧ Eo w8 w7.heap.size v8 lc.es ∧ Below w7.heap.size w7 w8) := ⟨hk8, ho8, (Below.refl w7.heap.size w7).drew.trans hb8⟩
                    clear ho8 hk8 hb8
                    go_simp
                    refine hK9.out _ _ (S9.out T8.out.2.2) (fun hS => ?_)
                    clear hK9 K9
                    refine wpAnyH_ready (rs := [15]) (by kernel_rfl) (by simp) ?_
                    refine AllReadyH.cons rfl (fun K9 hK9 => ?_) AllReadyH.nil
                    go_simp
                    refine (events_same _ _ _ _ lc.es w8 T8.out.2.1 T8.out.1.d T8.out.1.inv.small.1).mono ?_
                    rintro e w9 ⟨rfl, m9, rfl⟩
                    have T9 : Hid (KS w (w8.drewN m9) B P lc (.slice q1 kk c1) (.slice (some ⟨bm, om, none⟩) (kk + 1) c2) (.slice none 0 0) ∧ Below w7.heap.size w7 (w8.drewN m9)) := ⟨T8.out.1.later (drewsL (Below.refl _ _) _), drewsL T8.out.2.2 _⟩
                    go_simp
                    refine hK9.out _ _ (S9.out T9.out.2) (fun hS => ?_)
                    clear hK9 K9
                    refine takeL (i := 16) 261 (v := .bool false) rfl rfl (by kernel_rfl) (by kernel_rfl) (by kernel_rfl) (fun _ _ _ h => h) (Or.inl ⟨by kernel_rfl, fun _ hS => by first | rfl | (obtain ⟨k0, k1, k2, k3, k4, k5, k6⟩ := hS; go_simp)⟩) hS ?_
                    try simp only [Act.put, List.setIfInBounds_toArray, List.set_cons_zero, List.set_cons_succ]
                    refine takeL (i := 17) 262 (v := .bool false) rfl rfl (by kernel_rfl) (by kernel_rfl) (by kernel_rfl) (fun _ _ _ h => h) (Or.inl ⟨by kernel_rfl, fun _ hS => by first | rfl | (obtain ⟨k0, k1, k2, k3, k4, k5, k6⟩ := hS; go_simp)⟩) hS ?_
                    try simp only [Act.put, List.setIfInBounds_toArray, List.set_cons_zero, List.set_cons_succ]
                    refine takeL (i := 18) 263 (v := .bool false) rfl rfl (by kernel_rfl) (by kernel_rfl) (by kernel_rfl) (fun _ _ _ h => h) (Or.inl ⟨by kernel_rfl, fun _ hS => by first | rfl | (obtain ⟨k0, k1, k2, k3, k4, k5, k6⟩ := hS; go_simp)⟩) hS ?_
                    try simp only [Act.put, List.setIfInBounds_toArray, List.set_cons_zero, List.set_cons_succ]
                    refine takeL (i := 19) 264 (v := .pointer (some ⟨P, 0, none⟩)) rfl rfl (by kernel_rfl) (by kernel_rfl) (by kernel_rfl) (fun _ _ _ h => h) (Or.inl ⟨by kernel_rfl, fun _ hS => by first | rfl | (obtain ⟨k0, k1, k2, k3, k4, k5, k6⟩ := hS; go_simp)⟩) hS ?_
                    try simp only [Act.put, List.setIfInBounds_toArray, List.set_cons_zero, List.set_cons_succ]
                    refine takeL (i := 21) 266 (v := .slice (some ⟨bm, om, none⟩) (kk + 1) c2) rfl rfl (by kernel_rfl) (by kernel_rfl) (by kernel_rfl) (fun _ _ _ h => h) (Or.inl ⟨by kernel_rfl, fun _ hS => by first | rfl | (obtain ⟨k0, k1, k2, k3, k4, k5, k6⟩ := hS; go_simp)⟩) hS ?_
                    try simp only [Act.put, List.setIfInBounds_toArray, List.set_cons_zero, List.set_cons_succ]
                    refine takeL (i := 22) 267 (v := .int .i64 (kk : Int)) rfl rfl (by kernel_rfl) (by kernel_rfl) (by kernel_rfl) (fun _ _ _ h => h) (Or.inl ⟨by kernel_rfl, fun _ hS => by first | rfl | (obtain ⟨k0, k1, k2, k3, k4, k5, k6⟩ := hS; go_simp)⟩) hS ?_
                    try simp only [Act.put, List.setIfInBounds_toArray, List.set_cons_zero, List.set_cons_succ]
                    refine takeL (i := 23) 268 (v := .pointer (some ⟨bm, om + kk, none⟩)) rfl rfl (by kernel_rfl) (by kernel_rfl) (by kernel_rfl) (fun _ _ _ h => h) (Or.inl ⟨by kernel_rfl, fun _ hS => by first | rfl | (obtain ⟨k0, k1, k2, k3, k4, k5, k6⟩ := hS; go_simp)⟩) hS ?_
                    try simp only [Act.put, List.setIfInBounds_toArray, List.set_cons_zero, List.set_cons_succ]
                    refine takeL (i := 24) 269 (v := .int .i64 (sf : Int)) rfl rfl (by kernel_rfl) (by kernel_rfl) (by kernel_rfl) (fun _ _ _ h => h) (Or.inl ⟨by kernel_rfl, fun _ hS => by first | rfl | (obtain ⟨k0, k1, k2, k3, k4, k5, k6⟩ := hS; go_simp)⟩) hS ?_
                    try simp only [Act.put, List.setIfInBounds_toArray, List.set_cons_zero, List.set_cons_succ]
                    refine wpAnyH_ready (rs := [20]) (by kernel_rfl) (by simp) ?_
                    refine AllReadyH.cons rfl (fun K9 hK9 => ?_) AllReadyH.nil
                    go_simp
                    refine T9.out.1.bytes.mono ?_
                    rintro e w10 ⟨rfl, hk10, hb10⟩
                    have T10 : Hid (KS w w10 B P lc (.slice q1 kk c1) (.slice (some ⟨bm, om, none⟩) (kk + 1) c2) (.slice none 0 0) ∧ Below w7.heap.size w7 w10) := ⟨hk10, T9.out.2.trans (hb10.mono T9.out.2.size)⟩
                    clear hk10 hb10
                    rw [EC.out.2.1]
                    go_simp
                    refine hK9.out _ _ (S9.out T10.out.2) (fun hS => ?_)
                    clear hK9 K9
                    refine takeL (i := 25) 270 (v := .bool false) rfl rfl (by kernel_rfl) (by kernel_rfl) (by kernel_rfl) (fun _ _ _ h => h) (Or.inl ⟨by kernel_rfl, fun _ hS => by first | rfl | (obtain ⟨k0, k1, k2, k3, k4, k5, k6⟩ := hS; go_simp)⟩) hS ?_
                    try simp only [Act.put, List.setIfInBounds_toArray, List.set_cons_zero, List.set_cons_succ]
                    refine takeL (i := 26) 271 (v := .bool false) rfl rfl (by kernel_rfl) (by kernel_rfl) (by kernel_rfl) (fun _ _ _ h => h) (Or.inl ⟨by kernel_rfl, fun _ hS => by first | rfl | (obtain ⟨k0, k1, k2, k3, k4, k5, k6⟩ := hS; go_simp)⟩) hS ?_
                    try simp only [Act.put, List.setIfInBounds_toArray, List.set_cons_zero, List.set_cons_succ]
                    refine takeL (i := 27) 272 (v := .bool false) rfl rfl (by kernel_rfl) (by kernel_rfl) (by kernel_rfl) (fun _ _ _ h => h) (Or.inl ⟨by kernel_rfl, fun _ hS => by first | rfl | (obtain ⟨k0, k1, k2, k3, k4, k5, k6⟩ := hS; go_simp)⟩) hS ?_
                    try simp only [Act.put, List.setIfInBounds_toArray, List.set_cons_zero, List.set_cons_succ]
                    refine takeL (i := 28) 273 (v := .pointer (some ⟨P, 0, none⟩)) rfl rfl (by kernel_rfl) (by kernel_rfl) (by kernel_rfl) (fun _ _ _ h => h) (Or.inl ⟨by kernel_rfl, fun _ hS => by first | rfl | (obtain ⟨k0, k1, k2, k3, k4, k5, k6⟩ := hS; go_simp)⟩) hS ?_
                    try simp only [Act.put, List.setIfInBounds_toArray, List.set_cons_zero, List.set_cons_succ]
                    refine takeL (i := 30) 275 (v := .slice (some ⟨bm, om, none⟩) (kk + 1) c2) rfl rfl (by kernel_rfl) (by kernel_rfl) (by kernel_rfl) (fun _ _ _ h => h) (Or.inl ⟨by kernel_rfl, fun _ hS => by first | rfl | (obtain ⟨k0, k1, k2, k3, k4, k5, k6⟩ := hS; go_simp)⟩) hS ?_
                    try simp only [Act.put, List.setIfInBounds_toArray, List.set_cons_zero, List.set_cons_succ]
                    refine takeL (i := 31) 276 (v := .int .i64 (kk : Int)) rfl rfl (by kernel_rfl) (by kernel_rfl) (by kernel_rfl) (fun _ _ _ h => h) (Or.inl ⟨by kernel_rfl, fun _ hS => by first | rfl | (obtain ⟨k0, k1, k2, k3, k4, k5, k6⟩ := hS; go_simp)⟩) hS ?_
                    try simp only [Act.put, List.setIfInBounds_toArray, List.set_cons_zero, List.set_cons_succ]
                    refine takeL (i := 32) 277 (v := .pointer (some ⟨bm, om + kk, none⟩)) rfl rfl (by kernel_rfl) (by kernel_rfl) (by kernel_rfl) (fun _ _ _ h => h) (Or.inl ⟨by kernel_rfl, fun _ hS => by first | rfl | (obtain ⟨k0, k1, k2, k3, k4, k5, k6⟩ := hS; go_simp)⟩) hS ?_
                    try simp only [Act.put, List.setIfInBounds_toArray, List.set_cons_zero, List.set_cons_succ]
                    refine takeL (i := 33) 278 (v := .int .i64 (sf : Int)) rfl rfl (by kernel_rfl) (by kernel_rfl) (by kernel_rfl) (fun _ _ _ h => h) (Or.inl ⟨by kernel_rfl, fun _ hS => by first | rfl | (obtain ⟨k0, k1, k2, k3, k4, k5, k6⟩ := hS; go_simp)⟩) hS ?_
                    try simp only [Act.put, List.setIfInBounds_toArray, List.set_cons_zero, List.set_cons_succ]
                    refine wpAnyH_ready (rs := [29]) (by kernel_rfl) (by simp) ?_
                    refine AllReadyH.cons rfl (fun K9 hK9 => ?_) AllReadyH.nil
                    go_simp
                    refine T10.out.1.safe.mono ?_
                    rintro e w11 ⟨rfl, hk11, hb11⟩
                    have T11 : Hid (KS w w11 B P lc (.slice q1 kk c1) (.slice (some ⟨bm, om, none⟩) (kk + 1) c2) (.slice none 0 0) ∧ Below w7.heap.size w7 w11) := ⟨hk11, T10.out.2.trans (hb11.mono T10.out.2.size)⟩
                    clear hk11 hb11
                    rw [EC.out.2.2]
                    go_simp
                    refine hK9.out _ _ (S9.out T11.out.2) (fun hS => ?_)
                    clear hK9 K9
                    refine takeL (i := 34) 279 (v := .bool false) rfl rfl (by kernel_rfl) (by kernel_rfl) (by kernel_rfl) (fun _ _ _ h => h) (Or.inl ⟨by kernel_rfl, fun _ hS => by first | rfl | (obtain ⟨k0, k1, k2, k3, k4, k5, k6⟩ := hS; go_simp)⟩) hS ?_
                    try simp only [Act.put, List.setIfInBounds_toArray, List.set_cons_zero, List.set_cons_succ]
                    refine takeL (i := 35) 280 (v := .bool false) rfl rfl (by kernel_rfl) (by kernel_rfl) (by kernel_rfl) (fun _ _ _ h => h) (Or.inl ⟨by kernel_rfl, fun _ hS => by first | rfl | (obtain ⟨k0, k1, k2, k3, k4, k5, k6⟩ := hS; go_simp)⟩) hS ?_
                    try simp only [Act.put, List.setIfInBounds_toArray, List.set_cons_zero, List.set_cons_succ]
                    refine wpAnyH_done (by kernel_rfl) ?_ _
                    go_wp2
                    go_roundw
                    case rel => exact ⟨r0 + 1, i1, by omega, by go_num, hin, rfl, _, T11.out.1⟩
                    case measure => simp [intOf]; omega
    · rcases (show ¬ ((r0 : Int) ≤ (n2 : Int)) ∨ ((r0 : Int) ≤ (n2 : Int) ∧ ¬ (r0 : Int) < 4) by omega) with e1 | ⟨e1, e2⟩
      all_goals
        go_wp2
        go_ret
        exact ⟨rfl, K1.out.bel⟩
end Go.Proofs.YtpjoaogiaacikakDoor.Lgs
