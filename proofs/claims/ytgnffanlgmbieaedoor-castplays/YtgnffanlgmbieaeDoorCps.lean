/-
  The walk of CastPlays: anything that a group says, and that is given, dropped, doubled: what is refused, what is heard, what is on its way, its history, are what the document tells.
-/
import Derived.Test.YtgnffanlgmbieaeDoorCpsA
import Derived.Test.YtgnffanlgmbieaeDoorCpsI
namespace Go.Proofs.YtgnffanlgmbieaeDoor.Cas
open Go.RowKit
open Go.Proofs.YtgnffanlgmbieaeDoor.Net (Pk pk Po RN errF errF_ok errF_no errF_same KpL NewL dropC dropL twC twL sendC sendL C3 c3_of isIn isIn_yes NInv refOut refSend packets_same below_same below_drews)
open Go.Proofs.YtgnffanlgmbieaeDoor.As (Laid)
open Go.Proofs.YtgnffanlgmbieaeDoor.Vec (Vw Rw ints_any)
open Go.Proofs.YtgnffanlgmbieaeDoor.His (Ev)
open Go.Proofs.YtgnffanlgmbieaeDoor.Fif (own_lt own_block own_form own_mono Kp ret_bool)
set_option linter.unusedVariables false
theorem own_lat {w w' : World} {base : Nat} {t : TypeId} {s n : Nat} {v : Value} {xs : List Value} (o : w.ownsRow base t s v n xs) (hb : Below w.heap.size w w') : w'.ownsRow base t s v n xs := own_block o fun k hk => hb.block k (own_lt o k hk).2
theorem cell_heap {X Y : World} (e : X.heap = Y.heap) (p : Addr) : X.cell? p = Y.cell? p := World.cell?_of_block (by rw [e])
set_option maxRecDepth 100000 in
set_option maxHeartbeats 4000000 in
theorem cps_bad (n : Int) (a : Option Addr) (len cap : Nat) (w : World) (hL : Laid w) (h : n < 2 ∨ 5 < n) :
    Calls Tryd.prog 3 #[.int .i64 n, .slice a len cap] w fun e w' => e = .returned (.bool true) ∧ Below w.heap.size w w' := by
  have HL : Hid (Laid w) := hL
  have HN : Hid (n < 2 ∨ 5 < n) := h
  obtain ⟨ec, eec⟩ : ∃ ec : Int, ec = 1 := ⟨_, rfl⟩
  clear hL
  go_enter Tryd.func3, Tryd.ntmps3
  rcases h with h | h
  · go_wp2_with fail
    refine (newC_no n w HN.out).mono ?_
    rintro e w1 ⟨v, rfl, hb⟩
    have B1 : Hid (Below w.heap.size w w1) := hb
    clear hb
    go_wp2_with fail
    rw [← eec]
    refine (errF_same ec w1 (HL.out.later B1.out)).mono ?_
    rintro e w2 ⟨rfl, hb⟩
    have B2 : Hid (Below w.heap.size w w2) := B1.out.trans (hb.mono B1.out.size)
    clear hb
    rw [eec]
    go_wp2
    go_ret
    exact ⟨rfl, B2.out⟩
  · have h2 : (2 : Int) ≤ n := by omega
    go_wp2_with fail
    refine (newC_no n w HN.out).mono ?_
    rintro e w1 ⟨v, rfl, hb⟩
    have B1 : Hid (Below w.heap.size w w1) := hb
    clear hb
    go_wp2_with fail
    rw [← eec]
    refine (errF_same ec w1 (HL.out.later B1.out)).mono ?_
    rintro e w2 ⟨rfl, hb⟩
    have B2 : Hid (Below w.heap.size w w2) := B1.out.trans (hb.mono B1.out.size)
    clear hb
    rw [eec]
    go_wp2
    go_ret
    exact ⟨rfl, B2.out⟩
set_option maxRecDepth 100000 in
set_option maxHeartbeats 8000000 in
theorem cps_ok (n : Nat) (a : Option Addr) (len cap : Nat) (ls : List (List Int)) (w : World) (hL : Laid w) (hv : Rw w a len ls) (h2 : 2 ≤ n) (h5 : n ≤ 5) :
    Calls Tryd.prog 3 #[.int .i64 (n : Int), .slice a len cap] w fun e w' => e = .returned (.bool true) ∧ Below w.heap.size w w' := by
  have HL : Hid (Laid w ∧ Rw w a len ls ∧ 2 ≤ n ∧ n ≤ 5) := ⟨hL, hv, h2, h5⟩
  have hmx := hv.2.1
  have hn2 : (2 : Int) ≤ (n : Int) := by omega
  have hn5 : (n : Int) ≤ 5 := by omega
  unfold maxLen at hmx
  obtain ⟨ec, eec⟩ : ∃ ec : Int, ec = 0 := ⟨_, rfl⟩
  clear hL hv h2 h5
  go_enter Tryd.func3, Tryd.ntmps3
  go_wp2_with fail
  refine (newC_ok n w HL.out.2.2.1 HL.out.2.2.2 HL.out.1).mono ?_
  rintro e w1 ⟨P, fp1, rfl, hA, hb⟩
  have A1 : Hid (CA w1 w.heap.size P (start n) fp1 ∧ Below w.heap.size w w1) := ⟨hA, hb⟩
  clear hA hb
  rw [← errF_ok]
  go_wp2_with fail
  rw [← eec]
  refine (errF_same ec w1 (HL.out.1.later A1.out.2)).mono ?_
  rintro e w2 ⟨rfl, hb⟩
  have A2 : Hid (CA w2 w.heap.size P (start n) fp1 ∧ Below w.heap.size w w2) := ⟨ca_lat2 A1.out.1 hb, A1.out.2.trans (hb.mono A1.out.2.size)⟩
  clear hb A1
  rw [eec]
  clear eec
  go_wp2_with fail
  refine (castNew n HL.out.2.2.1 HL.out.2.2.2 w2).mono ?_
  rintro e w3 ⟨C, d0, rfl, hG, hb⟩
  have P1 : Hid (PA w P C w3) := by
    have hG' : RG w3 w.heap.size C (start n) d0 := hG.mono A2.out.2.size
    exact ⟨start n, d0, fp1, ca_lat2 A2.out.1 hb, hG', (start_gi HL.out.2.2.1 HL.out.2.2.2).1, fun b h1 h2 => by
      have q1 := (A2.out.1.fp b h1).2
      have q2 := (hG.fp h2).1
      omega, A2.out.2.trans (hb.mono A2.out.2.size)⟩
  clear hG hb A2
  go_wp2_with fail
  go_loopw [10] (fun x wr => ∃ i : Nat, i ≤ len ∧ x = .int .i64 (i : Int) ∧ Hid (PA w P C wr)) (fun x _ => len - (intOf x).toNat)
  case atStart => exact ⟨0, by omega, rfl, P1⟩
  case round =>
    obtain ⟨i, hi, rfl, hR⟩ := hrel
    by_cases hlt : i < len
    · have hi0 : (0 : Int) ≤ (i : Int) := by omega
      have hil : (i : Int) < (len : Int) := by omega
      by_cases h120 : (i : Int) < 120
      · obtain ⟨wo, ewo⟩ : ∃ wo, wo = wr := ⟨_, rfl⟩
        subst ewo
        obtain ⟨g, d, fp, hp⟩ := hR.out
        have R : Hid (PC w P C g d fp wo) := hp
        clear hp hR
        have hRw := HL.out.2.1.later R.out.2.2.2.2
        obtain ⟨b, off, rfl, hbl, hcs⟩ := hRw.2.2 (by omega)
        obtain ⟨qi, ci, x0, hvi, hmi⟩ := hcs i hlt
        obtain ⟨li, eli⟩ : ∃ li, li = (ls.getD i []).length := ⟨_, rfl⟩
        rw [← eli] at x0 hvi hmi
        have XV : Hid (wo.cell? ⟨b, off + i, none⟩ = some (.slice qi li ci) ∧ b < wo.heap.size ∧ Vw wo qi li (ls.getD i [])) := ⟨x0, hbl, hvi⟩
        unfold maxLen at hmi
        clear hRw hcs hvi eli hbl
        obtain ⟨W2, eW2⟩ : ∃ W2, W2 = wo.alloc (.cells #[.int .i64 0, .int .i64 0, .int .i64 0] 31) := ⟨_, rfl⟩
        have A1 : Hid (R3n wo W2) := by
          refine ⟨fun _ => 0, ?_, ?_⟩
          · rw [eW2]
            exact World.rowIs_alloc wo _ 31 (fun _ => .int .i64 0) (fun i hi => by
              rcases i with _ | _ | _ | i <;> first | rfl | (exfalso; have : _ < 3 := hi; omega))
          · rw [eW2]; exact (Below.refl _ _).alloc (Nat.le_refl _) _
        clear x0
        go_upto_block 2 with fail
        rw [← eW2]
        clear eW2
        go_cut [12] from 41 to 195 (fun x wc => Hid (R3n wo wc))
        case first =>
          rename_i J KK hJ hKK
          refine cin_any b off len cap i li ls qi ci wo W2 hi0 hil hmi XV A1 _ _ _ _ _ _ _ _ _ _ _ _ _ _ _ _ _ _ _ _ _ _ _ _ _ _ _ _ _ _ _ _ _ _ _ _ _ _ _ _ _ _ _ _ _ _ _ _ _ _ _ _ _ _ _ _ _ _ _ _ _ _ _ _ _ _ _ _ _ _ _ _ _ _ _ _ _ _ _ _ _ _ _ _ _ _ _ _ _ _ _ _ _ _ _ _ _ _ _ _ _ _ _ _ _ _ _ _ _ _ _ _ _ _ _ _ _ _ _ _ _ _ _ _ _ _ _ _ _ _ _ _ _ _ _ _ _ _ _ _ _ _ _ _ _ _ _ _ _ _ _ _ _ _ _ _ _ _ _ _ _ _ _ _ _ _ _ _ _ _ _ _ _ _ _ _ _ _ _ _ _ _ _ _ _ _ _ _ _ _ _ _ _ ?_
          intro s12 s41 s42 s43 s44 s45 s46 s47 s48 s49 s50 s51 s52 s53 s54 s55 s56 s57 s58 s59 s60 s61 s62 s63 s64 s65 s66 s67 s68 s69 s70 s71 s72 s73 s74 s75 s76 s77 s78 s79 s80 s81 s82 s83 s84 s85 s86 s87 s88 s89 s90 s91 s92 s93 s94 s95 s96 s97 s98 s99 s100 s101 s102 s103 s104 s105 s106 s107 s108 s109 s110 s111 s112 s113 s114 s115 s116 s117 s118 s119 s120 s121 s122 s123 s124 s125 s126 s127 s128 s129 s130 s131 s132 s133 s134 s135 s136 s137 s138 s139 s140 s141 s142 s143 s144 s145 s146 s147 s148 s149 s150 s151 s152 s153 s154 s155 s156 s157 s158 s159 s160 s161 s162 s163 s164 s165 s166 s167 s168 s169 s170 s171 s172 s173 s174 s175 s176 s177 s178 s179 s180 s181 s182 s183 s184 s185 s186 s187 s188 s189 s190 s191 s192 s193 s194 s195 wz hz
          refine hKK _ _ (Met.intro (hJ _ _ ?_))
          (repeat apply Exists.intro)
          refine ⟨?rel, rfl⟩
          case rel => exact hz
        case rest =>
          obtain ⟨f, hf, hb⟩ := hcut.out
          obtain ⟨k0, e0⟩ : ∃ k, k = f 0 := ⟨_, rfl⟩
          obtain ⟨k1, e1⟩ : ∃ k, k = f 1 := ⟨_, rfl⟩
          obtain ⟨k2, e2⟩ : ∃ k, k = f 2 := ⟨_, rfl⟩
          have G2 : Hid (PC w P C g d fp wc ∧ V3 wc wo.heap.size k0 k1 k2 ∧ Vap wo.heap.size C g d fp) := by
            refine ⟨R.out.later hb, ⟨World.rowIs.lt hf, ?_, ?_, ?_⟩, fun e => ?_, fun e => ?_⟩
            · rw [e0]; exact World.rowIs.cell hf (i := 0) (by omega)
            · rw [e1]; exact World.rowIs.cell hf (i := 1) (by omega)
            · rw [e2]; exact World.rowIs.cell hf (i := 2) (by omega)
            · have := (R.out.2.1.fp e).2; omega
            · have := (R.out.1.fp _ e).2; omega
          obtain ⟨V, eV⟩ : ∃ V, V = wo.heap.size := ⟨_, rfl⟩
          rw [← eV] at G2 ⊢
          clear hf hb e0 e1 e2 hcut eV
          obtain ⟨w2, ew2⟩ : ∃ w2, w2 = wc := ⟨_, rfl⟩
          subst ew2
          obtain ⟨_, y0, y1, y2⟩ := G2.out.2.1
          obtain ⟨q, cp, eq⟩ := own_form G2.out.1.2.1.rn.own
          obtain ⟨l, el⟩ : ∃ l, l = g.l := ⟨_, rfl⟩
          obtain ⟨Q, eQ⟩ : ∃ Q, Q = d.Q := ⟨_, rfl⟩
          obtain ⟨nn, en⟩ : ∃ nn, nn = l.length := ⟨_, rfl⟩
          obtain ⟨x0, x1, -⟩ := G2.out.1.2.1.view
          rw [← eQ] at x0 x1
          rw [eq, ← el, ← en] at x1
          have EN : Hid (nn = l.length ∧ l = g.l) := ⟨en, el⟩
          clear en el eq eQ
          go_upto_region 18 with fail
          go_cut [13] from 41 to 195 (fun x wx => x = .bool (isIn l k1) ∧ Hid (∃ m, wx = w2.drewN m))
          case first =>
            by_cases h1 : k1 < 0
            · have d1 : decide ((0 : Int) ≤ k1) = false := by simp; omega
              go_quiet (fail)
              go_wp2_with fail
              go_meet
              case rel => exact ⟨by rw [show isIn l k1 = false by simp [isIn]; omega], _, rfl⟩
            · have d1 : decide ((0 : Int) ≤ k1) = true := by simp; omega
              by_cases h2 : k1 < (nn : Int)
              · have d2 : decide (k1 < (nn : Int)) = true := by simp; omega
                go_quiet (fail)
                go_wp2_with fail
                go_meet
                case rel => exact ⟨by rw [show isIn l k1 = true by have := EN.out.1; simp [isIn]; omega], _, rfl⟩
              · have d2 : decide (k1 < (nn : Int)) = false := by simp; omega
                go_quiet (fail)
                go_wp2_with fail
                go_meet
                case rel => exact ⟨by rw [show isIn l k1 = false by have := EN.out.1; simp [isIn]; omega], _, rfl⟩
          case rest =>
            obtain ⟨rfl, hx⟩ := hcut
            obtain ⟨w3', ew3⟩ : ∃ w3', w3' = wc := ⟨_, rfl⟩
            subst ew3
            have G3 : Hid (PC w P C g d fp w3' ∧ V3 w3' V k0 k1 k2 ∧ Vap V C g d fp) := by
              obtain ⟨m, e⟩ := hx.out
              have b : Below w2.heap.size w2 w3' := by rw [e]; exact below_drews (Below.refl _ _) m
              exact ⟨G2.out.1.later b, G2.out.2.1.later b, G2.out.2.2⟩
            clear hx y0 y1 y2 x0 x1
            rw [EN.out.2]
            obtain ⟨_, y0, y1, y2⟩ := G3.out.2.1
            go_upto_block 4 with fail
            go_cut [5, 8, 13, 14, 15, 16, 17] from 41 to 195 (fun x5 x8 x13 x14 x15 x16 x17 wz => x8 = .bool true ∧ Hid (PA w P C wz))
            case first =>
              rename_i J KK hJ hKK
              refine cw_any w P C V g d fp k0 k1 k2 w3' HL.out.1 G3 _ _ _ _ _ _ _ _ _ _ _ _ _ _ _ _ _ _ _ _ _ _ _ _ _ _ _ _ _ _ _ _ _ _ _ _ _ _ _ _ _ _ _ _ _ _ _ _ _ _ _ _ _ _ _ _ _ _ _ _ _ _ _ _ _ _ _ _ _ _ _ _ _ _ _ _ _ _ _ _ _ _ _ _ _ _ _ _ _ _ _ _ _ _ _ _ _ _ _ _ _ _ _ _ _ _ _ _ _ _ _ _ _ _ _ _ _ _ _ _ _ _ _ _ _ _ _ _ _ _ _ _ _ _ _ _ _ _ _ _ _ _ _ _ _ _ _ _ _ _ _ _ _ _ _ _ _ _ _ _ _ _ _ _ _ _ _ _ _ _ _ _ _ _ _ _ _ _ _ _ _ _ _ _ _ _ _ _ _ _ _ ?_
              intro s5 s13 s14 s15 s16 s17 s41 s42 s43 s44 s45 s46 s47 s48 s49 s50 s51 s52 s53 s54 s55 s56 s57 s58 s59 s60 s61 s62 s63 s64 s65 s66 s67 s68 s69 s70 s71 s72 s73 s74 s75 s76 s77 s78 s79 s80 s81 s82 s83 s84 s85 s86 s87 s88 s89 s90 s91 s92 s93 s94 s95 s96 s97 s98 s99 s100 s101 s102 s103 s104 s105 s106 s107 s108 s109 s110 s111 s112 s113 s114 s115 s116 s117 s118 s119 s120 s121 s122 s123 s124 s125 s126 s127 s128 s129 s130 s131 s132 s133 s134 s135 s136 s137 s138 s139 s140 s141 s142 s143 s144 s145 s146 s147 s148 s149 s150 s151 s152 s153 s154 s155 s156 s157 s158 s159 s160 s161 s162 s163 s164 s165 s166 s167 s168 s169 s170 s171 s172 s173 s174 s175 s176 s177 s178 s179 s180 s181 s182 s183 s184 s185 s186 s187 s188 s189 s190 s191 s192 s193 s194 s195 wz hz
              refine hKK _ _ (Met.intro (hJ _ _ ?_))
              (repeat apply Exists.intro)
              refine ⟨?rel, rfl⟩
              case rel => exact ⟨rfl, hz⟩
            case rest =>
              obtain ⟨rfl, hx⟩ := hcut
              obtain ⟨g', d', fp', hp⟩ := hx.out
              have PT : Hid (PC w P C g' d' fp' wc) := hp
              have VR := hp.2.1.view
              obtain ⟨Q, eQ⟩ : ∃ Q, Q = d'.Q := ⟨_, rfl⟩
              obtain ⟨q', c', e'⟩ := own_form hp.2.1.rn.own
              obtain ⟨qh, ch, eh⟩ := own_form hp.2.1.evs
              have EQ : Hid (Q = d'.Q ∧ d'.vN = .slice q' g'.l.length c' ∧ d'.vH = .slice qh g'.H.length ch) := ⟨eQ, e', eh⟩
              obtain ⟨nl, enl⟩ : ∃ nl, nl = g'.l.length := ⟨_, rfl⟩
              obtain ⟨nh, enh⟩ : ∃ nh, nh = g'.H.length := ⟨_, rfl⟩
              rw [← eQ, e', eh, ← enl, ← enh] at VR
              rw [← enl, ← enh] at EQ
              have EN : Hid (nl = g'.l.length ∧ nh = g'.H.length) := ⟨enl, enh⟩
              have LT : Hid (Q < wc.heap.size ∧ C < wc.heap.size) := ⟨by rw [eQ]; exact World.rowIs.lt hp.2.1.rn.row, World.rowIs.lt hp.2.1.row⟩
              obtain ⟨x0, x1, x2⟩ := VR
              have HS : Hid (∀ X Y : World, Below wc.heap.size wc Y → X.heap = Y.heap → X.cell? ⟨C, 1, none⟩ = some (.pointer (some ⟨Q, 0, none⟩)) ∧ X.cell? ⟨Q, 0, none⟩ = some (.slice q' nl c') ∧ X.cell? ⟨C, 96, none⟩ = some (.slice qh nh ch)) := fun X Y hb e => by
                have k : ∀ p : Addr, p.block < wc.heap.size → X.cell? p = wc.cell? p := fun p hp => (cell_heap e p).trans (hb.cell (p := p) hp)
                exact ⟨(k _ LT.out.2).trans x0, (k _ LT.out.1).trans x1, (k _ LT.out.2).trans x2⟩
              have OWN : Hid (Po wc w.heap.size (.slice q' nl c') g'.l) := by rw [← EQ.out.2.1]; exact hp.2.1.rn.own
              have OWH : Hid (wc.ownsRow w.heap.size 82 3 (.slice qh nh ch) g'.H.length (Net.flat g'.H)) := by rw [← EQ.out.2.2]; exact hp.2.1.evs
              have DC : Hid (Below wc.heap.size wc wc) := Below.refl _ _
              clear hp hx eQ e' eh enl enh y0 y1 y2
              go_wp2_with fail
              go_region_held3 (fun X => X.cell? ⟨C, 1, none⟩ = some (.pointer (some ⟨Q, 0, none⟩)) ∧ X.cell? ⟨Q, 0, none⟩ = some (.slice q' nl c') ∧ X.cell? ⟨C, 96, none⟩ = some (.slice qh nh ch)) (first | exact HS.out _ _ DZ.out rfl | exact HS.out _ _ DH.out rfl | exact HS.out _ _ DU.out rfl | exact HS.out _ _ DT.out rfl | exact HS.out _ _ DC.out rfl) (first
                | (go_at_call 17; refine (onwayC_any w.heap.size P g' fp' _ (by exact PT.out.1.of_blocks (Nat.le_refl _) (fun _ _ => rfl)) PT.out.2.2.1).mono ?_; rintro e wT ⟨u, rfl, hP, hb⟩; obtain ⟨qu, cu, rfl⟩ := own_form hP; have DT : Hid (Below wc.heap.size wc wT) := below_same hb rfl rfl rfl rfl; have PU : Hid (Po wT wc.heap.size (.slice qu g'.l.length cu) g'.l) := hP; clear hP hb)
                | (go_at_call 16; refine (packets_same wc.heap.size w.heap.size _ _ g'.l _ (by exact PU.out) (by exact own_lat OWN.out DT.out) PT.out.2.2.1.net.len).mono ?_; rintro e wU ⟨rfl, mU, eU⟩; have DU : Hid (Below wc.heap.size wc wU) := (by rw [eU]; exact ⟨DT.out.os, DT.out.tape, DT.out.output, DT.out.size, DT.out.block⟩); clear eU)
                | (go_at_call 19; refine (histC_any w.heap.size P g' fp' _ (by exact (ca_lat2 PT.out.1 DU.out).of_blocks (Nat.le_refl _) (fun _ _ => rfl)) PT.out.2.2.1).mono ?_; rintro e wH ⟨uh, rfl, hP, hb⟩; obtain ⟨qv, cv, rfl⟩ := own_form hP; have DH : Hid (Below wc.heap.size wc wH) := DU.out.trans ((below_same (w := wU) hb rfl rfl rfl rfl).mono DU.out.size); have PH : Hid (wH.ownsRow wU.heap.size 82 3 (.slice qv g'.H.length cv) g'.H.length (Net.flat g'.H)) := hP; clear hP hb)
                | (go_at_call 18; refine (events_same wU.heap.size w.heap.size _ _ g'.H _ (by exact PH.out) (by exact own_lat OWH.out DH.out) (len60 PT.out.2.2.1)).mono ?_; rintro e wZ ⟨rfl, mZ, eZ⟩; have DZ : Hid (Below wc.heap.size wc wZ) := (by rw [eZ]; exact ⟨DH.out.os, DH.out.tape, DH.out.output, DH.out.size, DH.out.block⟩); clear eZ))
              go_wp2
              go_roundw
              case rel => exact ⟨i + 1, by omega, by go_num, g', d', fp', PT.out.later DZ.out⟩
              case measure => simp [intOf]; omega
      · have d120 : decide ((i : Int) < 120) = false := by simp; omega
        go_wp2
        go_ret
        obtain ⟨g, d, fp, q⟩ := hR.out
        exact ⟨rfl, q.2.2.2.2⟩
    · have dl : decide ((i : Int) < (len : Int)) = false := by simp; omega
      go_wp2
      go_ret
      obtain ⟨g, d, fp, q⟩ := hR.out
      exact ⟨rfl, q.2.2.2.2⟩
theorem cps_any (n : Int) (a : Option Addr) (len cap : Nat) (ls : List (List Int)) (w : World) (hL : Laid w) (hv : Rw w a len ls) :
    Calls Tryd.prog 3 #[.int .i64 n, .slice a len cap] w fun e w' => e = .returned (.bool true) ∧ Below w.heap.size w w' := by
  by_cases h : n < 2 ∨ 5 < n
  · exact cps_bad n a len cap w hL h
  · obtain ⟨m, rfl⟩ : ∃ m : Nat, n = (m : Int) := ⟨n.toNat, by omega⟩
    exact cps_ok m a len cap ls w hL hv (by omega) (by omega)
end Go.Proofs.YtgnffanlgmbieaeDoor.Cas
