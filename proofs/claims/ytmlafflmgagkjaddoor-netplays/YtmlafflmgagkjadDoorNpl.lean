/-
  The walk of NetPlays: anything that is sent, given, dropped, doubled, cut: what is refused, what is on its way, are what the document tells.
-/
import Derived.Test.YtmlafflmgagkjadDoorNplA
import Derived.Test.YtmlafflmgagkjadDoorNplI
namespace Go.Proofs.YtmlafflmgagkjadDoor.Net
open Go.RowKit
open Go.Proofs.YtmlafflmgagkjadDoor.As (Laid)
open Go.Proofs.YtmlafflmgagkjadDoor.Vec (Vw Rw)
open Go.Proofs.YtmlafflmgagkjadDoor.Fif (own_lt own_block own_form own_mono Kp ret_bool)
set_option linter.unusedVariables false

set_option maxRecDepth 100000 in
set_option maxHeartbeats 4000000 in
theorem nplays_walk (a : Option Addr) (len cap : Nat) (ls : List (List Int)) (w : World) (hL : Laid w) (hv : Rw w a len ls) :
    Calls Tryd.prog 6 #[.slice a len cap] w fun e w' => e = .returned (.bool true) ∧ Below w.heap.size w w' := by
  have HL : Hid (Laid w ∧ Rw w a len ls) := ⟨hL, hv⟩
  have hmx := hv.2.1
  unfold maxLen at hmx
  clear hL hv
  go_enter Tryd.func6, Tryd.ntmps6
  go_wp2_with fail
  refine (newN w).mono ?_
  rintro e w1 ⟨P, fp1, rfl, hN, hB⟩
  have S1 : Hid (NS w1 w.heap.size P (fun _ _ => false) [] fp1 ∧ Below w.heap.size w w1) := ⟨hN, hB⟩
  clear hN hB
  go_wp2
  obtain ⟨W1, eW1⟩ : ∃ W1, W1 = w1.alloc (.cells #[.slice none 0 0, .bool false, .bool false, .bool false, .bool false, .bool false, .bool false, .bool false, .bool false, .bool false, .bool false, .bool false, .bool false, .bool false, .bool false, .bool false, .bool false, .bool false, .bool false, .bool false, .bool false, .bool false, .bool false, .bool false, .bool false, .bool false] 67) := ⟨_, rfl⟩
  rw [← eW1]
  obtain ⟨Q, eQ⟩ : ∃ Q, Q = w1.heap.size := ⟨_, rfl⟩
  have P1 : Hid (PA w P Q W1) := by
    have ba : Below w1.heap.size w1 W1 := by rw [eW1]; exact (Below.refl _ _).alloc (Nat.le_refl _) _
    refine ⟨fun _ _ => false, [], .slice none 0 0, fp1, ns_later S1.out.1 ba, ⟨?_, World.ownsRow_nil _ _ _ _, by rw [eQ]; exact S1.out.2.size⟩, NInv.start, fun b hb => ⟨by rw [eQ]; exact Nat.ne_of_lt (S1.out.1.fp b hb).2, by simp [Value.ownBlock]⟩, S1.out.2.trans (ba.mono S1.out.2.size)⟩
    rw [eW1, eQ]
    exact World.rowIs_alloc w1 _ 67 (rnv (fun _ _ => false) (.slice none 0 0)) (fun i hi => by
      rcases i with _ | _ | _ | _ | _ | _ | _ | _ | _ | _ | _ | _ | _ | _ | _ | _ | _ | _ | _ | _ | _ | _ | _ | _ | _ | _ | i <;> first | rfl | (exfalso; have : _ < 26 := hi; omega))
  rw [← eQ]
  clear eW1 eQ S1
  go_loopw [5] (fun x wr => ∃ i : Nat, i ≤ len ∧ x = .int .i64 (i : Int) ∧ Hid (PA w P Q wr)) (fun x _ => len - (intOf x).toNat)
  case atStart => exact ⟨0, by omega, rfl, P1⟩
  case round =>
    obtain ⟨i, hi, rfl, hR⟩ := hrel
    by_cases hlt : i < len
    · have hi0 : (0 : Int) ≤ (i : Int) := by omega
      have hil : (i : Int) < (len : Int) := by omega
      by_cases h120 : (i : Int) < 120
      · obtain ⟨wo, ewo⟩ : ∃ wo, wo = wr := ⟨_, rfl⟩
        subst ewo
        obtain ⟨no, l, v, fp, hp⟩ := hR.out
        have R : Hid (PN w P Q no l v fp wo) := hp
        clear hp hR
        have hRw := HL.out.2.later R.out.2.2.2.2
        obtain ⟨b, off, rfl, hbl, hcs⟩ := hRw.2.2 (by omega)
        obtain ⟨qi, ci, x0, hvi, hmi⟩ := hcs i hlt
        obtain ⟨li, eli⟩ : ∃ li, li = (ls.getD i []).length := ⟨_, rfl⟩
        rw [← eli] at x0 hvi hmi
        have XV : Hid (wo.cell? ⟨b, off + i, none⟩ = some (.slice qi li ci) ∧ b < wo.heap.size ∧ Vw wo qi li (ls.getD i [])) := ⟨x0, hbl, hvi⟩
        unfold maxLen at hmi
        clear hRw hcs hvi eli hbl
        obtain ⟨W2, eW2⟩ : ∃ W2, W2 = wo.alloc (.cells #[.int .i64 0, .int .i64 0, .int .i64 0, .int .i64 0] 68) := ⟨_, rfl⟩
        have A1 : Hid (R4 wo W2) := by
          refine ⟨fun _ => 0, ?_, ?_⟩
          · rw [eW2]
            exact World.rowIs_alloc wo _ 68 (fun _ => .int .i64 0) (fun i hi => by
              rcases i with _ | _ | _ | _ | i <;> first | rfl | (exfalso; have : _ < 4 := hi; omega))
          · rw [eW2]; exact (Below.refl _ _).alloc (Nat.le_refl _) _
        clear x0
        go_upto_block 2 with fail
        rw [← eW2]
        clear eW2
        go_cut [7] from 19 to 215 (fun x wc => Hid (R4 wo wc))
        case first =>
          rename_i J KK hJ hKK
          refine inner_any b off len cap i li ls qi ci wo W2 hi0 hil hmi XV A1 _ _ _ _ _ _ _ _ _ _ _ _ _ _ _ _ _ _ _ _ _ _ _ _ _ _ _ _ _ _ _ _ _ _ _ _ _ _ _ _ _ _ _ _ _ _ _ _ _ _ _ _ _ _ _ _ _ _ _ _ _ _ _ _ _ _ _ _ _ _ _ _ _ _ _ _ _ _ _ _ _ _ _ _ _ _ _ _ _ _ _ _ _ _ _ _ _ _ _ _ _ _ _ _ _ _ _ _ _ _ _ _ _ _ _ _ _ _ _ _ _ _ _ _ _ _ _ _ _ _ _ _ _ _ _ _ _ _ _ _ _ _ _ _ _ _ _ _ _ _ _ _ _ _ _ _ _ _ _ _ _ _ _ _ _ _ _ _ _ _ _ _ _ _ _ _ _ _ _ _ _ _ _ _ _ _ _ _ _ _ _ _ _ _ _ _ _ _ _ _ _ _ _ _ _ _ _ _ _ _ _ _ _ ?_
          intro s7 s19 s20 s21 s22 s23 s24 s25 s26 s27 s28 s29 s30 s31 s32 s33 s34 s35 s36 s37 s38 s39 s40 s41 s42 s43 s44 s45 s46 s47 s48 s49 s50 s51 s52 s53 s54 s55 s56 s57 s58 s59 s60 s61 s62 s63 s64 s65 s66 s67 s68 s69 s70 s71 s72 s73 s74 s75 s76 s77 s78 s79 s80 s81 s82 s83 s84 s85 s86 s87 s88 s89 s90 s91 s92 s93 s94 s95 s96 s97 s98 s99 s100 s101 s102 s103 s104 s105 s106 s107 s108 s109 s110 s111 s112 s113 s114 s115 s116 s117 s118 s119 s120 s121 s122 s123 s124 s125 s126 s127 s128 s129 s130 s131 s132 s133 s134 s135 s136 s137 s138 s139 s140 s141 s142 s143 s144 s145 s146 s147 s148 s149 s150 s151 s152 s153 s154 s155 s156 s157 s158 s159 s160 s161 s162 s163 s164 s165 s166 s167 s168 s169 s170 s171 s172 s173 s174 s175 s176 s177 s178 s179 s180 s181 s182 s183 s184 s185 s186 s187 s188 s189 s190 s191 s192 s193 s194 s195 s196 s197 s198 s199 s200 s201 s202 s203 s204 s205 s206 s207 s208 s209 s210 s211 s212 s213 s214 s215 wz hz
          refine hKK _ _ (Met.intro (hJ _ _ ?_))
          (repeat apply Exists.intro)
          refine ⟨?rel, rfl⟩
          case rel => exact hz
        case rest =>
          obtain ⟨f, hf, hb⟩ := hcut.out
          obtain ⟨k0, e0⟩ : ∃ k, k = f 0 := ⟨_, rfl⟩
          obtain ⟨k1, e1⟩ : ∃ k, k = f 1 := ⟨_, rfl⟩
          obtain ⟨k2, e2⟩ : ∃ k, k = f 2 := ⟨_, rfl⟩
          obtain ⟨k3, e3⟩ : ∃ k, k = f 3 := ⟨_, rfl⟩
          have G2 : Hid (PN w P Q no l v fp wc ∧ V4 wc wo.heap.size k0 k1 k2 k3 ∧ Vap wo.heap.size Q v fp) := by
            refine ⟨R.out.later hb, ⟨World.rowIs.lt hf, ?_, ?_, ?_, ?_⟩, ?_, fun e => ?_, fun e => ?_⟩
            · rw [e0]; exact World.rowIs.cell hf (i := 0) (by omega)
            · rw [e1]; exact World.rowIs.cell hf (i := 1) (by omega)
            · rw [e2]; exact World.rowIs.cell hf (i := 2) (by omega)
            · rw [e3]; exact World.rowIs.cell hf (i := 3) (by omega)
            · have := World.rowIs.lt R.out.2.1.row; omega
            · have := (own_lt R.out.2.1.own _ e).2; omega
            · have := (R.out.1.fp _ e).2; omega
          obtain ⟨V, eV⟩ : ∃ V, V = wo.heap.size := ⟨_, rfl⟩
          rw [← eV] at G2 ⊢
          clear hf hb e0 e1 e2 e3 hcut eV
          obtain ⟨w2, ew2⟩ : ∃ w2, w2 = wc := ⟨_, rfl⟩
          subst ew2
          obtain ⟨_, y0, y1, y2, y3⟩ := G2.out.2.1
          obtain ⟨q, cp, rfl⟩ := own_form G2.out.1.2.1.own
          obtain ⟨c0, z0⟩ := G2.out.1.2.1.all
          obtain ⟨n, en⟩ : ∃ n, n = l.length := ⟨_, rfl⟩
          rw [← en] at c0 G2
          have EN : Hid (n = l.length) := en
          clear en
          go_upto_region 13 with fail
          go_cut [10] from 19 to 215 (fun x wx => x = .bool (isIn l k1) ∧ Hid (∃ m, wx = w2.drewN m))
          case first =>
            by_cases h1 : k1 < 0
            · have d1 : decide ((0 : Int) ≤ k1) = false := by simp; omega
              go_quiet (fail)
              go_wp2_with fail
              go_meet
              case rel => exact ⟨by rw [show isIn l k1 = false by simp [isIn]; omega], _, rfl⟩
            · have d1 : decide ((0 : Int) ≤ k1) = true := by simp; omega
              by_cases h2 : k1 < (n : Int)
              · have d2 : decide (k1 < (n : Int)) = true := by simp; omega
                go_quiet (fail)
                go_wp2_with fail
                go_meet
                case rel => exact ⟨by rw [show isIn l k1 = true by have := EN.out; simp [isIn]; omega], _, rfl⟩
              · have d2 : decide (k1 < (n : Int)) = false := by simp; omega
                go_quiet (fail)
                go_wp2_with fail
                go_meet
                case rel => exact ⟨by rw [show isIn l k1 = false by have := EN.out; simp [isIn]; omega], _, rfl⟩
          case rest =>
            obtain ⟨rfl, hx⟩ := hcut
            obtain ⟨w3, ew3⟩ : ∃ w3, w3 = wc := ⟨_, rfl⟩
            subst ew3
            have G3 : Hid (PN w P Q no l (.slice q n cp) fp w3 ∧ V4 w3 V k0 k1 k2 k3 ∧ Vap V Q (.slice q n cp) fp) := by
              obtain ⟨m, e⟩ := hx.out
              have b : Below w2.heap.size w2 w3 := by rw [e]; exact below_drews (Below.refl _ _) m
              exact ⟨G2.out.1.later b, G2.out.2.1.later b, G2.out.2.2⟩
            clear hx y0 y1 y2 y3 c0 z0
            obtain ⟨_, y0, y1, y2, y3⟩ := G3.out.2.1
            obtain ⟨c0, z0⟩ := G3.out.1.2.1.all
            go_upto_block 4 with fail
            go_cut [8, 9, 10, 11, 12, 13, 14, 15] from 19 to 215 (fun x8 x9 x10 x11 x12 x13 x14 x15 wz => x9 = .bool true ∧ Hid (PA w P Q wz))
            case first =>
              rename_i J KK hJ hKK
              refine sw_any w P Q V no l q n cp fp k0 k1 k2 k3 w3 HL.out.1 EN G3 _ _ _ _ _ _ _ _ _ _ _ _ _ _ _ _ _ _ _ _ _ _ _ _ _ _ _ _ _ _ _ _ _ _ _ _ _ _ _ _ _ _ _ _ _ _ _ _ _ _ _ _ _ _ _ _ _ _ _ _ _ _ _ _ _ _ _ _ _ _ _ _ _ _ _ _ _ _ _ _ _ _ _ _ _ _ _ _ _ _ _ _ _ _ _ _ _ _ _ _ _ _ _ _ _ _ _ _ _ _ _ _ _ _ _ _ _ _ _ _ _ _ _ _ _ _ _ _ _ _ _ _ _ _ _ _ _ _ _ _ _ _ _ _ _ _ _ _ _ _ _ _ _ _ _ _ _ _ _ _ _ _ _ _ _ _ _ _ _ _ _ _ _ _ _ _ _ _ _ _ _ _ _ _ _ _ _ _ _ _ _ _ _ _ _ _ _ _ _ _ _ _ _ _ _ _ _ _ _ _ _ ?_
              intro s8 s10 s11 s12 s13 s14 s15 s19 s20 s21 s22 s23 s24 s25 s26 s27 s28 s29 s30 s31 s32 s33 s34 s35 s36 s37 s38 s39 s40 s41 s42 s43 s44 s45 s46 s47 s48 s49 s50 s51 s52 s53 s54 s55 s56 s57 s58 s59 s60 s61 s62 s63 s64 s65 s66 s67 s68 s69 s70 s71 s72 s73 s74 s75 s76 s77 s78 s79 s80 s81 s82 s83 s84 s85 s86 s87 s88 s89 s90 s91 s92 s93 s94 s95 s96 s97 s98 s99 s100 s101 s102 s103 s104 s105 s106 s107 s108 s109 s110 s111 s112 s113 s114 s115 s116 s117 s118 s119 s120 s121 s122 s123 s124 s125 s126 s127 s128 s129 s130 s131 s132 s133 s134 s135 s136 s137 s138 s139 s140 s141 s142 s143 s144 s145 s146 s147 s148 s149 s150 s151 s152 s153 s154 s155 s156 s157 s158 s159 s160 s161 s162 s163 s164 s165 s166 s167 s168 s169 s170 s171 s172 s173 s174 s175 s176 s177 s178 s179 s180 s181 s182 s183 s184 s185 s186 s187 s188 s189 s190 s191 s192 s193 s194 s195 s196 s197 s198 s199 s200 s201 s202 s203 s204 s205 s206 s207 s208 s209 s210 s211 s212 s213 s214 s215 wz hz
              refine hKK _ _ (Met.intro (hJ _ _ ?_))
              (repeat apply Exists.intro)
              refine ⟨?rel, rfl⟩
              case rel => exact ⟨rfl, hz⟩
            case rest =>
              obtain ⟨rfl, hx⟩ := hcut
              obtain ⟨no', l', v', fp', hp⟩ := hx.out
              obtain ⟨q', c', rfl⟩ := own_form hp.2.1.own
              have PT : Hid (PN w P Q no' l' (.slice q' l'.length c') fp' wc) := hp
              have QL : Hid (Q < wc.heap.size) := World.rowIs.lt hp.2.1.row
              obtain ⟨cQ, zQ⟩ := hp.2.1.all
              clear hp hx y0 y1 y2 y3 c0 z0
              go_wp2_with fail
              go_region_held3 (fun w' => w'.cell? ⟨Q, 0, none⟩ = some (.slice q' l'.length c')) (first | exact cT | exact cQ) (first
                | (go_at_call 22; refine (allN w.heap.size P no' l' fp' _ (by exact PT.out.1.of_blocks (Nat.le_refl _) (fun _ _ => rfl)) PT.out.2.2.1).mono ?_; rintro e wT ⟨u, rfl, hP, hb⟩; obtain ⟨qu, cu, rfl⟩ := hP.len; have DT : Hid (Below wc.heap.size wc wT) := below_same hb rfl rfl rfl rfl; have PU : Hid (Po wT wc.heap.size (.slice qu l'.length cu) l') := hP; have cT := (DT.out.cell (p := ⟨Q, 0, none⟩) QL.out).trans cQ; clear hP hb)
                | (go_at_call 28; refine (packets_same wc.heap.size w.heap.size _ _ l' _ (by exact PU.out) (by exact (PT.out.2.1.later DT.out).own) PT.out.2.2.1.len).mono ?_; rintro e wU ⟨rfl, mU, rfl⟩))
              go_wp2
              go_roundw
              case rel => exact ⟨i + 1, by omega, by go_num, no', l', _, fp', (PT.out.later DT.out).later (below_drews (Below.refl _ _) mU)⟩
              case measure => simp [intOf]; omega
      · have d120 : decide ((i : Int) < 120) = false := by simp; omega
        go_wp2
        go_ret
        obtain ⟨no, l, v, fp, q⟩ := hR.out
        exact ⟨rfl, q.2.2.2.2⟩
    · have dl : decide ((i : Int) < (len : Int)) = false := by simp; omega
      go_wp2
      go_ret
      obtain ⟨no, l, v, fp, q⟩ := hR.out
      exact ⟨rfl, q.2.2.2.2⟩
end Go.Proofs.YtmlafflmgagkjadDoor.Net
