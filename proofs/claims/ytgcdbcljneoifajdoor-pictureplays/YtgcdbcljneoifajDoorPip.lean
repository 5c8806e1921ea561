/-
  Any gold that is paid and comes, while a picture is taken: the walk of PicturePlays.
-/
import Derived.Test.YtgcdbcljneoifajDoorPipB
import Derived.Test.YtgcdbcljneoifajDoorPipY
import Derived.Test.YtgcdbcljneoifajDoorPipC
import Derived.Test.YtgcdbcljneoifajDoorPipG
import Derived.Test.YtgcdbcljneoifajDoorPipD
import Derived.Deep.CutBlock
import Derived.Deep.CutRange
namespace Go.Proofs.YtgcdbcljneoifajDoor.Pic
open Go.RowKit
open Go.Proofs.YtgcdbcljneoifajDoor.As (Laid)
open Go.Proofs.YtgcdbcljneoifajDoor.Fif (own_lt own_block own_form own_vw ret_bool info_int new_int int_one)
open Go.Proofs.YtgcdbcljneoifajDoor.Vec (Vw Rw)
open Go.Proofs.YtgcdbcljneoifajDoor.Sep (KpL NewL)
open Go.Proofs.YtgcdbcljneoifajDoor.Ldr (errF errF_ok errF_no errF_same Sl same_any)
open Go.Proofs.YtgcdbcljneoifajDoor.Off (OR step_append_off)
set_option linter.unusedVariables false

theorem wayC_n {g g2 : G} (h : g.n = g2.n) (a b : Int) : wayC g a b = wayC g2 a b := by
  have e : ∀ x, inM g x ↔ inM g2 x := by
    intro x
    unfold inM
    rw [h]
  unfold wayC
  simp only [e]
set_option maxRecDepth 100000 in
set_option maxHeartbeats 16000000 in
theorem plays_ok (q : Option Addr) (len cap : Nat) (l : List Int) (a : Option Addr) (len' cap' : Nat) (ls : List (List Int)) (w : World) (hL : Laid w) (hs : Sl w (.slice q len cap) l) (hR : Rw w a len' ls) (hc : newC l = 0) : Calls Tryd.prog 3 #[.slice q len cap, .slice a len' cap'] w fun e w' => e = .returned (.bool true) ∧ Below w.heap.size w w' := by
  obtain ⟨hl, hv, hlc, hcm⟩ := sl_vwP hs
  have h25 := len_start l hc
  have hlm' : len' ≤ maxLen := hR.2.1
  obtain ⟨all, eall⟩ : ∃ all, all = S (fun i => l.getD i 0) l.length := ⟨_, rfl⟩
  have HS : Hid (Sl w (.slice q len cap) l ∧ newC l = 0 ∧ Laid w ∧ len = l.length ∧ Vw w q len l ∧ Rw w a len' ls ∧ Inv all (start l) ∧ all ≤ 5000) := ⟨hs, hc, hL, hl, hv, hR, by rw [eall]; exact Inv.start hc, by
    have z := (Inv.start hc).sum
    have z2 := sum_start l hc h25.1.2
    omega⟩
  have HE : Hid (∀ j, j < len → 0 ≤ l.getD j 0 ∧ l.getD j 0 ≤ 1000) := fun j hj => by
    rw [getDC (by omega)]
    exact h25.2 _ (List.getElem_mem _)
  have d1 : ¬ (len : Int) < 2 := by omega
  have d2 : ¬ (len : Int) > 5 := by omega
  have h5 : len ≤ 5 := by omega
  have h2 : 2 ≤ len := by omega
  obtain ⟨ii, hii, hz0, hz1, hz2⟩ := info_int
  have HJ : Hid (Tryd.prog.info? 3 = some ii ∧ ii.zero = some (.int .i64 0) ∧ ii.size = 1 ∧ ii.bytes = 8) := ⟨hii, hz0, hz1, hz2⟩
  clear hs hc hL hl hv hR h25 eall hlc hcm hii hz0 hz1 hz2
  go_enter Tryd.func3, Tryd.ntmps3
  go_upto_block 0 with fail
  go_cut [5, 6] from 39 to 60 (fun x5 x6 wc => x5 = .int .i64 0 ∧ w = wc)
  case first =>
    go_wp2_with fail
    go_loopw [5, 6] (fun x5 x6 wr => ∃ (i : Nat), i ≤ len ∧ x6 = .int .i64 (i : Int) ∧ x5 = .int .i64 0 ∧ w = wr) (fun _ x6 _ => len - (intOf x6).toNat)
    case atStart => exact ⟨0, by omega, rfl, rfl, rfl⟩
    case round =>
      obtain ⟨i, hi, rfl, rfl, rfl⟩ := hrel
      by_cases hlt : i < len
      · have hlt' : (i : Int) < (len : Int) := by omega
        obtain ⟨b, off, rfl, hpb, hcs⟩ := HS.out.2.2.2.2.1.2 (by omega)
        have c0 := hcs i hlt
        have hy := HE.out i hlt
        obtain ⟨y, ey⟩ : ∃ y, y = l.getD i 0 := ⟨_, rfl⟩
        rw [← ey] at c0 hy
        have hi0 : (0 : Int) ≤ (i : Int) := by omega
        have q1 : ¬ y < 0 := by omega
        have q2 : ¬ y > 1000 := by omega
        clear hcs ey hpb
        go_wp2
        go_roundw
        case rel => exact ⟨i + 1, by omega, by go_num, rfl, by first | rfl | trivial⟩
        case measure => simp [intOf]; omega
      · have hlt' : ¬ (i : Int) < (len : Int) := by omega
        go_wp2
        go_meet
        exact ⟨rfl, by first | rfl | trivial⟩
  case rest =>
    obtain ⟨rfl, rfl⟩ := hcut
    go_wp2_with fail
    refine (newG_ok l q len cap w HS.out.1 HS.out.2.1).mono ?_
    rintro e x1 ⟨P, fp1, rfl, hA, hb⟩
    have O1 : Hid (TS x1 w.heap.size P (start l) fp1 ∧ Below w.heap.size w x1) := ⟨hA, hb⟩
    clear hA hb
    go_wp2_with fail
    refine (errF_same 0 x1 (HS.out.2.2.1.later O1.out.2)).mono ?_
    rintro e x2 ⟨rfl, hb⟩
    have O2 : Hid (TS x2 w.heap.size P (start l) fp1 ∧ Below w.heap.size w x2) := ⟨O1.out.1.later hb, O1.out.2.trans (hb.mono O1.out.2.size)⟩
    clear hb O1
    have hzr := zero_pp
    have hzn := zPp_ne
    obtain ⟨R, eR⟩ : ∃ R, R = x2.heap.size := ⟨_, rfl⟩
    obtain ⟨x3, ex3⟩ : ∃ x3, x3 = x2.alloc (.cells zPp 38) := ⟨_, rfl⟩
    have b3 : Below x2.heap.size x2 x3 := by rw [ex3]; exact (Below.refl _ _).alloc (Nat.le_refl _) _
    have r3 : x3.rowIs R 38 88 (pvv nilP (fun _ => nilP) false (fun _ => false) (fun _ => 0) (fun _ _ => false) 0 (fun _ _ => 0)) := by rw [ex3, eR]; exact zPp_row x2
    have O3 : Hid (R = x2.heap.size ∧ Below x2.heap.size x2 x3 ∧ x3.rowIs R 38 88 (pvv nilP (fun _ => nilP) false (fun _ => false) (fun _ => 0) (fun _ _ => false) 0 (fun _ _ => 0))) := ⟨eR, b3, r3⟩
    have c0 : x3.cell? ⟨R, 0, none⟩ = some (.slice none 0 0) := World.rowIs.cell r3 (i := 0) (by omega)
    have z0 := World.rowIs.frozen r3 0
    have hRl := World.rowIs.lt r3
    obtain ⟨bq, oq, eq, hqb, hqc⟩ := HS.out.2.2.2.2.1.2 (by omega)
    subst eq
    have HC : Hid (∀ j u, (l.map (Value.int .i64))[j]? = some u → x3.cell? ((⟨bq, oq, none⟩ : Addr).add j) = some u) := by
      intro j u hj
      have hjl : j < l.length := by
        have := (List.getElem?_eq_some_iff.1 hj).1
        rwa [List.length_map] at this
      have hb13 : Below w.heap.size w x3 := O2.out.2.trans (b3.mono O2.out.2.size)
      rw [Addr.add_lit]
      refine (hb13.cell (p := ⟨bq, oq + j, none⟩) hqb).trans ?_
      rw [hqc j (by rw [HS.out.2.2.2.1]; exact hjl), ← hj, List.getElem?_map, List.getElem?_eq_getElem hjl, getDC hjl]
      rfl
    clear b3 r3 hqb hqc
    go_upto_region 14 with fail
    rw [← ex3, ← eR]
    clear ex3 eR hzr hzn
    go_upto_block 2 with (at_builtin; refine wpList_append_own _ rfl _ _ 22 rfl x2.heap.size 3 ii (.int .i64 0) 1 8 Tryd.underlying22 HJ.out.1 HJ.out.2.1 HJ.out.2.2.1 HJ.out.2.2.2 rfl (by decide) (.slice none 0 0) 0 [] rfl (World.ownsRow_nil _ _ _ _) ⟨bq, oq, none⟩ len cap (l.map (Value.int .i64)) rfl (by rw [List.length_map, HS.out.2.2.2.1, Nat.mul_one]) HC.out (int_onesP _) (by unfold maxLen; omega) (by omega) (by exact O3.out.2.1.size) ?_; intro v' wn hown hgrow _; obtain ⟨gb, gc, ev, hRP, hgb⟩ := RP.made O3.out.2.2 (by rw [O3.out.1]; exact Nat.le_refl _) hgrow (by rw [Nat.zero_add, List.nil_append, HS.out.2.2.2.1] at hown; exact hown) (by have := HS.out.2.2.2.1; omega); subst ev; have zR : wn.frozen? ⟨R, 0, none⟩ = false := (hgrow.frozen_far ⟨R, 0, none⟩ hRl (fun e => by cases e)).trans z0; have lR : R < wn.heap.size := Nat.lt_of_lt_of_le hRl hgrow.size; have cR : wn.cell? ⟨R, 0, none⟩ = some (.slice none 0 0) := (hgrow.cell_far ⟨R, 0, none⟩ hRl (fun e => by cases e)).trans c0; have HRP : Hid (RP (wn.setCell ⟨R, 0, none⟩ (.slice (some ⟨gb, 0, none⟩) l.length gc)) x2.heap.size R (start l) gb gc (fun _ => .slice none 0 0) ∧ x2.heap.size ≤ gb ∧ x3.grownBy wn none) := ⟨hRP, hgb, hgrow⟩; clear hown hgrow hRP hgb)
    obtain ⟨x4, ex4⟩ : ∃ x4, x4 = wn.setCell ⟨R, 0, none⟩ (.slice (some ⟨gb, 0, none⟩) l.length gc) := ⟨_, rfl⟩
    have C6 : Hid (FQ w x4 P R gb gc all len) := by
      have e2 := O3.out.1
      have b4 : Below x2.heap.size x2 x4 := by
        rw [ex4]
        exact (O3.out.2.1.grown HRP.out.2.2 O3.out.2.1.size (fun k e => by cases e)).setCell (p := ⟨R, 0, none⟩) (by rw [← e2]; exact Nat.le_refl _) _
      refine ⟨start l, fp1, fun _ => .slice none 0 0, ⟨O2.out.1.later b4, ?_, HS.out.2.2.2.2.2.2.1, O2.out.2.trans (b4.mono O2.out.2.size), fun b hb q => ?_⟩, HS.out.2.2.2.1.symm⟩
      · rw [ex4]
        exact HRP.out.1.lowerR O2.out.2.size
      · have h1 := (O2.out.1.fp b hb).2
        rcases q with rfl | rfl | ⟨k, -, e⟩
        · omega
        · have := HRP.out.2.1; omega
        · cases e
    rw [← ex4]
    clear ex4 O2 O3 HRP HC c0 z0 hRl zR lR cR
    go_wp2_with fail
    go_loopw [5, 9, 11, 12, 13, 14, 15, 16, 17, 18, 19, 20, 21, 22, 23, 24, 25, 26, 27, 28, 29, 30] (fun x5 x9 x11 x12 x13 x14 x15 x16 x17 x18 x19 x20 x21 x22 x23 x24 x25 x26 x27 x28 x29 x30 wr => ∃ i : Nat, i ≤ len' ∧ i ≤ 150 ∧ x11 = .int .i64 (i : Int) ∧ Hid (FQ w wr P R gb gc all len)) (fun _ _ x11 _ _ _ _ _ _ _ _ _ _ _ _ _ _ _ _ _ _ _ _ => len' - (intOf x11).toNat)
    case atStart => exact ⟨0, by omega, by omega, rfl, C6⟩
    case round =>
      as_aux_lemma =>
        obtain ⟨i, hi, hi150, rfl, hC⟩ := hrel
        by_cases hgo : (i : Int) < (len' : Int) ∧ (i : Int) < 150
        · obtain ⟨hil, hil2⟩ := hgo
          obtain ⟨wo, ewo⟩ : ∃ wo, wo = wr := ⟨_, rfl⟩
          subst ewo
          have hi0 : (0 : Int) ≤ (i : Int) := by omega
          have BO : Hid (Below w.heap.size w wo) := hC.out.bel
          obtain ⟨rb, ro, rfl, hrb, hrc⟩ := (HS.out.2.2.2.2.2.1.later BO.out).2.2 (by omega)
          obtain ⟨qi, ci, g0, hvi, hmi⟩ := hrc i (by omega)
          obtain ⟨li, eli⟩ : ∃ li, li = (ls.getD i []).length := ⟨_, rfl⟩
          rw [← eli] at g0 hvi hmi
          have XV : Hid (wo.cell? ⟨rb, ro + i, none⟩ = some (.slice qi li ci) ∧ rb < wo.heap.size ∧ Vw wo qi li (ls.getD i [])) := ⟨g0, hrb, hvi⟩
          have hmi2 : (li : Int) ≤ 9223372036854775807 := by unfold maxLen at hmi; omega
          clear hrc g0 hrb hvi hmi eli
          have A1 : Hid (R4p wo (wo.alloc (.cells #[.int .i64 0, .int .i64 0, .int .i64 0, .int .i64 0] 39))) := by
            refine ⟨fun _ => 0, ?_, (Below.refl _ _).alloc (Nat.le_refl _) _⟩
            exact World.rowIs_alloc wo #[.int .i64 0, .int .i64 0, .int .i64 0, .int .i64 0] 39 _ (fun t ht => by rcases t with _ | _ | _ | _ | t <;> first | rfl | (exfalso; have : _ < 4 := ht; omega))
          go_upto_block 4 with fail
          go_cut [13] from 97 to 118 (fun x wc => Hid (R4p wo wc))
          case first =>
            as_aux_lemma =>
              rename_i J KK hJ hKK
              refine vloop_any rb ro len' cap' i li ci qi (ls.getD i []) wo _ hil hlm' hmi2 XV A1 _ (by kernel_rfl) _ _ _ _ _ _ _ _ _ _ _ _ _ _ _ _ _ _ _ _ _ _ _ _ _ _ _ _ _ _ _ _ _ _ _ _ _ _ _ _ _ _ _ _ _ _ _ _ _ _ _ _ _ _ _ _ _ _ _ _ _ _ _ _ _ _ _ _ _ _ _ _ _ _ _ _ _ _ _ _ _ _ _ _ _ _ _ _ _ _ _ _ _ _ _ _ _ _ _ _ _ _ _ _ _ _ _ _ _ _ _ _ _ _ _ _ _ _ _ _ _ _ _ _ _ _ _ _ _ _ _ _ _ _ _ _ _ _ _ _ _ _ _ _ _ _ _ _ _ _ _ _ _ _ _ _ _ _ _ _ _ _ _ _ _ _ _ _ _ _ _ _ _ _ _ _ _ _ _ _ _ _ _ _ _ _ _ _ _ _ _ _ _ _ _ _ _ _ _ _ _ _ _ _ _ _ _ _ _ _ _ _ _ _ _ _ _ _ _ _ _ _ _ _ _ _ _ _ _ _ _ _ _ _ _ _ _ _ _ _ _ _ _ _ _ _ _ _ _ _ _ _ _ _ _ _ _ _ _ _ _ _ _ _ _ _ _ _ _ _ _ _ _ _ _ _ _ _ _ _ _ _ _ _ _ _ _ _ _ _ _ _ _ _ _ _ _ _ _ _ _ _ _ _ _ _ _ _ _ _ _ _ _ _ _ _ _ _ _ _ _ _ _ _ _ _ _ _ _ _ _ _ _ _ _ _ _ _ _ _ _ _ _ _ _ _ _ _ _ _ _ _ _ _ _ _ _ _ _ _ _ _ _ _ _ _ _ _ _ _ _ _ _ _ _ _ _ _ _ _ _ _ _ _ _ _ _ _ _ _ _ _ _ _ _ _ _ _ _ _ _ _ ?_
              intro s13 s97 s98 s99 s100 s101 s102 s103 s104 s105 s106 s107 s108 s109 s110 s111 s112 s113 s114 s115 s116 s117 s118 wz hz
              refine hKK _ _ (Met.intro (hJ _ _ ?_))
              (repeat apply Exists.intro)
              refine ⟨?rel, rfl⟩
              case rel => exact hz
          case rest =>
            obtain ⟨A, eA⟩ : ∃ A, A = wo.heap.size := ⟨_, rfl⟩
            obtain ⟨k, hf, hb⟩ := hcut.out
            have CA : Hid (FA w wc P R gb gc all len A k) := by
              obtain ⟨g, fp, ov, h, hn⟩ := hC.out
              obtain ⟨n1, n2⟩ := h.aside (b := A) (by omega)
              exact ⟨g, fp, ov, h.later hb, hn, by rw [eA]; exact hf, n1, n2⟩
            rw [← eA]
            obtain ⟨w6, ew6⟩ : ∃ w6, w6 = wc := ⟨_, rfl⟩
            subst ew6
            clear hf hb hcut A1 XV hC BO hmi2 eA
            obtain ⟨g, fp, ov, hPF, hgn, hAR⟩ := CA.out
            have G6 : Hid (PF w w6 P R all g fp gb gc ov ∧ AR w6 A k fp R gb ov ∧ g.n = len) := ⟨hPF, hAR, hgn⟩
            obtain ⟨k0, ek0⟩ : ∃ k0, k0 = k 0 := ⟨_, rfl⟩
            obtain ⟨k1, ek1⟩ : ∃ k1, k1 = k 1 := ⟨_, rfl⟩
            obtain ⟨k2, ek2⟩ : ∃ k2, k2 = k 2 := ⟨_, rfl⟩
            obtain ⟨k3, ek3⟩ : ∃ k3, k3 = k 3 := ⟨_, rfl⟩
            have EK : Hid (k0 = k 0 ∧ k1 = k 1 ∧ k2 = k 2 ∧ k3 = k 3) := ⟨ek0, ek1, ek2, ek3⟩
            have y0 := hAR.c0
            have y1 := hAR.c1
            have y2 := hAR.c2
            have y3 := hAR.c3
            rw [← ek0] at y0
            rw [← ek1] at y1
            rw [← ek2] at y2
            rw [← ek3] at y3
            have hAl := hAR.lt
            clear hPF hAR hgn ek0 ek1 ek2 ek3 CA
            go_wp2_with fail
            refine (refWay k1 k2 G6.out.1.rf).mono ?_
            rintro e w6 ⟨rfl, rfl⟩
            obtain ⟨cw, ecw⟩ : ∃ cw, cw = wayC g k1 k2 := ⟨_, rfl⟩
            rw [← ecw]
            have ECW : Hid (cw = wayC g k1 k2) := ecw
            clear ecw
            go_upto_block 6 with fail
            go_cut [5, 9, 15, 16, 17, 18] from 127 to 284 (fun x5 x9 x15 x16 x17 x18 wz => x9 = .bool true ∧ Hid (FA w wz P R gb gc all len A k))
            case first =>
              as_aux_lemma =>
                rename_i J KK hJ hKK
                clear y0 y1 y2 y3 hAl
                by_cases hk1 : k0 = 0 ∨ k0 = 1 ∨ k0 = 2
                · refine sw_pay w HS.out.2.2.1 P R A bq oq len cap gb gc all HS.out.2.2.2.2.2.2.2 h5 k k0 k1 k2 k3 cw g fp ov w6 ii HJ EK G6 ECW hk1 _ (by kernel_rfl) _ _ _ (by exact ⟨_, _, _, rfl⟩) _ _ _ _ _ _ _ _ _ _ _ _ _ _ _ _ _ _ _ _ _ _ _ _ _ _ _ _ _ _ _ _ _ _ _ _ _ _ _ _ _ _ _ _ _ _ _ _ _ _ _ _ _ _ _ _ _ _ _ _ _ _ _ _ _ _ _ _ _ _ _ _ _ _ _ _ _ _ _ _ _ _ _ _ _ _ _ _ _ _ _ _ _ _ _ _ _ _ _ _ _ _ _ _ _ _ _ _ _ _ _ _ _ _ _ _ _ _ _ _ _ _ _ _ _ _ _ _ _ _ _ _ _ _ _ _ _ _ _ _ _ _ _ _ _ _ _ _ _ _ _ _ _ _ _ _ _ _ _ _ _ _ _ _ _ _ _ _ _ _ _ _ _ _ _ _ _ _ _ _ _ _ _ _ _ _ _ _ _ _ _ _ _ _ _ _ _ _ _ _ _ _ _ _ _ _ _ _ _ _ _ _ _ _ _ _ _ _ _ _ _ _ _ _ _ _ _ _ _ _ _ _ _ _ _ _ _ _ _ _ _ _ _ _ _ _ _ _ _ _ _ _ _ _ _ _ _ _ _ _ _ _ _ _ _ _ _ _ _ _ _ _ _ _ _ _ _ _ _ _ _ _ _ _ _ _ _ _ _ _ _ _ _ _ _ _ _ _ _ _ _ _ _ _ _ _ _ _ _ _ _ _ _ _ _ _ _ _ _ _ _ _ _ _ _ _ _ _ _ _ _ _ _ _ _ _ _ _ _ _ _ _ _ _ _ _ _ _ _ _ _ _ _ _ _ _ _ _ _ _ _ _ _ _ _ _ _ _ _ _ _ _ _ _ _ _ _ _ _ _ _ _ _ _ _ _ _ _ _ _ _ _ _ _ _ _ _ ?_
                  intro s5 s9 s15 s16 s17 s18 s127 s128 s129 s130 s131 s132 s133 s134 s135 s136 s137 s138 s139 s140 s141 s142 s143 s144 s145 s146 s147 s148 s149 s150 s151 s152 s153 s154 s155 s156 s157 s158 s159 s160 s161 s162 s163 s164 s165 s166 s167 s168 s169 s170 s171 s172 s173 s174 s175 s176 s177 s178 s179 s180 s181 s182 s183 s184 s185 s186 s187 s188 s189 s190 s191 s192 s193 s194 s195 s196 s197 s198 s199 s200 s201 s202 s203 s204 s205 s206 s207 s208 s209 s210 s211 s212 s213 s214 s215 s216 s217 s218 s219 s220 s221 s222 s223 s224 s225 s226 s227 s228 s229 s230 s231 s232 s233 s234 s235 s236 s237 s238 s239 s240 s241 s242 s243 s244 s245 s246 s247 s248 s249 s250 s251 s252 s253 s254 s255 s256 s257 s258 s259 s260 s261 s262 s263 s264 s265 s266 s267 s268 s269 s270 s271 s272 s273 s274 s275 s276 s277 s278 s279 s280 s281 s282 s283 s284 wz h9 hz
                  refine hKK _ _ (Met.intro (hJ _ _ ?_))
                  (repeat apply Exists.intro)
                  refine ⟨⟨?h9, ?rel⟩, rfl⟩
                  case h9 => exact h9
                  case rel => exact hz
                · by_cases hk2 : k0 = 3 ∨ k0 = 4 ∨ k0 = 5
                  · refine sw_come w HS.out.2.2.1 P R A bq oq len cap gb gc all HS.out.2.2.2.2.2.2.2 h5 k k0 k1 k2 k3 cw g fp ov w6 ii HJ EK G6 ECW hk2 _ (by kernel_rfl) _ _ _ (by exact ⟨_, _, _, rfl⟩) _ _ _ _ _ _ _ _ _ _ _ _ _ _ _ _ _ _ _ _ _ _ _ _ _ _ _ _ _ _ _ _ _ _ _ _ _ _ _ _ _ _ _ _ _ _ _ _ _ _ _ _ _ _ _ _ _ _ _ _ _ _ _ _ _ _ _ _ _ _ _ _ _ _ _ _ _ _ _ _ _ _ _ _ _ _ _ _ _ _ _ _ _ _ _ _ _ _ _ _ _ _ _ _ _ _ _ _ _ _ _ _ _ _ _ _ _ _ _ _ _ _ _ _ _ _ _ _ _ _ _ _ _ _ _ _ _ _ _ _ _ _ _ _ _ _ _ _ _ _ _ _ _ _ _ _ _ _ _ _ _ _ _ _ _ _ _ _ _ _ _ _ _ _ _ _ _ _ _ _ _ _ _ _ _ _ _ _ _ _ _ _ _ _ _ _ _ _ _ _ _ _ _ _ _ _ _ _ _ _ _ _ _ _ _ _ _ _ _ _ _ _ _ _ _ _ _ _ _ _ _ _ _ _ _ _ _ _ _ _ _ _ _ _ _ _ _ _ _ _ _ _ _ _ _ _ _ _ _ _ _ _ _ _ _ _ _ _ _ _ _ _ _ _ _ _ _ _ _ _ _ _ _ _ _ _ _ _ _ _ _ _ _ _ _ _ _ _ _ _ _ _ _ _ _ _ _ _ _ _ _ _ _ _ _ _ _ _ _ _ _ _ _ _ _ _ _ _ _ _ _ _ _ _ _ _ _ _ _ _ _ _ _ _ _ _ _ _ _ _ _ _ _ _ _ _ _ _ _ _ _ _ _ _ _ _ _ _ _ _ _ _ _ _ _ _ _ _ _ _ _ _ _ _ _ _ _ _ _ _ _ _ _ _ _ _ _ ?_
                    intro s5 s9 s15 s16 s17 s18 s127 s128 s129 s130 s131 s132 s133 s134 s135 s136 s137 s138 s139 s140 s141 s142 s143 s144 s145 s146 s147 s148 s149 s150 s151 s152 s153 s154 s155 s156 s157 s158 s159 s160 s161 s162 s163 s164 s165 s166 s167 s168 s169 s170 s171 s172 s173 s174 s175 s176 s177 s178 s179 s180 s181 s182 s183 s184 s185 s186 s187 s188 s189 s190 s191 s192 s193 s194 s195 s196 s197 s198 s199 s200 s201 s202 s203 s204 s205 s206 s207 s208 s209 s210 s211 s212 s213 s214 s215 s216 s217 s218 s219 s220 s221 s222 s223 s224 s225 s226 s227 s228 s229 s230 s231 s232 s233 s234 s235 s236 s237 s238 s239 s240 s241 s242 s243 s244 s245 s246 s247 s248 s249 s250 s251 s252 s253 s254 s255 s256 s257 s258 s259 s260 s261 s262 s263 s264 s265 s266 s267 s268 s269 s270 s271 s272 s273 s274 s275 s276 s277 s278 s279 s280 s281 s282 s283 s284 wz h9 hz
                    refine hKK _ _ (Met.intro (hJ _ _ ?_))
                    (repeat apply Exists.intro)
                    refine ⟨⟨?h9, ?rel⟩, rfl⟩
                    case h9 => exact h9
                    case rel => exact hz
                  · refine sw_beg w HS.out.2.2.1 P R A bq oq len cap gb gc all HS.out.2.2.2.2.2.2.2 h5 k k0 k1 k2 k3 cw g fp ov w6 ii HJ EK G6 ECW ⟨hk1, hk2⟩ _ (by kernel_rfl) _ _ _ (by exact ⟨_, _, _, rfl⟩) _ _ _ _ _ _ _ _ _ _ _ _ _ _ _ _ _ _ _ _ _ _ _ _ _ _ _ _ _ _ _ _ _ _ _ _ _ _ _ _ _ _ _ _ _ _ _ _ _ _ _ _ _ _ _ _ _ _ _ _ _ _ _ _ _ _ _ _ _ _ _ _ _ _ _ _ _ _ _ _ _ _ _ _ _ _ _ _ _ _ _ _ _ _ _ _ _ _ _ _ _ _ _ _ _ _ _ _ _ _ _ _ _ _ _ _ _ _ _ _ _ _ _ _ _ _ _ _ _ _ _ _ _ _ _ _ _ _ _ _ _ _ _ _ _ _ _ _ _ _ _ _ _ _ _ _ _ _ _ _ _ _ _ _ _ _ _ _ _ _ _ _ _ _ _ _ _ _ _ _ _ _ _ _ _ _ _ _ _ _ _ _ _ _ _ _ _ _ _ _ _ _ _ _ _ _ _ _ _ _ _ _ _ _ _ _ _ _ _ _ _ _ _ _ _ _ _ _ _ _ _ _ _ _ _ _ _ _ _ _ _ _ _ _ _ _ _ _ _ _ _ _ _ _ _ _ _ _ _ _ _ _ _ _ _ _ _ _ _ _ _ _ _ _ _ _ _ _ _ _ _ _ _ _ _ _ _ _ _ _ _ _ _ _ _ _ _ _ _ _ _ _ _ _ _ _ _ _ _ _ _ _ _ _ _ _ _ _ _ _ _ _ _ _ _ _ _ _ _ _ _ _ _ _ _ _ _ _ _ _ _ _ _ _ _ _ _ _ _ _ _ _ _ _ _ _ _ _ _ _ _ _ _ _ _ _ _ _ _ _ _ _ _ _ _ _ _ _ _ _ _ _ _ _ _ _ _ _ _ _ _ _ _ _ _ _ _ ?_
                    intro s5 s9 s15 s16 s17 s18 s127 s128 s129 s130 s131 s132 s133 s134 s135 s136 s137 s138 s139 s140 s141 s142 s143 s144 s145 s146 s147 s148 s149 s150 s151 s152 s153 s154 s155 s156 s157 s158 s159 s160 s161 s162 s163 s164 s165 s166 s167 s168 s169 s170 s171 s172 s173 s174 s175 s176 s177 s178 s179 s180 s181 s182 s183 s184 s185 s186 s187 s188 s189 s190 s191 s192 s193 s194 s195 s196 s197 s198 s199 s200 s201 s202 s203 s204 s205 s206 s207 s208 s209 s210 s211 s212 s213 s214 s215 s216 s217 s218 s219 s220 s221 s222 s223 s224 s225 s226 s227 s228 s229 s230 s231 s232 s233 s234 s235 s236 s237 s238 s239 s240 s241 s242 s243 s244 s245 s246 s247 s248 s249 s250 s251 s252 s253 s254 s255 s256 s257 s258 s259 s260 s261 s262 s263 s264 s265 s266 s267 s268 s269 s270 s271 s272 s273 s274 s275 s276 s277 s278 s279 s280 s281 s282 s283 s284 wz h9 hz
                    refine hKK _ _ (Met.intro (hJ _ _ ?_))
                    (repeat apply Exists.intro)
                    refine ⟨⟨?h9, ?rel⟩, rfl⟩
                    case h9 => exact h9
                    case rel => exact hz
            case rest =>
              as_aux_lemma =>
                obtain ⟨rfl, hFA⟩ := hcut
                rename_i K6 hK6
                obtain ⟨w7, ew7⟩ : ∃ w7, w7 = wc := ⟨_, rfl⟩
                subst ew7
                obtain ⟨g2, fp2, ov2, hPF, hn, hAR⟩ := hFA.out
                have G7 : Hid (PF w w7 P R all g2 fp2 gb gc ov2 ∧ AR w7 A k fp2 R gb ov2 ∧ g2.n = len) := ⟨hPF, hAR, hn⟩
                have ECW2 : Hid (cw = wayC g2 k1 k2) := by
                  show _ = _
                  rw [ECW.out]
                  exact wayC_n (by rw [G7.out.2.2]; exact G6.out.2.2) k1 k2
                clear hPF hAR hn hFA y0 y1 y2 y3 hAl
                refine hK6 _ _ ?_
                refine tail_any w HS.out.2.2.1 P R A bq oq len cap gb gc all HS.out.2.2.2.2.2.2.2 h5 k k1 k2 cw g2 fp2 ov2 _ ⟨EK.out.2.1, EK.out.2.2.1⟩ G7 ECW2 _ (by kernel_rfl) _ _ (by exact ⟨_, _, _, rfl⟩) _ _ _ _ _ _ _ _ _ _ _ _ _ _ _ _ _ _ _ _ _ _ _ _ _ _ _ _ _ _ _ _ _ _ _ _ _ _ _ _ _ _ _ _ _ _ _ _ _ _ _ _ _ _ _ _ _ _ _ _ _ _ _ _ _ _ _ _ _ _ _ _ _ _ _ _ _ _ _ _ _ _ _ _ _ _ _ _ _ _ _ _ _ _ _ _ _ _ _ _ _ _ _ _ _ _ _ _ _ _ _ _ _ _ _ _ _ _ _ _ _ _ _ _ _ _ _ _ _ _ _ _ _ _ _ _ _ _ _ _ _ _ _ _ _ _ _ _ _ _ _ _ _ _ _ _ _ _ _ _ _ _ _ _ _ _ _ _ _ _ _ _ _ _ _ _ _ _ _ _ _ _ _ _ _ _ _ _ _ _ _ _ _ _ _ _ _ _ _ _ _ _ _ _ _ _ _ _ _ _ _ _ _ _ _ _ _ _ _ _ _ _ _ _ _ _ _ _ _ _ _ _ _ _ _ _ _ _ _ _ _ _ _ _ _ _ _ _ _ _ _ _ _ _ _ _ _ _ _ _ _ _ _ _ _ _ _ _ _ _ _ _ _ _ _ _ _ _ _ _ _ _ _ _ _ _ _ _ _ _ _ _ _ _ _ _ _ _ _ _ _ _ _ _ _ _ _ _ _ _ _ _ _ _ _ _ _ _ _ _ _ _ _ _ _ _ _ _ _ _ _ _ _ _ _ _ _ _ _ _ _ _ _ _ _ _ _ _ _ _ _ _ _ _ _ _ _ _ _ _ _ _ _ _ _ _ _ _ _ _ _ _ _ _ _ _ _ _ _ _ _ _ _ _ _ _ _ _ _ _ _ _ _ _ _ _ _ _ ?_
                intro s5 s19 s20 s21 s22 s23 s24 s25 s26 s27 s28 s29 s30 s285 s286 s287 s288 s289 s290 s291 s292 s293 s294 s295 s296 s297 s298 s299 s300 s301 s302 s303 s304 s305 s306 s307 s308 s309 s310 s311 s312 s313 s314 s315 s316 s317 s318 s319 s320 s321 s322 s323 s324 s325 s326 s327 s328 s329 s330 s331 s332 s333 s334 s335 s336 s337 s338 s339 s340 s341 s342 s343 s344 s345 s346 s347 s348 s349 s350 s351 s352 s353 s354 s355 s356 s357 s358 s359 s360 s361 s362 s363 s364 s365 s366 s367 s368 s369 s370 s371 s372 s373 s374 s375 s376 s377 s378 s379 s380 s381 s382 s383 s384 s385 s386 s387 s388 s389 s390 s391 s392 s393 s394 s395 s396 s397 s398 s399 s400 s401 s402 s403 wz hz
                go_wp2
                go_roundw
                case rel => exact ⟨i + 1, by omega, by omega, by go_num, hz⟩
                case measure => simp [intOf]; omega
        · have XB : Hid (Below w.heap.size w wr) := hC.out.bel
          rcases (show ((i : Int) < (len' : Int) ∧ ¬ (i : Int) < 150) ∨ ¬ (i : Int) < (len' : Int) by omega) with ⟨e1, e2⟩ | e1
          all_goals
            clear hgo
            go_wp2
            go_ret
            exact ⟨rfl, XB.out⟩
theorem plays_any (q : Option Addr) (len cap : Nat) (l : List Int) (a : Option Addr) (len' cap' : Nat) (ls : List (List Int)) (w : World) (hL : Laid w) (hs : Sl w (.slice q len cap) l) (hR : Rw w a len' ls) : Calls Tryd.prog 3 #[.slice q len cap, .slice a len' cap'] w fun e w' => e = .returned (.bool true) ∧ Below w.heap.size w w' := by
  by_cases hc : newC l = 0
  · exact plays_ok q len cap l a len' cap' ls w hL hs hR hc
  · exact plays_bad q len cap l a len' cap' w hL hs hc
end Go.Proofs.YtgcdbcljneoifajDoor.Pic
