/-
  Whichever way words are put in one order, a history in which all hear them so is total: the walk of TopTotal.
-/
import Derived.Test.YtcccheeeagphpagTopS
import Derived.Test.YtcccheeeagphpagTopO
import Derived.Test.YtcccheeeagphpagFacF
import Derived.Deep.AppendLies
import Derived.Deep.CutBlock
import Derived.Deep.CutRange
import Derived.BigQuiet
import Derived.WalkLawsBesides
import Derived.Handy
namespace Go.Proofs.Ytcccheeeagphpag.Top
open Go.RowKit
open Go.Proofs.Ytcccheeeagphpag.Fif (own_lt own_block own_form own_mono ret_bool info_int new_int int_one)
open Go.Proofs.Ytcccheeeagphpag.His (Ev Ew ev evs tH tH_len evs_len Eo flat flat_len flat_one flat_append news1 info_ev tH_faces of_ok)
open Go.Proofs.Ytcccheeeagphpag.Vec (Vw)
open Go.Proofs.Ytcccheeeagphpag.Sep (KpL NewL)
set_option linter.unusedVariables false

/-- Heard, in new memory -/
theorem hdN_L (base P : Nat) (l : Ldr.L) (fp : List Nat) (m : Nat) (w : World) (h : Ldr.LS w base P l fp) (hi : Ldr.Inv l) (hm : m < l.n) : Calls Try.prog 13 #[.pointer (some ⟨P, 0, none⟩), .int .i64 (m : Int)] w fun x w' => ∃ v, x = .returned (.tuple #[v, .nilIface]) ∧ Iw w' w.heap.size v (Ldr.hd l (m : Int)) ∧ Below w.heap.size w w' := by
  obtain ⟨mS, mb, rfl, h⟩ := h
  rw [Ldr.hd_in hm]
  exact Ldr.hdL_ok h hi m hm
theorem hdN_A (base P : Nat) (g : Agr.G) (fp : List Nat) (m : Nat) (w : World) (h : Agr.AS w base P g fp) (hi : Agr.Inv g) (hm : m < g.n) : Calls Try.prog 12 #[.pointer (some ⟨P, 0, none⟩), .int .i64 (m : Int)] w fun x w' => ∃ v, x = .returned (.tuple #[v, .nilIface]) ∧ Iw w' w.heap.size v (Agr.ints (g.hd m)) ∧ Below w.heap.size w w' := by
  obtain ⟨mS, mb, hv, cW, rfl, h, hcw⟩ := h
  refine (Agr.hd_okA h hi.toInv0 m hm).mono ?_
  rintro x w' ⟨v, rfl, ho, hb⟩
  refine ⟨v, rfl, ?_, hb⟩
  have e : (Agr.ints (g.hd m)).length = (g.hd m).length := by simp [Agr.ints]
  show World.ownsRow _ _ _ _ _ _ _
  rw [e]
  exact ho
theorem own_pushT {w w' : World} {base : Nat} {ob : Obj} {t : TypeId} {s n : Nat} {v : Value} {xs : List Value} (o : w.ownsRow base t s v n xs) (e : w'.heap = w.heap.push ob) : w'.ownsRow base t s v n xs := own_block o fun k hk => by
  rw [e, Array.getElem?_push_lt (own_lt o k hk).2, Array.getElem?_eq_getElem (own_lt o k hk).2]
theorem ints_len (l : List Nat) : (Agr.ints l).length = l.length := by simp [Agr.ints]
theorem ints_nd {l : List Nat} (h : l.Nodup) : (Agr.ints l).Nodup := by
  unfold Agr.ints
  rw [List.nodup_iff_pairwise_ne] at h ⊢
  rw [List.pairwise_map]
  exact h.imp fun q e => q (by omega)
theorem ints_rng {l : List Nat} (h : ∀ x ∈ l, 1 ≤ x ∧ x ≤ 30) : ∀ x ∈ Agr.ints l, 1 ≤ x ∧ x ≤ 30 := by
  intro x hx
  obtain ⟨y, hy, rfl⟩ := List.mem_map.1 hx
  have := h y hy
  omega
set_option maxRecDepth 100000 in
set_option maxHeartbeats 8000000 in
theorem lead_any (a : Option Addr) (len cap : Nat) (zs : List Int) (cut : Int) (w : World) (hv : Vw w a len zs) (hlm : len ≤ maxLen) : Calls Try.prog 3 #[.slice a len cap, .bool true, .int .i64 cut] w fun e w' => e = .returned (.bool true) ∧ Below w.heap.size w w' := by
  have HL : Hid (Vw w a len zs) := hv
  obtain ⟨ii, hii, hz0, hz1, hz2⟩ := info_int
  have HJ : Hid (Try.prog.info? 3 = some ii ∧ ii.zero = some (.int .i64 0) ∧ ii.size = 1 ∧ ii.bytes = 8) := ⟨hii, hz0, hz1, hz2⟩
  clear hv hii hz0 hz1 hz2
  obtain ⟨ie, hie, hz0, hz1, hz2⟩ := info_ev
  have HE : Hid (Try.prog.info? 45 = some ie ∧ ie.zero = some (.agg #[.int .i64 0, .int .i64 0, .int .i64 0]) ∧ ie.size = 3 ∧ ie.bytes = 24) := ⟨hie, hz0, hz1, hz2⟩
  clear hie hz0 hz1 hz2
  go_enter Try.func3, Try.ntmps3
  go_wp2_with fail
  refine (His.one_any w).mono ?_
  rintro e w1 ⟨rfl, hb1⟩
  have B1 : Hid (Below w.heap.size w w1) := hb1
  clear hb1
  go_wp2_with fail
  refine (Agr.newA_ok 3 (by omega) (by omega) w1).mono ?_
  rintro e w2 ⟨P1, f1, rfl, hA, hb2⟩
  have A2 : Hid (Agr.AS w2 w1.heap.size P1 (Agr.start 3) f1 ∧ Below w1.heap.size w1 w2) := ⟨hA, hb2⟩
  clear hA hb2
  go_wp2_with fail
  refine (Ldr.newL_ok 3 (by omega) (by omega) w2).mono ?_
  rintro e w3 ⟨P2, f2, rfl, hA, hb3⟩
  have T3 : Hid (TT w w3 P1 P2 (Agr.start 3) f1 (Ldr.start 3) f2 (.slice none 0 0) [] (.slice none 0 0) [] (.slice none 0 0) [] []) := TT.start (A2.out.1.lower B1.out.size) (B1.out.trans (A2.out.2.mono B1.out.size)) hA hb3
  clear hA hb3 A2 B1
  go_upto_block 0 with fail
  go_cut [12, 13, 14, 15, 16, 17, 18, 19] from 50 to 123 (fun x12 x13 x14 x15 x16 x17 x18 x19 wc => Hid (∃ vh va ws l f2, vh = x12 ∧ va = x13 ∧ TT w wc P1 P2 (Agr.start 3) f1 l f2 vh (evs 4 2 ws) va ws (.slice none 0 0) [] [] ∧ Ldr.TD ws 3 l ∧ ws.length ≤ 10))
  case first =>
    go_wp2_with fail
    go_loopw [12, 13, 14] (fun x12 x13 x14 wr => ∃ (i : Nat) (vh va : Value) (ws : List Int) (l : Ldr.L) (f2 : List Nat), i ≤ len ∧ i ≤ 10 ∧ vh = x12 ∧ va = x13 ∧ x14 = .int .i64 (i : Int) ∧ Hid (TT w wr P1 P2 (Agr.start 3) f1 l f2 vh (evs 4 2 ws) va ws (.slice none 0 0) [] [] ∧ Ldr.TD ws 3 l ∧ ws.length ≤ i)) (fun _ _ x _ => len - (intOf x).toNat)
    case atStart => exact ⟨0, _, _, [], _, _, by omega, by omega, rfl, rfl, rfl, T3.out, Ldr.TD.begin, Nat.le_refl _⟩
    case round =>
      obtain ⟨i, vh, va, ws, l, f2, hi, hi10, rfl, rfl, rfl, hQ⟩ := hrel
      by_cases hgo : (i : Int) < (len : Int) ∧ (i : Int) < 10
      · obtain ⟨hil, hi10'⟩ := hgo
        have hi0 : (0 : Int) ≤ (i : Int) := by omega
        obtain ⟨rb, ro, rfl, hrb, hrc⟩ := HL.out.2 (by omega)
        obtain ⟨x, ex⟩ : ∃ x, x = zs.getD i 0 := ⟨_, rfl⟩
        have HX : Hid (rb < w.heap.size ∧ w.cell? ⟨rb, ro + i, none⟩ = some (.int .i64 x)) := ⟨hrb, by rw [ex]; exact hrc i (by omega)⟩
        have c0 : wr.cell? ⟨rb, ro + i, none⟩ = some (.int .i64 x) := (hQ.out.1.bel.cell (p := ⟨rb, ro + i, none⟩) HX.out.1).trans HX.out.2
        clear hrb hrc ex
        go_wp2_with fail
        refine (Ldr.sayL w.heap.size P2 l f2 x wr hQ.out.1.ld hQ.out.2.1.inv hQ.out.1.bel.size).mono ?_
        rintro e w2 ⟨f2', rfl, hA, hb, hk, hn⟩
        have T2 : Hid (TT w w2 P1 P2 (Agr.start 3) f1 (Ldr.say l x) f2' vh (evs 4 2 ws) va ws (.slice none 0 0) [] []) := hQ.out.1.lead hA hb hk hn
        by_cases hc : Ldr.sayC l x = 0
        · obtain ⟨hT, eP⟩ := hQ.out.2.1.said hc
          rw [hc, Ldr.errF_ok, eP]
          obtain ⟨B, eB⟩ : ∃ B, B = w2.heap.size := ⟨_, rfl⟩
          obtain ⟨n, en⟩ : ∃ n, n = ws.length := ⟨_, rfl⟩
          have EN : Hid (n = ws.length ∧ n ≤ 9) := ⟨en, by have := hQ.out.2.2; omega⟩
          obtain ⟨W3, eW3⟩ : ∃ W3, W3 = w2.alloc (.cells #[.int .i64 (n : Int), .int .i64 x] 34) := ⟨_, rfl⟩
          have M3 : Hid (TT w W3 P1 P2 (Agr.start 3) f1 (Ldr.say l x) f2' vh (evs 4 2 ws) va ws (.slice none 0 0) [] [B] ∧ Ldr.TD (ws ++ [x]) 0 (Ldr.say l x) ∧ W3.cell? ⟨B, 0, none⟩ = some (.int .i64 (n : Int))) := by
            refine ⟨T2.out.aside (by rw [eW3]; exact (Below.refl _ _).alloc (Nat.le_refl _) _) fun b hb => ?_, hT, by rw [eW3, eB]; go_cell⟩
            rw [List.mem_singleton.1 hb, eB, eW3]
            simp
          rw [← en]
          clear hA hb hk hn hc hT eP T2 en c0
          go_wp2_with fail
          rw [← eW3, ← eB]
          clear eW3 eB
          go_loopw [17] (fun y wr => ∃ (j : Nat) (l : Ldr.L) (f2 : List Nat), j ≤ 3 ∧ y = .int .i64 (j : Int) ∧ Hid (TT w wr P1 P2 (Agr.start 3) f1 l f2 vh (evs 4 2 ws) va ws (.slice none 0 0) [] [B] ∧ Ldr.TD (ws ++ [x]) j l ∧ wr.cell? ⟨B, 0, none⟩ = some (.int .i64 (n : Int)))) (fun y _ => 3 - (intOf y).toNat)
          case atStart => exact ⟨0, _, _, by omega, rfl, M3⟩
          case round =>
            obtain ⟨j, l, f2, hj, rfl, hM⟩ := hrel
            by_cases hj3 : j < 3
            · have hj3' : (j : Int) < 3 := by omega
              have b0 := hM.out.2.2
              have HT : Hid (Ldr.tkC l (j : Int) (n : Int) = 0 ∧ Ldr.TD (ws ++ [x]) (j + 1) (Ldr.tk l (j : Int) (n : Int))) := by
                rw [EN.out.1]
                exact hM.out.2.1.taken hj3
              go_wp2_with fail
              refine (Ldr.tkL w.heap.size P2 l f2 (j : Int) (n : Int) wr hM.out.1.ld hM.out.2.1.inv hM.out.1.bel.size (MapV.wfI (by omega) (by have := EN.out.2; omega))).mono ?_
              rintro e w4 ⟨v4, f4, rfl, _, hA, hb, hk, hn⟩
              rw [HT.out.1, Ldr.errF_ok]
              have M4 : Hid (TT w w4 P1 P2 (Agr.start 3) f1 (Ldr.tk l (j : Int) (n : Int)) f4 vh (evs 4 2 ws) va ws (.slice none 0 0) [] [B] ∧ w4.cell? ⟨B, 0, none⟩ = some (.int .i64 (n : Int))) := ⟨hM.out.1.lead hA hb hk hn, (World.cell?_of_block (a := ⟨B, 0, none⟩) (hM.out.1.apart hk B (by simp))).trans hM.out.2.2⟩
              clear hA hb hk hn b0
              go_wp2
              go_roundw
              case rel => exact ⟨j + 1, _, _, by omega, by go_num, M4.out.1, HT.out.2, M4.out.2⟩
              case measure => simp [intOf]; omega
            · have TE : Hid (TT w wr P1 P2 (Agr.start 3) f1 l f2 vh (evs 4 2 ws) va ws (.slice none 0 0) [] [B] ∧ ws.length ≤ 9) := ⟨hM.out.1, by have := EN.out; omega⟩
              have HT : Hid (Ldr.TD (ws ++ [x]) 3 l) := by
                have q := hM.out.2.1
                rw [show j = 3 by omega] at q
                exact q
              clear hM
              obtain ⟨qa, ca, eva⟩ := own_form TE.out.1.ea
              obtain ⟨la, ela⟩ : ∃ la, la = (ws).length := ⟨_, rfl⟩
              have ELA : Hid (la = (ws).length) := ela
              rw [← ela] at eva
              subst eva
              have hla : la ≤ 10 := by have := TE.out.2; omega
              have OA : Hid (wr.ownsRow w.heap.size 3 1 (.slice qa la ca) la ((ws).map (Value.int .i64))) := by
                have o := TE.out.1.ea
                unfold Iw at o
                rw [← ela] at o
                exact o
              obtain ⟨qh, ch, evh⟩ := own_form TE.out.1.eh
              have elh : (evs 4 2 (ws)).length = la := by rw [evs_len, ela]
              rw [elh] at evh
              subst evh
              have c1 : wr.cell? ⟨rb, ro + i, none⟩ = some (.int .i64 x) := (TE.out.1.bel.cell (p := ⟨rb, ro + i, none⟩) HX.out.1).trans HX.out.2
              have hrbw : rb < wr.heap.size := Nat.lt_of_lt_of_le HX.out.1 TE.out.1.bel.size
              clear ela elh
              go_upto_region 30 with (at_builtin; refine wpList_append_lies _ rfl _ _ 22 rfl w.heap.size 3 ii (.int .i64 0) 1 8 Try.underlying22 HJ.out.1 HJ.out.2.1 HJ.out.2.2.1 HJ.out.2.2.2 rfl (by decide) (.slice qa la ca) la ((ws).map (Value.int .i64)) rfl (by exact own_pushT OA.out rfl) ⟨wr.heap.size, 0, none⟩ 1 1 [.int .i64 x] rfl rfl (by exact new_int wr _ rfl _ _) (int_one _) (by omega) (by unfold maxLen; omega) (by omega) (by have := TE.out.1.bel.size; simp; omega) (wr.heap.size + 1) (by simp) ?_; intro gg gc w5 hown hgrow hat _; have T5 : Hid (TT w w5 P1 P2 (Agr.start 3) f1 l f2 (.slice qh la ch) (evs 4 2 (ws)) (.slice (some ⟨gg, 0, none⟩) (la + 1) gc) ((ws) ++ [x]) (.slice none 0 0) [] [B]) := TE.out.1.addA (by show World.ownsRow _ _ _ _ _ _ _; rw [List.length_append, List.map_append, ← ELA.out]; exact hown) hgrow hat; clear hown hgrow hat)
              have c5 : w5.cell? ⟨rb, ro + i, none⟩ = some (.int .i64 x) := (T5.out.bel.cell (p := ⟨rb, ro + i, none⟩) HX.out.1).trans HX.out.2
              have OH : Hid (w5.ownsRow w.heap.size 45 3 (.slice qh la ch) la (flat (evs 4 2 (ws)))) := by
                have o := T5.out.eh
                unfold Eo at o
                rw [evs_len, ← ELA.out] at o
                exact o
              clear c1 hrbw
              go_wp2_with (at_builtin; refine wpList_append_lies _ rfl _ _ 32 rfl w.heap.size 45 ie (.agg #[.int .i64 0, .int .i64 0, .int .i64 0]) 3 24 Try.underlying32 HE.out.1 HE.out.2.1 HE.out.2.2.1 HE.out.2.2.2 rfl (by decide) (.slice qh la ch) la (flat (evs 4 2 (ws))) rfl (by exact own_pushT OH.out rfl) ⟨w5.heap.size, 0, none⟩ 1 1 (flat [(4, 2, x)]) rfl rfl (by exact news1 w5 _ rfl 4 2 x 45) (flat_one _) (by omega) (by unfold maxLen; omega) (by omega) (by have := T5.out.bel.size; simp; omega) (w5.heap.size + 1) (by simp) ?_; intro gh gd w6 hown hgrow hat _; have T6 : Hid (TT w w6 P1 P2 (Agr.start 3) f1 l f2 (.slice (some ⟨gh, 0, none⟩) (la + 1) gd) (evs 4 2 ((ws) ++ [x])) (.slice (some ⟨gg, 0, none⟩) (la + 1) gc) ((ws) ++ [x]) (.slice none 0 0) [] [B]) := T5.out.addH (by rw [evs_snoc]; show World.ownsRow _ _ _ _ _ _ _; rw [List.length_append, flat_append, evs_len, ← ELA.out]; exact hown) hgrow hat; clear hown hgrow hat)
              go_roundw
              case rel => exact ⟨i + 1, _, _, ws ++ [x], l, f2, by omega, by omega, rfl, rfl, by go_num, T6.out.bare, HT.out, by rw [List.length_append]; have := hQ.out.2.2; simp; omega⟩
              case measure => simp [intOf]; omega
        · have eS : Ldr.say l x = l := if_neg hc
          obtain ⟨y0, y1, ey⟩ : ∃ y0 y1, Ldr.sayP l x = (y0, y1) := ⟨_, _, rfl⟩
          rw [Ldr.errF_no hc, ey]
          have T4 : Hid (TT w w2 P1 P2 (Agr.start 3) f1 l f2' vh (evs 4 2 ws) va ws (.slice none 0 0) [] []) := by
            have q := T2.out
            rw [eS] at q
            exact q
          clear hA hb hk hn eS ey hc c0 T2
          go_wp2
          go_roundw
          case rel => exact ⟨i + 1, _, _, ws, l, f2', by omega, by omega, rfl, rfl, by go_num, T4.out.later ((Below.refl _ _).alloc (Nat.le_refl _) _), hQ.out.2.1, by have := hQ.out.2.2; omega⟩
          case measure => simp [intOf]; omega
      · rcases (show ((i : Int) < (len : Int) ∧ ¬ (i : Int) < 10) ∨ ¬ (i : Int) < (len : Int) by omega) with ⟨e1, e2⟩ | e1
        all_goals
          clear hgo
          go_wp2
          go_meet
          exact ⟨vh, va, ws, l, f2, rfl, rfl, hQ.out.1, hQ.out.2.1, by have := hQ.out.2.2; omega⟩
  case rest =>
    obtain ⟨vh, va, ws, l, f2, rfl, rfl, hT, hD, hl⟩ := hcut.out
    obtain ⟨w7, ew7⟩ : ∃ w7, w7 = wc := ⟨_, rfl⟩
    subst ew7
    have T7 : Hid (TT w w7 P1 P2 (Agr.start 3) f1 l f2 vh (evs 4 2 ws) va ws (.slice none 0 0) [] []) := hT
    have DH : Hid (Ldr.TD ws 3 l) := hD
    have WF : Hid (ws.Nodup ∧ (∀ x ∈ ws, 1 ≤ x ∧ x ≤ 30) ∧ ws.length ≤ 10) := by
      have q := hD.inv
      refine ⟨by rw [← hD.all]; exact q.nd, by rw [← hD.all]; exact q.word, hl⟩
    obtain ⟨n, en⟩ : ∃ n, n = ws.length := ⟨_, rfl⟩
    have EN : Hid (n = ws.length) := en
    have hn10 : n ≤ 10 := by omega
    obtain ⟨qa, ca, eva⟩ := own_form hT.ea
    rw [← en] at eva
    subst eva
    clear hcut hT hD hl en T3
    go_wp2_with fail
    go_loopw [23] (fun y wr => y = .int .i64 0 ∧ Hid (TT w wr P1 P2 (Agr.start 3) f1 l f2 vh (evs 4 2 ws) (.slice qa n ca) ws (.slice none 0 0) [] [])) (fun _ _ => 0)
    case atStart => exact ⟨rfl, T7⟩
    case round =>
      obtain ⟨rfl, hQ⟩ := hrel
      obtain ⟨w8, ew8⟩ : ∃ w8, w8 = wr := ⟨_, rfl⟩
      subst ew8
      have T8 : Hid (TT w w8 P1 P2 (Agr.start 3) f1 l f2 vh (evs 4 2 ws) (.slice qa n ca) ws (.slice none 0 0) [] []) := hQ
      clear hQ T7
      go_wp2_with fail
      go_loopw [12, 27] (fun x12 y wr => ∃ (m p : Nat) (vh : Value), m ≤ 3 ∧ vh = x12 ∧ y = .int .i64 (m : Int) ∧ Hid (TT w wr P1 P2 (Agr.start 3) f1 l f2 vh ((tH ws).take p) (.slice qa n ca) ws (.slice none 0 0) [] [] ∧ (m ≤ 2 → p = (m + 1) * n) ∧ p ≤ 4 * n)) (fun _ y _ => 3 - (intOf y).toNat)
      case atStart =>
        refine ⟨0, n, _, by omega, rfl, rfl, ?_, fun _ => by omega, by omega⟩
        have e : (tH ws).take n = evs 4 2 ws := by rw [EN.out, tH_said]
        rw [e]
        exact T8.out
      case round =>
        obtain ⟨m, p, vh, hm3, rfl, rfl, hQ⟩ := hrel
        by_cases hm : m < 3
        · have hm' : (m : Int) < 3 := by omega
          have HP : Hid (p = (m + 1) * n) := hQ.out.2.1 (by omega)
          go_wp2_with fail
          refine (hdN_A w.heap.size P1 (Agr.start 3) f1 m wr hQ.out.1.ag (Agr.Inv.start (by omega) (by omega)) (show m < 3 from hm)).mono ?_
          rintro e w9 ⟨v9, rfl, _, hb9⟩
          have T9 : Hid (TT w w9 P1 P2 (Agr.start 3) f1 l f2 vh ((tH ws).take p) (.slice qa n ca) ws (.slice none 0 0) [] []) := hQ.out.1.later hb9
          clear hb9
          go_wp2_with fail
          refine (hdN_L w.heap.size P2 l f2 m w9 T9.out.ld DH.out.inv (by rw [DH.out.n]; exact hm)).mono ?_
          rintro e wa ⟨va, rfl, hoa, hba⟩
          rw [(DH.out.heard hm).1] at hoa
          have TA : Hid (TT w wa P1 P2 (Agr.start 3) f1 l f2 vh ((tH ws).take p) (.slice qa n ca) ws va ws []) := T9.out.see (B := 0) hba hoa
          clear hoa hba T9
          obtain ⟨qv, cv, evv, hvv⟩ := Iw.vw TA.out.ev
          have VV : Hid (n = ws.length) := EN.out
          rw [← EN.out] at evv
          subst evv
          have d1 : ((n : Int) != (n : Int)) = false := by simp
          clear hvv hQ
          go_wp2_with fail
          go_loopw [12, 30] (fun x12 y wr => ∃ (k p : Nat) (vh : Value), k ≤ n ∧ vh = x12 ∧ y = .int .i64 (k : Int) ∧ Hid (TT w wr P1 P2 (Agr.start 3) f1 l f2 vh ((tH ws).take p) (.slice qa n ca) ws (.slice qv n cv) ws [] ∧ p = (m + 1) * n + (if m < 2 then k else min k cut.toNat))) (fun _ y _ => n - (intOf y).toNat)
          case atStart => exact ⟨0, p, _, by omega, rfl, rfl, TA.out, by rw [HP.out]; split <;> simp⟩
          case round =>
            obtain ⟨k, p, vh, hk, rfl, rfl, hK⟩ := hrel
            by_cases hkn : k < n
            · have hkn' : (k : Int) < (n : Int) := by omega
              have hk0 : (0 : Int) ≤ (k : Int) := by omega
              obtain ⟨qv', cv', ev', hvw⟩ := Iw.vw hK.out.1.ev
              have eq : qv' = qv := by injection ev' with e1 _ _; exact e1.symm
              subst eq
              obtain ⟨b9, o9, rfl, hb9, hc9⟩ := hvw.2 (by rw [← EN.out]; omega)
              obtain ⟨x, ex⟩ : ∃ x, x = ws.getD k 0 := ⟨_, rfl⟩
              have c9 : wr.cell? ⟨b9, o9 + k, none⟩ = some (.int .i64 x) := by rw [ex]; exact hc9 k (by rw [← EN.out]; exact hkn)
              have hp4 : p ≤ 4 * n := by
                rw [hK.out.2]
                have : (if m < 2 then k else min k cut.toNat) ≤ n := by split <;> omega
                rcases m with _ | _ | _ | m <;> omega
              have hpl : p ≤ 40 := by omega
              by_cases hgo : m < 2 ∨ (k : Int) < cut
              · have ep : p = (m + 1) * n + k := by
                  rw [hK.out.2]
                  split
                  · rfl
                  · congr 1
                    omega
                have hlp : p < 4 * ws.length := by rw [← EN.out]; rcases m with _ | _ | _ | m <;> omega
                have EP : Hid ((m + 1) * n + (if m < 2 then k + 1 else min (k + 1) cut.toNat) = p + 1 ∧ (tH ws).take (p + 1) = (tH ws).take p ++ [((m : Int), 3, x)] ∧ ((tH ws).take p).length = p) := by
                  refine ⟨?_, ?_, by rw [List.length_take, tH_len]; omega⟩
                  · rw [ep]
                    split
                    · omega
                    · omega
                  · rw [take_ev (by rw [tH_len]; exact hlp), ep, ex]
                    have q := tH_at hm (i := k) (ws := ws) (by rw [← EN.out]; exact hkn)
                    rw [← EN.out] at q
                    rw [q]
                obtain ⟨qh, ch, evh⟩ := own_form hK.out.1.eh
                rw [EP.out.2.2] at evh
                subst evh
                have OH : Hid (wr.ownsRow w.heap.size 45 3 (.slice qh p ch) p (flat ((tH ws).take p))) := by
                  have o := hK.out.1.eh
                  unfold Eo at o
                  rw [EP.out.2.2] at o
                  exact o
                clear ep hlp ex hc9 hvw ev' hb9
                rcases (show m < 2 ∨ (¬ m < 2 ∧ (k : Int) < cut) by omega) with g1 | ⟨g1, g2⟩
                all_goals
                  clear hgo
                  go_wp2_with (at_builtin; refine wpList_append_lies _ rfl _ _ 32 rfl w.heap.size 45 ie (.agg #[.int .i64 0, .int .i64 0, .int .i64 0]) 3 24 Try.underlying32 HE.out.1 HE.out.2.1 HE.out.2.2.1 HE.out.2.2.2 rfl (by decide) (.slice qh p ch) p (flat ((tH ws).take p)) rfl (by exact own_pushT OH.out rfl) ⟨wr.heap.size, 0, none⟩ 1 1 (flat [((m : Int), 3, x)]) rfl rfl (by exact news1 wr _ rfl (m : Int) 3 x 45) (flat_one _) (by omega) (by unfold maxLen; omega) (by omega) (by have := hK.out.1.bel.size; simp; omega) (wr.heap.size + 1) (by simp) ?_; intro gh gd w6 hown hgrow hat _; have T6 : Hid (TT w w6 P1 P2 (Agr.start 3) f1 l f2 (.slice (some ⟨gh, 0, none⟩) (p + 1) gd) ((tH ws).take (p + 1)) (.slice qa n ca) ws (.slice (some ⟨b9, o9, none⟩) n cv) ws []) := hK.out.1.addH (by rw [EP.out.2.1]; show World.ownsRow _ _ _ _ _ _ _; rw [List.length_append, flat_append, EP.out.2.2]; exact hown) hgrow hat; clear hown hgrow hat)
                  go_roundw
                  case rel => exact ⟨k + 1, p + 1, _, by omega, rfl, by go_num, T6.out, EP.out.1.symm⟩
                  case measure => simp [intOf]; omega
              · have g1 : ¬ m < 2 := by omega
                have g2 : ¬ (k : Int) < cut := by omega
                have EP : Hid ((m + 1) * n + (if m < 2 then k + 1 else min (k + 1) cut.toNat) = p) := by
                  show _ = _
                  rw [hK.out.2, if_neg g1, if_neg g1]
                  omega
                clear hgo ex hc9 hvw ev' hb9
                go_wp2
                go_roundw
                case rel => exact ⟨k + 1, p, _, by omega, rfl, by go_num, hK.out.1, EP.out.symm⟩
                case measure => simp [intOf]; omega
            · have hkn' : ¬ (k : Int) < (n : Int) := by omega
              have ek : k = n := by omega
              have EP : Hid ((m + 1 ≤ 2 → p = (m + 1 + 1) * n) ∧ p ≤ 4 * n) := by
                rw [hK.out.2, ek]
                refine ⟨fun q => ?_, ?_⟩
                · rw [if_pos (by omega), Nat.add_mul (m + 1) 1 n]
                  omega
                · have : (if m < 2 then n else min n cut.toNat) ≤ n := by split <;> omega
                  rcases m with _ | _ | _ | m <;> omega
              clear ek
              go_wp2
              go_roundw
              case rel => exact ⟨m + 1, p, _, by omega, rfl, by go_num, hK.out.1.blind, EP.out⟩
              case measure => simp [intOf]; omega
        · have hm' : ¬ (m : Int) < 3 := by omega
          obtain ⟨ah, ch, evh, h1, h2, h3⟩ := Eo.see hQ.out.1.eh
          have hp := hQ.out.2.2
          obtain ⟨q1, q2, q3, q4⟩ := tH_faces WF.out.1 WF.out.2.1 WF.out.2.2 (n := p) (by rw [tH_len, ← EN.out]; exact hp)
          obtain ⟨lh, elh⟩ : ∃ lh, lh = ((tH ws).take p).length := ⟨_, rfl⟩
          rw [← elh] at evh h1 h3
          subst evh
          have HH : Hid (lh ≤ ch ∧ ch ≤ maxLen ∧ Ew wr ah lh ((tH ws).take p) ∧ His.chkC ((tH ws).take p) = 0 ∧ His.fifoB ((tH ws).take p) = true ∧ His.causB ((tH ws).take p) = true ∧ His.totB ((tH ws).take p) = true) := ⟨h1, h2, h3, q1, q2, q3, q4⟩
          clear h1 h2 h3 q1 q2 q3 q4 elh hp
          go_wp2_with fail
          refine (of_ok ah lh ch ((tH ws).take p) wr HH.out.1 HH.out.2.1 HH.out.2.2.1 HH.out.2.2.2.1).mono ?_
          rintro e wb ⟨rfl, hbb⟩
          rw [HH.out.2.2.2.2.1, HH.out.2.2.2.2.2.1, HH.out.2.2.2.2.2.2]
          have BB : Hid (Below w.heap.size w wb) := hQ.out.1.bel.trans (hbb.mono hQ.out.1.bel.size)
          clear hbb
          go_wp2
          go_ret
          exact ⟨rfl, BB.out.alloc BB.out.size _⟩
set_option maxRecDepth 100000 in
set_option maxHeartbeats 8000000 in
theorem agree_any (a : Option Addr) (len cap : Nat) (zs : List Int) (cut : Int) (w : World) (hv : Vw w a len zs) (hlm : len ≤ maxLen) : Calls Try.prog 3 #[.slice a len cap, .bool false, .int .i64 cut] w fun e w' => e = .returned (.bool true) ∧ Below w.heap.size w w' := by
  have HL : Hid (Vw w a len zs) := hv
  obtain ⟨ii, hii, hz0, hz1, hz2⟩ := info_int
  have HJ : Hid (Try.prog.info? 3 = some ii ∧ ii.zero = some (.int .i64 0) ∧ ii.size = 1 ∧ ii.bytes = 8) := ⟨hii, hz0, hz1, hz2⟩
  clear hv hii hz0 hz1 hz2
  obtain ⟨ie, hie, hz0, hz1, hz2⟩ := info_ev
  have HE : Hid (Try.prog.info? 45 = some ie ∧ ie.zero = some (.agg #[.int .i64 0, .int .i64 0, .int .i64 0]) ∧ ie.size = 3 ∧ ie.bytes = 24) := ⟨hie, hz0, hz1, hz2⟩
  clear hie hz0 hz1 hz2
  go_enter Try.func3, Try.ntmps3
  go_wp2_with fail
  refine (His.one_any w).mono ?_
  rintro e w1 ⟨rfl, hb1⟩
  have B1 : Hid (Below w.heap.size w w1) := hb1
  clear hb1
  go_wp2_with fail
  refine (Agr.newA_ok 3 (by omega) (by omega) w1).mono ?_
  rintro e w2 ⟨P1, f1, rfl, hA, hb2⟩
  have A2 : Hid (Agr.AS w2 w1.heap.size P1 (Agr.start 3) f1 ∧ Below w1.heap.size w1 w2) := ⟨hA, hb2⟩
  clear hA hb2
  go_wp2_with fail
  refine (Ldr.newL_ok 3 (by omega) (by omega) w2).mono ?_
  rintro e w3 ⟨P2, f2, rfl, hA, hb3⟩
  have T3 : Hid (TT w w3 P1 P2 (Agr.start 3) f1 (Ldr.start 3) f2 (.slice none 0 0) [] (.slice none 0 0) [] (.slice none 0 0) [] []) := TT.start (A2.out.1.lower B1.out.size) (B1.out.trans (A2.out.2.mono B1.out.size)) hA hb3
  clear hA hb3 A2 B1
  go_upto_block 0 with fail
  go_cut [12, 13, 14, 20, 21, 22] from 50 to 123 (fun x12 x13 x14 x20 x21 x22 wc => Hid (∃ vh va wn g f1, vh = x12 ∧ va = x13 ∧ TT w wc P1 P2 g f1 (Ldr.start 3) f2 vh (evs 4 2 (Agr.ints wn)) va (Agr.ints wn) (.slice none 0 0) [] [] ∧ Agr.TB wn 3 g ∧ wn.length ≤ 10 ∧ Agr.Le g 33))
  case first =>
    go_wp2_with fail
    go_loopw [12, 13, 14] (fun x12 x13 x14 wr => ∃ (i : Nat) (vh va : Value) (wn : List Nat) (g : Agr.G) (f1 : List Nat), i ≤ len ∧ i ≤ 10 ∧ vh = x12 ∧ va = x13 ∧ x14 = .int .i64 (i : Int) ∧ Hid (TT w wr P1 P2 g f1 (Ldr.start 3) f2 vh (evs 4 2 (Agr.ints wn)) va (Agr.ints wn) (.slice none 0 0) [] [] ∧ Agr.TB wn 3 g ∧ wn.length ≤ i ∧ Agr.Le g (3 * i))) (fun _ _ x _ => len - (intOf x).toNat)
    case atStart => exact ⟨0, _, _, [], _, _, by omega, by omega, rfl, rfl, rfl, T3.out, Agr.TB.begin, Nat.le_refl _, Agr.Le.start 3⟩
    case round =>
      obtain ⟨i, vh, va, wn, g, f1, hi, hi10, rfl, rfl, rfl, hQ⟩ := hrel
      by_cases hgo : (i : Int) < (len : Int) ∧ (i : Int) < 10
      · obtain ⟨hil, hi10'⟩ := hgo
        have hi0 : (0 : Int) ≤ (i : Int) := by omega
        obtain ⟨rb, ro, rfl, hrb, hrc⟩ := HL.out.2 (by omega)
        obtain ⟨x, ex⟩ : ∃ x, x = zs.getD i 0 := ⟨_, rfl⟩
        have HX : Hid (rb < w.heap.size ∧ w.cell? ⟨rb, ro + i, none⟩ = some (.int .i64 x)) := ⟨hrb, by rw [ex]; exact hrc i (by omega)⟩
        have c0 : wr.cell? ⟨rb, ro + i, none⟩ = some (.int .i64 x) := (hQ.out.1.bel.cell (p := ⟨rb, ro + i, none⟩) HX.out.1).trans HX.out.2
        clear hrb hrc ex
        have LE : Hid (∀ m, g.most m ≤ 10000) := fun m => Nat.le_trans (hQ.out.2.2.2 m) (by omega)
        go_wp2_with fail
        refine (Agr.sayA w.heap.size P1 g f1 x wr hQ.out.1.ag hQ.out.2.1.inv LE.out hQ.out.1.bel.size).mono ?_
        rintro e w2 ⟨f1', rfl, hA, hb, hk, hn⟩
        have T2 : Hid (TT w w2 P1 P2 (Agr.say g x) f1' (Ldr.start 3) f2 vh (evs 4 2 (Agr.ints wn)) va (Agr.ints wn) (.slice none 0 0) [] []) := hQ.out.1.agree hA hb hk hn
        by_cases hc : Agr.sayC g x = 0
        · obtain ⟨hT, eP⟩ := hQ.out.2.1.said hc
          rw [hc, Agr.errF_ok]
          obtain ⟨xn, en⟩ : ∃ xn : Nat, xn = x.toNat := ⟨_, rfl⟩
          rw [← en] at hT eP
          have M3 : Hid (TT w w2 P1 P2 (Agr.say g x) f1' (Ldr.start 3) f2 vh (evs 4 2 (Agr.ints wn)) va (Agr.ints wn) (.slice none 0 0) [] [] ∧ Agr.TB (wn ++ [xn]) 0 (Agr.say g x) ∧ Agr.Le (Agr.say g x) (3 * i + 0)) := ⟨T2.out, hT, (hQ.out.2.2.2.say x).mono (by omega)⟩
          have EX : Hid (x = (xn : Int)) := eP.symm
          clear hA hb hk hn hc hT eP T2 en c0 LE
          go_wp2_with fail
          go_loopw [20] (fun y wr => ∃ (j : Nat) (g : Agr.G) (f1 : List Nat), j ≤ 3 ∧ y = .int .i64 (j : Int) ∧ Hid (TT w wr P1 P2 g f1 (Ldr.start 3) f2 vh (evs 4 2 (Agr.ints wn)) va (Agr.ints wn) (.slice none 0 0) [] [] ∧ Agr.TB (wn ++ [xn]) j g ∧ Agr.Le g (3 * i + j))) (fun y _ => 3 - (intOf y).toNat)
          case atStart => exact ⟨0, _, _, by omega, rfl, M3⟩
          case round =>
            obtain ⟨j, g, f1, hj, rfl, hM⟩ := hrel
            by_cases hj3 : j < 3
            · have hj3' : (j : Int) < 3 := by omega
              have b0 : wr.cell? ⟨rb, ro + i, none⟩ = some (.int .i64 x) := (hM.out.1.bel.cell (p := ⟨rb, ro + i, none⟩) HX.out.1).trans HX.out.2
              have HT : Hid (Agr.proC g (j : Int) x = 0 ∧ Agr.TB (wn ++ [xn]) (j + 1) (Agr.pro g (j : Int) x)) := by
                rw [EX.out]
                exact hM.out.2.1.given hj3
              have LE : Hid (∀ m, g.most m ≤ 10000) := fun m => Nat.le_trans (hM.out.2.2 m) (by omega)
              go_wp2_with fail
              refine (Agr.proA w.heap.size P1 g f1 (j : Int) x wr hM.out.1.ag hM.out.2.1.inv LE.out hM.out.1.bel.size).mono ?_
              rintro e w4 ⟨f4, rfl, hA, hb, hk, hn⟩
              obtain ⟨s0, es0⟩ : ∃ s : Int, s = ((Agr.proS g (j : Int) x).1 : Int) := ⟨_, rfl⟩
              obtain ⟨s1, es1⟩ : ∃ s : Int, s = ((Agr.proS g (j : Int) x).2 : Int) := ⟨_, rfl⟩
              rw [HT.out.1, Agr.errF_ok, ← es0, ← es1]
              have M4 : Hid (TT w w4 P1 P2 (Agr.pro g (j : Int) x) f4 (Ldr.start 3) f2 vh (evs 4 2 (Agr.ints wn)) va (Agr.ints wn) (.slice none 0 0) [] []) := hM.out.1.agree hA hb hk hn
              clear hA hb hk hn b0 es0 es1 LE
              go_wp2
              go_roundw
              case rel => exact ⟨j + 1, _, _, by omega, by go_num, M4.out.later ((Below.refl _ _).alloc (Nat.le_refl _) _), HT.out.2, (hM.out.2.2.pro _ _).mono (by omega)⟩
              case measure => simp [intOf]; omega
            · have TE : Hid (TT w wr P1 P2 g f1 (Ldr.start 3) f2 vh (evs 4 2 (Agr.ints wn)) va (Agr.ints wn) (.slice none 0 0) [] [] ∧ (Agr.ints wn).length ≤ 9) := ⟨hM.out.1, by rw [ints_len]; have := hQ.out.2.2.1; omega⟩
              have HT : Hid (Agr.TB (wn ++ [xn]) 3 g ∧ Agr.Le g (3 * (i + 1)) ∧ Agr.ints (wn ++ [xn]) = Agr.ints wn ++ [x]) := by
                have q := hM.out.2.1
                rw [show j = 3 by omega] at q
                exact ⟨q, hM.out.2.2.mono (by omega), by rw [EX.out]; simp [Agr.ints]⟩
              clear hM
              obtain ⟨qa, ca, eva⟩ := own_form TE.out.1.ea
              obtain ⟨la, ela⟩ : ∃ la, la = (Agr.ints wn).length := ⟨_, rfl⟩
              have ELA : Hid (la = (Agr.ints wn).length) := ela
              rw [← ela] at eva
              subst eva
              have hla : la ≤ 10 := by have := TE.out.2; omega
              have OA : Hid (wr.ownsRow w.heap.size 3 1 (.slice qa la ca) la ((Agr.ints wn).map (Value.int .i64))) := by
                have o := TE.out.1.ea
                unfold Iw at o
                rw [← ela] at o
                exact o
              obtain ⟨qh, ch, evh⟩ := own_form TE.out.1.eh
              have elh : (evs 4 2 (Agr.ints wn)).length = la := by rw [evs_len, ela]
              rw [elh] at evh
              subst evh
              have c1 : wr.cell? ⟨rb, ro + i, none⟩ = some (.int .i64 x) := (TE.out.1.bel.cell (p := ⟨rb, ro + i, none⟩) HX.out.1).trans HX.out.2
              have hrbw : rb < wr.heap.size := Nat.lt_of_lt_of_le HX.out.1 TE.out.1.bel.size
              clear ela elh
              go_upto_region 30 with (at_builtin; refine wpList_append_lies _ rfl _ _ 22 rfl w.heap.size 3 ii (.int .i64 0) 1 8 Try.underlying22 HJ.out.1 HJ.out.2.1 HJ.out.2.2.1 HJ.out.2.2.2 rfl (by decide) (.slice qa la ca) la ((Agr.ints wn).map (Value.int .i64)) rfl (by exact own_pushT OA.out rfl) ⟨wr.heap.size, 0, none⟩ 1 1 [.int .i64 x] rfl rfl (by exact new_int wr _ rfl _ _) (int_one _) (by omega) (by unfold maxLen; omega) (by omega) (by have := TE.out.1.bel.size; simp; omega) (wr.heap.size + 1) (by simp) ?_; intro gg gc w5 hown hgrow hat _; have T5 : Hid (TT w w5 P1 P2 g f1 (Ldr.start 3) f2 (.slice qh la ch) (evs 4 2 (Agr.ints wn)) (.slice (some ⟨gg, 0, none⟩) (la + 1) gc) ((Agr.ints wn) ++ [x]) (.slice none 0 0) [] []) := TE.out.1.addA (by show World.ownsRow _ _ _ _ _ _ _; rw [List.length_append, List.map_append, ← ELA.out]; exact hown) hgrow hat; clear hown hgrow hat)
              have c5 : w5.cell? ⟨rb, ro + i, none⟩ = some (.int .i64 x) := (T5.out.bel.cell (p := ⟨rb, ro + i, none⟩) HX.out.1).trans HX.out.2
              have OH : Hid (w5.ownsRow w.heap.size 45 3 (.slice qh la ch) la (flat (evs 4 2 (Agr.ints wn)))) := by
                have o := T5.out.eh
                unfold Eo at o
                rw [evs_len, ← ELA.out] at o
                exact o
              clear c1 hrbw
              go_wp2_with (at_builtin; refine wpList_append_lies _ rfl _ _ 32 rfl w.heap.size 45 ie (.agg #[.int .i64 0, .int .i64 0, .int .i64 0]) 3 24 Try.underlying32 HE.out.1 HE.out.2.1 HE.out.2.2.1 HE.out.2.2.2 rfl (by decide) (.slice qh la ch) la (flat (evs 4 2 (Agr.ints wn))) rfl (by exact own_pushT OH.out rfl) ⟨w5.heap.size, 0, none⟩ 1 1 (flat [(4, 2, x)]) rfl rfl (by exact news1 w5 _ rfl 4 2 x 45) (flat_one _) (by omega) (by unfold maxLen; omega) (by omega) (by have := T5.out.bel.size; simp; omega) (w5.heap.size + 1) (by simp) ?_; intro gh gd w6 hown hgrow hat _; have T6 : Hid (TT w w6 P1 P2 g f1 (Ldr.start 3) f2 (.slice (some ⟨gh, 0, none⟩) (la + 1) gd) (evs 4 2 ((Agr.ints wn) ++ [x])) (.slice (some ⟨gg, 0, none⟩) (la + 1) gc) ((Agr.ints wn) ++ [x]) (.slice none 0 0) [] []) := T5.out.addH (by rw [evs_snoc]; show World.ownsRow _ _ _ _ _ _ _; rw [List.length_append, flat_append, evs_len, ← ELA.out]; exact hown) hgrow hat; clear hown hgrow hat)
              go_roundw
              case rel =>
                refine ⟨i + 1, _, _, wn ++ [xn], g, f1, by omega, by omega, rfl, rfl, by go_num, ?_, HT.out.1, by rw [List.length_append]; have := hQ.out.2.2.1; simp; omega, HT.out.2.1⟩
                rw [HT.out.2.2]
                exact T6.out
              case measure => simp [intOf]; omega
        · have eS : Agr.say g x = g := if_neg hc
          rw [Agr.errF_no hc]
          have T4 : Hid (TT w w2 P1 P2 g f1' (Ldr.start 3) f2 vh (evs 4 2 (Agr.ints wn)) va (Agr.ints wn) (.slice none 0 0) [] []) := by
            have q := T2.out
            rw [eS] at q
            exact q
          clear hA hb hk hn eS hc c0 T2 LE
          go_wp2
          go_roundw
          case rel => exact ⟨i + 1, _, _, wn, g, f1', by omega, by omega, rfl, rfl, by go_num, T4.out, hQ.out.2.1, by have := hQ.out.2.2.1; omega, hQ.out.2.2.2.mono (by omega)⟩
          case measure => simp [intOf]; omega
      · rcases (show ((i : Int) < (len : Int) ∧ ¬ (i : Int) < 10) ∨ ¬ (i : Int) < (len : Int) by omega) with ⟨e1, e2⟩ | e1
        all_goals
          clear hgo
          go_wp2
          go_meet
          exact ⟨vh, va, wn, g, f1, rfl, rfl, hQ.out.1, hQ.out.2.1, by have := hQ.out.2.2.1; omega, hQ.out.2.2.2.mono (by omega)⟩
  case rest =>
    obtain ⟨vh, va, wn, g0, f0, rfl, rfl, hT, hD, hl, hle⟩ := hcut.out
    obtain ⟨w7, ew7⟩ : ∃ w7, w7 = wc := ⟨_, rfl⟩
    subst ew7
    obtain ⟨ws, ews⟩ : ∃ ws, ws = Agr.ints wn := ⟨_, rfl⟩
    rw [← ews] at hT
    have WF : Hid (ws.Nodup ∧ (∀ x ∈ ws, 1 ≤ x ∧ x ≤ 30) ∧ ws.length ≤ 10) := by
      rw [ews]
      exact ⟨ints_nd hD.nd, ints_rng hD.rng, by rw [ints_len]; exact hl⟩
    obtain ⟨n, en⟩ : ∃ n, n = ws.length := ⟨_, rfl⟩
    have EN : Hid (n = ws.length) := en
    have EWS : Hid (ws = Agr.ints wn ∧ n = wn.length) := ⟨ews, by rw [en, ews, ints_len]⟩
    have hn10 : n ≤ 10 := by rw [EWS.out.2]; exact hl
    obtain ⟨qa, ca, eva⟩ := own_form hT.ea
    rw [← en] at eva
    subst eva
    have T7 : Hid (TT w w7 P1 P2 g0 f0 (Ldr.start 3) f2 vh (evs 4 2 ws) (.slice qa n ca) ws (.slice none 0 0) [] [] ∧ Agr.TC wn 0 n g0 ∧ Agr.Le g0 33) := ⟨hT, by rw [EWS.out.2]; exact hD.all, hle⟩
    clear hcut hT hD hl hle en ews T3
    go_wp2_with fail
    go_loopw [23] (fun y wr => ∃ (m : Nat) (g : Agr.G) (f1 : List Nat), m ≤ 3 ∧ y = .int .i64 (m : Int) ∧ Hid (TT w wr P1 P2 g f1 (Ldr.start 3) f2 vh (evs 4 2 ws) (.slice qa n ca) ws (.slice none 0 0) [] [] ∧ Agr.TC wn m n g ∧ Agr.Le g 33)) (fun y _ => 3 - (intOf y).toNat)
    case atStart => exact ⟨0, _, _, by omega, rfl, T7⟩
    case round =>
      obtain ⟨m, g, f1, hm3, rfl, hQ⟩ := hrel
      by_cases hm : m < 3
      · have hm' : (m : Int) < 3 := by omega
        obtain ⟨wo, ewo⟩ : ∃ wo, wo = wr := ⟨_, rfl⟩
        subst ewo
        go_wp2_with fail
        go_loopw [24] (fun y wr => ∃ (k : Nat) (g : Agr.G) (f1 : List Nat), k ≤ n ∧ y = .int .i64 ((k : Int) - 1) ∧ Hid (TT w wr P1 P2 g f1 (Ldr.start 3) f2 vh (evs 4 2 ws) (.slice qa n ca) ws (.slice none 0 0) [] [] ∧ Agr.TC wn m k g ∧ Agr.Le g 33)) (fun y _ => (intOf y + 1).toNat)
        case atStart => exact ⟨n, g, f1, by omega, by go_num, hQ⟩
        case round =>
          obtain ⟨k, g, f1, hk, rfl, hK⟩ := hrel
          by_cases hk0 : 0 < k
          · have hk0' : (k : Int) - 1 ≥ 0 := by omega
            obtain ⟨k', rfl⟩ : ∃ k', k = k' + 1 := ⟨k - 1, by omega⟩
            have ek : ((k' + 1 : Nat) : Int) - 1 = (k' : Int) := by omega
            rw [ek]
            have hkn : (k' : Int) < (n : Int) := by omega
            have hk00 : (0 : Int) ≤ (k' : Int) := by omega
            have hk1 : k' < wn.length := by rw [← EWS.out.2]; omega
            obtain ⟨qa', ca', ea', hva⟩ := Iw.vw hK.out.1.ea
            have eq : qa' = qa := by injection ea' with e1 _ _; exact e1.symm
            subst eq
            obtain ⟨b9, o9, rfl, hb9, hc9⟩ := hva.2 (by rw [← EN.out]; omega)
            obtain ⟨xn, exn⟩ : ∃ xn, xn = wn[k'] := ⟨_, rfl⟩
            have c9 : wr.cell? ⟨b9, o9 + k', none⟩ = some (.int .i64 (xn : Int)) := by
              rw [hc9 k' (by rw [← EN.out]; omega), EWS.out.1, exn]
              simp [Agr.ints, List.getD, hk1]
            have HT : Hid (Agr.setC g (m : Int) (xn : Int) = 0 ∧ Agr.TC wn m k' (Agr.set g (m : Int) (xn : Int))) := by
              rw [exn]
              exact hK.out.2.1.settled hm hk1
            have LE : Hid (∀ m, g.most m ≤ 10000) := fun m => Nat.le_trans (hK.out.2.2 m) (by omega)
            clear hc9 hb9 hva ea' exn hk0' ek
            go_wp2_with fail
            refine (Agr.setA w.heap.size P1 g f1 (m : Int) (xn : Int) wr hK.out.1.ag hK.out.2.1.inv LE.out hK.out.1.bel.size).mono ?_
            rintro e w4 ⟨v4, f4, rfl, _, hA, hb, hk4, hn⟩
            rw [HT.out.1, Agr.errF_ok]
            have M4 : Hid (TT w w4 P1 P2 (Agr.set g (m : Int) (xn : Int)) f4 (Ldr.start 3) f2 vh (evs 4 2 ws) (.slice (some ⟨b9, o9, none⟩) n ca) ws (.slice none 0 0) [] []) := hK.out.1.agree hA hb hk4 hn
            clear hA hb hk4 hn c9 LE
            go_wp2
            go_roundw
            case rel => exact ⟨k', _, _, by omega, by go_num, M4.out, HT.out.2, hK.out.2.2.set hK.out.2.1.inv.toInv0 _ _⟩
            case measure => first | (simp [intOf]; done) | (simp [intOf]; omega)
          · have hk0' : ¬ (k : Int) - 1 ≥ 0 := by omega
            have KE : Hid (TT w wr P1 P2 g f1 (Ldr.start 3) f2 vh (evs 4 2 ws) (.slice qa n ca) ws (.slice none 0 0) [] [] ∧ Agr.TC wn (m + 1) n g ∧ Agr.Le g 33) := by
              have q := hK.out.2.1
              rw [show k = 0 by omega] at q
              exact ⟨hK.out.1, by rw [EWS.out.2]; exact q.next hm, hK.out.2.2⟩
            clear hK
            go_wp2
            go_roundw
            case rel => exact ⟨m + 1, g, f1, by omega, by go_num, KE⟩
            case measure => simp [intOf]; omega
      · have hm' : ¬ (m : Int) < 3 := by omega
        obtain ⟨w8, ew8⟩ : ∃ w8, w8 = wr := ⟨_, rfl⟩
        subst ew8
        have T8 : Hid (TT w w8 P1 P2 g f1 (Ldr.start 3) f2 vh (evs 4 2 ws) (.slice qa n ca) ws (.slice none 0 0) [] []) := hQ.out.1
        have DH : Hid (Agr.TC wn 3 n g) := by
          have q := hQ.out.2.1
          rw [show m = 3 by omega] at q
          exact q
        clear hQ T7
        go_wp2_with fail
        go_loopw [12, 27] (fun x12 y wr => ∃ (m p : Nat) (vh : Value), m ≤ 3 ∧ vh = x12 ∧ y = .int .i64 (m : Int) ∧ Hid (TT w wr P1 P2 g f1 (Ldr.start 3) f2 vh ((tH ws).take p) (.slice qa n ca) ws (.slice none 0 0) [] [] ∧ (m ≤ 2 → p = (m + 1) * n) ∧ p ≤ 4 * n)) (fun _ y _ => 3 - (intOf y).toNat)
        case atStart =>
          refine ⟨0, n, _, by omega, rfl, rfl, ?_, fun _ => by omega, by omega⟩
          have e : (tH ws).take n = evs 4 2 ws := by rw [EN.out, tH_said]
          rw [e]
          exact T8.out
        case round =>
          obtain ⟨m, p, vh, hm3, rfl, rfl, hQ⟩ := hrel
          by_cases hm : m < 3
          · have hm' : (m : Int) < 3 := by omega
            have HP : Hid (p = (m + 1) * n) := hQ.out.2.1 (by omega)
            go_wp2_with fail
            refine (hdN_A w.heap.size P1 g f1 m wr hQ.out.1.ag DH.out.inv (by rw [DH.out.n]; exact hm)).mono ?_
            rintro e wa ⟨va, rfl, hoa, hba⟩
            rw [DH.out.heard hm, ← EWS.out.1] at hoa
            have TA : Hid (TT w wa P1 P2 g f1 (Ldr.start 3) f2 vh ((tH ws).take p) (.slice qa n ca) ws va ws []) := hQ.out.1.see (B := 0) hba hoa
            clear hoa hba
            obtain ⟨qv, cv, evv, hvv⟩ := Iw.vw TA.out.ev
            have VV : Hid (n = ws.length) := EN.out
            rw [← EN.out] at evv
            subst evv
            have d1 : ((n : Int) != (n : Int)) = false := by simp
            clear hvv hQ
            go_wp2_with fail
            go_loopw [12, 30] (fun x12 y wr => ∃ (k p : Nat) (vh : Value), k ≤ n ∧ vh = x12 ∧ y = .int .i64 (k : Int) ∧ Hid (TT w wr P1 P2 g f1 (Ldr.start 3) f2 vh ((tH ws).take p) (.slice qa n ca) ws (.slice qv n cv) ws [] ∧ p = (m + 1) * n + (if m < 2 then k else min k cut.toNat))) (fun _ y _ => n - (intOf y).toNat)
            case atStart => exact ⟨0, p, _, by omega, rfl, rfl, TA.out, by rw [HP.out]; split <;> simp⟩
            case round =>
              obtain ⟨k, p, vh, hk, rfl, rfl, hK⟩ := hrel
              by_cases hkn : k < n
              · have hkn' : (k : Int) < (n : Int) := by omega
                have hk0 : (0 : Int) ≤ (k : Int) := by omega
                obtain ⟨qv', cv', ev', hvw⟩ := Iw.vw hK.out.1.ev
                have eq : qv' = qv := by injection ev' with e1 _ _; exact e1.symm
                subst eq
                obtain ⟨b9, o9, rfl, hb9, hc9⟩ := hvw.2 (by rw [← EN.out]; omega)
                obtain ⟨x, ex⟩ : ∃ x, x = ws.getD k 0 := ⟨_, rfl⟩
                have c9 : wr.cell? ⟨b9, o9 + k, none⟩ = some (.int .i64 x) := by rw [ex]; exact hc9 k (by rw [← EN.out]; exact hkn)
                have hp4 : p ≤ 4 * n := by
                  rw [hK.out.2]
                  have : (if m < 2 then k else min k cut.toNat) ≤ n := by split <;> omega
                  rcases m with _ | _ | _ | m <;> omega
                have hpl : p ≤ 40 := by omega
                by_cases hgo : m < 2 ∨ (k : Int) < cut
                · have ep : p = (m + 1) * n + k := by
                    rw [hK.out.2]
                    split
                    · rfl
                    · congr 1
                      omega
                  have hlp : p < 4 * ws.length := by rw [← EN.out]; rcases m with _ | _ | _ | m <;> omega
                  have EP : Hid ((m + 1) * n + (if m < 2 then k + 1 else min (k + 1) cut.toNat) = p + 1 ∧ (tH ws).take (p + 1) = (tH ws).take p ++ [((m : Int), 3, x)] ∧ ((tH ws).take p).length = p) := by
                    refine ⟨?_, ?_, by rw [List.length_take, tH_len]; omega⟩
                    · rw [ep]
                      split
                      · omega
                      · omega
                    · rw [take_ev (by rw [tH_len]; exact hlp), ep, ex]
                      have q := tH_at hm (i := k) (ws := ws) (by rw [← EN.out]; exact hkn)
                      rw [← EN.out] at q
                      rw [q]
                  obtain ⟨qh, ch, evh⟩ := own_form hK.out.1.eh
                  rw [EP.out.2.2] at evh
                  subst evh
                  have OH : Hid (wr.ownsRow w.heap.size 45 3 (.slice qh p ch) p (flat ((tH ws).take p))) := by
                    have o := hK.out.1.eh
                    unfold Eo at o
                    rw [EP.out.2.2] at o
                    exact o
                  clear ep hlp ex hc9 hvw ev' hb9
                  rcases (show m < 2 ∨ (¬ m < 2 ∧ (k : Int) < cut) by omega) with g1 | ⟨g1, g2⟩
                  all_goals
                    clear hgo
                    go_wp2_with (at_builtin; refine wpList_append_lies _ rfl _ _ 32 rfl w.heap.size 45 ie (.agg #[.int .i64 0, .int .i64 0, .int .i64 0]) 3 24 Try.underlying32 HE.out.1 HE.out.2.1 HE.out.2.2.1 HE.out.2.2.2 rfl (by decide) (.slice qh p ch) p (flat ((tH ws).take p)) rfl (by exact own_pushT OH.out rfl) ⟨wr.heap.size, 0, none⟩ 1 1 (flat [((m : Int), 3, x)]) rfl rfl (by exact news1 wr _ rfl (m : Int) 3 x 45) (flat_one _) (by omega) (by unfold maxLen; omega) (by omega) (by have := hK.out.1.bel.size; simp; omega) (wr.heap.size + 1) (by simp) ?_; intro gh gd w6 hown hgrow hat _; have T6 : Hid (TT w w6 P1 P2 g f1 (Ldr.start 3) f2 (.slice (some ⟨gh, 0, none⟩) (p + 1) gd) ((tH ws).take (p + 1)) (.slice qa n ca) ws (.slice (some ⟨b9, o9, none⟩) n cv) ws []) := hK.out.1.addH (by rw [EP.out.2.1]; show World.ownsRow _ _ _ _ _ _ _; rw [List.length_append, flat_append, EP.out.2.2]; exact hown) hgrow hat; clear hown hgrow hat)
                    go_roundw
                    case rel => exact ⟨k + 1, p + 1, _, by omega, rfl, by go_num, T6.out, EP.out.1.symm⟩
                    case measure => simp [intOf]; omega
                · have g1 : ¬ m < 2 := by omega
                  have g2 : ¬ (k : Int) < cut := by omega
                  have EP : Hid ((m + 1) * n + (if m < 2 then k + 1 else min (k + 1) cut.toNat) = p) := by
                    show _ = _
                    rw [hK.out.2, if_neg g1, if_neg g1]
                    omega
                  clear hgo ex hc9 hvw ev' hb9
                  go_wp2
                  go_roundw
                  case rel => exact ⟨k + 1, p, _, by omega, rfl, by go_num, hK.out.1, EP.out.symm⟩
                  case measure => simp [intOf]; omega
              · have hkn' : ¬ (k : Int) < (n : Int) := by omega
                have ek : k = n := by omega
                have EP : Hid ((m + 1 ≤ 2 → p = (m + 1 + 1) * n) ∧ p ≤ 4 * n) := by
                  rw [hK.out.2, ek]
                  refine ⟨fun q => ?_, ?_⟩
                  · rw [if_pos (by omega), Nat.add_mul (m + 1) 1 n]
                    omega
                  · have : (if m < 2 then n else min n cut.toNat) ≤ n := by split <;> omega
                    rcases m with _ | _ | _ | m <;> omega
                clear ek
                go_wp2
                go_roundw
                case rel => exact ⟨m + 1, p, _, by omega, rfl, by go_num, hK.out.1.blind, EP.out⟩
                case measure => simp [intOf]; omega
          · have hm' : ¬ (m : Int) < 3 := by omega
            obtain ⟨ah, ch, evh, h1, h2, h3⟩ := Eo.see hQ.out.1.eh
            have hp := hQ.out.2.2
            obtain ⟨q1, q2, q3, q4⟩ := tH_faces WF.out.1 WF.out.2.1 WF.out.2.2 (n := p) (by rw [tH_len, ← EN.out]; exact hp)
            obtain ⟨lh, elh⟩ : ∃ lh, lh = ((tH ws).take p).length := ⟨_, rfl⟩
            rw [← elh] at evh h1 h3
            subst evh
            have HH : Hid (lh ≤ ch ∧ ch ≤ maxLen ∧ Ew wr ah lh ((tH ws).take p) ∧ His.chkC ((tH ws).take p) = 0 ∧ His.fifoB ((tH ws).take p) = true ∧ His.causB ((tH ws).take p) = true ∧ His.totB ((tH ws).take p) = true) := ⟨h1, h2, h3, q1, q2, q3, q4⟩
            clear h1 h2 h3 q1 q2 q3 q4 elh hp
            go_wp2_with fail
            refine (of_ok ah lh ch ((tH ws).take p) wr HH.out.1 HH.out.2.1 HH.out.2.2.1 HH.out.2.2.2.1).mono ?_
            rintro e wb ⟨rfl, hbb⟩
            rw [HH.out.2.2.2.2.1, HH.out.2.2.2.2.2.1, HH.out.2.2.2.2.2.2]
            have BB : Hid (Below w.heap.size w wb) := hQ.out.1.bel.trans (hbb.mono hQ.out.1.bel.size)
            clear hbb
            go_wp2
            go_ret
            exact ⟨rfl, BB.out.alloc BB.out.size _⟩
theorem total_any (a : Option Addr) (len cap : Nat) (zs : List Int) (lead : Bool) (cut : Int) (w : World) (hv : Vw w a len zs) (hlm : len ≤ maxLen) : Calls Try.prog 3 #[.slice a len cap, .bool lead, .int .i64 cut] w fun e w' => e = .returned (.bool true) ∧ Below w.heap.size w w' := by
  cases lead
  · exact agree_any a len cap zs cut w hv hlm
  · exact lead_any a len cap zs cut w hv hlm
end Go.Proofs.Ytcccheeeagphpag.Top
