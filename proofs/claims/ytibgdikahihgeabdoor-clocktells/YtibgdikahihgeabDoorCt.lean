/-
  The walk of ClockTells: package clock tells of any history what the document tells.
-/
import Derived.Test.YtibgdikahihgeabDoorClkE
import Derived.Test.YtibgdikahihgeabDoorRefI
import Derived.Test.YtibgdikahihgeabDoorRefN
import Derived.Test.YtibgdikahihgeabDoorRefV
import Derived.Test.YtibgdikahihgeabDoorTold
namespace Go.Proofs.YtibgdikahihgeabDoor.His
open Go.RowKit
open Go.Proofs.YtibgdikahihgeabDoor.Vec
open Go.Proofs.YtibgdikahihgeabDoor.As (Laid error_errno error_nil)

theorem error_same0 (w : World) : Calls Tryd.prog 6 #[.nilIface, .int .i64 0] w fun e w' => e = .returned (.bool true) ∧ Below w.heap.size w w' := by
  refine (error_nil 0 w).mono ?_
  rintro e w' ⟨rfl, hb⟩
  exact ⟨ret_bool (by simp), hb⟩
theorem error_same1 (c : Int) (w : World) (hL : Laid w) : Calls Tryd.prog 6 #[.iface 43 (.int .i64 c), .int .i64 c] w fun e w' => e = .returned (.bool true) ∧ Below w.heap.size w w' := by
  refine (error_errno c c w hL).mono ?_
  rintro e w' ⟨rfl, hb⟩
  exact ⟨ret_bool (by simp), hb⟩
theorem right_any (a : Option Addr) (len cap : Nat) (h : List Ev) (w : World) (hv : Ew w a len h) :
    Calls Tryd.prog 7 #[.slice a len cap] w fun x w' => x = .returned (.int .i64 (chkC h)) ∧ Below w.heap.size w w' := by
  go_enter Tryd.func7, Tryd.ntmps7
  go_wp2_with fail
  refine (refHistory a len cap h _ hv).mono ?_
  rintro e w1 ⟨rfl, hb⟩
  clear hv
  go_wp2
  go_ret
  exact ⟨rfl, hb⟩
theorem Vw.none (w : World) : Vw w none 0 [] := ⟨rfl, fun q => absurd q (by omega)⟩
theorem Lw.none (w : World) : Lw w none 0 [] := ⟨rfl, fun q => absurd q (by omega)⟩
theorem ints_same (a b : Option Addr) (len cap len' cap' : Nat) (xs ys : List Int) (w : World) (hv : Vw w a len xs) (hv' : Vw w b len' ys) (hm : len ≤ maxLen) (he : xs = ys) :
    Calls Tryd.prog 13 #[.slice a len cap, .slice b len' cap'] w fun e w' => e = .returned (.bool true) ∧ Below w.heap.size w w' := by
  refine (ints_any a b len cap len' cap' xs ys w hv hv' hm).mono ?_
  rintro e w' ⟨rfl, n, rfl⟩
  exact ⟨ret_bool (decide_eq_true he), below_drewN (Below.refl _ _) _⟩

theorem ordI_len (h : List Ev) (n w i : Nat) : (ordI h n w i).length ≤ i := by
  have := List.length_filter_le (fun j => decide (num h j = n) && decide (W h j = w)) (List.range i)
  simpa [ordI] using this
theorem ordW_len (h : List Ev) (N n : Nat) : ∀ w, (ordW h N n w).length ≤ N * w := by
  intro w
  induction w with
  | zero => simp [ordW]
  | succ w ih =>
    rw [ordW, List.length_append, Nat.mul_succ]
    have := ordI_len h n w N
    omega
theorem ordN_len (h : List Ev) (N : Nat) : ∀ n, (ordN h N n).length ≤ N * 5 * n := by
  intro n
  induction n with
  | zero => simp [ordN]
  | succ n ih =>
    rw [ordN, List.length_append, Nat.mul_succ]
    have := ordW_len h N (n + 1) 5
    omega
/-- a list of places that the call owns -/
def OL (w : World) (base : Nat) (v : Value) (l : List Nat) : Prop := w.ownsRow base 3 1 v l.length ((l.map Int.ofNat).map (Value.int .i64))
theorem OL.later {w w' : World} {base : Nat} {v : Value} {l : List Nat} (g : OL w base v l) (hb : Below w.heap.size w w') : OL w' base v l := own_later g hb

set_option maxRecDepth 100000 in
set_option maxHeartbeats 4000000 in
theorem ct_no (a : Option Addr) (len cap : Nat) (h : List Ev) (w : World) (hlc : len ≤ cap) (hm : cap ≤ maxLen) (hv : Ew w a len h) (hL : Laid w) (hc : chkC h ≠ 0) :
    Calls Tryd.prog 4 #[.slice a len cap] w fun e w' => e = .returned (.bool true) ∧ Below w.heap.size w w' := by
  have H : Hid (len ≤ cap ∧ cap ≤ maxLen ∧ Ew w a len h ∧ Laid w) := ⟨hlc, hm, hv, hL⟩
  have HC : Hid (chkC h ≠ 0) := hc
  obtain ⟨c, ec⟩ : ∃ c, c = chkC h := ⟨_, rfl⟩
  have EC : Hid (chkC h = c) := ec.symm
  have hc0 : (c == 0) = false := by rw [ec]; simp [hc]
  clear ec hc hv hlc hm hL
  go_enter Tryd.func4, Tryd.ntmps4
  go_wp2_with fail
  refine (right_any a len cap h _ H.out.2.2.1).mono ?_
  rintro e w1 ⟨rfl, hb⟩
  rw [EC.out]
  have V1 : Hid (Below w.heap.size w w1) := hb
  clear hb
  go_wp2_with fail
  refine wp_loop_rounds 1 ?_
  rw [rounds_succ]
  go_wp2_with fail
  refine (vectors_no a len cap h _ H.out.1 H.out.2.1 (H.out.2.2.1.later V1.out) HC.out).mono ?_
  rintro e w2 ⟨rfl, hb⟩
  rw [EC.out]
  have V2 : Hid (Below w.heap.size w w2) := below_up rfl V1.out hb
  clear hb
  go_wp2_with fail
  refine (error_same1 c _ (H.out.2.2.2.later V2.out)).mono ?_
  rintro e w3 ⟨rfl, hb⟩
  have V3 : Hid (Below w.heap.size w w3) := below_up rfl V2.out hb
  clear hb
  go_wp2_with fail
  refine (lists_any none none 0 0 0 0 [] [] _ (Lw.none _) (Lw.none _) (by unfold maxLen; omega) (fun x hx => absurd hx List.not_mem_nil) rfl).mono ?_
  rintro e w4 ⟨rfl, hb⟩
  have V4 : Hid (Below w.heap.size w w4) := below_up rfl V3.out hb
  clear hb
  go_wp2_with fail
  refine (numbers_no a len cap h _ H.out.1 H.out.2.1 (H.out.2.2.1.later V4.out) HC.out).mono ?_
  rintro e w5 ⟨rfl, hb⟩
  rw [EC.out]
  have V5 : Hid (Below w.heap.size w w5) := below_up rfl V4.out hb
  clear hb
  go_wp2_with fail
  refine (error_same1 c _ (H.out.2.2.2.later V5.out)).mono ?_
  rintro e w6 ⟨rfl, hb⟩
  have V6 : Hid (Below w.heap.size w w6) := below_up rfl V5.out hb
  clear hb
  go_wp2_with fail
  refine (ints_same none none 0 0 0 0 [] [] _ (Vw.none _) (Vw.none _) (by unfold maxLen; omega) rfl).mono ?_
  rintro e w7 ⟨rfl, hb⟩
  have V7 : Hid (Below w.heap.size w w7) := below_up rfl V6.out hb
  clear hb
  go_wp2_with fail
  refine (order_no a len cap h _ H.out.1 H.out.2.1 (H.out.2.2.1.later V7.out) HC.out).mono ?_
  rintro e w8 ⟨rfl, hb⟩
  rw [EC.out]
  have V8 : Hid (Below w.heap.size w w8) := below_up rfl V7.out hb
  clear hb
  go_wp2_with fail
  refine (error_same1 c _ (H.out.2.2.2.later V8.out)).mono ?_
  rintro e w9 ⟨rfl, hb⟩
  have V9 : Hid (Below w.heap.size w w9) := below_up rfl V8.out hb
  clear hb
  go_wp2_with fail
  refine (ints_same none none 0 0 0 0 [] [] _ (Vw.none _) (Vw.none _) (by unfold maxLen; omega) rfl).mono ?_
  rintro e w10 ⟨rfl, hb⟩
  have V10 : Hid (Below w.heap.size w w10) := below_up rfl V9.out hb
  clear hb
  go_wp2
  go_ret
  exact ⟨rfl, V10.out⟩

set_option maxRecDepth 100000 in
set_option maxHeartbeats 8000000 in
theorem ct_ok (a : Option Addr) (len cap : Nat) (h : List Ev) (w : World) (hlc : len ≤ cap) (hm : cap ≤ maxLen) (hv : Ew w a len h) (hL : Laid w) (hc : chkC h = 0) :
    Calls Tryd.prog 4 #[.slice a len cap] w fun e w' => e = .returned (.bool true) ∧ Below w.heap.size w w' := by
  have H : Hid (len ≤ cap ∧ cap ≤ maxLen ∧ Ew w a len h ∧ Laid w) := ⟨hlc, hm, hv, hL⟩
  have HC : Hid (chkC h = 0) := hc
  have HH : Hid (h.length = len ∧ len ≤ 60 ∧ Good h len) := by
    obtain ⟨x, y⟩ := chk_zero hc
    rw [hv.1] at x y
    exact ⟨hv.1, x, y⟩
  have h60 : len ≤ 60 := HH.out.2.1
  have h60' : (len : Int) ≤ 60 := by omega
  obtain ⟨ie, hi, hz0, hz1, hz2⟩ := info_int
  have HI : Hid (Tryd.prog.info? 3 = some ie ∧ ie.zero = some (.int .i64 0) ∧ ie.size = 1 ∧ ie.bytes = 8) := ⟨hi, hz0, hz1, hz2⟩
  clear hi hz0 hz1 hz2
  clear hc hv hlc hm hL
  go_enter Tryd.func4, Tryd.ntmps4
  go_wp2_with fail
  refine (right_any a len cap h _ H.out.2.2.1).mono ?_
  rintro e w1 ⟨rfl, hb⟩
  rw [HC.out]
  have V1 : Hid (Below w.heap.size w w1) := hb
  clear hb
  go_wp2_with fail
  refine (refVectors a len cap h _ h60 (H.out.2.2.1.later V1.out) HH.out.2.2).mono ?_
  rintro e w2 ⟨⟨rv, rfl, hlo⟩, hb⟩
  have V2 : Hid (Below w.heap.size w w2) := below_up rfl V1.out hb
  obtain ⟨vp, vc, rfl, hlw⟩ := hlo.lw
  have R2 : Hid (Lw w2 vp len (rows h len)) := hlw
  clear hb hlo hlw
  go_wp2_with fail
  refine (refNumbers a len cap h _ h60 (H.out.2.2.1.later V2.out) HH.out.2.2).mono ?_
  rintro e w3 ⟨⟨rn, rfl, hown⟩, hb⟩
  have V3 : Hid (Below w.heap.size w w3) := below_up rfl V2.out hb
  have R3 : Hid (Lw w3 vp len (rows h len)) := R2.out.later hb
  obtain ⟨np, nc, rfl, hnw⟩ := own_vw hown
  have N3 : Hid (Vw w3 np len (nums h len)) := hnw
  clear hb hown hnw R2
  go_wp2
  go_loopw [6, 7] (fun v x wr => ∃ t : Nat, t ≤ 60 ∧ x = .int .i64 ((t + 1 : Nat) : Int) ∧ Hid (Below w3.heap.size w3 wr) ∧ Hid (OL wr w3.heap.size v (ordN h len t))) (fun _ x _ => 61 - (intOf x).toNat)
  case atStart => exact ⟨0, by omega, rfl, Below.refl _ _, World.ownsRow_nil _ _ _ _⟩
  case round =>
    obtain ⟨t, ht, rfl, hbel, hO⟩ := hrel
    obtain ⟨T, eT⟩ : ∃ T, T = t + 1 := ⟨_, rfl⟩
    have ET : Hid (T = t + 1) := eT
    rw [← eT]
    clear eT
    by_cases hlt : t < 60
    · have hT60 : (T : Int) ≤ 60 := by have := ET.out; omega
      go_wp2
      go_loopw [6, 8] (fun v x wz => ∃ m : Nat, m ≤ 5 ∧ x = .int .i64 (m : Int) ∧ Hid (Below w3.heap.size w3 wz) ∧ Hid (OL wz w3.heap.size v (ordN h len t ++ ordW h len T m))) (fun _ x _ => 5 - (intOf x).toNat)
      case atStart => exact ⟨0, by omega, rfl, hbel.out, by rw [ordW, List.append_nil]; exact hO.out⟩
      case round =>
        clear hbel hO
        obtain ⟨m, hm, rfl, hbel, hO⟩ := hrel
        by_cases hm5 : m < 5
        · have hm5' : (m : Int) < 5 := by omega
          go_wp2
          go_loopw [6, 9] (fun v x wz => ∃ i : Nat, i ≤ len ∧ x = .int .i64 (i : Int) ∧ Hid (Below w3.heap.size w3 wz) ∧ Hid (OL wz w3.heap.size v (ordN h len t ++ ordW h len T m ++ ordI h T m i))) (fun _ x _ => len - (intOf x).toNat)
          case atStart => exact ⟨0, by omega, rfl, hbel.out, by rw [show ordI h T m 0 = [] from rfl, List.append_nil]; exact hO.out⟩
          case round =>
            clear hbel hO
            obtain ⟨i, hi, rfl, hbel, hO⟩ := hrel
            by_cases hil : i < len
            · have hi0 : (0 : Int) ≤ (i : Int) := by omega
              have hil' : (i : Int) < (len : Int) := by omega
              obtain ⟨b, off, rfl, hpb, hcs⟩ := ((H.out.2.2.1.later V3.out).later hbel.out).2 (by omega)
              have c0 := (hcs i hil).1
              rw [← W_cast HH.out.2.2 hil] at c0
              obtain ⟨b2, off2, rfl, hpb2, hns⟩ := (N3.out.later hbel.out).2 (by omega)
              have n0 := hns i hil
              rw [nums_get h hil] at n0
              obtain ⟨y, ey⟩ : ∃ y, y = num h i := ⟨_, rfl⟩
              obtain ⟨q, eq⟩ : ∃ q, q = W h i := ⟨_, rfl⟩
              rw [← ey] at n0
              rw [← eq] at c0
              have EY : Hid (y = num h i ∧ q = W h i) := ⟨ey, eq⟩
              clear hcs hns hpb hpb2 ey eq
              by_cases hy : y = (T : Int)
              · subst hy
                have ty : ((T : Int) == (T : Int)) = true := by simp
                by_cases hq : q = m
                · subst hq
                  have tq : ((q : Int) == (q : Int)) = true := by simp
                  have ES : Hid (ordI h T q (i + 1) = ordI h T q i ++ [i]) := by show _ = _; rw [ordI_step, if_pos ⟨EY.out.1.symm, EY.out.2.symm⟩]
                  obtain ⟨L, eL⟩ : ∃ L, L = ordN h len t ++ ordW h len T q ++ ordI h T q i := ⟨_, rfl⟩
                  have LL : Hid (L.length ≤ 20000) := by
                    show L.length ≤ 20000
                    rw [eL, List.length_append, List.length_append]
                    have h1 := ordN_len h len t
                    have h2 := ordW_len h len T q
                    have h3 := ordI_len h T q i
                    have h4 : len * 5 * t ≤ 60 * 5 * 60 := Nat.mul_le_mul (Nat.mul_le_mul h60 (Nat.le_refl _)) ht
                    have h5 : len * q ≤ 60 * 5 := Nat.mul_le_mul h60 hm
                    omega
                  rw [← eL] at hO
                  have EL : Hid (L = ordN h len t ++ ordW h len T q ++ ordI h T q i) := eL
                  have SZ : Hid (w3.heap.size ≤ wr.heap.size) := hbel.out.size
                  clear eL
                  go_wp2_with (at_builtin; refine wpList_append_own _ rfl _ _ 33 rfl w3.heap.size 3 ie (.int .i64 0) 1 8 Tryd.underlying33 HI.out.1 HI.out.2.1 HI.out.2.2.1 HI.out.2.2.2 rfl (by decide) _ L.length _ rfl (by exact own_later hO.out ((Below.refl _ _).alloc (Nat.le_refl _) _)) ⟨wr.heap.size, 0, none⟩ 1 1 [.int .i64 (i : Int)] rfl rfl (by exact new_int wr _ rfl (i : Int) 3) (int_one _) (by have := LL.out; unfold maxLen; omega) (by have := LL.out; omega) (by have := SZ.out; simp; omega) ?_; intro v' wn hown hgrow _; have HO : Hid _ := hown; have HGr : Hid _ := hgrow; clear hown hgrow)
                  go_roundw
                  case rel =>
                    refine ⟨i + 1, by omega, by go_num, ?_, ?_⟩
                    · exact (hbel.out.alloc SZ.out _).grown HGr.out (by have := SZ.out; simp; omega) (own_base hO.out)
                    · show World.ownsRow _ _ _ _ _ _ _
                      rw [ES.out, ← List.append_assoc, ← EL.out, List.length_append, List.map_append, List.map_append]
                      exact HO.out
                  case measure => simp [intOf]; omega
                · have tq : ((q : Int) == (m : Int)) = false := by simp; omega
                  have ES : Hid (ordI h T m (i + 1) = ordI h T m i) := by show _ = _; rw [ordI_step, if_neg (fun z => hq (EY.out.2.trans z.2)), List.append_nil]
                  go_wp2
                  go_roundw
                  case rel => exact ⟨i + 1, by omega, by go_num, hbel.out, by rw [ES.out]; exact hO.out⟩
                  case measure => simp [intOf]; omega
              · have ty : (y == (T : Int)) = false := by simp [hy]
                have ES : Hid (ordI h T m (i + 1) = ordI h T m i) := by show _ = _; rw [ordI_step, if_neg (fun z => hy (EY.out.1.trans z.1)), List.append_nil]
                go_wp2
                go_roundw
                case rel => exact ⟨i + 1, by omega, by go_num, hbel.out, by rw [ES.out]; exact hO.out⟩
                case measure => simp [intOf]; omega
            · have hil' : i = len := by omega
              subst hil'
              go_wp2
              go_roundw
              case rel => exact ⟨m + 1, by omega, by go_num, hbel.out, by rw [ordW, ← List.append_assoc]; exact hO.out⟩
              case measure => simp [intOf]; omega
        · have hm5' : m = 5 := by omega
          subst hm5'
          go_wp2
          go_roundw
          case rel => exact ⟨t + 1, by omega, by have := ET.out; go_num, hbel.out, by rw [ordN, ← ET.out]; exact hO.out⟩
          case measure => have := ET.out; simp [intOf]; omega
    · have ht' : t = 60 := by omega
      have hT61 : T = 61 := by have := ET.out; omega
      subst hT61 ht'
      obtain ⟨op, oc, rfl, hov⟩ := own_vw hO.out
      have O4 : Hid (Vw wr op (ordN h len 60).length ((ordN h len 60).map Int.ofNat)) := hov
      have V4 : Hid (Below w.heap.size w wr) := below_up rfl V3.out hbel.out
      have R4 : Hid (Lw wr vp len (rows h len)) := R3.out.later hbel.out
      have N4 : Hid (Vw wr np len (nums h len)) := N3.out.later hbel.out
      have HM : Hid (len ≤ maxLen ∧ (∀ x ∈ rows h len, x.length ≤ maxLen)) := by
        refine ⟨Nat.le_trans H.out.1 H.out.2.1, fun x hx => ?_⟩
        obtain ⟨j, _, rfl⟩ := List.mem_map.1 hx
        rw [row_len]
        unfold maxLen
        omega
      clear hov R3 N3 hO
      go_wp2_with fail
      refine (vectors_ok a len cap h _ H.out.1 H.out.2.1 (H.out.2.2.1.later V4.out) HC.out).mono ?_
      rintro e w5 ⟨VA, rfl, hb, hL5⟩
      have V5 : Hid (Below w.heap.size w w5) := below_up rfl V4.out hb
      have L5 : Hid (Lw w5 (some ⟨VA, 0, none⟩) len (rows h len) ∧ Lw w5 vp len (rows h len)) := ⟨hL5, R4.out.later hb⟩
      have N5 : Hid (Vw w5 np len (nums h len)) := N4.out.later hb
      have O5 : Hid (Vw w5 op (ordN h len 60).length ((ordN h len 60).map Int.ofNat)) := O4.out.later hb
      clear hb hL5
      go_wp2_with fail
      refine (error_same0 _).mono ?_
      rintro e w6 ⟨rfl, hb⟩
      have V6 : Hid (Below w.heap.size w w6) := below_up rfl V5.out hb
      have L6 : Hid (Lw w6 (some ⟨VA, 0, none⟩) len (rows h len) ∧ Lw w6 vp len (rows h len)) := ⟨L5.out.1.later hb, L5.out.2.later hb⟩
      have N6 : Hid (Vw w6 np len (nums h len)) := N5.out.later hb
      have O6 : Hid (Vw w6 op (ordN h len 60).length ((ordN h len 60).map Int.ofNat)) := O5.out.later hb
      clear hb
      go_wp2_with fail
      refine (lists_any _ _ len len len vc _ _ _ L6.out.1 L6.out.2 HM.out.1 HM.out.2 rfl).mono ?_
      rintro e w7 ⟨rfl, hb⟩
      have V7 : Hid (Below w.heap.size w w7) := below_up rfl V6.out hb
      have N7 : Hid (Vw w7 np len (nums h len)) := N6.out.later hb
      have O7 : Hid (Vw w7 op (ordN h len 60).length ((ordN h len 60).map Int.ofNat)) := O6.out.later hb
      clear hb
      go_wp2_with fail
      refine (numbers_ok a len cap h _ H.out.1 H.out.2.1 (H.out.2.2.1.later V7.out) HC.out).mono ?_
      rintro e w8 ⟨NA, rfl, hb, hn8, -, -⟩
      have V8 : Hid (Below w.heap.size w w8) := below_up rfl V7.out hb
      have N8 : Hid (Vw w8 (some ⟨NA, 0, none⟩) len (nums h len) ∧ Vw w8 np len (nums h len)) := ⟨hn8, N7.out.later hb⟩
      have O8 : Hid (Vw w8 op (ordN h len 60).length ((ordN h len 60).map Int.ofNat)) := O7.out.later hb
      clear hb hn8
      go_wp2_with fail
      refine (error_same0 _).mono ?_
      rintro e w9 ⟨rfl, hb⟩
      have V9 : Hid (Below w.heap.size w w9) := below_up rfl V8.out hb
      have N9 : Hid (Vw w9 (some ⟨NA, 0, none⟩) len (nums h len) ∧ Vw w9 np len (nums h len)) := ⟨N8.out.1.later hb, N8.out.2.later hb⟩
      have O9 : Hid (Vw w9 op (ordN h len 60).length ((ordN h len 60).map Int.ofNat)) := O8.out.later hb
      clear hb
      go_wp2_with fail
      refine (ints_same _ _ len len len nc _ _ _ N9.out.1 N9.out.2 HM.out.1 rfl).mono ?_
      rintro e w10 ⟨rfl, hb⟩
      have V10 : Hid (Below w.heap.size w w10) := below_up rfl V9.out hb
      have O10 : Hid (Vw w10 op (ordN h len 60).length ((ordN h len 60).map Int.ofNat)) := O9.out.later hb
      clear hb
      go_wp2_with fail
      refine (order_ok a len cap h _ H.out.1 H.out.2.1 (H.out.2.2.1.later V10.out) HC.out).mono ?_
      rintro e w11 ⟨⟨OB, o, rfl, ho, hvo⟩, hb⟩
      have V11 : Hid (Below w.heap.size w w11) := below_up rfl V10.out hb
      have EO : Hid (o = ordN h len 60) := ord_eq ho (ordN_ord HH.out.2.2 h60)
      have O11 : Hid (Vw w11 (some ⟨OB, 0, none⟩) len (o.map Int.ofNat) ∧ Vw w11 op (ordN h len 60).length ((ordN h len 60).map Int.ofNat)) := ⟨hvo, O10.out.later hb⟩
      clear hb ho hvo
      go_wp2_with fail
      refine (error_same0 _).mono ?_
      rintro e w12 ⟨rfl, hb⟩
      have V12 : Hid (Below w.heap.size w w12) := below_up rfl V11.out hb
      have O12 : Hid (Vw w12 (some ⟨OB, 0, none⟩) len (o.map Int.ofNat) ∧ Vw w12 op (ordN h len 60).length ((ordN h len 60).map Int.ofNat)) := ⟨O11.out.1.later hb, O11.out.2.later hb⟩
      clear hb
      go_wp2_with fail
      refine (ints_same _ _ len len _ oc _ _ _ O12.out.1 O12.out.2 HM.out.1 (by rw [EO.out])).mono ?_
      rintro e w13 ⟨rfl, hb⟩
      have V13 : Hid (Below w.heap.size w w13) := below_up rfl V12.out hb
      clear hb
      go_wp2
      go_ret
      exact ⟨rfl, V13.out⟩
theorem ct_walk (a : Option Addr) (len cap : Nat) (h : List Ev) (w : World) (hlc : len ≤ cap) (hm : cap ≤ maxLen) (hv : Ew w a len h) (hL : Laid w) :
    Calls Tryd.prog 4 #[.slice a len cap] w fun e w' => e = .returned (.bool true) ∧ Below w.heap.size w w' := by
  by_cases hc : chkC h = 0
  · exact ct_ok a len cap h w hlc hm hv hL hc
  · exact ct_no a len cap h w hlc hm hv hL hc
end Go.Proofs.YtibgdikahihgeabDoor.His
