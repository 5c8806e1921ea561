/-
  The walk of ClockKnows: ahead just if below, and then less, and ahead in the order.
-/
import Derived.Test.YtibgdikahihgeabClkE
import Derived.Test.YtibgdikahihgeabHisT
import Derived.Deep.RegionHeld3
namespace Go.Proofs.Ytibgdikahihgeab.His
open Go.RowKit
open Go.Proofs.Ytibgdikahihgeab.Vec

def atI (xs : List Int) (n : Int) : Int := if n ∈ xs then (xs.idxOf n : Nat) else -1
theorem at_hit {xs : List Int} {n : Int} {k : Nat} (hk : k < xs.length) (hp : xs.getD k 0 = n) (hb : ∀ j, j < k → xs.getD j 0 ≠ n) : atI xs n = (k : Int) := by
  have e : ∀ j (hj : j < xs.length), xs.getD j 0 = xs[j] := by
    intro j hj
    simp [List.getD, hj]
  have hm : n ∈ xs := by rw [← hp, e k hk]; exact List.getElem_mem hk
  have hi : xs.idxOf n = k := by
    rw [List.idxOf, List.findIdx_eq hk]
    refine ⟨by rw [← e k hk, hp]; simp, fun j hj => ?_⟩
    have := hb j hj
    rw [e j (by omega)] at this
    simpa using this
  rw [atI, if_pos hm, hi]
theorem at_miss {xs : List Int} {n : Int} (hb : ∀ j, j < xs.length → xs.getD j 0 ≠ n) : atI xs n = -1 := by
  rw [atI, if_neg]
  intro hm
  obtain ⟨j, hj, e⟩ := List.getElem_of_mem hm
  exact hb j hj (by simp [List.getD, hj, e])
theorem at_any (a : Option Addr) (len cap : Nat) (xs : List Int) (n : Int) (w : World) (hm : len ≤ maxLen) (hv : Vw w a len xs) :
    Calls Try.prog 10 #[.slice a len cap, .int .i64 n] w fun e w' => e = .returned (.int .i64 (atI xs n)) ∧ w' = w := by
  unfold maxLen at hm
  have G : Hid (Vw w a len xs) := hv
  clear hv
  go_enter Try.func10, Try.ntmps10
  go_wp2
  go_loopw [5] (fun i wr => ∃ k : Nat, k ≤ len ∧ i = .int .i64 k ∧ wr = w ∧ Hid (∀ j, j < k → xs.getD j 0 ≠ n)) (fun i _ => len - (intOf i).toNat)
  case atStart => exact ⟨0, by omega, rfl, rfl, fun j hj => absurd hj (by omega)⟩
  case round =>
    obtain ⟨k, hk, rfl, rfl, hp⟩ := hrel
    by_cases hlt : k < len
    · obtain ⟨b, off, rfl, _, hcs⟩ := G.out.2 (by omega)
      have c0 := hcs k hlt
      obtain ⟨x, ex⟩ : ∃ x, x = xs.getD k 0 := ⟨_, rfl⟩
      rw [← ex] at c0
      have EX : Hid (x = xs.getD k 0) := ex
      have hk0 : (0 : Int) ≤ (k : Int) := by omega
      have hkl : (k : Int) < (len : Int) := by omega
      clear hcs ex
      by_cases hx : x = n
      · subst hx
        have ht : (x == x) = true := by simp
        go_wp2
        go_ret
        exact ⟨ret_int (at_hit (by rw [G.out.1]; exact hlt) EX.out.symm hp.out).symm, rfl⟩
      · have ht : (x == n) = false := by simp [hx]
        have HX : Hid (x ≠ n) := hx
        go_wp2
        go_roundw
        case rel => exact ⟨k + 1, by omega, by go_num, by first | rfl | trivial, fun j hj => if e : j < k then hp.out j e else by rw [show j = k by omega, ← EX.out]; exact HX.out⟩
        case measure => simp [intOf]; omega
    · go_wp2
      go_ret
      exact ⟨ret_int (at_miss fun j hj => hp.out j (by have := G.out.1; omega)).symm, rfl⟩

/-- places in an order -/
theorem at_ord {h : List Ev} {len : Nat} {o : List Nat} (ho : IsOrd h len o) {i : Nat} (hi : i < len) : atI (o.map Int.ofNat) (i : Int) = (o.idxOf i : Nat) ∧ o.idxOf i < o.length := by
  have hm : i ∈ o := (ho.2 i).2 hi
  have hlt : o.idxOf i < o.length := List.idxOf_lt_length_of_mem hm
  refine ⟨?_, hlt⟩
  refine at_hit (by simpa using hlt) ?_ ?_
  · simp [List.getD, hlt]
  · intro j hj e
    have hjl : j < o.length := by omega
    have e2 : o[j] = i := by
      have : (o.map Int.ofNat).getD j 0 = (o[j] : Int) := by simp [List.getD, hjl]
      rw [this] at e
      omega
    have := List.not_of_lt_findIdx (p := (· == i)) hj
    simp [e2] at this
theorem ord_less {h : List Ev} {len : Nat} {o : List Nat} (ho : IsOrd h len o) {i k : Nat} (hi : i < len) (hk : k < len) (hl : num h i < num h k) : atI (o.map Int.ofNat) (i : Int) < atI (o.map Int.ofNat) (k : Int) := by
  obtain ⟨e1, l1⟩ := at_ord ho hi
  obtain ⟨e2, l2⟩ := at_ord ho hk
  rw [e1, e2]
  have g1 : o[o.idxOf i] = i := List.getElem_idxOf l1
  have g2 : o[o.idxOf k] = k := List.getElem_idxOf l2
  rcases Nat.lt_trichotomy (o.idxOf i) (o.idxOf k) with a | a | a
  · omega
  · exfalso
    have : i = k := by rw [← g1, ← g2]; simp [a]
    subst this
    omega
  · exfalso
    have := (List.pairwise_iff_getElem.1 ho.1) _ _ l2 l1 a
    rw [g1, g2] at this
    unfold lt2 at this
    omega
theorem at_pos {h : List Ev} {len : Nat} {o : List Nat} (ho : IsOrd h len o) {i : Nat} (hi : i < len) : 0 ≤ atI (o.map Int.ofNat) (i : Int) := by
  rw [(at_ord ho hi).1]
  omega

def one2 : List Ev := [(0, 2, 1), (1, 3, 1)]
theorem one2_c : chkC one2 = 0 := by decide
theorem one2_n : nums one2 2 = [1, 2] := by decide
theorem Ew.one2 (w : World) (t : TypeId) : Ew (w.alloc (.cells #[.int .i64 0, .int .i64 2, .int .i64 1, .int .i64 1, .int .i64 3, .int .i64 1] t)) (some ⟨w.heap.size, 0, none⟩) 2 His.one2 := by
  refine ⟨rfl, fun _ => ⟨_, _, rfl, by simp, fun k hk => ?_⟩⟩
  rcases k with _ | _ | k
  · refine ⟨?_, ?_, ?_⟩ <;> simp <;> rfl
  · refine ⟨?_, ?_, ?_⟩ <;> simp <;> rfl
  · omega
theorem row_code {h : List Ev} {N n : Nat} (hg : Good h N) (hN : N ≤ 60) (hn : n < N) : code (row h n) = 0 := by
  unfold code
  rw [if_pos (row_len h n), if_neg]
  have : bad (row h n) = false := anyP_false fun j _ => by
    have h1 := row_nonneg hg hn j
    have h2 := row_le hg hn j
    have h3 := cnt_le h j (n + 1)
    simp only [out, Bool.or_eq_false_iff, decide_eq_false_iff_not]
    omega
  rw [this]
  decide
theorem gt_leR (a b : List Int) : (!gt a b) = leR a b := by
  cases hb : gt a b with
  | false => exact (leR_of fun m hm => gt_false hb m hm).symm
  | true =>
    cases hl : leR a b with
    | false => rfl
    | true =>
      rw [gt_of fun j hj => leR_get hl j hj] at hb
      exact absurd hb (by decide)
theorem bef_place {h : List Ev} {x y : Nat} (hc : chkC h = 0) (hx : x < h.length) (hy : y < h.length) : befC h (x : Int) (y : Int) = 0 := by
  unfold befC plC
  rw [if_pos hc, if_neg]
  simp [offP]
  omega

set_option maxRecDepth 100000 in
set_option maxHeartbeats 1000000 in
theorem ck_no (a : Option Addr) (len cap : Nat) (h : List Ev) (w : World) (hlc : len ≤ cap) (hm : cap ≤ maxLen) (hv : Ew w a len h) (hc : chkC h ≠ 0) :
    Calls Try.prog 3 #[.slice a len cap] w fun e w' => e = .returned (.bool true) ∧ Below w.heap.size w w' := by
  have B0 : Hid (Below w.heap.size w (w.alloc (.cells #[.int .i64 0, .int .i64 2, .int .i64 1, .int .i64 1, .int .i64 3, .int .i64 1] 24))) := (Below.refl _ _).alloc (Nat.le_refl _) _
  have O0 : Hid (Ew (w.alloc (.cells #[.int .i64 0, .int .i64 2, .int .i64 1, .int .i64 1, .int .i64 3, .int .i64 1] 24)) (some ⟨w.heap.size, 0, none⟩) 2 one2) := Ew.one2 w _
  have V0 : Hid (Ew w a len h) := hv
  clear hv
  go_enter Try.func3, Try.ntmps3
  go_wp2_with fail
  refine (numbers_ok (some ⟨w.heap.size, 0, none⟩) 2 2 one2 _ (by omega) (by unfold maxLen; omega) O0.out one2_c).mono ?_
  rintro e w1 ⟨A, rfl, hb, hn, -, -⟩
  have V1 : Hid (Below w.heap.size w w1) := below_up rfl B0.out hb
  rw [one2_n] at hn
  obtain ⟨_, _, e, _, hcs⟩ := hn.2 (by omega)
  cases e
  have c0 : w1.cell? ⟨A, 0, none⟩ = some (.int .i64 1) := hcs 0 (by omega)
  have c1 : w1.cell? ⟨A, 1, none⟩ = some (.int .i64 2) := hcs 1 (by omega)
  clear hb hn hcs
  go_wp2_with fail
  refine (vectors_no a len cap h _ hlc hm (V0.out.later V1.out) hc).mono ?_
  rintro e w2 ⟨rfl, hb⟩
  have V2 : Hid (Below w.heap.size w w2) := below_up rfl V1.out hb
  clear hb c0 c1
  go_wp2
  go_ret
  exact ⟨rfl, V2.out⟩

set_option maxRecDepth 100000 in
set_option maxHeartbeats 8000000 in
theorem ck_ok (a : Option Addr) (len cap : Nat) (h : List Ev) (w : World) (hlc : len ≤ cap) (hm : cap ≤ maxLen) (hv : Ew w a len h) (hc : chkC h = 0) :
    Calls Try.prog 3 #[.slice a len cap] w fun e w' => e = .returned (.bool true) ∧ Below w.heap.size w w' := by
  have B0 : Hid (Below w.heap.size w (w.alloc (.cells #[.int .i64 0, .int .i64 2, .int .i64 1, .int .i64 1, .int .i64 3, .int .i64 1] 24))) := (Below.refl _ _).alloc (Nat.le_refl _) _
  have O0 : Hid (Ew (w.alloc (.cells #[.int .i64 0, .int .i64 2, .int .i64 1, .int .i64 1, .int .i64 3, .int .i64 1] 24)) (some ⟨w.heap.size, 0, none⟩) 2 one2) := Ew.one2 w _
  have V0 : Hid (Ew w a len h) := hv
  have HH : Hid (h.length = len ∧ len ≤ 60 ∧ Good h len) := by
    obtain ⟨x, y⟩ := chk_zero hc
    rw [hv.1] at x y
    exact ⟨hv.1, x, y⟩
  have hl60 : len ≤ 60 := HH.out.2.1
  clear hv
  go_enter Try.func3, Try.ntmps3
  go_wp2_with fail
  refine (numbers_ok (some ⟨w.heap.size, 0, none⟩) 2 2 one2 _ (by omega) (by unfold maxLen; omega) O0.out one2_c).mono ?_
  rintro e w1 ⟨A, rfl, hb, hn, -, -⟩
  have V1 : Hid (Below w.heap.size w w1) := below_up rfl B0.out hb
  rw [one2_n] at hn
  obtain ⟨_, _, e, _, hcs⟩ := hn.2 (by omega)
  cases e
  have c0 : w1.cell? ⟨A, 0, none⟩ = some (.int .i64 1) := hcs 0 (by omega)
  have c1 : w1.cell? ⟨A, 1, none⟩ = some (.int .i64 2) := hcs 1 (by omega)
  clear hb hn hcs
  go_wp2_with fail
  refine (vectors_ok a len cap h _ hlc hm (V0.out.later V1.out) hc).mono ?_
  rintro e w2 ⟨VA, rfl, hb, hL⟩
  have V2 : Hid (Below w.heap.size w w2) := below_up rfl V1.out hb
  have L2 : Hid (Lw w2 (some ⟨VA, 0, none⟩) len (rows h len)) := hL
  clear hb hL c0 c1
  go_wp2_with fail
  refine (numbers_ok a len cap h _ hlc hm (V0.out.later V2.out) hc).mono ?_
  rintro e w3 ⟨NA, rfl, hb, hn, -, -⟩
  have V3 : Hid (Below w.heap.size w w3) := below_up rfl V2.out hb
  have L3 : Hid (Lw w3 (some ⟨VA, 0, none⟩) len (rows h len)) := L2.out.later hb
  have N3 : Hid (Vw w3 (some ⟨NA, 0, none⟩) len (nums h len)) := hn
  clear hb hn
  go_wp2_with fail
  refine (order_ok a len cap h _ hlc hm (V0.out.later V3.out) hc).mono ?_
  rintro e w4 ⟨⟨OB, o, rfl, ho, hvo⟩, hb⟩
  have V4 : Hid (Below w.heap.size w w4) := below_up rfl V3.out hb
  have L4 : Hid (Lw w4 (some ⟨VA, 0, none⟩) len (rows h len)) := L3.out.later hb
  have N4 : Hid (Vw w4 (some ⟨NA, 0, none⟩) len (nums h len)) := N3.out.later hb
  have O4 : Hid (IsOrd h len o ∧ Vw w4 (some ⟨OB, 0, none⟩) len (o.map Int.ofNat)) := ⟨ho, hvo⟩
  have HM : Hid (len ≤ cap ∧ cap ≤ maxLen ∧ len ≤ maxLen) := ⟨hlc, hm, Nat.le_trans hlc hm⟩
  have HC : Hid (chkC h = 0) := hc
  clear hb ho hvo hlc hm hc
  go_wp2
  go_loopw [12] (fun i wr => ∃ x : Nat, x ≤ len ∧ i = .int .i64 x ∧ Hid (Below w4.heap.size w4 wr)) (fun i _ => len - (intOf i).toNat)
  case atStart => exact ⟨0, by omega, rfl, Below.refl _ _⟩
  case round =>
    obtain ⟨x, hx, rfl, hbel⟩ := hrel
    by_cases hlt : x < len
    · have hx0 : (0 : Int) ≤ (x : Int) := by omega
      have hxl : (x : Int) < (len : Int) := by omega
      go_wp2
      go_loopw [13] (fun i wz => ∃ y : Nat, y ≤ len ∧ i = .int .i64 y ∧ Hid (Below w4.heap.size w4 wz)) (fun i _ => len - (intOf i).toNat)
      case atStart => exact ⟨0, by omega, rfl, hbel.out⟩
      case round =>
        obtain ⟨y, hy, rfl, hbz⟩ := hrel
        by_cases hylt : y < len
        · have hy0 : (0 : Int) ≤ (y : Int) := by omega
          have hyl : (y : Int) < (len : Int) := by omega
          have VZ : Hid (Below w.heap.size w wr) := below_up rfl V4.out hbz.out
          have hbp : Hid (befC h (x : Int) (y : Int) = 0) := bef_place HC.out (by rw [HH.out.1]; exact hlt) (by rw [HH.out.1]; exact hylt)
          have hbl := bef_leR HH.out.2.2 hlt hylt
          rw [← gt_leR] at hbl
          have HBL : Hid (bef h x y = (!gt (row h x) (row h y) && decide (x ≠ y))) := hbl
          clear hbl
          go_wp2_with fail
          refine (before_ok a len cap h x y _ HM.out.1 HM.out.2.1 (V0.out.later VZ.out) hbp.out).mono ?_
          rintro e w5 ⟨rfl, hb⟩
          have B5 : Hid (Below w4.heap.size w4 w5) := below_up rfl hbz.out hb
          clear hb
          obtain ⟨_, _, e, hVA, hc1⟩ := (L4.out.later B5.out).2 (by omega)
          cases e
          obtain ⟨q1, k1, d1, v1⟩ := hc1 x hlt
          obtain ⟨q2, k2, d2, v2⟩ := hc1 y hylt
          rw [rows_get _ hlt, row_len, Nat.zero_add] at d1
          rw [rows_get _ hlt, row_len] at v1
          rw [rows_get _ hylt, row_len, Nat.zero_add] at d2
          rw [rows_get _ hylt, row_len] at v2
          have VV : Hid (Vw w5 q1 5 (row h x) ∧ Vw w5 q2 5 (row h y)) := ⟨v1, v2⟩
          have DD : Hid (VA < w5.heap.size ∧ w5.cell? ⟨VA, x, none⟩ = some (.slice q1 5 k1) ∧ w5.cell? ⟨VA, y, none⟩ = some (.slice q2 5 k2)) := ⟨hVA, d1, d2⟩
          have RC : Hid (code (row h x) = 0 ∧ code (row h y) = 0) := ⟨row_code HH.out.2.2 HH.out.2.1 hlt, row_code HH.out.2.2 HH.out.2.1 hylt⟩
          clear hc1 v1 v2 hVA
          obtain ⟨bv, ebv⟩ : ∃ b, b = bef h x y := ⟨_, rfl⟩
          obtain ⟨gv, egv⟩ : ∃ b, b = gt (row h x) (row h y) := ⟨_, rfl⟩
          rw [← ebv, ← egv] at HBL
          rw [← ebv]
          have EBV : Hid (bv = bef h x y ∧ gv = gt (row h x) (row h y)) := ⟨ebv, egv⟩
          clear ebv egv
          go_wp2_with fail
          go_region_held3 (fun w' => w'.cell? ⟨VA, x, none⟩ = some (.slice q1 5 k1) ∧ w'.cell? ⟨VA, y, none⟩ = some (.slice q2 5 k2)) (go_keep)
            (first | (go_at_call 9; refine (leq_ok q1 q2 5 k1 5 k2 (row h x) (row h y) _ ?_ ?_ RC.out.1 RC.out.2).mono ?_; exact VV.out.1.later (Below.refl _ _).drew; exact VV.out.2.later (Below.refl _ _).drew; rintro e w6 ⟨rfl, hb⟩; rw [← EBV.out.2]; have B6 : Hid (Below w5.heap.size w5 w6) := below_up rfl (Below.refl w5.heap.size w5).drew hb; have d3 := (B6.out.cell (p := ⟨VA, x, none⟩) DD.out.1).trans DD.out.2.1; have d4 := (B6.out.cell (p := ⟨VA, y, none⟩) DD.out.1).trans DD.out.2.2; clear hb))
          have B7 : Hid (Below w4.heap.size w4 w6) := below_up rfl B5.out B6.out
          clear d1 d2 d3 d4
          cases gv
          · by_cases hxy : x = y
            · have hne : ((x : Int) != (y : Int)) = false := by simp [hxy]
              have hbf : bv = false := by rw [HBL.out, decide_eq_false (fun q => q hxy)]; rfl
              clear hxy
              subst hbf
              go_wp2
              go_quiet (fail)
              go_wp2
              go_roundw
              case rel => exact ⟨y + 1, by omega, by go_num, below_drewN B7.out _⟩
              case measure => simp [intOf]; omega
            · have hne : ((x : Int) != (y : Int)) = true := by simp; omega
              have hbf : bv = true := by rw [HBL.out, decide_eq_true hxy]; rfl
              have hnum := bef_less HH.out.2.2 hlt hylt (EBV.out.1.symm.trans hbf)
              have hpl := ord_less O4.out.1 hlt hylt hnum
              obtain ⟨_, _, e, hNA, hc2⟩ := (N4.out.later B7.out).2 (by omega)
              cases e
              have d1 := hc2 x hlt
              have d2 := hc2 y hylt
              rw [nums_get h hlt, Nat.zero_add] at d1
              rw [nums_get h hylt, Nat.zero_add] at d2
              obtain ⟨i0, f0⟩ : ∃ i, i = num h x := ⟨_, rfl⟩
              obtain ⟨i1, f1⟩ : ∃ i, i = num h y := ⟨_, rfl⟩
              rw [← f0] at d1 hnum
              rw [← f1] at d2 hnum
              have hd1 : decide (i0 ≥ i1) = false := decide_eq_false (by omega)
              have hd2 : decide (i1 ≤ i0) = false := decide_eq_false (by omega)
              clear hc2 hxy f0 f1 hNA
              subst hbf
              go_wp2
              go_region_held3 (fun w' => w'.cell? ⟨NA, x, none⟩ = some (.int .i64 i0) ∧ w'.cell? ⟨NA, y, none⟩ = some (.int .i64 i1)) (go_keep)
                (first | (go_at_call 10; refine (at_any (some ⟨OB, 0, none⟩) len len (o.map Int.ofNat) _ _ HM.out.2.2 ?_).mono ?_; exact O4.out.2.later B7.out.drew; rintro e w7 ⟨rfl, rfl⟩))
              go_wp2
              go_roundw
              case rel => exact ⟨y + 1, by omega, by go_num, B7.out.drew⟩
              case measure => simp [intOf]; omega
          · have hbf : bv = false := HBL.out
            subst hbf
            go_wp2
            go_quiet (fail)
            go_wp2
            go_roundw
            case rel => exact ⟨y + 1, by omega, by go_num, below_drewN B7.out _⟩
            case measure => simp [intOf]; omega
        · have hyl : y = len := by omega
          subst hyl
          have hp0 := at_pos O4.out.1 hlt
          go_wp2_with fail
          refine (at_any (some ⟨OB, 0, none⟩) y y (o.map Int.ofNat) _ _ HM.out.2.2 (O4.out.2.later hbz.out)).mono ?_
          rintro e w7 ⟨rfl, rfl⟩
          go_wp2
          go_roundw
          case rel => exact ⟨x + 1, by omega, by go_num, hbz.out⟩
          case measure => simp [intOf]; omega
    · have hxl : x = len := by omega
      subst hxl
      go_wp2
      go_ret
      exact ⟨rfl, below_up rfl V4.out hbel.out⟩
theorem ck_walk (a : Option Addr) (len cap : Nat) (h : List Ev) (w : World) (hlc : len ≤ cap) (hm : cap ≤ maxLen) (hv : Ew w a len h) :
    Calls Try.prog 3 #[.slice a len cap] w fun e w' => e = .returned (.bool true) ∧ Below w.heap.size w w' := by
  by_cases hc : chkC h = 0
  · exact ck_ok a len cap h w hlc hm hv hc
  · exact ck_no a len cap h w hlc hm hv hc
end Go.Proofs.Ytibgdikahihgeab.His
