/-
  Contracts of package slices' Index, Contains and Equal over numbers, and of package faces' heardBy and both.
-/
import Derived.Test.YtpjoaogiaacikakGreatDoorMgB
import Derived.Test.YtpjoaogiaacikakGreatDoorMgH
namespace Go.Proofs.YtpjoaogiaacikakGreatDoor.His
open Go.RowKit
open Go.Proofs.YtpjoaogiaacikakGreatDoor.Vec

def ixI (xs : List Int) (n : Int) : Int := if n ∈ xs then (ix xs n : Nat) else -1
theorem getD_get {xs : List Int} {j : Nat} (hj : j < xs.length) : xs.getD j 0 = xs[j] := by simp [List.getD, hj]
theorem ix_hit {xs : List Int} {n : Int} {k : Nat} (hk : k < xs.length) (hp : xs.getD k 0 = n) (hb : ∀ j, j < k → xs.getD j 0 ≠ n) : ixI xs n = (k : Int) := by
  have hm : n ∈ xs := by rw [← hp, getD_get hk]; exact List.getElem_mem hk
  have hi : ix xs n = k := by
    rw [ix, List.findIdx_eq hk]
    refine ⟨by rw [← getD_get hk, hp]; simp, fun j hj => ?_⟩
    have := hb j hj
    rw [getD_get (by omega)] at this
    simpa using this
  rw [ixI, if_pos hm, hi]
theorem ix_miss {xs : List Int} {n : Int} (hb : ∀ j, j < xs.length → xs.getD j 0 ≠ n) : ixI xs n = -1 := by
  rw [ixI, if_neg]
  intro hm
  obtain ⟨j, hj, e⟩ := List.getElem_of_mem hm
  exact hb j hj (by rw [getD_get hj, e])
theorem Vw.take {w : World} {a : Option Addr} {len : Nat} {xs : List Int} (g : Vw w a len xs) {k : Nat} (hk : k ≤ len) : Vw w a k (xs.take k) := by
  refine ⟨by rw [List.length_take, g.1]; omega, fun h0 => ?_⟩
  obtain ⟨b, off, e, hlt, hc⟩ := g.2 (by omega)
  refine ⟨b, off, e, hlt, fun j hj => ?_⟩
  rw [show (xs.take k).getD j 0 = xs.getD j 0 by simp [List.getD, List.getElem?_take_of_lt hj]]
  exact hc j (by omega)

theorem idx_ints (a : Option Addr) (len cap : Nat) (xs : List Int) (n : Int) (w : World) (hm : len ≤ maxLen) (hv : Vw w a len xs) :
    Calls Tryz.prog 106 #[.slice a len cap, .int .i64 n] w fun e w' => e = .returned (.int .i64 (ixI xs n)) ∧ w' = w := by
  unfold maxLen at hm
  have G : Hid (Vw w a len xs) := hv
  clear hv
  go_enter Tryz.func106, Tryz.ntmps106
  go_wp2
  go_loopw [8] (fun i wr => ∃ k : Nat, k ≤ len ∧ i = .int .i64 k ∧ wr = w ∧ Hid (∀ j, j < k → xs.getD j 0 ≠ n)) (fun i _ => len - (intOf i).toNat)
  case atStart => exact ⟨0, by omega, rfl, rfl, fun j hj => absurd hj (by omega)⟩
  case round =>
    obtain ⟨k, hk, rfl, rfl, hp⟩ := hrel
    by_cases hlt : k < len
    · obtain ⟨b, off, rfl, _, hcs⟩ := G.out.2 (by omega)
      have c0 := hcs k hlt
      obtain ⟨x, ex⟩ : ∃ x, x = xs.getD k 0 := ⟨_, rfl⟩
      rw [← ex] at c0
      have EX : Hid (x = xs.getD k 0) := ex
      have hk0 : (0 : Int) ≤ (k : Int) := by omega
      have hkl : (k : Int) < (len : Int) := by omega
      clear hcs ex
      by_cases hx : x = n
      · subst hx
        have ht : (x == x) = true := by simp
        go_wp2
        go_ret
        exact ⟨ret_int (ix_hit (by rw [G.out.1]; exact hlt) EX.out.symm hp.out).symm, rfl⟩
      · have ht : (n == x) = false := by simp; exact fun e => hx e.symm
        have HX : Hid (x ≠ n) := hx
        go_wp2
        go_roundw
        case rel => exact ⟨k + 1, by omega, by go_num, by first | rfl | trivial, fun j hj => if e : j < k then hp.out j e else by rw [show j = k by omega, ← EX.out]; exact HX.out⟩
        case measure => simp [intOf]; omega
    · go_wp2
      go_ret
      exact ⟨ret_int (ix_miss fun j hj => hp.out j (by have := G.out.1; omega)).symm, rfl⟩
theorem cont_ints (a : Option Addr) (len cap : Nat) (xs : List Int) (n : Int) (w : World) (hm : len ≤ maxLen) (hv : Vw w a len xs) :
    Calls Tryz.prog 107 #[.slice a len cap, .int .i64 n] w fun e w' => e = .returned (.bool (xs.contains n)) ∧ w' = w := by
  go_enter Tryz.func107, Tryz.ntmps107
  go_wp2_with fail
  refine (idx_ints a len cap xs n _ hm hv).mono ?_
  rintro e w1 ⟨rfl, rfl⟩
  clear hv
  go_wp2
  go_ret
  refine ⟨ret_bool ?_, rfl⟩
  rw [ixI]
  by_cases hx : n ∈ xs <;> simp [hx]
theorem equal_ints (a b : Option Addr) (len cap len' cap' : Nat) (xs ys : List Int) (w : World) (hv : Vw w a len xs) (hv' : Vw w b len' ys) (hm : len ≤ maxLen) :
    Calls Tryz.prog 93 #[.slice a len cap, .slice b len' cap'] w fun e w' => e = .returned (.bool (xs == ys)) ∧ Below w.heap.size w w' := by
  unfold maxLen at hm
  have h1 := hv.1
  have h2 := hv'.1
  by_cases hl : len = len'
  · subst hl
    have HL : Hid (xs.length = ys.length) := by show xs.length = ys.length; omega
    have H1 : Hid (xs.length = len) := h1
    obtain ⟨-, gv⟩ := hv
    obtain ⟨-, gv'⟩ := hv'
    have G : Hid _ := gv
    have G' : Hid _ := gv'
    have hq : ((len : Int) != (len : Int)) = false := by simp
    clear gv gv' h1 h2
    go_enter Tryz.func93, Tryz.ntmps93
    go_wp2
    go_loopw [13] (fun i wr => ∃ k : Nat, k ≤ len ∧ i = .int .i64 k ∧ (∃ n, wr = w.drewN n) ∧ Hid (∀ j, j < k → xs.getD j 0 = ys.getD j 0)) (fun i _ => len - (intOf i).toNat)
    case atStart => exact ⟨0, by omega, rfl, ⟨0, rfl⟩, fun j hj => absurd hj (by omega)⟩
    case round =>
      obtain ⟨k, hk, rfl, ⟨n, rfl⟩, hp⟩ := hrel
      by_cases hlt : k < len
      · obtain ⟨p, off, rfl, hpb, hc⟩ := G.out (by omega)
        obtain ⟨p', off', rfl, hpb', hc'⟩ := G'.out (by omega)
        have hx := hc k hlt
        have hy := hc' k hlt
        obtain ⟨x, ex⟩ : ∃ x, x = xs.getD k 0 := ⟨_, rfl⟩
        obtain ⟨y, ey⟩ : ∃ y, y = ys.getD k 0 := ⟨_, rfl⟩
        rw [← ex] at hx
        rw [← ey] at hy
        have EX : Hid _ := ex
        have EY : Hid _ := ey
        have hk0 : (0 : Int) ≤ (k : Int) := by omega
        have hkl : (k : Int) < (len : Int) := by omega
        clear hc hc' ex ey hpb hpb'
        by_cases hxy : x = y
        · have hne : (x != y) = false := by simp [hxy]
          have HXY : Hid _ := hxy
          clear hxy
          go_wp2
          go_quiet (fail)
          go_wp2
          go_roundw
          case rel => exact ⟨k + 1, by omega, by go_num, ⟨_, rfl⟩, fun j hj => if e : j < k then hp.out j e else by rw [show j = k by omega, ← EX.out, ← EY.out]; exact HXY.out⟩
          case measure => simp [intOf]; omega
        · have hne : (x != y) = true := by simp [hxy]
          have HXY : Hid _ := hxy
          clear hxy
          go_wp2
          go_quiet (fail)
          go_wp2
          go_ret
          refine ⟨ret_bool ?_, below_drewN (below_drewN (Below.refl _ _) _) _⟩
          symm
          rw [beq_eq_false_iff_ne]
          intro e
          exact HXY.out (by rw [EX.out, EY.out, e])
      · go_wp2
        go_ret
        refine ⟨ret_bool ?_, below_drewN (Below.refl _ _) _⟩
        symm
        rw [beq_iff_eq]
        refine List.ext_getElem HL.out fun j h1 h2 => ?_
        have := hp.out j (by have := H1.out; omega)
        rwa [getD_get h1, getD_get h2] at this
  · have hq : ((len : Int) != (len' : Int)) = true := by rw [bne_iff_ne]; omega
    have HN : Hid (xs ≠ ys) := by
      intro e
      rw [e] at h1
      omega
    clear hv hv' h1 h2
    go_enter Tryz.func93, Tryz.ntmps93
    go_wp2
    go_ret
    refine ⟨ret_bool ?_, Below.refl _ _⟩
    symm
    rw [beq_eq_false_iff_ne]
    exact HN.out

theorem own_sl {w : World} {base n : Nat} {t : TypeId} {v : Value} {xs : List Int} (h : w.ownsRow base t 1 v n (xs.map (Value.int .i64))) : ∃ a cap, v = .slice a n cap ∧ Vw w a n xs ∧ n ≤ cap ∧ cap ≤ maxLen ∧ ∀ p, a = some p → base ≤ p.block := by
  obtain ⟨a, cap, rfl, hv⟩ := own_vw h
  refine ⟨a, cap, rfl, hv, ?_⟩
  rcases h.2 with ⟨h2, h3⟩ | ⟨g, cap', cur, h2, hg, _, hc, hm, _⟩
  · injection h2 with e1 e2 e3
    subst e3
    exact ⟨by omega, by unfold maxLen; omega, fun p hp => by rw [e1] at hp; cases hp⟩
  · injection h2 with e1 e2 e3
    subst e3
    exact ⟨hc, hm, fun p hp => by rw [e1] at hp; cases hp; exact hg⟩
theorem both_step (xs ys : List Int) {n : Nat} (hn : n < xs.length) : both (xs.take (n + 1)) ys = both (xs.take n) ys ++ (if ys.contains (xs.getD n 0) then [xs.getD n 0] else []) := by
  rw [getD_get hn, List.take_succ_eq_append_getElem hn]
  unfold both
  rw [List.filter_append]
  congr 1
  by_cases hh : ys.contains xs[n] = true
  · rw [if_pos hh, List.filter_cons_of_pos hh, List.filter_nil]
  · rw [if_neg hh, List.filter_cons_of_neg hh, List.filter_nil]
theorem both_len (xs ys : List Int) : (both xs ys).length ≤ xs.length := List.length_filter_le _ _

set_option maxRecDepth 100000 in
set_option maxHeartbeats 4000000 in
theorem both_any (a b : Option Addr) (len cap len' cap' : Nat) (xs ys : List Int) (w : World) (hv : Vw w a len xs) (hv' : Vw w b len' ys) (h60 : len ≤ 60) (hm' : len' ≤ maxLen) :
    Calls Tryz.prog 94 #[.slice a len cap, .slice b len' cap'] w fun x w' => (∃ v, x = .returned v ∧ w'.ownsRow w.heap.size 3 1 v (both xs ys).length ((both xs ys).map (Value.int .i64))) ∧ Below w.heap.size w w' := by
  have G : Hid (Vw w a len xs) := hv
  have G' : Hid (Vw w b len' ys) := hv'
  have HM : Hid (len' ≤ maxLen) := hm'
  obtain ⟨ie, hi, hz0, hz1, hz2⟩ := info_int
  have HI : Hid (Tryz.prog.info? 3 = some ie ∧ ie.zero = some (.int .i64 0) ∧ ie.size = 1 ∧ ie.bytes = 8) := ⟨hi, hz0, hz1, hz2⟩
  clear hv hv' hm' hi hz0 hz1 hz2
  go_enter Tryz.func94, Tryz.ntmps94
  go_wp2
  go_loopw [5, 10] (fun v x wr => ∃ k : Nat, k ≤ len ∧ x = .int .i64 k ∧ Hid (Below w.heap.size w wr) ∧ Hid (wr.ownsRow w.heap.size 3 1 v (both (xs.take k) ys).length ((both (xs.take k) ys).map (Value.int .i64)))) (fun _ x _ => len - (intOf x).toNat)
  case atStart => exact ⟨0, by omega, rfl, Below.refl _ _, World.ownsRow_nil _ _ _ _⟩
  case round =>
    obtain ⟨k, hk, rfl, hbel, hO⟩ := hrel
    by_cases hlt : k < len
    · have hk0 : (0 : Int) ≤ (k : Int) := by omega
      have hkl : (k : Int) < (len : Int) := by omega
      obtain ⟨p, pc, rfl, -⟩ := own_vw hO.out
      have hkx : Hid (k < xs.length) := by rw [← G.out.1] at hlt; exact hlt
      obtain ⟨b1, off, rfl, _, hcs⟩ := (Vw.later G.out hbel.out).2 (by omega)
      have c0 := hcs k hlt
      obtain ⟨x, ex⟩ : ∃ x, x = xs.getD k 0 := ⟨_, rfl⟩
      rw [← ex] at c0
      have EX : Hid (x = xs.getD k 0) := ex
      have V1 : Hid (Vw wr b len' ys) := Vw.later G'.out hbel.out
      have BL : Hid ((both (xs.take k) ys).length ≤ k) := Nat.le_trans (both_len _ _) (by rw [List.length_take]; exact Nat.min_le_left _ _)
      clear hcs ex
      go_wp2_with fail
      refine (cont_ints b len' cap' ys x _ HM.out V1.out).mono ?_
      rintro e w1 ⟨rfl, rfl⟩
      have B1 : Hid (Below w.heap.size w w1) := hbel.out
      have O1 : Hid _ := hO.out
      cases hc : ys.contains x with
      | true =>
        have S1 : Hid (both (xs.take (k + 1)) ys = both (xs.take k) ys ++ [x]) := by show _ = _; rw [both_step xs ys hkx.out, ← EX.out, hc, if_pos rfl]
        have SZ : Hid (w.heap.size ≤ w1.heap.size) := B1.out.size
        go_wp2_with (at_builtin; refine wpList_append_own _ rfl _ _ 30 rfl w.heap.size 3 ie (.int .i64 0) 1 8 Tryz.underlying30 HI.out.1 HI.out.2.1 HI.out.2.2.1 HI.out.2.2.2 rfl (by decide) _ (both (xs.take k) ys).length _ rfl (by exact own_later O1.out ((Below.refl _ _).alloc (Nat.le_refl _) _)) ⟨w1.heap.size, 0, none⟩ 1 1 [.int .i64 x] rfl rfl (by exact new_int w1 _ rfl x 3) (int_one _) (by have := BL.out; unfold maxLen; omega) (by have := BL.out; omega) (by have := SZ.out; simp; omega) ?_; intro v' wn hown hgrow _; have HO : Hid _ := hown; have HGr : Hid _ := hgrow; clear hown hgrow)
        go_roundw
        case rel =>
          refine ⟨k + 1, by omega, by go_num, ?_, ?_⟩
          · exact (B1.out.alloc SZ.out _).grown HGr.out (by have := SZ.out; simp; omega) (own_base O1.out)
          · show World.ownsRow _ _ _ _ _ _ _
            rw [S1.out, List.length_append, List.map_append]
            exact HO.out
        case measure => simp [intOf]; omega
      | false =>
        have S1 : Hid (both (xs.take (k + 1)) ys = both (xs.take k) ys) := by show _ = _; rw [both_step xs ys hkx.out, ← EX.out, hc]; simp
        go_wp2
        go_roundw
        case rel =>
          refine ⟨k + 1, by omega, by go_num, B1.out, ?_⟩
          show World.ownsRow _ _ _ _ _ _ _
          rw [S1.out]
          exact O1.out
        case measure => simp [intOf]; omega
    · have hkl : k = len := by omega
      subst hkl
      go_wp2
      go_ret
      refine ⟨⟨_, rfl, ?_⟩, hbel.out⟩
      have o := hO.out
      rwa [List.take_of_length_le (by rw [G.out.1]; exact Nat.le_refl _)] at o

set_option maxRecDepth 100000 in
set_option maxHeartbeats 4000000 in
theorem heardBy_any (a : Option Addr) (len cap : Nat) (h : List Ev) (who : Int) (w : World) (h60 : len ≤ 60) (hv : Ew w a len h) :
    Calls Tryz.prog 90 #[.slice a len cap, .int .i64 who] w fun x w' => (∃ v, x = .returned v ∧ w'.ownsRow w.heap.size 3 1 v (hrd h who).length ((hrd h who).map (Value.int .i64))) ∧ Below w.heap.size w w' := by
  have G : Hid (Ew w a len h) := hv
  obtain ⟨ie, hi, hz0, hz1, hz2⟩ := info_int
  have HI : Hid (Tryz.prog.info? 3 = some ie ∧ ie.zero = some (.int .i64 0) ∧ ie.size = 1 ∧ ie.bytes = 8) := ⟨hi, hz0, hz1, hz2⟩
  clear hv hi hz0 hz1 hz2
  go_enter Tryz.func90, Tryz.ntmps90
  go_wp2
  go_loopw [5, 10] (fun v x wr => ∃ k : Nat, k ≤ len ∧ x = .int .i64 k ∧ Hid (Below w.heap.size w wr) ∧ Hid (wr.ownsRow w.heap.size 3 1 v (hrd (h.take k) who).length ((hrd (h.take k) who).map (Value.int .i64)))) (fun _ x _ => len - (intOf x).toNat)
  case atStart => exact ⟨0, by omega, rfl, Below.refl _ _, World.ownsRow_nil _ _ _ _⟩
  case round =>
    obtain ⟨k, hk, rfl, hbel, hO⟩ := hrel
    by_cases hlt : k < len
    · have hk0 : (0 : Int) ≤ (k : Int) := by omega
      have hkl : (k : Int) < (len : Int) := by omega
      obtain ⟨p, pc, rfl, -⟩ := own_vw hO.out
      have hkx : Hid (k < h.length) := by rw [← G.out.1] at hlt; exact hlt
      obtain ⟨b1, off, rfl, _, hcs⟩ := (G.out.later hbel.out).2 (by omega)
      obtain ⟨c0, c1, c2⟩ := hcs k hlt
      obtain ⟨q, eq⟩ : ∃ q, q = ev h k := ⟨_, rfl⟩
      rw [← eq] at c0 c1 c2
      obtain ⟨q0, q1, q2⟩ := q
      have EQ : Hid _ := eq
      have BL : Hid ((hrd (h.take k) who).length ≤ k) := Nat.le_trans (hrd_len _ _) (by rw [List.length_take]; exact Nat.min_le_left _ _)
      have B1 : Hid (Below w.heap.size w (wr.alloc (.cells #[.int .i64 q0, .int .i64 q1, .int .i64 q2] 40))) := hbel.out.alloc hbel.out.size _
      have O1 : Hid _ := own_later hO.out ((Below.refl wr.heap.size wr).alloc (Nat.le_refl _) (.cells #[.int .i64 q0, .int .i64 q1, .int .i64 q2] 40))
      have S0 : Hid (hrd (h.take (k + 1)) who = hrd (h.take k) who ++ (if has who (q0, q1, q2) then [q2] else [])) := by show _ = _; rw [hrd_step h who hkx.out, ← EQ.out]
      clear hcs eq
      have SZ : Hid (w.heap.size ≤ wr.heap.size) := hbel.out.size
      by_cases g0 : q0 = who
      · subst g0
        by_cases g1 : q1 = 1
        · subst g1
          have S1 : Hid (hrd (h.take (k + 1)) q0 = hrd (h.take k) q0) := by show _ = _; rw [S0.out]; simp [has]
          go_wp2
          go_roundw
          case rel =>
            refine ⟨k + 1, by omega, by go_num, B1.out, ?_⟩
            show World.ownsRow _ _ _ _ _ _ _
            rw [S1.out]
            exact O1.out
          case measure => simp [intOf]; omega
        · have g1' : (q1 != 1) = true := by rw [bne_iff_ne]; exact g1
          have S1 : Hid (hrd (h.take (k + 1)) q0 = hrd (h.take k) q0 ++ [q2]) := by show _ = _; rw [S0.out]; simp [has, g1]
          go_wp2_with (at_builtin; refine wpList_append_own _ rfl _ _ 30 rfl w.heap.size 3 ie (.int .i64 0) 1 8 Tryz.underlying30 HI.out.1 HI.out.2.1 HI.out.2.2.1 HI.out.2.2.2 rfl (by decide) _ (hrd (h.take k) q0).length _ rfl (by exact own_later O1.out ((Below.refl _ _).alloc (Nat.le_refl _) _)) ⟨wr.heap.size + 1, 0, none⟩ 1 1 [.int .i64 q2] rfl rfl (by exact new_int _ _ (by simp) q2 3) (int_one _) (by have := BL.out; unfold maxLen; omega) (by have := BL.out; omega) (by have := SZ.out; simp; omega) ?_; intro v' wn hown hgrow _; have HO : Hid _ := hown; have HGr : Hid _ := hgrow; clear hown hgrow)
          go_roundw
          case rel =>
            refine ⟨k + 1, by omega, by go_num, ?_, ?_⟩
            · exact (B1.out.alloc B1.out.size _).grown HGr.out (by have := SZ.out; simp; omega) (own_base O1.out)
            · show World.ownsRow _ _ _ _ _ _ _
              rw [S1.out, List.length_append, List.map_append]
              exact HO.out
          case measure => simp [intOf]; omega
      · have g0' : (q0 == who) = false := by simp [g0]
        have S1 : Hid (hrd (h.take (k + 1)) who = hrd (h.take k) who) := by show _ = _; rw [S0.out]; simp [has, g0]
        go_wp2
        go_roundw
        case rel =>
          refine ⟨k + 1, by omega, by go_num, B1.out, ?_⟩
          show World.ownsRow _ _ _ _ _ _ _
          rw [S1.out]
          exact O1.out
        case measure => simp [intOf]; omega
    · have hkl : k = len := by omega
      subst hkl
      go_wp2
      go_ret
      refine ⟨⟨_, rfl, ?_⟩, hbel.out⟩
      have o := hO.out
      rwa [List.take_of_length_le (by rw [G.out.1]; exact Nat.le_refl _)] at o
end Go.Proofs.YtpjoaogiaacikakGreatDoor.His
