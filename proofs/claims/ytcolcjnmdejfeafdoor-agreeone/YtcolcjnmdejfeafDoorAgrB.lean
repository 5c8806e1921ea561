/-
  Contracts of slices.Index, Contains and Clone over numbers, of cmp.Compare and Or, and of package agree's compare.
-/
import Derived.Test.YtcolcjnmdejfeafDoorAgrL
import Derived.Deep.QuietTactic
import Derived.BigQuiet
import Derived.Deep.RegionHeld3
import Derived.WalkLawsBesides
import Derived.Handy
namespace Go.Proofs.YtcolcjnmdejfeafDoor.Agr
open Go.RowKit Go.Maps
open Go.Proofs.YtcolcjnmdejfeafDoor.Fif (own_lt own_block own_form own_mono own_vw ret_bool info_int)
open Go.Proofs.YtcolcjnmdejfeafDoor.Vec (Vw)
open Go.Proofs.YtcolcjnmdejfeafDoor.MapV (MM putT delT)
set_option linter.unusedVariables false

theorem rtI {a b : Int} (h : a = b) : Ending.returned (.int .i64 a) = .returned (.int .i64 b) := by rw [h]
def ixA (xs : List Int) (n : Int) : Int := if n ∈ xs then (xs.findIdx (fun x => x == n) : Nat) else -1
theorem getDA {xs : List Int} {j : Nat} (hj : j < xs.length) : xs.getD j 0 = xs[j] := by simp [List.getD, hj]
theorem ixA_hit {xs : List Int} {n : Int} {k : Nat} (hk : k < xs.length) (hp : xs.getD k 0 = n) (hb : ∀ j, j < k → xs.getD j 0 ≠ n) : ixA xs n = (k : Int) := by
  have hm : n ∈ xs := by rw [← hp, getDA hk]; exact List.getElem_mem hk
  have hi : xs.findIdx (fun x => x == n) = k := by
    rw [List.findIdx_eq hk]
    refine ⟨by rw [← getDA hk, hp]; simp, fun j hj => ?_⟩
    have := hb j hj
    rw [getDA (by omega)] at this
    simpa using this
  rw [ixA, if_pos hm, hi]
theorem ixA_miss {xs : List Int} {n : Int} (hb : ∀ j, j < xs.length → xs.getD j 0 ≠ n) : ixA xs n = -1 := by
  rw [ixA, if_neg]
  intro hm
  obtain ⟨j, hj, e⟩ := List.getElem_of_mem hm
  exact hb j hj (by rw [getDA hj, e])
theorem idxA (a : Option Addr) (len cap : Nat) (xs : List Int) (n : Int) (w : World) (hm : len ≤ maxLen) (hv : Vw w a len xs) :
    Calls Tryd.prog 54 #[.slice a len cap, .int .i64 n] w fun e w' => e = .returned (.int .i64 (ixA xs n)) ∧ w' = w := by
  unfold maxLen at hm
  have G : Hid (Vw w a len xs) := hv
  clear hv
  go_enter Tryd.func54, Tryd.ntmps54
  go_wp2
  go_loopw [8] (fun i wr => ∃ k : Nat, k ≤ len ∧ i = .int .i64 k ∧ wr = w ∧ Hid (∀ j, j < k → xs.getD j 0 ≠ n)) (fun i _ => len - (intOf i).toNat)
  case atStart => exact ⟨0, by omega, rfl, rfl, fun j hj => absurd hj (by omega)⟩
  case round =>
    obtain ⟨k, hk, rfl, rfl, hp⟩ := hrel
    by_cases hlt : k < len
    · obtain ⟨b, off, rfl, _, hcs⟩ := G.out.2 (by omega)
      have c0 := hcs k hlt
      obtain ⟨x, ex⟩ : ∃ x, x = xs.getD k 0 := ⟨_, rfl⟩
      rw [← ex] at c0
      have EX : Hid (x = xs.getD k 0) := ex
      have hk0 : (0 : Int) ≤ (k : Int) := by omega
      have hkl : (k : Int) < (len : Int) := by omega
      clear hcs ex
      by_cases hx : x = n
      · subst hx
        have ht : (x == x) = true := by simp
        go_wp2
        go_ret
        exact ⟨rtI (ixA_hit (by rw [G.out.1]; exact hlt) EX.out.symm hp.out).symm, rfl⟩
      · have ht : (n == x) = false := by simp; exact fun e => hx e.symm
        have HX : Hid (x ≠ n) := hx
        go_wp2
        go_roundw
        case rel => exact ⟨k + 1, by omega, by go_num, by first | rfl | trivial, fun j hj => if e : j < k then hp.out j e else by rw [show j = k by omega, ← EX.out]; exact HX.out⟩
        case measure => simp [intOf]; omega
    · go_wp2
      go_ret
      exact ⟨rtI (ixA_miss fun j hj => hp.out j (by have := G.out.1; omega)).symm, rfl⟩
theorem contA (a : Option Addr) (len cap : Nat) (xs : List Int) (n : Int) (w : World) (hm : len ≤ maxLen) (hv : Vw w a len xs) :
    Calls Tryd.prog 46 #[.slice a len cap, .int .i64 n] w fun e w' => e = .returned (.bool (xs.contains n)) ∧ w' = w := by
  go_enter Tryd.func46, Tryd.ntmps46
  go_wp2_with fail
  refine (idxA a len cap xs n _ hm hv).mono ?_
  rintro e w1 ⟨rfl, rfl⟩
  clear hv
  go_wp2
  go_ret
  refine ⟨ret_bool ?_, rfl⟩
  rw [ixA]
  by_cases hx : n ∈ xs <;> simp [hx]
theorem ints_cont (l : List Nat) (v : Nat) : (ints l).contains (v : Int) = l.contains v := by
  rw [Bool.eq_iff_iff]
  simp [ints]
  constructor
  · rintro ⟨a, ha, e⟩
    have : a = v := by omega
    rwa [← this]
  · intro h
    exact ⟨v, h, rfl⟩
theorem int_empty (w : World) : (w.alloc (.cells #[] 3)).ownsRow w.heap.size 3 1 (.slice (some ⟨w.heap.size, 0, none⟩) 0 0) 0 [] := by
  refine ⟨rfl, .inr ⟨w.heap.size, 0, #[], rfl, Nat.le_refl _, ?_, Nat.le_refl _, by unfold maxLen; omega, rfl, rfl⟩⟩
  show (w.heap.push _)[w.heap.size]? = _
  simp
theorem int_ones (l : List Int) : ∀ u ∈ l.map (Value.int .i64), u.oneCell' = true := by
  intro u hu
  obtain ⟨x, _, rfl⟩ := List.mem_map.1 hu
  rfl
set_option maxRecDepth 100000 in
theorem cloneA (base : Nat) (v : Value) (l : List Nat) (w : World) (g : Lw w base v l) (hl : l.length ≤ 1000000) :
    Calls Tryd.prog 40 #[v] w fun x w' => ∃ v', x = .returned v' ∧ Lw w' w.heap.size v' l ∧ Below w.heap.size w w' := by
  rcases g.2 with ⟨rfl, h3⟩ | ⟨g0, cap, cur, rfl, hb, hh, hc, hm, hsz, ht⟩
  · have el : l = [] := List.eq_nil_of_length_eq_zero h3
    subst el
    have hnil := fun W : World => Lib.run_eql_slice_nil (P := Tryd.prog) W 28 3 none 0 0 0 0 Tryd.underlying28
    clear g hl h3
    go_enter Tryd.func40, Tryd.ntmps40
    go_wp2
    go_ret
    exact ⟨_, rfl, World.ownsRow_nil _ _ _ _, Below.refl _ _⟩
  · obtain ⟨n, en⟩ : ∃ n, n = l.length := ⟨_, rfl⟩
    have HN : Hid (n = l.length) := en
    have hlt : g0 < w.heap.size := by
      rcases Nat.lt_or_ge g0 w.heap.size with a | a
      · exact a
      · rw [Array.getElem?_eq_none a] at hh; cases hh
    have HC : Hid (∀ j u, ((ints l).map (Value.int .i64))[j]? = some u → (w.alloc (.cells #[] 3)).cell? ((⟨g0, 0, none⟩ : Addr).add j) = some u) := by
      intro j u hj
      have hjl : j < l.length * 1 := by
        have := (List.getElem?_eq_some_iff.1 hj).1
        rw [List.length_map, ints_len] at this
        omega
      rw [Addr.add_lit, Nat.zero_add]
      refine (((Below.refl w.heap.size w).alloc (Nat.le_refl _) _).cell (p := ⟨g0, j, none⟩) hlt).trans ?_
      rw [← ht, List.getElem?_take_of_lt hjl] at hj
      simp only [World.cell?, hh]
      simpa using hj
    obtain ⟨ie, hi, hz0, hz1, hz2⟩ := info_int
    have HI : Hid (Tryd.prog.info? 3 = some ie ∧ ie.zero = some (.int .i64 0) ∧ ie.size = 1 ∧ ie.bytes = 8) := ⟨hi, hz0, hz1, hz2⟩
    show Calls _ _ _ _ fun x w' => ∃ v', x = .returned v' ∧ w'.ownsRow w.heap.size 3 1 v' l.length ((ints l).map (Value.int .i64)) ∧ Below w.heap.size w w'
    rw [← en] at hl ⊢
    have hnil := fun W : World => Lib.run_eql_slice_nil (P := Tryd.prog) W 28 3 (some ⟨g0, 0, none⟩) n cap 0 0 Tryd.underlying28
    clear g hb hh hc hm hsz ht hi hz0 hz1 hz2 en hlt
    go_enter Tryd.func40, Tryd.ntmps40
    go_wp2_with (at_builtin; refine wpList_append_own _ rfl _ _ 28 rfl w.heap.size 3 ie (.int .i64 0) 1 8 Tryd.underlying28 HI.out.1 HI.out.2.1 HI.out.2.2.1 HI.out.2.2.2 rfl (by decide) _ 0 _ rfl (int_empty w) ⟨g0, 0, none⟩ n cap ((ints l).map (Value.int .i64)) rfl (by rw [List.length_map, ints_len, HN.out, Nat.mul_one]) HC.out (int_ones _) (by unfold maxLen; omega) (by omega) (by simp) ?_; intro v' wn hown hgrow _; rw [Nat.zero_add, List.nil_append] at hown; have HO : Hid (wn.ownsRow w.heap.size 3 1 v' n ((ints l).map (Value.int .i64))) := hown; have HGr : Hid _ := hgrow; clear hown hgrow)
    go_ret
    refine ⟨_, rfl, ?_, ((Below.refl w.heap.size w).alloc (Nat.le_refl _) _).grown HGr.out (by simp) (fun k e => (own_lt (int_empty w) k e).1)⟩
    exact HO.out
/-! which of two stamps is ahead -/
def cmpA (x y : Int) : Int := if x < y then -1 else if y < x then 1 else 0
def orA (x y : Int) : Int := if x = 0 then y else x
def cmS (a b : St) : Int := orA (cmpA (a.1 : Int) (b.1 : Int)) (cmpA (a.2 : Int) (b.2 : Int))
theorem cmS_lt (a b : St) : decide (cmS a b < 0) = les a b := by
  rw [Bool.eq_iff_iff, decide_eq_true_iff, les_iff]
  unfold cmS orA cmpA
  rcases Nat.lt_trichotomy a.1 b.1 with h | h | h
  · rw [if_pos (show (a.1 : Int) < (b.1 : Int) by omega)]
    simp [h]
  · rw [if_neg (show ¬ (a.1 : Int) < (b.1 : Int) by omega), if_neg (show ¬ (b.1 : Int) < (a.1 : Int) by omega), if_pos rfl]
    rcases Nat.lt_trichotomy a.2 b.2 with q | q | q
    · rw [if_pos (show (a.2 : Int) < (b.2 : Int) by omega)]
      simp [h, q]
    · rw [if_neg (show ¬ (a.2 : Int) < (b.2 : Int) by omega), if_neg (show ¬ (b.2 : Int) < (a.2 : Int) by omega)]
      constructor
      · intro z; omega
      · intro z; omega
    · rw [if_neg (show ¬ (a.2 : Int) < (b.2 : Int) by omega), if_pos (show (b.2 : Int) < (a.2 : Int) by omega)]
      constructor
      · intro z; omega
      · intro z; omega
  · rw [if_neg (show ¬ (a.1 : Int) < (b.1 : Int) by omega), if_pos (show (b.1 : Int) < (a.1 : Int) by omega), if_neg (by decide)]
    constructor
    · intro z; omega
    · intro z; omega
theorem cmS_gt (a b : St) : decide (cmS a b > 0) = les b a := by
  rw [Bool.eq_iff_iff, decide_eq_true_iff, les_iff]
  unfold cmS orA cmpA
  rcases Nat.lt_trichotomy a.1 b.1 with h | h | h
  · rw [if_pos (show (a.1 : Int) < (b.1 : Int) by omega), if_neg (by decide)]
    constructor
    · intro z; omega
    · intro z; omega
  · rw [if_neg (show ¬ (a.1 : Int) < (b.1 : Int) by omega), if_neg (show ¬ (b.1 : Int) < (a.1 : Int) by omega), if_pos rfl]
    rcases Nat.lt_trichotomy a.2 b.2 with q | q | q
    · rw [if_pos (show (a.2 : Int) < (b.2 : Int) by omega)]
      constructor
      · intro z; omega
      · intro z; omega
    · rw [if_neg (show ¬ (a.2 : Int) < (b.2 : Int) by omega), if_neg (show ¬ (b.2 : Int) < (a.2 : Int) by omega)]
      constructor
      · intro z; omega
      · intro z; omega
    · rw [if_neg (show ¬ (a.2 : Int) < (b.2 : Int) by omega), if_pos (show (b.2 : Int) < (a.2 : Int) by omega)]
      simp [h, q]
  · rw [if_neg (show ¬ (a.1 : Int) < (b.1 : Int) by omega), if_pos (show (b.1 : Int) < (a.1 : Int) by omega), if_neg (by decide)]
    simp [h]
theorem compA (x y : Int) (w : World) : Calls Tryd.prog 48 #[.int .i64 x, .int .i64 y] w fun e w' => e = .returned (.int .i64 (cmpA x y)) ∧ w' = w := by
  have hx : (x != x) = false := by simp
  have hy : (y != y) = false := by simp
  rcases Int.lt_trichotomy x y with h | h | h
  · have E : Hid (cmpA x y = -1) := if_pos h
    go_enter Tryd.func48, Tryd.ntmps48
    go_wp2
    go_ret
    exact ⟨rtI E.out.symm, rfl⟩
  · subst h
    have E : Hid (cmpA x x = 0) := by simp [cmpA, Hid]
    go_enter Tryd.func48, Tryd.ntmps48
    go_wp2
    go_ret
    exact ⟨rtI E.out.symm, rfl⟩
  · have h' : ¬ x < y := by omega
    have E : Hid (cmpA x y = 1) := by unfold cmpA; rw [if_neg h', if_pos h]; exact rfl
    go_enter Tryd.func48, Tryd.ntmps48
    go_wp2
    go_ret
    exact ⟨rtI E.out.symm, rfl⟩
set_option maxRecDepth 100000 in
theorem or2A (B : Nat) (x y : Int) (w : World) (h0 : w.cell? ⟨B, 0, none⟩ = some (.int .i64 x)) (h1 : w.cell? ⟨B, 1, none⟩ = some (.int .i64 y)) :
    Calls Tryd.prog 47 #[.slice (some ⟨B, 0, none⟩) 2 2] w fun e w' => e = .returned (.int .i64 (orA x y)) ∧ w' = w := by
  by_cases hx : x = 0
  · subst hx
    by_cases hy : y = 0
    · subst hy
      go_enter Tryd.func47, Tryd.ntmps47
      go_wp2
      refine wp_loop_rounds 3 ?_
      rw [rounds_succ]; go_wp2
      rw [rounds_succ]; go_wp2
      rw [rounds_succ]; go_wp2
      go_ret
      exact ⟨rfl, rfl⟩
    · have hy' : (y != 0) = true := by simp [hy]
      have E : Hid (orA 0 y = y) := if_pos rfl
      go_enter Tryd.func47, Tryd.ntmps47
      go_wp2
      refine wp_loop_rounds 3 ?_
      rw [rounds_succ]; go_wp2
      rw [rounds_succ]; go_wp2
      go_ret
      exact ⟨rtI E.out.symm, rfl⟩
  · have hx' : (x != 0) = true := by simp [hx]
    have E : Hid (orA x y = x) := if_neg hx
    go_enter Tryd.func47, Tryd.ntmps47
    go_wp2
    refine wp_loop_rounds 3 ?_
    rw [rounds_succ]; go_wp2
    go_ret
    exact ⟨rtI E.out.symm, rfl⟩
set_option maxRecDepth 100000 in
set_option maxHeartbeats 1000000 in
theorem cmpZ_any (i0 i1 j0 j1 : Int) (w : World) : Calls Tryd.prog 34 #[.agg #[.int .i64 i0, .int .i64 i1], .agg #[.int .i64 j0, .int .i64 j1]] w fun e w' => e = .returned (.int .i64 (orA (cmpA i0 j0) (cmpA i1 j1))) ∧ Below w.heap.size w w' := by
  go_enter Tryd.func34, Tryd.ntmps34
  go_wp2_with fail
  obtain ⟨W, eW⟩ : ∃ W, W = (w.alloc (Obj.cells #[.int .i64 i0, .int .i64 i1] 56)).alloc (Obj.cells #[.int .i64 j0, .int .i64 j1] 56) := ⟨_, rfl⟩
  have BW : Hid (Below w.heap.size w W) := by rw [eW]; exact ((Below.refl _ _).alloc (Nat.le_refl _) _).alloc (by simp) _
  have c0 : W.cell? ⟨w.heap.size, 0, none⟩ = some (.int .i64 i0) := by rw [eW]; go_cell
  have c1 : W.cell? ⟨w.heap.size, 1, none⟩ = some (.int .i64 i1) := by rw [eW]; go_cell
  have c2 : W.cell? ⟨w.heap.size + 1, 0, none⟩ = some (.int .i64 j0) := by rw [eW]; go_cell
  have c3 : W.cell? ⟨w.heap.size + 1, 1, none⟩ = some (.int .i64 j1) := by rw [eW]; go_cell
  rw [← eW]
  have m0 := World.new_ne W _ c0
  have m1 := World.new_ne W _ c1
  have m2 := World.new_ne W _ c2
  have m3 := World.new_ne W _ c3
  clear eW
  go_region_held3 (fun w' => w'.cell? ⟨w.heap.size, 0, none⟩ = some (.int .i64 i0) ∧ w'.cell? ⟨w.heap.size, 1, none⟩ = some (.int .i64 i1) ∧ w'.cell? ⟨w.heap.size + 1, 0, none⟩ = some (.int .i64 j0) ∧ w'.cell? ⟨w.heap.size + 1, 1, none⟩ = some (.int .i64 j1)) (go_keep)
    (first
      | (go_at_call 48; refine (compA _ _ _).mono ?_; rintro e w' ⟨rfl, rfl⟩)
      | (go_at_call 47; refine (or2A _ (cmpA i0 j0) (cmpA i1 j1) _ ?_ ?_).mono ?_; (simp); (simp); rintro e w' ⟨rfl, rfl⟩))
  all_goals go_wp2
  go_ret
  exact ⟨rfl, (((BW.out.alloc BW.out.size _)).drew)⟩
end Go.Proofs.YtcolcjnmdejfeafDoor.Agr
