/-
  Contracts of slices.Index, Contains and Clone over numbers, and of package view's checkMembers, inBoth and mostStay.
-/
import Derived.Test.YtgdmbnfdcbekaaiDoorViwE
import Derived.Deep.QuietTactic
import Derived.BigQuiet
import Derived.Deep.RegionHeld3
import Derived.WalkLawsBesides
import Derived.Handy
namespace Go.Proofs.YtgdmbnfdcbekaaiDoor.Viw
open Go.RowKit
open Go.Proofs.YtgdmbnfdcbekaaiDoor.Fif (ret_bool own_lt own_block own_form info_int new_int int_one own_vw)
open Go.Proofs.YtgdmbnfdcbekaaiDoor.Vec (Vw)
open Go.Proofs.YtgdmbnfdcbekaaiDoor.Ldr (errF errF_ok errF_no Sl)
set_option linter.unusedVariables false

theorem rtIP {a b : Int} (h : a = b) : Ending.returned (.int .i64 a) = .returned (.int .i64 b) := by rw [h]
theorem rtVP {a b : Value} (h : a = b) : Ending.returned a = .returned b := by rw [h]
def ixP (xs : List Int) (n : Int) : Int := if n ∈ xs then (xs.findIdx (fun x => x == n) : Nat) else -1
theorem getDP {xs : List Int} {j : Nat} (hj : j < xs.length) : xs.getD j 0 = xs[j] := by simp [List.getD, hj]
theorem ixP_hit {xs : List Int} {n : Int} {k : Nat} (hk : k < xs.length) (hp : xs.getD k 0 = n) (hb : ∀ j, j < k → xs.getD j 0 ≠ n) : ixP xs n = (k : Int) := by
  have hm : n ∈ xs := by rw [← hp, getDP hk]; exact List.getElem_mem hk
  have hi : xs.findIdx (fun x => x == n) = k := by
    rw [List.findIdx_eq hk]
    refine ⟨by rw [← getDP hk, hp]; simp, fun j hj => ?_⟩
    have := hb j hj
    rw [getDP (by omega)] at this
    simpa using this
  rw [ixP, if_pos hm, hi]
theorem ixP_miss {xs : List Int} {n : Int} (hb : ∀ j, j < xs.length → xs.getD j 0 ≠ n) : ixP xs n = -1 := by
  rw [ixP, if_neg]
  intro hm
  obtain ⟨j, hj, e⟩ := List.getElem_of_mem hm
  exact hb j hj (by rw [getDP hj, e])
theorem idxP (a : Option Addr) (len cap : Nat) (xs : List Int) (n : Int) (w : World) (hm : len ≤ maxLen) (hv : Vw w a len xs) :
    Calls Tryd.prog 32 #[.slice a len cap, .int .i64 n] w fun e w' => e = .returned (.int .i64 (ixP xs n)) ∧ w' = w := by
  unfold maxLen at hm
  have G : Hid (Vw w a len xs) := hv
  clear hv
  go_enter Tryd.func32, Tryd.ntmps32
  go_wp2
  go_loopw [8] (fun i wr => ∃ k : Nat, k ≤ len ∧ i = .int .i64 k ∧ wr = w ∧ Hid (∀ j, j < k → xs.getD j 0 ≠ n)) (fun i _ => len - (intOf i).toNat)
  case atStart => exact ⟨0, by omega, rfl, rfl, fun j hj => absurd hj (by omega)⟩
  case round =>
    obtain ⟨k, hk, rfl, rfl, hp⟩ := hrel
    by_cases hlt : k < len
    · obtain ⟨b, off, rfl, _, hcs⟩ := G.out.2 (by omega)
      have c0 := hcs k hlt
      obtain ⟨x, ex⟩ : ∃ x, x = xs.getD k 0 := ⟨_, rfl⟩
      rw [← ex] at c0
      have EX : Hid (x = xs.getD k 0) := ex
      have hk0 : (0 : Int) ≤ (k : Int) := by omega
      have hkl : (k : Int) < (len : Int) := by omega
      clear hcs ex
      by_cases hx : x = n
      · subst hx
        have ht : (x == x) = true := by simp
        go_wp2
        go_ret
        exact ⟨rtIP (ixP_hit (by rw [G.out.1]; exact hlt) EX.out.symm hp.out).symm, rfl⟩
      · have ht : (n == x) = false := by simp; exact fun e => hx e.symm
        have HX : Hid (x ≠ n) := hx
        go_wp2
        go_roundw
        case rel => exact ⟨k + 1, by omega, by go_num, by first | rfl | trivial, fun j hj => if e : j < k then hp.out j e else by rw [show j = k by omega, ← EX.out]; exact HX.out⟩
        case measure => simp [intOf]; omega
    · go_wp2
      go_ret
      exact ⟨rtIP (ixP_miss fun j hj => hp.out j (by have := G.out.1; omega)).symm, rfl⟩
theorem contP (a : Option Addr) (len cap : Nat) (xs : List Int) (n : Int) (w : World) (hm : len ≤ maxLen) (hv : Vw w a len xs) :
    Calls Tryd.prog 20 #[.slice a len cap, .int .i64 n] w fun e w' => e = .returned (.bool (xs.contains n)) ∧ w' = w := by
  go_enter Tryd.func20, Tryd.ntmps20
  go_wp2_with fail
  refine (idxP a len cap xs n _ hm hv).mono ?_
  rintro e w1 ⟨rfl, rfl⟩
  clear hv
  go_wp2
  go_ret
  refine ⟨ret_bool ?_, rfl⟩
  rw [ixP]
  by_cases hx : n ∈ xs <;> simp [hx]
/-! who is in a view -/
theorem has_atP {l : List Int} {k : Nat} (hk : k < l.length) (h : ∀ j, j < k → hasAt l j = 0) (hf : hasAt l k ≠ 0) : hasC l = hasAt l k := by
  unfold hasC
  rw [if_neg (by omega)]
  exact scan_at hk h hf
set_option maxRecDepth 100000 in
set_option maxHeartbeats 1000000 in
theorem members_any (l : List Int) (v : Value) (w : World) (h : Sl w v l) : Calls Tryd.prog 34 #[v] w fun x w' => x = .returned (errF (hasC l)) ∧ w' = w := by
  obtain ⟨q, c, rfl, hlc, hm, hv⟩ := h
  obtain ⟨len, elen⟩ : ∃ len, len = l.length := ⟨_, rfl⟩
  rw [← elen] at hv hlc ⊢
  have hml : (len : Int) ≤ 9223372036854775807 := by unfold maxLen at hm; omega
  by_cases h0 : len = 0
  · have e : errF (hasC l) = .iface 52 (.int .i64 5) := by unfold hasC; rw [if_pos (by rw [hv.1]; exact h0)]; rfl
    subst h0
    rw [e]
    clear hv e elen
    go_enter Tryd.func34, Tryd.ntmps34
    go_wp2
    go_ret
    exact ⟨rfl, rfl⟩
  · obtain ⟨b, off, rfl, hlt, hc⟩ := hv.2 (by omega)
    have HV : Hid (l.length = len ∧ b < w.heap.size ∧ ∀ k, k < len → w.cell? ⟨b, off + k, none⟩ = some (.int .i64 (l.getD k 0))) := ⟨hv.1, hlt, hc⟩
    have h0' : ((len : Int) == 0) = false := by rw [beq_eq_false_iff_ne]; omega
    clear hv hlt hc elen
    go_enter Tryd.func34, Tryd.ntmps34
    go_wp2
    go_loopw [11] (fun x wr => ∃ k : Nat, k ≤ len ∧ x = .int .i64 (k : Int) ∧ wr = w ∧ Hid (∀ j, j < k → hasAt l j = 0)) (fun x _ => len - (intOf x).toNat)
    case atStart => exact ⟨0, by omega, rfl, rfl, fun j hj => absurd hj (by omega)⟩
    case round =>
      obtain ⟨k, hk, rfl, rfl, hp⟩ := hrel
      by_cases hkl : k < len
      · have hkl' : (k : Int) < (len : Int) := by omega
        have hk0 : (0 : Int) ≤ (k : Int) := by omega
        have g1 := HV.out.2.2 k hkl
        obtain ⟨x, ex⟩ : ∃ x, x = l.getD k 0 := ⟨_, rfl⟩
        have EX : Hid (x = l.getD k 0) := ex
        rw [← ex] at g1
        clear ex
        by_cases h1 : x < 0
        · have e : hasC l = 1 := by
            have z : hasAt l k = 1 := by unfold hasAt; rw [← EX.out, if_pos (.inl h1)]
            rw [has_atP (by rw [HV.out.1]; exact hkl) hp.out (by rw [z]; decide), z]
          have E : Hid _ := e
          clear e
          go_wp2
          go_ret
          exact ⟨rtVP (by rw [E.out]; rfl), rfl⟩
        · by_cases h2 : x ≥ 5
          · have e : hasC l = 1 := by
              have z : hasAt l k = 1 := by unfold hasAt; rw [← EX.out, if_pos (.inr (by omega))]
              rw [has_atP (by rw [HV.out.1]; exact hkl) hp.out (by rw [z]; decide), z]
            have E : Hid _ := e
            clear e
            go_wp2
            go_ret
            exact ⟨rtVP (by rw [E.out]; rfl), rfl⟩
          · by_cases hk1 : k = 0
            · have z : hasAt l k = 0 := by unfold hasAt; rw [← EX.out, if_neg (by omega), if_neg (by omega)]
              have PP : Hid (∀ j, j < k + 1 → hasAt l j = 0) := fun j hj => if e : j < k then hp.out j e else by rw [show j = k by omega]; exact z
              have dk : decide ((k : Int) > 0) = false := decide_eq_false (by omega)
              have dk' : ¬ 0 < k := by omega
              have dk2 : decide (0 < k) = false := decide_eq_false dk'
              clear z hk1
              go_wp2
              go_roundw
              case rel => exact ⟨k + 1, by omega, by go_num, by first | rfl | trivial, PP.out⟩
              case measure => simp [intOf]; omega
            · obtain ⟨m, em⟩ : ∃ m, m = k - 1 := ⟨_, rfl⟩
              have ekm : (k : Int) - 1 = (m : Int) := by omega
              have hm0 : (0 : Int) ≤ (m : Int) := by omega
              have hml2 : (m : Int) < (len : Int) := by omega
              have g2 := HV.out.2.2 m (by omega)
              obtain ⟨y, ey⟩ : ∃ y, y = l.getD m 0 := ⟨_, rfl⟩
              have EY : Hid (y = l.getD m 0 ∧ m = k - 1) := ⟨ey, em⟩
              rw [← ey] at g2
              have dk' : 0 < k := by omega
              have dk : (k : Int) > 0 := by omega
              clear ey em
              by_cases hxy : x ≤ y
              · have e : hasC l = 3 := by
                  have z : hasAt l k = 3 := by unfold hasAt; rw [← EX.out, if_neg (by omega), ← EY.out.2, ← EY.out.1, if_pos ⟨dk', hxy⟩]
                  rw [has_atP (by rw [HV.out.1]; exact hkl) hp.out (by rw [z]; decide), z]
                have E : Hid _ := e
                clear e
                go_wp2
                go_ret
                exact ⟨rtVP (by rw [E.out]; rfl), rfl⟩
              · have z : hasAt l k = 0 := by unfold hasAt; rw [← EX.out, if_neg (by omega), ← EY.out.2, ← EY.out.1, if_neg (fun q => hxy q.2)]
                have PP : Hid (∀ j, j < k + 1 → hasAt l j = 0) := fun j hj => if e : j < k then hp.out j e else by rw [show j = k by omega]; exact z
                clear z
                go_wp2
                go_roundw
                case rel => exact ⟨k + 1, by omega, by go_num, by first | rfl | trivial, PP.out⟩
                case measure => simp [intOf]; omega
      · have hkl' : ¬ (k : Int) < (len : Int) := by omega
        have e : hasC l = 0 := by
          unfold hasC
          rw [if_neg (by rw [HV.out.1]; exact h0)]
          exact scan_ok.2 fun i hi => hp.out i (by have := HV.out.1; omega)
        have E : Hid _ := e
        clear e
        go_wp2
        go_ret
        exact ⟨rtVP (by rw [E.out]; rfl), rfl⟩
/-! who is in both -/
abbrev OwP (w : World) (base : Nat) (v : Value) (l : List Int) : Prop := w.ownsRow base 3 1 v l.length (l.map (Value.int .i64))
theorem OwP.sl {w : World} {base : Nat} {v : Value} {l : List Int} (h : OwP w base v l) : ∃ q c, v = .slice q l.length c ∧ Sl w (.slice q l.length c) l ∧ (∀ ad, q = some ad → base ≤ ad.block) := by
  have hs := Sl.of_own h
  obtain ⟨a, cap, e, h1, h2, h3⟩ := hs
  subst e
  refine ⟨a, cap, rfl, ⟨a, cap, rfl, h1, h2, h3⟩, fun ad ea => ?_⟩
  rcases h.2 with ⟨z, _⟩ | ⟨g, cap', cur, z, hg, _⟩
  · injection z with z1
    rw [ea] at z1
    cases z1
  · injection z with z1
    rw [ea] at z1
    injection z1 with z1
    rw [z1]
    exact hg
theorem shared_takeP {a b : List Int} {k : Nat} (hk : k < a.length) : shared (a.take (k + 1)) b = if a.getD k 0 ∈ b then shared (a.take k) b ++ [a.getD k 0] else shared (a.take k) b := by
  have e : a.take (k + 1) = a.take k ++ [a.getD k 0] := by
    rw [List.take_succ_eq_append_getElem hk]
    simp [List.getD, hk]
  unfold shared
  rw [e, List.filter_append]
  split
  · rename_i q
    rw [List.filter_cons, if_pos (decide_eq_true q)]
    rfl
  · rename_i q
    rw [List.filter_cons, if_neg (by rw [decide_eq_false q]; decide), List.filter_nil, List.append_nil]
set_option maxRecDepth 100000 in
set_option maxHeartbeats 1000000 in
theorem inBoth_at (a b : List Int) (qa : Option Addr) (la ca : Nat) (qb : Option Addr) (lb cb : Nat) (w : World) (ha : Vw w qa la a) (hb : Vw w qb lb b) (h1 : la ≤ 1000) (h2 : lb ≤ 1000) : Calls Tryd.prog 36 #[.slice qa la ca, .slice qb lb cb] w fun e w' => ∃ v, e = .returned v ∧ OwP w' w.heap.size v (shared a b) ∧ Below w.heap.size w w' := by
  have HV : Hid (Vw w qa la a ∧ Vw w qb lb b ∧ la = a.length) := ⟨ha, hb, ha.1.symm⟩
  obtain ⟨ii, hii, hz0, hz1, hz2⟩ := info_int
  have HJ : Hid (Tryd.prog.info? 3 = some ii ∧ ii.zero = some (.int .i64 0) ∧ ii.size = 1 ∧ ii.bytes = 8) := ⟨hii, hz0, hz1, hz2⟩
  clear ha hb hii hz0 hz1 hz2
  go_enter Tryd.func36, Tryd.ntmps36
  go_wp2
  go_loopw [5, 10] (fun y x wr => ∃ k : Nat, k ≤ la ∧ x = .int .i64 (k : Int) ∧ Hid (OwP wr w.heap.size y (shared (a.take k) b) ∧ Below w.heap.size w wr)) (fun _ x _ => la - (intOf x).toNat)
  case atStart => exact ⟨0, by omega, rfl, World.ownsRow_nil _ _ _ _, Below.refl _ _⟩
  case round =>
    obtain ⟨k, hk, rfl, hQ⟩ := hrel
    by_cases hlt : k < la
    · have hkl : (k : Int) < (la : Int) := by omega
      have hk0 : (0 : Int) ≤ (k : Int) := by omega
      obtain ⟨q, cap, rfl⟩ := own_form hQ.out.1
      obtain ⟨ba, oa, rfl, hlta, hca⟩ := HV.out.1.2 (by omega)
      have g1 := (hQ.out.2.cell (p := ⟨ba, oa + k, none⟩) hlta).trans (hca k hlt)
      obtain ⟨x, ex⟩ : ∃ x, x = a.getD k 0 := ⟨_, rfl⟩
      rw [← ex] at g1
      have EX : Hid (x = a.getD k 0) := ex
      obtain ⟨ll, ell⟩ : ∃ ll, ll = (shared (a.take k) b).length := ⟨_, rfl⟩
      have hll : ll ≤ 1000 := by have := shared_len (a.take k) b; rw [List.length_take] at this; omega
      have HL : Hid (ll = (shared (a.take k) b).length) := ell
      have O1 : Hid (wr.ownsRow w.heap.size 3 1 (.slice q ll cap) ll ((shared (a.take k) b).map (Value.int .i64)) ∧ Below w.heap.size w wr) := by rw [ell]; exact hQ.out
      rw [← ell]
      clear hQ ell ex hca hlta
      go_wp2_with fail
      refine (contP qb lb cb b x wr (by unfold maxLen; omega) (HV.out.2.1.later O1.out.2)).mono ?_
      rintro e wr ⟨rfl, rfl⟩
      by_cases hin : x ∈ b
      · have hcb : b.contains x = true := by simpa using hin
        rw [hcb]
        have HI : Hid (x ∈ b) := hin
        clear hcb hin
        go_wp2_with (at_builtin; refine wpList_append_own _ rfl _ _ 28 rfl w.heap.size 3 ii (.int .i64 0) 1 8 Tryd.underlying28 HJ.out.1 HJ.out.2.1 HJ.out.2.2.1 HJ.out.2.2.2 rfl (by decide) (.slice q ll cap) ll ((shared (a.take k) b).map (Value.int .i64)) rfl (by exact own_block O1.out.1 fun b hb => Below.heap_alloc _ _ _ (own_lt O1.out.1 b hb).2) ⟨wr.heap.size, 0, none⟩ 1 1 [.int .i64 x] rfl rfl (by exact new_int wr _ rfl _ 3) (int_one _) (by unfold maxLen; omega) (by omega) (by have := O1.out.2.size; simp; omega) ?_; intro v1 w4 hown hgrow _; obtain ⟨q1, k1, rfl⟩ := own_form hown; have HO1 : Hid (w4.ownsRow w.heap.size 3 1 (.slice q1 (ll + 1) k1) (ll + 1) ((shared (a.take k) b).map (Value.int .i64) ++ [.int .i64 x])) := hown; have HG1 : Hid ((wr.alloc (.cells #[.int .i64 x] 3)).grownBy w4 (Value.slice q ll cap).ownBlock) := hgrow; clear hown hgrow)
        go_roundw
        case rel =>
          refine ⟨k + 1, by omega, by go_num, ?_, ?_⟩
          · rw [shared_takeP (by rw [← HV.out.2.2]; exact hlt), ← EX.out, if_pos HI.out]
            show World.ownsRow _ _ _ _ _ _ _
            rw [List.length_append, List.map_append, ← HL.out]
            exact HO1.out
          · exact (O1.out.2.alloc O1.out.2.size _).grown HG1.out (by have := O1.out.2.size; simp; omega) fun b hb => (own_lt O1.out.1 b hb).1
        case measure => simp [intOf]; omega
      · have hcb : b.contains x = false := by simpa using hin
        rw [hcb]
        have HI : Hid (x ∉ b) := hin
        clear hcb hin
        go_wp2
        go_roundw
        case rel =>
          refine ⟨k + 1, by omega, by go_num, ?_, O1.out.2⟩
          rw [shared_takeP (by rw [← HV.out.2.2]; exact hlt), ← EX.out, if_neg HI.out]
          show World.ownsRow _ _ _ _ _ _ _
          rw [← HL.out]
          exact O1.out.1
        case measure => simp [intOf]; omega
    · have hkl : ¬ (k : Int) < (la : Int) := by omega
      have e : a.take k = a := List.take_of_length_le (by rw [← HV.out.2.2]; omega)
      rw [e] at hQ
      obtain ⟨q, cap, rfl⟩ := own_form hQ.out.1
      clear e
      go_wp2
      go_ret
      exact ⟨_, rfl, hQ.out.1, hQ.out.2⟩
theorem inBoth_any (a b : List Int) (u u' : Value) (w : World) (ha : Sl w u a) (hb : Sl w u' b) (h1 : a.length ≤ 1000) (h2 : b.length ≤ 1000) : Calls Tryd.prog 36 #[u, u'] w fun e w' => ∃ q c, e = .returned (.slice q (shared a b).length c) ∧ Sl w' (.slice q (shared a b).length c) (shared a b) ∧ Below w.heap.size w w' := by
  obtain ⟨qa, ca, rfl, -, -, va⟩ := ha
  obtain ⟨qb, cb, rfl, -, -, vb⟩ := hb
  refine (inBoth_at a b qa a.length ca qb b.length cb w va vb h1 h2).mono ?_
  rintro e w' ⟨v, rfl, ho, hB⟩
  obtain ⟨q, c, rfl, hs, -⟩ := ho.sl
  exact ⟨q, c, rfl, hs, hB⟩
set_option maxRecDepth 100000 in
theorem most_any (a b : List Int) (u u' : Value) (w : World) (ha : Sl w u a) (hb : Sl w u' b) (h1 : a.length ≤ 1000) (h2 : b.length ≤ 1000) : Calls Tryd.prog 35 #[u, u'] w fun e w' => e = .returned (.bool (!few a b)) ∧ Below w.heap.size w w' := by
  have H : Hid (Sl w u a ∧ Sl w u' b) := ⟨ha, hb⟩
  obtain ⟨qa, ca, rfl⟩ := Sl.form ha
  obtain ⟨la, ela⟩ : ∃ la, la = a.length := ⟨_, rfl⟩
  have EA : Hid (la = a.length) := ela
  rw [← ela]
  clear ha hb ela
  go_enter Tryd.func35, Tryd.ntmps35
  go_wp2_with fail
  rw [EA.out]
  refine (inBoth_any a b _ _ w H.out.1 H.out.2 h1 h2).mono ?_
  rintro e w1 ⟨q, c, rfl, -, hB⟩
  rw [← EA.out]
  have B1 : Hid (Below w.heap.size w w1) := hB
  obtain ⟨ls, els⟩ : ∃ ls, ls = (shared a b).length := ⟨_, rfl⟩
  have hls : ls ≤ 1000 := by have := shared_len a b; omega
  have EF : Hid (few a b = decide (2 * ls ≤ la)) := by show few a b = _; unfold few; rw [els, EA.out]
  rw [← els]
  have hwr : IntKind.i64.wrap (2 * (ls : Int)) = 2 * (ls : Int) := IntWalk.i64_in _ (by omega)
  clear els hB
  by_cases h3 : 2 * ls ≤ la
  · have HF : Hid (few a b = true) := by show few a b = true; rw [EF.out]; exact decide_eq_true h3
    have h3' : ¬ (2 : Int) * (ls : Int) > (la : Int) := by omega
    have h4 : ¬ (la < 2 * ls) := by omega
    have h5 : ¬ ((la : Int) < 2 * (ls : Int)) := by omega
    go_wp2
    go_ret
    refine ⟨rtVP ?_, B1.out⟩
    show Value.bool (decide ((la : Int) < 2 * (ls : Int))) = Value.bool (!few a b)
    rw [HF.out, show decide ((la : Int) < 2 * (ls : Int)) = false from decide_eq_false (by omega)]
    rfl
  · have HF : Hid (few a b = false) := by show few a b = false; rw [EF.out]; exact decide_eq_false h3
    have h3' : (2 : Int) * (ls : Int) > (la : Int) := by omega
    have h4 : la < 2 * ls := by omega
    have h5 : (la : Int) < 2 * (ls : Int) := by omega
    go_wp2
    go_ret
    exact ⟨rtVP (by rw [HF.out]; rfl), B1.out⟩
end Go.Proofs.YtgdmbnfdcbekaaiDoor.Viw
