/-
  The document's own answers on views: Has, View, Shared, Next.
-/
import Derived.Test.YtgdmbnfdcbekaaiDoorVwtI
import Derived.Deep.QuietTactic
import Derived.BigQuiet
import Derived.Deep.RegionHeld3
import Derived.WalkLawsBesides
import Derived.Handy
namespace Go.Proofs.YtgdmbnfdcbekaaiDoor.Viw
open Go.RowKit
open Go.Proofs.YtgdmbnfdcbekaaiDoor.Fif (ret_bool own_lt own_block own_form info_int new_int int_one)
open Go.Proofs.YtgdmbnfdcbekaaiDoor.Vec (Vw)
open Go.Proofs.YtgdmbnfdcbekaaiDoor.Ldr (Sl same_any)
set_option linter.unusedVariables false

theorem has_at {l : List Int} {k : Nat} (hk : k < l.length) (h : ∀ j, j < k → hasAt l j = 0) (hf : hasAt l k ≠ 0) : hasC l = hasAt l k := by
  unfold hasC
  rw [if_neg (by omega)]
  exact scan_at hk h hf
set_option maxRecDepth 100000 in
set_option maxHeartbeats 1000000 in
theorem refHas (l : List Int) (q : Option Addr) (len c : Nat) (w : World) (hv : Vw w q len l) (hm : len ≤ maxLen) : Calls Tryd.prog 40 #[.slice q len c] w fun e w' => e = .returned (.int .i64 (hasC l)) ∧ Below w.heap.size w w' := by
  have hml : (len : Int) ≤ 9223372036854775807 := by unfold maxLen at hm; omega
  by_cases h0 : len = 0
  · have e : hasC l = 5 := by unfold hasC; rw [if_pos (by rw [hv.1]; exact h0)]
    subst h0
    rw [e]
    clear hv e
    go_enter Tryd.func40, Tryd.ntmps40
    go_wp2
    go_ret
    exact ⟨rfl, Below.refl _ _⟩
  · obtain ⟨b, off, rfl, hlt, hc⟩ := hv.2 (by omega)
    have HV : Hid (l.length = len ∧ b < w.heap.size ∧ ∀ k, k < len → w.cell? ⟨b, off + k, none⟩ = some (.int .i64 (l.getD k 0))) := ⟨hv.1, hlt, hc⟩
    have h0' : ((len : Int) == 0) = false := by rw [beq_eq_false_iff_ne]; omega
    clear hv hlt hc
    go_enter Tryd.func40, Tryd.ntmps40
    go_wp2
    go_loopw [3] (fun x wr => ∃ k : Nat, k ≤ len ∧ x = .int .i64 (k : Int) ∧ Hid ((∀ j, j < k → hasAt l j = 0) ∧ Below w.heap.size w wr)) (fun x _ => len - (intOf x).toNat)
    case atStart => exact ⟨0, by omega, rfl, fun j hj => absurd hj (by omega), Below.refl _ _⟩
    case round =>
      obtain ⟨k, hk, rfl, hp⟩ := hrel
      by_cases hkl : k < len
      · have hkl' : (k : Int) < (len : Int) := by omega
        have hk0 : (0 : Int) ≤ (k : Int) := by omega
        have g1 := (hp.out.2.cell (p := ⟨b, off + k, none⟩) HV.out.2.1).trans (HV.out.2.2 k hkl)
        obtain ⟨x, ex⟩ : ∃ x, x = l.getD k 0 := ⟨_, rfl⟩
        have EX : Hid (x = l.getD k 0) := ex
        rw [← ex] at g1
        clear ex
        by_cases h1 : x < 0
        · have e : hasC l = 1 := by
            have z : hasAt l k = 1 := by unfold hasAt; rw [← EX.out, if_pos (.inl h1)]
            rw [has_at (by rw [HV.out.1]; exact hkl) hp.out.1 (by rw [z]; decide), z]
          have E : Hid _ := e
          clear e
          go_wp2
          go_ret
          exact ⟨ret_iv E.out.symm, hp.out.2⟩
        · by_cases h2 : x > 4
          · have e : hasC l = 1 := by
              have z : hasAt l k = 1 := by unfold hasAt; rw [← EX.out, if_pos (.inr h2)]
              rw [has_at (by rw [HV.out.1]; exact hkl) hp.out.1 (by rw [z]; decide), z]
            have E : Hid _ := e
            clear e
            go_wp2
            go_ret
            exact ⟨ret_iv E.out.symm, hp.out.2⟩
          · by_cases hk1 : k = 0
            · have z : hasAt l k = 0 := by unfold hasAt; rw [← EX.out, if_neg (by omega), if_neg (by omega)]
              have PP : Hid ((∀ j, j < k + 1 → hasAt l j = 0) ∧ Below w.heap.size w wr) := ⟨fun j hj => if e : j < k then hp.out.1 j e else by rw [show j = k by omega]; exact z, hp.out.2⟩
              have dk : decide ((k : Int) > 0) = false := decide_eq_false (by omega)
              have dk' : ¬ 0 < k := by omega
              have dk2 : decide (0 < k) = false := decide_eq_false dk'
              clear z hk1
              go_wp2_with fail
              go_quiet (fail)
              go_wp2
              go_roundw
              case rel => exact ⟨k + 1, by omega, by go_num, PP.out.1, drewsV PP.out.2 _⟩
              case measure => simp [intOf]; omega
            · obtain ⟨m, em⟩ : ∃ m, m = k - 1 := ⟨_, rfl⟩
              have ekm : (k : Int) - 1 = (m : Int) := by omega
              have hm0 : (0 : Int) ≤ (m : Int) := by omega
              have hml2 : (m : Int) < (len : Int) := by omega
              have g2 := (hp.out.2.cell (p := ⟨b, off + m, none⟩) HV.out.2.1).trans (HV.out.2.2 m (by omega))
              obtain ⟨y, ey⟩ : ∃ y, y = l.getD m 0 := ⟨_, rfl⟩
              have EY : Hid (y = l.getD m 0 ∧ m = k - 1) := ⟨ey, em⟩
              rw [← ey] at g2
              have dk' : 0 < k := by omega
              have dk : (k : Int) > 0 := by omega
              clear ey em
              by_cases hxy : x ≤ y
              · have e : hasC l = 3 := by
                  have z : hasAt l k = 3 := by unfold hasAt; rw [← EX.out, if_neg (by omega), ← EY.out.2, ← EY.out.1, if_pos ⟨dk', hxy⟩]
                  rw [has_at (by rw [HV.out.1]; exact hkl) hp.out.1 (by rw [z]; decide), z]
                have E : Hid _ := e
                clear e
                go_wp2_with fail
                go_quiet (fail)
                go_wp2
                go_ret
                exact ⟨ret_iv E.out.symm, drewsV hp.out.2 _⟩
              · have z : hasAt l k = 0 := by unfold hasAt; rw [← EX.out, if_neg (by omega), ← EY.out.2, ← EY.out.1, if_neg (fun q => hxy q.2)]
                have PP : Hid ((∀ j, j < k + 1 → hasAt l j = 0) ∧ Below w.heap.size w wr) := ⟨fun j hj => if e : j < k then hp.out.1 j e else by rw [show j = k by omega]; exact z, hp.out.2⟩
                clear z
                go_wp2_with fail
                go_quiet (fail)
                go_wp2
                go_roundw
                case rel => exact ⟨k + 1, by omega, by go_num, PP.out.1, drewsV PP.out.2 _⟩
                case measure => simp [intOf]; omega
      · have hkl' : ¬ (k : Int) < (len : Int) := by omega
        have e : hasC l = 0 := by
          unfold hasC
          rw [if_neg (by have := HV.out.1; omega)]
          exact scan_ok.2 fun j hj => hp.out.1 j (by have := HV.out.1; omega)
        have E : Hid _ := e
        clear e
        go_wp2
        go_ret
        exact ⟨ret_iv E.out.symm, hp.out.2⟩
/-- a row that the call has made -/
abbrev Ow (w : World) (base : Nat) (v : Value) (l : List Int) : Prop := w.ownsRow base 3 1 v l.length (l.map (Value.int .i64))
theorem shared_take {a b : List Int} {k : Nat} (hk : k < a.length) : shared (a.take (k + 1)) b = if a.getD k 0 ∈ b then shared (a.take k) b ++ [a.getD k 0] else shared (a.take k) b := by
  have e : a.take (k + 1) = a.take k ++ [a.getD k 0] := by
    rw [List.take_succ_eq_append_getElem hk]
    simp [List.getD, hk]
  unfold shared
  rw [e, List.filter_append]
  split
  · rename_i q
    rw [List.filter_cons, if_pos (decide_eq_true q)]
    rfl
  · rename_i q
    rw [List.filter_cons, if_neg (by rw [decide_eq_false q]; decide), List.filter_nil, List.append_nil]
set_option maxRecDepth 100000 in
set_option maxHeartbeats 1000000 in
theorem refShared (a b : List Int) (qa : Option Addr) (la ca : Nat) (qb : Option Addr) (lb cb : Nat) (w : World) (ha : Vw w qa la a) (hb : Vw w qb lb b) (h1 : la ≤ 1000) (h2 : lb ≤ 1000) : Calls Tryd.prog 31 #[.slice qa la ca, .slice qb lb cb] w fun e w' => ∃ v, e = .returned v ∧ Ow w' w.heap.size v (shared a b) ∧ Below w.heap.size w w' := by
  have HV : Hid (Vw w qa la a ∧ Vw w qb lb b ∧ la = a.length) := ⟨ha, hb, ha.1.symm⟩
  obtain ⟨ii, hii, hz0, hz1, hz2⟩ := info_int
  have HJ : Hid (Tryd.prog.info? 3 = some ii ∧ ii.zero = some (.int .i64 0) ∧ ii.size = 1 ∧ ii.bytes = 8) := ⟨hii, hz0, hz1, hz2⟩
  clear ha hb hii hz0 hz1 hz2
  go_enter Tryd.func31, Tryd.ntmps31
  go_wp2
  go_loopw [5, 6, 7] (fun y x x7 wr => ∃ k : Nat, k ≤ la ∧ x = .int .i64 (k : Int) ∧ Hid (Ow wr w.heap.size y (shared (a.take k) b) ∧ Below w.heap.size w wr)) (fun _ x _ _ => la - (intOf x).toNat)
  case atStart => exact ⟨0, by omega, rfl, World.ownsRow_nil _ _ _ _, Below.refl _ _⟩
  case round =>
    obtain ⟨k, hk, rfl, hQ⟩ := hrel
    by_cases hlt : k < la
    · have hkl : (k : Int) < (la : Int) := by omega
      have hk0 : (0 : Int) ≤ (k : Int) := by omega
      obtain ⟨q, cap, rfl⟩ := own_form hQ.out.1
      obtain ⟨ba, oa, rfl, hlta, hca⟩ := HV.out.1.2 (by omega)
      have g1 := (hQ.out.2.cell (p := ⟨ba, oa + k, none⟩) hlta).trans (hca k hlt)
      obtain ⟨x, ex⟩ : ∃ x, x = a.getD k 0 := ⟨_, rfl⟩
      rw [← ex] at g1
      have EX : Hid (x = a.getD k 0) := ex
      obtain ⟨ll, ell⟩ : ∃ ll, ll = (shared (a.take k) b).length := ⟨_, rfl⟩
      have hll : ll ≤ 1000 := by have := shared_len (a.take k) b; rw [List.length_take] at this; omega
      have HL : Hid (ll = (shared (a.take k) b).length) := ell
      have O1 : Hid (wr.ownsRow w.heap.size 3 1 (.slice q ll cap) ll ((shared (a.take k) b).map (Value.int .i64)) ∧ Below w.heap.size w wr) := by rw [ell]; exact hQ.out
      rw [← ell]
      clear hQ ell ex hca hlta
      go_wp2_with fail
      refine (refIn qb lb cb b x wr (HV.out.2.1.later O1.out.2) h2).mono ?_
      rintro e wr ⟨rfl, rfl⟩
      by_cases hin : x ∈ b
      · have hcb : b.contains x = true := by simpa using hin
        rw [hcb]
        have HI : Hid (x ∈ b) := hin
        clear hcb hin
        go_wp2_with (at_builtin; refine wpList_append_own _ rfl _ _ 28 rfl w.heap.size 3 ii (.int .i64 0) 1 8 Tryd.underlying28 HJ.out.1 HJ.out.2.1 HJ.out.2.2.1 HJ.out.2.2.2 rfl (by decide) (.slice q ll cap) ll ((shared (a.take k) b).map (Value.int .i64)) rfl (by exact own_block O1.out.1 fun b hb => Below.heap_alloc _ _ _ (own_lt O1.out.1 b hb).2) ⟨wr.heap.size, 0, none⟩ 1 1 [.int .i64 x] rfl rfl (by exact new_int wr _ rfl _ 3) (int_one _) (by unfold maxLen; omega) (by omega) (by have := O1.out.2.size; simp; omega) ?_; intro v1 w4 hown hgrow _; obtain ⟨q1, k1, rfl⟩ := own_form hown; have HO1 : Hid (w4.ownsRow w.heap.size 3 1 (.slice q1 (ll + 1) k1) (ll + 1) ((shared (a.take k) b).map (Value.int .i64) ++ [.int .i64 x])) := hown; have HG1 : Hid ((wr.alloc (.cells #[.int .i64 x] 3)).grownBy w4 (Value.slice q ll cap).ownBlock) := hgrow; clear hown hgrow)
        go_roundw
        case rel =>
          refine ⟨k + 1, by omega, by go_num, ?_, ?_⟩
          · rw [shared_take (by rw [← HV.out.2.2]; exact hlt), ← EX.out, if_pos HI.out]
            show World.ownsRow _ _ _ _ _ _ _
            rw [List.length_append, List.map_append, ← HL.out]
            exact HO1.out
          · exact (O1.out.2.alloc O1.out.2.size _).grown HG1.out (by have := O1.out.2.size; simp; omega) fun b hb => (own_lt O1.out.1 b hb).1
        case measure => simp [intOf]; omega
      · have hcb : b.contains x = false := by simpa using hin
        rw [hcb]
        have HI : Hid (x ∉ b) := hin
        clear hcb hin
        go_wp2
        go_roundw
        case rel =>
          refine ⟨k + 1, by omega, by go_num, ?_, O1.out.2⟩
          rw [shared_take (by rw [← HV.out.2.2]; exact hlt), ← EX.out, if_neg HI.out]
          show World.ownsRow _ _ _ _ _ _ _
          rw [← HL.out]
          exact O1.out.1
        case measure => simp [intOf]; omega
    · have hkl : ¬ (k : Int) < (la : Int) := by omega
      have ek : a.take k = a := List.take_of_length_le (by have := HV.out.2.2; omega)
      rw [ek] at hQ
      clear ek
      go_wp2
      go_ret
      exact ⟨_, rfl, hQ.out⟩
theorem Ow.sl {w : World} {base : Nat} {v : Value} {l : List Int} (h : Ow w base v l) : ∃ q c, v = .slice q l.length c ∧ Sl w (.slice q l.length c) l := by
  obtain ⟨q, c, rfl⟩ := own_form h
  exact ⟨q, c, rfl, Sl.of_own h⟩
set_option maxRecDepth 100000 in
set_option maxHeartbeats 1000000 in
theorem refNext (v : Vi) (has : List Int) (q : Option Addr) (lv c : Nat) (q' : Option Addr) (lh c' : Nat) (w : World) (hv : Vw w q lv v.has) (hh : Vw w q' lh has) (hm : lh ≤ maxLen) (hc : viewC v = 0) : Calls Tryd.prog 30 #[.agg #[.int .i64 v.n, .slice q lv c], .slice q' lh c'] w fun e w' => e = .returned (.int .i64 (nxC v has)) ∧ Below w.heap.size w w' := by
  have B1 : Hid (Below w.heap.size w (w.alloc (.cells #[.int .i64 v.n, .slice q lv c] 30))) := (Below.refl _ _).alloc (Nat.le_refl _) _
  obtain ⟨n, en⟩ : ∃ n, n = v.n := ⟨_, rfl⟩
  have hlv : lv ≤ 5 := by have := has_le (view_ok hc).2; have := hv.1; omega
  have HV : Hid (Vw w q lv v.has ∧ Vw w q' lh has ∧ lh ≤ maxLen) := ⟨hv, hh, hm⟩
  rw [← en] at B1
  rw [← en]
  by_cases h1 : n = 1000000
  · have e : nxC v has = 4 := by unfold nxC; rw [← en, if_pos h1]
    rw [e]
    have h1' : (n == 1000000) = true := by rw [beq_iff_eq]; exact h1
    clear hv hh hm hc e en h1
    go_enter Tryd.func30, Tryd.ntmps30
    go_wp2
    go_ret
    exact ⟨rfl, B1.out⟩
  · have h1' : (n == 1000000) = false := by rw [beq_eq_false_iff_ne]; exact h1
    obtain ⟨cc, ecc⟩ : ∃ cc, cc = hasC has := ⟨_, rfl⟩
    have e : nxC v has = if cc = 0 then (if few v.has has = true then 8 else 0) else cc := by unfold nxC; rw [← en, if_neg h1, ecc]
    obtain ⟨r, er⟩ : ∃ r, r = nxC v has := ⟨_, rfl⟩
    rw [← er]
    rw [← er] at e
    have EC : Hid (cc = hasC has ∧ r = if cc = 0 then (if few v.has has = true then 8 else 0) else cc) := ⟨ecc, e⟩
    clear hv hh hm hc e en ecc er
    by_cases h2 : cc = 0
    · have hlh : lh ≤ 5 := by have := has_le (l := has) (by rw [← EC.out.1]; exact h2); have := HV.out.2.1.1; omega
      have EF : Hid (few v.has has = decide (2 * (shared v.has has).length ≤ lv)) := by show _ = _; unfold few; rw [HV.out.1.1]
      have h2' : Hid (cc = 0) := h2
      clear h2
      go_enter Tryd.func30, Tryd.ntmps30
      go_wp2_with fail
      refine (refHas has q' lh c' _ (HV.out.2.1.later B1.out) HV.out.2.2).mono ?_
      rintro e w2 ⟨rfl, hb⟩
      rw [← EC.out.1, h2'.out]
      have B2 : Hid (Below w.heap.size w w2) := B1.out.trans (hb.mono B1.out.size)
      have HS : Hid (∀ X : World, (∀ b, b < w2.heap.size → X.heap[b]? = w2.heap[b]?) → X.cell? ⟨w.heap.size, 1, none⟩ = some (.slice q lv c)) := by
        intro X hX
        have r := World.rowIs_alloc w #[.int .i64 n, .slice q lv c] 30 (sv n (.slice q lv c)) (fun i hi => by rcases i with _ | _ | i <;> first | rfl | (exfalso; have : _ < 2 := hi; omega))
        have hl := World.rowIs.lt r
        have r2 := World.rowIs.of_block r (hb.block _ hl)
        exact (World.cell?_of_block (a := ⟨w.heap.size, 1, none⟩) (hX _ (World.rowIs.lt r2))).trans (World.rowIs.cell r2 (i := 1) (by simp))
      clear hb
      go_wp2_with fail
      go_region_held3 (fun X => X.cell? ⟨w.heap.size, 1, none⟩ = some (.slice q lv c)) (first | exact HS.out _ (fun _ _ => rfl) | exact HS.out _ (fun b hb' => B4.out.1.block b hb')) (first
        | (go_at_call 31; refine (refShared v.has has q lv c q' lh c' _ (by have z := HV.out.1.later B2.out; exact z) (by have z := HV.out.2.1.later B2.out; exact z) (by omega) (by omega)).mono ?_; rintro e4 w4 ⟨v4, rfl, ho, hb⟩; obtain ⟨q4, c4, rfl, hsl⟩ := Ow.sl ho; obtain ⟨l4, el4⟩ : ∃ l4, l4 = (shared v.has has).length := ⟨_, rfl⟩; rw [← el4]; have EL4 : Hid (l4 = (shared v.has has).length) := el4; have hl4 : l4 ≤ 5 := (by have := shared_len v.has has; have := HV.out.1.1; omega); have B4 : Hid (Below w2.heap.size w2 w4 ∧ True) := ⟨⟨hb.os, hb.tape, hb.output, hb.size, fun k hk => hb.block k hk⟩, trivial⟩; clear ho hb hsl el4))
      have hwr : IntKind.i64.wrap (2 * (l4 : Int)) = 2 * (l4 : Int) := IntWalk.i64_in _ (by omega)
      have BB : Hid (Below w.heap.size w w4) := B2.out.trans (B4.out.1.mono B2.out.size)
      by_cases h3 : 2 * l4 ≤ lv
      · have E3 : Hid (few v.has has = true) := by rw [EF.out, ← EL4.out]; exact decide_eq_true h3
        have h3' : (2 : Int) * (l4 : Int) ≤ (lv : Int) := by omega
        have ER : Hid (r = 8) := by have z := EC.out.2; rw [if_pos h2'.out, if_pos E3.out] at z; exact z
        go_wp2
        go_ret
        exact ⟨ret_iv ER.out.symm, BB.out⟩
      · have E3 : Hid (few v.has has = false) := by rw [EF.out, ← EL4.out]; exact decide_eq_false h3
        have h3' : ¬ (2 : Int) * (l4 : Int) ≤ (lv : Int) := by omega
        have ER : Hid (r = 0) := by have z := EC.out.2; rw [if_pos h2'.out, if_neg (by rw [E3.out]; decide)] at z; exact z
        go_wp2
        go_ret
        exact ⟨ret_iv ER.out.symm, BB.out⟩
    · have h2' : (cc == 0) = false := by rw [beq_eq_false_iff_ne]; exact h2
      have ER : Hid (r = cc) := by have z := EC.out.2; rw [if_neg h2] at z; exact z
      go_enter Tryd.func30, Tryd.ntmps30
      go_wp2_with fail
      refine (refHas has q' lh c' _ (HV.out.2.1.later B1.out) HV.out.2.2).mono ?_
      rintro e w2 ⟨rfl, hb⟩
      rw [← EC.out.1]
      have B2 : Hid (Below w.heap.size w w2) := B1.out.trans (hb.mono B1.out.size)
      clear hb
      go_wp2_with fail
      go_quiet (fail)
      go_wp2
      go_ret
      exact ⟨ret_iv ER.out.symm, drewsV B2.out _⟩
end Go.Proofs.YtgdmbnfdcbekaaiDoor.Viw
