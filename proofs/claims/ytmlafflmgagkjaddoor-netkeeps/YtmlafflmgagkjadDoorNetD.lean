/-
  slices.Delete of one packet, out of a row that the call owns.
-/
import Derived.Test.YtmlafflmgagkjadDoorNetA
import Derived.WalkLawsBesides
import Derived.Deep.RegionLaw
import Derived.Lib.SliceRun
import Derived.Lib.LazyBuf
namespace Go.Proofs.YtmlafflmgagkjadDoor.Nw
open Go.RowKit
open Go.Proofs.YtmlafflmgagkjadDoor.Net
open Go.Proofs.YtmlafflmgagkjadDoor.Fif (own_lt own_block own_form own_mono Kp ret_bool)
set_option linter.unusedVariables false

theorem below_cells {B b : Nat} {a : World} (hb : B ≤ b) (vs : List Value) (o : Nat) (w : World) (h : Below B a w) : Below B a (w.setCells b o vs) := Go.below_setCells hb vs o w h
theorem cells_other {b k : Nat} : ∀ (vs : List Value) (o : Nat) (w : World), k ≠ b → (w.setCells b o vs).heap[k]? = w.heap[k]?
  | [], _, _, _ => rfl
  | v :: r, o, w, h => (cells_other r (o + 1) _ h).trans (Deep.blk_setCell_other _ _ _ _ h)
/-- what is left of a row with one packet less -/
def delF (f : Nat → Value) (l : List Pk) (i j : Nat) : Value := if (l.length - 1) * 3 ≤ j ∧ j < (l.length - 1) * 3 + 3 then .int .i64 0 else if i * 3 ≤ j ∧ j < i * 3 + (flat (l.drop (i + 1))).length then (flat (l.drop (i + 1)))[j - i * 3]?.getD default else f j
theorem del_take {cur cur2 : Array Value} {l : List Pk} {i cap : Nat} (hi : i < l.length) (hc : l.length ≤ cap) (hs : cur.size = cap * 3) (hs2 : cur2.size = cap * 3) (ht : cur.toList.take (l.length * 3) = flat l)
    (h2 : ∀ j, j < cap * 3 → cur2[j]? = some (delF (fun j => cur[j]?.getD default) l i j)) : cur2.toList.take ((l.length - 1) * 3) = flat (l.eraseIdx i) := by
  have hf : (flat l).length = l.length * 3 := flat_len l
  have e : flat (l.eraseIdx i) = (flat l).take (i * 3) ++ (flat l).drop ((i + 1) * 3) := by
    rw [List.eraseIdx_eq_take_drop_succ, flat_append, flat_take, flat_drop]
  have hdl : (flat (l.drop (i + 1))).length = l.length * 3 - (i + 1) * 3 := by rw [flat_drop, List.length_drop, hf]
  have hcur : ∀ j, j < l.length * 3 → cur[j]? = (flat l)[j]? := by
    intro j hj
    rw [← ht, List.getElem?_take_of_lt hj, Array.getElem?_toList]
  rw [e]
  apply List.ext_getElem?
  intro j
  by_cases hj : j < (l.length - 1) * 3
  · rw [List.getElem?_take_of_lt hj, Array.getElem?_toList, h2 j (by omega), delF, if_neg (by omega)]
    by_cases hji : j < i * 3
    · rw [if_neg (by omega), hcur j (by omega), List.getElem?_append_left (by rw [List.length_take]; omega), List.getElem?_take_of_lt hji]
      rw [List.getElem?_eq_getElem (by omega)]
      rfl
    · rw [if_pos (by rw [hdl]; omega), List.getElem?_append_right (by rw [List.length_take]; omega), List.length_take, Nat.min_eq_left (by omega), flat_drop]
      rw [List.getElem?_eq_getElem (by rw [List.length_drop]; omega)]
      rfl
  · rw [List.getElem?_take_eq_none (by omega), List.getElem?_eq_none (by rw [List.length_append, List.length_take, List.length_drop]; omega)]
theorem zeroP (W : World) : (zeroValue 54).run Tryd.prog W = .ok (.agg #[.int .i64 0, .int .i64 0, .int .i64 0]) W := by kernel_rfl
/-- clear of one packet -/
theorem run_clear3 (w : World) (ty : TypeId) (b o c : Nat) (hc : ∀ j, j < 3 → (w.cell? ⟨b, o + j, none⟩).isSome = true) (hf : ∀ j, j < 3 → w.frozen? ⟨b, o + j, none⟩ = false) :
    (Builtin.clear_ #[49] ty #[.slice (some ⟨b, o, none⟩) 1 c]).run Tryd.prog w = .ok (.tuple #[]) (w.setCells b o [.int .i64 0, .int .i64 0, .int .i64 0]) := by
  have hst := run_storeCells_cells (P := Tryd.prog) b o [.int .i64 0, .int .i64 0, .int .i64 0] 0 w (by simpa using hc) (by simpa using hf) (by intro v hv; simp at hv; subst hv; rfl)
  simp only [Nat.add_zero] at hst
  have hz : (Builtin.zeroCells (Value.agg #[.int .i64 0, .int .i64 0, .int .i64 0]).cells 1).toList = [.int .i64 0, .int .i64 0, .int .i64 0] := by kernel_rfl
  simp [Builtin.clear_, run_underlying Tryd.underlying49, hz, hst]
theorem row_of {w : World} {g cap : Nat} {t : TypeId} {cur : Array Value} (h : w.heap[g]? = some (.cells cur t (0, 0))) (hs : cur.size = cap) : w.rowIs g t cap (fun j => cur[j]?.getD default) :=
  ⟨cur, h, hs, fun i hi => by simp [Array.getElem?_eq_getElem (show i < cur.size by omega)]⟩
set_option maxRecDepth 100000 in
set_option maxHeartbeats 1000000 in
theorem del_raw (g cap i j n : Nat) (l : List Pk) (w : World) (cur : Array Value) (hn : n = l.length) (hj : j = i + 1) (hi : i < n) (hh : w.heap[g]? = some (.cells cur 54 (0, 0))) (hc : n ≤ cap) (hm : cap ≤ maxLen) (hsz : cur.size = cap * 3) (ht : cur.toList.take (n * 3) = flat l) :
    Calls Tryd.prog 53 #[.slice (some ⟨g, 0, none⟩) n cap, .int .i64 (i : Int), .int .i64 (j : Int)] w fun x w' => x = .returned (.slice (some ⟨g, 0, none⟩) (n - 1) cap) ∧ w' = (w.drew.setCells g (i * 3) (flat (l.drop (i + 1)))).setCells g ((n - 1) * 3) [.int .i64 0, .int .i64 0, .int .i64 0] := by
  obtain ⟨ie, hie, hz0, hz1, hz2⟩ := info_pk
  have R0 : w.drew.rowIs g 54 (cap * 3) (fun j => cur[j]?.getD default) := row_of hh hsz
  obtain ⟨news, hnews⟩ : ∃ news, news = flat (l.drop (i + 1)) := ⟨_, rfl⟩
  have hlen : news.length = (n - j) * 3 := by rw [hnews, flat_len, List.length_drop]; omega
  have hget : ∀ t u, news[t]? = some u → w.cell? ⟨g, j * 3 + t, none⟩ = some u := by
    intro t u hu
    have hlt := (List.getElem?_eq_some_iff.1 hu).1
    rw [hlen] at hlt
    rw [hnews, flat_drop, List.getElem?_drop, ← ht, ← hj, List.getElem?_take_of_lt (by omega)] at hu
    simp only [World.cell?, hh]
    simpa using hu
  obtain ⟨A, hA, hsrc⟩ : ∃ A : Addr, (if cap = j then some (⟨g, 0, none⟩ : Addr) else some ⟨g, j * 3, none⟩) = some A ∧ Hid (∀ t u, news[t]? = some u → w.drew.cell? (A.add t) = some u) := by
    by_cases h : cap = j
    · refine ⟨⟨g, 0, none⟩, by simp [h], fun t u hu => ?_⟩
      have h0 : news.length = 0 := by rw [hlen]; omega
      rw [List.length_eq_zero_iff.1 h0] at hu
      simp at hu
    · refine ⟨⟨g, j * 3, none⟩, by simp [h], fun t u hu => ?_⟩
      rw [Addr.add_lit]
      exact hget t u hu
  have s1 : Hid (news.length = (n - j) * 3) := hlen
  have s2 : Hid (∀ u ∈ news, u.oneCell' = true) := by rw [hnews]; exact flat_one _
  have s3 : Hid (∀ t, t < news.length → (w.drew.cell? ⟨g, 0 + i * 3 + t, none⟩).isSome = true ∧ w.drew.frozen? ⟨g, 0 + i * 3 + t, none⟩ = false) := by
    intro t htl
    rw [hlen] at htl
    rw [R0.cell (i := 0 + i * 3 + t) (by omega)]
    exact ⟨rfl, R0.frozen _⟩
  obtain ⟨W1, hW1⟩ : ∃ W1, W1 = w.drew.setCells g (0 + i * 3) news := ⟨_, rfl⟩
  have R1 := rowIs_setCells news (0 + i * 3) w.drew _ R0
  rw [← hW1] at R1
  have hcl : ∀ ty, (Builtin.clear_ #[49] ty #[.slice (some ⟨g, (i + (n - j)) * 3, none⟩) (n - (i + (n - j))) (cap - (i + (n - j)))]).run Tryd.prog W1 = .ok (.tuple #[]) (W1.setCells g ((n - 1) * 3) [.int .i64 0, .int .i64 0, .int .i64 0]) := by
    intro ty
    rw [show n - (i + (n - j)) = 1 by omega, show (i + (n - j)) * 3 = (n - 1) * 3 by omega]
    refine run_clear3 W1 ty g ((n - 1) * 3) _ (fun k hk => ?_) (fun k hk => R1.frozen _)
    rw [R1.cell (i := (n - 1) * 3 + k) (by omega)]
    rfl
  have X : Hid (W1 = w.drew.setCells g (i * 3) (flat (l.drop (i + 1)))) := (by rw [hW1, Nat.zero_add, hnews] : W1 = w.drew.setCells g (i * 3) (flat (l.drop (i + 1))))
  have hW : Hid (W1 = w.drew.setCells g (0 + i * 3) news) := hW1
  have hic : i ≤ cap := by omega
  have hjc : j ≤ cap := by omega
  have hij : i ≤ j := by omega
  have hjn : j ≤ n := by omega
  have hlt : i < j := by omega
  have HI : Hid (Tryd.prog.info? 54 = some ie ∧ ie.size = 3) := ⟨hie, hz1⟩
  have HN : Hid (i + (n - j) = n - 1) := (by omega : i + (n - j) = n - 1)
  have hm2 : cap ≤ 9223372036854775807 := by unfold maxLen at hm; omega
  clear hW1 R0 R1 hget hnews hlen hie hz0 hz1 hz2 hh hsz ht hn hj hm
  go_enter Tryd.func53, Tryd.ntmps53
  go_wp2_with fail
  go_region_law (refine step_append_room rfl (.tmp 22) (.tmp 25) 49 rfl 54 ie 3 Tryd.underlying49 HI.out.1 HI.out.2 g 0 i cap (by simp [Act.eval, Act.put]) A (n - j) (cap - j) news (by simp [Act.eval, Act.put]) s1.out hsrc.out s2.out (by omega) s3.out ?_; rw [← hW.out])
  go_wp2
  go_ret
  rw [HN.out]
  exact ⟨rfl, by rw [X.out]⟩
theorem del_any (base i : Nat) (v : Value) (l : List Pk) (w : World) (g : Po w base v l) (hi : i < l.length) :
    Calls Tryd.prog 53 #[v, .int .i64 (i : Int), .int .i64 ((i : Int) + 1)] w fun x w' => ∃ v', x = .returned v' ∧ Po w' base v' (l.eraseIdx i) ∧ v'.ownBlock = v.ownBlock ∧ w.grownBy w' v.ownBlock := by
  rcases g.2 with ⟨_, h3⟩ | ⟨b, cap, cur, rfl, hb, hh, hc, hm, hsz, ht⟩
  · omega
  · have e : ((i : Int) + 1) = ((i + 1 : Nat) : Int) := by omega
    rw [e]
    refine (del_raw b cap i (i + 1) l.length l w cur rfl rfl hi hh hc hm hsz ht).mono ?_
    rintro x w' ⟨rfl, hw⟩
    have R0 : w.drew.rowIs b 54 (cap * 3) (fun j => cur[j]?.getD default) := row_of hh hsz
    have R2 := rowIs_setCells [.int .i64 0, .int .i64 0, .int .i64 0] ((l.length - 1) * 3) _ _ (rowIs_setCells (flat (l.drop (i + 1))) (i * 3) w.drew _ R0)
    rw [← hw] at R2
    obtain ⟨cur2, h21, h22, h23⟩ := R2
    have hlt : b < w.heap.size := by
      rcases Nat.lt_or_ge b w.heap.size with a | a
      · exact a
      · rw [Array.getElem?_eq_none a] at hh; cases hh
    have hel : (l.eraseIdx i).length = l.length - 1 := by rw [List.length_eraseIdx, if_pos hi]
    have hd : cur2.toList.take ((l.length - 1) * 3) = flat (l.eraseIdx i) := by
      refine del_take hi hc hsz h22 ht fun j hj => ?_
      rw [h23 j hj]
      unfold delF
      dsimp only
      by_cases q : (l.length - 1) * 3 ≤ j ∧ j < (l.length - 1) * 3 + 3
      · rw [if_pos q, if_pos (by simpa using q)]
        obtain ⟨q1, q2⟩ := q
        have : j - (l.length - 1) * 3 = 0 ∨ j - (l.length - 1) * 3 = 1 ∨ j - (l.length - 1) * 3 = 2 := by omega
        rcases this with e | e | e <;> rw [e] <;> rfl
      · rw [if_neg q, if_neg (by simpa using q)]
    refine ⟨_, rfl, ?_, rfl, ?_⟩
    · unfold Po
      rw [hel]
      exact ⟨by rw [flat_len, hel], .inr ⟨b, cap, cur2, rfl, hb, h21, by omega, hm, h22, hd⟩⟩
    · have hB : Below b w w' := by
        rw [hw]
        exact below_cells (Nat.le_refl _) _ _ _ (below_cells (Nat.le_refl _) _ _ _ (Below.refl b w).drew)
      refine ⟨hB.os, hB.tape, hB.output, hB.size, fun k hk hne => ?_⟩
      have hkb : k ≠ b := fun q => hne (by rw [q]; rfl)
      rw [hw]
      exact (cells_other _ _ _ hkb).trans (cells_other _ _ _ hkb)
end Go.Proofs.YtmlafflmgagkjadDoor.Nw
