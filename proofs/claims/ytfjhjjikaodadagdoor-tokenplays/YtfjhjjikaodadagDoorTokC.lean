/-
  Contracts of package token's has, wasSaid, end, Holder, New and Waits.
-/
import Derived.Test.YtfjhjjikaodadagDoorTokK
import Derived.Test.YtfjhjjikaodadagDoorTokF
import Derived.Deep.QuietTactic
import Derived.BigQuiet
import Derived.Deep.RegionHeld3
import Derived.Deep.AppendLies
import Derived.WalkLawsBesides
import Derived.Handy
namespace Go.Proofs.YtfjhjjikaodadagDoor.Tok
open Go.RowKit Go.Maps
open Go.Proofs.YtfjhjjikaodadagDoor.Fif (own_lt own_block own_form own_mono own_vw ret_bool info_int lenOf new_int int_one)
open Go.Proofs.YtfjhjjikaodadagDoor.MapV (MM putT delT wfI turned_below g_of_turned)
open Go.Proofs.YtfjhjjikaodadagDoor.Sep (KpL NewL)
open Go.Proofs.YtfjhjjikaodadagDoor.Ldr (errF errF_ok errF_no Sl)
set_option linter.unusedVariables false
variable {w w' : World} {base P mS : Nat} {mb nx : Nat → Nat} {S : Int → Option Value} {c : Nat} {k : K}

theorem hasT_any (h : MF w base P mS mb nx S c k) (x : Int) : Calls Tryd.prog 27 #[.pointer (some ⟨P, 0, none⟩), .int .i64 x] w fun e w' => e = .returned (.bool (decide (0 ≤ x ∧ x < (k.n : Int)))) ∧ w' = w := by
  have c0 := h.c0
  obtain ⟨n, en⟩ : ∃ n : Int, n = (k.n : Int) := ⟨_, rfl⟩
  rw [← en] at c0 ⊢
  clear h en
  by_cases h1 : 0 ≤ x
  · by_cases h2 : x < n
    · rw [decide_eq_true (show 0 ≤ x ∧ x < n from ⟨h1, h2⟩)]
      go_enter Tryd.func27, Tryd.ntmps27
      go_wp2
      go_ret
      exact ⟨rfl, rfl⟩
    · rw [decide_eq_false (show ¬ (0 ≤ x ∧ x < n) from fun q => h2 q.2)]
      go_enter Tryd.func27, Tryd.ntmps27
      go_wp2
      go_ret
      exact ⟨rfl, rfl⟩
  · rw [decide_eq_false (show ¬ (0 ≤ x ∧ x < n) from fun q => h1 q.1)]
    go_enter Tryd.func27, Tryd.ntmps27
    go_wp2
    go_ret
    exact ⟨rfl, rfl⟩
set_option maxRecDepth 100000 in
theorem saidT_any (h : MF w base P mS mb nx (SD k) c k) (x : Int) (hx : 1 ≤ x ∧ x ≤ 30) : Calls Tryd.prog 28 #[.pointer (some ⟨P, 0, none⟩), .int .i64 x] w fun e w' => e = .returned (.bool (k.said x)) ∧ Below w.heap.size w w' := by
  have c4 := h.c4
  have hlk : (Instr.lookup 70 (.map (some mS)) (.int .i64 x) true).run Tryd.prog w = .ok (.tuple #[.agg #[], .bool (k.said x)]) w := by
    have q := h.said.look_ok Tryd.underlying70 zeroE (wfI (i := x) (by omega) (by omega)) w rfl
    rw [SD_some hx, SD_map] at q
    cases e : k.said x
    · rw [e, if_neg (by simp)] at q
      exact q
    · rw [e, if_pos ⟨hx, rfl⟩] at q
      exact q
  obtain ⟨b, eb⟩ : ∃ b, b = k.said x := ⟨_, rfl⟩
  rw [← eb] at hlk ⊢
  clear h eb hx
  go_enter Tryd.func28, Tryd.ntmps28
  go_wp2
  go_ret
  first | exact ⟨rfl, Below.refl _ _⟩ | exact ⟨rfl, (Below.refl _ _).alloc (Nat.le_refl _) _⟩
theorem nl_le (h : MF w base P mS mb nx S c k) (hi : Inv k) (m : Nat) : nx m + (k.wt m).length ≤ 30 := by
  have := hi.len m
  have := h.nb m
  omega
set_option maxRecDepth 100000 in
theorem endT_any (h : MF w base P mS mb nx S c k) {m : Nat} (hm : m < k.n) (hl : nx m + (k.wt m).length ≤ 1000) : Calls Tryd.prog 29 #[.pointer (some ⟨P, 0, none⟩), .int .i64 (m : Int)] w fun e w' => e = .returned (.int .i64 ((nx m + (k.wt m).length : Nat) : Int)) ∧ w'.heap = w.heap ∧ Below w.heap.size w w' := by
  have hm5 : m < 5 := Nat.lt_of_lt_of_le hm h.five
  have c1 := h.cn hm5
  have c2 := h.cw hm
  have hln : ∀ j, (Builtin.len_ #[61] 3 #[.map (some (mb m))]).run Tryd.prog (w.drewN j) = .ok (.int .i64 ((k.wt m).length : Nat)) (w.drewN j) := fun j => mm_len (h.wait m hm) 3 (w.drewN j) rfl
  have hm0 : (0 : Int) ≤ (m : Int) := by omega
  have hm5' : (m : Int) < 5 := by omega
  obtain ⟨a, ea⟩ : ∃ a, a = nx m := ⟨_, rfl⟩
  obtain ⟨b, eb⟩ : ∃ b, b = (k.wt m).length := ⟨_, rfl⟩
  rw [← ea] at c1 hl ⊢
  rw [← eb] at hln hl ⊢
  clear h ea eb hm hm5
  go_enter Tryd.func29, Tryd.ntmps29
  go_wp2_with fail
  go_quiet (fail)
  go_wp2
  go_ret
  exact ⟨by go_num, rfl, drewsK (Below.refl _ _) _⟩
theorem below_sameK {X a w2 : World} (h : Below X.heap.size X w2) (e : X.heap = a.heap) (e1 : X.os = a.os) (e2 : X.tape = a.tape) (e3 : X.output = a.output) : Below a.heap.size a w2 := ⟨h.os.trans e1, h.tape.trans e2, h.output.trans e3, by rw [← e]; exact h.size, fun b hb => by rw [h.block b (by rw [e]; exact hb), e]⟩
theorem endT_at (h : MF w base P mS mb nx S c k) {m : Nat} (hm : m < k.n) {z : Nat} (hz : z = nx m + (k.wt m).length) (hl : z ≤ 1000) : Calls Tryd.prog 29 #[.pointer (some ⟨P, 0, none⟩), .int .i64 (m : Int)] w fun e w' => e = .returned (.int .i64 (z : Int)) ∧ w'.heap = w.heap ∧ Below w.heap.size w w' := by
  subst hz
  exact endT_any h hm hl
theorem holdT (base P : Nat) (k : K) (fp : List Nat) (w : World) (h : TS w base P k fp) (hi : Inv k) : Calls Tryd.prog 20 #[.pointer (some ⟨P, 0, none⟩)] w fun x w' => x = .returned (.int .i64 (k.hold : Int)) ∧ Below w.heap.size w w' := by
  obtain ⟨mS, mb, nx, rfl, h⟩ := h
  have c2 := h.c2
  obtain ⟨y, ey⟩ : ∃ y : Int, y = (k.hold : Int) := ⟨_, rfl⟩
  rw [← ey] at c2 ⊢
  clear h hi ey
  go_enter Tryd.func20, Tryd.ntmps20
  go_wp2
  go_ret
  exact ⟨rfl, Below.refl _ _⟩
/-! New -/
theorem newT_no (n most : Int) (hn : (n < 2 ∨ 5 < n) ∨ most < 1 ∨ 10 < most) (w : World) : Calls Tryd.prog 14 #[.int .i64 n, .int .i64 most] w fun x w' => x = .returned (.tuple #[.pointer none, errF 1]) ∧ Below w.heap.size w w' := by
  rw [errF_no (by decide)]
  by_cases h1 : n < 2
  · clear hn
    go_enter Tryd.func14, Tryd.ntmps14
    go_wp2
    go_ret2
    exact ⟨rfl, Below.refl _ _⟩
  · by_cases h2 : n > 5
    · clear hn
      go_enter Tryd.func14, Tryd.ntmps14
      go_wp2
      go_ret2
      exact ⟨rfl, Below.refl _ _⟩
    · by_cases h3 : most < 1
      · clear hn
        go_enter Tryd.func14, Tryd.ntmps14
        go_wp2
        go_ret2
        exact ⟨rfl, Below.refl _ _⟩
      · have h4 : most > 10 := by omega
        clear hn
        go_enter Tryd.func14, Tryd.ntmps14
        go_wp2
        go_ret2
        exact ⟨rfl, Below.refl _ _⟩
/-- as far as the maps of those that wait are made -/
def nw (n most i m0 : Nat) (j : Nat) : Value := if j < 4 then (if j = 0 then .int .i64 (n : Int) else if j = 1 then .int .i64 (most : Int) else .int .i64 0) else if j = 4 then .map (some m0) else if j < 10 then (if j - 5 < i then .map (some (m0 + 2 + (j - 5))) else .map none) else .int .i64 0
structure NW (w wr : World) (n most i : Nat) : Prop where
  row : wr.rowIs (w.heap.size + 1) 72 15 (nw n most i w.heap.size)
  said : MM wr w.heap.size (fun _ => none) 0
  wait : ∀ j, j < i → MM wr (w.heap.size + 2 + j) (fun _ => none) 0
  size : wr.heap.size = w.heap.size + 2 + i
  low : Below w.heap.size w wr
theorem NW.step {w wr : World} {n most i : Nat} (h : NW w wr n most i) (hk : i < 5) : NW w ((wr.setCell ⟨w.heap.size + 1, 5 + i, none⟩ (.map (some wr.heap.size))).alloc (.map #[] 0)) n most (i + 1) := by
  have hs : (wr.setCell ⟨w.heap.size + 1, 5 + i, none⟩ (.map (some wr.heap.size))).heap.size = wr.heap.size := by simp [World.setCell]
  have hb : ∀ b, b < wr.heap.size → b ≠ w.heap.size + 1 → ((wr.setCell ⟨w.heap.size + 1, 5 + i, none⟩ (.map (some wr.heap.size))).alloc (.map #[] 0)).heap[b]? = wr.heap[b]? := fun b h1 h2 => by
    rw [Below.heap_alloc _ _ _ (by rw [hs]; exact h1), Deep.blk_setCell_other _ _ _ _ h2]
  have sz := h.size
  refine ⟨World.rowIs.of_block ((World.rowIs.set h.row (5 + i) (.map (some wr.heap.size))).congr fun j hj => ?_) (Below.heap_alloc _ _ _ (by rw [hs]; omega)), h.said.of_block (hb _ (by omega) (by omega)), fun j hj => ?_, by simp [hs]; omega, (h.low.setCell (p := ⟨w.heap.size + 1, 5 + i, none⟩) (by simp) _).alloc (by rw [hs]; omega) _⟩
  · unfold nw
    by_cases e : j = 5 + i
    · rw [if_pos e, if_neg (by omega), if_neg (by omega), if_pos (by omega), if_pos (by omega), sz, show j - 5 = i by omega]
    · rw [if_neg e]
      by_cases e0 : j < 4
      · rw [if_pos e0, if_pos e0]
      · rw [if_neg e0, if_neg e0]
        by_cases e4 : j = 4
        · rw [if_pos e4, if_pos e4]
        · rw [if_neg e4, if_neg e4]
          by_cases e10 : j < 10
          · rw [if_pos e10, if_pos e10]
            by_cases e3 : j - 5 < i
            · rw [if_pos e3, if_pos (show j - 5 < i + 1 by omega)]
            · rw [if_neg e3, if_neg (show ¬ j - 5 < i + 1 by omega)]
          · rw [if_neg e10, if_neg e10]
  · by_cases e : j = i
    · have := MM.made (wr.setCell ⟨w.heap.size + 1, 5 + i, none⟩ (.map (some wr.heap.size)))
      rw [hs] at this
      rw [e, ← sz]
      exact this
    · exact (h.wait j (by omega)).of_block (hb _ (by omega) (by omega))
theorem NW.made0 (w : World) (n most : Nat) : NW w ((w.alloc (.map #[] 0)).alloc (.cells #[.int .i64 (n : Int), .int .i64 (most : Int), .int .i64 0, .int .i64 0, .map (some w.heap.size), .map none, .map none, .map none, .map none, .map none, .int .i64 0, .int .i64 0, .int .i64 0, .int .i64 0, .int .i64 0] 72)) n most 0 := by
  refine ⟨?_, (MM.made w).of_block (Below.heap_alloc _ _ _ (by simp)), fun j hj => absurd hj (by omega), by simp, ((Below.refl _ _).alloc (Nat.le_refl _) _).alloc (by simp) _⟩
  have q := World.rowIs_alloc (w.alloc (.map #[] 0)) #[.int .i64 (n : Int), .int .i64 (most : Int), .int .i64 0, .int .i64 0, .map (some w.heap.size), .map none, .map none, .map none, .map none, .map none, .int .i64 0, .int .i64 0, .int .i64 0, .int .i64 0, .int .i64 0] 72 (nw n most 0 w.heap.size) (fun i hi => by
    have hi : i < 15 := hi
    rcases i with _ | _ | _ | _ | _ | _ | _ | _ | _ | _ | _ | _ | _ | _ | _ | i
    all_goals first | rfl | (exfalso; omega))
  simpa using q
theorem nw_done {w wr : World} {n most : Nat} (h5 : n ≤ 5) (h : NW w wr n most n) : TS wr w.heap.size (w.heap.size + 1) (start n most) (fpT (w.heap.size + 1) w.heap.size n (fun i => w.heap.size + 2 + i)) := by
  refine ⟨w.heap.size, fun i => w.heap.size + 2 + i, fun _ => 0, rfl, ?_⟩
  refine { row := h.row.congr fun j hj => ?_, said := h.said.congr (fun i => SD_start n most i) rfl, wait := fun i hi => (h.wait i hi).congr (fun x => ?_) rfl, low := ⟨by omega, Nat.le_refl _, fun i hi => by show w.heap.size ≤ w.heap.size + 2 + i; omega⟩, five := h5, dS := fun i hi => by show w.heap.size + 2 + i ≠ w.heap.size; omega, dW := fun i j hi hj hne => by show w.heap.size + 2 + i ≠ w.heap.size + 2 + j; omega, nb := fun i => Nat.le_refl _ }
  · unfold nw av
    by_cases e4 : j < 4
    · rw [if_pos e4, if_pos e4]
      by_cases e0 : j = 0
      · rw [if_pos e0, if_pos e0]; rfl
      · rw [if_neg e0, if_neg e0]
        by_cases e1 : j = 1
        · rw [if_pos e1, if_pos e1]; rfl
        · rw [if_neg e1, if_neg e1]
          show _ = (if j = 2 then Value.int .i64 ((0 : Nat) : Int) else Value.int .i64 ((0 : Nat) : Int))
          split <;> rfl
    · rw [if_neg e4, if_neg e4]
      rfl
  · show TW [] 0 x = none
    exact if_neg (by simp)
set_option maxRecDepth 100000 in
theorem newT_ok (n most : Nat) (h2 : 2 ≤ n) (h5 : n ≤ 5) (h1 : 1 ≤ most) (h10 : most ≤ 10) (w : World) : Calls Tryd.prog 14 #[.int .i64 (n : Int), .int .i64 (most : Int)] w fun x w' => ∃ P fp, x = .returned (.tuple #[.pointer (some ⟨P, 0, none⟩), .nilIface]) ∧ TS w' w.heap.size P (start n most) fp ∧ Below w.heap.size w w' := by
  have hmk : ∀ W : World, (Instr.makeMap 61 none).run Tryd.prog W = .ok (.map (some W.heap.size)) (W.alloc (.map #[] 0)) := fun _ => rfl
  have hmk2 : ∀ W : World, (Instr.makeMap 70 none).run Tryd.prog W = .ok (.map (some W.heap.size)) (W.alloc (.map #[] 0)) := fun _ => rfl
  have d1 : ¬ (n : Int) < 2 := by omega
  have d2 : ¬ (n : Int) > 5 := by omega
  have d3 : ¬ (most : Int) < 1 := by omega
  have d4 : ¬ (most : Int) > 10 := by omega
  go_enter Tryd.func14, Tryd.ntmps14
  go_wp2
  go_loopw [29] (fun i wr => ∃ k : Nat, k ≤ n ∧ i = .int .i64 k ∧ Hid (NW w wr n most k)) (fun i _ => n - (intOf i).toNat)
  case atStart => exact ⟨0, by omega, rfl, NW.made0 w n most⟩
  case round =>
    obtain ⟨k, hk, rfl, hp⟩ := hrel
    by_cases hlt : k < n
    · have hkl : (k : Int) < (n : Int) := by omega
      have c0 : wr.cell? ⟨w.heap.size + 1, 5 + k, none⟩ = some (nw n most k w.heap.size (5 + k)) := World.rowIs.cell hp.out.row (i := 5 + k) (by omega)
      have z0 := World.rowIs.frozen hp.out.row (5 + k)
      have hsz : w.heap.size + 1 < wr.heap.size := by have := hp.out.size; omega
      have hk0 : (0 : Int) ≤ (k : Int) := by omega
      have hk5 : (k : Int) < 5 := by omega
      go_wp2
      go_roundw
      case rel => exact ⟨k + 1, by omega, by go_num, hp.out.step (by omega)⟩
      case measure => simp [intOf]; omega
    · have ek : k = n := by omega
      have HP : Hid (NW w wr n most n) := by rw [ek] at hp; exact hp
      clear hp ek
      go_wp2
      go_ret2
      exact ⟨_, _, rfl, nw_done h5 HP.out, HP.out.low⟩
/-! Waits -/
theorem out_no {who : Int} (h : ¬ (0 ≤ who ∧ who < (k.n : Int))) : inC k who = 1 := if_pos (by omega)
theorem wt_no (h : MF w base P mS mb nx S c k) (who : Int) (hc : ¬ (0 ≤ who ∧ who < (k.n : Int))) : Calls Tryd.prog 19 #[.pointer (some ⟨P, 0, none⟩), .int .i64 who] w fun x w' => x = .returned (.tuple #[.slice none 0 0, errF 1]) ∧ w' = w := by
  have d1 : Hid (decide (0 ≤ who ∧ who < (k.n : Int)) = false) := decide_eq_false hc
  have HG : Hid (MF w base P mS mb nx S c k) := h
  rw [errF_no (by decide)]
  clear h hc
  go_enter Tryd.func19, Tryd.ntmps19
  go_wp2_with fail
  refine (hasT_any HG.out who).mono ?_
  rintro e w ⟨rfl, rfl⟩
  rw [d1.out]
  go_wp2
  go_ret2
  exact ⟨rfl, rfl⟩
/-- a row that the call has made -/
abbrev Ow (w : World) (base : Nat) (v : Value) (l : List Int) : Prop := w.ownsRow base 3 1 v l.length (l.map (Value.int .i64))
theorem take_succ {ws : List Int} {j : Nat} (hj : j < ws.length) : ws.take (j + 1) = ws.take j ++ [ws.getD j 0] := by
  rw [List.take_succ_eq_append_getElem hj]
  simp [List.getD, hj]
set_option maxRecDepth 100000 in
set_option maxHeartbeats 1000000 in
theorem wt_ok (h : MF w base P mS mb nx S c k) (hi : Inv k) (m : Nat) (hm : m < k.n) : Calls Tryd.prog 19 #[.pointer (some ⟨P, 0, none⟩), .int .i64 (m : Int)] w fun x w' => ∃ v, x = .returned (.tuple #[v, .nilIface]) ∧ Ow w' w.heap.size v (k.wt m) ∧ Below w.heap.size w w' := by
  have hm5 : m < 5 := Nat.lt_of_lt_of_le hm h.five
  have d1 : Hid (decide (0 ≤ (m : Int) ∧ (m : Int) < (k.n : Int)) = true) := decide_eq_true ⟨by omega, by omega⟩
  have c2 := h.cn hm5
  have hl30 := nl_le h hi m
  obtain ⟨a, ea⟩ : ∃ a, a = nx m := ⟨_, rfl⟩
  obtain ⟨n, en⟩ : ∃ n, n = (k.wt m).length := ⟨_, rfl⟩
  rw [← ea] at c2 hl30
  rw [← en] at hl30
  obtain ⟨z, ez⟩ : ∃ z, z = a + n := ⟨_, rfl⟩
  have hz30 : z ≤ 30 := by omega
  have haz : a ≤ z := by omega
  have HG : Hid (MF w base P mS mb nx S c k ∧ Inv k ∧ m < k.n ∧ n = (k.wt m).length ∧ a = nx m ∧ z = a + n) := ⟨h, hi, hm, en, ea, ez⟩
  have hm0 : (0 : Int) ≤ (m : Int) := by omega
  have hm5' : (m : Int) < 5 := by omega
  obtain ⟨ii, hii, hz0, hz1, hz2⟩ := info_int
  have HJ : Hid (Tryd.prog.info? 3 = some ii ∧ ii.zero = some (.int .i64 0) ∧ ii.size = 1 ∧ ii.bytes = 8) := ⟨hii, hz0, hz1, hz2⟩
  clear h hm hm5 hi en ea ez hl30 hii hz0 hz1 hz2
  go_enter Tryd.func19, Tryd.ntmps19
  go_wp2_with fail
  refine (hasT_any HG.out.1 (m : Int)).mono ?_
  rintro e w ⟨rfl, rfl⟩
  rw [d1.out]
  go_wp2
  go_loopw [6, 7] (fun y x wr => ∃ t : Nat, t ≤ z ∧ x = .int .i64 (t : Int) ∧ Hid (a ≤ t ∧ Ow wr w.heap.size y ((k.wt m).take (t - a)) ∧ Below w.heap.size w wr)) (fun _ x _ => z - (intOf x).toNat)
  case atStart => exact ⟨a, haz, rfl, Nat.le_refl _, by rw [Nat.sub_self]; exact World.ownsRow_nil _ _ _ _, Below.refl _ _⟩
  case round =>
    obtain ⟨t, ht, rfl, hQ⟩ := hrel
    have G1 : Hid (MF wr base P mS mb nx S c k) := HG.out.1.later hQ.out.2.2
    go_wp2_with fail
    refine (endT_any G1.out HG.out.2.2.1 (by have := HG.out.2.2.2.1; have := HG.out.2.2.2.2; omega)).mono ?_
    rintro e w2 ⟨rfl, hh, hb2⟩
    rw [← HG.out.2.2.2.1, ← HG.out.2.2.2.2.1, ← HG.out.2.2.2.2.2]
    have B2 : Hid (Below w.heap.size w w2) := hQ.out.2.2.trans (hb2.mono hQ.out.2.2.size)
    have HH : Hid (w2.heap = wr.heap) := hh
    clear hh hb2
    by_cases hlt : t < z
    · have hkl : (t : Int) < (z : Int) := by omega
      obtain ⟨j, ej⟩ : ∃ j, j = t - a := ⟨_, rfl⟩
      have EJ : Hid (t = a + j ∧ j < n) := by have := hQ.out.1; have := HG.out.2.2.2.2.2; exact ⟨by omega, by omega⟩
      have hj30 : j < 30 := by have := EJ.out; omega
      rw [← ej] at hQ
      obtain ⟨q, cap, rfl⟩ := own_form hQ.out.2.1
      have el : ((k.wt m).take j).length = j := by rw [List.length_take]; have := HG.out.2.2.2.1; have := EJ.out.2; omega
      have O2 : Hid (w2.ownsRow w.heap.size 3 1 (.slice q j cap) j (((k.wt m).take j).map (Value.int .i64))) := by
        have h1 : Ow wr w.heap.size (.slice q ((k.wt m).take j).length cap) ((k.wt m).take j) := hQ.out.2.1
        unfold Ow at h1
        rw [el] at h1
        exact own_block h1 fun b hb => by rw [HH.out]
      rw [el]
      have gX := G1.out.heap HH.out
      have c5 := gX.cw HG.out.2.2.1
      obtain ⟨x, ex⟩ : ∃ x : Int, x = (k.wt m).getD j 0 := ⟨_, rfl⟩
      have hlk : (Instr.lookup 61 (.map (some (mb m))) (.int .i64 (t : Int)) false).run Tryd.prog w2 = .ok (.int .i64 x) w2 := by
        have q := (gX.wait m HG.out.2.2.1).look Tryd.underlying61 zeroI (wfI (i := (t : Int)) (by omega) (by omega)) w2 rfl
        rw [← HG.out.2.2.2.2.1, EJ.out.1, TW_at a (by have := HG.out.2.2.2.1; have := EJ.out.2; omega)] at q
        rw [EJ.out.1]
        rw [ex]
        exact q
      have HX : Hid (x = (k.wt m).getD j 0) := ex
      clear hQ el ex gX ej
      go_wp2_with (at_builtin; refine wpList_append_own _ rfl _ _ 30 rfl w.heap.size 3 ii (.int .i64 0) 1 8 Tryd.underlying30 HJ.out.1 HJ.out.2.1 HJ.out.2.2.1 HJ.out.2.2.2 rfl (by decide) (.slice q j cap) j (((k.wt m).take j).map (Value.int .i64)) rfl (by exact own_block O2.out fun b hb => Below.heap_alloc _ _ _ (own_lt O2.out b hb).2) ⟨w2.heap.size, 0, none⟩ 1 1 [.int .i64 x] rfl rfl (by exact new_int w2 _ rfl _ 3) (int_one _) (by unfold maxLen; omega) (by omega) (by have := B2.out.size; simp; omega) ?_; intro v1 w4 hown hgrow _; obtain ⟨q1, k1, rfl⟩ := own_form hown; have HO1 : Hid (w4.ownsRow w.heap.size 3 1 (.slice q1 (j + 1) k1) (j + 1) (((k.wt m).take j).map (Value.int .i64) ++ [.int .i64 x])) := hown; have HG1 : Hid ((w2.alloc (.cells #[.int .i64 x] 3)).grownBy w4 (Value.slice q j cap).ownBlock) := hgrow; clear hown hgrow)
      go_roundw
      case rel =>
        refine ⟨t + 1, by omega, by go_num, by have := EJ.out.1; omega, ?_, ?_⟩
        · rw [show t + 1 - a = j + 1 by have := EJ.out.1; omega]
          have el : ((k.wt m).take (j + 1)).length = j + 1 := by rw [List.length_take]; have := HG.out.2.2.2.1; have := EJ.out.2; omega
          have e : (k.wt m).take (j + 1) = (k.wt m).take j ++ [x] := by rw [HX.out]; exact take_succ (by have := HG.out.2.2.2.1; have := EJ.out.2; omega)
          show World.ownsRow _ _ _ _ _ _ _
          rw [el, e, List.map_append]
          exact HO1.out
        · exact (B2.out.alloc B2.out.size _).grown HG1.out (by have := B2.out.size; simp; omega) fun b hb => (own_lt O2.out b hb).1
      case measure => simp [intOf]; omega
    · have ej : t - a = n := by have := HG.out.2.2.2.2.2; omega
      have hkl : ¬ (t : Int) < (z : Int) := by omega
      have HQ : Hid (Ow w2 w.heap.size u6 (k.wt m)) := by
        have e : (k.wt m).take (t - a) = k.wt m := List.take_of_length_le (by rw [← HG.out.2.2.2.1, ej]; exact Nat.le_refl _)
        have h1 := hQ.out.2.1
        rw [e] at h1
        exact own_block h1 fun b hb => by rw [HH.out]
      clear hQ ej
      go_wp2
      go_ret2
      exact ⟨_, rfl, HQ.out, B2.out⟩
theorem wtT (base P : Nat) (k : K) (fp : List Nat) (who : Int) (w : World) (h : TS w base P k fp) (hi : Inv k) : Calls Tryd.prog 19 #[.pointer (some ⟨P, 0, none⟩), .int .i64 who] w fun x w' => ∃ a c, x = .returned (.tuple #[.slice a (wts k who).length c, errF (inC k who)]) ∧ Sl w' (.slice a (wts k who).length c) (wts k who) ∧ (∀ ad, a = some ad → 0 < (wts k who).length → w.heap.size ≤ ad.block) ∧ Below w.heap.size w w' := by
  obtain ⟨mS, mb, nx, rfl, h⟩ := h
  by_cases hc : 0 ≤ who ∧ who < (k.n : Int)
  · obtain ⟨m, rfl⟩ : ∃ m : Nat, who = (m : Int) := ⟨who.toNat, by omega⟩
    have hm : m < k.n := by omega
    rw [in_ok hm, wts_in hm, errF_ok]
    refine (wt_ok h hi m hm).mono ?_
    rintro x w' ⟨v, rfl, ho, hb⟩
    obtain ⟨a, c, rfl⟩ := own_form ho
    refine ⟨a, c, rfl, Sl.of_own ho, fun ad e hp => ?_, hb⟩
    subst e
    exact (own_lt ho ad.block (by simp [Value.ownBlock])).1
  · have e2 : wts k who = [] := by unfold wts; rw [out_no hc, if_neg (by decide)]
    rw [out_no hc, e2]
    refine (wt_no h who hc).mono ?_
    rintro x w' ⟨rfl, rfl⟩
    exact ⟨none, 0, rfl, Sl.nil _, fun ad e => (by cases e), Below.refl _ _⟩
end Go.Proofs.YtfjhjjikaodadagDoor.Tok
