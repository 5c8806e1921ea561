/-
  Contracts of package leader's has, wasGiven, came, New, Heard and Lacks.
-/
import Derived.Test.YtcccheeeagphpagMgL
import Derived.Deep.QuietTactic
import Derived.BigQuiet
import Derived.Deep.RegionHeld3
import Derived.Deep.AppendLies
import Derived.WalkLawsBesides
import Derived.Handy
namespace Go.Proofs.Ytcccheeeagphpag.Ldr
open Go.RowKit Go.Maps
open Go.Proofs.Ytcccheeeagphpag.Fif (own_lt own_block own_form own_mono own_vw ret_bool info_int lenOf new_int int_one)
open Go.Proofs.Ytcccheeeagphpag.MapV (MM putT delT wfI turned_below g_of_turned)
open Go.Proofs.Ytcccheeeagphpag.Sep (KpL NewL)
set_option linter.unusedVariables false
variable {w w' : World} {base P mS : Nat} {mb : Nat → Nat} {r : Rc} {l : L} {nx : Nat → Nat}

theorem hasL_any (h : LF w base P mS mb r) (x : Int) : Calls Try.prog 17 #[.pointer (some ⟨P, 0, none⟩), .int .i64 x] w fun e w' => e = .returned (.bool (decide (0 ≤ x ∧ x < (r.n : Int)))) ∧ w' = w := by
  have c0 := h.c0
  obtain ⟨n, en⟩ : ∃ n : Int, n = (r.n : Int) := ⟨_, rfl⟩
  rw [← en] at c0 ⊢
  clear h en
  by_cases h1 : 0 ≤ x
  · by_cases h2 : x < n
    · rw [decide_eq_true (show 0 ≤ x ∧ x < n from ⟨h1, h2⟩)]
      go_enter Try.func17, Try.ntmps17
      go_wp2
      go_ret
      exact ⟨rfl, rfl⟩
    · rw [decide_eq_false (show ¬ (0 ≤ x ∧ x < n) from fun q => h2 q.2)]
      go_enter Try.func17, Try.ntmps17
      go_wp2
      go_ret
      exact ⟨rfl, rfl⟩
  · rw [decide_eq_false (show ¬ (0 ≤ x ∧ x < n) from fun q => h1 q.1)]
    go_enter Try.func17, Try.ntmps17
    go_wp2
    go_ret
    exact ⟨rfl, rfl⟩
set_option maxRecDepth 100000 in
theorem givenL_any (h : LF w base P mS mb r) (x : Int) (hx : (Lit.int .i64 x).wf = true) {s : Option Int} (hs : r.S x = s.map iv) : Calls Try.prog 18 #[.pointer (some ⟨P, 0, none⟩), .int .i64 x] w fun e w' => e = .returned (.bool s.isSome) ∧ Below w.heap.size w w' := by
  have c1 := h.c1
  have hlk := h.lkS_ok hx hs w rfl
  obtain ⟨a, ea⟩ : ∃ a : Int, a = s.getD 0 := ⟨_, rfl⟩
  obtain ⟨c, ec⟩ : ∃ c, c = s.isSome := ⟨_, rfl⟩
  rw [← ea, ← ec] at hlk
  rw [← ec]
  clear h hs ea ec
  go_enter Try.func18, Try.ntmps18
  go_wp2
  go_ret
  exact ⟨rfl, Below.refl _ _⟩
set_option maxRecDepth 100000 in
/-- did one come to a member: it waits, or was heard -/
theorem cameL_any (h : LF w base P mS mb r) {m : Nat} (hm : m < r.n) (x : Int) (hx : (Lit.int .i64 x).wf = true) {s : Option Int} (hs : r.W m x = s.map iv) : Calls Try.prog 19 #[.pointer (some ⟨P, 0, none⟩), .int .i64 (m : Int), .int .i64 x] w fun e w' => e = .returned (.bool (s.isSome || decide (x < (r.nx m : Int)))) ∧ Below w.heap.size w w' := by
  have hm5 : m < 5 := Nat.lt_of_lt_of_le hm h.five
  have c1 := h.cw hm
  have c2 := h.cl hm5
  have hlk := h.lkW_ok hm hx hs w rfl
  have hm0 : (0 : Int) ≤ (m : Int) := by omega
  have hm5' : (m : Int) < 5 := by omega
  obtain ⟨k, ek⟩ : ∃ k : Int, k = (r.nx m : Int) := ⟨_, rfl⟩
  rw [← ek] at c2 ⊢
  clear h hs ek hm hm5
  cases s with
  | none =>
    simp only [Option.isSome_none, Bool.false_or, Option.getD_none] at hlk ⊢
    go_enter Try.func19, Try.ntmps19
    go_wp2
    go_ret
    exact ⟨rfl, Below.refl _ _⟩
  | some s =>
    simp only [Option.isSome_some, Bool.true_or, Option.getD_some] at hlk ⊢
    go_enter Try.func19, Try.ntmps19
    go_wp2
    go_ret
    exact ⟨rfl, Below.refl _ _⟩
theorem TW_map (l : L) (m a : Nat) (i : Int) : TW l m a i = (if (a : Int) ≤ i ∧ l.come m i.toNat = true then some (l.ws.getD i.toNat 0) else none).map iv := by
  unfold TW
  split <;> rfl
theorem TS_map (ws : List Int) (i : Int) : TS ws i = (if 0 ≤ i ∧ i < (ws.length : Int) then some (ws.getD i.toNat 0) else none).map iv := by
  unfold TS
  split <;> rfl
/-- in words of the group -/
theorem cameG (h : LF w base P mS mb (rc l)) (hi : Inv l) {m k : Nat} (hm : m < l.n) (hk : k ≤ 100000) : Calls Try.prog 19 #[.pointer (some ⟨P, 0, none⟩), .int .i64 (m : Int), .int .i64 (k : Int)] w fun e w' => e = .returned (.bool (l.come m k)) ∧ Below w.heap.size w w' := by
  refine (cameL_any h hm (k : Int) (wfI (by omega) (by omega)) (TW_map l m (hn l m) (k : Int))).mono ?_
  rintro e w' ⟨rfl, hb⟩
  refine ⟨ret_bool ?_, hb⟩
  have e := come_is hi (m := m) (k := k)
  rw [TW_map, Option.isSome_map] at e
  rw [← decide_eq_decide.2 (show ((k : Int) < (hn l m : Int)) ↔ k < hn l m by omega)] at e
  exact e
theorem givenG (h : LF w base P mS mb (rcN l nx)) (x : Int) (hx : (Lit.int .i64 x).wf = true) : Calls Try.prog 18 #[.pointer (some ⟨P, 0, none⟩), .int .i64 x] w fun e w' => e = .returned (.bool (decide (0 ≤ x ∧ x < (l.ws.length : Int)))) ∧ Below w.heap.size w w' := by
  refine (givenL_any h x hx (TS_map l.ws x)).mono ?_
  rintro e w' ⟨rfl, hb⟩
  refine ⟨ret_bool ?_, hb⟩
  by_cases q : 0 ≤ x ∧ x < (l.ws.length : Int)
  · rw [if_pos q, decide_eq_true q]; rfl
  · rw [if_neg q, decide_eq_false q]; rfl
/-! New -/
theorem newL_no (n : Int) (hn : n < 2 ∨ 5 < n) (w : World) : Calls Try.prog 6 #[.int .i64 n] w fun x w' => x = .returned (.tuple #[.pointer none, errF 1]) ∧ Below w.heap.size w w' := by
  rw [errF_no (by decide)]
  by_cases h1 : n < 2
  · clear hn
    go_enter Try.func6, Try.ntmps6
    go_wp2
    go_ret2
    exact ⟨rfl, Below.refl _ _⟩
  · have h2 : 5 < n := by omega
    clear hn
    go_enter Try.func6, Try.ntmps6
    go_wp2
    go_ret2
    exact ⟨rfl, Below.refl _ _⟩
/-- as far as the maps of those that wait are made -/
def nw (n k m0 : Nat) (j : Nat) : Value := if j = 0 then .int .i64 (n : Int) else if j = 1 then .map (some m0) else if j < 7 then .int .i64 0 else (if j - 7 < k then .map (some (m0 + 2 + (j - 7))) else .map none)
structure NW (w wr : World) (n k : Nat) : Prop where
  row : wr.rowIs (w.heap.size + 1) 65 12 (nw n k w.heap.size)
  said : MM wr w.heap.size (fun _ => none) 0
  wait : ∀ j, j < k → MM wr (w.heap.size + 2 + j) (fun _ => none) 0
  size : wr.heap.size = w.heap.size + 2 + k
  low : Below w.heap.size w wr
theorem NW.step {w wr : World} {n k : Nat} (h : NW w wr n k) (hk : k < 5) : NW w ((wr.setCell ⟨w.heap.size + 1, 7 + k, none⟩ (.map (some wr.heap.size))).alloc (.map #[] 0)) n (k + 1) := by
  have hs : (wr.setCell ⟨w.heap.size + 1, 7 + k, none⟩ (.map (some wr.heap.size))).heap.size = wr.heap.size := by simp [World.setCell]
  have hb : ∀ b, b < wr.heap.size → b ≠ w.heap.size + 1 → ((wr.setCell ⟨w.heap.size + 1, 7 + k, none⟩ (.map (some wr.heap.size))).alloc (.map #[] 0)).heap[b]? = wr.heap[b]? := fun b h1 h2 => by
    rw [Below.heap_alloc _ _ _ (by rw [hs]; exact h1), Deep.blk_setCell_other _ _ _ _ h2]
  have sz := h.size
  refine ⟨World.rowIs.of_block ((World.rowIs.set h.row (7 + k) (.map (some wr.heap.size))).congr fun j hj => ?_) (Below.heap_alloc _ _ _ (by rw [hs]; omega)), h.said.of_block (hb _ (by omega) (by omega)), fun j hj => ?_, by simp [hs]; omega, (h.low.setCell (p := ⟨w.heap.size + 1, 7 + k, none⟩) (by simp) _).alloc (by rw [hs]; omega) _⟩
  · unfold nw
    by_cases e : j = 7 + k
    · rw [if_pos e, if_neg (by omega), if_neg (by omega), if_neg (by omega), if_pos (by omega), sz, show j - 7 = k by omega]
    · rw [if_neg e]
      by_cases e0 : j < 7
      · rw [if_pos e0, if_pos e0]
      · rw [if_neg e0, if_neg e0]
        by_cases e3 : j - 7 < k
        · rw [if_pos e3, if_pos (show j - 7 < k + 1 by omega)]
        · rw [if_neg e3, if_neg (show ¬ j - 7 < k + 1 by omega)]
  · by_cases e : j = k
    · have := MM.made (wr.setCell ⟨w.heap.size + 1, 7 + k, none⟩ (.map (some wr.heap.size)))
      rw [hs] at this
      rw [e, ← sz]
      exact this
    · exact (h.wait j (by omega)).of_block (hb _ (by omega) (by omega))
theorem NW.made0 (w : World) (n : Nat) : NW w ((w.alloc (.map #[] 0)).alloc (.cells #[.int .i64 (n : Int), .map (some w.heap.size), .int .i64 0, .int .i64 0, .int .i64 0, .int .i64 0, .int .i64 0, .map none, .map none, .map none, .map none, .map none] 65)) n 0 := by
  refine ⟨?_, (MM.made w).of_block (Below.heap_alloc _ _ _ (by simp)), fun j hj => absurd hj (by omega), by simp, ((Below.refl _ _).alloc (Nat.le_refl _) _).alloc (by simp) _⟩
  have q := World.rowIs_alloc (w.alloc (.map #[] 0)) #[.int .i64 (n : Int), .map (some w.heap.size), .int .i64 0, .int .i64 0, .int .i64 0, .int .i64 0, .int .i64 0, .map none, .map none, .map none, .map none, .map none] 65 (nw n 0 w.heap.size) (fun i hi => by
    have hi : i < 12 := hi
    rcases i with _ | _ | _ | _ | _ | _ | _ | _ | _ | _ | _ | _ | i
    all_goals first | rfl | (exfalso; omega))
  simpa using q
theorem nw_done {w wr : World} {n : Nat} (h5 : n ≤ 5) (h : NW w wr n n) : LS wr w.heap.size (w.heap.size + 1) (start n) (fpL (w.heap.size + 1) w.heap.size n (fun i => w.heap.size + 2 + i)) := by
  refine ⟨w.heap.size, fun i => w.heap.size + 2 + i, rfl, ?_⟩
  refine { row := h.row.congr fun k hk => ?_, said := h.said.congr (fun i => ?_) rfl, wait := fun i hi => (h.wait i hi).congr (fun x => ?_) rfl, low := ⟨by omega, Nat.le_refl _, fun i hi => by show w.heap.size ≤ w.heap.size + 2 + i; omega⟩, five := h5, dS := fun i hi => by show w.heap.size + 2 + i ≠ w.heap.size; omega, dW := fun i j hi hj hne => by show w.heap.size + 2 + i ≠ w.heap.size + 2 + j; omega }
  · unfold nw av
    rfl
  · show TS [] i = none
    exact TS_not (by simp; omega)
  · show TW (start n) i _ x = none
    unfold TW
    rw [if_neg (fun q => by cases q.2)]
set_option maxRecDepth 100000 in
set_option maxHeartbeats 1000000 in
theorem newL_ok (n : Nat) (h2 : 2 ≤ n) (h5 : n ≤ 5) (w : World) : Calls Try.prog 6 #[.int .i64 (n : Int)] w fun x w' => ∃ P fp, x = .returned (.tuple #[.pointer (some ⟨P, 0, none⟩), .nilIface]) ∧ LS w' w.heap.size P (start n) fp ∧ Below w.heap.size w w' := by
  have hmk : ∀ W : World, (Instr.makeMap 62 none).run Try.prog W = .ok (.map (some W.heap.size)) (W.alloc (.map #[] 0)) := fun _ => rfl
  have d1 : ¬ (n : Int) < 2 := by omega
  have d2 : ¬ (n : Int) > 5 := by omega
  go_enter Try.func6, Try.ntmps6
  go_wp2
  go_loopw [18] (fun i wr => ∃ k : Nat, k ≤ n ∧ i = .int .i64 k ∧ Hid (NW w wr n k)) (fun i _ => n - (intOf i).toNat)
  case atStart => exact ⟨0, by omega, rfl, NW.made0 w n⟩
  case round =>
    obtain ⟨k, hk, rfl, hp⟩ := hrel
    by_cases hlt : k < n
    · have hkl : (k : Int) < (n : Int) := by omega
      have c0 : wr.cell? ⟨w.heap.size + 1, 7 + k, none⟩ = some (nw n k w.heap.size (7 + k)) := World.rowIs.cell hp.out.row (i := 7 + k) (by omega)
      have z0 := World.rowIs.frozen hp.out.row (7 + k)
      have hsz : w.heap.size + 1 < wr.heap.size := by have := hp.out.size; omega
      have hk0 : (0 : Int) ≤ (k : Int) := by omega
      have hk5 : (k : Int) < 5 := by omega
      go_wp2
      go_roundw
      case rel => exact ⟨k + 1, by omega, by go_num, hp.out.step (by omega)⟩
      case measure => simp [intOf]; omega
    · have ek : k = n := by omega
      have HP : Hid (NW w wr n n) := by rw [ek] at hp; exact hp
      clear hp ek
      go_wp2
      go_ret2
      exact ⟨_, _, rfl, nw_done h5 HP.out, HP.out.low⟩
/-! Heard -/
theorem out_no {who : Int} (h : ¬ (0 ≤ who ∧ who < (l.n : Int))) : inC l who = 1 := if_pos (by omega)
theorem hdL_no (h : LF w base P mS mb (rc l)) (who : Int) (hc : ¬ (0 ≤ who ∧ who < (l.n : Int))) : Calls Try.prog 13 #[.pointer (some ⟨P, 0, none⟩), .int .i64 who] w fun x w' => x = .returned (.tuple #[.slice none 0 0, errF 1]) ∧ w' = w := by
  have d1 : Hid (decide (0 ≤ who ∧ who < ((rc l).n : Int)) = false) := decide_eq_false hc
  have HG : Hid (LF w base P mS mb (rc l)) := h
  rw [errF_no (by decide)]
  clear h hc
  go_enter Try.func13, Try.ntmps13
  go_wp2_with fail
  refine (hasL_any HG.out who).mono ?_
  rintro e w ⟨rfl, rfl⟩
  rw [d1.out]
  go_wp2
  go_ret2
  exact ⟨rfl, rfl⟩
/-- a row that the call has made -/
abbrev Ow (w : World) (base : Nat) (v : Value) (l : List Int) : Prop := w.ownsRow base 3 1 v l.length (l.map (Value.int .i64))
set_option maxRecDepth 100000 in
set_option maxHeartbeats 1000000 in
theorem hdL_ok (h : LF w base P mS mb (rc l)) (hi : Inv l) (m : Nat) (hm : m < l.n) : Calls Try.prog 13 #[.pointer (some ⟨P, 0, none⟩), .int .i64 (m : Int)] w fun x w' => ∃ v, x = .returned (.tuple #[v, .nilIface]) ∧ Ow w' w.heap.size v (l.ws.take (hn l m)) ∧ Below w.heap.size w w' := by
  have hm5 : m < 5 := Nat.lt_of_lt_of_le hm h.five
  have d1 : Hid (decide (0 ≤ (m : Int) ∧ (m : Int) < ((rc l).n : Int)) = true) := decide_eq_true ⟨by omega, by show (m : Int) < (l.n : Int); omega⟩
  have c2 : w.cell? ⟨P, 2 + m, none⟩ = some (.int .i64 (hn l m : Int)) := h.cl hm5
  obtain ⟨n, en⟩ : ∃ n, n = hn l m := ⟨_, rfl⟩
  have hn30 : n ≤ 30 := by have := hn_le l m; have := hi.len; omega
  rw [← en] at c2 ⊢
  have HG : Hid (LF w base P mS mb (rc l) ∧ Inv l ∧ m < 5 ∧ n ≤ l.ws.length) := ⟨h, hi, hm5, by rw [en]; exact hn_le l m⟩
  have hm0 : (0 : Int) ≤ (m : Int) := by omega
  have hm5' : (m : Int) < 5 := by omega
  obtain ⟨ii, hii, hz0, hz1, hz2⟩ := info_int
  have HJ : Hid (Try.prog.info? 3 = some ii ∧ ii.zero = some (.int .i64 0) ∧ ii.size = 1 ∧ ii.bytes = 8) := ⟨hii, hz0, hz1, hz2⟩
  clear h hm hm5 hi en hii hz0 hz1 hz2
  go_enter Try.func13, Try.ntmps13
  go_wp2_with fail
  refine (hasL_any HG.out.1 (m : Int)).mono ?_
  rintro e w ⟨rfl, rfl⟩
  rw [d1.out]
  go_wp2
  go_loopw [6, 19] (fun y x wr => ∃ k : Nat, k ≤ n ∧ x = .int .i64 (k : Int) ∧ Hid (Ow wr w.heap.size y (l.ws.take k) ∧ Below w.heap.size w wr)) (fun _ x _ => n - (intOf x).toNat)
  case atStart => exact ⟨0, by omega, rfl, World.ownsRow_nil _ _ _ _, Below.refl _ _⟩
  case round =>
    obtain ⟨k, hk, rfl, hQ⟩ := hrel
    by_cases hlt : k < n
    · have hkl : (k : Int) < (n : Int) := by omega
      obtain ⟨q, cap, rfl⟩ := own_form hQ.out.1
      have el : (l.ws.take k).length = k := by rw [List.length_take]; have := HG.out.2.2.2; omega
      have O1 : Hid (wr.ownsRow w.heap.size 3 1 (.slice q k cap) k ((l.ws.take k).map (Value.int .i64)) ∧ Below w.heap.size w wr) := by
        have h1 : Ow wr w.heap.size (.slice q (l.ws.take k).length cap) (l.ws.take k) := hQ.out.1
        unfold Ow at h1
        rw [el] at h1
        exact ⟨h1, hQ.out.2⟩
      rw [el]
      have gX := HG.out.1.later O1.out.2
      have c1 := gX.c1
      obtain ⟨x, ex⟩ : ∃ x : Int, x = l.ws.getD k 0 := ⟨_, rfl⟩
      have hlk : (Instr.lookup 62 (.map (some mS)) (.int .i64 (k : Int)) false).run Try.prog wr = .ok (.int .i64 x) wr := by
        have q := gX.lkS (x := (k : Int)) (s := some (l.ws.getD k 0)) (wfI (by omega) (by omega)) (TS_at (by have := HG.out.2.2.2; omega)) wr rfl
        rw [ex]
        exact q
      have HX : Hid (x = l.ws.getD k 0) := ex
      clear hQ el ex gX
      go_wp2_with (at_builtin; refine wpList_append_own _ rfl _ _ 22 rfl w.heap.size 3 ii (.int .i64 0) 1 8 Try.underlying22 HJ.out.1 HJ.out.2.1 HJ.out.2.2.1 HJ.out.2.2.2 rfl (by decide) (.slice q k cap) k ((l.ws.take k).map (Value.int .i64)) rfl (by exact own_block O1.out.1 fun b hb => Below.heap_alloc _ _ _ (own_lt O1.out.1 b hb).2) ⟨wr.heap.size, 0, none⟩ 1 1 [.int .i64 x] rfl rfl (by exact new_int wr _ rfl _ 3) (int_one _) (by unfold maxLen; omega) (by omega) (by have := O1.out.2.size; simp; omega) ?_; intro v1 w4 hown hgrow _; obtain ⟨q1, k1, rfl⟩ := own_form hown; have HO1 : Hid (w4.ownsRow w.heap.size 3 1 (.slice q1 (k + 1) k1) (k + 1) ((l.ws.take k).map (Value.int .i64) ++ [.int .i64 x])) := hown; have HG1 : Hid ((wr.alloc (.cells #[.int .i64 x] 3)).grownBy w4 (Value.slice q k cap).ownBlock) := hgrow; clear hown hgrow)
      go_roundw
      case rel =>
        refine ⟨k + 1, by omega, by go_num, ?_, ?_⟩
        · have el : (l.ws.take (k + 1)).length = k + 1 := by rw [List.length_take]; have := HG.out.2.2.2; omega
          have e : l.ws.take (k + 1) = l.ws.take k ++ [x] := by rw [HX.out]; exact take_succ (by have := HG.out.2.2.2; omega)
          show World.ownsRow _ _ _ _ _ _ _
          rw [el, e, List.map_append]
          exact HO1.out
        · exact (O1.out.2.alloc O1.out.2.size _).grown HG1.out (by have := O1.out.2.size; simp; omega) fun b hb => (own_lt O1.out.1 b hb).1
      case measure => simp [intOf]; omega
    · obtain rfl : k = n := by omega
      go_wp2
      go_ret2
      exact ⟨_, rfl, hQ.out⟩
theorem hdL (base P : Nat) (l : L) (fp : List Nat) (who : Int) (w : World) (h : LS w base P l fp) (hi : Inv l) : Calls Try.prog 13 #[.pointer (some ⟨P, 0, none⟩), .int .i64 who] w fun x w' => ∃ v, x = .returned (.tuple #[v, errF (inC l who)]) ∧ Sl w' v (hd l who) ∧ Below w.heap.size w w' := by
  obtain ⟨mS, mb, rfl, h⟩ := h
  by_cases hc : 0 ≤ who ∧ who < (l.n : Int)
  · obtain ⟨m, rfl⟩ : ∃ m : Nat, who = (m : Int) := ⟨who.toNat, by omega⟩
    have hm : m < l.n := by omega
    rw [in_ok hm, hd_in hm, errF_ok]
    refine (hdL_ok h hi m hm).mono ?_
    rintro x w' ⟨v, rfl, ho, hb⟩
    exact ⟨v, rfl, Sl.of_own ho, hb⟩
  · have e2 : hd l who = [] := by unfold hd; rw [out_no hc, if_neg (by decide)]
    rw [out_no hc, e2]
    refine (hdL_no h who hc).mono ?_
    rintro x w' ⟨rfl, rfl⟩
    exact ⟨_, rfl, Sl.nil _, Below.refl _ _⟩
end Go.Proofs.Ytcccheeeagphpag.Ldr
