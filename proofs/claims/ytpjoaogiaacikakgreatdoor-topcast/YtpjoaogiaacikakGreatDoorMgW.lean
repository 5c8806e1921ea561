/-
  Texts put together: HisW, HisR.
-/
import Derived.Test.YtpjoaogiaacikakGreatDoorMgH
import Derived.LoopN

/-
  Contract of package history's reach.with: the greater number of each member.
-/
namespace Go.Proofs.YtpjoaogiaacikakGreatDoor.His
open Go.RowKit

set_option maxRecDepth 100000 in
set_option maxHeartbeats 1000000 in
theorem with1 (a0 a1 a2 a3 a4 b0 b1 b2 b3 b4 : Int) (w : World) :
    Calls Tryz.prog 70 #[.agg #[.int .i64 a0, .int .i64 a1, .int .i64 a2, .int .i64 a3, .int .i64 a4], .agg #[.int .i64 b0, .int .i64 b1, .int .i64 b2, .int .i64 b3, .int .i64 b4]] w
      fun x w' => x = .returned (.agg #[.int .i64 (max a0 b0), .int .i64 (max a1 b1), .int .i64 (max a2 b2), .int .i64 (max a3 b3), .int .i64 (max a4 b4)]) ∧ Below w.heap.size w w' := by
  have i0 : ∀ w : World, (Instr.index 129 (.agg #[.int .i64 b0, .int .i64 b1, .int .i64 b2, .int .i64 b3, .int .i64 b4]) (.int .i64 0)).run Tryz.prog w = .ok (.int .i64 b0) w := fun _ => by kernel_rfl
  have m0 : (if a0 < b0 then b0 else a0) = max a0 b0 := by omega
  have i1 : ∀ w : World, (Instr.index 129 (.agg #[.int .i64 b0, .int .i64 b1, .int .i64 b2, .int .i64 b3, .int .i64 b4]) (.int .i64 1)).run Tryz.prog w = .ok (.int .i64 b1) w := fun _ => by kernel_rfl
  have m1 : (if a1 < b1 then b1 else a1) = max a1 b1 := by omega
  have i2 : ∀ w : World, (Instr.index 129 (.agg #[.int .i64 b0, .int .i64 b1, .int .i64 b2, .int .i64 b3, .int .i64 b4]) (.int .i64 2)).run Tryz.prog w = .ok (.int .i64 b2) w := fun _ => by kernel_rfl
  have m2 : (if a2 < b2 then b2 else a2) = max a2 b2 := by omega
  have i3 : ∀ w : World, (Instr.index 129 (.agg #[.int .i64 b0, .int .i64 b1, .int .i64 b2, .int .i64 b3, .int .i64 b4]) (.int .i64 3)).run Tryz.prog w = .ok (.int .i64 b3) w := fun _ => by kernel_rfl
  have m3 : (if a3 < b3 then b3 else a3) = max a3 b3 := by omega
  have i4 : ∀ w : World, (Instr.index 129 (.agg #[.int .i64 b0, .int .i64 b1, .int .i64 b2, .int .i64 b3, .int .i64 b4]) (.int .i64 4)).run Tryz.prog w = .ok (.int .i64 b4) w := fun _ => by kernel_rfl
  have m4 : (if a4 < b4 then b4 else a4) = max a4 b4 := by omega
  go_enter Tryz.func70, Tryz.ntmps70
  go_wp2
  refine wp_loop_rounds 6 ?_
  rw [rounds_succ]; go_wp2
  rw [rounds_succ]; go_wp2
  rw [rounds_succ]; go_wp2
  rw [rounds_succ]; go_wp2
  rw [rounds_succ]; go_wp2
  rw [rounds_succ]; go_wp2
  refine bodyPost_ret (v := .agg #[.int .i64 (max a0 b0), .int .i64 (max a1 b1), .int .i64 (max a2 b2), .int .i64 (max a3 b3), .int .i64 (max a4 b4)]) ?_ rfl ?_
  · have u3 := Tryz.underlying3
    simp [results, Tryz.results70, go_sem]
  · exact ⟨rfl, (((Below.refl _ _).alloc (Nat.le_refl _) _).alloc (by simp) _).alloc (by simp; omega) _⟩
end Go.Proofs.YtpjoaogiaacikakGreatDoor.His

/-
  What a round of package history's reaches does to the rows that it fills: plain facts on memory.
-/
namespace Go.Proofs.YtpjoaogiaacikakGreatDoor.His
open Go.RowKit

def Reached (h : List Ev) (w : World) (base A L len k : Nat) : Prop :=
  ∃ fa fl, w.rowIs A 129 (len * 5) fa ∧ w.rowIs L 130 25 fl ∧ A ≠ L ∧ base ≤ A ∧ base ≤ L ∧ (∀ j, j < k → ∀ i, i < 5 → fa (j * 5 + i) = .int .i64 ((row h j).getD i 0)) ∧ (∀ m, m < 5 → ∀ i, i < 5 → fl (m * 5 + i) = .int .i64 ((last h k m).getD i 0))

theorem mk_info : (Tryz.prog.info? 129).map (fun i => (i.zero, i.size, i.bytes)) = some (some (.agg #[.int .i64 0, .int .i64 0, .int .i64 0, .int .i64 0, .int .i64 0]), 5, 40) := by kernel_rfl
theorem mk_reach (n : Nat) (hn : n ≤ 60) (w : World) :
    (Instr.makeSlice 98 (.int .i64 (n : Int)) (.int .i64 (n : Int))).run Tryz.prog w = .ok (.slice (some ⟨w.heap.size, 0, none⟩) n n) (w.alloc (.cells (madeCells #[.int .i64 0, .int .i64 0, .int .i64 0, .int .i64 0, .int .i64 0] (n * 5)) 129)) := by
  obtain ⟨i, hi, hzz⟩ := Option.map_eq_some_iff.1 mk_info
  simp only [Prod.mk.injEq] at hzz
  obtain ⟨hz, hs, hb⟩ := hzz
  have hr := run_make (P := Tryz.prog) w 98 129 i _ (by kernel_rfl) hi hz .i64 .i64 n n (by omega) (Int.le_refl _) (by rw [hb]; omega) (by omega)
  simp only [Int.toNat_natCast, hs] at hr
  exact hr

/-- what an event reaches, in a variable of the call's own -/
def Fr (w : World) (F : Nat) (r : List Int) : Prop := w.rowIs F 129 5 (fun i => .int .i64 (r.getD i 0))
theorem Fr.lit (w : World) (a b c d e : Int) : Fr (w.alloc (.cells #[.int .i64 a, .int .i64 b, .int .i64 c, .int .i64 d, .int .i64 e] 129)) w.heap.size [a, b, c, d, e] := by
  refine World.rowIs_alloc w _ _ _ fun i hi => ?_
  have : i < 5 := hi
  rcases i with _ | _ | _ | _ | _ | i
  · rfl
  · rfl
  · rfl
  · rfl
  · rfl
  · omega
theorem Fr.later {w w' : World} {F : Nat} {r : List Int} (h : Fr w F r) (hb : Below w.heap.size w w') : Fr w' F r := rowIs_later h hb
theorem Fr.cells {w : World} {F : Nat} {a b c d e : Int} (h : Fr w F [a, b, c, d, e]) : w.cell? ⟨F, 0, none⟩ = some (.int .i64 a) ∧ w.cell? ⟨F, 1, none⟩ = some (.int .i64 b) ∧ w.cell? ⟨F, 2, none⟩ = some (.int .i64 c) ∧ w.cell? ⟨F, 3, none⟩ = some (.int .i64 d) ∧ w.cell? ⟨F, 4, none⟩ = some (.int .i64 e) :=
  ⟨World.rowIs.cell h (by omega), World.rowIs.cell h (by omega), World.rowIs.cell h (by omega), World.rowIs.cell h (by omega), World.rowIs.cell h (by omega)⟩
theorem Fr.set {w : World} {F : Nat} {r : List Int} (h : Fr w F r) (hr : r.length = 5) (m : Nat) (hm : m < 5) (x : Int) : Fr (w.setCell ⟨F, m, none⟩ (.int .i64 x)) F (r.set m x) := by
  refine (World.rowIs.set h m _).congr fun i hi => ?_
  by_cases e : i = m
  · subst e
    simp [List.getD, hr, hm]
  · simp [e, List.getD, List.getElem?_set_ne (Ne.symm e)]
/-- the row of one event among all -/
def w9fact (w : World) (A s : Nat) (s0 s1 s2 s3 s4 : Int) : Prop := w.cell? ⟨A, s * 5, none⟩ = some (.int .i64 s0) ∧ w.cell? ⟨A, s * 5 + 1, none⟩ = some (.int .i64 s1) ∧ w.cell? ⟨A, s * 5 + 2, none⟩ = some (.int .i64 s2) ∧ w.cell? ⟨A, s * 5 + 3, none⟩ = some (.int .i64 s3) ∧ w.cell? ⟨A, s * 5 + 4, none⟩ = some (.int .i64 s4)
theorem w9fact.later {w w' : World} {A s : Nat} {s0 s1 s2 s3 s4 : Int} (h : w9fact w A s s0 s1 s2 s3 s4) (hA : A < w.heap.size) (hb : Below w.heap.size w w') : w9fact w' A s s0 s1 s2 s3 s4 :=
  ⟨(hb.cell (p := ⟨A, _, none⟩) hA).trans h.1, (hb.cell (p := ⟨A, _, none⟩) hA).trans h.2.1, (hb.cell (p := ⟨A, _, none⟩) hA).trans h.2.2.1, (hb.cell (p := ⟨A, _, none⟩) hA).trans h.2.2.2.1, (hb.cell (p := ⟨A, _, none⟩) hA).trans h.2.2.2.2⟩

/-- WHAT THE ROUND's TWO STORES DO -/
theorem Reached.step {h : List Ev} {w9 : World} {base A L len k m : Nat} {fa fl : Nat → Value} {r0 r1 r2 r3 r4 : Int} {p0 p1 p2 p3 p4 : Nat}
    (ra : w9.rowIs A 129 (len * 5) fa) (rl : w9.rowIs L 130 25 fl) (hAL : A ≠ L) (hA : base ≤ A) (hL : base ≤ L)
    (ha : ∀ j, j < k → ∀ i, i < 5 → fa (j * 5 + i) = .int .i64 ((row h j).getD i 0)) (hl : ∀ m, m < 5 → ∀ i, i < 5 → fl (m * 5 + i) = .int .i64 ((last h k m).getD i 0))
    (hm : m = W h k) (hr : row h k = [r0, r1, r2, r3, r4]) (e0 : p0 = m * 5) (e1 : p1 = m * 5 + 1) (e2 : p2 = m * 5 + 2) (e3 : p3 = m * 5 + 3) (e4 : p4 = m * 5 + 4) :
    Reached h ((((((((((w9.setCell ⟨A, k * 5, none⟩ (.int .i64 r0)).setCell ⟨A, k * 5 + 1, none⟩ (.int .i64 r1)).setCell ⟨A, k * 5 + 2, none⟩ (.int .i64 r2)).setCell ⟨A, k * 5 + 3, none⟩ (.int .i64 r3)).setCell ⟨A, k * 5 + 4, none⟩ (.int .i64 r4)).setCell
      ⟨L, p0, none⟩ (.int .i64 r0)).setCell ⟨L, p1, none⟩ (.int .i64 r1)).setCell ⟨L, p2, none⟩ (.int .i64 r2)).setCell ⟨L, p3, none⟩ (.int .i64 r3)).setCell ⟨L, p4, none⟩ (.int .i64 r4)).drew base A L len (k + 1) := by
  have ra5 := (((((ra.set (k * 5) (.int .i64 r0)).set (k * 5 + 1) (.int .i64 r1)).set (k * 5 + 2) (.int .i64 r2)).set (k * 5 + 3) (.int .i64 r3)).set (k * 5 + 4) (.int .i64 r4))
  have ra10 := (((((ra5.setOther (a := ⟨L, p0, none⟩) hAL (.int .i64 r0)).setOther (a := ⟨L, p1, none⟩) hAL (.int .i64 r1)).setOther (a := ⟨L, p2, none⟩) hAL (.int .i64 r2)).setOther (a := ⟨L, p3, none⟩) hAL (.int .i64 r3)).setOther (a := ⟨L, p4, none⟩) hAL (.int .i64 r4))
  have rl5 := (((((rl.setOther (a := ⟨A, k * 5, none⟩) (Ne.symm hAL) (.int .i64 r0)).setOther (a := ⟨A, k * 5 + 1, none⟩) (Ne.symm hAL) (.int .i64 r1)).setOther (a := ⟨A, k * 5 + 2, none⟩) (Ne.symm hAL) (.int .i64 r2)).setOther (a := ⟨A, k * 5 + 3, none⟩) (Ne.symm hAL) (.int .i64 r3)).setOther (a := ⟨A, k * 5 + 4, none⟩) (Ne.symm hAL) (.int .i64 r4))
  have rl10 := (((((rl5.set p0 (.int .i64 r0)).set p1 (.int .i64 r1)).set p2 (.int .i64 r2)).set p3 (.int .i64 r3)).set p4 (.int .i64 r4))
  refine ⟨_, _, ra10.drew, rl10.drew, hAL, hA, hL, ?_, ?_⟩
  · intro j hj i hi
    show (if j * 5 + i = k * 5 + 4 then _ else if j * 5 + i = k * 5 + 3 then _ else if j * 5 + i = k * 5 + 2 then _ else if j * 5 + i = k * 5 + 1 then _ else if j * 5 + i = k * 5 then _ else _) = _
    rcases Nat.lt_or_ge j k with hjk | hjk
    · rw [if_neg (by omega), if_neg (by omega), if_neg (by omega), if_neg (by omega), if_neg (by omega)]
      exact ha j hjk i hi
    · obtain rfl : j = k := by omega
      rw [hr]
      rcases i with _ | _ | _ | _ | _ | i
      · rw [if_neg (by omega), if_neg (by omega), if_neg (by omega), if_neg (by omega), if_pos (by omega)]; rfl
      · rw [if_neg (by omega), if_neg (by omega), if_neg (by omega), if_pos (by omega)]; rfl
      · rw [if_neg (by omega), if_neg (by omega), if_pos (by omega)]; rfl
      · rw [if_neg (by omega), if_pos (by omega)]; rfl
      · rw [if_pos (by omega)]; rfl
      · omega
  · intro m' hm' i hi
    show (if m' * 5 + i = p4 then _ else if m' * 5 + i = p3 then _ else if m' * 5 + i = p2 then _ else if m' * 5 + i = p1 then _ else if m' * 5 + i = p0 then _ else _) = _
    rw [last_step]
    by_cases e : m' = m
    · rw [if_pos (e.trans hm), hr]
      rcases i with _ | _ | _ | _ | _ | i
      · rw [if_neg (by omega), if_neg (by omega), if_neg (by omega), if_neg (by omega), if_pos (by omega)]; rfl
      · rw [if_neg (by omega), if_neg (by omega), if_neg (by omega), if_pos (by omega)]; rfl
      · rw [if_neg (by omega), if_neg (by omega), if_pos (by omega)]; rfl
      · rw [if_neg (by omega), if_pos (by omega)]; rfl
      · rw [if_pos (by omega)]; rfl
      · omega
    · rw [if_neg (by omega), if_neg (by omega), if_neg (by omega), if_neg (by omega), if_neg (by omega), if_neg (fun q => e (q.trans hm.symm))]
      exact hl m' hm' i hi

theorem Below.store10 {base : Nat} {w w9 : World} {A L k : Nat} {r0 r1 r2 r3 r4 : Int} {p0 p1 p2 p3 p4 : Nat} (hb : Below base w w9) (hA : base ≤ A) (hL : base ≤ L) :
    Below base w ((((((((((w9.setCell ⟨A, k * 5, none⟩ (.int .i64 r0)).setCell ⟨A, k * 5 + 1, none⟩ (.int .i64 r1)).setCell ⟨A, k * 5 + 2, none⟩ (.int .i64 r2)).setCell ⟨A, k * 5 + 3, none⟩ (.int .i64 r3)).setCell ⟨A, k * 5 + 4, none⟩ (.int .i64 r4)).setCell
      ⟨L, p0, none⟩ (.int .i64 r0)).setCell ⟨L, p1, none⟩ (.int .i64 r1)).setCell ⟨L, p2, none⟩ (.int .i64 r2)).setCell ⟨L, p3, none⟩ (.int .i64 r3)).setCell ⟨L, p4, none⟩ (.int .i64 r4)).drew :=
  ((((((((((hb.setCell (p := ⟨A, _, none⟩) hA _).setCell (p := ⟨A, _, none⟩) hA _).setCell (p := ⟨A, _, none⟩) hA _).setCell (p := ⟨A, _, none⟩) hA _).setCell (p := ⟨A, _, none⟩) hA _).setCell (p := ⟨L, _, none⟩) hL _).setCell (p := ⟨L, _, none⟩) hL _).setCell (p := ⟨L, _, none⟩) hL _).setCell (p := ⟨L, _, none⟩) hL _).setCell (p := ⟨L, _, none⟩) hL _).drew

/-- what make and the variable lay -/
theorem made5 (n i : Nat) (hi : i < n) : (madeCells #[.int .i64 0, .int .i64 0, .int .i64 0, .int .i64 0, .int .i64 0] n)[i]? = some (.int .i64 0) := by
  unfold madeCells
  have : ∀ j, j < 5 → (#[Value.int .i64 0, .int .i64 0, .int .i64 0, .int .i64 0, .int .i64 0] : Array Value)[j]! = .int .i64 0 := by
    intro j hj
    rcases j with _ | _ | _ | _ | _ | j
    · rfl
    · rfl
    · rfl
    · rfl
    · rfl
    · omega
  simp only [Array.getElem?_map, Array.getElem?_range, hi, if_true, Option.map_some]
  exact congrArg some (this _ (Nat.mod_lt _ (by decide)))
theorem zero25 (i : Nat) (hi : i < 25) : (Array.replicate 25 (Value.int .i64 0))[i]? = some (.int .i64 0) := by simp [hi]
theorem Reached.start (h : List Ev) (w : World) (len : Nat) (c : Array Value) (hc : c.size = 25) (hz : ∀ i, i < 25 → c[i]? = some (.int .i64 0)) :
    Reached h ((w.alloc (.cells (madeCells #[.int .i64 0, .int .i64 0, .int .i64 0, .int .i64 0, .int .i64 0] (len * 5)) 129)).alloc (.cells c 130)) w.heap.size w.heap.size (w.heap.size + 1) len 0 := by
  have ra := World.rowIs_alloc w (madeCells #[.int .i64 0, .int .i64 0, .int .i64 0, .int .i64 0, .int .i64 0] (len * 5)) 129 (fun _ => .int .i64 0) (fun i hi => made5 _ i (by rwa [size_madeCells] at hi))
  rw [size_madeCells] at ra
  have rl := World.rowIs_alloc (w.alloc (.cells (madeCells #[.int .i64 0, .int .i64 0, .int .i64 0, .int .i64 0, .int .i64 0] (len * 5)) 129)) c 130 (fun _ => .int .i64 0) (fun i hi => hz i (by omega))
  have es : (w.alloc (.cells (madeCells #[.int .i64 0, .int .i64 0, .int .i64 0, .int .i64 0, .int .i64 0] (len * 5)) 129)).heap.size = w.heap.size + 1 := by simp
  rw [es, hc] at rl
  refine ⟨_, _, ra.alloc _, rl, by omega, Nat.le_refl _, by omega, fun j hj => by omega, fun m hm i hi => ?_⟩
  show _ = Value.int .i64 (zero5.getD i 0)
  rcases i with _ | _ | _ | _ | _ | i
  · rfl
  · rfl
  · rfl
  · rfl
  · rfl
  · omega
end Go.Proofs.YtpjoaogiaacikakGreatDoor.His
