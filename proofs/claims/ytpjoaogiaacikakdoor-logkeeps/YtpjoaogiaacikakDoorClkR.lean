/-
  What a round of package clock's along does to the rows that it fills: plain facts on memory.
-/
import Derived.Test.YtpjoaogiaacikakDoorRowG
import Derived.Test.YtpjoaogiaacikakDoorClkA
namespace Go.Proofs.YtpjoaogiaacikakDoor.His
open Go.RowKit

def CReached (h : List Ev) (w : World) (base A L len k : Nat) : Prop :=
  ∃ fa fl, w.rowIs A 69 (len * 5) fa ∧ w.rowIs L 94 25 fl ∧ A ≠ L ∧ base ≤ A ∧ base ≤ L ∧ (∀ j, j < k → ∀ i, i < 5 → fa (j * 5 + i) = .int .i64 ((row h j).getD i 0)) ∧ (∀ m, m < 5 → ∀ i, i < 5 → fl (m * 5 + i) = .int .i64 ((last h k m).getD i 0))

theorem mkc_info : (Tryd.prog.info? 69).map (fun i => (i.zero, i.size, i.bytes)) = some (some (.agg #[.int .i64 0, .int .i64 0, .int .i64 0, .int .i64 0, .int .i64 0]), 5, 40) := by kernel_rfl
theorem mk_counts (n : Nat) (hn : n ≤ 60) (w : World) :
    (Instr.makeSlice 66 (.int .i64 (n : Int)) (.int .i64 (n : Int))).run Tryd.prog w = .ok (.slice (some ⟨w.heap.size, 0, none⟩) n n) (w.alloc (.cells (madeCells #[.int .i64 0, .int .i64 0, .int .i64 0, .int .i64 0, .int .i64 0] (n * 5)) 69)) := by
  obtain ⟨i, hi, hzz⟩ := Option.map_eq_some_iff.1 mkc_info
  simp only [Prod.mk.injEq] at hzz
  obtain ⟨hz, hs, hb⟩ := hzz
  have hr := run_make (P := Tryd.prog) w 66 69 i _ (by kernel_rfl) hi hz .i64 .i64 n n (by omega) (Int.le_refl _) (by rw [hb]; omega) (by omega)
  simp only [Int.toNat_natCast, hs] at hr
  exact hr

/-- what an event reaches, in a variable of the call's own -/
def CFr (w : World) (F : Nat) (r : List Int) : Prop := w.rowIs F 69 5 (fun i => .int .i64 (r.getD i 0))
theorem CFr.lit (w : World) (a b c d e : Int) : CFr (w.alloc (.cells #[.int .i64 a, .int .i64 b, .int .i64 c, .int .i64 d, .int .i64 e] 69)) w.heap.size [a, b, c, d, e] := by
  refine World.rowIs_alloc w _ _ _ fun i hi => ?_
  have : i < 5 := hi
  rcases i with _ | _ | _ | _ | _ | i
  · rfl
  · rfl
  · rfl
  · rfl
  · rfl
  · omega
theorem CFr.later {w w' : World} {F : Nat} {r : List Int} (h : CFr w F r) (hb : Below w.heap.size w w') : CFr w' F r := rowIs_later h hb
theorem CFr.cells {w : World} {F : Nat} {a b c d e : Int} (h : CFr w F [a, b, c, d, e]) : w.cell? ⟨F, 0, none⟩ = some (.int .i64 a) ∧ w.cell? ⟨F, 1, none⟩ = some (.int .i64 b) ∧ w.cell? ⟨F, 2, none⟩ = some (.int .i64 c) ∧ w.cell? ⟨F, 3, none⟩ = some (.int .i64 d) ∧ w.cell? ⟨F, 4, none⟩ = some (.int .i64 e) :=
  ⟨World.rowIs.cell h (by omega), World.rowIs.cell h (by omega), World.rowIs.cell h (by omega), World.rowIs.cell h (by omega), World.rowIs.cell h (by omega)⟩
theorem CFr.set {w : World} {F : Nat} {r : List Int} (h : CFr w F r) (hr : r.length = 5) (m : Nat) (hm : m < 5) (x : Int) : CFr (w.setCell ⟨F, m, none⟩ (.int .i64 x)) F (r.set m x) := by
  refine (World.rowIs.set h m _).congr fun i hi => ?_
  by_cases e : i = m
  · subst e
    simp [List.getD, hr, hm]
  · simp [e, List.getD, List.getElem?_set_ne (Ne.symm e)]
/-- the row of one event among all -/
def c9fact (w : World) (A s : Nat) (s0 s1 s2 s3 s4 : Int) : Prop := w.cell? ⟨A, s * 5, none⟩ = some (.int .i64 s0) ∧ w.cell? ⟨A, s * 5 + 1, none⟩ = some (.int .i64 s1) ∧ w.cell? ⟨A, s * 5 + 2, none⟩ = some (.int .i64 s2) ∧ w.cell? ⟨A, s * 5 + 3, none⟩ = some (.int .i64 s3) ∧ w.cell? ⟨A, s * 5 + 4, none⟩ = some (.int .i64 s4)
theorem c9fact.later {w w' : World} {A s : Nat} {s0 s1 s2 s3 s4 : Int} (h : c9fact w A s s0 s1 s2 s3 s4) (hA : A < w.heap.size) (hb : Below w.heap.size w w') : c9fact w' A s s0 s1 s2 s3 s4 :=
  ⟨(hb.cell (p := ⟨A, _, none⟩) hA).trans h.1, (hb.cell (p := ⟨A, _, none⟩) hA).trans h.2.1, (hb.cell (p := ⟨A, _, none⟩) hA).trans h.2.2.1, (hb.cell (p := ⟨A, _, none⟩) hA).trans h.2.2.2.1, (hb.cell (p := ⟨A, _, none⟩) hA).trans h.2.2.2.2⟩

/-- what make and the variable lay -/
theorem made5c (n i : Nat) (hi : i < n) : (madeCells #[.int .i64 0, .int .i64 0, .int .i64 0, .int .i64 0, .int .i64 0] n)[i]? = some (.int .i64 0) := by
  unfold madeCells
  have : ∀ j, j < 5 → (#[Value.int .i64 0, .int .i64 0, .int .i64 0, .int .i64 0, .int .i64 0] : Array Value)[j]! = .int .i64 0 := by
    intro j hj
    rcases j with _ | _ | _ | _ | _ | j
    · rfl
    · rfl
    · rfl
    · rfl
    · rfl
    · omega
  simp only [Array.getElem?_map, Array.getElem?_range, hi, if_true, Option.map_some]
  exact congrArg some (this _ (Nat.mod_lt _ (by decide)))
theorem zero25c (i : Nat) (hi : i < 25) : (Array.replicate 25 (Value.int .i64 0))[i]? = some (.int .i64 0) := by simp [hi]
theorem CReached.start (h : List Ev) (w : World) (len : Nat) (c : Array Value) (hc : c.size = 25) (hz : ∀ i, i < 25 → c[i]? = some (.int .i64 0)) :
    CReached h ((w.alloc (.cells (madeCells #[.int .i64 0, .int .i64 0, .int .i64 0, .int .i64 0, .int .i64 0] (len * 5)) 69)).alloc (.cells c 94)) w.heap.size w.heap.size (w.heap.size + 1) len 0 := by
  have ra := World.rowIs_alloc w (madeCells #[.int .i64 0, .int .i64 0, .int .i64 0, .int .i64 0, .int .i64 0] (len * 5)) 69 (fun _ => .int .i64 0) (fun i hi => made5c _ i (by rwa [size_madeCells] at hi))
  rw [size_madeCells] at ra
  have rl := World.rowIs_alloc (w.alloc (.cells (madeCells #[.int .i64 0, .int .i64 0, .int .i64 0, .int .i64 0, .int .i64 0] (len * 5)) 69)) c 94 (fun _ => .int .i64 0) (fun i hi => hz i (by omega))
  have es : (w.alloc (.cells (madeCells #[.int .i64 0, .int .i64 0, .int .i64 0, .int .i64 0, .int .i64 0] (len * 5)) 69)).heap.size = w.heap.size + 1 := by simp
  rw [es, hc] at rl
  refine ⟨_, _, ra.alloc _, rl, by omega, Nat.le_refl _, by omega, fun j hj => by omega, fun m hm i hi => ?_⟩
  show _ = Value.int .i64 (zero5.getD i 0)
  rcases i with _ | _ | _ | _ | _ | i
  · rfl
  · rfl
  · rfl
  · rfl
  · rfl
  · omega

/-- an event's row stored, ahead of the store into its member's -/
def CMid (h : List Ev) (w : World) (base A L len k : Nat) (r0 r1 r2 r3 r4 : Int) : Prop :=
  ∃ fa fl, w.rowIs A 69 (len * 5) fa ∧ w.rowIs L 94 25 fl ∧ A ≠ L ∧ base ≤ A ∧ base ≤ L ∧ (∀ j, j < k → ∀ i, i < 5 → fa (j * 5 + i) = .int .i64 ((row h j).getD i 0)) ∧ (∀ m, m < 5 → ∀ i, i < 5 → fl (m * 5 + i) = .int .i64 ((last h k m).getD i 0))
    ∧ (fa (k * 5) = .int .i64 r0 ∧ fa (k * 5 + 1) = .int .i64 r1 ∧ fa (k * 5 + 2) = .int .i64 r2 ∧ fa (k * 5 + 3) = .int .i64 r3 ∧ fa (k * 5 + 4) = .int .i64 r4)
theorem CReached.later {h : List Ev} {w w' : World} {base A L len k : Nat} (g : CReached h w base A L len k) (hb : Below w.heap.size w w') : CReached h w' base A L len k := by
  obtain ⟨fa, fl, ra, rl, x⟩ := g
  exact ⟨fa, fl, rowIs_later ra hb, rowIs_later rl hb, x⟩
theorem CReached.mid {h : List Ev} {w : World} {base A L len k : Nat} (g : CReached h w base A L len k) (r0 r1 r2 r3 r4 : Int) :
    CMid h (((((w.setCell ⟨A, k * 5, none⟩ (.int .i64 r0)).setCell ⟨A, k * 5 + 1, none⟩ (.int .i64 r1)).setCell ⟨A, k * 5 + 2, none⟩ (.int .i64 r2)).setCell ⟨A, k * 5 + 3, none⟩ (.int .i64 r3)).setCell ⟨A, k * 5 + 4, none⟩ (.int .i64 r4)) base A L len k r0 r1 r2 r3 r4 := by
  obtain ⟨fa, fl, ra, rl, hAL, hA, hL, ha, hl⟩ := g
  have ra5 := (((((ra.set (k * 5) (.int .i64 r0)).set (k * 5 + 1) (.int .i64 r1)).set (k * 5 + 2) (.int .i64 r2)).set (k * 5 + 3) (.int .i64 r3)).set (k * 5 + 4) (.int .i64 r4))
  have rl5 := (((((rl.setOther (a := ⟨A, k * 5, none⟩) (Ne.symm hAL) (.int .i64 r0)).setOther (a := ⟨A, k * 5 + 1, none⟩) (Ne.symm hAL) (.int .i64 r1)).setOther (a := ⟨A, k * 5 + 2, none⟩) (Ne.symm hAL) (.int .i64 r2)).setOther (a := ⟨A, k * 5 + 3, none⟩) (Ne.symm hAL) (.int .i64 r3)).setOther (a := ⟨A, k * 5 + 4, none⟩) (Ne.symm hAL) (.int .i64 r4))
  refine ⟨_, _, ra5, rl5, hAL, hA, hL, ?_, hl, ?_, ?_, ?_, ?_, ?_⟩
  · intro j hj i hi
    show (if j * 5 + i = k * 5 + 4 then _ else if j * 5 + i = k * 5 + 3 then _ else if j * 5 + i = k * 5 + 2 then _ else if j * 5 + i = k * 5 + 1 then _ else if j * 5 + i = k * 5 then _ else _) = _
    rw [if_neg (by omega), if_neg (by omega), if_neg (by omega), if_neg (by omega), if_neg (by omega)]
    exact ha j hj i hi
  · show (if k * 5 = k * 5 + 4 then _ else if k * 5 = k * 5 + 3 then _ else if k * 5 = k * 5 + 2 then _ else if k * 5 = k * 5 + 1 then _ else if k * 5 = k * 5 then _ else _) = _
    rw [if_neg (by omega), if_neg (by omega), if_neg (by omega), if_neg (by omega), if_pos rfl]
  · show (if k * 5 + 1 = k * 5 + 4 then _ else if k * 5 + 1 = k * 5 + 3 then _ else if k * 5 + 1 = k * 5 + 2 then _ else if k * 5 + 1 = k * 5 + 1 then _ else _) = _
    rw [if_neg (by omega), if_neg (by omega), if_neg (by omega), if_pos rfl]
  · show (if k * 5 + 2 = k * 5 + 4 then _ else if k * 5 + 2 = k * 5 + 3 then _ else if k * 5 + 2 = k * 5 + 2 then _ else _) = _
    rw [if_neg (by omega), if_neg (by omega), if_pos rfl]
  · show (if k * 5 + 3 = k * 5 + 4 then _ else if k * 5 + 3 = k * 5 + 3 then _ else _) = _
    rw [if_neg (by omega), if_pos rfl]
  · show (if k * 5 + 4 = k * 5 + 4 then _ else _) = _
    rw [if_pos rfl]
theorem CMid.drew {h : List Ev} {w : World} {base A L len k : Nat} {r0 r1 r2 r3 r4 : Int} (g : CMid h w base A L len k r0 r1 r2 r3 r4) : CMid h w.drew base A L len k r0 r1 r2 r3 r4 := g
theorem CReached.drew {h : List Ev} {w : World} {base A L len k : Nat} (g : CReached h w base A L len k) : CReached h w.drew base A L len k := g
theorem CMid.step {h : List Ev} {w : World} {base A L len k m : Nat} {r0 r1 r2 r3 r4 : Int} (g : CMid h w base A L len k r0 r1 r2 r3 r4) (hm : m = W h k) (hr : [r0, r1, r2, r3, r4] = row h k) :
    CReached h (((((w.setCell ⟨L, m * 5, none⟩ (.int .i64 r0)).setCell ⟨L, m * 5 + 1, none⟩ (.int .i64 r1)).setCell ⟨L, m * 5 + 2, none⟩ (.int .i64 r2)).setCell ⟨L, m * 5 + 3, none⟩ (.int .i64 r3)).setCell ⟨L, m * 5 + 4, none⟩ (.int .i64 r4)) base A L len (k + 1) := by
  obtain ⟨fa, fl, ra, rl, hAL, hA, hL, ha, hl, h0, h1, h2, h3, h4⟩ := g
  have ra5 := (((((ra.setOther (a := ⟨L, m * 5, none⟩) hAL (.int .i64 r0)).setOther (a := ⟨L, m * 5 + 1, none⟩) hAL (.int .i64 r1)).setOther (a := ⟨L, m * 5 + 2, none⟩) hAL (.int .i64 r2)).setOther (a := ⟨L, m * 5 + 3, none⟩) hAL (.int .i64 r3)).setOther (a := ⟨L, m * 5 + 4, none⟩) hAL (.int .i64 r4))
  have rl5 := (((((rl.set (m * 5) (.int .i64 r0)).set (m * 5 + 1) (.int .i64 r1)).set (m * 5 + 2) (.int .i64 r2)).set (m * 5 + 3) (.int .i64 r3)).set (m * 5 + 4) (.int .i64 r4))
  refine ⟨_, _, ra5, rl5, hAL, hA, hL, ?_, ?_⟩
  · intro j hj i hi
    rcases Nat.lt_or_ge j k with hjk | hjk
    · exact ha j hjk i hi
    · obtain rfl : j = k := by omega
      rw [← hr]
      rcases i with _ | _ | _ | _ | _ | i
      · exact h0
      · exact h1
      · exact h2
      · exact h3
      · exact h4
      · omega
  · intro m' hm' i hi
    show (if m' * 5 + i = m * 5 + 4 then _ else if m' * 5 + i = m * 5 + 3 then _ else if m' * 5 + i = m * 5 + 2 then _ else if m' * 5 + i = m * 5 + 1 then _ else if m' * 5 + i = m * 5 then _ else _) = _
    rw [last_step]
    by_cases e : m' = m
    · rw [if_pos (e.trans hm), ← hr]
      rcases i with _ | _ | _ | _ | _ | i
      · rw [if_neg (by omega), if_neg (by omega), if_neg (by omega), if_neg (by omega), if_pos (by omega)]; rfl
      · rw [if_neg (by omega), if_neg (by omega), if_neg (by omega), if_pos (by omega)]; rfl
      · rw [if_neg (by omega), if_neg (by omega), if_pos (by omega)]; rfl
      · rw [if_neg (by omega), if_pos (by omega)]; rfl
      · rw [if_pos (by omega)]; rfl
      · omega
    · rw [if_neg (by omega), if_neg (by omega), if_neg (by omega), if_neg (by omega), if_neg (by omega), if_neg (fun q => e (q.trans hm.symm))]
      exact hl m' hm' i hi
theorem below_five {base : Nat} {w w9 : World} {A p0 p1 p2 p3 p4 : Nat} {r0 r1 r2 r3 r4 : Int} (hb : Below base w w9) (hA : base ≤ A) :
    Below base w (((((w9.setCell ⟨A, p0, none⟩ (.int .i64 r0)).setCell ⟨A, p1, none⟩ (.int .i64 r1)).setCell ⟨A, p2, none⟩ (.int .i64 r2)).setCell ⟨A, p3, none⟩ (.int .i64 r3)).setCell ⟨A, p4, none⟩ (.int .i64 r4)) :=
  (((((hb.setCell (p := ⟨A, _, none⟩) hA _).setCell (p := ⟨A, _, none⟩) hA _).setCell (p := ⟨A, _, none⟩) hA _).setCell (p := ⟨A, _, none⟩) hA _).setCell (p := ⟨A, _, none⟩) hA _)
theorem bx_five {w : World} {B A p0 p1 p2 p3 p4 : Nat} {x0 x1 x2 r0 r1 r2 r3 r4 : Int} (h : Bx w B x0 x1 x2) (hne : B ≠ A) :
    Bx (((((w.setCell ⟨A, p0, none⟩ (.int .i64 r0)).setCell ⟨A, p1, none⟩ (.int .i64 r1)).setCell ⟨A, p2, none⟩ (.int .i64 r2)).setCell ⟨A, p3, none⟩ (.int .i64 r3)).setCell ⟨A, p4, none⟩ (.int .i64 r4)) B x0 x1 x2 :=
  ((((h.set hne _).set hne _).set hne _).set hne _).set hne _
theorem join_zero {a0 a1 a2 a3 a4 : Int} (h0 : 0 ≤ a0) (h1 : 0 ≤ a1) (h2 : 0 ≤ a2) (h3 : 0 ≤ a3) (h4 : 0 ≤ a4) : joinR [a0, a1, a2, a3, a4] [0, 0, 0, 0, 0] = [a0, a1, a2, a3, a4] := by
  show [max a0 0, max a1 0, max a2 0, max a3 0, max a4 0] = _
  rw [show max a0 0 = a0 by omega, show max a1 0 = a1 by omega, show max a2 0 = a2 by omega, show max a3 0 = a3 by omega, show max a4 0 = a4 by omega]

end Go.Proofs.YtpjoaogiaacikakDoor.His
