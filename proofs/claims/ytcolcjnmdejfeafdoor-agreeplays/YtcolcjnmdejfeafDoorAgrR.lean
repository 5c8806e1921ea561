/-
  The document's own group: Less, In, Check, Final, Propose.
-/
import Derived.Test.YtcolcjnmdejfeafDoorAgrF
import Derived.Deep.QuietTactic
import Derived.BigQuiet
import Derived.Deep.RegionHeld3
import Derived.WalkLawsBesides
import Derived.Handy
import Derived.Laws.ResultCell
namespace Go.Proofs.YtcolcjnmdejfeafDoor.Agr
open Go.RowKit
open Go.Proofs.YtcolcjnmdejfeafDoor.Fif (own_lt own_block own_form own_mono own_vw ret_bool)
open Go.Proofs.YtcolcjnmdejfeafDoor.Vec (Vw)
open Go.Proofs.YtcolcjnmdejfeafDoor.Sep (KpL NewL)
set_option linter.unusedVariables false

set_option maxRecDepth 100000 in
theorem refLess (a b : St) (w : World) : Calls Tryd.prog 44 #[.agg #[.int .i64 (a.1 : Int), .int .i64 (a.2 : Int)], .agg #[.int .i64 (b.1 : Int), .int .i64 (b.2 : Int)]] w fun x w' => x = .returned (.bool (les a b)) ∧ Below w.heap.size w w' := by
  obtain ⟨a1, a2⟩ := a
  obtain ⟨b1, b2⟩ := b
  have HB : Hid (Below w.heap.size w ((w.alloc (.cells #[.int .i64 (a1 : Int), .int .i64 (a2 : Int)] 56)).alloc (.cells #[.int .i64 (b1 : Int), .int .i64 (b2 : Int)] 56))) := ((Below.refl _ _).alloc (Nat.le_refl _) _).alloc (by simp) _
  by_cases h1 : a1 < b1
  · have e : les (a1, a2) (b1, b2) = true := les_iff.2 (.inl h1)
    rw [e]
    go_enter Tryd.func44, Tryd.ntmps44
    go_wp2
    go_ret
    exact ⟨rfl, HB.out⟩
  · by_cases h2 : a1 = b1
    · subst h2
      have e : les (a1, a2) (a1, b2) = decide (a2 < b2) := by simp [les]
      rw [e]
      go_enter Tryd.func44, Tryd.ntmps44
      go_wp2
      go_ret
      exact ⟨by simp, HB.out⟩
    · have e : les (a1, a2) (b1, b2) = false := by simp [les, h1, h2]
      have h3 : ((a1 : Int) == (b1 : Int)) = false := by simp; omega
      rw [e]
      go_enter Tryd.func44, Tryd.ntmps44
      go_wp2
      go_ret
      exact ⟨rfl, HB.out⟩
theorem refIn (a : Option Addr) (len cap : Nat) (l : List Int) (x : Int) (w : World) (hv : Vw w a len l) (hl : len ≤ 1000) : Calls Tryd.prog 43 #[.slice a len cap, .int .i64 x] w fun e w' => e = .returned (.bool (l.contains x)) ∧ w' = w := by
  have h1 := hv.1
  have H1 : Hid (l.length = len) := h1
  obtain ⟨-, gv⟩ := hv
  have G : Hid _ := gv
  clear gv h1
  go_enter Tryd.func43, Tryd.ntmps43
  go_wp2
  go_loopw [5] (fun i wr => ∃ k : Nat, k ≤ len ∧ i = .int .i64 k ∧ wr = w ∧ Hid (∀ j, j < k → l.getD j 0 ≠ x)) (fun i _ => len - (intOf i).toNat)
  case atStart => exact ⟨0, by omega, rfl, rfl, fun j hj => absurd hj (by omega)⟩
  case round =>
    obtain ⟨k, hk, rfl, rfl, hp⟩ := hrel
    by_cases hlt : k < len
    · obtain ⟨p, off, rfl, hpb, hc⟩ := G.out (by omega)
      have hx := hc k hlt
      obtain ⟨y, ey⟩ : ∃ y, y = l.getD k 0 := ⟨_, rfl⟩
      rw [← ey] at hx
      have EY : Hid _ := ey
      have hk0 : (0 : Int) ≤ (k : Int) := by omega
      have hkl : (k : Int) < (len : Int) := by omega
      clear hc ey
      by_cases hxy : y = x
      · have hne : (y == x) = true := by simp [hxy]
        have HXY : Hid (y = x) := hxy
        clear hxy
        go_wp2
        go_ret
        refine ⟨?_, rfl⟩
        have hm : x ∈ l := by
          rw [← HXY.out, EY.out, List.getD, List.getElem?_eq_getElem (by have := H1.out; omega)]
          exact List.getElem_mem _
        rw [List.contains_iff_mem.2 hm]
        rfl
      · have hne : (y == x) = false := by simp [hxy]
        have HXY : Hid (y ≠ x) := hxy
        clear hxy
        go_wp2
        go_roundw
        case rel => exact ⟨k + 1, by omega, by go_num, by first | rfl | trivial, fun j hj => if e : j < k then hp.out j e else by rw [show j = k by omega, ← EY.out]; exact HXY.out⟩
        case measure => simp [intOf]; omega
    · have hi : k = len := by omega
      subst hi
      go_wp2
      go_ret
      refine ⟨?_, rfl⟩
      have hm : x ∉ l := fun q => by
        obtain ⟨j, hj, e⟩ := List.getElem_of_mem q
        refine hp.out j (by have := H1.out; omega) ?_
        rw [List.getD, List.getElem?_eq_getElem hj]
        exact e
      have : l.contains x = false := by
        rw [Bool.eq_false_iff]
        intro q
        exact hm (List.contains_iff_mem.1 q)
      rw [this]
      rfl
theorem refCheck (P : Nat) (F : Fd) (g : G) (hs : Nat → Value) (who word : Int) (w : World) (h : Rb w P (ofG g hs)) (hn : g.n ≤ 5) : Calls Tryd.prog 41 #[.pointer (some ⟨P, 0, none⟩), .int .i64 who, .int .i64 word] w fun x w' => x = .returned (.int .i64 (chkC g who word)) ∧ w' = w := by
  have cn := h.cn
  have en : (ofG g hs).n = (g.n : Int) := rfl
  rw [en] at cn
  by_cases h1 : who < 0
  · have e : chkC g who word = 1 := if_pos (.inl h1)
    rw [e]
    go_enter Tryd.func41, Tryd.ntmps41
    go_wp2
    go_ret
    exact ⟨rfl, rfl⟩
  · by_cases h2 : (g.n : Int) ≤ who
    · have e : chkC g who word = 1 := if_pos (.inr (.inl h2))
      rw [e]
      go_enter Tryd.func41, Tryd.ntmps41
      go_wp2
      go_ret
      exact ⟨rfl, rfl⟩
    · by_cases h3 : word < 1
      · have e : chkC g who word = 1 := if_pos (.inr (.inr (.inl h3)))
        rw [e]
        go_enter Tryd.func41, Tryd.ntmps41
        go_wp2
        go_ret
        exact ⟨rfl, rfl⟩
      · by_cases h4 : 30 < word
        · have e : chkC g who word = 1 := if_pos (.inr (.inr (.inr h4)))
          rw [e]
          go_enter Tryd.func41, Tryd.ntmps41
          go_wp2
          go_ret
          exact ⟨rfl, rfl⟩
        · obtain ⟨k, rfl⟩ : ∃ k : Nat, word = (k : Int) := ⟨word.toNat, by omega⟩
          have cw := h.cW (i := k) (by omega)
          have ew : (ofG g hs).W k = g.was k := rfl
          rw [ew] at cw
          have e : chkC g who (k : Int) = if g.was k = true then 0 else 5 := by
            unfold chkC
            rw [if_neg (by omega)]
            rfl
          rw [e]
          have k31 : k < 31 := by omega
          clear h
          cases q : g.was k
          · rw [q] at cw
            rw [if_neg (by decide)]
            go_enter Tryd.func41, Tryd.ntmps41
            go_wp2
            go_ret
            exact ⟨rfl, rfl⟩
          · rw [q] at cw
            rw [if_pos rfl]
            go_enter Tryd.func41, Tryd.ntmps41
            go_wp2
            go_ret
            exact ⟨rfl, rfl⟩
def sv (s : St) (k : Nat) : Value := if k = 0 then .int .i64 (s.1 : Int) else .int .i64 (s.2 : Int)
theorem box2 (w : World) (a b : Nat) : (w.alloc (.cells #[.int .i64 (a : Int), .int .i64 (b : Int)] 56)).rowIs w.heap.size 56 2 (sv (a, b)) := World.rowIs_alloc w #[.int .i64 (a : Int), .int .i64 (b : Int)] 56 _ fun i hi => by
  have hi : i < 2 := hi
  rcases i with _ | _ | i <;> first | rfl | omega
theorem box_c0 {w : World} {B : Nat} {s : St} (h : w.rowIs B 56 2 (sv s)) : w.cell? ⟨B, 0, none⟩ = some (.int .i64 (s.1 : Int)) ∧ w.frozen? ⟨B, 0, none⟩ = false := ⟨World.rowIs.cell h (i := 0) (by omega), World.rowIs.frozen h 0⟩
theorem box_c1 {w : World} {B : Nat} {s : St} (h : w.rowIs B 56 2 (sv s)) : w.cell? ⟨B, 1, none⟩ = some (.int .i64 (s.2 : Int)) ∧ w.frozen? ⟨B, 1, none⟩ = false := ⟨World.rowIs.cell h (i := 1) (by omega), World.rowIs.frozen h 1⟩
theorem box_set {w : World} {B : Nat} {s : St} (h : w.rowIs B 56 2 (sv s)) (a b : Nat) : ((w.setCell ⟨B, 0, none⟩ (.int .i64 (a : Int))).setCell ⟨B, 1, none⟩ (.int .i64 (b : Int))).rowIs B 56 2 (sv (a, b)) := by
  refine (World.rowIs.set (World.rowIs.set h 0 _) 1 _).congr fun k hk => ?_
  have : k = 0 ∨ k = 1 := by omega
  rcases this with rfl | rfl <;> rfl
theorem below_same {X w w' : World} (h : Below X.heap.size X w') (e : X.heap = w.heap) (e1 : X.os = w.os) (e2 : X.tape = w.tape) (e3 : X.output = w.output) : Below w.heap.size w w' := ⟨by rw [← e1]; exact h.os, by rw [← e2]; exact h.tape, by rw [← e3]; exact h.output, by rw [← e]; exact h.size, fun k hk => by rw [← e]; exact h.block k (by rw [e]; exact hk)⟩
theorem ret2 {fn : Func} {tmps : Array Value} {w : World} {p u : Tmp} {B : Nat} {v0 v1 x : Value} (h : fn.results = #[.cell p 56, .tmp u]) (hp : tmps.getD p undef = .pointer (some ⟨B, 0, none⟩)) (hu : tmps.getD u undef = x)
    (y0 : w.cell? ⟨B, 0, none⟩ = some v0) (y1 : w.cell? ⟨B, 1, none⟩ = some v1) : (results fn tmps).run Tryd.prog w = .ok (.tuple #[.agg #[v0, v1], x]) w := by
  rw [results_cell_tmp h, hp, hu]
  simp [asAddr, go_sem, y0, y1]
theorem set2 {B : Nat} {a w : World} (h : Below B a w) {b : Nat} (hb : B ≤ b) (v0 v1 : Value) : Below B a ((w.setCell ⟨b, 0, none⟩ v0).setCell ⟨b, 1, none⟩ v1) := (h.setCell (p := ⟨b, 0, none⟩) hb _).setCell (p := ⟨b, 1, none⟩) hb _
set_option maxRecDepth 100000 in
set_option maxHeartbeats 1000000 in
theorem refFinal (P : Nat) (g : G) (hs : Nat → Value) (k : Nat) (w : World) (h : Rb w P (ofG g hs)) (hn : g.n ≤ 5) (hk : k < 31) : Calls Tryd.prog 42 #[.pointer (some ⟨P, 0, none⟩), .int .i64 (k : Int)] w fun x w' => (∃ s : St, x = .returned (.tuple #[.agg #[.int .i64 (s.1 : Int), .int .i64 (s.2 : Int)], .bool (allG g k)]) ∧ (allG g k = true → s = fin g k)) ∧ Below w.heap.size w w' := by
  have HR : Hid (Rb w P (ofG g hs)) := h
  have hP := h.lt
  obtain ⟨n, en⟩ : ∃ n, n = g.n := ⟨_, rfl⟩
  have EN : Hid (n = g.n) := en
  rw [← en] at hn
  clear h en
  have R0 : Hid (((w.alloc (.cells #[.int .i64 0, .int .i64 0] 56)).alloc (.cells #[.int .i64 0, .int .i64 0] 56)).rowIs w.heap.size 56 2 (sv (0, 0)) ∧ ((w.alloc (.cells #[.int .i64 0, .int .i64 0] 56)).alloc (.cells #[.int .i64 0, .int .i64 0] 56)).rowIs (w.heap.size + 1) 56 2 (sv (finN g k 0)) ∧ Below w.heap.size w ((w.alloc (.cells #[.int .i64 0, .int .i64 0] 56)).alloc (.cells #[.int .i64 0, .int .i64 0] 56))) := by
    refine ⟨World.rowIs.of_block (box2 w 0 0) (Below.heap_alloc _ _ _ (by simp)), ?_, ((Below.refl _ _).alloc (Nat.le_refl _) _).alloc (by simp) _⟩
    have q := box2 (w.alloc (.cells #[.int .i64 0, .int .i64 0] 56)) 0 0
    have e : (w.alloc (.cells #[.int .i64 0, .int .i64 0] 56)).heap.size = w.heap.size + 1 := by simp
    rw [e] at q
    exact q
  go_enter Tryd.func42, Tryd.ntmps42
  go_wp2
  go_loopw [7] (fun x wr => ∃ i : Nat, i ≤ n ∧ x = .int .i64 (i : Int) ∧ Hid (wr.rowIs w.heap.size 56 2 (sv (0, 0)) ∧ wr.rowIs (w.heap.size + 1) 56 2 (sv (finN g k i)) ∧ Below w.heap.size w wr ∧ ∀ j, j < i → g.gv k j ≠ 0)) (fun x _ => n - (intOf x).toNat)
  case atStart => exact ⟨0, by omega, rfl, R0.out.1, R0.out.2.1, R0.out.2.2, fun j hj => absurd hj (by omega)⟩
  case round =>
    obtain ⟨i, hin, rfl, hQ⟩ := hrel
    have h1 := HR.out.of_block (hQ.out.2.2.1.block P hP)
    have cn := h1.cn
    have en : (ofG g hs).n = (n : Int) := by rw [EN.out]; rfl
    rw [en] at cn
    obtain ⟨s0, t0⟩ := box_c0 hQ.out.2.1
    obtain ⟨s1, t1⟩ := box_c1 hQ.out.2.1
    obtain ⟨r0, q0⟩ := box_c0 hQ.out.1
    obtain ⟨r1, q1⟩ := box_c1 hQ.out.1
    obtain ⟨s, es⟩ : ∃ s, s = finN g k i := ⟨_, rfl⟩
    rw [← es] at s0 s1
    obtain ⟨f0, f1⟩ := s
    simp only at s0 s1
    by_cases hlt : i < n
    · have hi0 : (0 : Int) ≤ (i : Int) := by omega
      have hi5 : i < 5 := by omega
      have hi5' : (i : Int) < 5 := by omega
      have hk0 : (0 : Int) ≤ (k : Int) := by omega
      have hk31 : (k : Int) < 31 := by omega
      have cH := h1.cH (i := k) (j := i) hk hi5
      have cA := h1.cA (i := k) (j := i) hk hi5
      have cB := h1.cB (i := k) (j := i) hk hi5
      have eH : (ofG g hs).H k i = decide (g.gv k i ≠ 0) := rfl
      have eA : (ofG g hs).A k i = (g.gv k i : Int) := rfl
      have eB : (ofG g hs).B k i = if g.gv k i = 0 then 0 else (i : Int) := rfl
      rw [eH] at cH
      rw [eA] at cA
      rw [eB] at cB
      obtain ⟨x, ex⟩ : ∃ x, x = g.gv k i := ⟨_, rfl⟩
      rw [← ex] at cH cA cB
      by_cases hx : x = 0
      · have d : decide (x ≠ 0) = false := by simp [hx]
        rw [d] at cH
        have HX : Hid (g.gv k i = 0) := by rw [← ex]; exact hx
        clear ex hx cA cB eH eA eB d h1
        go_wp2
        have y := box_set hQ.out.1 f0 f1
        refine bodyPost_ret (v := .tuple #[.agg #[.int .i64 (f0 : Int), .int .i64 (f1 : Int)], .bool false]) (ret2 (B := w.heap.size) rfl rfl rfl (box_c0 y).1 (box_c1 y).1) rfl ?_
        have e : allG g k = false := by
          rw [Bool.eq_false_iff]
          intro q
          exact allG_iff.1 q i (by rw [← EN.out]; exact hlt) HX.out
        rw [e]
        exact ⟨⟨f0, f1, rfl, fun q => by cases q⟩, set2 hQ.out.2.2.1 (Nat.le_refl _) _ _⟩
      · have d : decide (x ≠ 0) = true := by simp [hx]
        rw [d] at cH
        rw [if_neg hx] at cB
        have HX : Hid (g.gv k i ≠ 0 ∧ x = g.gv k i) := ⟨by rw [← ex]; exact hx, ex⟩
        have HS : Hid (∀ X : World, (∀ b, b < wr.heap.size → X.heap[b]? = wr.heap[b]?) → X.cell? ⟨w.heap.size + 1, 0, none⟩ = some (.int .i64 (f0 : Int)) ∧ X.cell? ⟨w.heap.size + 1, 1, none⟩ = some (.int .i64 (f1 : Int)) ∧ X.cell? ⟨P, 32 + k * 10 + i * 2, none⟩ = some (.int .i64 (x : Int)) ∧ X.cell? ⟨P, 32 + k * 10 + i * 2 + 1, none⟩ = some (.int .i64 (i : Int))) := by
          intro X hX
          have hw1 := hX (w.heap.size + 1) (World.rowIs.lt hQ.out.2.1)
          have hp1 := hX P h1.lt
          exact ⟨(World.cell?_of_block (a := ⟨w.heap.size + 1, 0, none⟩) hw1).trans s0, (World.cell?_of_block (a := ⟨w.heap.size + 1, 1, none⟩) hw1).trans s1, (World.cell?_of_block (a := ⟨P, 32 + k * 10 + i * 2, none⟩) hp1).trans cA, (World.cell?_of_block (a := ⟨P, 32 + k * 10 + i * 2 + 1, none⟩) hp1).trans cB⟩
        have ES : Hid ((f0, f1) = finN g k i) := es
        clear ex hx cA cB eH eA eB d h1 es
        go_wp2_with fail
        go_region_held3 (fun X => X.cell? ⟨w.heap.size + 1, 0, none⟩ = some (.int .i64 (f0 : Int)) ∧ X.cell? ⟨w.heap.size + 1, 1, none⟩ = some (.int .i64 (f1 : Int)) ∧ X.cell? ⟨P, 32 + k * 10 + i * 2, none⟩ = some (.int .i64 (x : Int)) ∧ X.cell? ⟨P, 32 + k * 10 + i * 2 + 1, none⟩ = some (.int .i64 (i : Int))) (first | exact HS.out _ (fun _ _ => rfl) | exact HS.out _ K2.out) (first
          | (go_at_call 44; refine (refLess (f0, f1) (x, i) _).mono ?_; rintro e2 w2 ⟨rfl, hb⟩; have B2 : Hid (Below wr.heap.size wr w2) := below_same hb rfl rfl rfl rfl; have K2 : Hid (∀ b, b < wr.heap.size → w2.heap[b]? = wr.heap[b]?) := fun b hb' => B2.out.block b hb'; clear hb))
        have Q2 : Hid (w2.rowIs w.heap.size 56 2 (sv (0, 0)) ∧ w2.rowIs (w.heap.size + 1) 56 2 (sv (f0, f1)) ∧ Below w.heap.size w w2 ∧ Rb w2 P (ofG g hs)) := by
          refine ⟨World.rowIs.of_block hQ.out.1 (K2.out _ (World.rowIs.lt hQ.out.1)), ?_, hQ.out.2.2.1.trans (B2.out.mono hQ.out.2.2.1.size), HR.out.of_block ?_⟩
          · rw [ES.out]
            exact World.rowIs.of_block hQ.out.2.1 (K2.out _ (World.rowIs.lt hQ.out.2.1))
          · exact (K2.out P (Nat.lt_of_lt_of_le hP hQ.out.2.2.1.size)).trans (hQ.out.2.2.1.block P hP)
        have HG : Hid (∀ j, j < i + 1 → g.gv k j ≠ 0) := fun j hj => if e : j < i then hQ.out.2.2.2 j e else by rw [show j = i by omega]; exact HX.out.1
        have EF : Hid (finN g k (i + 1) = if les (f0, f1) (x, i) = true then (x, i) else (f0, f1)) := by
          show (if les (finN g k i) (g.gv k i, i) = true then (g.gv k i, i) else finN g k i) = _
          rw [← ES.out, ← HX.out.2]
        clear s0 t0 s1 t1 r0 q0 r1 q1 cn cH en
        cases hle : les (f0, f1) (x, i)
        · have EL : Hid (les (f0, f1) (x, i) = false) := hle
          clear hle
          go_wp2
          go_roundw
          case rel =>
            refine ⟨i + 1, by omega, by go_num, Q2.out.1, ?_, Q2.out.2.2.1, HG.out⟩
            rw [EF.out, EL.out]
            exact Q2.out.2.1
          case measure => simp [intOf]; omega
        · have EL : Hid (les (f0, f1) (x, i) = true) := hle
          have z := HS.out w2 K2.out
          have cA := z.2.2.1
          have cB := z.2.2.2
          obtain ⟨s0, t0⟩ := box_c0 Q2.out.2.1
          obtain ⟨s1, t1⟩ := box_c1 Q2.out.2.1
          clear hle z
          go_wp2
          go_roundw
          case rel =>
            have y := box_set Q2.out.2.1 x i
            have hne : w.heap.size ≠ w.heap.size + 1 := by omega
            refine ⟨i + 1, by omega, by go_num, World.rowIs.of_block Q2.out.1 ((Deep.blk_setCell_other _ _ _ _ hne).trans (Deep.blk_setCell_other _ _ _ _ hne)), ?_, set2 Q2.out.2.2.1 (Nat.le_succ _) _ _, HG.out⟩
            rw [EF.out, EL.out]
            exact y
          case measure => simp [intOf]; omega
    · have hi : i = n := by omega
      subst hi
      have ES : Hid ((f0, f1) = finN g k i) := es
      clear es
      go_wp2
      have y := box_set hQ.out.1 f0 f1
      refine bodyPost_ret (v := .tuple #[.agg #[.int .i64 (f0 : Int), .int .i64 (f1 : Int)], .bool true]) (ret2 (B := w.heap.size) rfl rfl rfl (box_c0 y).1 (box_c1 y).1) rfl ?_
      have e : allG g k = true := allG_iff.2 fun j hj => hQ.out.2.2.2 j (by rw [EN.out]; exact hj)
      rw [e]
      exact ⟨⟨f0, f1, rfl, fun _ => by rw [ES.out, EN.out]; rfl⟩, set2 hQ.out.2.2.1 (Nat.le_refl _) _ _⟩
end Go.Proofs.YtcolcjnmdejfeafDoor.Agr
