/-
  Contract of the document's own Take of a fifo.
-/
import Derived.Test.YtgcdbcljneoifacDoorFifA
import Derived.Deep.QuietTactic
import Derived.BigQuiet
import Derived.Deep.RegionHeld3
import Derived.Handy
namespace Go.Proofs.YtgcdbcljneoifacDoor.Fif
open Go.RowKit
open Go.Proofs.YtgcdbcljneoifacDoor.Vec (Vw)
set_option linter.unusedVariables false

def rsv (H : List Int) (v : Value) (j : Nat) : Value := if j = 5 then v else .int .i64 (H.getD j 0)
/-- the document's own fifo in memory -/
def RS (w : World) (base P : Nat) (H : List Int) (ws : List Cm) (v : Value) : Prop := w.rowIs P 38 6 (rsv H v) ∧ Co w base v ws ∧ H.length = 5 ∧ base ≤ P
theorem RS.num {w : World} {base P : Nat} {H : List Int} {ws : List Cm} {v : Value} (g : RS w base P H ws v) {m : Nat} (hm : m < 5) : w.cell? ⟨P, m, none⟩ = some (.int .i64 (H.getD m 0)) ∧ w.frozen? ⟨P, m, none⟩ = false := by
  have := World.rowIs.cell g.1 (i := m) (by omega)
  rw [rsv, if_neg (by omega)] at this
  exact ⟨this, World.rowIs.frozen g.1 m⟩
theorem RS.wait {w : World} {base P : Nat} {H : List Int} {ws : List Cm} {v : Value} (g : RS w base P H ws v) : w.cell? ⟨P, 5, none⟩ = some v ∧ w.frozen? ⟨P, 5, none⟩ = false := ⟨World.rowIs.cell g.1 (i := 5) (by omega), World.rowIs.frozen g.1 5⟩
theorem own_apart {w : World} {base P : Nat} {f : Nat → Value} (r : w.rowIs P 38 6 f) {t : TypeId} (ht : t ≠ 38) {s : Nat} {v : Value} {n : Nat} {xs : List Value} (o : w.ownsRow base t s v n xs) : v.ownBlock ≠ some P := by
  intro e
  rcases o.2 with ⟨h2, _⟩ | ⟨g', cap', cur, hv, hbg, hh, _⟩
  · rw [h2] at e; cases e
  · rw [hv] at e
    have : g' = P := by simpa [Value.ownBlock] using e
    subst this
    obtain ⟨c, hc, _⟩ := r
    rw [hc] at hh
    injection hh with hh
    injection hh with _ hh _
    exact ht hh.symm
def scan (who n : Int) (ws : List Cm) (i : Nat) : Prop := ∀ j, j < i → key who n (cm ws j) = false
theorem scan_end {who n : Int} {ws : List Cm} (h : scan who n ws ws.length) : fnd ws who n = none := by
  rw [fnd_none]
  intro c hc
  obtain ⟨j, hj, rfl⟩ := List.getElem_of_mem hc
  have := h j hj
  rwa [cm_get hj] at this
theorem scan_step {who n : Int} {ws : List Cm} {i : Nat} (h : scan who n ws i) (hk : key who n (cm ws i) = false) : scan who n ws (i + 1) := by
  intro j hj
  rcases Nat.lt_or_ge j i with a | a
  · exact h j a
  · rw [show j = i by omega]; exact hk
/-- a place of one that waits -/
def C3 (w : World) (g i : Nat) (c : Cm) : Prop := w.cell? ⟨g, i * 3, none⟩ = some (.int .i64 c.1) ∧ w.cell? ⟨g, i * 3 + 1, none⟩ = some (.int .i64 c.2.1) ∧ w.cell? ⟨g, i * 3 + 2, none⟩ = some (.int .i64 c.2.2)
theorem c3_of {w : World} {g : Nat} {ws : List Cm} (h : ∀ j u, (flat ws)[j]? = some u → w.cell? ⟨g, j, none⟩ = some u) {i : Nat} (hi : i < ws.length) : C3 w g i (cm ws i) := by
  obtain ⟨a, b, c⟩ := flat_get ws i hi
  exact ⟨h _ _ a, h _ _ b, h _ _ c⟩

set_option maxRecDepth 100000 in
theorem refTake_old (base P m : Nat) (H : List Int) (ws : List Cm) (v : Value) (n word : Int) (w : World) (hm : m < 5) (hs : RS w base P H ws v) (hl : ws.length ≤ 41) (hH : 0 ≤ H.getD m 0 ∧ H.getD m 0 ≤ 1000000) (hb : bad (m : Int) n word = false) (ho : n ≤ H.getD m 0) :
    Calls Tryd.prog 10 #[.pointer (some ⟨P, 0, none⟩), .int .i64 (m : Int), .int .i64 n, .int .i64 word] w fun x w' => x = .returned (.tuple #[.slice none 0 0, .int .i64 7]) ∧ w' = w := by
  have hm0 : (0 : Int) ≤ (m : Int) := by omega
  have hm5 : (m : Int) < 5 := by omega
  have hm4 : (m : Int) ≤ 4 := by omega
  have hbb : 1 ≤ n ∧ n ≤ 1000000 ∧ 1 ≤ word ∧ word ≤ 30 := by
    simp [bad] at hb
    omega
  obtain ⟨hn1, hn2, hw1, hw2⟩ := hbb
  have RS0 : Hid (RS w base P H ws v) := hs
  obtain ⟨c0, z0⟩ := hs.num hm
  obtain ⟨c5, z5⟩ := hs.wait
  obtain ⟨y, ey⟩ : ∃ y, y = H.getD m 0 := ⟨_, rfl⟩
  rw [← ey] at c0 hH
  have EY : Hid (y = H.getD m 0) := ey
  clear ey hb
  rw [← EY.out] at ho
  clear hs
  go_enter Tryd.func10, Tryd.ntmps10
  go_wp2
  go_ret2
  exact ⟨rfl, rfl⟩
set_option maxRecDepth 100000 in
set_option maxHeartbeats 4000000 in
theorem refTake_clash (base P m : Nat) (H : List Int) (ws : List Cm) (v : Value) (n word : Int) (w : World) (hm : m < 5) (hs : RS w base P H ws v) (hl : ws.length ≤ 41) (hH : 0 ≤ H.getD m 0 ∧ H.getD m 0 ≤ 1000000) (hb : bad (m : Int) n word = false) (ho : H.getD m 0 < n) (hf : (fnd ws (m : Int) n).isSome = true) :
    Calls Tryd.prog 10 #[.pointer (some ⟨P, 0, none⟩), .int .i64 (m : Int), .int .i64 n, .int .i64 word] w fun x w' => x = .returned (.tuple #[.slice none 0 0, .int .i64 7]) ∧ w' = w := by
  have hm0 : (0 : Int) ≤ (m : Int) := by omega
  have hm5 : (m : Int) < 5 := by omega
  have hm4 : (m : Int) ≤ 4 := by omega
  have hbb : 1 ≤ n ∧ n ≤ 1000000 ∧ 1 ≤ word ∧ word ≤ 30 := by
    simp [bad] at hb
    omega
  obtain ⟨hn1, hn2, hw1, hw2⟩ := hbb
  have RS0 : Hid (RS w base P H ws v) := hs
  obtain ⟨c0, z0⟩ := hs.num hm
  obtain ⟨c5, z5⟩ := hs.wait
  obtain ⟨y, ey⟩ : ∃ y, y = H.getD m 0 := ⟨_, rfl⟩
  rw [← ey] at c0 hH
  have EY : Hid (y = H.getD m 0) := ey
  clear ey hb
  rw [← EY.out] at ho
  obtain ⟨q, cap, rfl, hlc, hcm, hform⟩ := hs.2.1.form
  obtain ⟨len, el⟩ : ∃ len, len = ws.length := ⟨_, rfl⟩
  rw [← el] at c5 hlc hform hl
  have EL : Hid (ws.length = len) := el.symm
  have FM : Hid (0 < len → ∃ g, q = some ⟨g, 0, none⟩ ∧ base ≤ g ∧ g < w.heap.size ∧ ∀ j u, (flat ws)[j]? = some u → w.cell? ⟨g, j, none⟩ = some u) := hform
  have CM : Hid (cap ≤ maxLen) := hcm
  clear hform el hcm
  have HF : Hid ((fnd ws (m : Int) n).isSome = true) := hf
  clear hs hf
  go_enter Tryd.func10, Tryd.ntmps10
  go_wp2
  go_loopw [10] (fun x wr => ∃ i : Nat, i ≤ len ∧ x = .int .i64 (i : Int) ∧ wr = w ∧ Hid (scan (m : Int) n ws i)) (fun x _ => len - (intOf x).toNat)
  case atStart => exact ⟨0, by omega, rfl, rfl, fun j hj => absurd hj (by omega)⟩
  case round =>
    obtain ⟨i, hi, rfl, ew, hsc⟩ := hrel
    have ew := ew.symm
    subst ew
    by_cases hlt : i < len
    · obtain ⟨g, rfl, -, -, hcs⟩ := FM.out (by omega)
      obtain ⟨x0, x1, x2⟩ := c3_of hcs (show i < ws.length by rw [EL.out]; exact hlt)
      obtain ⟨s, es⟩ : ∃ s, s = cm ws i := ⟨_, rfl⟩
      rw [← es] at x0 x1 x2
      obtain ⟨s0, s1, s2⟩ := s
      have ES : Hid ((s0, s1, s2) = cm ws i) := es
      have hi0 : (0 : Int) ≤ (i : Int) := by omega
      have hil : (i : Int) < (len : Int) := by omega
      clear hcs es
      by_cases g1 : s0 = (m : Int)
      · have g1' : (s0 == (m : Int)) = true := by simp [g1]
        by_cases g2 : s1 = n
        · have g2' : (s1 == n) = true := by simp [g2]
          go_wp2
          go_ret2
          exact ⟨rfl, rfl⟩
        · have g2' : (s1 == n) = false := by simp [g2]
          have KN : Hid (key (m : Int) n (cm ws i) = false) := by show _ = _; rw [← ES.out]; simp [key, g2]
          go_wp2
          go_roundw
          case rel => exact ⟨i + 1, by omega, by go_num, by first | rfl | trivial, scan_step hsc.out KN.out⟩
          case measure => simp [intOf]; omega
      · have g1' : (s0 == (m : Int)) = false := by simp [g1]
        have KN : Hid (key (m : Int) n (cm ws i) = false) := by show _ = _; rw [← ES.out]; simp [key, g1]
        go_wp2
        go_roundw
        case rel => exact ⟨i + 1, by omega, by go_num, by first | rfl | trivial, scan_step hsc.out KN.out⟩
        case measure => simp [intOf]; omega
    · have hil : len = i := by omega
      subst hil
      exfalso
      have := scan_end (by rw [EL.out]; exact hsc.out)
      have q := HF.out
      rw [this] at q
      exact absurd q (by decide)
set_option maxRecDepth 100000 in
set_option maxHeartbeats 4000000 in
theorem refTake_full (base P m : Nat) (H : List Int) (ws : List Cm) (v : Value) (n word : Int) (w : World) (hm : m < 5) (hs : RS w base P H ws v) (hl : ws.length ≤ 41) (hH : 0 ≤ H.getD m 0 ∧ H.getD m 0 ≤ 1000000) (hb : bad (m : Int) n word = false) (ho : H.getD m 0 + 1 < n) (hf : fnd ws (m : Int) n = none) (h40 : 40 ≤ ws.length) :
    Calls Tryd.prog 10 #[.pointer (some ⟨P, 0, none⟩), .int .i64 (m : Int), .int .i64 n, .int .i64 word] w fun x w' => x = .returned (.tuple #[.slice none 0 0, .int .i64 4]) ∧ w' = w := by
  have hm0 : (0 : Int) ≤ (m : Int) := by omega
  have hm5 : (m : Int) < 5 := by omega
  have hm4 : (m : Int) ≤ 4 := by omega
  have hbb : 1 ≤ n ∧ n ≤ 1000000 ∧ 1 ≤ word ∧ word ≤ 30 := by
    simp [bad] at hb
    omega
  obtain ⟨hn1, hn2, hw1, hw2⟩ := hbb
  have RS0 : Hid (RS w base P H ws v) := hs
  obtain ⟨c0, z0⟩ := hs.num hm
  obtain ⟨c5, z5⟩ := hs.wait
  obtain ⟨y, ey⟩ : ∃ y, y = H.getD m 0 := ⟨_, rfl⟩
  rw [← ey] at c0 hH
  have EY : Hid (y = H.getD m 0) := ey
  clear ey hb
  rw [← EY.out] at ho
  obtain ⟨q, cap, rfl, hlc, hcm, hform⟩ := hs.2.1.form
  obtain ⟨len, el⟩ : ∃ len, len = ws.length := ⟨_, rfl⟩
  rw [← el] at c5 hlc hform hl
  have EL : Hid (ws.length = len) := el.symm
  have FM : Hid (0 < len → ∃ g, q = some ⟨g, 0, none⟩ ∧ base ≤ g ∧ g < w.heap.size ∧ ∀ j u, (flat ws)[j]? = some u → w.cell? ⟨g, j, none⟩ = some u) := hform
  have CM : Hid (cap ≤ maxLen) := hcm
  clear hform el hcm
  have HF : Hid (∀ c ∈ ws, key (m : Int) n c = false) := fnd_none.1 hf
  rw [EL.out] at h40
  have h40' : (40 : Int) ≤ (len : Int) := by omega
  clear hs hf
  go_enter Tryd.func10, Tryd.ntmps10
  go_wp2
  go_loopw [10] (fun x wr => ∃ i : Nat, i ≤ len ∧ x = .int .i64 (i : Int) ∧ wr = w ∧ Hid (scan (m : Int) n ws i)) (fun x _ => len - (intOf x).toNat)
  case atStart => exact ⟨0, by omega, rfl, rfl, fun j hj => absurd hj (by omega)⟩
  case round =>
    obtain ⟨i, hi, rfl, ew, hsc⟩ := hrel
    have ew := ew.symm
    subst ew
    by_cases hlt : i < len
    · obtain ⟨g, rfl, -, -, hcs⟩ := FM.out (by omega)
      obtain ⟨x0, x1, x2⟩ := c3_of hcs (show i < ws.length by rw [EL.out]; exact hlt)
      obtain ⟨s, es⟩ : ∃ s, s = cm ws i := ⟨_, rfl⟩
      rw [← es] at x0 x1 x2
      obtain ⟨s0, s1, s2⟩ := s
      have ES : Hid ((s0, s1, s2) = cm ws i) := es
      have hi0 : (0 : Int) ≤ (i : Int) := by omega
      have hil : (i : Int) < (len : Int) := by omega
      clear hcs es
      by_cases g1 : s0 = (m : Int)
      · have g1' : (s0 == (m : Int)) = true := by simp [g1]
        by_cases g2 : s1 = n
        · have g2' : (s1 == n) = true := by simp [g2]
          exfalso
          have q := HF.out _ (List.getElem_mem (show i < ws.length by rw [EL.out]; exact hlt))
          rw [← cm_get, ← ES.out] at q
          simp [key, g1, g2] at q
        · have g2' : (s1 == n) = false := by simp [g2]
          have KN : Hid (key (m : Int) n (cm ws i) = false) := by show _ = _; rw [← ES.out]; simp [key, g2]
          go_wp2
          go_roundw
          case rel => exact ⟨i + 1, by omega, by go_num, by first | rfl | trivial, scan_step hsc.out KN.out⟩
          case measure => simp [intOf]; omega
      · have g1' : (s0 == (m : Int)) = false := by simp [g1]
        have KN : Hid (key (m : Int) n (cm ws i) = false) := by show _ = _; rw [← ES.out]; simp [key, g1]
        go_wp2
        go_roundw
        case rel => exact ⟨i + 1, by omega, by go_num, by first | rfl | trivial, scan_step hsc.out KN.out⟩
        case measure => simp [intOf]; omega
    · have hil : len = i := by omega
      subst hil
      go_wp2
      go_ret2
      exact ⟨rfl, rfl⟩

theorem RS.setH {w : World} {base P : Nat} {H : List Int} {ws : List Cm} {v : Value} (g : RS w base P H ws v) {m : Nat} (hm : m < 5) (x : Int) : RS (w.setCell ⟨P, m, none⟩ (.int .i64 x)) base P (H.set m x) ws v := by
  refine ⟨(World.rowIs.set g.1 m _).congr fun j hj => ?_, own_block g.2.1 fun k hk => Deep.blk_setCell_other _ _ _ _ (fun e => own_apart g.1 (by decide) g.2.1 (by rw [hk]; exact congrArg some e)), by rw [List.length_set]; exact g.2.2.1, g.2.2.2⟩
  unfold rsv
  by_cases e5 : j = 5
  · subst e5
    rw [if_neg (by omega), if_pos rfl, if_pos rfl]
  · rw [if_neg e5, if_neg e5]
    by_cases e : j = m
    · subst e
      rw [if_pos rfl]
      have := g.2.2.1
      simp [List.getD, show j < H.length by omega]
    · rw [if_neg e]
      simp [List.getD, List.getElem?_set_ne (fun q => e q.symm)]
theorem RS.setV {w : World} {base P : Nat} {H : List Int} {ws' : List Cm} {v v' : Value} (r : w.rowIs P 38 6 (rsv H v)) (hl : H.length = 5) (hP : base ≤ P) (o : Co w base v' ws') : RS (w.setCell ⟨P, 5, none⟩ v') base P H ws' v' := by
  refine ⟨(World.rowIs.set r 5 _).congr fun j hj => ?_, own_block o fun k hk => Deep.blk_setCell_other _ _ _ _ (fun e => own_apart r (by decide) o (by rw [hk]; exact congrArg some e)), hl, hP⟩
  unfold rsv
  by_cases e5 : j = 5
  · rw [if_pos e5, if_pos e5]
  · rw [if_neg e5, if_neg e5, if_neg e5]
/-- as far as it goes: what is heard, how far, what waits -/
def Mid (w : World) (base P m : Nat) (H : List Int) (vb : Option Nat) (fin : List Int × Int × List Cm) (wr : World) (vo : Value) (again : Bool) : Prop :=
  ∃ h ws' out v', RS wr base P (H.set m h) ws' v' ∧ wr.ownsRow w.heap.size 3 1 vo out.length (out.map (Value.int .i64)) ∧ Uq ws' ∧ (0 ≤ h ∧ h ≤ 1000000) ∧ (∀ c ∈ ws', c.2.1 ≤ 1000000) ∧ ws'.length + out.length ≤ 41 ∧ Below base w wr ∧ Kp w wr P vb ∧
    (if again = true then (out ++ (run (m : Int) h ws').1, (run (m : Int) h ws').2) = fin else (out, h, ws') = fin)
def yes : Value → Nat
  | .bool true => 1
  | _ => 0

set_option maxRecDepth 100000 in
set_option maxHeartbeats 8000000 in
theorem refTake_ok (base P m : Nat) (H : List Int) (ws : List Cm) (v : Value) (n word : Int) (w : World) (hm : m < 5) (hs : RS w base P H ws v) (hl : ws.length ≤ 41) (hH : 0 ≤ H.getD m 0 ∧ H.getD m 0 ≤ 1000000) (hb : bad (m : Int) n word = false) (hbw : base ≤ w.heap.size) (hu : Uq ws) (hk : ∀ c ∈ ws, c.2.1 ≤ 1000000) (ho : H.getD m 0 < n) (hf : fnd ws (m : Int) n = none) (h40 : ¬ (H.getD m 0 + 1 < n ∧ 40 ≤ ws.length)) (hl40 : ws.length ≤ 40) :
    Calls Tryd.prog 10 #[.pointer (some ⟨P, 0, none⟩), .int .i64 (m : Int), .int .i64 n, .int .i64 word] w fun x w' => ∃ vo v', x = .returned (.tuple #[vo, .int .i64 0]) ∧
      RS w' base P (H.set m (run (m : Int) (H.getD m 0) (ws ++ [((m : Int), n, word)])).2.1) (run (m : Int) (H.getD m 0) (ws ++ [((m : Int), n, word)])).2.2 v' ∧
      w'.ownsRow w.heap.size 3 1 vo (run (m : Int) (H.getD m 0) (ws ++ [((m : Int), n, word)])).1.length ((run (m : Int) (H.getD m 0) (ws ++ [((m : Int), n, word)])).1.map (Value.int .i64)) ∧ Below base w w' ∧ Kp w w' P v.ownBlock := by
  obtain ⟨fin, efin⟩ : ∃ fin, fin = run (m : Int) (H.getD m 0) (ws ++ [((m : Int), n, word)]) := ⟨_, rfl⟩
  rw [← efin]
  have OV : Hid (Co w base v ws ∧ v.ownBlock ≠ some P ∧ ∀ k, v.ownBlock = some k → base ≤ k ∧ k < w.heap.size) := ⟨hs.2.1, own_apart hs.1 (by decide) hs.2.1, own_lt hs.2.1⟩
  obtain ⟨vb, evb⟩ : ∃ vb, vb = v.ownBlock := ⟨_, rfl⟩
  rw [← evb] at OV ⊢
  have EVB : Hid (v.ownBlock = vb) := evb.symm
  have HSW : Hid (H.length = 5 ∧ base ≤ P ∧ P < w.heap.size) := ⟨hs.2.2.1, hs.2.2.2, World.rowIs.lt hs.1⟩
  have hm0 : (0 : Int) ≤ (m : Int) := by omega
  have hm5 : (m : Int) < 5 := by omega
  have hm4 : (m : Int) ≤ 4 := by omega
  have hbb : 1 ≤ n ∧ n ≤ 1000000 ∧ 1 ≤ word ∧ word ≤ 30 := by
    simp [bad] at hb
    omega
  obtain ⟨hn1, hn2, hw1, hw2⟩ := hbb
  have RS0 : Hid (RS w base P H ws v) := hs
  obtain ⟨c0, z0⟩ := hs.num hm
  obtain ⟨c5, z5⟩ := hs.wait
  obtain ⟨y, ey⟩ : ∃ y, y = H.getD m 0 := ⟨_, rfl⟩
  rw [← ey] at c0 hH
  have EY : Hid (y = H.getD m 0) := ey
  clear ey hb
  rw [← EY.out] at ho h40
  have EF : Hid (fin = run (m : Int) y (ws ++ [((m : Int), n, word)])) := by rw [EY.out]; exact efin
  have U1 : Hid (Uq (ws ++ [((m : Int), n, word)])) := uq_snoc hu word hf
  have K1 : Hid (∀ c ∈ ws ++ [((m : Int), n, word)], c.2.1 ≤ 1000000) := by
    intro c hc
    rcases List.mem_append.1 hc with a | a
    · exact hk c a
    · rw [List.mem_singleton.1 a]; exact hn2
  clear efin evb
  obtain ⟨q, cap, rfl, hlc, hcm, hform⟩ := hs.2.1.form
  obtain ⟨len, el⟩ : ∃ len, len = ws.length := ⟨_, rfl⟩
  rw [← el] at c5 hlc hform hl
  have EL : Hid (ws.length = len) := el.symm
  have FM : Hid (0 < len → ∃ g, q = some ⟨g, 0, none⟩ ∧ base ≤ g ∧ g < w.heap.size ∧ ∀ j u, (flat ws)[j]? = some u → w.cell? ⟨g, j, none⟩ = some u) := hform
  have CM : Hid (cap ≤ maxLen) := hcm
  clear hform el hcm
  have HF : Hid (∀ c ∈ ws, key (m : Int) n c = false) := fnd_none.1 hf
  rw [EL.out] at h40 hl40
  obtain ⟨ie, hi, hz0, hz1, hz2⟩ := info_came
  have HI : Hid (Tryd.prog.info? 66 = some ie ∧ ie.zero = some (.agg #[.int .i64 0, .int .i64 0, .int .i64 0]) ∧ ie.size = 3 ∧ ie.bytes = 24) := ⟨hi, hz0, hz1, hz2⟩
  obtain ⟨ii, hi, hz0, hz1, hz2⟩ := info_int
  have HJ : Hid (Tryd.prog.info? 3 = some ii ∧ ii.zero = some (.int .i64 0) ∧ ii.size = 1 ∧ ii.bytes = 8) := ⟨hi, hz0, hz1, hz2⟩
  have HBW : Hid (base ≤ w.heap.size) := hbw
  clear hs hf hi hz0 hz1 hz2 hu hk hbw
  go_enter Tryd.func10, Tryd.ntmps10
  go_wp2
  go_loopw [10] (fun x wr => ∃ i : Nat, i ≤ len ∧ x = .int .i64 (i : Int) ∧ wr = w ∧ Hid (scan (m : Int) n ws i)) (fun x _ => len - (intOf x).toNat)
  case atStart => exact ⟨0, by omega, rfl, rfl, fun j hj => absurd hj (by omega)⟩
  case round =>
    obtain ⟨i, hi, rfl, ew, hsc⟩ := hrel
    have ew := ew.symm
    subst ew
    by_cases hlt : i < len
    · obtain ⟨g, rfl, -, -, hcs⟩ := FM.out (by omega)
      obtain ⟨x0, x1, x2⟩ := c3_of hcs (show i < ws.length by rw [EL.out]; exact hlt)
      obtain ⟨s, es⟩ : ∃ s, s = cm ws i := ⟨_, rfl⟩
      rw [← es] at x0 x1 x2
      obtain ⟨s0, s1, s2⟩ := s
      have ES : Hid ((s0, s1, s2) = cm ws i) := es
      have hi0 : (0 : Int) ≤ (i : Int) := by omega
      have hil : (i : Int) < (len : Int) := by omega
      clear hcs es
      by_cases g1 : s0 = (m : Int)
      · have g1' : (s0 == (m : Int)) = true := by simp [g1]
        by_cases g2 : s1 = n
        · have g2' : (s1 == n) = true := by simp [g2]
          exfalso
          have q := HF.out _ (List.getElem_mem (show i < ws.length by rw [EL.out]; exact hlt))
          rw [← cm_get, ← ES.out] at q
          simp [key, g1, g2] at q
        · have g2' : (s1 == n) = false := by simp [g2]
          have KN : Hid (key (m : Int) n (cm ws i) = false) := by show _ = _; rw [← ES.out]; simp [key, g2]
          go_wp2
          go_roundw
          case rel => exact ⟨i + 1, by omega, by go_num, by first | rfl | trivial, scan_step hsc.out KN.out⟩
          case measure => simp [intOf]; omega
      · have g1' : (s0 == (m : Int)) = false := by simp [g1]
        have KN : Hid (key (m : Int) n (cm ws i) = false) := by show _ = _; rw [← ES.out]; simp [key, g1]
        go_wp2
        go_roundw
        case rel => exact ⟨i + 1, by omega, by go_num, by first | rfl | trivial, scan_step hsc.out KN.out⟩
        case measure => simp [intOf]; omega
    · have hil : len = i := by omega
      subst hil
      have C0 : Hid (Co w base (.slice q len cap) ws) := by have o := OV.out.1; rw [EL.out] at o; exact o
      rcases Int.lt_or_le (y + 1) n with gf | gf
      · have h40' : (len : Int) < 40 := by omega
        have OB : Hid ((Value.slice q len cap).ownBlock = vb ∧ vb ≠ some P) := ⟨by have e := EVB.out; rw [EL.out] at e; exact e, OV.out.2.1⟩
        have BA : Hid (Below w.heap.size w (w.alloc (.cells #[.int .i64 (m : Int), .int .i64 n, .int .i64 word] 66))) := (Below.refl _ _).alloc (Nat.le_refl _) _
        go_wp2_with (at_builtin; refine wpList_append_own _ rfl _ _ 36 rfl base 66 ie (.agg #[.int .i64 0, .int .i64 0, .int .i64 0]) 3 24 Tryd.underlying36 HI.out.1 HI.out.2.1 HI.out.2.2.1 HI.out.2.2.2 rfl (by decide) (.slice q len cap) len (flat ws) rfl (by have o := C0.out; unfold Co at o; rw [EL.out] at o; exact own_block o (fun k hk => BA.out.block k (own_lt o k hk).2)) ⟨w.heap.size, 0, none⟩ 1 1 (flat [((m : Int), n, word)]) rfl rfl (by exact new_came w _ rfl (m : Int) n word 66) (flat_one _) (by unfold maxLen; omega) (by omega) (by have := HBW.out; simp; omega) ?_; intro v' wn hown hgrow _; obtain ⟨q', cap', rfl⟩ := own_form hown; have HO : Hid (wn.ownsRow base 66 3 (.slice q' (len + 1) cap') (len + 1) (flat ws ++ flat [((m : Int), n, word)])) := hown; have HGr : Hid ((w.alloc (.cells #[.int .i64 (m : Int), .int .i64 n, .int .i64 word] 66)).grownBy wn vb) := (by show World.grownBy _ _ vb; rw [← OB.out.1]; exact hgrow); have e5 : wn.cell? ⟨P, 5, none⟩ = some (.slice q len cap) := (by rw [HGr.out.cell_far ⟨P, 5, none⟩ (by have := HSW.out.2.2; simp; omega) (fun e => OB.out.2 e.symm), BA.out.cell (p := ⟨P, 5, none⟩) HSW.out.2.2]; exact c5); have f5 : wn.frozen? ⟨P, 5, none⟩ = false := (by rw [HGr.out.frozen_far ⟨P, 5, none⟩ (by have := HSW.out.2.2; simp; omega) (fun e => OB.out.2 e.symm), BA.out.frozen (p := ⟨P, 5, none⟩) HSW.out.2.2]; exact z5); clear hown hgrow)
        have M1 : Hid (Mid w base P m H vb fin (wn.setCell ⟨P, 5, none⟩ (.slice q' (len + 1) cap')) (.slice none 0 0) true) := by
          have rP : wn.rowIs P 38 6 (rsv H (.slice q len cap)) := by
            have r0 := RS0.out.1
            rw [EL.out] at r0
            exact row_grown (World.rowIs.alloc r0 _) HGr.out (fun e => OB.out.2 e.symm)
          have o' : Co wn base (.slice q' (len + 1) cap') (ws ++ [((m : Int), n, word)]) := by
            have o := HO.out
            unfold Co
            rw [flat_append, List.length_append, EL.out]
            exact o
          have hrs := RS.setV rP HSW.out.1 HSW.out.2.1 o'
          refine ⟨y, ws ++ [((m : Int), n, word)], [], .slice q' (len + 1) cap', ?_, World.ownsRow_nil _ _ _ _, U1.out, hH, K1.out, by simp [EL.out]; omega, ?_, ?_, ?_⟩
          · have : H.set m y = H := by
              rw [EY.out]
              have hl5 := HSW.out.1
              exact List.ext_getElem (by simp) fun j h1 h2 => by
                by_cases e : m = j
                · subst e
                  simp [List.getD, h2]
                · rw [List.getElem_set_ne e]
            rw [this]
            exact hrs
          · exact ((((Below.refl base w).alloc HBW.out _).grown HGr.out (by have := HBW.out; simp; omega) (fun k hk => (OV.out.2.2 k hk).1)).setCell (p := ⟨_, _, none⟩) HSW.out.2.1 _)
          · exact ((Kp.alloc w _ P vb).trans (Kp.grown HGr.out P) (fun k hk => .inr (.inl hk))).trans (Kp.setCell wn P 5 _ vb) (fun k hk => .inr (.inl hk))
          · rw [if_pos rfl, List.nil_append, EF.out]
        go_wp2
        clear c0 c5 z0 z5 e5 f5 HO HGr BA OB C0
        go_loopw [11, 12] (fun vo va wr => ∃ ag : Bool, va = .bool ag ∧ Hid (Mid w base P m H vb fin wr vo ag)) (fun vo va _ => 2 * (42 - lenOf vo) + yes va)
        case atStart => exact ⟨true, rfl, M1.out⟩
        case round =>
          clear M1
          obtain ⟨ag, rfl, hM⟩ := hrel
          obtain ⟨h, ws', out, v', hR, hO, hU, hh, hK, hL, hB, hKp, hfin⟩ := hM.out
          obtain ⟨qo, co, rfl⟩ := own_form hO
          obtain ⟨q2, cap2, rfl, hlc2, hcm2, hform2⟩ := hR.2.1.form
          cases ag with
          | false =>
            rw [if_neg (by decide)] at hfin
            have FI : Hid ((out, h, ws') = fin ∧ RS wr base P (H.set m h) ws' (.slice q2 ws'.length cap2) ∧ wr.ownsRow w.heap.size 3 1 (.slice qo out.length co) out.length (out.map (Value.int .i64)) ∧ Below base w wr ∧ Kp w wr P vb) := ⟨hfin, hR, hO, hB, hKp⟩
            clear hM hR hO hU hK hB hKp hfin hform2
            go_wp2
            go_ret2
            refine ⟨_, .slice q2 ws'.length cap2, rfl, ?_⟩
            rw [← FI.out.1]
            exact FI.out.2
          | true =>
            rw [if_pos rfl] at hfin
            obtain ⟨l2, el2⟩ : ∃ l, l = ws'.length := ⟨_, rfl⟩
            obtain ⟨lo, elo⟩ : ∃ l, l = out.length := ⟨_, rfl⟩
            obtain ⟨c0, z0⟩ := hR.num hm
            obtain ⟨c5, z5⟩ := hR.wait
            have hHm : (H.set m h).getD m 0 = h := by
              have := HSW.out.1
              simp [List.getD, show m < H.length by omega]
            rw [hHm] at c0
            rw [← el2] at c5 hlc2 hform2 hL
            rw [← elo] at hL
            have EL2 : Hid (ws'.length = l2 ∧ out.length = lo) := ⟨el2.symm, elo.symm⟩
            have FM2 : Hid (0 < l2 → ∃ g, q2 = some ⟨g, 0, none⟩ ∧ base ≤ g ∧ g < wr.heap.size ∧ ∀ j u, (flat ws')[j]? = some u → wr.cell? ⟨g, j, none⟩ = some u) := hform2
            have ST : Hid (RS wr base P (H.set m h) ws' (.slice q2 ws'.length cap2) ∧ wr.ownsRow w.heap.size 3 1 (.slice qo out.length co) out.length (out.map (Value.int .i64)) ∧ Uq ws' ∧ (∀ c ∈ ws', c.2.1 ≤ 1000000) ∧ Below base w wr ∧ Kp w wr P vb ∧ (out ++ (run (m : Int) h ws').1, (run (m : Int) h ws').2) = fin) := ⟨hR, hO, hU, hK, hB, hKp, hfin⟩
            have CM2 : Hid (cap2 ≤ maxLen) := hcm2
            rw [← elo]
            obtain ⟨wo, ewo⟩ : ∃ wo, wo = wr := ⟨_, rfl⟩
            subst ewo
            clear hM hR hO hU hK hB hKp hfin hform2 hHm el2 elo hcm2
            go_wp2
            go_loopw [11, 12, 13] (fun vo va x wi => ∃ i : Nat, x = .int .i64 (i : Int) ∧ ((va = .bool false ∧ vo = .slice qo lo co ∧ i ≤ l2 ∧ (∃ n, wi = wo.drewN n) ∧ Hid (scan (m : Int) (h + 1) ws' i)) ∨ (va = .bool true ∧ i ≤ l2 ∧ Hid (Mid w base P m H vb fin wi vo true) ∧ lenOf vo = lo + 1))) (fun _ va x _ => if yes va = 1 then 0 else l2 + 1 - (intOf x).toNat)
            case atStart => exact ⟨0, rfl, .inl ⟨rfl, rfl, by omega, ⟨0, rfl⟩, fun j hj => absurd hj (by omega)⟩⟩
            case round =>
              obtain ⟨i, rfl, hcase⟩ := hrel
              rcases hcase with ⟨rfl, rfl, hi, ⟨nd, rfl⟩, hsc⟩ | ⟨rfl, hi, hM, hlo⟩
              · by_cases hlt : i < l2
                · obtain ⟨g, rfl, hbg, hgw, hcs⟩ := FM2.out (by omega)
                  obtain ⟨x0, x1, x2⟩ := c3_of hcs (show i < ws'.length by rw [EL2.out.1]; exact hlt)
                  obtain ⟨s, es⟩ : ∃ s, s = cm ws' i := ⟨_, rfl⟩
                  rw [← es] at x0 x1 x2
                  obtain ⟨s0, s1, s2⟩ := s
                  have ES : Hid ((s0, s1, s2) = cm ws' i) := es
                  have GC : Hid (base ≤ g ∧ g < wo.heap.size ∧ ∀ j u, (flat ws')[j]? = some u → wo.cell? ⟨g, j, none⟩ = some u) := ⟨hbg, hgw, hcs⟩
                  have hi0 : (0 : Int) ≤ (i : Int) := by omega
                  have hil : (i : Int) < (l2 : Int) := by omega
                  clear hcs es hbg hgw
                  by_cases g1 : s0 = (m : Int)
                  · have g1' : (s0 == (m : Int)) = true := by simp [g1]
                    by_cases g2 : s1 = h + 1
                    · have g2' : (s1 == h + 1) = true := by simp [g2]
                      have FX : Hid (fnd ws' (m : Int) (h + 1) = some s2) := by
                        have hm' : ((m : Int), h + 1, s2) ∈ ws' := by
                          have e := cm_get (ws := ws') (i := i) (by rw [EL2.out.1]; exact hlt)
                          rw [← ES.out] at e
                          have := List.getElem_mem (l := ws') (n := i) (by rw [EL2.out.1]; exact hlt)
                          rw [← e, g1, g2] at this
                          exact this
                        exact (fnd_some ST.out.2.2.1).2 hm'
                      have AP : Hid ((Value.slice qo lo co).ownBlock ≠ some P ∧ (Value.slice qo lo co).ownBlock ≠ some g ∧ P ≠ g) := by
                        obtain ⟨hR, hO, -⟩ := ST.out
                        rw [EL2.out.2] at hO
                        exact ⟨own_apart hR.1 (by decide) hO, own_two (by decide) hO hR.2.1 rfl, fun e => own_apart hR.1 (by decide) hR.2.1 (by rw [e]; rfl)⟩
                      have PW : Hid (P < wo.heap.size) := World.rowIs.lt ST.out.1.1
                      have SZ : Hid (w.heap.size ≤ wo.heap.size) := ST.out.2.2.2.2.2.1.1
                      have OO : Hid (wo.ownsRow w.heap.size 3 1 (.slice qo lo co) lo (out.map (Value.int .i64))) := by have o := ST.out.2.1; rw [EL2.out.2] at o; exact o
                      go_wp2
                      go_quiet (fail)
                      go_wp2_with (at_builtin; refine wpList_append_own _ rfl _ _ 22 rfl w.heap.size 3 ii (.int .i64 0) 1 8 Tryd.underlying22 HJ.out.1 HJ.out.2.1 HJ.out.2.2.1 HJ.out.2.2.2 rfl (by decide) (.slice qo lo co) lo (out.map (Value.int .i64)) rfl (by exact own_block OO.out (fun k hk => ((Below.refl wo.heap.size wo).alloc (Nat.le_refl _) _).block k (own_lt OO.out k hk).2)) ⟨wo.heap.size, 0, none⟩ 1 1 [.int .i64 s2] rfl rfl (by exact new_int (wo.drewN _) _ rfl s2 3) (int_one _) (by unfold maxLen; omega) (by omega) (by have := SZ.out; simp; omega) ?_; intro v1 w1 hown hgrow _; obtain ⟨q1, k1, rfl⟩ := own_form hown; have HO1 : Hid (w1.ownsRow w.heap.size 3 1 (.slice q1 (lo + 1) k1) (lo + 1) (out.map (Value.int .i64) ++ [.int .i64 s2])) := hown; have HG1 : Hid _ := hgrow; clear hown hgrow)
                      have KP1 : Hid (wo.heap.size ≤ w1.heap.size ∧ ∀ b, b < wo.heap.size → some b ≠ (Value.slice qo lo co).ownBlock → w1.heap[b]? = wo.heap[b]?) := by
                        refine ⟨by have := HG1.out.size; simp at this; omega, fun b hb hne => ?_⟩
                        exact (HG1.out.block b (by simp; omega) hne).trans (((Below.refl wo.heap.size wo).alloc (Nat.le_refl _) _).block b hb)
                      have hp1 := KP1.out.2 P PW.out (fun e => AP.out.1 e.symm)
                      have hg1 := KP1.out.2 g GC.out.2.1 (fun e => AP.out.2.1 e.symm)
                      have d0 : w1.cell? ⟨P, m, none⟩ = some (.int .i64 h) := (World.cell?_of_block (a := ⟨P, m, none⟩) hp1).trans c0
                      have e0 : w1.frozen? ⟨P, m, none⟩ = false := (World.frozen?_of_block (a := ⟨P, m, none⟩) hp1).trans z0
                      have d5 : w1.cell? ⟨P, 5, none⟩ = some (.slice (some ⟨g, 0, none⟩) l2 cap2) := (World.cell?_of_block (a := ⟨P, 5, none⟩) hp1).trans c5
                      have e5 : w1.frozen? ⟨P, 5, none⟩ = false := (World.frozen?_of_block (a := ⟨P, 5, none⟩) hp1).trans z5
                      have HB1 : Hid (w1.heap[P]? = wo.heap[P]? ∧ w1.heap[g]? = wo.heap[g]?) := ⟨hp1, hg1⟩
                      clear c0 z0 c5 z5 x0 x1 x2 hp1 hg1
                      have RS1 : RS w1 base P (H.set m h) ws' (.slice (some ⟨g, 0, none⟩) l2 cap2) := by
                        have hR := ST.out.1
                        rw [EL2.out.1] at hR
                        exact ⟨hR.1.of_block HB1.out.1, own_block hR.2.1 (fun k hk => by have e : g = k := (by simpa [Value.ownBlock] using hk); subst e; exact HB1.out.2), hR.2.2⟩
                      obtain ⟨W2, eW2⟩ : ∃ W, W = (w1.setCell ⟨P, m, none⟩ (.int .i64 (h + 1))).drew := ⟨_, rfl⟩
                      have RS2 : Hid (RS W2 base P (H.set m (h + 1)) ws' (.slice (some ⟨g, 0, none⟩) l2 cap2)) := by
                        have r := RS1.setH hm (h + 1)
                        rw [List.set_set] at r
                        rw [eW2]
                        exact r
                      have BW2 : Hid (Below base w W2) := by
                        have hb0 := ST.out.2.2.2.2.1
                        have hbs := ST.out.1.2.2.2
                        rw [eW2]
                        exact (((((below_drewN hb0 _).alloc (Nat.le_trans HBW.out hb0.size) _).grown HG1.out (by have := HBW.out; have := hb0.size; simp; omega) (fun k hk => Nat.le_trans HBW.out (own_lt OO.out k hk).1)).setCell (p := ⟨_, _, none⟩) hbs _)).drew
                      have KW2 : Hid (Kp w W2 P vb ∧ wo.heap.size ≤ W2.heap.size) := by
                        have k0 := ST.out.2.2.2.2.2.1
                        have k1 : Kp wo w1 P (Value.slice qo lo co).ownBlock := ⟨KP1.out.1, fun b hb _ hne => KP1.out.2 b hb hne⟩
                        have k2 := k0.trans k1 (fun k hk => .inl (own_lt OO.out k hk).1)
                        rw [eW2]
                        exact ⟨k2.trans (Kp.setCell w1 P m (.int .i64 (h + 1)) vb) (fun k hk => .inr (.inl hk)), by have := KP1.out.1; simp [World.setCell]; omega⟩
                      have OO2 : Hid (W2.ownsRow w.heap.size 3 1 (.slice q1 (lo + 1) k1) (lo + 1) (out.map (Value.int .i64) ++ [.int .i64 s2])) := by
                        rw [eW2]
                        exact own_block HO1.out (fun k hk => Deep.blk_setCell_other _ _ _ _ (fun e => own_apart RS1.1 (by decide) HO1.out (by rw [hk]; exact congrArg some e)))
                      go_region
                      rw [← eW2]
                      obtain ⟨c5, z5⟩ := RS2.out.wait
                      have G2 : Hid (∀ j u, (flat ws')[j]? = some u → W2.cell? ⟨g, j, none⟩ = some u) := by
                        obtain ⟨_, _, e, _, _, hf⟩ := RS2.out.2.1.form
                        cases e
                        obtain ⟨_, e2, _, _, hc⟩ := hf (by have := EL2.out.1; omega)
                        cases e2
                        exact hc
                      have PG : Hid (P < W2.heap.size ∧ g < W2.heap.size) := ⟨Nat.lt_of_lt_of_le PW.out KW2.out.2, Nat.lt_of_lt_of_le GC.out.2.1 KW2.out.2⟩
                      have hic : (i : Int) ≤ (cap2 : Int) := by omega
                      have hic' : (i : Int) + 1 ≤ (l2 : Int) := by omega
                      have hic2 : (i : Int) + 1 ≤ (cap2 : Int) := by omega
                      clear RS1 eW2 d0 e0 d5 e5 HO1 HG1 KP1 HB1
                      have SP : Hid (ws' = ws'.take i ++ ((m : Int), h + 1, s2) :: ws'.drop (i + 1)) := by
                        have hil2 : i < ws'.length := by rw [EL2.out.1]; exact hlt
                        have e : ((m : Int), h + 1, s2) = ws'[i] := by rw [← cm_get hil2, ← ES.out, g1, g2]
                        show _ = _
                        rw [e, List.getElem_cons_drop, List.take_append_drop]
                      have RMV : Hid (rm ws' (m : Int) (h + 1) = ws'.take i ++ ws'.drop (i + 1)) := by
                        have u := ST.out.2.2.1
                        rw [SP.out] at u
                        have := rm_split u
                        show _ = _
                        conv => lhs; rw [SP.out]
                        exact this
                      have BS : Hid (base ≤ W2.heap.size ∧ w.heap.size ≤ W2.heap.size) := ⟨Nat.le_trans HBW.out KW2.out.1.1, KW2.out.1.1⟩
                      by_cases hcp : cap2 = i + 1
                      · subst hcp
                        go_wp2_with (first | (at_builtin; refine wpList_append_own _ rfl _ _ 36 rfl W2.heap.size 66 ie (.agg #[.int .i64 0, .int .i64 0, .int .i64 0]) 3 24 Tryd.underlying36 HI.out.1 HI.out.2.1 HI.out.2.2.1 HI.out.2.2.2 rfl (by decide) (.slice none 0 0) 0 [] rfl (World.ownsRow_nil _ _ _ _) ⟨g, 0, none⟩ i (i + 1) (flat (ws'.take i)) rfl (by rw [flat_len, List.length_take]; have := EL2.out.1; omega) (fun j u hu => by rw [Addr.add_lit, Nat.zero_add]; rw [flat_take] at hu; exact G2.out j u ((List.getElem?_take_of_lt (by have := (List.getElem?_eq_some_iff.1 hu).1; rw [List.length_take] at this; omega)).symm.trans hu)) (flat_one _) (by unfold maxLen; omega) (by omega) (Nat.le_refl _) ?_; intro v3 w3 hown hgrow _; rw [Nat.zero_add, List.nil_append] at hown; obtain ⟨q4, k4, rfl⟩ := own_form hown; have HO3 : Hid (w3.ownsRow W2.heap.size 66 3 (.slice q4 i k4) i (flat (ws'.take i))) := hown; have HG3 : Hid (W2.grownBy w3 none) := hgrow; have d5 : w3.cell? ⟨P, 5, none⟩ = some (.slice (some ⟨g, 0, none⟩) l2 (i + 1)) := ((HG3.out.cell_far ⟨P, 5, none⟩ PG.out.1 (by simp)).trans c5); have e5 : w3.frozen? ⟨P, 5, none⟩ = false := ((HG3.out.frozen_far ⟨P, 5, none⟩ PG.out.1 (by simp)).trans z5); clear hown hgrow) | (at_builtin; refine wpList_append_own _ rfl _ _ 36 rfl W2.heap.size 66 ie (.agg #[.int .i64 0, .int .i64 0, .int .i64 0]) 3 24 Tryd.underlying36 HI.out.1 HI.out.2.1 HI.out.2.2.1 HI.out.2.2.2 rfl (by decide) (.slice q4 i k4) i (flat (ws'.take i)) rfl HO3.out ⟨g, 0, none⟩ 0 0 [] rfl rfl (fun j u hu => by simp at hu) (fun u hu => absurd hu List.not_mem_nil) (by unfold maxLen; omega) (by omega) HG3.out.size ?_; intro v5 w4 hown hgrow _; rw [Nat.add_zero, List.append_nil] at hown; obtain ⟨q6, k6, rfl⟩ := own_form hown; have HO5 : Hid (w4.ownsRow W2.heap.size 66 3 (.slice q6 i k6) i (flat (ws'.take i))) := hown; have HG5 : Hid (w3.grownBy w4 (Value.slice q4 i k4).ownBlock) := hgrow; have NP : Hid (some P ≠ (Value.slice q4 i k4).ownBlock) := (fun e => by have := (own_lt HO3.out P e.symm).1; have := PG.out.1; omega); have d6 : w4.cell? ⟨P, 5, none⟩ = some (.slice (some ⟨g, 0, none⟩) l2 (i + 1)) := ((HG5.out.cell_far ⟨P, 5, none⟩ (Nat.lt_of_lt_of_le PG.out.1 HG3.out.size) NP.out).trans d5); have e6 : w4.frozen? ⟨P, 5, none⟩ = false := ((HG5.out.frozen_far ⟨P, 5, none⟩ (Nat.lt_of_lt_of_le PG.out.1 HG3.out.size) NP.out).trans e5); clear hown hgrow))
                        have MN : Hid (Mid w base P m H vb fin (w4.setCell ⟨P, 5, none⟩ (.slice q6 i k6)) (.slice q1 (lo + 1) k1) true) := by
                          have rP : w4.rowIs P 38 6 (rsv (H.set m (h + 1)) (.slice (some ⟨g, 0, none⟩) l2 (i + 1))) := row_grown (row_grown RS2.out.1 HG3.out (by simp)) HG5.out NP.out
                          have o5 : Co w4 base (.slice q6 i k6) (rm ws' (m : Int) (h + 1)) := by
                            unfold Co
                            rw [RMV.out, List.drop_eq_nil_of_le (by rw [EL2.out.1]; omega), List.append_nil, List.length_take, EL2.out.1, show min i l2 = i by omega]
                            exact own_mono HO5.out BS.out.1
                          have hrs := RS.setV rP RS2.out.2.2.1 RS2.out.2.2.2 o5
                          have oo : (w4.setCell ⟨P, 5, none⟩ (.slice q6 i k6)).ownsRow w.heap.size 3 1 (.slice q1 (lo + 1) k1) (lo + 1) (out.map (Value.int .i64) ++ [.int .i64 s2]) := by
                            refine own_block OO2.out fun k hk => ?_
                            have hk2 := (own_lt OO2.out k hk).2
                            rw [Deep.blk_setCell_other _ _ _ _ (fun e => own_apart RS2.out.1 (by decide) OO2.out (by rw [hk]; exact congrArg some e))]
                            rw [HG5.out.block k (Nat.lt_of_lt_of_le hk2 HG3.out.size) (fun e => by have := (own_lt HO3.out k e.symm).1; omega)]
                            exact HG3.out.block k hk2 (by simp)
                          obtain ⟨-, -, hU, hK, -, -, hfin⟩ := ST.out
                          rw [run_go hU FX.out] at hfin
                          refine ⟨h + 1, rm ws' (m : Int) (h + 1), out ++ [s2], _, hrs, ?_, rm_uq hU _ _, ⟨by omega, ?_⟩, fun c hc => hK c (List.mem_filter.1 hc).1, ?_, ?_, ?_, ?_⟩
                          · rw [List.length_append, List.map_append, EL2.out.2]
                            exact oo
                          · have := hK _ ((fnd_some hU).1 FX.out)
                            exact this
                          · have := rm_len hU FX.out
                            rw [EL2.out.1] at this
                            rw [List.length_append, EL2.out.2]
                            simp
                            omega
                          · exact ((((BW2.out.grown HG3.out BS.out.1 (by simp)).grown HG5.out (Nat.le_trans BS.out.1 HG3.out.size) (fun k hk => Nat.le_trans BS.out.1 (own_lt HO3.out k hk).1)))).setCell (p := ⟨_, _, none⟩) RS2.out.2.2.2 _
                          · exact ((KW2.out.1.trans (Kp.grown HG3.out P) (by simp)).trans (Kp.grown HG5.out P) (fun k hk => .inl (Nat.le_trans BS.out.2 (own_lt HO3.out k hk).1))).trans (Kp.setCell w4 P 5 _ vb) (fun k hk => .inr (.inl hk))
                          · rw [if_pos rfl, List.append_assoc]
                            exact hfin
                        go_wp2
                        go_roundw
                        case rel => exact ⟨i + 1, by go_num, .inr ⟨rfl, by omega, MN.out, rfl⟩⟩
                        case measure => simp [intOf, yes]; omega
                      · have hcp' : (i : Int) + 1 < (cap2 : Int) := by omega
                        go_wp2_with (first | (at_builtin; refine wpList_append_own _ rfl _ _ 36 rfl W2.heap.size 66 ie (.agg #[.int .i64 0, .int .i64 0, .int .i64 0]) 3 24 Tryd.underlying36 HI.out.1 HI.out.2.1 HI.out.2.2.1 HI.out.2.2.2 rfl (by decide) (.slice none 0 0) 0 [] rfl (World.ownsRow_nil _ _ _ _) ⟨g, 0, none⟩ i cap2 (flat (ws'.take i)) rfl (by rw [flat_len, List.length_take]; have := EL2.out.1; omega) (fun j u hu => by rw [Addr.add_lit, Nat.zero_add]; rw [flat_take] at hu; exact G2.out j u ((List.getElem?_take_of_lt (by have := (List.getElem?_eq_some_iff.1 hu).1; rw [List.length_take] at this; omega)).symm.trans hu)) (flat_one _) (by unfold maxLen; omega) (by omega) (Nat.le_refl _) ?_; intro v3 w3 hown hgrow _; rw [Nat.zero_add, List.nil_append] at hown; obtain ⟨q4, k4, rfl⟩ := own_form hown; have HO3 : Hid (w3.ownsRow W2.heap.size 66 3 (.slice q4 i k4) i (flat (ws'.take i))) := hown; have HG3 : Hid (W2.grownBy w3 none) := hgrow; have d5 : w3.cell? ⟨P, 5, none⟩ = some (.slice (some ⟨g, 0, none⟩) l2 cap2) := ((HG3.out.cell_far ⟨P, 5, none⟩ PG.out.1 (by simp)).trans c5); have e5 : w3.frozen? ⟨P, 5, none⟩ = false := ((HG3.out.frozen_far ⟨P, 5, none⟩ PG.out.1 (by simp)).trans z5); clear hown hgrow) | (at_builtin; refine wpList_append_own _ rfl _ _ 36 rfl W2.heap.size 66 ie (.agg #[.int .i64 0, .int .i64 0, .int .i64 0]) 3 24 Tryd.underlying36 HI.out.1 HI.out.2.1 HI.out.2.2.1 HI.out.2.2.2 rfl (by decide) (.slice q4 i k4) i (flat (ws'.take i)) rfl HO3.out ⟨g, (i + 1) * 3, none⟩ (l2 - (i + 1)) (cap2 - (i + 1)) (flat (ws'.drop (i + 1))) rfl (by rw [flat_len, List.length_drop, EL2.out.1]) (fun j u hu => by rw [flat_drop, List.getElem?_drop] at hu; rw [Addr.add_lit]; exact (HG3.out.cell_far ⟨g, (i + 1) * 3 + j, none⟩ PG.out.2 (by simp)).trans (G2.out _ u hu)) (flat_one _) (by unfold maxLen; omega) (by omega) HG3.out.size ?_; intro v5 w4 hown hgrow _; obtain ⟨q6, k6, rfl⟩ := own_form hown; have HO5 : Hid (w4.ownsRow W2.heap.size 66 3 (.slice q6 (i + (l2 - (i + 1))) k6) (i + (l2 - (i + 1))) (flat (ws'.take i) ++ flat (ws'.drop (i + 1)))) := hown; have HG5 : Hid (w3.grownBy w4 (Value.slice q4 i k4).ownBlock) := hgrow; have NP : Hid (some P ≠ (Value.slice q4 i k4).ownBlock) := (fun e => by have := (own_lt HO3.out P e.symm).1; have := PG.out.1; omega); have d6 : w4.cell? ⟨P, 5, none⟩ = some (.slice (some ⟨g, 0, none⟩) l2 cap2) := ((HG5.out.cell_far ⟨P, 5, none⟩ (Nat.lt_of_lt_of_le PG.out.1 HG3.out.size) NP.out).trans d5); have e6 : w4.frozen? ⟨P, 5, none⟩ = false := ((HG5.out.frozen_far ⟨P, 5, none⟩ (Nat.lt_of_lt_of_le PG.out.1 HG3.out.size) NP.out).trans e5); clear hown hgrow))
                        have MN : Hid (Mid w base P m H vb fin (w4.setCell ⟨P, 5, none⟩ (.slice q6 (i + (l2 - (i + 1))) k6)) (.slice q1 (lo + 1) k1) true) := by
                          have rP : w4.rowIs P 38 6 (rsv (H.set m (h + 1)) (.slice (some ⟨g, 0, none⟩) l2 cap2)) := row_grown (row_grown RS2.out.1 HG3.out (by simp)) HG5.out NP.out
                          have o5 : Co w4 base (.slice q6 (i + (l2 - (i + 1))) k6) (rm ws' (m : Int) (h + 1)) := by
                            unfold Co
                            rw [RMV.out, flat_append, List.length_append, List.length_take, List.length_drop, EL2.out.1, show min i l2 = i by omega]
                            exact own_mono HO5.out BS.out.1
                          have hrs := RS.setV rP RS2.out.2.2.1 RS2.out.2.2.2 o5
                          have oo : (w4.setCell ⟨P, 5, none⟩ (.slice q6 (i + (l2 - (i + 1))) k6)).ownsRow w.heap.size 3 1 (.slice q1 (lo + 1) k1) (lo + 1) (out.map (Value.int .i64) ++ [.int .i64 s2]) := by
                            refine own_block OO2.out fun k hk => ?_
                            have hk2 := (own_lt OO2.out k hk).2
                            rw [Deep.blk_setCell_other _ _ _ _ (fun e => own_apart RS2.out.1 (by decide) OO2.out (by rw [hk]; exact congrArg some e))]
                            rw [HG5.out.block k (Nat.lt_of_lt_of_le hk2 HG3.out.size) (fun e => by have := (own_lt HO3.out k e.symm).1; omega)]
                            exact HG3.out.block k hk2 (by simp)
                          obtain ⟨-, -, hU, hK, -, -, hfin⟩ := ST.out
                          rw [run_go hU FX.out] at hfin
                          refine ⟨h + 1, rm ws' (m : Int) (h + 1), out ++ [s2], _, hrs, ?_, rm_uq hU _ _, ⟨by omega, ?_⟩, fun c hc => hK c (List.mem_filter.1 hc).1, ?_, ?_, ?_, ?_⟩
                          · rw [List.length_append, List.map_append, EL2.out.2]
                            exact oo
                          · have := hK _ ((fnd_some hU).1 FX.out)
                            exact this
                          · have := rm_len hU FX.out
                            rw [EL2.out.1] at this
                            rw [List.length_append, EL2.out.2]
                            simp
                            omega
                          · exact ((((BW2.out.grown HG3.out BS.out.1 (by simp)).grown HG5.out (Nat.le_trans BS.out.1 HG3.out.size) (fun k hk => Nat.le_trans BS.out.1 (own_lt HO3.out k hk).1)))).setCell (p := ⟨_, _, none⟩) RS2.out.2.2.2 _
                          · exact ((KW2.out.1.trans (Kp.grown HG3.out P) (by simp)).trans (Kp.grown HG5.out P) (fun k hk => .inl (Nat.le_trans BS.out.2 (own_lt HO3.out k hk).1))).trans (Kp.setCell w4 P 5 _ vb) (fun k hk => .inr (.inl hk))
                          · rw [if_pos rfl, List.append_assoc]
                            exact hfin
                        go_wp2
                        go_roundw
                        case rel => exact ⟨i + 1, by go_num, .inr ⟨rfl, by omega, MN.out, rfl⟩⟩
                        case measure => simp [intOf, yes]; omega
                    · have g2' : (s1 == h + 1) = false := by simp [g2]
                      have KN : Hid (key (m : Int) (h + 1) (cm ws' i) = false) := by show _ = _; rw [← ES.out]; simp [key, g2]
                      go_wp2
                      go_quiet (fail)
                      go_wp2
                      go_roundw
                      case rel => exact ⟨i + 1, by go_num, .inl ⟨rfl, rfl, by omega, ⟨_, rfl⟩, scan_step hsc.out KN.out⟩⟩
                      case measure => simp [intOf, yes]; omega
                  · have g1' : (s0 == (m : Int)) = false := by simp [g1]
                    have KN : Hid (key (m : Int) (h + 1) (cm ws' i) = false) := by show _ = _; rw [← ES.out]; simp [key, g1]
                    go_wp2
                    go_quiet (fail)
                    go_wp2
                    go_roundw
                    case rel => exact ⟨i + 1, by go_num, .inl ⟨rfl, rfl, by omega, ⟨_, rfl⟩, scan_step hsc.out KN.out⟩⟩
                    case measure => simp [intOf, yes]; omega
                · have hil : l2 = i := by omega
                  subst hil
                  have MF : Hid (Mid w base P m H vb fin (wo.drewN nd) (.slice qo lo co) false) := by
                    obtain ⟨hR, hO, hU, hK, hB, hKp, hfin⟩ := ST.out
                    have hn := scan_end (by rw [EL2.out.1]; exact hsc.out)
                    rw [run_stop hn, List.append_nil] at hfin
                    rw [EL2.out.2] at hO
                    refine ⟨h, ws', out, .slice q2 ws'.length cap2, hR, by rw [EL2.out.2]; exact hO, hU, hh, hK, by rw [EL2.out.1, EL2.out.2]; omega, below_drewN hB _, hKp, ?_⟩
                    rw [if_neg (by decide)]
                    exact hfin
                  go_wp2
                  go_roundw
                  case rel => exact ⟨false, rfl, MF.out⟩
                  case measure => simp [lenOf, yes]
              · obtain ⟨h2, ws2, o2, v2, hR2, hO2, -⟩ := hM.out
                obtain ⟨qo', co', hvo⟩ := own_form hO2
                obtain ⟨q3, cap3, hv3, -, -, -⟩ := hR2.2.1.form
                have c5 := hR2.wait.1
                rw [hv3] at c5
                obtain ⟨l3, el3⟩ : ∃ l, l = ws2.length := ⟨_, rfl⟩
                rw [← el3] at c5
                rw [hvo] at hlo
                have hlo2 : o2.length = lo + 1 := hlo
                rw [hlo2] at hvo
                subst hvo
                clear hR2 hO2 hv3 el3 hlo hlo2 z0 z5 c0
                by_cases hlt : i < l3
                · have hil : (i : Int) < (l3 : Int) := by omega
                  go_wp2
                  go_roundw
                  case rel => exact ⟨true, rfl, hM.out⟩
                  case measure => simp [lenOf, yes]; omega
                · have hil : (l3 : Int) ≤ (i : Int) := by omega
                  go_wp2
                  go_roundw
                  case rel => exact ⟨true, rfl, hM.out⟩
                  case measure => simp [lenOf, yes]; omega
      · have gf' : decide (n > y + 1) = false := decide_eq_false (by omega)
        have OB : Hid ((Value.slice q len cap).ownBlock = vb ∧ vb ≠ some P) := ⟨by have e := EVB.out; rw [EL.out] at e; exact e, OV.out.2.1⟩
        have BA : Hid (Below w.heap.size w (w.alloc (.cells #[.int .i64 (m : Int), .int .i64 n, .int .i64 word] 66))) := (Below.refl _ _).alloc (Nat.le_refl _) _
        go_wp2_with (at_builtin; refine wpList_append_own _ rfl _ _ 36 rfl base 66 ie (.agg #[.int .i64 0, .int .i64 0, .int .i64 0]) 3 24 Tryd.underlying36 HI.out.1 HI.out.2.1 HI.out.2.2.1 HI.out.2.2.2 rfl (by decide) (.slice q len cap) len (flat ws) rfl (by have o := C0.out; unfold Co at o; rw [EL.out] at o; exact own_block o (fun k hk => BA.out.block k (own_lt o k hk).2)) ⟨w.heap.size, 0, none⟩ 1 1 (flat [((m : Int), n, word)]) rfl rfl (by exact new_came w _ rfl (m : Int) n word 66) (flat_one _) (by unfold maxLen; omega) (by omega) (by have := HBW.out; simp; omega) ?_; intro v' wn hown hgrow _; obtain ⟨q', cap', rfl⟩ := own_form hown; have HO : Hid (wn.ownsRow base 66 3 (.slice q' (len + 1) cap') (len + 1) (flat ws ++ flat [((m : Int), n, word)])) := hown; have HGr : Hid ((w.alloc (.cells #[.int .i64 (m : Int), .int .i64 n, .int .i64 word] 66)).grownBy wn vb) := (by show World.grownBy _ _ vb; rw [← OB.out.1]; exact hgrow); have e5 : wn.cell? ⟨P, 5, none⟩ = some (.slice q len cap) := (by rw [HGr.out.cell_far ⟨P, 5, none⟩ (by have := HSW.out.2.2; simp; omega) (fun e => OB.out.2 e.symm), BA.out.cell (p := ⟨P, 5, none⟩) HSW.out.2.2]; exact c5); have f5 : wn.frozen? ⟨P, 5, none⟩ = false := (by rw [HGr.out.frozen_far ⟨P, 5, none⟩ (by have := HSW.out.2.2; simp; omega) (fun e => OB.out.2 e.symm), BA.out.frozen (p := ⟨P, 5, none⟩) HSW.out.2.2]; exact z5); clear hown hgrow)
        have M1 : Hid (Mid w base P m H vb fin (wn.setCell ⟨P, 5, none⟩ (.slice q' (len + 1) cap')) (.slice none 0 0) true) := by
          have rP : wn.rowIs P 38 6 (rsv H (.slice q len cap)) := by
            have r0 := RS0.out.1
            rw [EL.out] at r0
            exact row_grown (World.rowIs.alloc r0 _) HGr.out (fun e => OB.out.2 e.symm)
          have o' : Co wn base (.slice q' (len + 1) cap') (ws ++ [((m : Int), n, word)]) := by
            have o := HO.out
            unfold Co
            rw [flat_append, List.length_append, EL.out]
            exact o
          have hrs := RS.setV rP HSW.out.1 HSW.out.2.1 o'
          refine ⟨y, ws ++ [((m : Int), n, word)], [], .slice q' (len + 1) cap', ?_, World.ownsRow_nil _ _ _ _, U1.out, hH, K1.out, by simp [EL.out]; omega, ?_, ?_, ?_⟩
          · have : H.set m y = H := by
              rw [EY.out]
              have hl5 := HSW.out.1
              exact List.ext_getElem (by simp) fun j h1 h2 => by
                by_cases e : m = j
                · subst e
                  simp [List.getD, h2]
                · rw [List.getElem_set_ne e]
            rw [this]
            exact hrs
          · exact ((((Below.refl base w).alloc HBW.out _).grown HGr.out (by have := HBW.out; simp; omega) (fun k hk => (OV.out.2.2 k hk).1)).setCell (p := ⟨_, _, none⟩) HSW.out.2.1 _)
          · exact ((Kp.alloc w _ P vb).trans (Kp.grown HGr.out P) (fun k hk => .inr (.inl hk))).trans (Kp.setCell wn P 5 _ vb) (fun k hk => .inr (.inl hk))
          · rw [if_pos rfl, List.nil_append, EF.out]
        go_wp2
        clear c0 c5 z0 z5 e5 f5 HO HGr BA OB C0
        go_loopw [11, 12] (fun vo va wr => ∃ ag : Bool, va = .bool ag ∧ Hid (Mid w base P m H vb fin wr vo ag)) (fun vo va _ => 2 * (42 - lenOf vo) + yes va)
        case atStart => exact ⟨true, rfl, M1.out⟩
        case round =>
          clear M1
          obtain ⟨ag, rfl, hM⟩ := hrel
          obtain ⟨h, ws', out, v', hR, hO, hU, hh, hK, hL, hB, hKp, hfin⟩ := hM.out
          obtain ⟨qo, co, rfl⟩ := own_form hO
          obtain ⟨q2, cap2, rfl, hlc2, hcm2, hform2⟩ := hR.2.1.form
          cases ag with
          | false =>
            rw [if_neg (by decide)] at hfin
            have FI : Hid ((out, h, ws') = fin ∧ RS wr base P (H.set m h) ws' (.slice q2 ws'.length cap2) ∧ wr.ownsRow w.heap.size 3 1 (.slice qo out.length co) out.length (out.map (Value.int .i64)) ∧ Below base w wr ∧ Kp w wr P vb) := ⟨hfin, hR, hO, hB, hKp⟩
            clear hM hR hO hU hK hB hKp hfin hform2
            go_wp2
            go_ret2
            refine ⟨_, .slice q2 ws'.length cap2, rfl, ?_⟩
            rw [← FI.out.1]
            exact FI.out.2
          | true =>
            rw [if_pos rfl] at hfin
            obtain ⟨l2, el2⟩ : ∃ l, l = ws'.length := ⟨_, rfl⟩
            obtain ⟨lo, elo⟩ : ∃ l, l = out.length := ⟨_, rfl⟩
            obtain ⟨c0, z0⟩ := hR.num hm
            obtain ⟨c5, z5⟩ := hR.wait
            have hHm : (H.set m h).getD m 0 = h := by
              have := HSW.out.1
              simp [List.getD, show m < H.length by omega]
            rw [hHm] at c0
            rw [← el2] at c5 hlc2 hform2 hL
            rw [← elo] at hL
            have EL2 : Hid (ws'.length = l2 ∧ out.length = lo) := ⟨el2.symm, elo.symm⟩
            have FM2 : Hid (0 < l2 → ∃ g, q2 = some ⟨g, 0, none⟩ ∧ base ≤ g ∧ g < wr.heap.size ∧ ∀ j u, (flat ws')[j]? = some u → wr.cell? ⟨g, j, none⟩ = some u) := hform2
            have ST : Hid (RS wr base P (H.set m h) ws' (.slice q2 ws'.length cap2) ∧ wr.ownsRow w.heap.size 3 1 (.slice qo out.length co) out.length (out.map (Value.int .i64)) ∧ Uq ws' ∧ (∀ c ∈ ws', c.2.1 ≤ 1000000) ∧ Below base w wr ∧ Kp w wr P vb ∧ (out ++ (run (m : Int) h ws').1, (run (m : Int) h ws').2) = fin) := ⟨hR, hO, hU, hK, hB, hKp, hfin⟩
            have CM2 : Hid (cap2 ≤ maxLen) := hcm2
            rw [← elo]
            obtain ⟨wo, ewo⟩ : ∃ wo, wo = wr := ⟨_, rfl⟩
            subst ewo
            clear hM hR hO hU hK hB hKp hfin hform2 hHm el2 elo hcm2
            go_wp2
            go_loopw [11, 12, 13] (fun vo va x wi => ∃ i : Nat, x = .int .i64 (i : Int) ∧ ((va = .bool false ∧ vo = .slice qo lo co ∧ i ≤ l2 ∧ (∃ n, wi = wo.drewN n) ∧ Hid (scan (m : Int) (h + 1) ws' i)) ∨ (va = .bool true ∧ i ≤ l2 ∧ Hid (Mid w base P m H vb fin wi vo true) ∧ lenOf vo = lo + 1))) (fun _ va x _ => if yes va = 1 then 0 else l2 + 1 - (intOf x).toNat)
            case atStart => exact ⟨0, rfl, .inl ⟨rfl, rfl, by omega, ⟨0, rfl⟩, fun j hj => absurd hj (by omega)⟩⟩
            case round =>
              obtain ⟨i, rfl, hcase⟩ := hrel
              rcases hcase with ⟨rfl, rfl, hi, ⟨nd, rfl⟩, hsc⟩ | ⟨rfl, hi, hM, hlo⟩
              · by_cases hlt : i < l2
                · obtain ⟨g, rfl, hbg, hgw, hcs⟩ := FM2.out (by omega)
                  obtain ⟨x0, x1, x2⟩ := c3_of hcs (show i < ws'.length by rw [EL2.out.1]; exact hlt)
                  obtain ⟨s, es⟩ : ∃ s, s = cm ws' i := ⟨_, rfl⟩
                  rw [← es] at x0 x1 x2
                  obtain ⟨s0, s1, s2⟩ := s
                  have ES : Hid ((s0, s1, s2) = cm ws' i) := es
                  have GC : Hid (base ≤ g ∧ g < wo.heap.size ∧ ∀ j u, (flat ws')[j]? = some u → wo.cell? ⟨g, j, none⟩ = some u) := ⟨hbg, hgw, hcs⟩
                  have hi0 : (0 : Int) ≤ (i : Int) := by omega
                  have hil : (i : Int) < (l2 : Int) := by omega
                  clear hcs es hbg hgw
                  by_cases g1 : s0 = (m : Int)
                  · have g1' : (s0 == (m : Int)) = true := by simp [g1]
                    by_cases g2 : s1 = h + 1
                    · have g2' : (s1 == h + 1) = true := by simp [g2]
                      have FX : Hid (fnd ws' (m : Int) (h + 1) = some s2) := by
                        have hm' : ((m : Int), h + 1, s2) ∈ ws' := by
                          have e := cm_get (ws := ws') (i := i) (by rw [EL2.out.1]; exact hlt)
                          rw [← ES.out] at e
                          have := List.getElem_mem (l := ws') (n := i) (by rw [EL2.out.1]; exact hlt)
                          rw [← e, g1, g2] at this
                          exact this
                        exact (fnd_some ST.out.2.2.1).2 hm'
                      have AP : Hid ((Value.slice qo lo co).ownBlock ≠ some P ∧ (Value.slice qo lo co).ownBlock ≠ some g ∧ P ≠ g) := by
                        obtain ⟨hR, hO, -⟩ := ST.out
                        rw [EL2.out.2] at hO
                        exact ⟨own_apart hR.1 (by decide) hO, own_two (by decide) hO hR.2.1 rfl, fun e => own_apart hR.1 (by decide) hR.2.1 (by rw [e]; rfl)⟩
                      have PW : Hid (P < wo.heap.size) := World.rowIs.lt ST.out.1.1
                      have SZ : Hid (w.heap.size ≤ wo.heap.size) := ST.out.2.2.2.2.2.1.1
                      have OO : Hid (wo.ownsRow w.heap.size 3 1 (.slice qo lo co) lo (out.map (Value.int .i64))) := by have o := ST.out.2.1; rw [EL2.out.2] at o; exact o
                      go_wp2
                      go_quiet (fail)
                      go_wp2_with (at_builtin; refine wpList_append_own _ rfl _ _ 22 rfl w.heap.size 3 ii (.int .i64 0) 1 8 Tryd.underlying22 HJ.out.1 HJ.out.2.1 HJ.out.2.2.1 HJ.out.2.2.2 rfl (by decide) (.slice qo lo co) lo (out.map (Value.int .i64)) rfl (by exact own_block OO.out (fun k hk => ((Below.refl wo.heap.size wo).alloc (Nat.le_refl _) _).block k (own_lt OO.out k hk).2)) ⟨wo.heap.size, 0, none⟩ 1 1 [.int .i64 s2] rfl rfl (by exact new_int (wo.drewN _) _ rfl s2 3) (int_one _) (by unfold maxLen; omega) (by omega) (by have := SZ.out; simp; omega) ?_; intro v1 w1 hown hgrow _; obtain ⟨q1, k1, rfl⟩ := own_form hown; have HO1 : Hid (w1.ownsRow w.heap.size 3 1 (.slice q1 (lo + 1) k1) (lo + 1) (out.map (Value.int .i64) ++ [.int .i64 s2])) := hown; have HG1 : Hid _ := hgrow; clear hown hgrow)
                      have KP1 : Hid (wo.heap.size ≤ w1.heap.size ∧ ∀ b, b < wo.heap.size → some b ≠ (Value.slice qo lo co).ownBlock → w1.heap[b]? = wo.heap[b]?) := by
                        refine ⟨by have := HG1.out.size; simp at this; omega, fun b hb hne => ?_⟩
                        exact (HG1.out.block b (by simp; omega) hne).trans (((Below.refl wo.heap.size wo).alloc (Nat.le_refl _) _).block b hb)
                      have hp1 := KP1.out.2 P PW.out (fun e => AP.out.1 e.symm)
                      have hg1 := KP1.out.2 g GC.out.2.1 (fun e => AP.out.2.1 e.symm)
                      have d0 : w1.cell? ⟨P, m, none⟩ = some (.int .i64 h) := (World.cell?_of_block (a := ⟨P, m, none⟩) hp1).trans c0
                      have e0 : w1.frozen? ⟨P, m, none⟩ = false := (World.frozen?_of_block (a := ⟨P, m, none⟩) hp1).trans z0
                      have d5 : w1.cell? ⟨P, 5, none⟩ = some (.slice (some ⟨g, 0, none⟩) l2 cap2) := (World.cell?_of_block (a := ⟨P, 5, none⟩) hp1).trans c5
                      have e5 : w1.frozen? ⟨P, 5, none⟩ = false := (World.frozen?_of_block (a := ⟨P, 5, none⟩) hp1).trans z5
                      have HB1 : Hid (w1.heap[P]? = wo.heap[P]? ∧ w1.heap[g]? = wo.heap[g]?) := ⟨hp1, hg1⟩
                      clear c0 z0 c5 z5 x0 x1 x2 hp1 hg1
                      have RS1 : RS w1 base P (H.set m h) ws' (.slice (some ⟨g, 0, none⟩) l2 cap2) := by
                        have hR := ST.out.1
                        rw [EL2.out.1] at hR
                        exact ⟨hR.1.of_block HB1.out.1, own_block hR.2.1 (fun k hk => by have e : g = k := (by simpa [Value.ownBlock] using hk); subst e; exact HB1.out.2), hR.2.2⟩
                      obtain ⟨W2, eW2⟩ : ∃ W, W = (w1.setCell ⟨P, m, none⟩ (.int .i64 (h + 1))).drew := ⟨_, rfl⟩
                      have RS2 : Hid (RS W2 base P (H.set m (h + 1)) ws' (.slice (some ⟨g, 0, none⟩) l2 cap2)) := by
                        have r := RS1.setH hm (h + 1)
                        rw [List.set_set] at r
                        rw [eW2]
                        exact r
                      have BW2 : Hid (Below base w W2) := by
                        have hb0 := ST.out.2.2.2.2.1
                        have hbs := ST.out.1.2.2.2
                        rw [eW2]
                        exact (((((below_drewN hb0 _).alloc (Nat.le_trans HBW.out hb0.size) _).grown HG1.out (by have := HBW.out; have := hb0.size; simp; omega) (fun k hk => Nat.le_trans HBW.out (own_lt OO.out k hk).1)).setCell (p := ⟨_, _, none⟩) hbs _)).drew
                      have KW2 : Hid (Kp w W2 P vb ∧ wo.heap.size ≤ W2.heap.size) := by
                        have k0 := ST.out.2.2.2.2.2.1
                        have k1 : Kp wo w1 P (Value.slice qo lo co).ownBlock := ⟨KP1.out.1, fun b hb _ hne => KP1.out.2 b hb hne⟩
                        have k2 := k0.trans k1 (fun k hk => .inl (own_lt OO.out k hk).1)
                        rw [eW2]
                        exact ⟨k2.trans (Kp.setCell w1 P m (.int .i64 (h + 1)) vb) (fun k hk => .inr (.inl hk)), by have := KP1.out.1; simp [World.setCell]; omega⟩
                      have OO2 : Hid (W2.ownsRow w.heap.size 3 1 (.slice q1 (lo + 1) k1) (lo + 1) (out.map (Value.int .i64) ++ [.int .i64 s2])) := by
                        rw [eW2]
                        exact own_block HO1.out (fun k hk => Deep.blk_setCell_other _ _ _ _ (fun e => own_apart RS1.1 (by decide) HO1.out (by rw [hk]; exact congrArg some e)))
                      go_region
                      rw [← eW2]
                      obtain ⟨c5, z5⟩ := RS2.out.wait
                      have G2 : Hid (∀ j u, (flat ws')[j]? = some u → W2.cell? ⟨g, j, none⟩ = some u) := by
                        obtain ⟨_, _, e, _, _, hf⟩ := RS2.out.2.1.form
                        cases e
                        obtain ⟨_, e2, _, _, hc⟩ := hf (by have := EL2.out.1; omega)
                        cases e2
                        exact hc
                      have PG : Hid (P < W2.heap.size ∧ g < W2.heap.size) := ⟨Nat.lt_of_lt_of_le PW.out KW2.out.2, Nat.lt_of_lt_of_le GC.out.2.1 KW2.out.2⟩
                      have hic : (i : Int) ≤ (cap2 : Int) := by omega
                      have hic' : (i : Int) + 1 ≤ (l2 : Int) := by omega
                      have hic2 : (i : Int) + 1 ≤ (cap2 : Int) := by omega
                      clear RS1 eW2 d0 e0 d5 e5 HO1 HG1 KP1 HB1
                      have SP : Hid (ws' = ws'.take i ++ ((m : Int), h + 1, s2) :: ws'.drop (i + 1)) := by
                        have hil2 : i < ws'.length := by rw [EL2.out.1]; exact hlt
                        have e : ((m : Int), h + 1, s2) = ws'[i] := by rw [← cm_get hil2, ← ES.out, g1, g2]
                        show _ = _
                        rw [e, List.getElem_cons_drop, List.take_append_drop]
                      have RMV : Hid (rm ws' (m : Int) (h + 1) = ws'.take i ++ ws'.drop (i + 1)) := by
                        have u := ST.out.2.2.1
                        rw [SP.out] at u
                        have := rm_split u
                        show _ = _
                        conv => lhs; rw [SP.out]
                        exact this
                      have BS : Hid (base ≤ W2.heap.size ∧ w.heap.size ≤ W2.heap.size) := ⟨Nat.le_trans HBW.out KW2.out.1.1, KW2.out.1.1⟩
                      by_cases hcp : cap2 = i + 1
                      · subst hcp
                        go_wp2_with (first | (at_builtin; refine wpList_append_own _ rfl _ _ 36 rfl W2.heap.size 66 ie (.agg #[.int .i64 0, .int .i64 0, .int .i64 0]) 3 24 Tryd.underlying36 HI.out.1 HI.out.2.1 HI.out.2.2.1 HI.out.2.2.2 rfl (by decide) (.slice none 0 0) 0 [] rfl (World.ownsRow_nil _ _ _ _) ⟨g, 0, none⟩ i (i + 1) (flat (ws'.take i)) rfl (by rw [flat_len, List.length_take]; have := EL2.out.1; omega) (fun j u hu => by rw [Addr.add_lit, Nat.zero_add]; rw [flat_take] at hu; exact G2.out j u ((List.getElem?_take_of_lt (by have := (List.getElem?_eq_some_iff.1 hu).1; rw [List.length_take] at this; omega)).symm.trans hu)) (flat_one _) (by unfold maxLen; omega) (by omega) (Nat.le_refl _) ?_; intro v3 w3 hown hgrow _; rw [Nat.zero_add, List.nil_append] at hown; obtain ⟨q4, k4, rfl⟩ := own_form hown; have HO3 : Hid (w3.ownsRow W2.heap.size 66 3 (.slice q4 i k4) i (flat (ws'.take i))) := hown; have HG3 : Hid (W2.grownBy w3 none) := hgrow; have d5 : w3.cell? ⟨P, 5, none⟩ = some (.slice (some ⟨g, 0, none⟩) l2 (i + 1)) := ((HG3.out.cell_far ⟨P, 5, none⟩ PG.out.1 (by simp)).trans c5); have e5 : w3.frozen? ⟨P, 5, none⟩ = false := ((HG3.out.frozen_far ⟨P, 5, none⟩ PG.out.1 (by simp)).trans z5); clear hown hgrow) | (at_builtin; refine wpList_append_own _ rfl _ _ 36 rfl W2.heap.size 66 ie (.agg #[.int .i64 0, .int .i64 0, .int .i64 0]) 3 24 Tryd.underlying36 HI.out.1 HI.out.2.1 HI.out.2.2.1 HI.out.2.2.2 rfl (by decide) (.slice q4 i k4) i (flat (ws'.take i)) rfl HO3.out ⟨g, 0, none⟩ 0 0 [] rfl rfl (fun j u hu => by simp at hu) (fun u hu => absurd hu List.not_mem_nil) (by unfold maxLen; omega) (by omega) HG3.out.size ?_; intro v5 w4 hown hgrow _; rw [Nat.add_zero, List.append_nil] at hown; obtain ⟨q6, k6, rfl⟩ := own_form hown; have HO5 : Hid (w4.ownsRow W2.heap.size 66 3 (.slice q6 i k6) i (flat (ws'.take i))) := hown; have HG5 : Hid (w3.grownBy w4 (Value.slice q4 i k4).ownBlock) := hgrow; have NP : Hid (some P ≠ (Value.slice q4 i k4).ownBlock) := (fun e => by have := (own_lt HO3.out P e.symm).1; have := PG.out.1; omega); have d6 : w4.cell? ⟨P, 5, none⟩ = some (.slice (some ⟨g, 0, none⟩) l2 (i + 1)) := ((HG5.out.cell_far ⟨P, 5, none⟩ (Nat.lt_of_lt_of_le PG.out.1 HG3.out.size) NP.out).trans d5); have e6 : w4.frozen? ⟨P, 5, none⟩ = false := ((HG5.out.frozen_far ⟨P, 5, none⟩ (Nat.lt_of_lt_of_le PG.out.1 HG3.out.size) NP.out).trans e5); clear hown hgrow))
                        have MN : Hid (Mid w base P m H vb fin (w4.setCell ⟨P, 5, none⟩ (.slice q6 i k6)) (.slice q1 (lo + 1) k1) true) := by
                          have rP : w4.rowIs P 38 6 (rsv (H.set m (h + 1)) (.slice (some ⟨g, 0, none⟩) l2 (i + 1))) := row_grown (row_grown RS2.out.1 HG3.out (by simp)) HG5.out NP.out
                          have o5 : Co w4 base (.slice q6 i k6) (rm ws' (m : Int) (h + 1)) := by
                            unfold Co
                            rw [RMV.out, List.drop_eq_nil_of_le (by rw [EL2.out.1]; omega), List.append_nil, List.length_take, EL2.out.1, show min i l2 = i by omega]
                            exact own_mono HO5.out BS.out.1
                          have hrs := RS.setV rP RS2.out.2.2.1 RS2.out.2.2.2 o5
                          have oo : (w4.setCell ⟨P, 5, none⟩ (.slice q6 i k6)).ownsRow w.heap.size 3 1 (.slice q1 (lo + 1) k1) (lo + 1) (out.map (Value.int .i64) ++ [.int .i64 s2]) := by
                            refine own_block OO2.out fun k hk => ?_
                            have hk2 := (own_lt OO2.out k hk).2
                            rw [Deep.blk_setCell_other _ _ _ _ (fun e => own_apart RS2.out.1 (by decide) OO2.out (by rw [hk]; exact congrArg some e))]
                            rw [HG5.out.block k (Nat.lt_of_lt_of_le hk2 HG3.out.size) (fun e => by have := (own_lt HO3.out k e.symm).1; omega)]
                            exact HG3.out.block k hk2 (by simp)
                          obtain ⟨-, -, hU, hK, -, -, hfin⟩ := ST.out
                          rw [run_go hU FX.out] at hfin
                          refine ⟨h + 1, rm ws' (m : Int) (h + 1), out ++ [s2], _, hrs, ?_, rm_uq hU _ _, ⟨by omega, ?_⟩, fun c hc => hK c (List.mem_filter.1 hc).1, ?_, ?_, ?_, ?_⟩
                          · rw [List.length_append, List.map_append, EL2.out.2]
                            exact oo
                          · have := hK _ ((fnd_some hU).1 FX.out)
                            exact this
                          · have := rm_len hU FX.out
                            rw [EL2.out.1] at this
                            rw [List.length_append, EL2.out.2]
                            simp
                            omega
                          · exact ((((BW2.out.grown HG3.out BS.out.1 (by simp)).grown HG5.out (Nat.le_trans BS.out.1 HG3.out.size) (fun k hk => Nat.le_trans BS.out.1 (own_lt HO3.out k hk).1)))).setCell (p := ⟨_, _, none⟩) RS2.out.2.2.2 _
                          · exact ((KW2.out.1.trans (Kp.grown HG3.out P) (by simp)).trans (Kp.grown HG5.out P) (fun k hk => .inl (Nat.le_trans BS.out.2 (own_lt HO3.out k hk).1))).trans (Kp.setCell w4 P 5 _ vb) (fun k hk => .inr (.inl hk))
                          · rw [if_pos rfl, List.append_assoc]
                            exact hfin
                        go_wp2
                        go_roundw
                        case rel => exact ⟨i + 1, by go_num, .inr ⟨rfl, by omega, MN.out, rfl⟩⟩
                        case measure => simp [intOf, yes]; omega
                      · have hcp' : (i : Int) + 1 < (cap2 : Int) := by omega
                        go_wp2_with (first | (at_builtin; refine wpList_append_own _ rfl _ _ 36 rfl W2.heap.size 66 ie (.agg #[.int .i64 0, .int .i64 0, .int .i64 0]) 3 24 Tryd.underlying36 HI.out.1 HI.out.2.1 HI.out.2.2.1 HI.out.2.2.2 rfl (by decide) (.slice none 0 0) 0 [] rfl (World.ownsRow_nil _ _ _ _) ⟨g, 0, none⟩ i cap2 (flat (ws'.take i)) rfl (by rw [flat_len, List.length_take]; have := EL2.out.1; omega) (fun j u hu => by rw [Addr.add_lit, Nat.zero_add]; rw [flat_take] at hu; exact G2.out j u ((List.getElem?_take_of_lt (by have := (List.getElem?_eq_some_iff.1 hu).1; rw [List.length_take] at this; omega)).symm.trans hu)) (flat_one _) (by unfold maxLen; omega) (by omega) (Nat.le_refl _) ?_; intro v3 w3 hown hgrow _; rw [Nat.zero_add, List.nil_append] at hown; obtain ⟨q4, k4, rfl⟩ := own_form hown; have HO3 : Hid (w3.ownsRow W2.heap.size 66 3 (.slice q4 i k4) i (flat (ws'.take i))) := hown; have HG3 : Hid (W2.grownBy w3 none) := hgrow; have d5 : w3.cell? ⟨P, 5, none⟩ = some (.slice (some ⟨g, 0, none⟩) l2 cap2) := ((HG3.out.cell_far ⟨P, 5, none⟩ PG.out.1 (by simp)).trans c5); have e5 : w3.frozen? ⟨P, 5, none⟩ = false := ((HG3.out.frozen_far ⟨P, 5, none⟩ PG.out.1 (by simp)).trans z5); clear hown hgrow) | (at_builtin; refine wpList_append_own _ rfl _ _ 36 rfl W2.heap.size 66 ie (.agg #[.int .i64 0, .int .i64 0, .int .i64 0]) 3 24 Tryd.underlying36 HI.out.1 HI.out.2.1 HI.out.2.2.1 HI.out.2.2.2 rfl (by decide) (.slice q4 i k4) i (flat (ws'.take i)) rfl HO3.out ⟨g, (i + 1) * 3, none⟩ (l2 - (i + 1)) (cap2 - (i + 1)) (flat (ws'.drop (i + 1))) rfl (by rw [flat_len, List.length_drop, EL2.out.1]) (fun j u hu => by rw [flat_drop, List.getElem?_drop] at hu; rw [Addr.add_lit]; exact (HG3.out.cell_far ⟨g, (i + 1) * 3 + j, none⟩ PG.out.2 (by simp)).trans (G2.out _ u hu)) (flat_one _) (by unfold maxLen; omega) (by omega) HG3.out.size ?_; intro v5 w4 hown hgrow _; obtain ⟨q6, k6, rfl⟩ := own_form hown; have HO5 : Hid (w4.ownsRow W2.heap.size 66 3 (.slice q6 (i + (l2 - (i + 1))) k6) (i + (l2 - (i + 1))) (flat (ws'.take i) ++ flat (ws'.drop (i + 1)))) := hown; have HG5 : Hid (w3.grownBy w4 (Value.slice q4 i k4).ownBlock) := hgrow; have NP : Hid (some P ≠ (Value.slice q4 i k4).ownBlock) := (fun e => by have := (own_lt HO3.out P e.symm).1; have := PG.out.1; omega); have d6 : w4.cell? ⟨P, 5, none⟩ = some (.slice (some ⟨g, 0, none⟩) l2 cap2) := ((HG5.out.cell_far ⟨P, 5, none⟩ (Nat.lt_of_lt_of_le PG.out.1 HG3.out.size) NP.out).trans d5); have e6 : w4.frozen? ⟨P, 5, none⟩ = false := ((HG5.out.frozen_far ⟨P, 5, none⟩ (Nat.lt_of_lt_of_le PG.out.1 HG3.out.size) NP.out).trans e5); clear hown hgrow))
                        have MN : Hid (Mid w base P m H vb fin (w4.setCell ⟨P, 5, none⟩ (.slice q6 (i + (l2 - (i + 1))) k6)) (.slice q1 (lo + 1) k1) true) := by
                          have rP : w4.rowIs P 38 6 (rsv (H.set m (h + 1)) (.slice (some ⟨g, 0, none⟩) l2 cap2)) := row_grown (row_grown RS2.out.1 HG3.out (by simp)) HG5.out NP.out
                          have o5 : Co w4 base (.slice q6 (i + (l2 - (i + 1))) k6) (rm ws' (m : Int) (h + 1)) := by
                            unfold Co
                            rw [RMV.out, flat_append, List.length_append, List.length_take, List.length_drop, EL2.out.1, show min i l2 = i by omega]
                            exact own_mono HO5.out BS.out.1
                          have hrs := RS.setV rP RS2.out.2.2.1 RS2.out.2.2.2 o5
                          have oo : (w4.setCell ⟨P, 5, none⟩ (.slice q6 (i + (l2 - (i + 1))) k6)).ownsRow w.heap.size 3 1 (.slice q1 (lo + 1) k1) (lo + 1) (out.map (Value.int .i64) ++ [.int .i64 s2]) := by
                            refine own_block OO2.out fun k hk => ?_
                            have hk2 := (own_lt OO2.out k hk).2
                            rw [Deep.blk_setCell_other _ _ _ _ (fun e => own_apart RS2.out.1 (by decide) OO2.out (by rw [hk]; exact congrArg some e))]
                            rw [HG5.out.block k (Nat.lt_of_lt_of_le hk2 HG3.out.size) (fun e => by have := (own_lt HO3.out k e.symm).1; omega)]
                            exact HG3.out.block k hk2 (by simp)
                          obtain ⟨-, -, hU, hK, -, -, hfin⟩ := ST.out
                          rw [run_go hU FX.out] at hfin
                          refine ⟨h + 1, rm ws' (m : Int) (h + 1), out ++ [s2], _, hrs, ?_, rm_uq hU _ _, ⟨by omega, ?_⟩, fun c hc => hK c (List.mem_filter.1 hc).1, ?_, ?_, ?_, ?_⟩
                          · rw [List.length_append, List.map_append, EL2.out.2]
                            exact oo
                          · have := hK _ ((fnd_some hU).1 FX.out)
                            exact this
                          · have := rm_len hU FX.out
                            rw [EL2.out.1] at this
                            rw [List.length_append, EL2.out.2]
                            simp
                            omega
                          · exact ((((BW2.out.grown HG3.out BS.out.1 (by simp)).grown HG5.out (Nat.le_trans BS.out.1 HG3.out.size) (fun k hk => Nat.le_trans BS.out.1 (own_lt HO3.out k hk).1)))).setCell (p := ⟨_, _, none⟩) RS2.out.2.2.2 _
                          · exact ((KW2.out.1.trans (Kp.grown HG3.out P) (by simp)).trans (Kp.grown HG5.out P) (fun k hk => .inl (Nat.le_trans BS.out.2 (own_lt HO3.out k hk).1))).trans (Kp.setCell w4 P 5 _ vb) (fun k hk => .inr (.inl hk))
                          · rw [if_pos rfl, List.append_assoc]
                            exact hfin
                        go_wp2
                        go_roundw
                        case rel => exact ⟨i + 1, by go_num, .inr ⟨rfl, by omega, MN.out, rfl⟩⟩
                        case measure => simp [intOf, yes]; omega
                    · have g2' : (s1 == h + 1) = false := by simp [g2]
                      have KN : Hid (key (m : Int) (h + 1) (cm ws' i) = false) := by show _ = _; rw [← ES.out]; simp [key, g2]
                      go_wp2
                      go_quiet (fail)
                      go_wp2
                      go_roundw
                      case rel => exact ⟨i + 1, by go_num, .inl ⟨rfl, rfl, by omega, ⟨_, rfl⟩, scan_step hsc.out KN.out⟩⟩
                      case measure => simp [intOf, yes]; omega
                  · have g1' : (s0 == (m : Int)) = false := by simp [g1]
                    have KN : Hid (key (m : Int) (h + 1) (cm ws' i) = false) := by show _ = _; rw [← ES.out]; simp [key, g1]
                    go_wp2
                    go_quiet (fail)
                    go_wp2
                    go_roundw
                    case rel => exact ⟨i + 1, by go_num, .inl ⟨rfl, rfl, by omega, ⟨_, rfl⟩, scan_step hsc.out KN.out⟩⟩
                    case measure => simp [intOf, yes]; omega
                · have hil : l2 = i := by omega
                  subst hil
                  have MF : Hid (Mid w base P m H vb fin (wo.drewN nd) (.slice qo lo co) false) := by
                    obtain ⟨hR, hO, hU, hK, hB, hKp, hfin⟩ := ST.out
                    have hn := scan_end (by rw [EL2.out.1]; exact hsc.out)
                    rw [run_stop hn, List.append_nil] at hfin
                    rw [EL2.out.2] at hO
                    refine ⟨h, ws', out, .slice q2 ws'.length cap2, hR, by rw [EL2.out.2]; exact hO, hU, hh, hK, by rw [EL2.out.1, EL2.out.2]; omega, below_drewN hB _, hKp, ?_⟩
                    rw [if_neg (by decide)]
                    exact hfin
                  go_wp2
                  go_roundw
                  case rel => exact ⟨false, rfl, MF.out⟩
                  case measure => simp [lenOf, yes]
              · obtain ⟨h2, ws2, o2, v2, hR2, hO2, -⟩ := hM.out
                obtain ⟨qo', co', hvo⟩ := own_form hO2
                obtain ⟨q3, cap3, hv3, -, -, -⟩ := hR2.2.1.form
                have c5 := hR2.wait.1
                rw [hv3] at c5
                obtain ⟨l3, el3⟩ : ∃ l, l = ws2.length := ⟨_, rfl⟩
                rw [← el3] at c5
                rw [hvo] at hlo
                have hlo2 : o2.length = lo + 1 := hlo
                rw [hlo2] at hvo
                subst hvo
                clear hR2 hO2 hv3 el3 hlo hlo2 z0 z5 c0
                by_cases hlt : i < l3
                · have hil : (i : Int) < (l3 : Int) := by omega
                  go_wp2
                  go_roundw
                  case rel => exact ⟨true, rfl, hM.out⟩
                  case measure => simp [lenOf, yes]; omega
                · have hil : (l3 : Int) ≤ (i : Int) := by omega
                  go_wp2
                  go_roundw
                  case rel => exact ⟨true, rfl, hM.out⟩
                  case measure => simp [lenOf, yes]; omega

set_option maxRecDepth 100000 in
theorem refTake_bad (base P : Nat) (who n word : Int) (w : World) (hb : bad who n word = true) :
    Calls Tryd.prog 10 #[.pointer (some ⟨P, 0, none⟩), .int .i64 who, .int .i64 n, .int .i64 word] w fun x w' => x = .returned (.tuple #[.slice none 0 0, .int .i64 1]) ∧ w' = w := by
  have hc : who < 0 ∨ (0 ≤ who ∧ 4 < who) ∨ (0 ≤ who ∧ who ≤ 4 ∧ n < 1) ∨ (0 ≤ who ∧ who ≤ 4 ∧ 1 ≤ n ∧ 1000000 < n) ∨ (0 ≤ who ∧ who ≤ 4 ∧ 1 ≤ n ∧ n ≤ 1000000 ∧ word < 1) ∨ (0 ≤ who ∧ who ≤ 4 ∧ 1 ≤ n ∧ n ≤ 1000000 ∧ 1 ≤ word ∧ 30 < word) := by
    simp [bad] at hb
    omega
  rcases hc with h1 | ⟨h1, h2⟩ | ⟨h1, h2, h3⟩ | ⟨h1, h2, h3, h4⟩ | ⟨h1, h2, h3, h4, h5⟩ | ⟨h1, h2, h3, h4, h5, h6⟩
  all_goals
    go_enter Tryd.func10, Tryd.ntmps10
    go_wp2
    go_ret2
    exact ⟨rfl, rfl⟩
end Go.Proofs.YtgcdbcljneoifacDoor.Fif
