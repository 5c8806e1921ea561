/-
  The landed package stable in memory: a block of a number and five rows of five; what a copy into a row leaves.
-/
import Derived.Test.YtcmiihdbkdcfgagStbE
import Derived.Test.YtcmiihdbkdcfgagVecK
import Derived.Deep.QuietTactic
import Derived.BigQuiet
import Derived.Deep.RegionHeld3
import Derived.WalkLawsBesides
import Derived.Handy
namespace Go.Proofs.Ytcmiihdbkdcfgag.Stb
open Go.RowKit
open Go.Proofs.Ytcmiihdbkdcfgag.Vec (Vw)
open Go.Proofs.Ytcmiihdbkdcfgag.Sep (KpL NewL)
open Go.Proofs.Ytcmiihdbkdcfgag.Ldr (errF errF_ok errF_no Sl)
open Go.Proofs.Ytcmiihdbkdcfgag.His (joinR joinR_len getD_joinR zero5)
set_option linter.unusedVariables false
variable {w w' : World} {base P : Nat} {t : T} {ff : List Nat}

/-- the least of the first so many, as the program counts it -/
def hm (t : T) (i : Nat) : Nat → Int
  | 0 => 1000000
  | k + 1 => min (hm t i k) ((t.r k).getD i 0)
theorem hm_mn (hi : Inv t) (i : Nat) : ∀ k, hm t i (k + 1) = mn t i k := by
  intro k
  induction k with
  | zero =>
    show min 1000000 ((t.r 0).getD i 0) = (t.r 0).getD i 0
    have := (hi.rng 0 i).2
    omega
  | succ k ih =>
    show min (hm t i (k + 1)) ((t.r (k + 1)).getD i 0) = min (mn t i k) ((t.r (k + 1)).getD i 0)
    rw [ih]
theorem hm_ls (hi : Inv t) (i : Nat) : hm t i t.n = ls t i := by
  have h2 := hi.two
  have e := hm_mn hi i (t.n - 1)
  rw [show t.n - 1 + 1 = t.n by omega] at e
  exact e
theorem hm_rng (hi : Inv t) (i : Nat) : ∀ k, 0 ≤ hm t i k ∧ hm t i k ≤ 1000000 := by
  intro k
  induction k with
  | zero => exact ⟨by show (0 : Int) ≤ 1000000; omega, Int.le_refl _⟩
  | succ k ih =>
    have := hi.rng k i
    show 0 ≤ min (hm t i k) ((t.r k).getD i 0) ∧ min (hm t i k) ((t.r k).getD i 0) ≤ 1000000
    omega
/-! in memory -/
def av (t : T) (j : Nat) : Value := if j = 0 then .int .i64 (t.n : Int) else .int .i64 ((t.r ((j - 1) / 5)).getD ((j - 1) % 5) 0)
def BS (w : World) (base P : Nat) (t : T) (fp : List Nat) : Prop := fp = [P] ∧ base ≤ P ∧ w.rowIs P 105 26 (av t)
theorem BS.of_blocks {w w' : World} {base P : Nat} {t : T} {fp : List Nat} (h : BS w base P t fp) (hs : w.heap.size ≤ w'.heap.size) (hk : ∀ b ∈ fp, w'.heap[b]? = w.heap[b]?) : BS w' base P t fp := by
  obtain ⟨rfl, h1, h2⟩ := h
  exact ⟨rfl, h1, World.rowIs.of_block h2 (hk P (by simp))⟩
theorem BS.fp {w : World} {base P : Nat} {t : T} {fp : List Nat} (h : BS w base P t fp) : ∀ b ∈ fp, base ≤ b ∧ b < w.heap.size := by
  obtain ⟨rfl, h1, h2⟩ := h
  intro b hb
  obtain rfl : b = P := by simpa using hb
  exact ⟨h1, World.rowIs.lt h2⟩
theorem BS.lower {w : World} {base base' P : Nat} {t : T} {fp : List Nat} (h : BS w base P t fp) (hb : base' ≤ base) : BS w base' P t fp := ⟨h.1, Nat.le_trans hb h.2.1, h.2.2⟩
theorem BS.low (h : BS w base P t ff) (hb : Below w.heap.size w w') : BS w' base P t ff := h.of_blocks hb.size fun b q => hb.block b (h.fp b q).2
theorem BS.c0 (h : BS w base P t ff) : w.cell? ⟨P, 0, none⟩ = some (.int .i64 (t.n : Int)) := World.rowIs.cell h.2.2 (i := 0) (by omega)
theorem BS.lt (h : BS w base P t ff) : P < w.heap.size := World.rowIs.lt h.2.2
theorem BS.cr (h : BS w base P t ff) {m i : Nat} (hm : m < 5) (hi : i < 5) : w.cell? ⟨P, 1 + m * 5 + i, none⟩ = some (.int .i64 ((t.r m).getD i 0)) := by
  rw [World.rowIs.cell h.2.2 (i := 1 + m * 5 + i) (by omega)]
  unfold av
  rw [if_neg (by omega), show (1 + m * 5 + i - 1) / 5 = m by omega, show (1 + m * 5 + i - 1) % 5 = i by omega]
/-- a row of it is a vector -/
theorem BS.vw (h : BS w base P t ff) (hi : Inv t) {m : Nat} (hm : m < 5) : Vw w (some ⟨P, 1 + m * 5, none⟩) 5 (t.r m) := ⟨hi.len m, fun _ => ⟨P, 1 + m * 5, rfl, h.lt, fun k hk => h.cr hm hk⟩⟩
theorem five {xs : List Int} (h : xs.length = 5) : ∃ x0 x1 x2 x3 x4, xs = [x0, x1, x2, x3, x4] := by
  match xs, h with
  | [x0, x1, x2, x3, x4], _ => exact ⟨x0, x1, x2, x3, x4, rfl⟩
theorem info1 : (Try.prog.info? 3).map (·.size) = some 1 := by kernel_rfl
/-- five numbers of a list that is seen as cells -/
theorem src5 {a : Addr} {xs : List Int} (hv : Vw w (some a) 5 xs) (j : Nat) (v : Value) (hj : (xs.map (Value.int .i64))[j]? = some v) : w.cell? (a.add j) = some v := by
  obtain ⟨b, off, e, hlt, hc⟩ := hv.2 (by omega)
  injection e with e
  subst e
  have hl := hv.1
  rw [List.getElem?_map] at hj
  by_cases q : j < xs.length
  · rw [List.getElem?_eq_getElem q] at hj
    have e2 : (Value.int .i64 xs[j]) = v := by simpa using hj
    rw [Addr.add_lit, hc j (by omega), ← e2]
    simp [List.getD, q]
  · rw [List.getElem?_eq_none (by omega)] at hj
    cases hj
/-- a copy of five numbers into a row of it -/
theorem copyIn (h : BS w base P t ff) (hi : Inv t) {m : Nat} (hm : m < t.n) {a : Addr} {cap cap' : Nat} {xs : List Int} (hv : Vw w (some a) 5 xs) (ha : a.block ≠ P) : ∃ w', (Builtin.copy_ #[22, 22] 3 #[.slice (some ⟨P, 1 + m * 5, none⟩) 5 cap', .slice (some a) 5 cap]).run Try.prog w = .ok (.int .i64 5) w' ∧ BS w' base P { t with r := up t.r m xs } ff ∧ KpL w w' [P] ∧ Below base w w' := by
  have h5 := hi.five
  obtain ⟨rfl, hlo, cur, hb, hn, hc⟩ := h
  have hl := hv.1
  have e := run_copy_row Try.prog w 22 22 3 3 P (1 + m * 5) 5 cap' a 5 cap cur 105 (xs.map (Value.int .i64)) Try.underlying22 info1 hb (by simp [hl]) (fun j v hj => src5 hv j v hj) (by simp [hl, hn]; omega) (by intro v hv; obtain ⟨x, _, rfl⟩ := List.mem_map.1 hv; rfl)
  rw [List.length_map, hl] at e
  refine ⟨_, e, ⟨rfl, hlo, _, setRow_heap w P cur _ _ _ hb, ?_, ?_⟩, ⟨?_, ?_⟩, ⟨rfl, rfl, rfl, by simp, fun b q => setRow_other w P b _ (by omega)⟩⟩
  · simp [hl, hn]
    omega
  · intro j hj
    simp only [List.getElem?_toArray]
    unfold av
    by_cases q0 : j < 1 + m * 5
    · rw [List.getElem?_append_left (by simp [hl, hn]; omega), List.getElem?_append_left (by simp [hn]; omega), List.getElem?_take_of_lt q0]
      have := hc j hj
      rw [Array.getElem?_toList, this]
      unfold av
      by_cases z : j = 0
      · rw [if_pos z, if_pos z]
      · rw [if_neg z, if_neg z]
        show _ = some (Value.int .i64 ((up t.r m xs ((j - 1) / 5)).getD ((j - 1) % 5) 0))
        rw [up_other _ _ (by omega)]
    · by_cases q1 : j < 1 + m * 5 + 5
      · rw [List.getElem?_append_left (by simp [hl, hn]; omega), List.getElem?_append_right (by simp [hn]; omega)]
        rw [if_neg (by omega)]
        show _ = some (Value.int .i64 ((up t.r m xs ((j - 1) / 5)).getD ((j - 1) % 5) 0))
        have e1 : (List.take (1 + m * 5) cur.toList).length = 1 + m * 5 := by simp [hn]; omega
        rw [e1, show (j - 1) / 5 = m by omega, up_same, show (j - 1) % 5 = j - (1 + m * 5) by omega, List.getElem?_map, List.getElem?_eq_getElem (by omega)]
        simp [List.getD, show j - (1 + m * 5) < xs.length by omega]
      · have e1 : (List.take (1 + m * 5) cur.toList ++ xs.map (Value.int .i64)).length = 1 + m * 5 + 5 := by simp [hn, hl]; omega
        rw [List.getElem?_append_right (by rw [e1]; omega), e1, List.getElem?_drop, show 1 + m * 5 + 5 + (j - (1 + m * 5 + 5)) = j by omega]
        have := hc j hj
        rw [Array.getElem?_toList, this]
        unfold av
        rw [if_neg (by omega), if_neg (by omega)]
        show _ = some (Value.int .i64 ((up t.r m xs ((j - 1) / 5)).getD ((j - 1) % 5) 0))
        rw [up_other _ _ (by omega)]
  · simp
  · intro b hb' hne
    exact setRow_other w P b _ (by simpa using hne)
end Go.Proofs.Ytcmiihdbkdcfgag.Stb
