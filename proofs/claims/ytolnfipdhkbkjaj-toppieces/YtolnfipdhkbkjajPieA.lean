/-
  Rows of pieces, that the call owns or that are handed in; two lists of pieces are the same.
-/
import Derived.Test.YtolnfipdhkbkjajPieM
import Derived.Test.YtolnfipdhkbkjajFifA
import Derived.Deep.QuietTactic
import Derived.BigQuiet
import Derived.Deep.RegionHeld3
import Derived.Handy
import Derived.Laws.ResultCell
import Derived.Laws.Strings
import Derived.Lib.Strings
namespace Go.Proofs.Ytolnfipdhkbkjaj.Pie
open Go.RowKit
open Go.Proofs.Ytolnfipdhkbkjaj.Fif (own_lt own_block own_form own_mono Kp ret_bool)
set_option linter.unusedVariables false

def pc (l : List Pc) (i : Nat) : Pc := l.getD i (0, 0, .empty)
def flat (l : List Pc) : List Value := l.flatMap fun p => [.int .i64 p.1, .int .i64 p.2.1, .string p.2.2]
theorem flat_len (l : List Pc) : (flat l).length = l.length * 3 := by
  induction l with
  | nil => rfl
  | cons e l ih =>
    have : flat (e :: l) = [.int .i64 e.1, .int .i64 e.2.1, .string e.2.2] ++ flat l := rfl
    rw [this, List.length_append, ih, List.length_cons]
    simp
    omega
theorem flat_append (a b : List Pc) : flat (a ++ b) = flat a ++ flat b := by simp [flat]
theorem flat_one (l : List Pc) : ∀ u ∈ flat l, u.oneCell' = true := by
  intro u hu
  obtain ⟨e, _, he⟩ := List.mem_flatMap.1 hu
  simp at he
  rcases he with rfl | rfl | rfl <;> rfl
theorem flat_get (l : List Pc) : ∀ k, k < l.length → (flat l)[k * 3]? = some (.int .i64 (pc l k).1) ∧ (flat l)[k * 3 + 1]? = some (.int .i64 (pc l k).2.1) ∧ (flat l)[k * 3 + 2]? = some (.string (pc l k).2.2) := by
  induction l with
  | nil => intro k hk; simp at hk
  | cons e l ih =>
    intro k hk
    have e3 : flat (e :: l) = .int .i64 e.1 :: .int .i64 e.2.1 :: .string e.2.2 :: flat l := rfl
    rw [e3]
    cases k with
    | zero => exact ⟨rfl, rfl, rfl⟩
    | succ k =>
      have := ih k (by simpa using hk)
      have e0 : pc (e :: l) (k + 1) = pc l k := rfl
      rw [e0, show (k + 1) * 3 = k * 3 + 3 by omega]
      exact this
/-- pieces in a row that the call owns -/
def Po (w : World) (base : Nat) (v : Value) (l : List Pc) : Prop := w.ownsRow base 35 3 v l.length (flat l)
/-- pieces, each seen -/
def Pw (w : World) (a : Option Addr) (n : Nat) (l : List Pc) : Prop :=
  l.length = n ∧ (0 < n → ∃ b off, a = some ⟨b, off, none⟩ ∧ b < w.heap.size ∧ ∀ k, k < n → w.cell? ⟨b, off + k * 3, none⟩ = some (.int .i64 (pc l k).1) ∧ w.cell? ⟨b, off + k * 3 + 1, none⟩ = some (.int .i64 (pc l k).2.1) ∧ w.cell? ⟨b, off + k * 3 + 2, none⟩ = some (.string (pc l k).2.2))
theorem Pw.later {w w' : World} {a : Option Addr} {n : Nat} {l : List Pc} (g : Pw w a n l) (hb : Below w.heap.size w w') : Pw w' a n l := by
  refine ⟨g.1, fun hn => ?_⟩
  obtain ⟨b, off, e, hlt, hc⟩ := g.2 hn
  refine ⟨b, off, e, Nat.lt_of_lt_of_le hlt hb.size, fun k hk => ?_⟩
  obtain ⟨h0, h1, h2⟩ := hc k hk
  exact ⟨(hb.cell (p := ⟨b, off + k * 3, none⟩) hlt).trans h0, (hb.cell (p := ⟨b, off + k * 3 + 1, none⟩) hlt).trans h1, (hb.cell (p := ⟨b, off + k * 3 + 2, none⟩) hlt).trans h2⟩
theorem Po.later {w w' : World} {base : Nat} {v : Value} {l : List Pc} (h : Po w base v l) (hb : Below w.heap.size w w') : Po w' base v l := own_block h fun k hk => hb.block k (own_lt h k hk).2
theorem Po.view {w : World} {base : Nat} {v : Value} {l : List Pc} (h : Po w base v l) : ∃ q cap, v = .slice q l.length cap ∧ l.length ≤ maxLen ∧ Pw w q l.length l := by
  rcases h.2 with ⟨h2, h3⟩ | ⟨g, cap, cur, hv, hb, hh, hc, hm, hsz, ht⟩
  · refine ⟨none, 0, by rw [h3]; exact h2, by rw [h3]; unfold maxLen; omega, rfl, fun q => absurd q (by omega)⟩
  · have hlt : g < w.heap.size := by
      rcases Nat.lt_or_ge g w.heap.size with hlt | hge
      · exact hlt
      · rw [Array.getElem?_eq_none hge] at hh; cases hh
    have cell : ∀ j u, (flat l)[j]? = some u → w.cell? ⟨g, j, none⟩ = some u := by
      intro j u hj
      have hlt : j < l.length * 3 := by
        have := (List.getElem?_eq_some_iff.1 hj).1
        rwa [flat_len] at this
      rw [← ht, List.getElem?_take_of_lt hlt] at hj
      simp only [World.cell?, hh]
      simpa using hj
    refine ⟨_, cap, hv, by omega, rfl, fun _ => ⟨g, 0, rfl, hlt, fun k hk => ?_⟩⟩
    obtain ⟨a, b, c⟩ := flat_get l k hk
    rw [Nat.zero_add]
    exact ⟨cell _ _ a, cell _ _ b, cell _ _ c⟩
theorem infoP : (Try.prog.info? 35).map (fun i => (i.zero, i.size, i.bytes)) = some (some (.agg #[.int .i64 0, .int .i64 0, .string .empty]), 3, 32) := by kernel_rfl
theorem info_pc : ∃ i, Try.prog.info? 35 = some i ∧ i.zero = some (.agg #[.int .i64 0, .int .i64 0, .string .empty]) ∧ i.size = 3 ∧ i.bytes = 32 := by
  obtain ⟨i, hi, hzz⟩ := Option.map_eq_some_iff.1 infoP
  simp only [Prod.mk.injEq] at hzz
  exact ⟨i, hi, hzz.1, hzz.2.1, hzz.2.2⟩
theorem new_pc (w : World) (B : Nat) (hB : B = w.heap.size) (x0 x1 : Int) (x2 : ByteArray) (t : TypeId) : ∀ j u, (flat [(x0, x1, x2)])[j]? = some u → (w.alloc (.cells #[.int .i64 x0, .int .i64 x1, .string x2] t)).cell? ((⟨B, 0, none⟩ : Addr).add j) = some u := by
  subst hB
  intro j u hj
  rw [Addr.add_lit, Nat.zero_add]
  have hlt := (List.getElem?_eq_some_iff.1 hj).1
  rw [flat_len] at hlt
  simp only [List.length_cons, List.length_nil] at hlt
  rcases j with _ | _ | _ | j
  · simpa [flat] using hj
  · simpa [flat] using hj
  · simpa [flat] using hj
  · omega
theorem str_eq (a b : ByteArray) : (a.toList == b.toList) = decide (a = b) := by
  rw [Lib.toList_data, Lib.toList_data, Bool.eq_iff_iff, beq_iff_eq, decide_eq_true_eq]
  constructor
  · intro h
    cases a
    cases b
    congr 1
    exact Array.toList_inj.1 h
  · intro h; rw [h]
end Go.Proofs.Ytolnfipdhkbkjaj.Pie
