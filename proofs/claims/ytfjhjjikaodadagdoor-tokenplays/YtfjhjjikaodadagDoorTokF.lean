/-
  Places in a row that the call owns.
-/
import Derived.Test.YtfjhjjikaodadagDoorTokE
import Derived.Deep.QuietTactic
import Derived.BigQuiet
import Derived.Deep.RegionHeld3
import Derived.Deep.AppendLies
import Derived.WalkLawsBesides
import Derived.Handy
namespace Go.Proofs.YtfjhjjikaodadagDoor.Tok
open Go.RowKit
open Go.Proofs.YtfjhjjikaodadagDoor.Fif (own_lt own_block own_form own_mono)
set_option linter.unusedVariables false

def flatP (l : List (Int × Int)) : List Value := l.flatMap fun p => [.int .i64 p.1, .int .i64 p.2]
theorem flatP_len (l : List (Int × Int)) : (flatP l).length = l.length * 2 := by
  induction l with
  | nil => rfl
  | cons e l ih =>
    have : flatP (e :: l) = [.int .i64 e.1, .int .i64 e.2] ++ flatP l := rfl
    rw [this, List.length_append, ih, List.length_cons]
    simp
    omega
theorem flatP_append (l m : List (Int × Int)) : flatP (l ++ m) = flatP l ++ flatP m := by simp [flatP]
theorem flatP_one (l : List (Int × Int)) : ∀ u ∈ flatP l, u.oneCell' = true := by
  intro u hu
  obtain ⟨e, _, he⟩ := List.mem_flatMap.1 hu
  simp at he
  rcases he with rfl | rfl <;> rfl
theorem flatP_get (l : List (Int × Int)) : ∀ k, k < l.length → (flatP l)[k * 2]? = some (.int .i64 (l.getD k (0, 0)).1) ∧ (flatP l)[k * 2 + 1]? = some (.int .i64 (l.getD k (0, 0)).2) := by
  induction l with
  | nil => intro k hk; simp at hk
  | cons e l ih =>
    intro k hk
    have e3 : flatP (e :: l) = .int .i64 e.1 :: .int .i64 e.2 :: flatP l := rfl
    rw [e3]
    cases k with
    | zero => exact ⟨rfl, rfl⟩
    | succ k =>
      have := ih k (by simpa using hk)
      rw [show (k + 1) * 2 = k * 2 + 2 by omega]
      simpa using this
/-- places in a row that the call owns -/
abbrev Po (w : World) (base : Nat) (v : Value) (l : List (Int × Int)) : Prop := w.ownsRow base 37 2 v l.length (flatP l)
theorem Po.pl {w : World} {base : Nat} {v : Value} {l : List (Int × Int)} (o : Po w base v l) : ∃ a cap, v = .slice a l.length cap ∧ l.length ≤ cap ∧ cap ≤ maxLen ∧ Pl w a l.length l ∧ (∀ ad, a = some ad → base ≤ ad.block) := by
  rcases o.2 with ⟨h2, h3⟩ | ⟨g, cap, cur, hv, hb, hh, hc, hm, hsz, ht⟩
  · refine ⟨none, 0, by rw [h2, h3], by omega, Nat.zero_le _, ⟨rfl, fun q => by omega⟩, fun ad e => by cases e⟩
  · refine ⟨_, cap, hv, hc, hm, ⟨rfl, fun q => ⟨g, 0, rfl, (Array.getElem?_eq_some_iff.1 hh).1, fun k hk => ?_⟩⟩, fun ad e => by cases e; exact hb⟩
    obtain ⟨f0, f1⟩ := flatP_get l k hk
    have key : ∀ j u, j < l.length * 2 → (flatP l)[j]? = some u → w.cell? ⟨g, j, none⟩ = some u := by
      intro j u hj hu
      rw [← ht, List.getElem?_take_of_lt hj] at hu
      simp only [World.cell?, hh]
      simpa using hu
    rw [Nat.zero_add]
    exact ⟨key _ _ (by omega) f0, key _ _ (by omega) f1⟩
theorem info_pl : ∃ i, Tryd.prog.info? 37 = some i ∧ i.zero = some (.agg #[.int .i64 0, .int .i64 0]) ∧ i.size = 2 ∧ i.bytes = 16 := by
  have h : (Tryd.prog.info? 37).map (fun i => (i.zero, i.size, i.bytes)) = some (some (.agg #[.int .i64 0, .int .i64 0]), 2, 16) := by kernel_rfl
  cases q : Tryd.prog.info? 37 with
  | none => rw [q] at h; cases h
  | some i =>
    rw [q] at h
    simp only [Option.map_some, Option.some.injEq, Prod.mk.injEq] at h
    exact ⟨i, rfl, h.1, h.2.1, h.2.2⟩
theorem own_pushT {w w' : World} {base : Nat} {ob : Obj} {t : TypeId} {s n : Nat} {v : Value} {xs : List Value} (o : w.ownsRow base t s v n xs) (e : w'.heap = w.heap.push ob) : w'.ownsRow base t s v n xs := own_block o fun k hk => by
  rw [e, Array.getElem?_push_lt (own_lt o k hk).2, Array.getElem?_eq_getElem (own_lt o k hk).2]
theorem new_pushP {w w' : World} {x y : Int} {t : TypeId} (e : w'.heap = w.heap.push (.cells #[.int .i64 x, .int .i64 y] t)) : ∀ j u, (flatP [(x, y)])[j]? = some u → w'.cell? ((⟨w.heap.size, 0, none⟩ : Addr).add j) = some u := by
  have hb : w'.heap[w.heap.size]? = some (.cells #[.int .i64 x, .int .i64 y] t) := by rw [e]; simp
  exact World.news_of_block hb
theorem grown_tmpT {w X w5 : World} {ob : Obj} {r : Option Nat} (hg : X.grownBy w5 r) (e : X.heap = w.heap.push ob) (e1 : X.os = w.os) (e2 : X.tape = w.tape) (e3 : X.output = w.output) : w.grownBy w5 r := by
  obtain ⟨a1, a2, a3, a4, a5⟩ := hg
  refine ⟨a1.trans e1, a2.trans e2, a3.trans e3, ?_, fun k hk hne => ?_⟩
  · rw [e] at a4
    simp at a4
    omega
  · rw [a5 k (by rw [e]; simp; omega) hne, e, Array.getElem?_push_lt hk, Array.getElem?_eq_getElem hk]
end Go.Proofs.YtfjhjjikaodadagDoor.Tok
