/-
  Plain facts: words that are given places one by one, and taken by three members at once: each heard all, in the order of the places.
-/
import Derived.Test.YtcccheeeagphpagMgL
namespace Go.Proofs.Ytcccheeeagphpag.Ldr
set_option linter.unusedVariables false
variable {l : L}

structure TD (ws : List Int) (j : Nat) (l : L) : Prop where
  inv : Inv l
  n : l.n = 3
  all : l.ws = ws
  come : ∀ m i, l.come m i = true ↔ (m < 3 ∧ i + 1 < ws.length) ∨ (m < j ∧ m < 3 ∧ i + 1 = ws.length)
theorem TD.begin : TD [] 3 (start 3) := ⟨Inv.start (by decide) (by decide), rfl, rfl, fun m i => ⟨fun h => (by cases h), fun h => (by simp at h)⟩⟩
theorem TD.said {ws : List Int} (h : TD ws 3 l) {x : Int} (hc : sayC l x = 0) : TD (ws ++ [x]) 0 (say l x) ∧ sayP l x = ((ws.length : Int), x) := by
  have e : say l x = { l with ws := l.ws ++ [x] } := if_pos hc
  refine ⟨⟨h.inv.say x, by rw [say_n]; exact h.n, by rw [e, ← h.all], fun m i => ?_⟩, ?_⟩
  · have e1 : (say l x).come m i = l.come m i := by rw [e]
    rw [e1, h.come, List.length_append]
    simp only [List.length_cons, List.length_nil]
    omega
  · unfold sayP
    rw [if_pos hc, h.all]
theorem TD.taken {ws : List Int} {x : Int} {j : Nat} (h : TD (ws ++ [x]) j l) (hj : j < 3) : tkC l (j : Int) (ws.length : Int) = 0 ∧ TD (ws ++ [x]) (j + 1) (tk l (j : Int) (ws.length : Int)) := by
  have hl : (ws ++ [x]).length = ws.length + 1 := by simp
  obtain ⟨_, hc⟩ := tk_came (l := l) (m := j) (i := ws.length) (by rw [h.n]; exact hj) (by rw [h.all, hl]; omega)
  refine ⟨hc, h.inv.tk _ _, by rw [tk_n]; exact h.n, by rw [tk_ws]; exact h.all, fun m i => ?_⟩
  have e : (tk l (j : Int) (ws.length : Int)).come m i = if m = j ∧ i = ws.length then true else l.come m i := by
    unfold tk
    rw [if_pos hc]
    show (if m = ((j : Int)).toNat ∧ i = ((ws.length : Int)).toNat then true else l.come m i) = _
    rw [Int.toNat_natCast, Int.toNat_natCast]
  rw [e]
  by_cases q : m = j ∧ i = ws.length
  · rw [if_pos q, hl]
    simp
    omega
  · rw [if_neg q, h.come, hl]
    omega
theorem TD.heard {ws : List Int} (h : TD ws 3 l) {m : Nat} (hm : m < 3) : hd l (m : Int) = ws ∧ inC l (m : Int) = 0 := by
  have hml : m < l.n := by rw [h.n]; exact hm
  refine ⟨?_, in_ok hml⟩
  rw [hd_in hml, h.all]
  have e : hn l m = ws.length := by
    unfold hn
    rw [h.all]
    exact cons_all fun i hi => (h.come m i).2 (by omega)
  rw [e, List.take_length]
end Go.Proofs.Ytcccheeeagphpag.Ldr
