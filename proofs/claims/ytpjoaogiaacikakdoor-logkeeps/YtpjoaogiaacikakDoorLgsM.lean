/-
  Plain facts on a history that is kept as records: what is done, what stops, what is left behind a crash.
-/
import Derived.Test.YtpjoaogiaacikakDoorHisC
namespace Go.Proofs.YtpjoaogiaacikakDoor.Lgs
open Go.Proofs.YtpjoaogiaacikakDoor.His (Ev ev next chkC chk_ok chk_zero chk_bad isOne says)
set_option linter.unusedVariables false

/-- a log: the history, the sizes of its records, the bytes of a record that is not whole, how many are safe, how many steps are left till it stops (below 0: it does not), has it stopped -/
structure L where
  es : List Ev
  rs : List Nat
  half : Nat
  safe : Nat
  left : Int
  stop : Bool
def new : L := ⟨[], [], 0, 0, -1, false⟩
def bytes (l : L) : Nat := l.rs.sum + l.half
def tick (n : Int) : Int := if n < 0 then -1 else n - 1
def doC (l : L) (e : Ev) : Int := if l.stop = true then 6 else if chkC (l.es ++ [e]) ≠ 0 then chkC (l.es ++ [e]) else if l.left = 0 then 6 else 0
def doL (l : L) (e : Ev) (k : Nat) : L :=
  if l.stop = true ∨ chkC (l.es ++ [e]) ≠ 0 then l else if l.left = 0 then { l with half := k / 2, stop := true } else { l with es := l.es ++ [e], rs := l.rs ++ [k], left := tick l.left }
def syncC (l : L) : Int := if l.stop = true ∨ l.left = 0 then 6 else 0
def syncL (l : L) : L := if l.stop = true then l else if l.left = 0 then { l with stop := true } else { l with safe := bytes l, left := tick l.left }
def failL (l : L) (n : Int) : L := { l with left := if n < 0 then -1 else n }
/-- how many records are whole among the first so many bytes -/
def whole : List Nat → Nat → Nat
  | [], _ => 0
  | r :: rs, h => if r ≤ h then whole rs (h - r) + 1 else 0
def high (l : L) (keep : Int) : Nat := if keep ≤ 0 then l.safe else min (l.safe + keep.toNat) (bytes l)
def crashL (l : L) (keep : Int) : L := ⟨l.es.take (whole l.rs (high l keep)), l.rs.take (whole l.rs (high l keep)), 0, (l.rs.take (whole l.rs (high l keep))).sum, -1, false⟩
structure Inv (l : L) : Prop where
  len : l.rs.length = l.es.length
  good : chkC l.es = 0
  two : ∀ r ∈ l.rs, 2 ≤ r ∧ r ≤ 1000
  half0 : l.stop = false → l.half = 0
  half1 : l.half ≤ 1000
  safe : l.safe ≤ l.rs.sum
  left : -1 ≤ l.left
theorem chk_snoc {h : List Ev} {e : Ev} (h0 : chkC h = 0) (hl : h.length < 60) : chkC (h ++ [e]) = next h e := by
  obtain ⟨h60, hg⟩ := chk_zero h0
  have e1 : ev (h ++ [e]) h.length = e := by simp [ev, List.getD]
  have e2 : (h ++ [e]).take h.length = h := by simp
  have g : His.Good (h ++ [e]) h.length := fun i hi => by
    have := hg i hi
    rw [List.take_append_of_le_length (by omega)]
    have e3 : ev (h ++ [e]) i = ev h i := by simp [ev, List.getD, List.getElem?_append_left hi]
    rw [e3]
    exact this
  by_cases hz : next h e = 0
  · rw [hz]
    refine (chk_ok (by simp; omega) fun i hi => ?_).1
    simp only [List.length_append, List.length_cons, List.length_nil] at hi
    by_cases q : i < h.length
    · exact g i q
    · rw [show i = h.length by omega, e1, e2]
      exact hz
  · rw [(chk_bad (i := h.length) (by simp; omega) (by simp) g (by rw [e1, e2]; exact hz)).1, e1, e2]
theorem chk_more {h : List Ev} {e : Ev} (h0 : chkC (h ++ [e]) = 0) : h.length < 60 := by
  have := (chk_zero h0).1
  simp at this
  omega
theorem chk_take {h : List Ev} (h0 : chkC h = 0) (n : Nat) : chkC (h.take n) = 0 := by
  obtain ⟨h60, hg⟩ := chk_zero h0
  refine (chk_ok (by rw [List.length_take]; omega) fun i hi => ?_).1
  rw [List.length_take] at hi
  have := hg i (by omega)
  rw [List.take_take, Nat.min_eq_left (by omega)]
  have e : ev (h.take n) i = ev h i := by simp [ev, List.getD, show i < n by omega]
  rw [e]
  exact this
theorem Inv.new : Inv new := ⟨rfl, by decide, fun r h => absurd h (by simp [Lgs.new]), fun _ => rfl, by simp [Lgs.new], by simp [Lgs.new], by simp [Lgs.new]⟩
theorem tick_left {n : Int} (h : -1 ≤ n) (h0 : n ≠ 0) : -1 ≤ tick n := by
  unfold tick
  split
  · omega
  · omega
theorem Inv.doL {l : L} (g : Inv l) (e : Ev) {k : Nat} (h2 : 2 ≤ k) (hk : k ≤ 1000) : Inv (doL l e k) := by
  unfold Lgs.doL
  split
  · exact g
  · rename_i hn
    have hs : l.stop = false := by cases h : l.stop <;> simp_all
    have hc : chkC (l.es ++ [e]) = 0 := Decidable.byContradiction fun z => hn (.inr z)
    split
    · exact ⟨g.len, g.good, g.two, fun h => by simp at h, by show k / 2 ≤ 1000; omega, g.safe, g.left⟩
    · rename_i h0
      refine ⟨by simp [g.len], hc, fun r hr => ?_, fun _ => g.half0 hs, g.half1, ?_, tick_left g.left h0⟩
      · rcases List.mem_append.1 hr with q | q
        · exact g.two r q
        · obtain rfl := List.mem_singleton.1 q
          exact ⟨h2, hk⟩
      · show l.safe ≤ (l.rs ++ [k]).sum
        have := g.safe
        simp
        omega
theorem Inv.syncL {l : L} (g : Inv l) : Inv (syncL l) := by
  unfold Lgs.syncL
  split
  · exact g
  · rename_i hs
    split
    · exact ⟨g.len, g.good, g.two, fun h => by simp at h, g.half1, g.safe, g.left⟩
    · rename_i h0
      have hh : l.half = 0 := g.half0 (by simpa using hs)
      exact ⟨g.len, g.good, g.two, g.half0, g.half1, by show bytes l ≤ l.rs.sum; unfold bytes; omega, tick_left g.left h0⟩
theorem Inv.failL {l : L} (g : Inv l) (n : Int) : Inv (failL l n) := ⟨g.len, g.good, g.two, g.half0, g.half1, g.safe, by show -1 ≤ if n < 0 then -1 else n; split <;> omega⟩
theorem whole_le : ∀ (rs : List Nat) (h : Nat), whole rs h ≤ rs.length
  | [], _ => Nat.le_refl _
  | r :: rs, h => by
    unfold whole
    split
    · have := whole_le rs (h - r)
      simp
      omega
    · simp
theorem whole_sum : ∀ (rs : List Nat) (h : Nat), (rs.take (whole rs h)).sum ≤ h
  | [], h => by simp [whole]
  | r :: rs, h => by
    unfold whole
    split
    · have := whole_sum rs (h - r)
      rw [List.take_succ_cons, List.sum_cons]
      omega
    · simp
theorem whole_next : ∀ (rs : List Nat) (h : Nat), whole rs h < rs.length → h < (rs.take (whole rs h + 1)).sum
  | [], h => by simp [whole]
  | r :: rs, h => by
    intro hl
    unfold whole at hl ⊢
    split
    · rename_i hr
      rw [if_pos hr] at hl
      have := whole_next rs (h - r) (by simp at hl; omega)
      rw [List.take_succ_cons, List.sum_cons]
      omega
    · simp
      omega
theorem sum_take_mono (rs : List Nat) {i j : Nat} (h : i ≤ j) : (rs.take i).sum ≤ (rs.take j).sum := by
  have e : rs.take j = rs.take i ++ (rs.drop i).take (j - i) := by
    rw [← List.take_append_drop i (rs.take j), List.take_take, Nat.min_eq_left h, List.drop_take]
  rw [e, List.sum_append]
  omega
/-- the marks up to it are below, those behind it are above -/
theorem whole_iff {rs : List Nat} {h i : Nat} (hi : i ≤ rs.length) : (rs.take i).sum ≤ h ↔ i ≤ whole rs h := by
  constructor
  · intro q
    refine Decidable.byContradiction fun z => ?_
    have := whole_next rs h (by omega)
    have := sum_take_mono rs (i := whole rs h + 1) (j := i) (by omega)
    omega
  · intro q
    exact Nat.le_trans (sum_take_mono rs q) (whole_sum rs h)
theorem take_sum_le (rs : List Nat) (i : Nat) : (rs.take i).sum ≤ rs.sum := by
  have h := sum_take_mono rs (i := i) (j := max i rs.length) (Nat.le_max_left _ _)
  have e : rs.take (max i rs.length) = rs := List.take_of_length_le (Nat.le_max_right _ _)
  rw [e] at h
  exact h
theorem Inv.crashL {l : L} (g : Inv l) (keep : Int) : Inv (crashL l keep) := by
  unfold Lgs.crashL
  refine ⟨?_, chk_take g.good _, fun r hr => g.two r (List.mem_of_mem_take hr), fun _ => rfl, by simp, Nat.le_refl _, by simp⟩
  simp only [List.length_take, g.len]
theorem sum_bound : ∀ {rs : List Nat}, (∀ r ∈ rs, 2 ≤ r ∧ r ≤ 1000) → rs.sum ≤ 1000 * rs.length
  | [], _ => by simp
  | r :: rs, h => by
    have h1 := h r (by simp)
    have := sum_bound (rs := rs) fun q hq => h q (by simp [hq])
    rw [List.sum_cons, List.length_cons]
    omega
theorem Inv.small {l : L} (g : Inv l) : l.es.length ≤ 60 ∧ bytes l ≤ 61000 ∧ l.safe ≤ bytes l := by
  have h60 := (chk_zero g.good).1
  have hs := sum_bound g.two
  have := g.half1
  have := g.safe
  have := g.len
  unfold bytes
  refine ⟨h60, by omega, by omega⟩
end Go.Proofs.YtpjoaogiaacikakDoor.Lgs
