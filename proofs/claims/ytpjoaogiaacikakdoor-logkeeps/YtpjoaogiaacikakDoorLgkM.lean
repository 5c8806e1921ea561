/-
  Plain facts: where each record ends; what is left behind a crash.
-/
import Derived.Test.YtpjoaogiaacikakDoorLgsM
namespace Go.Proofs.YtpjoaogiaacikakDoor.Lgs
open Go.Proofs.YtpjoaogiaacikakDoor.His (Ev ev next chkC chk_ok chk_zero isOne says)
set_option linter.unusedVariables false

/-- where each record ends, and where the first one begins -/
def marks (l : L) : List Int := (List.range (l.rs.length + 1)).map fun i => ((l.rs.take i).sum : Int)
theorem marks_len (l : L) : (marks l).length = l.rs.length + 1 := by simp [marks]
theorem marks_get (l : L) {i : Nat} (h : i ≤ l.rs.length) : (marks l).getD i 0 = ((l.rs.take i).sum : Int) := by
  simp [marks, List.getD, show i < l.rs.length + 1 by omega]
theorem marks_new : marks new = [0] := by simp [marks, new]
variable {l : L} {e : Ev} {k : Nat}
theorem do_ok (h : doC l e = 0) : l.stop = false ∧ chkC (l.es ++ [e]) = 0 ∧ doL l e k = { l with es := l.es ++ [e], rs := l.rs ++ [k], left := tick l.left } := by
  unfold doC at h
  split at h
  · omega
  · rename_i h1
    split at h
    · rename_i h2
      exact absurd h h2
    · rename_i h2
      split at h
      · omega
      · rename_i h3
        have h1' : l.stop = false := by simpa using h1
        have h2' : chkC (l.es ++ [e]) = 0 := Decidable.byContradiction h2
        refine ⟨h1', h2', ?_⟩
        unfold doL
        rw [if_neg (by rw [h1', h2']; simp), if_neg h3]
theorem do_no (h : doC l e ≠ 0) (k : Nat) : (doL l e k).es = l.es ∧ (doL l e k).rs = l.rs ∧ (doL l e k).safe = l.safe := by
  unfold doL
  split
  · exact ⟨rfl, rfl, rfl⟩
  · rename_i h1
    split
    · exact ⟨rfl, rfl, rfl⟩
    · rename_i h2
      exfalso
      apply h
      have hs : l.stop = false := by cases q : l.stop <;> simp_all
      have hc : chkC (l.es ++ [e]) = 0 := Decidable.byContradiction fun z => h1 (.inr z)
      unfold doC
      rw [if_neg (by rw [hs]; decide), if_neg (by rw [hc]; decide), if_neg h2]
/-- it is told what is wrong, or it has stopped -/
theorem do_told : doC l e = 6 ∨ doC l e = chkC (l.es ++ [e]) := by
  unfold doC
  split
  · exact .inl rfl
  · split
    · exact .inr rfl
    · rename_i h
      split
      · exact .inl rfl
      · exact .inr (Decidable.byContradiction fun z => h (fun q => z q.symm))
theorem do_bytes (g : Inv l) (h : doC l e = 0) : bytes (doL l e k) = bytes l + k := by
  obtain ⟨h1, h2, h3⟩ := do_ok (k := k) h
  have := g.half0 h1
  rw [h3]
  unfold bytes
  simp
  omega
theorem marks_do (g : Inv l) (h : doC l e = 0) : marks (doL l e k) = marks l ++ [(bytes (doL l e k) : Int)] := by
  have hb := do_bytes (k := k) g h
  obtain ⟨h1, h2, h3⟩ := do_ok (k := k) h
  have h0 := g.half0 h1
  have hby : bytes l = l.rs.sum := by unfold bytes; omega
  rw [hb, hby]
  unfold marks
  rw [h3]
  simp only [List.length_append, List.length_cons, List.length_nil]
  rw [List.range_succ, List.map_append]
  congr 1
  · apply List.map_congr_left
    intro i hi
    have := List.mem_range.1 hi
    rw [List.take_append_of_le_length (by omega)]
  · simp only [List.map_cons, List.map_nil]
    rw [List.take_of_length_le (by simp), List.sum_append]
    simp
theorem marks_same (h : doC l e ≠ 0) (k : Nat) : marks (doL l e k) = marks l := by
  unfold marks
  rw [(do_no h k).2.1]
theorem sync_same : (syncL l).es = l.es ∧ (syncL l).rs = l.rs := by
  unfold syncL
  split
  · exact ⟨rfl, rfl⟩
  · split <;> exact ⟨rfl, rfl⟩
theorem marks_sync : marks (syncL l) = marks l := by
  unfold marks
  rw [sync_same.2]
theorem sync_safe (g : Inv l) (h : syncC l = 0) : (syncL l).safe = bytes (syncL l) := by
  unfold syncC at h
  split at h
  · omega
  · rename_i h1
    have hs : l.stop = false := by cases q : l.stop <;> simp_all
    have h0 : l.left ≠ 0 := fun q => h1 (.inr q)
    unfold syncL
    rw [if_neg (by rw [hs]; decide), if_neg h0]
    rfl
/-- how many records are whole behind a crash -/
def kept (l : L) (keep : Int) : Nat := whole l.rs (high l keep)
theorem kept_le (keep : Int) : kept l keep ≤ l.rs.length := whole_le _ _
theorem mark_below {keep : Int} {i : Nat} (hi : i ≤ l.rs.length) : ((marks l).getD i 0 ≤ (high l keep : Int)) ↔ i ≤ kept l keep := by
  rw [marks_get l hi]
  have := whole_iff (rs := l.rs) (h := high l keep) hi
  unfold kept
  rw [← this]
  omega
theorem crash_es (keep : Int) : (crashL l keep).es = l.es.take (kept l keep) := rfl
theorem marks_crash (keep : Int) : marks (crashL l keep) = (marks l).take (kept l keep + 1) := by
  have hk := kept_le (l := l) keep
  have e : (crashL l keep).rs = l.rs.take (kept l keep) := rfl
  apply List.ext_getElem
  · rw [marks_len, e, List.length_take, List.length_take, marks_len]
    omega
  · intro i h1 h2
    rw [List.length_take, marks_len] at h2
    simp only [List.getElem_take]
    unfold marks
    simp only [List.getElem_map, List.getElem_range, e, List.take_take]
    rw [Nat.min_eq_left (by omega)]
theorem crash_bytes (keep : Int) : bytes (crashL l keep) = (crashL l keep).safe ∧ ((crashL l keep).safe : Int) = (marks l).getD (kept l keep) 0 := by
  refine ⟨?_, ?_⟩
  · unfold bytes crashL
    simp
  · rw [marks_get l (kept_le keep)]
    rfl
/-- which is the last mark that is not above, of the first so many -/
def lastOf (m i : Nat) : Nat := min (i - 1) m
theorem last_step {m i : Nat} (h : i ≤ m) : lastOf m (i + 1) = i := by unfold lastOf; omega
theorem last_stay {m i : Nat} (h : m < i) : lastOf m (i + 1) = lastOf m i := by unfold lastOf; omega
theorem last_all {m n : Nat} (h : m ≤ n) : lastOf m (n + 1) = m := by unfold lastOf; omega
theorem high_of (g : Inv l) (keep : Int) : (high l keep : Int) = if keep ≤ 0 then (l.safe : Int) else if keep < (bytes l : Int) - l.safe then (l.safe : Int) + keep else (bytes l : Int) := by
  have := g.small.2.2
  unfold high
  split
  · rfl
  · split
    · omega
    · omega
/-- the fact: what is safe stays, what is not goes -/
def say1 : Ev := (0, 2, 1)
def hear1 : Ev := (1, 3, 1)
theorem fact_one (k : Nat) : doC new say1 = 0 ∧ doL new say1 k = ⟨[say1], [k], 0, 0, -1, false⟩ := ⟨by decide, (do_ok (k := k) (by decide)).2.2⟩
theorem fact_two (k : Nat) : syncC (doL new say1 k) = 0 ∧ syncL (doL new say1 k) = ⟨[say1], [k], 0, k, -1, false⟩ := by
  rw [(fact_one k).2]
  refine ⟨rfl, ?_⟩
  simp [syncL, bytes, tick]
theorem fact_three (k k2 : Nat) : doC (syncL (doL new say1 k)) hear1 = 0 ∧ doL (syncL (doL new say1 k)) hear1 k2 = ⟨[say1, hear1], [k, k2], 0, k, -1, false⟩ := by
  have hc : chkC ([say1] ++ [hear1]) = 0 := by decide
  have hd : doC (syncL (doL new say1 k)) hear1 = 0 := by
    rw [(fact_two k).2]
    unfold doC
    rw [if_neg (by simp), hc, if_neg (by simp), if_neg (by simp)]
  refine ⟨hd, ?_⟩
  rw [(do_ok (k := k2) hd).2.2, (fact_two k).2]
  rfl
theorem fact_four {k k2 : Nat} (h2 : 2 ≤ k2) : (crashL (doL (syncL (doL new say1 k)) hear1 k2) 0).es = [say1] := by
  rw [(fact_three k k2).2]
  show List.take (whole [k, k2] (high _ 0)) [say1, hear1] = [say1]
  have e : high (⟨[say1, hear1], [k, k2], 0, k, -1, false⟩ : L) 0 = k := rfl
  rw [e]
  have w : whole [k, k2] k = 1 := by
    simp [whole]
    omega
  rw [w]
  rfl
end Go.Proofs.YtpjoaogiaacikakDoor.Lgs
