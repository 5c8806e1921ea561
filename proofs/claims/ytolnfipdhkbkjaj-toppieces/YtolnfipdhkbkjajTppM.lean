/-
  Plain facts: the row of a text's pieces is as long as the text, and three for each; pieces that come back to front, twice.
-/
import Derived.Test.YtolnfipdhkbkjajPibM
import Derived.Test.YtolnfipdhkbkjajWirH
namespace Go.Proofs.Ytolnfipdhkbkjaj.Wir
open Go.Proofs.Ytolnfipdhkbkjaj.Pie (Pc pc pcs pcs_len pcs_get pcBad cut cut_size cut_le many many_spec many_le BK put cnt)
set_option linter.unusedVariables false

theorem pc_at (t : ByteArray) (size : Nat) {n i : Nat} (h : i < n) : pc (pcs t size n) i = ((i : Int), (many t.size size : Int), cut t size i) := pcs_get t size h
theorem pcs_good {t : ByteArray} {size i : Nat} (h1 : 1 ≤ size) (h12 : size ≤ 12) (h60 : t.size ≤ 60) (hi : i < many t.size size) : pcBad (pc (pcs t size (many t.size size)) i) = false := by
  have m60 := many_le h1 h60
  have hc := cut_le t size i
  rw [pc_at t size hi]
  simp [pcBad]
  omega
theorem rows_ok {t : ByteArray} {size : Nat} (h1 : 1 ≤ size) (h12 : size ≤ 12) (h60 : t.size ≤ 60) : rowC (pcs t size (many t.size size)) = 0 ∧ rowS (pcs t size (many t.size size)) = rowN (pcs t size (many t.size size)) (many t.size size) := by
  have h := row_ok (l := pcs t size (many t.size size)) (by rw [pcs_len]; exact many_le h1 h60) (fun j hj => pcs_good h1 h12 h60 (by rw [pcs_len] at hj; exact hj))
  rw [pcs_len] at h
  exact h
theorem rowN_len {t : ByteArray} {size : Nat} (h1 : 1 ≤ size) : ∀ k, k ≤ many t.size size → (rowN (pcs t size (many t.size size)) k).size = 3 * k + min (k * size) t.size := by
  intro k
  induction k with
  | zero => intro _; simp [rowN]
  | succ k ih =>
    intro hk
    have hkt : k * size ≤ t.size := by
      obtain ⟨m1, m2, m3⟩ := many_spec (len := t.size) h1
      rcases Nat.eq_zero_or_pos k with rfl | hp
      · simp
      · have := m3 (by omega)
        have : k * size ≤ (many t.size size - 1) * size := Nat.mul_le_mul_right _ (by omega)
        omega
    rw [rowN_succ, ByteArray.size_append, ByteArray.size_append, txt_size, ih (by omega), pc_at t size (by omega)]
    simp only [List.length_cons, List.length_nil]
    rw [cut_size, Nat.add_mul, Nat.one_mul]
    omega
theorem rows_len {t : ByteArray} {size : Nat} (h1 : 1 ≤ size) : (rowN (pcs t size (many t.size size)) (many t.size size)).size = t.size + 3 * many t.size size := by
  rw [rowN_len h1 _ (Nat.le_refl _)]
  have := (many_spec (len := t.size) h1).2.1
  omega
/-- which pieces have come: in the first round those from m on, in the second all -/
def got (n r m : Nat) (k : Nat) : Bool := decide (k < n) && (decide (r ≠ 0) || decide (m ≤ k))
theorem got_start (n : Nat) : got n 0 n = fun _ => false := by
  funext k
  simp [got]
theorem got_put {n r m : Nat} (h : m < n) : put (got n r (m + 1)) m = got n r m := by
  funext k
  unfold put got
  by_cases e : k = m
  · subst e
    simp [h]
  · rw [if_neg e]
    by_cases h2 : m + 1 ≤ k
    · simp [h2, show m ≤ k by omega]
    · simp [h2, show ¬ m ≤ k by omega]
theorem got_next (n : Nat) : got n 0 0 = got n 1 n := by
  funext k
  simp [got]
theorem got_at {n r m : Nat} (h : m < n) : got n r (m + 1) m = decide (r ≠ 0) := by
  simp [got, h]
  omega
theorem got_two (n : Nat) : got n 1 0 = got n 2 n := by
  funext k
  simp [got]
theorem got_all (n r : Nat) (h : r ≠ 0) (m : Nat) : cnt (got n r m) n = n := by
  have : ∀ j, j ≤ n → cnt (got n r m) j = j := by
    intro j
    induction j with
    | zero => intro _; simp [cnt]
    | succ j ih =>
      intro hj
      rw [Pie.cnt_succ, ih (by omega)]
      simp [got, h]
      omega
  exact this n (Nat.le_refl _)
end Go.Proofs.Ytolnfipdhkbkjaj.Wir
