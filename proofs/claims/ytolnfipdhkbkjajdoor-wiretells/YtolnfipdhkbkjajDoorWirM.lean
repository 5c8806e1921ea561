/-
  Plain facts on words as bytes: what is refused, the bytes, the sum; what is read from bytes; with one byte another one it is none.
-/
import Derived.Test.YtolnfipdhkbkjajDoorCauM
import Derived.Test.YtolnfipdhkbkjajDoorWirB
namespace Go.Proofs.YtolnfipdhkbkjajDoor.Wir
open Go.Proofs.YtolnfipdhkbkjajDoor.Cau (Sd sdBad)
open Go.Proofs.YtolnfipdhkbkjajDoor.Vec (code)

/-- what is wrong with a word that is to be packed -/
def packC (s : Sd) : Int := if sdBad s = true then 1 else code s.2.2
/-- a number in three bytes, the high one first -/
def n3 (n : Int) : List Int := [n / 65536, n / 256 % 256, n % 256]
/-- what stands ahead of the sum -/
def body (s : Sd) : List Int := s.1 :: s.2.1 :: s.2.2.flatMap n3
def tot (l : List Int) : Int := l.foldl (fun a b => (a + b) % 256) 0
def pk (s : Sd) : List Int := body s ++ [tot (body s)]
def packS (s : Sd) : ByteArray := if packC s = 0 then txt (pk s) else .empty
def n3at (t : ByteArray) (k : Nat) : Int := bt t (2 + 3 * k) * 65536 + bt t (2 + 3 * k + 1) * 256 + bt t (2 + 3 * k + 2)
def rd (t : ByteArray) : Sd := (bt t 0, bt t 1, [n3at t 0, n3at t 1, n3at t 2, n3at t 3, n3at t 4])
def okU (t : ByteArray) : Bool := decide (t.size = 18) && (decide (packC (rd t) = 0) && decide (txt (pk (rd t)) = t))
def unC (t : ByteArray) : Int := if okU t = true then 0 else 2
def unS (t : ByteArray) : Sd := if okU t = true then rd t else (0, 0, [])

theorem tot_range (l : List Int) : 0 ≤ tot l ∧ tot l < 256 := by
  unfold tot
  rcases l.eq_nil_or_concat with rfl | ⟨l', b, rfl⟩
  · simp
  · rw [List.concat_eq_append, List.foldl_append]
    simp only [List.foldl_cons, List.foldl_nil]
    omega
theorem tot_snoc (l : List Int) (b : Int) : tot (l ++ [b]) = (tot l + b) % 256 := by
  unfold tot
  rw [List.foldl_append]
  rfl
/-- the sum, be it taken modulo 256 at each step, or at the end -/
theorem tot_sum : ∀ (l : List Int), tot l = l.sum % 256 := by
  have key : ∀ (l : List Int) (a : Int), l.foldl (fun a b => (a + b) % 256) (a % 256) = (a + l.sum) % 256 := by
    intro l
    induction l with
    | nil => intro a; simp
    | cons b l ih =>
      intro a
      rw [List.foldl_cons, show (a % 256 + b) % 256 = (a + b) % 256 by omega, ih (a + b), List.sum_cons]
      congr 1
      omega
  intro l
  have := key l 0
  simpa [tot] using this
theorem sd_ok {s : Sd} (h : packC s = 0) : (0 ≤ s.1 ∧ s.1 ≤ 4) ∧ (1 ≤ s.2.1 ∧ s.2.1 ≤ 30) ∧ code s.2.2 = 0 := by
  unfold packC at h
  split at h
  · omega
  · rename_i hb
    simp [sdBad] at hb
    exact ⟨by omega, by omega, h⟩
theorem code_ok {xs : List Int} (h : code xs = 0) : ∃ a b c d e, xs = [a, b, c, d, e] ∧ (0 ≤ a ∧ a ≤ 1000000) ∧ (0 ≤ b ∧ b ≤ 1000000) ∧ (0 ≤ c ∧ c ≤ 1000000) ∧ (0 ≤ d ∧ d ≤ 1000000) ∧ (0 ≤ e ∧ e ≤ 1000000) := by
  unfold Vec.code at h
  split at h
  · rename_i hl
    match xs, hl with
    | [a, b, c, d, e], _ =>
      split at h
      · omega
      · rename_i hb
        simp [Vec.bad, Vec.anyP, Vec.out] at hb
        exact ⟨a, b, c, d, e, rfl, by omega, by omega, by omega, by omega, by omega⟩
  · omega
theorem body_of (x y a b c d e : Int) : body (x, y, [a, b, c, d, e]) = [x, y, a / 65536, a / 256 % 256, a % 256, b / 65536, b / 256 % 256, b % 256, c / 65536, c / 256 % 256, c % 256, d / 65536, d / 256 % 256, d % 256, e / 65536, e / 256 % 256, e % 256] := rfl
theorem pk_byt {s : Sd} (h : packC s = 0) : Byt (pk s) ∧ (pk s).length = 18 := by
  obtain ⟨h1, h2, h3⟩ := sd_ok h
  obtain ⟨x, y, xs⟩ := s
  obtain ⟨a, b, c, d, e, rfl, ha, hb, hc, hd, he⟩ := code_ok h3
  simp only at h1 h2
  have ht := tot_range (body (x, y, [a, b, c, d, e]))
  refine ⟨?_, by simp [pk, body_of]⟩
  intro n hn
  unfold pk at hn
  rw [body_of] at hn ht
  obtain ⟨q, eq⟩ : ∃ q, q = tot [x, y, a / 65536, a / 256 % 256, a % 256, b / 65536, b / 256 % 256, b % 256, c / 65536, c / 256 % 256, c % 256, d / 65536, d / 256 % 256, d % 256, e / 65536, e / 256 % 256, e % 256] := ⟨_, rfl⟩
  rw [← eq] at hn ht
  simp only [List.cons_append, List.nil_append, List.mem_cons, List.not_mem_nil, or_false] at hn
  rcases hn with rfl | rfl | rfl | rfl | rfl | rfl | rfl | rfl | rfl | rfl | rfl | rfl | rfl | rfl | rfl | rfl | rfl | rfl <;> omega
/-- what was packed is read as it was -/
theorem rd_pk {s : Sd} (h : packC s = 0) : rd (txt (pk s)) = s := by
  obtain ⟨hb, hl⟩ := pk_byt h
  obtain ⟨h1, h2, h3⟩ := sd_ok h
  obtain ⟨x, y, xs⟩ := s
  obtain ⟨a, b, c, d, e, rfl, ha, hb', hc, hd, he⟩ := code_ok h3
  have g : ∀ i, i < 18 → bt (txt (pk (x, y, [a, b, c, d, e]))) i = (pk (x, y, [a, b, c, d, e])).getD i 0 := fun i hi => bt_txt hb (by rw [hl]; exact hi)
  have e0 : ∀ i, i < 17 → (pk (x, y, [a, b, c, d, e])).getD i 0 = (body (x, y, [a, b, c, d, e])).getD i 0 := by
    intro i hi
    unfold pk
    have : (body (x, y, [a, b, c, d, e])).length = 17 := rfl
    simp [List.getD, List.getElem?_append, this, hi]
  unfold rd n3at
  simp only [Nat.mul_zero, Nat.mul_one, Nat.add_zero, Nat.reduceMul, Nat.reduceAdd]
  rw [g 0 (by omega), g 1 (by omega), g 2 (by omega), g 3 (by omega), g 4 (by omega), g 5 (by omega), g 6 (by omega), g 7 (by omega), g 8 (by omega), g 9 (by omega), g 10 (by omega), g 11 (by omega), g 12 (by omega), g 13 (by omega), g 14 (by omega), g 15 (by omega), g 16 (by omega)]
  rw [e0 0 (by omega), e0 1 (by omega), e0 2 (by omega), e0 3 (by omega), e0 4 (by omega), e0 5 (by omega), e0 6 (by omega), e0 7 (by omega), e0 8 (by omega), e0 9 (by omega), e0 10 (by omega), e0 11 (by omega), e0 12 (by omega), e0 13 (by omega), e0 14 (by omega), e0 15 (by omega), e0 16 (by omega)]
  rw [body_of]
  simp only [List.getD_cons_zero, List.getD_cons_succ, Prod.mk.injEq, List.cons.injEq, and_true, true_and]
  refine ⟨?_, ?_, ?_, ?_, ?_⟩ <;> omega
theorem okU_pk {s : Sd} (h : packC s = 0) : okU (txt (pk s)) = true := by
  unfold okU
  rw [rd_pk h, txt_size, (pk_byt h).2, h]
  simp
theorem okU_is {t : ByteArray} (h : okU t = true) : t.size = 18 ∧ packC (rd t) = 0 ∧ txt (pk (rd t)) = t := by
  simpa [okU] using h
/-- the first so many bytes -/
def bts (t : ByteArray) (n : Nat) : List Int := (List.range n).map (bt t)
theorem bts_txt {l : List Int} (h : Byt l) {n : Nat} (hn : n ≤ l.length) : bts (txt l) n = l.take n := by
  apply List.ext_getElem
  · simp [bts]; omega
  · intro i h1 h2
    simp [bts] at h1
    have hi : i < l.length := by omega
    simp [bts, bt_txt h hi, List.getD, hi]
/-- the last byte is the sum of the others -/
theorem sum_is {t : ByteArray} (h : okU t = true) : bt t 17 = (bts t 17).sum % 256 := by
  obtain ⟨h1, h2, h3⟩ := okU_is h
  obtain ⟨hb, hl⟩ := pk_byt h2
  obtain ⟨s, es⟩ : ∃ s, s = rd t := ⟨_, rfl⟩
  rw [← es] at h2 h3 hb hl
  have hbl : (body s).length = 17 := by
    unfold pk at hl
    simp at hl
    omega
  rw [← h3, bts_txt hb (by omega), bt_txt hb (by omega)]
  unfold pk
  rw [List.take_left' hbl, ← tot_sum]
  simp [List.getD, hbl]
theorem sum_change (f g : Nat → Int) (k : Nat) (n : Nat) (hk : k < n) (h : ∀ i, i < n → i ≠ k → f i = g i) : ((List.range n).map f).sum - ((List.range n).map g).sum = f k - g k := by
  induction n with
  | zero => omega
  | succ n ih =>
    rw [List.range_succ, List.map_append, List.map_append, List.sum_append, List.sum_append]
    simp only [List.map_cons, List.map_nil, List.sum_cons, List.sum_nil]
    by_cases e : k = n
    · subst e
      have : (List.range k).map f = (List.range k).map g := by
        apply List.map_congr_left
        intro i hi
        have := List.mem_range.1 hi
        exact h i (by omega) (by omega)
      rw [this]
      omega
    · have := ih (by omega) (fun i hi hne => h i (by omega) hne)
      have := h n (by omega) (fun q => e q.symm)
      omega
/-- with one byte another one it is none -/
theorem one_other {t t' : ByteArray} {k : Nat} (h : okU t = true) (hk : k < 18) (hne : bt t' k ≠ bt t k) (hs : ∀ i, i < 18 → i ≠ k → bt t' i = bt t i) : okU t' = false := by
  rw [Bool.eq_false_iff]
  intro h'
  have a := sum_is h
  have b := sum_is h'
  by_cases e : k = 17
  · subst e
    have : bts t' 17 = bts t 17 := by
      apply List.map_congr_left
      intro i hi
      have := List.mem_range.1 hi
      exact hs i (by omega) (by omega)
    rw [this, ← a] at b
    exact hne b
  · rw [hs 17 (by omega) (by omega), a] at b
    have c := sum_change (bt t') (bt t) k 17 (by omega) (fun i hi hn => hs i (by omega) hn)
    have r1 := bt_range t k
    have r2 := bt_range t' k
    unfold bts at b
    omega
theorem unC_no {t : ByteArray} (h : t.size ≠ 18) : unC t = 2 ∧ unS t = (0, 0, []) := by
  have : okU t = false := by simp [okU, h]
  unfold unC unS
  rw [this]
  exact ⟨rfl, rfl⟩
end Go.Proofs.YtolnfipdhkbkjajDoor.Wir
