/-
  Plain facts on pieces: a text in pieces, and pieces that come; what is refused, what lacks, the text.
-/
import Derived.Test.YtolnfipdhkbkjajRows
namespace Go.Proofs.Ytolnfipdhkbkjaj.Pie

/-- a piece: which it is, of how many, its text -/
abbrev Pc := Int × Int × ByteArray
def cut (t : ByteArray) (size k : Nat) : ByteArray := t.extract (k * size) ((k + 1) * size)
def many (len size : Nat) : Nat := if len ≤ size then 1 else (len + size - 1) / size
def splitC (t : ByteArray) (size : Int) : Int := if 60 < t.size then 4 else if size < 1 ∨ 12 < size then 1 else 0
def pcs (t : ByteArray) (size k : Nat) : List Pc := (List.range k).map fun i : Nat => ((i : Int), (many t.size size : Int), cut t size i)
def splitL (t : ByteArray) (size : Int) : List Pc := if splitC t size = 0 then pcs t size.toNat (many t.size size.toNat) else []
theorem split_size {t : ByteArray} {size : Int} (h : splitC t size = 0) : t.size ≤ 60 ∧ 1 ≤ size ∧ size ≤ 12 := by
  unfold splitC at h
  split at h
  · omega
  · split at h
    · omega
    · omega
theorem many_spec {len size : Nat} (h1 : 1 ≤ size) : 1 ≤ many len size ∧ len ≤ many len size * size ∧ (1 < many len size → (many len size - 1) * size < len) := by
  unfold many
  split
  · exact ⟨Nat.le_refl _, by omega, fun q => by omega⟩
  · rename_i h
    have e : (len + size - 1) / size * size + (len + size - 1) % size = len + size - 1 := by
      have := Nat.div_add_mod (len + size - 1) size
      rw [Nat.mul_comm] at this
      exact this
    have m := Nat.mod_lt (len + size - 1) (show 0 < size by omega)
    have hq : 1 ≤ (len + size - 1) / size := (Nat.le_div_iff_mul_le (by omega)).2 (by omega)
    refine ⟨hq, by omega, fun _ => ?_⟩
    rw [Nat.sub_mul, Nat.one_mul]
    omega
theorem many_uniq {len size k : Nat} (h1 : 1 ≤ size) (hk : 1 ≤ k) (ha : len ≤ k * size) (hb : 1 < k → (k - 1) * size < len) : k = many len size := by
  obtain ⟨m1, m2, m3⟩ := many_spec (len := len) h1
  rcases Nat.lt_trichotomy k (many len size) with q | q | q
  · have h := m3 (by omega)
    have : k * size ≤ (many len size - 1) * size := Nat.mul_le_mul_right _ (by omega)
    omega
  · exact q
  · have h := hb (by omega)
    have : many len size * size ≤ (k - 1) * size := Nat.mul_le_mul_right _ (by omega)
    omega
theorem many_le {len size : Nat} (h1 : 1 ≤ size) (hl : len ≤ 60) : many len size ≤ 60 := by
  obtain ⟨m1, m2, m3⟩ := many_spec (len := len) h1
  rcases Nat.lt_or_ge 1 (many len size) with q | q
  · have h := m3 q
    have : (many len size - 1) * 1 ≤ (many len size - 1) * size := Nat.mul_le_mul_left _ h1
    omega
  · omega
theorem cut_size (t : ByteArray) (size k : Nat) : (cut t size k).size = min ((k + 1) * size) t.size - k * size := by
  unfold cut
  rw [ByteArray.size_extract]
theorem cut_le (t : ByteArray) (size k : Nat) : (cut t size k).size ≤ size := by
  rw [cut_size, Nat.add_mul]
  omega
/-- all but the last are as long as may be -/
theorem cut_full {t : ByteArray} {size k : Nat} (h1 : 1 ≤ size) (hk : k + 1 < many t.size size) : (cut t size k).size = size := by
  obtain ⟨m1, m2, m3⟩ := many_spec (len := t.size) h1
  have h := m3 (by omega)
  have : (k + 1) * size ≤ (many t.size size - 1) * size := Nat.mul_le_mul_right _ (by omega)
  rw [cut_size, Nat.min_eq_left (by omega), Nat.add_mul]
  omega
theorem ext_min (t : ByteArray) (a b : Nat) : t.extract a (min t.size b) = t.extract a b := by
  apply ByteArray.ext_getElem
  · rw [ByteArray.size_extract, ByteArray.size_extract]
    omega
  · intro i h1 h2
    rw [ByteArray.getElem_extract, ByteArray.getElem_extract]
theorem pcs_len (t : ByteArray) (size k : Nat) : (pcs t size k).length = k := by simp [pcs]
theorem pcs_get (t : ByteArray) (size : Nat) {k i : Nat} (h : i < k) : (pcs t size k).getD i (0, 0, .empty) = ((i : Int), (many t.size size : Int), cut t size i) := by simp [pcs, List.getD, h]
theorem pcs_succ (t : ByteArray) (size k : Nat) : pcs t size (k + 1) = pcs t size k ++ [((k : Int), (many t.size size : Int), cut t size k)] := by simp [pcs, List.range_succ]
/-- the pieces that came -/
structure J where
  of : Nat
  T : Nat → Option ByteArray
def start : J := ⟨0, fun _ => none⟩
def pcBad (p : Pc) : Bool := decide (p.2.1 < 1) || decide (60 < p.2.1) || decide (p.1 < 0) || decide (p.2.1 ≤ p.1) || decide (12 < p.2.2.size)
theorem pcBad_no {p : Pc} (h : pcBad p = false) : (1 ≤ p.2.1 ∧ p.2.1 ≤ 60) ∧ (0 ≤ p.1 ∧ p.1 < p.2.1) ∧ p.2.2.size ≤ 12 := by
  simp [pcBad] at h
  omega
/-- is there another text at its place? -/
def other (j : J) (p : Pc) : Bool := match j.T p.1.toNat with
  | none => false
  | some t => !decide (t = p.2.2)
def takeC (j : J) (p : Pc) : Int := if pcBad p = true then 1 else if j.of ≠ 0 ∧ (j.of : Int) ≠ p.2.1 then 3 else if other j p = true then 7 else 0
def takeN (j : J) (p : Pc) : Bool := decide (takeC j p = 0) && (j.T p.1.toNat).isNone
def takeJ (j : J) (p : Pc) : J := if takeC j p = 0 then ⟨p.2.1.toNat, fun i => if i = p.1.toNat then some p.2.2 else j.T i⟩ else j
def lackN (j : J) (k : Nat) : List Nat := (List.range k).filter fun i => (j.T i).isNone
def lacks (j : J) : List Int := (lackN j j.of).map Int.ofNat
def textC (j : J) : Int := if j.of = 0 ∨ lackN j j.of ≠ [] then 5 else 0
def joined (j : J) : Nat → ByteArray
  | 0 => .empty
  | k + 1 => joined j k ++ (j.T k).getD .empty
def textS (j : J) : ByteArray := if textC j = 0 then joined j j.of else .empty
structure JInv (j : J) : Prop where
  of60 : j.of ≤ 60
  has : ∀ i t, j.T i = some t → i < j.of ∧ t.size ≤ 12
theorem JInv.start : JInv start := ⟨by simp [Pie.start], fun i t h => by simp [Pie.start] at h⟩
theorem take_zero {j : J} {p : Pc} (h : takeC j p = 0) : pcBad p = false ∧ (j.of = 0 ∨ (j.of : Int) = p.2.1) ∧ other j p = false := by
  unfold takeC at h
  split at h
  · omega
  · rename_i h1
    split at h
    · omega
    · rename_i h2
      split at h
      · omega
      · rename_i h3
        refine ⟨by simpa using h1, ?_, by simpa using h3⟩
        by_cases q : j.of = 0
        · exact .inl q
        · exact .inr (Decidable.byContradiction fun z => h2 ⟨q, z⟩)
theorem JInv.take {j : J} (g : JInv j) (p : Pc) : JInv (takeJ j p) := by
  unfold takeJ
  split
  · rename_i h
    obtain ⟨h1, h2, h3⟩ := take_zero h
    obtain ⟨h4, h5, h6⟩ := pcBad_no h1
    refine ⟨by show p.2.1.toNat ≤ 60; omega, fun i t q => ?_⟩
    have q' : (if i = p.1.toNat then some p.2.2 else j.T i) = some t := q
    show i < p.2.1.toNat ∧ t.size ≤ 12
    split at q'
    · rename_i e
      rw [← Option.some.inj q']
      exact ⟨by omega, h6⟩
    · have z := g.has i t q'
      rcases h2 with a | a
      · omega
      · exact ⟨by omega, z.2⟩
  · exact g
theorem lackN_succ (j : J) (k : Nat) : lackN j (k + 1) = lackN j k ++ (if (j.T k).isNone = true then [k] else []) := by
  unfold lackN
  rw [List.range_succ, List.filter_append]
  congr 1
  cases h : (j.T k).isNone <;> simp [h]
theorem lackN_len (j : J) (k : Nat) : (lackN j k).length ≤ k := by
  unfold lackN
  exact Nat.le_trans (List.length_filter_le _ _) (by simp)
theorem joined_size {j : J} (g : JInv j) (k : Nat) : (joined j k).size ≤ k * 12 := by
  induction k with
  | zero => simp [joined]
  | succ k ih =>
    have e : joined j (k + 1) = joined j k ++ (j.T k).getD .empty := rfl
    rw [e, ByteArray.size_append]
    cases h : j.T k with
    | none => simp; omega
    | some t =>
      have := (g.has k t h).2
      simp
      omega
/-- pieces one behind the other -/
theorem cuts_joined {t : ByteArray} {size : Nat} {j : J} (h : ∀ i, i < many t.size size → j.T i = some (cut t size i)) : ∀ k, k ≤ many t.size size → joined j k = t.extract 0 (k * size) := by
  intro k hk
  induction k with
  | zero => simp [joined]
  | succ k ih =>
    have e : joined j (k + 1) = joined j k ++ (j.T k).getD .empty := rfl
    rw [e, ih (by omega), h k (by omega)]
    simp only [Option.getD_some]
    unfold cut
    rw [ByteArray.extract_append_extract, Nat.add_mul, Nat.one_mul]
    congr 1 <;> omega
theorem cuts_whole {t : ByteArray} {size : Nat} (h1 : 1 ≤ size) {j : J} (h : ∀ i, i < many t.size size → j.T i = some (cut t size i)) : joined j (many t.size size) = t := by
  rw [cuts_joined h _ (Nat.le_refl _)]
  have := (many_spec (len := t.size) h1).2.1
  rw [← ext_min, Nat.min_eq_left this, ByteArray.extract_zero_size]
end Go.Proofs.Ytolnfipdhkbkjaj.Pie
