/-
  Plain facts on what is asked for once more: a sender, a hearer, what lacks.
-/
import Derived.Test.YtdhlfbpflngmbafDoorFifM
namespace Go.Proofs.YtdhlfbpflngmbafDoor.Aga
open Go.Proofs.YtdhlfbpflngmbafDoor.Fif

/-! a sender: what it said, up to where that is free -/
def sayC (said : List Int) (free : Nat) (word : Int) : Int := if word < 1 ∨ 30 < word then 1 else if 40 ≤ said.length - free then 4 else 0
def sayL (said : List Int) (free : Nat) (word : Int) : List Int := if sayC said free word = 0 then said ++ [word] else said
def sayN (said : List Int) (free : Nat) (word : Int) : Int := if sayC said free word = 0 then (said.length : Int) + 1 else 0
def askC (said : List Int) (free : Nat) (n : Int) : Int := if n < 1 ∨ (said.length : Int) < n then 1 else if n ≤ (free : Int) then 5 else 0
def askW (said : List Int) (free : Nat) (n : Int) : Int := if askC said free n = 0 then said.getD (n.toNat - 1) 0 else 0
def freC (said : List Int) (n : Int) : Int := if n < 0 ∨ (said.length : Int) < n then 1 else 0
def freN (said : List Int) (free : Nat) (n : Int) : Nat := if freC said n = 0 ∧ (free : Int) < n then n.toNat else free
structure SInv (said : List Int) (free : Nat) : Prop where
  free : free ≤ said.length
  word : ∀ x ∈ said, 1 ≤ x ∧ x ≤ 30
theorem SInv.start : SInv [] 0 := ⟨Nat.le_refl _, fun _ h => absurd h List.not_mem_nil⟩
theorem sayC_ok {said : List Int} {free : Nat} {word : Int} (h : sayC said free word = 0) : 1 ≤ word ∧ word ≤ 30 ∧ said.length - free < 40 := by
  unfold sayC at h
  split at h
  · omega
  · split at h
    · omega
    · omega
theorem SInv.say {said : List Int} {free : Nat} (g : SInv said free) (word : Int) : SInv (sayL said free word) free := by
  unfold sayL
  split
  · rename_i h
    have := sayC_ok h
    refine ⟨by rw [List.length_append]; have := g.free; omega, fun x hx => ?_⟩
    rcases List.mem_append.1 hx with a | a
    · exact g.word x a
    · rw [List.mem_singleton.1 a]; omega
  · exact g
theorem SInv.fre {said : List Int} {free : Nat} (g : SInv said free) (n : Int) : SInv said (freN said free n) := by
  refine ⟨?_, g.word⟩
  unfold freN
  split
  · rename_i h
    have h1 := h.1
    unfold freC at h1
    split at h1 <;> omega
  · exact g.free
theorem sayL_len (said : List Int) (free : Nat) (word : Int) : (sayL said free word).length ≤ said.length + 1 := by
  unfold sayL
  split
  · simp
  · omega

/-! a hearer: how many were heard, which wait -/
def hrC (h : Int) (ws : List Cm) (n word : Int) : Int := if tkC h ws 0 n word = 7 then 0 else tkC h ws 0 n word
def hrT (h : Int) (ws : List Cm) (n word : Int) : List Int × Int × List Cm := if tkC h ws 0 n word = 0 then run 0 h (ws ++ [(0, n, word)]) else ([], h, ws)
structure HInv (h : Int) (ws : List Cm) : Prop where
  low : 0 ≤ h
  high : h ≤ 1000000
  uq : Uq ws
  own : ∀ c ∈ ws, c.1 = 0 ∧ (h + 1 < c.2.1 ∧ c.2.1 ≤ 1000000) ∧ 1 ≤ c.2.2 ∧ c.2.2 ≤ 30
  len : ws.length ≤ 40
theorem HInv.start : HInv 0 [] := ⟨Int.le_refl _, by omega, List.Pairwise.nil, fun c hc => absurd hc List.not_mem_nil, by simp⟩
theorem hrT_no {h : Int} {ws : List Cm} {n word : Int} (hc : tkC h ws 0 n word ≠ 0) : hrT h ws n word = ([], h, ws) := if_neg hc
theorem hrT_ok {h : Int} {ws : List Cm} {n word : Int} (hc : tkC h ws 0 n word = 0) : hrT h ws n word = run 0 h (ws ++ [(0, n, word)]) := if_pos hc
/-- none that waits is the next -/
theorem HInv.next {h : Int} {ws : List Cm} (g : HInv h ws) : fnd ws 0 (h + 1) = none := by
  cases q : fnd ws 0 (h + 1) with
  | none => rfl
  | some x =>
    have := (g.own _ ((fnd_some g.uq).1 q)).2.1.1
    simp only at this
    omega
/-- what comes of a new one -/
theorem hear_spec {h : Int} {ws : List Cm} (g : HInv h ws) {n word : Int} (hc : tkC h ws 0 n word = 0) :
    ∃ o h' ws', hrT h ws n word = (o, h', ws') ∧ HInv h' ws' ∧ h ≤ h' ∧ (o.length : Int) = h' - h ∧
      (∀ k, (fnd ws' 0 k).isSome = true ↔ h' < k ∧ ((fnd ws 0 k).isSome = true ∨ k = n)) ∧
      (∀ k x, fnd ws' 0 k = some x → (fnd ws 0 k = some x ∨ (k = n ∧ x = word))) ∧
      (∀ k, h < k → k ≤ h' → (k = n ∧ o.getD (k - h - 1).toNat 0 = word) ∨ (fnd ws 0 k = some (o.getD (k - h - 1).toNat 0))) := by
  obtain ⟨hb, hlt, hf, h40⟩ := tkC_ok hc
  obtain ⟨_, hn, hw⟩ := bad_who hb
  have hu := uq_snoc g.uq word hf
  have hs := fnd_snoc (x := word) hf
  obtain ⟨r1, r2, r3, r4, r5, r6, r7⟩ := run_spec (who := 0) _ h (ws ++ [(0, n, word)]) (Nat.le_refl _) hu
  rw [hrT_ok hc]
  generalize hR : run 0 h (ws ++ [(0, n, word)]) = R at *
  obtain ⟨o, h', ws'⟩ := R
  simp only at r1 r2 r3 r4 r5 r6 r7
  have hold : ∀ k x, fnd ws' 0 k = some x → (h < k → h' < k) ∧ (fnd ws 0 k = some x ∨ (k = n ∧ x = word)) := by
    intro k x q
    rw [r5, hs] at q
    split at q
    · cases q
    · rename_i e
      refine ⟨fun q' => ?_, ?_⟩
      · rcases Int.lt_or_le h' k with a | a
        · exact a
        · exact absurd ⟨rfl, q', a⟩ e
      · split at q
        · rename_i e2
          exact .inr ⟨e2.2, (Option.some.inj q).symm⟩
        · exact .inl q
  have hgt : ∀ k x, fnd ws' 0 k = some x → h < k := by
    intro k x q
    rcases (hold k x q).2 with a | a
    · have := (g.own _ ((fnd_some g.uq).1 a)).2.1.1
      simp only at this
      omega
    · omega
  have hkey : ∀ c ∈ ws', fnd ws' c.1 c.2.1 = some c.2.2 := fun c hc => (fnd_some r3).2 hc
  have hwho : ∀ c ∈ ws', c.1 = 0 := by
    intro c hcm
    have q := hkey c hcm
    rw [r5] at q
    split at q
    · cases q
    · have := (fnd_some hu).1 q
      rcases List.mem_append.1 this with a | a
      · exact (g.own _ a).1
      · have e := List.mem_singleton.1 a
        have := congrArg Prod.fst e
        exact this
  have hh : h' ≤ 1000000 := by
    rcases Int.lt_or_le h h' with a | a
    · have q := r6 h' a (Int.le_refl _)
      rw [hs] at q
      split at q
      · omega
      · have := (g.own _ ((fnd_some g.uq).1 q)).2.1.2
        simp only at this
        omega
    · have := g.high; omega
  refine ⟨o, h', ws', rfl, ⟨by have := g.low; omega, hh, r3, fun c hcm => ?_, ?_⟩, r1, r2, fun k => ?_, fun k x q => (hold k x q).2, fun k h1 h2 => ?_⟩
  · have e0 := hwho c hcm
    have q := hkey c hcm
    rw [e0] at q
    have h1 := (hold _ _ q).1 (hgt _ _ q)
    have h2 : c.2.1 ≠ h' + 1 := fun e => by
      rw [← e] at r4
      rw [r4] at q
      cases q
    refine ⟨e0, ⟨by omega, ?_⟩, ?_⟩
    · rcases (hold _ _ q).2 with a | a
      · exact (g.own _ ((fnd_some g.uq).1 a)).2.1.2
      · rw [a.1]; exact hn.2
    · rcases (hold _ _ q).2 with a | a
      · exact (g.own _ ((fnd_some g.uq).1 a)).2.2
      · rw [a.2]; exact hw
  · rw [List.length_append] at r7
    simp only [List.length_cons, List.length_nil] at r7
    have hl := g.len
    by_cases e : h + 1 < n
    · have : ¬ 40 ≤ ws.length := fun q => h40 ⟨e, q⟩
      omega
    · have : h < h' := by
        rcases Int.lt_or_le h h' with a | a
        · exact a
        · have e' : h' = h := by omega
          rw [e', r5, if_neg (by omega), hs, if_pos ⟨rfl, by omega⟩] at r4
          cases r4
      omega
  · constructor
    · intro q
      obtain ⟨x, hx⟩ := Option.isSome_iff_exists.1 q
      refine ⟨(hold k x hx).1 (hgt k x hx), ?_⟩
      rcases (hold k x hx).2 with a | a
      · exact .inl (by rw [a]; rfl)
      · exact .inr a.1
    · rintro ⟨q1, q2⟩
      rw [r5, if_neg (by omega), hs]
      split
      · rfl
      · rename_i e
        rcases q2 with a | a
        · exact a
        · exact absurd ⟨rfl, a⟩ e
  · have q := r6 k h1 h2
    rw [hs] at q
    split at q
    · rename_i e
      exact .inl ⟨e.2, (Option.some.inj q).symm⟩
    · exact .inr q
theorem HInv.take {h : Int} {ws : List Cm} (g : HInv h ws) (n word : Int) : HInv (hrT h ws n word).2.1 (hrT h ws n word).2.2 := by
  by_cases hc : tkC h ws 0 n word = 0
  · obtain ⟨o, h', ws', e, g', _⟩ := hear_spec g hc
    rw [e]
    exact g'
  · rw [hrT_no hc]
    exact g

/-! which lack -/
def lkC (upTo : Int) : Int := if upTo < 0 ∨ 1000000 < upTo then 1 else 0
/-- of the first so many numbers behind what was heard those that have not come -/
def lkN (h : Int) (ws : List Cm) (k : Nat) : List Int := ((List.range k).map fun i : Nat => h + 1 + (i : Int)).filter fun n => (fnd ws 0 n).isNone
def lkL (h : Int) (ws : List Cm) (upTo : Int) : List Int := if lkC upTo = 0 then (lkN h ws (upTo - h).toNat).take 40 else []
theorem lkN_succ (h : Int) (ws : List Cm) (k : Nat) : lkN h ws (k + 1) = lkN h ws k ++ (if (fnd ws 0 (h + 1 + (k : Int))).isNone = true then [h + 1 + (k : Int)] else []) := by
  unfold lkN
  rw [List.range_succ, List.map_append, List.filter_append]
  congr 1
  cases q : (fnd ws 0 (h + 1 + (k : Int))).isNone <;> simp [q]
theorem lkN_len (h : Int) (ws : List Cm) (k : Nat) : (lkN h ws k).length ≤ k := by
  unfold lkN
  exact Nat.le_trans (List.length_filter_le _ _) (by simp)
/-- more numbers are no other ones ahead -/
theorem lkN_more (h : Int) (ws : List Cm) (k d : Nat) : ∃ r, lkN h ws (k + d) = lkN h ws k ++ r := by
  induction d with
  | zero => exact ⟨[], by simp⟩
  | succ d ih =>
    obtain ⟨r, e⟩ := ih
    refine ⟨r ++ (if (fnd ws 0 (h + 1 + ((k + d : Nat) : Int))).isNone = true then [h + 1 + ((k + d : Nat) : Int)] else []), ?_⟩
    rw [← Nat.add_assoc, lkN_succ, e, List.append_assoc]
/-- where it ends -/
theorem lk_end {h : Int} {ws : List Cm} {upTo : Int} {k : Nat} (hc : lkC upTo = 0) (hk : k ≤ (upTo - h).toNat) (h40 : (lkN h ws k).length ≤ 40) (he : k = (upTo - h).toNat ∨ (lkN h ws k).length = 40) : lkL h ws upTo = lkN h ws k := by
  unfold lkL
  rw [if_pos hc]
  rcases he with e | e
  · rw [← e, List.take_of_length_le h40]
  · obtain ⟨d, ed⟩ : ∃ d, (upTo - h).toNat = k + d := ⟨(upTo - h).toNat - k, by omega⟩
    obtain ⟨r, er⟩ := lkN_more h ws k d
    rw [ed, er, ← e, List.take_left']
    rfl
theorem lkN_mem {h : Int} {ws : List Cm} {k : Nat} {n : Int} : n ∈ lkN h ws k ↔ (h < n ∧ n ≤ h + (k : Int)) ∧ fnd ws 0 n = none := by
  unfold lkN
  rw [List.mem_filter, List.mem_map]
  constructor
  · rintro ⟨⟨i, hi, rfl⟩, q⟩
    have := List.mem_range.1 hi
    exact ⟨by omega, by simpa using q⟩
  · rintro ⟨q1, q2⟩
    exact ⟨⟨(n - h - 1).toNat, List.mem_range.2 (by omega), by omega⟩, by rw [q2]; rfl⟩
/-- those that lack are numbers -/
theorem lkL_mem {h : Int} {ws : List Cm} {upTo n : Int} (hm : n ∈ lkL h ws upTo) : h < n ∧ n ≤ upTo ∧ fnd ws 0 n = none := by
  unfold lkL at hm
  split at hm
  · obtain ⟨h1, h2⟩ := lkN_mem.1 (List.mem_of_mem_take hm)
    exact ⟨h1.1, by omega, h2⟩
  · exact absurd hm List.not_mem_nil
theorem lkL_len (h : Int) (ws : List Cm) (upTo : Int) : (lkL h ws upTo).length ≤ 40 := by
  unfold lkL
  split
  · rw [List.length_take]; omega
  · simp
end Go.Proofs.YtdhlfbpflngmbafDoor.Aga
