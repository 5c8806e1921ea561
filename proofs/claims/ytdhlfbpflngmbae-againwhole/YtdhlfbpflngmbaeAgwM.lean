/-
  Words of which some are lost, and come in any order: plain facts.
-/
import Derived.Test.YtdhlfbpflngmbaeAgaM
namespace Go.Proofs.Ytdhlfbpflngmbae.Aga
open Go.Proofs.Ytdhlfbpflngmbae.Fif
set_option linter.unusedVariables false

def wd (all : List Int) (k : Int) : Int := all.getD (k.toNat - 1) 0
/-- those that have come are the first so many, heard, and those that wait -/
structure Wg (all : List Int) (S : Int → Bool) (h : Int) (ws : List Cm) : Prop where
  inv : HInv h ws
  high : h ≤ (all.length : Int)
  own : ∀ k x, fnd ws 0 k = some x → k ≤ (all.length : Int) ∧ x = wd all k
  come : ∀ k, S k = true ↔ (1 ≤ k ∧ k ≤ h) ∨ (fnd ws 0 k).isSome = true
/-- words that may be said, and as few as may be -/
def Ok30 (all : List Int) : Prop := all.length ≤ 30 ∧ ∀ x ∈ all, 1 ≤ x ∧ x ≤ 30
theorem Ok30.wd {all : List Int} (h : Ok30 all) {k : Int} (h1 : 1 ≤ k) (h2 : k ≤ (all.length : Int)) : 1 ≤ Aga.wd all k ∧ Aga.wd all k ≤ 30 := by
  have hl : k.toNat - 1 < all.length := by omega
  have e : Aga.wd all k = all[k.toNat - 1] := by simp [Aga.wd, List.getD, hl]
  rw [e]
  exact h.2 _ (List.getElem_mem _)
theorem Wg.start (all : List Int) : Wg all (fun _ => false) 0 [] :=
  ⟨HInv.start, by omega, fun k x h => by simp [fnd] at h, fun k => by
    constructor
    · intro h; exact absurd h (by decide)
    · rintro (h | h)
      · omega
      · exact absurd h (by simp [fnd])⟩
theorem Wg.len {all : List Int} {S : Int → Bool} {h : Int} {ws : List Cm} (g : Wg all S h ws) (hn : all.length ≤ 30) : ws.length ≤ 30 := by
  have h1 : (ws.map (·.2.1)).length ≤ 30 := few 30 (by
    rw [List.Nodup, List.pairwise_map]
    refine List.Pairwise.imp_of_mem (fun {c d} hc hd h e => h ⟨?_, e⟩) g.inv.uq
    rw [(g.inv.own c hc).1, (g.inv.own d hd).1]) fun x hx => by
      obtain ⟨c, hc, rfl⟩ := List.mem_map.1 hx
      have h0 := g.inv.own c hc
      have hl := g.inv.low
      have hf : fnd ws 0 c.2.1 = some c.2.2 := by
        have := (fnd_some g.inv.uq (who := c.1) (n := c.2.1) (x := c.2.2)).2 hc
        rwa [h0.1] at this
      have := (g.own _ _ hf).1
      omega
  simpa using h1
/-- one comes, a new one or not -/
theorem Wg.take {all : List Int} {S : Int → Bool} {h : Int} {ws : List Cm} (g : Wg all S h ws) (ha : Ok30 all) {k : Int} (h1 : 1 ≤ k) (h2 : k ≤ (all.length : Int)) :
    hrC h ws k (wd all k) = 0 ∧ Wg all (fun j => S j || decide (j = k)) (hrT h ws k (wd all k)).2.1 (hrT h ws k (wd all k)).2.2 ∧
    all.take h.toNat ++ (hrT h ws k (wd all k)).1 = all.take (hrT h ws k (wd all k)).2.1.toNat ∧ (hrT h ws k (wd all k)).1.length ≤ 30 := by
  have hw := ha.wd h1 h2
  have hb : bad 0 k (wd all k) = false := by
    have := ha.1
    simp [bad]
    omega
  cases hS : S k with
  | true =>
    have hc : tkC h ws 0 k (wd all k) = 7 := by
      unfold tkC
      rw [if_neg (by rw [hb]; decide)]
      by_cases q : k ≤ h
      · rw [if_pos q]
      · rw [if_neg q, if_pos]
        rcases (g.come k).1 hS with a | a
        · omega
        · exact a
    refine ⟨by unfold hrC; rw [hc]; rfl, ?_⟩
    rw [hrT_no (by rw [hc]; decide)]
    refine ⟨⟨g.inv, g.high, g.own, fun j => ?_⟩, by simp, by simp⟩
    rw [← g.come j]
    by_cases e : j = k
    · subst e; simp [hS]
    · simp [e]
  | false =>
    have hkh : h < k := by
      rcases Int.lt_or_le h k with a | a
      · exact a
      · rw [(g.come k).2 (.inl ⟨h1, a⟩)] at hS
        cases hS
    have hf : fnd ws 0 k = none := by
      cases q : fnd ws 0 k with
      | none => rfl
      | some x =>
        rw [(g.come k).2 (.inr (by rw [q]; rfl))] at hS
        cases hS
    have hc : tkC h ws 0 k (wd all k) = 0 := by
      unfold tkC
      rw [if_neg (by rw [hb]; decide), if_neg (by omega), if_neg (by rw [hf]; decide), if_neg (by have := g.len ha.1; omega)]
    refine ⟨by unfold hrC; rw [hc]; rfl, ?_⟩
    obtain ⟨o, h', ws', e, gi, hle, hlen, hsome, hval, hrun⟩ := hear_spec g.inv hc
    rw [e]
    have hlow := g.inv.low
    have hh : h' ≤ (all.length : Int) := by
      rcases Int.lt_or_le h h' with a | a
      · rcases hrun h' a (Int.le_refl _) with b | b
        · omega
        · exact (g.own _ _ b).1
      · have := g.high; omega
    refine ⟨⟨gi, hh, fun j x q => ?_, fun j => ?_⟩, ?_, by have := ha.1; simp only; omega⟩
    · rcases hval j x q with a | a
      · exact g.own j x a
      · rw [a.1, a.2]
        exact ⟨h2, rfl⟩
    · simp only [Bool.or_eq_true, decide_eq_true_eq]
      rw [hsome, g.come j]
      constructor
      · rintro (q | q)
        · rcases q with q | q
          · exact .inl ⟨q.1, by omega⟩
          · rcases Int.lt_or_le h' j with a | a
            · exact .inr ⟨a, .inl q⟩
            · refine .inl ⟨?_, a⟩
              obtain ⟨x, hx⟩ := Option.isSome_iff_exists.1 q
              have := (g.inv.own _ ((fnd_some g.inv.uq).1 hx)).2.1.1
              simp only at this
              omega
        · rcases Int.lt_or_le h' j with a | a
          · exact .inr ⟨a, .inr q⟩
          · exact .inl ⟨by omega, a⟩
      · rintro (q | q)
        · rcases Int.lt_or_le h j with a | a
          · rcases hrun j a q.2 with b | b
            · exact .inr b.1
            · exact .inl (.inr (by rw [b]; rfl))
          · exact .inl (.inl ⟨q.1, a⟩)
        · rcases q.2 with b | b
          · exact .inl (.inr b)
          · exact .inr b
    · show all.take h.toNat ++ o = all.take h'.toNat
      have ho : ∀ i, i < o.length → o.getD i 0 = all.getD (h.toNat + i) 0 := by
        intro i hi
        have q := hrun (h + 1 + (i : Int)) (by omega) (by omega)
        have e1 : (h + 1 + (i : Int) - h - 1).toNat = i := by omega
        have e2 : (h + 1 + (i : Int)).toNat - 1 = h.toNat + i := by omega
        rw [e1] at q
        rcases q with q | q
        · rw [q.2, ← q.1]
          unfold wd
          rw [e2]
        · have := (g.own _ _ q).2
          rw [this]
          unfold wd
          rw [e2]
      apply List.ext_getElem
      · simp only [List.length_append, List.length_take]
        have := g.high
        omega
      · intro i hi1 hi2
        simp only [List.length_append, List.length_take] at hi1 hi2
        rw [List.getElem_take]
        by_cases q : i < h.toNat
        · rw [List.getElem_append_left (by simp; omega), List.getElem_take]
        · rw [List.getElem_append_right (by simp; omega)]
          have e3 : i - (all.take h.toNat).length = i - h.toNat := by rw [List.length_take]; have := g.high; omega
          have := ho (i - h.toNat) (by have := g.high; omega)
          simp only [e3]
          have hl1 : i - h.toNat < o.length := by have := g.high; omega
          have hl2 : i < all.length := by omega
          rw [show h.toNat + (i - h.toNat) = i by omega] at this
          simpa [List.getD, hl1, hl2] using this
/-- when all have come all are heard -/
theorem Wg.all {all : List Int} {S : Int → Bool} {h : Int} {ws : List Cm} (g : Wg all S h ws) (ha : ∀ k, 1 ≤ k → k ≤ (all.length : Int) → S k = true) : all.take h.toNat = all := by
  have h1 := g.inv.low
  have h2 := g.high
  have e : h = (all.length : Int) := by
    rcases Int.lt_or_le h (all.length : Int) with a | a
    · rcases (g.come (h + 1)).1 (ha (h + 1) (by omega) (by omega)) with b | b
      · omega
      · rw [g.inv.next] at b; cases b
    · omega
  rw [e, Int.toNat_natCast, List.take_length]
/-- what has not come lacks -/
theorem Wg.lacks {all : List Int} {S : Int → Bool} {h : Int} {ws : List Cm} (g : Wg all S h ws) (hn : all.length ≤ 30) : lkC (all.length : Int) = 0 ∧ (lkL h ws (all.length : Int)).length ≤ 30 ∧ (∀ k ∈ lkL h ws (all.length : Int), 1 ≤ k ∧ k ≤ (all.length : Int)) ∧ ∀ k, 1 ≤ k → k ≤ (all.length : Int) → S k = true ∨ k ∈ lkL h ws (all.length : Int) := by
  have hc : lkC (all.length : Int) = 0 := if_neg (by omega)
  have hlow := g.inv.low
  have e : lkL h ws (all.length : Int) = lkN h ws ((all.length : Int) - h).toNat := by
    have hl := lkN_len h ws ((all.length : Int) - h).toNat
    exact lk_end hc (Nat.le_refl _) (by omega) (.inl rfl)
  refine ⟨hc, ?_, fun k hk => ?_, fun k h1 h2 => ?_⟩
  · rw [e]
    have hl := lkN_len h ws ((all.length : Int) - h).toNat
    omega
  · have := lkL_mem hk
    omega
  · by_cases q : S k = true
    · exact .inl q
    · right
      rw [e, lkN_mem]
      refine ⟨⟨?_, by omega⟩, ?_⟩
      · rcases Int.lt_or_le h k with a | a
        · exact a
        · exact absurd ((g.come k).2 (.inl ⟨h1, a⟩)) q
      · cases p : fnd ws 0 k with
        | none => rfl
        | some x => exact absurd ((g.come k).2 (.inr (by rw [p]; rfl))) q
/-- the numbers that came of a list -/
def seen (S : Int → Bool) (l : List Int) (i : Nat) : Int → Bool := fun k => S k || decide (k ∈ l.take i)
theorem Wg.congr {all : List Int} {S S' : Int → Bool} {h : Int} {ws : List Cm} (g : Wg all S h ws) (e : ∀ k, S' k = S k) : Wg all S' h ws := ⟨g.inv, g.high, g.own, fun k => by rw [e k]; exact g.come k⟩
theorem seen_zero (S : Int → Bool) (l : List Int) (k : Int) : seen S l 0 k = S k := by simp [seen]
theorem seen_succ (S : Int → Bool) (l : List Int) {i : Nat} (hi : i < l.length) (k : Int) : seen S l (i + 1) k = (seen S l i k || decide (k = l.getD i 0)) := by
  have e : l.getD i 0 = l[i] := by simp [List.getD, hi]
  have e3 : l.take (i + 1) = l.take i ++ [l[i]] := by rw [List.take_add_one, List.getElem?_eq_getElem hi]; rfl
  unfold seen
  rw [e, e3, Bool.or_assoc]
  congr 1
  rw [Bool.eq_iff_iff]
  simp only [Bool.or_eq_true, decide_eq_true_eq, List.mem_append, List.mem_singleton]
theorem seen_all (S : Int → Bool) (l : List Int) (k : Int) : seen S l l.length k = (S k || decide (k ∈ l)) := by simp [seen]
theorem one_said : sayN [] 0 9 = 1 ∧ sayC [] 0 9 = 0 ∧ sayL [] 0 9 = [9] ∧ askW [9] 0 1 = 9 ∧ askC [9] 0 1 = 0 := by decide
theorem say_ok {said : List Int} (h : said.length < 30) {x : Int} (h1 : 1 ≤ x) (h2 : x ≤ 30) : sayC said 0 x = 0 ∧ sayN said 0 x = (said.length : Int) + 1 ∧ sayL said 0 x = said ++ [x] := by
  have hc : sayC said 0 x = 0 := by
    unfold sayC
    rw [if_neg (by omega), if_neg (by omega)]
  exact ⟨hc, by unfold sayN; rw [if_pos hc], by unfold sayL; rw [if_pos hc]⟩
theorem say_no {said : List Int} {x : Int} (h : x < 1 ∨ 30 < x) : sayC said 0 x = 1 := by
  unfold sayC
  rw [if_pos (by omega)]
theorem ask_ok {said : List Int} {k : Int} (h1 : 1 ≤ k) (h2 : k ≤ (said.length : Int)) : askC said 0 k = 0 ∧ askW said 0 k = wd said k := by
  have hc : askC said 0 k = 0 := by
    unfold askC
    rw [if_neg (by omega), if_neg (by omega)]
  exact ⟨hc, by unfold askW; rw [if_pos hc]; rfl⟩
theorem Ok30.push {said : List Int} (h : Ok30 said) (hl : said.length < 30) {x : Int} (h1 : 1 ≤ x) (h2 : x ≤ 30) : Ok30 (said ++ [x]) := by
  refine ⟨by simp; omega, fun y hy => ?_⟩
  rcases List.mem_append.1 hy with a | a
  · exact h.2 y a
  · rw [List.mem_singleton.1 a]; exact ⟨h1, h2⟩
theorem Ok30.inv {said : List Int} (h : Ok30 said) {free : Nat} (hf : free ≤ said.length) : SInv said free := ⟨hf, h.2⟩
end Go.Proofs.Ytdhlfbpflngmbae.Aga
