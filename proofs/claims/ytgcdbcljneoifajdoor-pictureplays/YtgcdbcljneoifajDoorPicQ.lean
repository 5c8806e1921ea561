/-
  Plain facts on pictures: every call keeps what always holds; when all that is on the way has come, all is done.
-/
import Derived.Test.YtgcdbcljneoifajDoorPicO
namespace Go.Proofs.YtgcdbcljneoifajDoor.Pic
set_option linter.unusedVariables false
variable {g : G} {all : Int}

theorem way_ok {a b : Int} (h : wayC g a b = 0) : inM g a ∧ inM g b ∧ a ≠ b := by
  unfold wayC at h
  split at h
  · rename_i q
    split at h
    · cases h
    · rename_i q2
      exact ⟨q.1, q.2, q2⟩
  · cases h
theorem way_nat {a b : Nat} (ha : a < g.n) (hb : b < g.n) (hab : a ≠ b) : wayC g (a : Int) (b : Int) = 0 := by
  unfold wayC
  rw [if_pos ⟨⟨by omega, by omega⟩, ⟨by omega, by omega⟩⟩, if_neg (by omega)]
theorem way_same {a : Nat} (ha : a < g.n) : wayC g (a : Int) (a : Int) = 3 := by
  unfold wayC
  rw [if_pos ⟨⟨by omega, by omega⟩, ⟨by omega, by omega⟩⟩, if_pos rfl]
theorem pay_ok {a b x : Int} (h : payC g a b x = 0) : wayC g a b = 0 ∧ (1 ≤ x ∧ x ≤ 1000) ∧ x ≤ g.gold a.toNat ∧ (g.way a.toNat b.toNat).length < 40 := by
  unfold payC at h
  split at h
  · rename_i q
    split at h
    · cases h
    · rename_i q1
      split at h
      · cases h
      · rename_i q2
        split at h
        · cases h
        · rename_i q3
          exact ⟨q, by omega, by omega, by omega⟩
  · rename_i q
    exact absurd h q
theorem Inv.pay (h : Inv all g) (a b x : Int) : Inv all (pay g a b x) := by
  unfold Pic.pay
  split
  · rename_i q
    obtain ⟨q1, q2, q3, q4⟩ := pay_ok q
    obtain ⟨z1, z2, z3⟩ := way_ok q1
    unfold inM at z1 z2
    exact h.paid (by omega) (by omega) (by omega) q2 q3 q4
  · exact h
theorem beg_ok {m : Int} (h : begC g m = 0) : inM g m ∧ g.begun = false := by
  unfold begC at h
  split at h
  · rename_i q
    split at h
    · cases h
    · rename_i q2
      exact ⟨q, by simpa using q2⟩
  · cases h
theorem Inv.beg_ (h : Inv all g) (m : Int) : Inv all (Pic.beg g m) := by
  unfold Pic.beg
  split
  · rename_i q
    obtain ⟨q1, q2⟩ := beg_ok q
    unfold inM at q1
    exact h.write (by omega) (h.not q2 _)
  · exact h
theorem come_ok {a b : Int} (h : comeC g a b = 0) : wayC g a b = 0 ∧ ∃ x l, g.way a.toNat b.toNat = x :: l ∧ comeN g a b = x := by
  have h0 := h
  unfold comeC at h
  split at h
  · rename_i q
    split at h
    · cases h
    · rename_i q1
      refine ⟨q, ?_⟩
      cases e : g.way a.toNat b.toNat with
      | nil => rw [e] at q1; exact absurd rfl q1
      | cons x l =>
        refine ⟨x, l, rfl, ?_⟩
        unfold comeN
        rw [if_pos h0, e]
        rfl
  · rename_i q
    exact absurd h q
theorem begun_eta (h : g.begun = true) : { g with begun := true } = g := by
  cases g
  simp at h
  simp [h]
theorem wrt_taken {a b : Nat} (hab : a ≠ b) : wrt (taken g a b) b = taken (wrt g b) a b := by
  unfold wrt
  show (if g.has b = true then taken g a b else write (taken g a b) b) = _
  split
  · rfl
  · unfold write taken
    congr 1
    funext i j
    show (if i = b ∧ j ≠ b ∧ j < g.n then up2 g.way a b (g.way a b).tail i j ++ [0] else up2 g.way a b (g.way a b).tail i j) = up2 (fun i j => if i = b ∧ j ≠ b ∧ j < g.n then g.way i j ++ [0] else g.way i j) a b (if a = b ∧ b ≠ b ∧ b < g.n then g.way a b ++ [0] else g.way a b).tail i j
    rw [if_neg (show ¬ (a = b ∧ b ≠ b ∧ b < g.n) from fun z => hab z.1)]
    by_cases e : i = a ∧ j = b
    · rw [e.1, e.2, up2_same, up2_same, if_neg (fun z => hab z.1)]
    · rw [up2_other _ _ e, up2_other _ _ e]
theorem zero_has (h : Inv all g) {a b : Nat} (ha : a < g.n) (hb : b < g.n) (hab : a ≠ b) (hz : (0 : Int) ∈ g.way a b) : g.has a = true ∧ g.begun = true := by
  have h1 : g.has a = true := by
    rcases h.wy a b ha hb hab with ⟨_, z, _⟩ | ⟨z, _⟩ | ⟨z, _⟩
    · exact absurd hz z
    · exact z
    · exact z
  refine ⟨h1, ?_⟩
  cases e : g.begun
  · rw [h.not e a] at h1; cases h1
  · rfl
theorem Inv.come (h : Inv all g) (a b : Int) : Inv all (come g a b) := by
  unfold Pic.come
  split
  · rename_i q
    obtain ⟨q1, x, l, q2, q3⟩ := come_ok q
    obtain ⟨z1, z2, z3⟩ := way_ok q1
    unfold inM at z1 z2
    have ha : a.toNat < g.n := by omega
    have hb : b.toNat < g.n := by omega
    have hab : a.toNat ≠ b.toNat := by omega
    rw [q3]
    split
    · rename_i q4
      exact h.gain ha hb hab q2 q4
    · rename_i q4
      have hx := h.pos _ _ x (by rw [q2]; exact List.mem_cons_self)
      have x0 : x = 0 := by omega
      subst x0
      have hz := zero_has h ha hb hab (by rw [q2]; exact List.mem_cons_self)
      rw [wrt_taken hab]
      unfold wrt
      cases k : g.has b.toNat
      · rw [iF]
        have h1 := h.write hb k
        rw [begun_eta hz.2] at h1
        refine h1.mark (l := l) ha hb hab ?_ ?_
        · show (if a.toNat = b.toNat ∧ b.toNat ≠ b.toNat ∧ b.toNat < g.n then _ else g.way a.toNat b.toNat) = _
          rw [if_neg (fun z => hab z.1)]
          exact q2
        · exact up_same _ _ _
      · rw [iT]
        exact h.mark ha hb hab q2 k
  · exact h
/-! what a call leaves alone -/
theorem come_n (g : G) (a b : Int) : (come g a b).n = g.n := by
  unfold come wrt
  split
  · split
    · rfl
    · show (if (taken g a.toNat b.toNat).has b.toNat = true then taken g a.toNat b.toNat else write (taken g a.toNat b.toNat) b.toNat).n = g.n
      split <;> rfl
  · rfl
theorem come_begun (g : G) (a b : Int) : (come g a b).begun = g.begun := by
  unfold come wrt
  split
  · split
    · rfl
    · show (if (taken g a.toNat b.toNat).has b.toNat = true then taken g a.toNat b.toNat else write (taken g a.toNat b.toNat) b.toNat).begun = g.begun
      split <;> rfl
  · rfl
theorem come_has {a b : Int} {i : Nat} (h : g.has i = true) : (come g a b).has i = true := by
  unfold come wrt
  split
  · split
    · exact h
    · show (if (taken g a.toNat b.toNat).has b.toNat = true then taken g a.toNat b.toNat else write (taken g a.toNat b.toNat) b.toNat).has i = true
      split
      · exact h
      · show up g.has b.toNat true i = true
        by_cases e : i = b.toNat
        · rw [e, up_same]
        · rw [up_other _ _ e]; exact h
  · exact h
theorem come_len {a b : Nat} (hab : a ≠ b) (h : comeC g (a : Int) (b : Int) = 0) : ((come g (a : Int) (b : Int)).way a b).length + 1 = (g.way a b).length := by
  obtain ⟨_, x, l, q2, q3⟩ := come_ok h
  rw [Int.toNat_natCast, Int.toNat_natCast] at q2
  have key : (come g (a : Int) (b : Int)).way a b = l := by
    unfold come
    rw [if_pos h, Int.toNat_natCast, Int.toNat_natCast]
    split
    · show up2 g.way a b (g.way a b).tail a b = l
      rw [up2_same, q2]; rfl
    · rw [wrt_taken hab]
      show up2 (wrt g b).way a b ((wrt g b).way a b).tail a b = l
      rw [up2_same]
      have e : (wrt g b).way a b = g.way a b := by
        unfold wrt
        split
        · rfl
        · show (if a = b ∧ b ≠ b ∧ b < g.n then _ else g.way a b) = _
          rw [if_neg (fun z => hab z.1)]
      rw [e, q2]
      rfl
  rw [key, q2, List.length_cons]
/-- nobody writes any more -/
def Q2 (g : G) : Prop := (∀ i, i < g.n → g.has i = true) ∨ g.begun = false
theorem come_way (h : Inv all g) (hq : Q2 g) {a b : Nat} (ha : a < g.n) (hb : b < g.n) {i j : Nat} (hij : ¬ (i = a ∧ j = b)) : (come g (a : Int) (b : Int)).way i j = g.way i j := by
  unfold come
  split
  · rename_i q
    obtain ⟨q1, x, l, q2, q3⟩ := come_ok q
    obtain ⟨_, _, z3⟩ := way_ok q1
    rw [Int.toNat_natCast, Int.toNat_natCast] at q2 ⊢
    have hab : a ≠ b := by omega
    split
    · exact up2_other _ _ hij
    · rename_i q4
      rw [q3] at q4
      have hx := h.pos _ _ x (by rw [q2]; exact List.mem_cons_self)
      have x0 : x = 0 := by omega
      subst x0
      have hz := zero_has h ha hb hab (by rw [q2]; exact List.mem_cons_self)
      have hB : g.has b = true := by
        rcases hq with k | k
        · exact k b hb
        · rw [hz.2] at k; cases k
      unfold wrt
      show (closed (if g.has b = true then taken g a b else write (taken g a b) b) a b).way i j = _
      rw [hB, iT]
      exact up2_other _ _ hij
  · rfl
theorem come_Q2 (hq : Q2 g) (a b : Int) : Q2 (come g a b) := by
  rcases hq with k | k
  · exact .inl fun i hi => come_has (k i (by rw [come_n] at hi; exact hi))
  · exact .inr (by rw [come_begun]; exact k)
/-- a way that was emptied -/
theorem empty_has (h : Inv all g) {a b : Nat} (ha : a < g.n) (hb : b < g.n) (hab : a ≠ b) (hw : g.way a b = []) (hA : g.has a = true) : g.has b = true ∧ g.opn a b = false := by
  rcases h.wy a b ha hb hab with ⟨z, _, _⟩ | ⟨_, ⟨p, q, z, _, _⟩, _⟩ | ⟨_, z2, _, z4⟩
  · rw [hA] at z; cases z
  · rw [hw] at z
    exact absurd z (by simp)
  · exact ⟨z2, z4⟩
/-- the first time around: who had written, sent marks -/
def D1 (f t : Nat) (g : G) : Prop := g.begun = true → ∃ b, b < g.n ∧ g.has b = true ∧ (b < f → ∀ k, k < g.n → g.has k = true) ∧ (b = f → ∀ k, k < t → k < g.n → g.has k = true)
theorem D1.start (h : Inv all g) : D1 0 0 g := fun q => by
  obtain ⟨b, h1, h2⟩ := h.beg q
  exact ⟨b, h1, h2, fun z => absurd z (Nat.not_lt_zero _), fun _ k z => absurd z (Nat.not_lt_zero _)⟩
theorem D1.come {f t : Nat} (h : D1 f t g) (a b : Int) : D1 f t (come g a b) := fun q => by
  rw [come_begun] at q
  obtain ⟨c, h1, h2, h3, h4⟩ := h q
  exact ⟨c, by rw [come_n]; exact h1, come_has h2, fun z k hk => come_has (h3 z k (by rw [come_n] at hk; exact hk)), fun z k hk hk2 => come_has (h4 z k hk (by rw [come_n] at hk2; exact hk2))⟩
theorem D1.next {f t : Nat} (h : D1 f t g) (hi : Inv all g) (hf : f < g.n) (hd : f = t ∨ g.way f t = []) : D1 f (t + 1) g := fun q => by
  obtain ⟨c, h1, h2, h3, h4⟩ := h q
  refine ⟨c, h1, h2, h3, fun z k hk hk2 => ?_⟩
  by_cases e : k = t
  · subst e
    rcases hd with y | y
    · rw [← y, ← z]; exact h2
    · by_cases e2 : f = k
      · rw [← e2, ← z]; exact h2
      · exact (empty_has hi hf hk2 e2 y (by rw [← z]; exact h2)).1
  · exact h4 z k (by omega) hk2
theorem D1.row {f : Nat} (h : D1 f g.n g) : D1 (f + 1) 0 g := fun q => by
  obtain ⟨c, h1, h2, h3, h4⟩ := h q
  refine ⟨c, h1, h2, fun z k hk => ?_, fun _ k z => absurd z (Nat.not_lt_zero _)⟩
  by_cases e : c = f
  · exact h4 e k hk hk
  · exact h3 (by omega) k hk
theorem D1.q2 (h : D1 g.n 0 g) : Q2 g := by
  cases e : g.begun
  · exact .inr e
  · obtain ⟨c, h1, h2, h3, h4⟩ := h e
    exact .inl (h3 h1)
/-- the second time around: ways that were emptied stay empty -/
def D2 (f t : Nat) (g : G) : Prop := Q2 g ∧ ∀ i j, i < g.n → j < g.n → (i < f ∨ (i = f ∧ j < t)) → g.way i j = []
theorem D2.start (h : Q2 g) : D2 0 0 g := ⟨h, fun i j _ _ z => by omega⟩
theorem D2.come {f t : Nat} (h : D2 f t g) (hi : Inv all g) (hf : f < g.n) (ht : t < g.n) : D2 f t (come g (f : Int) (t : Int)) := by
  refine ⟨come_Q2 h.1 _ _, fun i j hi' hj z => ?_⟩
  rw [come_n] at hi' hj
  rw [come_way hi h.1 hf ht (by omega)]
  exact h.2 i j hi' hj z
theorem D2.next {f t : Nat} (h : D2 f t g) (hi : Inv all g) (hd : f = t ∨ g.way f t = []) : D2 f (t + 1) g := by
  refine ⟨h.1, fun i j hi' hj z => ?_⟩
  by_cases e : i = f ∧ j = t
  · rcases hd with y | y
    · rw [e.1, e.2, y]; exact (hi.diag t).1
    · rw [e.1, e.2]; exact y
  · exact h.2 i j hi' hj (by omega)
theorem D2.row {f : Nat} (h : D2 f g.n g) : D2 (f + 1) 0 g := ⟨h.1, fun i j hi hj z => h.2 i j hi hj (by omega)⟩
/-- all has come -/
theorem D2.done (h : D2 g.n 0 g) (hi : Inv all g) : S g.gold g.n = all ∧ (Dn g ↔ g.begun = true) := by
  have he : ∀ i j, i < g.n → j < g.n → g.way i j = [] := fun i j hi' hj => h.2 i j hi' hj (.inl hi')
  refine ⟨?_, fun hd => ?_, fun hb => ?_⟩
  · have z := hi.cons
    rw [S2_none (f := fun i j => tot (g.way i j)) fun i j hi' hj => by rw [he i j hi' hj]; rfl] at z
    omega
  · cases e : g.begun
    · have z := (hd 0 (by have := hi.two; omega)).1
      rw [hi.not e 0] at z
      cases z
    · rfl
  · have ha : ∀ i, i < g.n → g.has i = true := by
      rcases h.1 with k | k
      · exact k
      · rw [hb] at k; cases k
    intro i hi'
    refine ⟨ha i hi', fun k hk => ?_⟩
    by_cases e : i = k
    · rw [← e]; exact (hi.diag i).2.1
    · exact (empty_has hi hi' hk e (he i k hi' hk) (ha i hi')).2
end Go.Proofs.YtgcdbcljneoifajDoor.Pic
