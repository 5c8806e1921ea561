/-
  Plain facts for FlushSame: words that anybody heard are words; in all views of one member no word stands twice.
-/
import Derived.Test.YtgdmbnfdcbekaaiDoorFluM
namespace Go.Proofs.YtgdmbnfdcbekaaiDoor.Flu
open Go.Proofs.YtgdmbnfdcbekaaiDoor.Viw (Vi viewC hasC nextC nextV shared bothC bothL few_no next_ok next_is next_view view_ok has_ok)
set_option linter.unusedVariables false

variable {f : F}
/-- what anybody heard are words -/
def Rng (f : F) : Prop := ∀ k m x, x ∈ f.hd k m → 1 ≤ x ∧ x ≤ 30
theorem Rng.start (n : Nat) : Rng (start n) := fun k m x hx => absurd hx List.not_mem_nil
theorem Rng.up2 (h : Rng f) {m : Nat} {word : Int} (hw : 1 ≤ word ∧ word ≤ 30) : ∀ k m' x, x ∈ up2 f.hd (num f) m (cur f m ++ [word]) k m' → 1 ≤ x ∧ x ≤ 30 := by
  intro k m' x hx
  by_cases e : k = num f ∧ m' = m
  · rw [e.1, e.2, up2_same] at hx
    rcases List.mem_append.1 hx with a | a
    · exact h _ _ x a
    · rw [List.mem_singleton.1 a]; exact hw
  · rw [up2_other _ _ e] at hx
    exact h k m' x hx
theorem Rng.say (h : Rng f) (who word : Int) : Rng (say f who word) := by
  unfold Flu.say
  split
  · rename_i q
    exact h.up2 (chk_ok (say_ok q).1).2.1
  · exact h
theorem Rng.give (h : Rng f) (who word : Int) : Rng (give f who word) := by
  unfold Flu.give
  split
  · rename_i q
    exact h.up2 (chk_ok (give_ok q).1).2.1
  · exact h
theorem Rng.change (h : Rng f) (hi : Inv f) (has : List Int) : Rng (change f has) := by
  unfold Flu.change
  split
  · intro k m x hx
    have hx' : x ∈ up1 f.hd (num f) (fl (stay f has) (cur f) f.said) k m := hx
    by_cases e : k = num f
    · rw [e, up1_same] at hx'
      rcases (fl_mem (hi.stay0 has)).1 hx' with a | a
      · exact h _ _ x a
      · exact (hi.was x a.1).2
    · rw [up1_other _ _ _ e] at hx'
      exact h k m x hx'
  · exact h
theorem say_v (f : F) (who word : Int) : (say f who word).v = f.v := by unfold say; split <;> rfl
theorem give_v (f : F) (who word : Int) : (give f who word).v = f.v := by unfold give; split <;> rfl
theorem change_ok {has : List Int} (h : chC f has = 0) : change f has = turn f has := if_pos h
theorem change_no {has : List Int} (h : chC f has ≠ 0) : change f has = f := if_neg h
theorem change_n (hi : Inv f) (has : List Int) : (change f has).v.n ≤ f.v.n + 1 := by
  unfold change
  split
  · exact Int.le_refl _
  · omega
/-- who is in both -/
theorem both_stay (hi : Inv f) {has : List Int} (h : chC f has = 0) : bothC f.v (nextV f.v has) = 0 ∧ bothL f.v (nextV f.v has) = stay f has ∧ 0 < (stay f has).length ∧ (stay f has).length ≤ 5 := by
  have hb : bothC f.v (nextV f.v has) = 0 := by
    unfold bothC
    rw [if_pos hi.view]
    exact next_view h
  refine ⟨hb, ?_, ?_, ?_⟩
  · unfold bothL
    rw [if_pos hb, next_is h]
    rfl
  · have := few_no (next_ok h).2.2.2
    show 0 < (shared f.v.has has).length
    omega
  · have h1 := Viw.has_le (view_ok hi.view).2
    have h2 := Viw.shared_len f.v.has has
    show (shared f.v.has has).length ≤ 5
    omega
theorem turn_v (f : F) (has : List Int) : (turn f has).v = ⟨f.v.n + 1, has⟩ := rfl
/-- what one of these heard in the view that was -/
theorem heard_stay (hi : Inv f) {has : List Int} {x : Int} (hx : x ∈ stay f has) : hdC (turn f has) x f.v.n = 0 ∧ hdL (turn f has) x f.v.n = (turn f has).hd (num f) x.toNat := by
  have h1 := hi.has x (stay_in hx)
  have h2 := hi.n0
  have e : hdC (turn f has) x f.v.n = 0 := by
    unfold hdC
    rw [turn_v]
    exact if_neg (by show ¬ ((x < 0 ∨ 4 < x) ∨ f.v.n < 0 ∨ f.v.n + 1 < f.v.n); omega)
  refine ⟨e, ?_⟩
  unfold hdL
  rw [if_pos e]
  rfl
theorem stay_nat (hi : Inv f) {has : List Int} {x : Int} (hx : x ∈ stay f has) : ((x.toNat : Nat) : Int) ∈ stay f has := by
  rw [Int.toNat_of_nonneg (hi.has x (stay_in hx)).1]
  exact hx
theorem same_two (hi : Inv f) {has : List Int} (h : chC f has = 0) {x y : Int} (hx : x ∈ stay f has) (hy : y ∈ stay f has) : (hdL (turn f has) x f.v.n).length = (hdL (turn f has) y f.v.n).length ∧ ∀ z, z ∈ hdL (turn f has) x f.v.n ↔ z ∈ hdL (turn f has) y f.v.n := by
  rw [(heard_stay hi hx).2, (heard_stay hi hy).2]
  exact ⟨same_len hi h (stay_nat hi hx) (stay_nat hi hy), same hi (stay_nat hi hx) (stay_nat hi hy)⟩
/-! all that one heard -/
def al (f : F) (m : Nat) : Nat → List Int
  | 0 => []
  | k + 1 => al f m k ++ f.hd k m
theorem al_mem {m k : Nat} {x : Int} (h : x ∈ al f m k) : ∃ k', k' < k ∧ x ∈ f.hd k' m := by
  induction k with
  | zero => exact absurd h List.not_mem_nil
  | succ k ih =>
    rcases List.mem_append.1 h with a | a
    · obtain ⟨k', h1, h2⟩ := ih a
      exact ⟨k', by omega, h2⟩
    · exact ⟨k, by omega, a⟩
theorem al_apart (hi : Inv f) {m k : Nat} {x : Int} (h : x ∈ f.hd k m) : x ∉ al f m k := fun q => by
  obtain ⟨k', h1, h2⟩ := al_mem q
  have := hi.apart k k' m m x h h2
  omega
theorem al_nodup (hi : Inv f) (m : Nat) : ∀ k, (al f m k).Nodup := by
  intro k
  induction k with
  | zero => exact List.nodup_nil
  | succ k ih =>
    show (al f m k ++ f.hd k m).Nodup
    rw [List.nodup_append]
    exact ⟨ih, hi.hdN k m, fun a ha b hb e => al_apart hi (e ▸ hb) ha⟩
/-- all of the views ahead, and so many of this one -/
def alT (f : F) (m k j : Nat) : List Int := al f m k ++ (f.hd k m).take j
theorem alT_new (hi : Inv f) {m k j : Nat} (hj : j < (f.hd k m).length) : (f.hd k m).getD j 0 ∉ alT f m k j := by
  have e : (f.hd k m).getD j 0 = (f.hd k m)[j] := by simp [List.getD, hj]
  rw [e]
  intro q
  rcases List.mem_append.1 q with a | a
  · exact al_apart hi (List.getElem_mem hj) a
  · obtain ⟨i, h1, h2⟩ := List.getElem_of_mem a
    rw [List.length_take] at h1
    rw [List.getElem_take] at h2
    exact List.pairwise_iff_getElem.1 (hi.hdN k m) i j (by omega) hj (by omega) h2
theorem alT_zero (f : F) (m k : Nat) : alT f m k 0 = al f m k := by simp [alT]
theorem alT_step {m k j : Nat} (hj : j < (f.hd k m).length) : alT f m k (j + 1) = alT f m k j ++ [(f.hd k m).getD j 0] := by
  unfold alT
  rw [List.take_succ_eq_append_getElem hj, List.append_assoc]
  simp [List.getD, hj]
theorem alT_end (f : F) (m k : Nat) : alT f m k (f.hd k m).length = al f m (k + 1) := by
  unfold alT
  rw [List.take_length]
  rfl
theorem alT_len (hi : Inv f) (hr : Rng f) (m k j : Nat) : (alT f m k j).length ≤ 30 := by
  have hn : (alT f m k j).Nodup := by
    refine List.Nodup.sublist ?_ (al_nodup hi m (k + 1))
    exact List.Sublist.append (List.Sublist.refl _) (List.take_sublist _ _)
  have hs : ∀ x ∈ alT f m k j, x ∈ (List.range 31).map (fun (i : Nat) => (i : Int)) := by
    intro x hx
    have hb : 1 ≤ x ∧ x ≤ 30 := by
      rcases List.mem_append.1 hx with a | a
      · obtain ⟨k', _, h2⟩ := al_mem a
        exact hr _ _ x h2
      · exact hr _ _ x (List.mem_of_mem_take a)
    exact List.mem_map.2 ⟨x.toNat, List.mem_range.2 (by omega), by omega⟩
  have hs' : ∀ x ∈ (0 :: alT f m k j), x ∈ (List.range 31).map (fun (i : Nat) => (i : Int)) := by
    intro x hx
    rcases List.mem_cons.1 hx with rfl | a
    · exact List.mem_map.2 ⟨0, List.mem_range.2 (by omega), rfl⟩
    · exact hs x a
  have hn' : (0 :: alT f m k j).Nodup := List.nodup_cons.2 ⟨fun q => by
    have hb : 1 ≤ (0 : Int) ∧ (0 : Int) ≤ 30 := by
      rcases List.mem_append.1 q with a | a
      · obtain ⟨k', _, h2⟩ := al_mem a
        exact hr _ _ 0 h2
      · exact hr _ _ 0 (List.mem_of_mem_take a)
    omega, hn⟩
  have := len_le hn' hs'
  simp at this
  omega
theorem hd_len (hi : Inv f) (hr : Rng f) (m k : Nat) : (f.hd k m).length ≤ 30 := by
  have h1 := alT_len hi hr m k (f.hd k m).length
  unfold alT at h1
  rw [List.take_length, List.length_append] at h1
  omega
theorem heard_all (hi : Inv f) {m k : Nat} (hm : m < 5) (hk : (k : Int) ≤ f.v.n) : hdC f (m : Int) (k : Int) = 0 ∧ hdL f (m : Int) (k : Int) = f.hd k m := by
  have e : hdC f (m : Int) (k : Int) = 0 := if_neg (by omega)
  refine ⟨e, ?_⟩
  unfold hdL
  rw [if_pos e, Int.toNat_natCast, Int.toNat_natCast]
/-! the fact ahead -/
def k1 : F := say (start 2) 0 6
def k2 : F := change k1 [0, 1]
theorem k_fact : sayC (start 2) 0 6 = 0 ∧ chC k1 [0, 1] = 0 ∧ hdC k2 1 0 = 0 ∧ hdL k2 1 0 = [6] ∧ k1.v.n = 0 ∧ k2.v.n = 1 ∧ (nextV k1.v [0, 1]).has = [0, 1] ∧ (nextV k1.v [0, 1]).n = 1 := by decide
theorem kI1 : Inv k1 := (Inv.start (by omega) (by omega)).say 0 6
theorem kI2 : Inv k2 := kI1.change [0, 1]
end Go.Proofs.YtgdmbnfdcbekaaiDoor.Flu
