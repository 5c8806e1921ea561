/-
  Plain facts on a group that flushes: what is said and heard in views that change; who goes on together heard the same.
-/
import Derived.Test.YtgdmbnfdcbekaaiDoorViwM
namespace Go.Proofs.YtgdmbnfdcbekaaiDoor.Flu
open Go.Proofs.YtgdmbnfdcbekaaiDoor.Viw (Vi viewC hasC nxC nextC nextV shared view_ok next_ok next_is next_view has_ok has_le hasAt_ok hasAt)
set_option linter.unusedVariables false

/-! lists without repetition -/
theorem len_le {l m : List Int} (hn : l.Nodup) (h : ∀ x ∈ l, x ∈ m) : l.length ≤ m.length := by
  induction l generalizing m with
  | nil => exact Nat.zero_le _
  | cons a l ih =>
    have ha : a ∈ m := h a List.mem_cons_self
    obtain ⟨h1, h2⟩ := List.nodup_cons.1 hn
    have hk : ∀ x ∈ l, x ∈ m.erase a := by
      intro x hx
      have hne : x ≠ a := fun e => h1 (e ▸ hx)
      exact (List.mem_erase_of_ne hne).2 (h x (List.mem_cons_of_mem _ hx))
    have := ih h2 hk
    have h3 := List.length_erase_of_mem ha
    have h4 := List.length_pos_of_mem ha
    simp only [List.length_cons]
    omega
theorem len_eq {l m : List Int} (hl : l.Nodup) (hm : m.Nodup) (h : ∀ x, x ∈ l ↔ x ∈ m) : l.length = m.length := Nat.le_antisymm (len_le hl fun x hx => (h x).1 hx) (len_le hm fun x hx => (h x).2 hx)
theorem nodup_snoc {l : List Int} {x : Int} (h : l.Nodup) (hx : x ∉ l) : (l ++ [x]).Nodup := by
  rw [List.nodup_append]
  refine ⟨h, by simp, fun a ha b hb => ?_⟩
  rw [List.mem_singleton.1 hb]
  exact fun e => hx (e ▸ ha)
def up2 (f : Nat → Nat → List Int) (k m : Nat) (l : List Int) : Nat → Nat → List Int := fun a b => if a = k ∧ b = m then l else f a b
def up1 (f : Nat → Nat → List Int) (k : Nat) (g : Nat → List Int) : Nat → Nat → List Int := fun a b => if a = k then g b else f a b
theorem up2_same (f : Nat → Nat → List Int) (k m : Nat) (l : List Int) : up2 f k m l k m = l := if_pos ⟨rfl, rfl⟩
theorem up2_other (f : Nat → Nat → List Int) {k m a b : Nat} (l : List Int) (h : ¬ (a = k ∧ b = m)) : up2 f k m l a b = f a b := if_neg h
theorem up1_same (f : Nat → Nat → List Int) (k : Nat) (g : Nat → List Int) (b : Nat) : up1 f k g k b = g b := if_pos rfl
theorem up1_other (f : Nat → Nat → List Int) {k a : Nat} (g : Nat → List Int) (b : Nat) (h : a ≠ k) : up1 f k g a b = f a b := if_neg h
/-- a group: its view, which words were said, those of this view in order, what each heard in each view -/
structure F where
  v : Vi
  was : Int → Bool
  said : List Int
  hd : Nat → Nat → List Int
def allOf (n : Nat) : List Int := (List.range n).map fun (i : Nat) => (i : Int)
def start (n : Nat) : F := ⟨⟨0, allOf n⟩, fun _ => false, [], fun _ _ => []⟩
variable {f : F}
/-- the number of the view -/
def num (f : F) : Nat := f.v.n.toNat
def cur (f : F) (m : Nat) : List Int := f.hd (num f) m
def chk (f : F) (who word : Int) : Int := if (who < 0 ∨ 4 < who) ∨ word < 1 ∨ 30 < word then 1 else if who ∈ f.v.has then 0 else 8
def sayC (f : F) (who word : Int) : Int := if chk f who word = 0 then (if f.was word = true then 7 else 0) else chk f who word
def put (f : F) (m : Nat) (word : Int) : F := { f with was := fun x => if x = word then true else f.was x, said := f.said ++ [word], hd := up2 f.hd (num f) m (cur f m ++ [word]) }
def say (f : F) (who word : Int) : F := if sayC f who word = 0 then put f who.toNat word else f
def giveC (f : F) (who word : Int) : Int := if chk f who word = 0 then (if word ∈ f.said then (if word ∈ cur f who.toNat then 7 else 0) else 5) else chk f who word
def got (f : F) (m : Nat) (word : Int) : F := { f with hd := up2 f.hd (num f) m (cur f m ++ [word]) }
def give (f : F) (who word : Int) : F := if giveC f who word = 0 then got f who.toNat word else f
/-- did any of these hear it -/
def anyH (st : List Int) (g : Nat → List Int) (x : Int) : Bool := st.any fun k => decide (x ∈ g k.toNat)
/-- these hear a word that any of them heard -/
def hearW (st : List Int) (g : Nat → List Int) (x : Int) : Nat → List Int := fun m => if (m : Int) ∈ st ∧ x ∉ g m ∧ anyH st g x = true then g m ++ [x] else g m
def fl (st : List Int) (g : Nat → List Int) : List Int → Nat → List Int
  | [] => g
  | x :: l => fl st (hearW st g x) l
def chC (f : F) (has : List Int) : Int := nextC f.v has
def stay (f : F) (has : List Int) : List Int := shared f.v.has has
def turn (f : F) (has : List Int) : F := { v := ⟨f.v.n + 1, has⟩, was := f.was, said := [], hd := up1 f.hd (num f) (fl (stay f has) (cur f) f.said) }
def change (f : F) (has : List Int) : F := if chC f has = 0 then turn f has else f
def hdC (f : F) (who n : Int) : Int := if (who < 0 ∨ 4 < who) ∨ n < 0 ∨ f.v.n < n then 1 else 0
def hdL (f : F) (who n : Int) : List Int := if hdC f who n = 0 then f.hd n.toNat who.toNat else []
/-! what they hear who stay -/
variable {st : List Int} {g : Nat → List Int}
theorem anyH_iff {x : Int} : anyH st g x = true ↔ ∃ k ∈ st, x ∈ g k.toNat := by
  unfold anyH
  rw [List.any_eq_true]
  constructor
  · rintro ⟨k, h1, h2⟩; exact ⟨k, h1, of_decide_eq_true h2⟩
  · rintro ⟨k, h1, h2⟩; exact ⟨k, h1, decide_eq_true h2⟩
theorem hearW_mem {x y : Int} {m : Nat} : y ∈ hearW st g x m ↔ y ∈ g m ∨ (y = x ∧ (m : Int) ∈ st ∧ anyH st g x = true) := by
  unfold hearW
  split
  · rename_i h
    rw [List.mem_append, List.mem_singleton]
    constructor
    · rintro (a | a)
      · exact .inl a
      · exact .inr ⟨a, h.1, h.2.2⟩
    · rintro (a | a)
      · exact .inl a
      · exact .inr a.1
  · rename_i h
    constructor
    · exact .inl
    · rintro (a | ⟨rfl, a2, a3⟩)
      · exact a
      · exact Decidable.byContradiction fun z => h ⟨a2, z, a3⟩
theorem hearW_any {x y : Int} (h0 : ∀ k ∈ st, 0 ≤ k) : anyH st (hearW st g x) y = anyH st g y := by
  rw [Bool.eq_iff_iff, anyH_iff, anyH_iff]
  constructor
  · rintro ⟨k, h1, h2⟩
    rcases hearW_mem.1 h2 with a | ⟨rfl, _, a⟩
    · exact ⟨k, h1, a⟩
    · exact anyH_iff.1 a
  · rintro ⟨k, h1, h2⟩
    exact ⟨k, h1, hearW_mem.2 (.inl h2)⟩
theorem fl_mem (h0 : ∀ k ∈ st, 0 ≤ k) {l : List Int} {y : Int} {m : Nat} : y ∈ fl st g l m ↔ y ∈ g m ∨ (y ∈ l ∧ (m : Int) ∈ st ∧ anyH st g y = true) := by
  induction l generalizing g with
  | nil => exact ⟨.inl, fun h => h.elim id fun a => absurd a.1 List.not_mem_nil⟩
  | cons x l ih =>
    show y ∈ fl st (hearW st g x) l m ↔ _
    rw [ih, hearW_mem, hearW_any h0]
    constructor
    · rintro ((a | ⟨rfl, a, b⟩) | ⟨a, b, c⟩)
      · exact .inl a
      · exact .inr ⟨List.mem_cons_self, a, b⟩
      · exact .inr ⟨List.mem_cons_of_mem _ a, b, c⟩
    · rintro (a | ⟨a, b, c⟩)
      · exact .inl (.inl a)
      · rcases List.mem_cons.1 a with rfl | a
        · exact .inl (.inr ⟨rfl, b, c⟩)
        · exact .inr ⟨a, b, c⟩
theorem fl_nodup {l : List Int} (h : ∀ m, (g m).Nodup) : ∀ m, (fl st g l m).Nodup := by
  induction l generalizing g with
  | nil => exact h
  | cons x l ih =>
    refine ih fun m => ?_
    unfold hearW
    split
    · rename_i q
      exact nodup_snoc (h m) q.2.1
    · exact h m
/-! what always holds -/
structure Inv (f : F) : Prop where
  view : viewC f.v = 0
  saidN : f.said.Nodup
  was : ∀ x ∈ f.said, f.was x = true ∧ 1 ≤ x ∧ x ≤ 30
  hdN : ∀ k m, (f.hd k m).Nodup
  now : ∀ m, ∀ x ∈ cur f m, x ∈ f.said
  old : ∀ k, k < num f → ∀ m, ∀ x ∈ f.hd k m, f.was x = true ∧ x ∉ f.said
  apart : ∀ k k' m m' x, x ∈ f.hd k m → x ∈ f.hd k' m' → k = k'
  new : ∀ k, num f < k → ∀ m, f.hd k m = []
theorem Inv.n0 (h : Inv f) : 0 ≤ f.v.n ∧ f.v.n ≤ 1000000 := (view_ok h.view).1
theorem Inv.numI (h : Inv f) : (num f : Int) = f.v.n := by have := h.n0; unfold num; omega
theorem Inv.has (h : Inv f) : ∀ k ∈ f.v.has, 0 ≤ k ∧ k ≤ 4 := by
  intro k hk
  obtain ⟨i, hi, e⟩ := List.getElem_of_mem hk
  have := (hasAt_ok ((has_ok (view_ok h.view).2).2 i hi)).1
  have e2 : f.v.has.getD i 0 = k := by simp [List.getD, hi, e]
  rw [e2] at this
  exact this
theorem stay_in {has : List Int} {k : Int} (h : k ∈ stay f has) : k ∈ f.v.has := (List.mem_filter.1 h).1
theorem allOf_len (n : Nat) : (allOf n).length = n := by simp [allOf]
theorem allOf_get {n i : Nat} (h : i < n) : (allOf n).getD i 0 = (i : Int) := by simp [allOf, List.getD, h]
theorem Inv.start {n : Nat} (h2 : 2 ≤ n) (h5 : n ≤ 5) : Inv (start n) := by
  refine ⟨?_, List.nodup_nil, fun x hx => absurd hx List.not_mem_nil, fun _ _ => List.nodup_nil, fun m x hx => absurd hx List.not_mem_nil, fun k hk m x hx => absurd hx List.not_mem_nil, fun k k' m m' x hx => absurd hx List.not_mem_nil, fun _ _ _ => rfl⟩
  show viewC ⟨0, allOf n⟩ = 0
  unfold viewC
  rw [if_neg (by show ¬ ((0 : Int) < 0 ∨ 1000000 < (0 : Int)); decide)]
  unfold hasC
  rw [if_neg (by show ¬ (allOf n).length = 0; rw [allOf_len]; omega)]
  refine Viw.scan_ok.2 fun i hi => ?_
  have hi' : i < n := by rw [allOf_len] at hi; exact hi
  show hasAt (allOf n) i = 0
  unfold hasAt
  rw [allOf_get hi', if_neg (by omega)]
  by_cases e : 0 < i
  · rw [allOf_get (show i - 1 < n by omega), if_neg (by omega)]
  · rw [if_neg (fun q => e q.1)]
theorem chk_ok {who word : Int} (h : chk f who word = 0) : (0 ≤ who ∧ who ≤ 4) ∧ (1 ≤ word ∧ word ≤ 30) ∧ who ∈ f.v.has := by
  unfold chk at h
  split at h
  · cases h
  · split at h
    · rename_i q1 q2; exact ⟨by omega, by omega, q2⟩
    · cases h
theorem say_ok {who word : Int} (h : sayC f who word = 0) : chk f who word = 0 ∧ f.was word = false := by
  unfold sayC at h
  split at h
  · rename_i q
    split at h
    · cases h
    · rename_i q2; exact ⟨q, by simpa using q2⟩
  · rename_i q; exact absurd h q
theorem give_ok {who word : Int} (h : giveC f who word = 0) : chk f who word = 0 ∧ word ∈ f.said ∧ word ∉ cur f who.toNat := by
  unfold giveC at h
  split at h
  · rename_i q
    split at h
    · rename_i q1
      split at h
      · cases h
      · rename_i q2; exact ⟨q, q1, q2⟩
    · cases h
  · rename_i q; exact absurd h q
theorem Inv.put (h : Inv f) {m : Nat} {word : Int} (hw : 1 ≤ word ∧ word ≤ 30) (hs : f.was word = false) : Inv (put f m word) := by
  have hn : word ∉ f.said := fun q => by rw [(h.was word q).1] at hs; cases hs
  have hno : ∀ k m', word ∉ f.hd k m' := by
    intro k m' q
    rcases Nat.lt_trichotomy k (num f) with z | z | z
    · rw [(h.old k z m' word q).1] at hs; cases hs
    · rw [z] at q; exact hn (h.now m' word q)
    · rw [h.new k z m'] at q; exact absurd q List.not_mem_nil
  have mem : ∀ k m' x, x ∈ up2 f.hd (num f) m (cur f m ++ [word]) k m' → (x ∈ f.hd k m') ∨ (x = word ∧ k = num f) := by
    intro k m' x hx
    by_cases e : k = num f ∧ m' = m
    · rw [e.1, e.2, up2_same] at hx
      rcases List.mem_append.1 hx with a | a
      · exact .inl (by rw [e.1, e.2]; exact a)
      · exact .inr ⟨List.mem_singleton.1 a, e.1⟩
    · rw [up2_other _ _ e] at hx
      exact .inl hx
  refine ⟨h.view, nodup_snoc h.saidN hn, fun x hx => ?_, fun k m' => ?_, fun m' x hx => ?_, fun k hk m' x hx => ?_, fun k k' a b x hx hx' => ?_, fun k hk m' => ?_⟩
  · show (if x = word then true else f.was x) = true ∧ _
    rcases List.mem_append.1 hx with a | a
    · have := h.was x a
      refine ⟨?_, this.2⟩
      split
      · rfl
      · exact this.1
    · rw [List.mem_singleton.1 a, if_pos rfl]
      exact ⟨rfl, hw⟩
  · show (up2 f.hd (num f) m (cur f m ++ [word]) k m').Nodup
    by_cases e : k = num f ∧ m' = m
    · rw [e.1, e.2, up2_same]
      exact nodup_snoc (h.hdN _ _) (hno _ _)
    · rw [up2_other _ _ e]
      exact h.hdN k m'
  · show x ∈ f.said ++ [word]
    rcases mem (num f) m' x hx with a | a
    · exact List.mem_append.2 (.inl (h.now m' x a))
    · exact List.mem_append.2 (.inr (List.mem_singleton.2 a.1))
  · have hk' : k < num f := hk
    rcases mem k m' x hx with a | a
    · have z := h.old k hk' m' x a
      refine ⟨?_, fun q => ?_⟩
      · show (if x = word then true else f.was x) = true
        split
        · rfl
        · exact z.1
      · rcases List.mem_append.1 q with b | b
        · exact z.2 b
        · rw [List.mem_singleton.1 b] at a
          exact hno _ _ a
    · omega
  · rcases mem k a x hx with p | p <;> rcases mem k' b x hx' with p' | p'
    · exact h.apart k k' a b x p p'
    · rw [p'.1] at p; exact absurd p (hno _ _)
    · rw [p.1] at p'; exact absurd p' (hno _ _)
    · rw [p.2, p'.2]
  · have hk' : num f < k := hk
    show up2 f.hd (num f) m (cur f m ++ [word]) k m' = []
    rw [up2_other _ _ (by omega)]
    exact h.new k hk' m'
theorem Inv.got (h : Inv f) {m : Nat} {word : Int} (hs : word ∈ f.said) (hc : word ∉ cur f m) : Inv (got f m word) := by
  have hnot : ∀ k m', k ≠ num f → word ∉ f.hd k m' := by
    intro k m' hk q
    rcases Nat.lt_trichotomy k (num f) with z | z | z
    · exact (h.old k z m' word q).2 hs
    · exact hk z
    · rw [h.new k z m'] at q; exact absurd q List.not_mem_nil
  have mem : ∀ k m' x, x ∈ up2 f.hd (num f) m (cur f m ++ [word]) k m' → (x ∈ f.hd k m') ∨ (x = word ∧ k = num f) := by
    intro k m' x hx
    by_cases e : k = num f ∧ m' = m
    · rw [e.1, e.2, up2_same] at hx
      rcases List.mem_append.1 hx with a | a
      · exact .inl (by rw [e.1, e.2]; exact a)
      · exact .inr ⟨List.mem_singleton.1 a, e.1⟩
    · rw [up2_other _ _ e] at hx
      exact .inl hx
  refine ⟨h.view, h.saidN, h.was, fun k m' => ?_, fun m' x hx => ?_, fun k hk m' x hx => ?_, fun k k' a b x hx hx' => ?_, fun k hk m' => ?_⟩
  · show (up2 f.hd (num f) m (cur f m ++ [word]) k m').Nodup
    by_cases e : k = num f ∧ m' = m
    · rw [e.1, e.2, up2_same]
      exact nodup_snoc (h.hdN _ _) hc
    · rw [up2_other _ _ e]
      exact h.hdN k m'
  · rcases mem (num f) m' x hx with a | a
    · exact h.now m' x a
    · rw [a.1]; exact hs
  · have hk' : k < num f := hk
    rcases mem k m' x hx with a | a
    · exact h.old k hk' m' x a
    · omega
  · rcases mem k a x hx with p | p <;> rcases mem k' b x hx' with p' | p'
    · exact h.apart k k' a b x p p'
    · rw [p'.1] at p
      rw [p'.2]
      exact Decidable.byContradiction fun z => hnot k a z p
    · rw [p.1] at p'
      rw [p.2]
      exact (Decidable.byContradiction fun z => hnot k' b z p').symm
    · rw [p.2, p'.2]
  · have hk' : num f < k := hk
    show up2 f.hd (num f) m (cur f m ++ [word]) k m' = []
    rw [up2_other _ _ (by omega)]
    exact h.new k hk' m'
theorem Inv.stay0 (h : Inv f) (has : List Int) : ∀ k ∈ stay f has, 0 ≤ k := fun k hk => (h.has k (stay_in hk)).1
theorem num_turn (h : Inv f) (has : List Int) : num (turn f has) = num f + 1 := by
  have := h.n0
  show (f.v.n + 1).toNat = f.v.n.toNat + 1
  omega
theorem Inv.turn (h : Inv f) {has : List Int} (hc : chC f has = 0) : Inv (turn f has) := by
  have hnum := num_turn h has
  have h0 := h.stay0 has
  have cm : ∀ k m x, x ∈ up1 f.hd (num f) (fl (stay f has) (cur f) f.said) k m → x ∈ f.hd k m ∨ (k = num f ∧ x ∈ f.said) := by
    intro k m x hx
    by_cases e : k = num f
    · rw [e, up1_same] at hx
      rcases (fl_mem h0).1 hx with a | a
      · exact .inl (by rw [e]; exact a)
      · exact .inr ⟨e, a.1⟩
    · rw [up1_other _ _ _ e] at hx
      exact .inl hx
  refine ⟨?_, List.nodup_nil, fun x hx => absurd hx List.not_mem_nil, fun k m => ?_, fun m x hx => ?_, fun k hk m x hx => ?_, fun k k' a b x hx hx' => ?_, fun k hk m => ?_⟩
  · have := next_view hc
    rw [next_is hc] at this
    exact this
  · show (up1 f.hd (num f) (fl (stay f has) (cur f) f.said) k m).Nodup
    by_cases e : k = num f
    · rw [e, up1_same]
      exact fl_nodup (fun m => h.hdN _ m) m
    · rw [up1_other _ _ _ e]
      exact h.hdN k m
  · exfalso
    have hx' : x ∈ up1 f.hd (num f) (fl (stay f has) (cur f) f.said) (num (Flu.turn f has)) m := hx
    rw [hnum, up1_other _ _ _ (by omega), h.new _ (by omega) m] at hx'
    exact absurd hx' List.not_mem_nil
  · refine ⟨?_, List.not_mem_nil⟩
    show f.was x = true
    rcases cm k m x hx with a | ⟨e, a⟩
    · rcases Nat.lt_trichotomy k (num f) with z | z | z
      · exact (h.old k z m x a).1
      · rw [z] at a; exact (h.was x (h.now m x a)).1
      · rw [h.new k z m] at a; exact absurd a List.not_mem_nil
    · exact (h.was x a).1
  · have old_said : ∀ k m, x ∈ f.hd k m → x ∈ f.said → k = num f := by
      intro k m p q
      rcases Nat.lt_trichotomy k (num f) with z | z | z
      · exact absurd q (h.old k z m x p).2
      · exact z
      · rw [h.new k z m] at p; exact absurd p List.not_mem_nil
    rcases cm k a x hx with p | p <;> rcases cm k' b x hx' with p' | p'
    · exact h.apart k k' a b x p p'
    · rw [p'.1]; exact old_said k a p p'.2
    · rw [p.1]; exact (old_said k' b p' p.2).symm
    · rw [p.1, p'.1]
  · have hk' : num (Flu.turn f has) < k := hk
    show up1 f.hd (num f) (fl (stay f has) (cur f) f.said) k m = []
    rw [up1_other _ _ _ (by omega)]
    exact h.new k (by omega) m
theorem Inv.say (h : Inv f) (who word : Int) : Inv (say f who word) := by
  unfold Flu.say
  split
  · rename_i q
    obtain ⟨h1, h2⟩ := say_ok q
    exact h.put (chk_ok h1).2.1 h2
  · exact h
theorem Inv.give (h : Inv f) (who word : Int) : Inv (give f who word) := by
  unfold Flu.give
  split
  · rename_i q
    obtain ⟨h1, h2, h3⟩ := give_ok q
    exact h.got h2 h3
  · exact h
theorem Inv.change (h : Inv f) (has : List Int) : Inv (change f has) := by
  unfold Flu.change
  split
  · rename_i q; exact h.turn q
  · exact h
/-- who goes on together heard the same -/
theorem same (h : Inv f) {has : List Int} {a b : Nat} (ha : (a : Int) ∈ stay f has) (hb : (b : Int) ∈ stay f has) : ∀ x, x ∈ (turn f has).hd (num f) a ↔ x ∈ (turn f has).hd (num f) b := by
  have key : ∀ c : Nat, (c : Int) ∈ stay f has → ∀ x, x ∈ (turn f has).hd (num f) c ↔ anyH (stay f has) (cur f) x = true := by
    intro c hc x
    show x ∈ up1 f.hd (num f) (fl (stay f has) (cur f) f.said) (num f) c ↔ _
    rw [up1_same, fl_mem (h.stay0 has)]
    constructor
    · rintro (p | p)
      · exact anyH_iff.2 ⟨c, hc, by rw [Int.toNat_natCast]; exact p⟩
      · exact p.2.2
    · intro p
      obtain ⟨k, _, q⟩ := anyH_iff.1 p
      exact .inr ⟨h.now _ x q, hc, p⟩
  intro x
  rw [key a ha x, key b hb x]
theorem same_len (h : Inv f) {has : List Int} (hc : chC f has = 0) {a b : Nat} (ha : (a : Int) ∈ stay f has) (hb : (b : Int) ∈ stay f has) : ((turn f has).hd (num f) a).length = ((turn f has).hd (num f) b).length := len_eq ((h.turn hc).hdN _ _) ((h.turn hc).hdN _ _) (same h ha hb)
end Go.Proofs.YtgdmbnfdcbekaaiDoor.Flu
