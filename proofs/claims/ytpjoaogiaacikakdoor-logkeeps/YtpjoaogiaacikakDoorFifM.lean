/-
  Plain facts on words that come to one who hears of each member the first, then the second, and so on: what is refused, what is heard, what waits.
-/
import Derived.WalkKit
namespace Go.Proofs.YtpjoaogiaacikakDoor.Fif

/-- a word that has come: whose, which, what -/
abbrev Cm := Int × Int × Int
def key (who n : Int) (c : Cm) : Bool := decide (c.1 = who) && decide (c.2.1 = n)
/-- the word that waits at a place -/
def fnd (ws : List Cm) (who n : Int) : Option Int := (ws.find? (key who n)).map (·.2.2)
def rm (ws : List Cm) (who n : Int) : List Cm := ws.filter fun c => !(key who n c)
/-- no place twice -/
def Uq (ws : List Cm) : Prop := ws.Pairwise fun c d => ¬ (c.1 = d.1 ∧ c.2.1 = d.2.1)

theorem key_iff {who n : Int} {c : Cm} : key who n c = true ↔ c.1 = who ∧ c.2.1 = n := by simp [key]
theorem fnd_none {ws : List Cm} {who n : Int} : fnd ws who n = none ↔ ∀ c ∈ ws, key who n c = false := by
  unfold fnd
  rw [Option.map_eq_none_iff, List.find?_eq_none]
  simp
theorem uq_one {ws : List Cm} (hu : Uq ws) {c d : Cm} (hc : c ∈ ws) (hd : d ∈ ws) (h1 : c.1 = d.1) (h2 : c.2.1 = d.2.1) : c = d := by
  induction ws with
  | nil => exact absurd hc List.not_mem_nil
  | cons e ws ih =>
    unfold Uq at hu
    rw [List.pairwise_cons] at hu
    rcases List.mem_cons.1 hc with rfl | hc'
    · rcases List.mem_cons.1 hd with rfl | hd'
      · rfl
      · exact absurd ⟨h1, h2⟩ (hu.1 d hd')
    · rcases List.mem_cons.1 hd with rfl | hd'
      · exact absurd ⟨h1.symm, h2.symm⟩ (hu.1 c hc')
      · exact ih hu.2 hc' hd'
theorem fnd_some {ws : List Cm} (hu : Uq ws) {who n x : Int} : fnd ws who n = some x ↔ (who, n, x) ∈ ws := by
  unfold fnd
  rw [Option.map_eq_some_iff]
  constructor
  · rintro ⟨c, hc, rfl⟩
    have h1 := List.mem_of_find?_eq_some hc
    have h2 := key_iff.1 (List.find?_some hc)
    have : c = (who, n, c.2.2) := Prod.ext h2.1 (Prod.ext h2.2 rfl)
    rw [← this]
    exact h1
  · intro hm
    cases hf : ws.find? (key who n) with
    | none =>
      rw [List.find?_eq_none] at hf
      exact absurd (key_iff.2 ⟨rfl, rfl⟩) (hf _ hm)
    | some c =>
      refine ⟨c, rfl, ?_⟩
      have h1 := List.mem_of_find?_eq_some hf
      have h2 := key_iff.1 (List.find?_some hf)
      by_cases e : c = (who, n, x)
      · rw [e]
      · exact absurd (uq_one hu h1 hm h2.1 h2.2) e
theorem fnd_rm (ws : List Cm) (who n a b : Int) : fnd (rm ws who n) a b = if a = who ∧ b = n then none else fnd ws a b := by
  by_cases h : a = who ∧ b = n
  · rw [if_pos h, fnd_none]
    intro c hc
    have := (List.mem_filter.1 hc).2
    rw [h.1, h.2]
    simpa using this
  · rw [if_neg h]
    unfold fnd rm
    rw [List.find?_filter]
    congr 2
    funext c
    by_cases hk : key a b c = true
    · have := key_iff.1 hk
      have hn : key who n c = false := by
        rw [Bool.eq_false_iff]
        intro q
        have := key_iff.1 q
        omega
      simp [hk, hn]
    · simp [hk]
theorem rm_uq {ws : List Cm} (hu : Uq ws) (who n : Int) : Uq (rm ws who n) := hu.sublist (List.filter_sublist ..)
theorem rm_none {ws : List Cm} {who n : Int} (h : fnd ws who n = none) : rm ws who n = ws := by
  rw [fnd_none] at h
  exact List.filter_eq_self.2 fun c hc => by simp [h c hc]
/-- one goes, where there is one -/
theorem rm_split {l r : List Cm} {c : Cm} (hu : Uq (l ++ c :: r)) : rm (l ++ c :: r) c.1 c.2.1 = l ++ r := by
  unfold Uq at hu
  rw [List.pairwise_append, List.pairwise_cons] at hu
  obtain ⟨_, ⟨h2, _⟩, h3⟩ := hu
  unfold rm
  rw [List.filter_append, List.filter_cons]
  have hc : key c.1 c.2.1 c = true := key_iff.2 ⟨rfl, rfl⟩
  rw [hc]
  simp only [Bool.not_true, Bool.false_eq_true, if_false]
  congr 1
  · refine List.filter_eq_self.2 fun d hd => ?_
    have := h3 d hd c (List.mem_cons_self ..)
    simp only [Bool.not_eq_true', Bool.eq_false_iff]
    intro q
    exact this (key_iff.1 q)
  · refine List.filter_eq_self.2 fun d hd => ?_
    have := h2 d hd
    simp only [Bool.not_eq_true', Bool.eq_false_iff]
    intro q
    have := key_iff.1 q
    exact h2 d hd ⟨this.1.symm, this.2.symm⟩
theorem rm_len {ws : List Cm} (hu : Uq ws) {who n x : Int} (h : fnd ws who n = some x) : (rm ws who n).length + 1 = ws.length := by
  have hm := (fnd_some hu).1 h
  obtain ⟨l, r, rfl⟩ := List.append_of_mem hm
  have := rm_split hu
  simp only at this
  rw [this]
  simp
  omega

/-- those that wait are heard, as long as one is the next: what is heard, how far one has come, what still waits -/
def drain (who : Int) : Nat → Int → List Cm → List Int × Int × List Cm
  | 0, h, ws => ([], h, ws)
  | f + 1, h, ws => match fnd ws who (h + 1) with
    | none => ([], h, ws)
    | some x => (x :: (drain who f (h + 1) (rm ws who (h + 1))).1, (drain who f (h + 1) (rm ws who (h + 1))).2)
theorem drain_stop {who h : Int} {ws : List Cm} (hn : fnd ws who (h + 1) = none) : ∀ f, drain who f h ws = ([], h, ws)
  | 0 => rfl
  | f + 1 => by simp [drain, hn]
theorem drain_go {who h x : Int} {ws : List Cm} {f : Nat} (hs : fnd ws who (h + 1) = some x) : drain who (f + 1) h ws = (x :: (drain who f (h + 1) (rm ws who (h + 1))).1, (drain who f (h + 1) (rm ws who (h + 1))).2) := by
  simp [drain, hs]
/-- more fuel is no more -/
theorem drain_fuel {who : Int} : ∀ (f : Nat) (h : Int) (ws : List Cm), Uq ws → ws.length ≤ f → ∀ g, ws.length ≤ g → drain who f h ws = drain who g h ws := by
  intro f
  induction f with
  | zero =>
    intro h ws _ hf g _
    have : ws = [] := List.eq_nil_of_length_eq_zero (by omega)
    subst this
    rw [drain_stop rfl, drain_stop rfl]
  | succ f ih =>
    intro h ws hu hf g hg
    cases hs : fnd ws who (h + 1) with
    | none => rw [drain_stop hs, drain_stop hs]
    | some x =>
      have hl := rm_len hu hs
      cases g with
      | zero => omega
      | succ g => rw [drain_go hs, drain_go hs, ih (h + 1) _ (rm_uq hu _ _) (by omega) g (by omega)]
def run (who h : Int) (ws : List Cm) : List Int × Int × List Cm := drain who ws.length h ws
theorem run_stop {who h : Int} {ws : List Cm} (hn : fnd ws who (h + 1) = none) : run who h ws = ([], h, ws) := drain_stop hn _
theorem run_go {who h x : Int} {ws : List Cm} (hu : Uq ws) (hs : fnd ws who (h + 1) = some x) : run who h ws = (x :: (run who (h + 1) (rm ws who (h + 1))).1, (run who (h + 1) (rm ws who (h + 1))).2) := by
  have hl := rm_len hu hs
  unfold run
  cases hn : ws.length with
  | zero => omega
  | succ n => rw [drain_go hs, drain_fuel n (h + 1) _ (rm_uq hu _ _) (by omega) _ (Nat.le_refl _)]
/-- what comes of it -/
theorem run_spec {who : Int} : ∀ (n : Nat) (h : Int) (ws : List Cm), ws.length ≤ n → Uq ws →
    h ≤ (run who h ws).2.1 ∧ ((run who h ws).1.length : Int) = (run who h ws).2.1 - h ∧ Uq (run who h ws).2.2 ∧ fnd (run who h ws).2.2 who ((run who h ws).2.1 + 1) = none ∧
    (∀ a b, fnd (run who h ws).2.2 a b = if a = who ∧ h < b ∧ b ≤ (run who h ws).2.1 then none else fnd ws a b) ∧
    (∀ b, h < b → b ≤ (run who h ws).2.1 → fnd ws who b = some ((run who h ws).1.getD (b - h - 1).toNat 0)) ∧
    (run who h ws).2.2.length + (run who h ws).1.length = ws.length := by
  intro n
  induction n with
  | zero =>
    intro h ws hn hu
    have : ws = [] := List.eq_nil_of_length_eq_zero (by omega)
    subst this
    rw [run_stop rfl]
    refine ⟨Int.le_refl _, by simp, hu, rfl, fun a b => ?_, fun b h1 h2 => by simp at h2; omega, rfl⟩
    rw [if_neg (by show ¬ (a = who ∧ h < b ∧ b ≤ h); omega)]
  | succ n ih =>
    intro h ws hn hu
    cases hs : fnd ws who (h + 1) with
    | none =>
      rw [run_stop hs]
      refine ⟨Int.le_refl _, by simp, hu, hs, fun a b => ?_, fun b h1 h2 => by simp at h2; omega, by simp⟩
      rw [if_neg (by show ¬ (a = who ∧ h < b ∧ b ≤ h); omega)]
    | some x =>
      have hl := rm_len hu hs
      obtain ⟨i1, i2, i3, i4, i5, i6, i7⟩ := ih (h + 1) (rm ws who (h + 1)) (by omega) (rm_uq hu _ _)
      rw [run_go hu hs]
      generalize hR : run who (h + 1) (rm ws who (h + 1)) = R at *
      obtain ⟨o, h', ws'⟩ := R
      simp only at i1 i2 i3 i4 i5 i6 i7 ⊢
      refine ⟨by omega, by simp; omega, i3, i4, fun a b => ?_, fun b h1 h2 => ?_, by simp; omega⟩
      · rw [i5, fnd_rm]
        by_cases e1 : a = who
        · subst e1
          by_cases e2 : b = h + 1
          · subst e2
            rw [if_neg (by omega), if_pos ⟨rfl, rfl⟩, if_pos ⟨rfl, by omega, by omega⟩]
          · by_cases e3 : h + 1 < b ∧ b ≤ h'
            · rw [if_pos ⟨rfl, e3⟩, if_pos ⟨rfl, by omega, by omega⟩]
            · rw [if_neg (by omega), if_neg (by omega), if_neg (by omega)]
        · rw [if_neg (by simp [e1]), if_neg (by simp [e1]), if_neg (by simp [e1])]
      · by_cases e2 : b = h + 1
        · subst e2
          rw [hs]
          simp [show (h + 1 - h - 1).toNat = 0 by omega]
        · have := i6 b (by omega) h2
          rw [fnd_rm, if_neg (by omega)] at this
          rw [this, show (b - h - 1).toNat = (b - (h + 1) - 1).toNat + 1 by omega]
          rfl

/-! one more has come -/
theorem fnd_snoc {ws : List Cm} {who n x : Int} (hn : fnd ws who n = none) (a b : Int) : fnd (ws ++ [(who, n, x)]) a b = if a = who ∧ b = n then some x else fnd ws a b := by
  unfold fnd
  rw [List.find?_append]
  by_cases h : a = who ∧ b = n
  · obtain ⟨rfl, rfl⟩ := h
    rw [if_pos ⟨rfl, rfl⟩]
    unfold fnd at hn
    rw [Option.map_eq_none_iff] at hn
    rw [hn]
    simp [key]
  · rw [if_neg h]
    have : key a b (who, n, x) = false := by
      rw [Bool.eq_false_iff]
      intro q
      have := key_iff.1 q
      simp only at this
      omega
    rw [List.find?_cons, this]
    simp
theorem uq_snoc {ws : List Cm} (hu : Uq ws) {who n : Int} (x : Int) (hn : fnd ws who n = none) : Uq (ws ++ [(who, n, x)]) := by
  unfold Uq
  rw [List.pairwise_append]
  refine ⟨hu, by simp, fun c hc d hd => ?_⟩
  rw [List.mem_singleton] at hd
  subst hd
  rw [fnd_none] at hn
  intro q
  exact absurd (key_iff.2 ⟨q.1, q.2⟩) (by rw [hn c hc]; decide)
def bad (who n word : Int) : Bool := decide (who < 0) || decide (4 < who) || decide (n < 1) || decide (1000000 < n) || decide (word < 1) || decide (30 < word)
/-- what is wrong with a word that comes, where so many of its member were heard -/
def tkC (hw : Int) (ws : List Cm) (who n word : Int) : Int :=
  if bad who n word = true then 1 else if n ≤ hw then 7 else if (fnd ws who n).isSome = true then 7 else if hw + 1 < n ∧ 40 ≤ ws.length then 4 else 0
theorem tkC_ok {hw : Int} {ws : List Cm} {who n word : Int} (hc : tkC hw ws who n word = 0) : bad who n word = false ∧ hw < n ∧ fnd ws who n = none ∧ ¬ (hw + 1 < n ∧ 40 ≤ ws.length) := by
  unfold tkC at hc
  split at hc
  · omega
  · rename_i h1
    split at hc
    · omega
    · split at hc
      · omega
      · rename_i h3
        split at hc
        · omega
        · rename_i h4
          exact ⟨by simpa using h1, by omega, by simpa using h3, h4⟩

/-! words of one member, each its own number -/
theorem few {l : List Int} : ∀ (n : Nat), l.Nodup → (∀ x ∈ l, 1 ≤ x ∧ x ≤ (n : Int)) → l.length ≤ n := by
  intro n
  induction n generalizing l with
  | zero =>
    intro _ hl
    cases l with
    | nil => simp
    | cons x l => have := hl x (List.mem_cons_self ..); omega
  | succ n ih =>
    intro hd hl
    by_cases hm : ((n + 1 : Nat) : Int) ∈ l
    · have h1 := List.length_erase_of_mem hm
      have h2 : (l.erase ((n + 1 : Nat) : Int)).length ≤ n := ih (hd.erase _) fun x hx => by
        obtain ⟨a, b⟩ := (hd.mem_erase_iff).1 hx
        have := hl x b
        omega
      omega
    · have := ih hd fun x hx => by
        have h1 := hl x hx
        have : x ≠ ((n + 1 : Nat) : Int) := fun e => hm (e ▸ hx)
        omega
      omega
/-- those that have come are the first so many, heard, and those that wait -/
structure Wh (who n : Int) (S : Int → Bool) (m : Int) (ws : List Cm) : Prop where
  low : 0 ≤ m
  high : m ≤ n
  uq : Uq ws
  own : ∀ c ∈ ws, c.1 = who ∧ c.2.2 = c.2.1 ∧ m + 1 < c.2.1 ∧ c.2.1 ≤ n
  come : ∀ k, S k = true ↔ (1 ≤ k ∧ k ≤ m) ∨ (fnd ws who k).isSome = true
theorem Wh.start (who : Int) {n : Int} (hn : 0 ≤ n) : Wh who n (fun _ => false) 0 [] :=
  ⟨Int.le_refl _, hn, List.Pairwise.nil, fun c hc => absurd hc List.not_mem_nil, fun k => by
    constructor
    · intro h; exact absurd h (by decide)
    · rintro (h | h)
      · omega
      · exact absurd h (by simp [fnd])⟩
theorem Wh.len {who n : Int} {S : Int → Bool} {m : Int} {ws : List Cm} (g : Wh who n S m ws) (hn : n ≤ 30) : ws.length ≤ 30 := by
  have h1 : (ws.map (·.2.1)).length ≤ 30 := few 30 (by
    rw [List.Nodup, List.pairwise_map]
    refine List.Pairwise.imp_of_mem (fun {c d} hc hd h e => h ⟨?_, e⟩) g.uq
    rw [(g.own c hc).1, (g.own d hd).1]) fun x hx => by
      obtain ⟨c, hc, rfl⟩ := List.mem_map.1 hx
      have := g.own c hc
      have := g.low
      omega
  simpa using h1
theorem Wh.next {who n : Int} {S : Int → Bool} {m : Int} {ws : List Cm} (g : Wh who n S m ws) : S (m + 1) = false := by
  rw [Bool.eq_false_iff]
  intro h
  rcases (g.come _).1 h with a | a
  · omega
  · obtain ⟨x, hx⟩ := Option.isSome_iff_exists.1 a
    have := g.own _ ((fnd_some g.uq).1 hx)
    simp only at this
    omega
/-- when all have come all are heard -/
theorem Wh.all {who n : Int} {S : Int → Bool} {m : Int} {ws : List Cm} (g : Wh who n S m ws) (ha : ∀ k, 1 ≤ k → k ≤ n → S k = true) : m = n ∧ ws = [] := by
  have h1 := g.low
  have h2 := g.high
  have e : m = n := by
    rcases Int.lt_or_le m n with a | a
    · have := g.next
      rw [ha (m + 1) (by omega) (by omega)] at this
      exact absurd this (by decide)
    · omega
  refine ⟨e, ?_⟩
  cases ws with
  | nil => rfl
  | cons c ws =>
    have := g.own c (List.mem_cons_self ..)
    omega
/-- while the first has not come none is heard -/
theorem Wh.notYet {who n : Int} {S : Int → Bool} {m : Int} {ws : List Cm} (g : Wh who n S m ws) (h1 : S 1 = false) : m = 0 := by
  have h0 := g.low
  rcases Int.lt_or_le m 1 with a | a
  · omega
  · rw [(g.come 1).2 (.inl ⟨by omega, a⟩)] at h1
    exact absurd h1 (by decide)
/-- a number that has come already -/
theorem Wh.twice {who n : Int} {S : Int → Bool} {m : Int} {ws : List Cm} (g : Wh who n S m ws) {k : Int} (hk : S k = true) (hb : bad who k k = false) : tkC m ws who k k = 7 := by
  unfold tkC
  rw [if_neg (by rw [hb]; decide)]
  by_cases h : k ≤ m
  · rw [if_pos h]
  · rw [if_neg h, if_pos]
    rcases (g.come k).1 hk with a | a
    · omega
    · exact a
/-- a new one -/
theorem Wh.new {who n : Int} {S : Int → Bool} {m : Int} {ws : List Cm} (g : Wh who n S m ws) (hn : n ≤ 30) {k : Int} (hk : S k = false) (h1 : 1 ≤ k) (h2 : k ≤ n) (hb : bad who k k = false) :
    tkC m ws who k k = 0 ∧ Wh who n (fun j => S j || decide (j = k)) (run who m (ws ++ [(who, k, k)])).2.1 (run who m (ws ++ [(who, k, k)])).2.2 ∧
    (run who m (ws ++ [(who, k, k)])).1 = (List.range ((run who m (ws ++ [(who, k, k)])).2.1 - m).toNat).map (fun i : Nat => m + 1 + (i : Int)) := by
  have hkm : m < k := by
    rcases Int.lt_or_le m k with a | a
    · exact a
    · rw [(g.come k).2 (.inl ⟨h1, a⟩)] at hk
      exact absurd hk (by decide)
  have hf : fnd ws who k = none := by
    cases hs : fnd ws who k with
    | none => rfl
    | some x =>
      rw [(g.come k).2 (.inr (by rw [hs]; rfl))] at hk
      exact absurd hk (by decide)
  have hlen := g.len hn
  have hu := uq_snoc g.uq k hf
  have hs := fnd_snoc (x := k) hf
  obtain ⟨r1, r2, r3, r4, r5, r6, -⟩ := run_spec (who := who) _ m (ws ++ [(who, k, k)]) (Nat.le_refl _) hu
  have hval : ∀ b, m < b → b ≤ (run who m (ws ++ [(who, k, k)])).2.1 → (run who m (ws ++ [(who, k, k)])).1.getD (b - m - 1).toNat 0 = b ∧ b ≤ n := by
    intro b hb1 hb2
    have := r6 b hb1 hb2
    rw [hs] at this
    by_cases e : b = k
    · rw [if_pos ⟨rfl, e⟩] at this
      exact ⟨by have := Option.some.inj this; omega, by omega⟩
    · rw [if_neg (by simp [e])] at this
      have := g.own _ ((fnd_some g.uq).1 this)
      simp only at this
      exact ⟨by omega, by omega⟩
  have hhigh : (run who m (ws ++ [(who, k, k)])).2.1 ≤ n := by
    rcases Int.lt_or_le m (run who m (ws ++ [(who, k, k)])).2.1 with a | a
    · exact (hval _ a (Int.le_refl _)).2
    · have := g.high
      omega
  refine ⟨?_, ⟨by have := g.low; omega, hhigh, r3, fun c hc => ?_, fun j => ?_⟩, ?_⟩
  · unfold tkC
    rw [if_neg (by rw [hb]; decide), if_neg (by omega), if_neg (by rw [hf]; decide), if_neg (by omega)]
  · have hx : fnd (run who m (ws ++ [(who, k, k)])).2.2 c.1 c.2.1 = some c.2.2 := (fnd_some r3).2 hc
    have hx' := hx
    rw [r5] at hx
    split at hx
    · cases hx
    · rename_i hcond
      rw [hs] at hx
      have hwho : c.1 = who ∧ c.2.2 = c.2.1 ∧ m < c.2.1 ∧ c.2.1 ≤ n := by
        split at hx
        · rename_i e
          have := Option.some.inj hx
          exact ⟨e.1, by omega, by omega, by omega⟩
        · have := g.own _ ((fnd_some g.uq).1 hx)
          simp only at this
          exact ⟨this.1, this.2.1, by omega, this.2.2.2⟩
      refine ⟨hwho.1, hwho.2.1, ?_, hwho.2.2.2⟩
      have h3 : ¬ c.2.1 ≤ (run who m (ws ++ [(who, k, k)])).2.1 := fun q => hcond ⟨hwho.1, hwho.2.2.1, q⟩
      have h4 : c.2.1 ≠ (run who m (ws ++ [(who, k, k)])).2.1 + 1 := by
        intro q
        rw [hwho.1, q, r4] at hx'
        cases hx'
      omega
  · simp only [Bool.or_eq_true, decide_eq_true_eq]
    rw [r5, g.come j]
    constructor
    · rintro ((a | a) | a)
      · left; omega
      · obtain ⟨x, hx⟩ := Option.isSome_iff_exists.1 a
        have := g.own _ ((fnd_some g.uq).1 hx)
        simp only at this
        by_cases q : j ≤ (run who m (ws ++ [(who, k, k)])).2.1
        · left; have := g.low; omega
        · right
          rw [if_neg (by omega), hs]
          split
          · rfl
          · exact a
      · subst a
        by_cases q : j ≤ (run who m (ws ++ [(who, j, j)])).2.1
        · left; omega
        · right
          rw [if_neg (by omega), hs, if_pos ⟨rfl, rfl⟩]
          rfl
    · rintro (a | a)
      · by_cases q : j ≤ m
        · exact .inl (.inl ⟨a.1, q⟩)
        · have := r6 j (by omega) a.2
          rw [hs] at this
          by_cases e : j = k
          · exact .inr e
          · rw [if_neg (by simp [e])] at this
            exact .inl (.inr (by rw [this]; rfl))
      · split at a
        · exact absurd a (by decide)
        · rw [hs] at a
          by_cases e : j = k
          · exact .inr e
          · rw [if_neg (by simp [e])] at a
            exact .inl (.inr a)
  · refine List.ext_getElem (by simp; omega) fun i h3 h4 => ?_
    have h5 : (i : Int) < (run who m (ws ++ [(who, k, k)])).2.1 - m := by omega
    have := (hval (m + 1 + i) (by omega) (by omega)).1
    rw [show (m + 1 + (i : Int) - m - 1).toNat = i by omega] at this
    simp only [List.getElem_map, List.getElem_range]
    rw [← this]
    simp [List.getD, h3]

/-- what comes of a word that has come -/
def tk (H : List Int) (ws : List Cm) (who n word : Int) : List Int × List Int × List Cm :=
  if tkC (H.getD who.toNat 0) ws who n word = 0 then ((run who (H.getD who.toNat 0) (ws ++ [(who, n, word)])).1, H.set who.toNat (run who (H.getD who.toNat 0) (ws ++ [(who, n, word)])).2.1, (run who (H.getD who.toNat 0) (ws ++ [(who, n, word)])).2.2) else ([], H, ws)
/-- what holds of a fifo at any time -/
structure Inv (H : List Int) (ws : List Cm) : Prop where
  five : H.length = 5
  num : ∀ j, j < 5 → 0 ≤ H.getD j 0 ∧ H.getD j 0 ≤ 1000000
  uq : Uq ws
  keys : ∀ c ∈ ws, c.2.1 ≤ 1000000
  len : ws.length ≤ 40
theorem Inv.start : Inv [0, 0, 0, 0, 0] [] :=
  ⟨rfl, fun j hj => by rcases j with _ | _ | _ | _ | _ | j <;> first | (constructor <;> decide) | omega, List.Pairwise.nil, fun c hc => absurd hc List.not_mem_nil, by simp⟩
theorem bad_who {who n word : Int} (hb : bad who n word = false) : (0 ≤ who ∧ who ≤ 4) ∧ (1 ≤ n ∧ n ≤ 1000000) ∧ 1 ≤ word ∧ word ≤ 30 := by
  simp [bad] at hb
  omega
theorem set_getD {H : List Int} {m : Nat} (hm : m < H.length) (x : Int) (j : Nat) : (H.set m x).getD j 0 = if j = m then x else H.getD j 0 := by
  by_cases e : j = m
  · subst e
    simp [List.getD, hm]
  · rw [if_neg e]
    simp [List.getD, List.getElem?_set_ne (fun q => e q.symm)]
theorem Inv.take {H : List Int} {ws : List Cm} (g : Inv H ws) (who n word : Int) : Inv (tk H ws who n word).2.1 (tk H ws who n word).2.2 := by
  unfold tk
  by_cases hc : tkC (H.getD who.toNat 0) ws who n word = 0
  · rw [if_pos hc]
    obtain ⟨hb, hlt, hf, h40⟩ := tkC_ok hc
    obtain ⟨hw, hn, _⟩ := bad_who hb
    have hm : who.toNat < 5 := by omega
    have hu := uq_snoc g.uq word hf
    have hs := fnd_snoc (x := word) hf
    have hkeys : ∀ c ∈ ws ++ [(who, n, word)], c.2.1 ≤ 1000000 := by
      intro c hc
      rcases List.mem_append.1 hc with a | a
      · exact g.keys c a
      · rw [List.mem_singleton.1 a]; exact hn.2
    obtain ⟨r1, r2, r3, r4, r5, r6, r7⟩ := run_spec (who := who) _ (H.getD who.toNat 0) (ws ++ [(who, n, word)]) (Nat.le_refl _) hu
    have hnum := g.num _ hm
    refine ⟨by rw [List.length_set]; exact g.five, fun j hj => ?_, r3, fun c hc => ?_, ?_⟩
    · rw [set_getD (by rw [g.five]; exact hm)]
      split
      · refine ⟨by omega, ?_⟩
        rcases Int.lt_or_le (H.getD who.toNat 0) (run who (H.getD who.toNat 0) (ws ++ [(who, n, word)])).2.1 with a | a
        · exact hkeys _ ((fnd_some hu).1 (r6 _ a (Int.le_refl _)))
        · omega
      · exact g.num j hj
    · have hx : fnd (run who (H.getD who.toNat 0) (ws ++ [(who, n, word)])).2.2 c.1 c.2.1 = some c.2.2 := (fnd_some r3).2 hc
      rw [r5] at hx
      split at hx
      · cases hx
      · exact hkeys _ ((fnd_some hu).1 hx)
    · show (run who (H.getD who.toNat 0) (ws ++ [(who, n, word)])).2.2.length ≤ 40
      rw [List.length_append] at r7
      simp only [List.length_cons, List.length_nil] at r7
      have hl := g.len
      by_cases e : H.getD who.toNat 0 + 1 < n
      · have : ¬ 40 ≤ ws.length := fun q => h40 ⟨e, q⟩
        omega
      · have hfn : fnd (ws ++ [(who, n, word)]) who (H.getD who.toNat 0 + 1) = some word := by rw [hs, if_pos ⟨rfl, by omega⟩]
        have : (run who (H.getD who.toNat 0) (ws ++ [(who, n, word)])).1 ≠ [] := by
          rw [run_go hu hfn]
          simp
        have := List.length_pos_iff.2 this
        omega
  · rw [if_neg hc]
    exact g
theorem tk_no {H : List Int} {ws : List Cm} {who n word : Int} (hc : tkC (H.getD who.toNat 0) ws who n word ≠ 0) : tk H ws who n word = ([], H, ws) := if_neg hc
theorem tk_ok {H : List Int} {ws : List Cm} {who n word : Int} (hc : tkC (H.getD who.toNat 0) ws who n word = 0) : tk H ws who n word = ((run who (H.getD who.toNat 0) (ws ++ [(who, n, word)])).1, H.set who.toNat (run who (H.getD who.toNat 0) (ws ++ [(who, n, word)])).2.1, (run who (H.getD who.toNat 0) (ws ++ [(who, n, word)])).2.2) := if_pos hc

end Go.Proofs.YtpjoaogiaacikakDoor.Fif
