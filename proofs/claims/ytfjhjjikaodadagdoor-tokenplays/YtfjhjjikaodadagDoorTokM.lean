/-
  Plain facts on a token that goes around: what is refused, what waits, what gets a place, who has it.
-/
import Derived.WalkKit
namespace Go.Proofs.YtfjhjjikaodadagDoor.Tok
set_option linter.unusedVariables false

/-- how many of the first so many are so -/
def cnt (p : Nat → Bool) : Nat → Nat
  | 0 => 0
  | k + 1 => cnt p k + if p k = true then 1 else 0
theorem cnt_le (p : Nat → Bool) (k : Nat) : cnt p k ≤ k := by
  induction k with
  | zero => exact Nat.le_refl _
  | succ k ih => unfold cnt; split <;> omega
theorem cnt_eq {p q : Nat → Bool} {k : Nat} (h : ∀ i, i < k → p i = q i) : cnt p k = cnt q k := by
  induction k with
  | zero => rfl
  | succ k ih =>
    unfold cnt
    rw [ih fun i hi => h i (by omega), h k (by omega)]
theorem cnt_one {p q : Nat → Bool} {k j : Nat} (hj : j < k) (h : ∀ i, i ≠ j → p i = q i) (hp : p j = false) (hq : q j = true) : cnt q k = cnt p k + 1 := by
  induction k with
  | zero => omega
  | succ k ih =>
    unfold cnt
    by_cases e : j = k
    · subst e
      rw [hp, hq, cnt_eq (p := p) (q := q) fun i hi => h i (by omega)]
      simp
    · rw [ih (by omega), h k (fun z => e z.symm)]
      omega
def up {α : Type} (f : Nat → α) (m : Nat) (x : α) : Nat → α := fun i => if i = m then x else f i
theorem up_same {α : Type} (f : Nat → α) (m : Nat) (x : α) : up f m x m = x := if_pos rfl
theorem up_other {α : Type} (f : Nat → α) {m i : Nat} (x : α) (h : i ≠ m) : up f m x i = f i := if_neg h
/-- how many wait with the first so many -/
def sm (f : Nat → List Int) : Nat → Nat
  | 0 => 0
  | k + 1 => sm f k + (f k).length
theorem sm_eq {f g : Nat → List Int} {k : Nat} (h : ∀ i, i < k → f i = g i) : sm f k = sm g k := by
  induction k with
  | zero => rfl
  | succ k ih =>
    unfold sm
    rw [ih fun i hi => h i (by omega), h k (by omega)]
theorem sm_up {f : Nat → List Int} {m k : Nat} (hm : m < k) (l : List Int) : sm (up f m l) k + (f m).length = sm f k + l.length := by
  induction k with
  | zero => omega
  | succ k ih =>
    unfold sm
    by_cases e : m = k
    · subst e
      rw [up_same, sm_eq (f := up f m l) (g := f) fun i hi => up_other _ _ (by omega)]
      omega
    · rw [up_other _ _ (fun z => e z.symm)]
      have := ih (by omega)
      omega
theorem sm_at {f : Nat → List Int} {m k : Nat} (hm : m < k) : (f m).length ≤ sm f k := by
  have := sm_up (f := f) hm []
  simp at this
  omega
theorem sm_mono {f : Nat → List Int} {k : Nat} (d : Nat) (h : ∀ i, k ≤ i → f i = []) : sm f (k + d) = sm f k := by
  induction d with
  | zero => rfl
  | succ d ih =>
    show sm f (k + d) + (f (k + d)).length = _
    rw [ih, h (k + d) (by omega)]
    simp
structure K where
  n : Nat
  most : Nat
  hold : Nat
  pl : Nat
  said : Int → Bool
  wt : Nat → List Int
def start (n most : Nat) : K := ⟨n, most, 0, 0, fun _ => false, fun _ => []⟩
variable {k : K}
def sayC (k : K) (who word : Int) : Int := if (who < 0 ∨ (k.n : Int) ≤ who) ∨ word < 1 ∨ 30 < word then 1 else if k.said word = true then 7 else 0
def put (k : K) (m : Nat) (word : Int) : K := { k with said := fun x => if x = word then true else k.said x, wt := up k.wt m (k.wt m ++ [word]) }
def say (k : K) (who word : Int) : K := if sayC k who word = 0 then put k who.toNat word else k
/-- places, one behind the other -/
def plN : Nat → List Int → List (Int × Int)
  | _, [] => []
  | p, x :: xs => ((p : Int), x) :: plN (p + 1) xs
theorem plN_len (p : Nat) (l : List Int) : (plN p l).length = l.length := by
  induction l generalizing p with
  | nil => rfl
  | cons x l ih => simp [plN, ih]
theorem plN_snoc (p : Nat) (l : List Int) (x : Int) : plN p (l ++ [x]) = plN p l ++ [(((p + l.length : Nat) : Int), x)] := by
  induction l generalizing p with
  | nil => simp [plN]
  | cons y l ih =>
    simp only [List.cons_append, plN, ih, List.length_cons]
    congr 4
    omega
theorem plN_get (p : Nat) (l : List Int) {i : Nat} (hi : i < l.length) : (plN p l).getD i (0, 0) = (((p + i : Nat) : Int), l.getD i 0) := by
  induction l generalizing p i with
  | nil => simp at hi
  | cons y l ih =>
    cases i with
    | zero => simp [plN]
    | succ i =>
      have := ih (p + 1) (i := i) (by simpa using hi)
      simp only [plN, List.getD_cons_succ]
      rw [this]
      congr 2
      omega
def out (k : K) : List Int := (k.wt k.hold).take k.most
def passL (k : K) : List (Int × Int) := plN k.pl (out k)
def nxt (k : K) : Nat := if k.hold + 1 = k.n then 0 else k.hold + 1
def pass (k : K) : K := { k with hold := nxt k, pl := k.pl + (out k).length, wt := up k.wt k.hold ((k.wt k.hold).drop k.most) }
def inC (k : K) (who : Int) : Int := if who < 0 ∨ (k.n : Int) ≤ who then 1 else 0
def wts (k : K) (who : Int) : List Int := if inC k who = 0 then k.wt who.toNat else []
def cs (k : K) : Nat := cnt (fun i => k.said ((i : Int) + 1)) 30
def all (k : K) : Nat := sm k.wt 5
structure Inv (k : K) : Prop where
  two : 2 ≤ k.n
  five : k.n ≤ 5
  m1 : 1 ≤ k.most
  m10 : k.most ≤ 10
  hold : k.hold < k.n
  none : ∀ m, k.n ≤ m → k.wt m = []
  rng : ∀ m, ∀ x ∈ k.wt m, (1 ≤ x ∧ x ≤ 30) ∧ k.said x = true
  sum : all k + k.pl = cs k
theorem Inv.start {n most : Nat} (h2 : 2 ≤ n) (h5 : n ≤ 5) (h1 : 1 ≤ most) (h10 : most ≤ 10) : Inv (start n most) := ⟨h2, h5, h1, h10, by show 0 < n; omega, fun _ _ => rfl, fun m x hx => (by cases hx), rfl⟩
theorem Inv.len (h : Inv k) (m : Nat) : (k.wt m).length + k.pl ≤ 30 := by
  have h1 := h.sum
  have h2 : cs k ≤ 30 := cnt_le _ _
  rcases Nat.lt_or_ge m 5 with q | q
  · have := sm_at (f := k.wt) q
    unfold all at h1
    omega
  · rw [h.none m (by have := h.five; omega)]
    simp
    omega
theorem Inv.all30 (h : Inv k) : all k ≤ 30 := by
  have h1 := h.sum
  have h2 : cs k ≤ 30 := cnt_le _ _
  omega
theorem sayC_ok {who word : Int} (h : sayC k who word = 0) : (0 ≤ who ∧ who < (k.n : Int)) ∧ (1 ≤ word ∧ word ≤ 30) ∧ k.said word = false := by
  unfold sayC at h
  split at h
  · omega
  · split at h
    · omega
    · rename_i q
      exact ⟨by omega, by omega, by simpa using q⟩
theorem Inv.put (h : Inv k) {m : Nat} {word : Int} (hm : m < k.n) (hw : 1 ≤ word ∧ word ≤ 30) (hs : k.said word = false) : Inv (put k m word) := by
  refine ⟨h.two, h.five, h.m1, h.m10, h.hold, fun i hi => ?_, fun i x hx => ?_, ?_⟩
  · show up k.wt m _ i = []
    have hi' : k.n ≤ i := hi
    rw [up_other _ _ (by omega)]
    exact h.none i hi'
  · have hx' : x ∈ up k.wt m (k.wt m ++ [word]) i := hx
    show (1 ≤ x ∧ x ≤ 30) ∧ (if x = word then true else k.said x) = true
    by_cases e : i = m
    · rw [e, up_same] at hx'
      rcases List.mem_append.1 hx' with q | q
      · have := h.rng m x q
        exact ⟨this.1, by rw [this.2]; simp⟩
      · rw [List.mem_singleton.1 q]
        exact ⟨hw, by simp⟩
    · rw [up_other _ _ e] at hx'
      have := h.rng i x hx'
      exact ⟨this.1, by rw [this.2]; simp⟩
  · have h1 := sm_up (f := k.wt) (show m < 5 by have := h.five; omega) (k.wt m ++ [word])
    rw [List.length_append] at h1
    have h2 : cs (Tok.put k m word) = cs k + 1 := by
      unfold cs
      refine cnt_one (j := word.toNat - 1) (by omega) (fun i hi => ?_) ?_ ?_
      · show _ = (if (i : Int) + 1 = word then true else _)
        rw [if_neg (by omega)]
      · rw [show (((word.toNat - 1 : Nat) : Int) + 1) = word by omega]
        exact hs
      · show (if (((word.toNat - 1 : Nat) : Int) + 1) = word then true else _) = true
        rw [if_pos (by omega)]
    have h3 : all (Tok.put k m word) = sm (up k.wt m (k.wt m ++ [word])) 5 := rfl
    have h4 : (Tok.put k m word).pl = k.pl := rfl
    have := h.sum
    unfold all at this
    rw [h2, h3, h4]
    simp at h1
    omega
theorem Inv.say (h : Inv k) (who word : Int) : Inv (say k who word) := by
  unfold Tok.say
  split
  · rename_i hc
    obtain ⟨a, b, c⟩ := sayC_ok hc
    exact h.put (by omega) b c
  · exact h
theorem out_len (k : K) : (out k).length + ((k.wt k.hold).drop k.most).length = (k.wt k.hold).length := by
  unfold out
  rw [List.length_take, List.length_drop]
  omega
theorem pass_all (h : Inv k) : all (pass k) + (out k).length = all k := by
  have h1 := sm_up (f := k.wt) (show k.hold < 5 by have := h.five; have := h.hold; omega) ((k.wt k.hold).drop k.most)
  have h2 := out_len k
  have h3 : all (pass k) = sm (up k.wt k.hold ((k.wt k.hold).drop k.most)) 5 := rfl
  rw [h3]
  unfold all
  omega
theorem nxt_lt (h : Inv k) : nxt k < k.n := by
  have := h.hold
  unfold nxt
  split <;> omega
theorem Inv.pass (h : Inv k) : Inv (pass k) := by
  refine ⟨h.two, h.five, h.m1, h.m10, nxt_lt h, fun i hi => ?_, fun i x hx => ?_, ?_⟩
  · show up k.wt k.hold _ i = []
    have hi' : k.n ≤ i := hi
    rw [up_other _ _ (by have := h.hold; omega)]
    exact h.none i hi'
  · have hx' : x ∈ up k.wt k.hold ((k.wt k.hold).drop k.most) i := hx
    show (1 ≤ x ∧ x ≤ 30) ∧ k.said x = true
    by_cases e : i = k.hold
    · rw [e, up_same] at hx'
      exact h.rng _ x (List.mem_of_mem_drop hx')
    · rw [up_other _ _ e] at hx'
      exact h.rng i x hx'
  · have h1 := pass_all h
    have h2 := h.sum
    show all (Tok.pass k) + (k.pl + (out k).length) = cs k
    omega
theorem say_n (k : K) (who word : Int) : (say k who word).n = k.n ∧ (say k who word).most = k.most ∧ (say k who word).hold = k.hold ∧ (say k who word).pl = k.pl := by
  unfold say
  split <;> exact ⟨rfl, rfl, rfl, rfl⟩
theorem in_ok {m : Nat} (h : m < k.n) : inC k (m : Int) = 0 := if_neg (by omega)
theorem wts_in {m : Nat} (h : m < k.n) : wts k (m : Int) = k.wt m := by
  unfold wts
  rw [if_pos (in_ok h), Int.toNat_natCast]
/-! once around -/
def rnd (n most i : Nat) : K := { start n most with hold := i % n }
theorem rnd_pass {n most i : Nat} (h2 : 2 ≤ n) (h5 : n ≤ 5) : pass (rnd n most i) = rnd n most (i + 1) ∧ out (rnd n most i) = [] := by
  have e : out (rnd n most i) = [] := by simp [out, rnd, start]
  refine ⟨?_, e⟩
  unfold pass
  rw [e]
  have e1 : nxt (rnd n most i) = (i + 1) % n := by
    show (if i % n + 1 = n then 0 else i % n + 1) = (i + 1) % n
    rcases (show n = 2 ∨ n = 3 ∨ n = 4 ∨ n = 5 by omega) with rfl | rfl | rfl | rfl <;> split <;> omega
  rw [e1]
  have e2 : up (rnd n most i).wt (rnd n most i).hold (((rnd n most i).wt (rnd n most i).hold).drop (rnd n most i).most) = fun _ => [] := by
    funext j
    unfold up
    split <;> simp [rnd, start]
  rw [e2]
  rfl
theorem rnd_inv {n most : Nat} (i : Nat) (h2 : 2 ≤ n) (h5 : n ≤ 5) (h1 : 1 ≤ most) (h10 : most ≤ 10) : Inv (rnd n most i) := by
  have h := Inv.start h2 h5 h1 h10
  exact ⟨h2, h5, h1, h10, Nat.mod_lt _ (by omega), h.none, h.rng, h.sum⟩
theorem rnd_last {n most : Nat} (h2 : 2 ≤ n) (h1 : 1 ≤ most) : sayC (rnd n most 0) 0 5 = 0 ∧ (passL (say (rnd n most 0) 0 5)).length = 1 := by
  have e : sayC (rnd n most 0) 0 5 = 0 := by
    unfold sayC
    have hn : (rnd n most 0).n = n := rfl
    rw [if_neg (by rw [hn]; omega), if_neg (by simp [rnd, start])]
  refine ⟨e, ?_⟩
  unfold passL
  rw [plN_len]
  unfold say
  rw [if_pos e]
  have h0 : (put (rnd n most 0) (0 : Int).toNat 5).hold = 0 := Nat.zero_mod n
  unfold out
  rw [h0]
  show (List.take most (up (fun _ => []) 0 ([] ++ [5]) 0)).length = 1
  rw [up_same, List.length_take]
  simp
  omega
/-! each its turn -/
/-- in a round: those ahead have had theirs -/
structure TF (n most r i : Nat) (T0 : Nat) (k : K) (left : Nat) : Prop where
  inv : Inv k
  num : k.n = n
  mst : k.most = most
  hold : k.hold = if i = n then 0 else i
  lft : left = sm k.wt i
  less : all k ≤ T0 ∧ (0 < left → all k + 1 ≤ T0)
  far : T0 + r ≤ 30
theorem TF.begin {n most r : Nat} {k : K} (hi : Inv k) (hn : k.n = n) (hm : k.most = most) (h0 : k.hold = 0) (hr : all k + r ≤ 30) : TF n most r 0 (all k) k 0 := ⟨hi, hn, hm, by rw [if_neg (by have := hi.two; omega)]; exact h0, rfl, ⟨Nat.le_refl _, fun q => absurd q (by omega)⟩, hr⟩
theorem TF.pass {n most r i T0 left : Nat} {k : K} (h : TF n most r i T0 k left) (hi : i < n) : TF n most r (i + 1) T0 (pass k) (left + ((k.wt i).drop most).length) := by
  have hh : k.hold = i := by rw [h.hold, if_neg (by omega)]
  have h1 := pass_all h.inv
  have h2 := out_len k
  have e : (Tok.pass k).wt = up k.wt i ((k.wt i).drop most) := by
    show up k.wt k.hold ((k.wt k.hold).drop k.most) = _
    rw [hh, h.mst]
  rw [hh, h.mst] at h2
  refine ⟨h.inv.pass, h.num, h.mst, ?_, ?_, ⟨?_, fun q => ?_⟩, h.far⟩
  · show (if k.hold + 1 = k.n then 0 else k.hold + 1) = _
    rw [hh, h.num]
  · rw [e]
    show _ = sm (up k.wt i ((k.wt i).drop most)) i + (up k.wt i ((k.wt i).drop most) i).length
    rw [up_same, sm_eq (f := up k.wt i ((k.wt i).drop most)) (g := k.wt) fun j hj => up_other _ _ (by omega), h.lft]
  · have := h.less.1; omega
  · by_cases z : 0 < left
    · have := h.less.2 z; omega
    · have hd : 0 < ((k.wt i).drop most).length := by omega
      rw [List.length_drop] at hd
      have ho : (out k).length = most := by
        unfold out
        rw [hh, h.mst, List.length_take]
        omega
      have := h.less.1
      have := h.inv.m1
      rw [h.mst] at this
      omega
theorem TF.done {n most r T0 left : Nat} {k : K} (h : TF n most r n T0 k left) (hl : left ≠ 0) : k.hold = 0 ∧ all k + (r + 1) ≤ 30 := by
  refine ⟨by rw [h.hold, if_pos rfl], ?_⟩
  have := h.less.2 (by omega)
  have := h.far
  omega
end Go.Proofs.YtfjhjjikaodadagDoor.Tok
