/-
  Plain facts: how far numbers come; two words to which members give numbers in unlike orders.
-/
import Derived.Test.YtcccheeeagphpagMgR
namespace Go.Proofs.Ytcccheeeagphpag.Agr
set_option linter.unusedVariables false
variable {g : G}

/-! how far numbers come -/
def Le (g : G) (B : Nat) : Prop := ∀ m, g.most m ≤ B
theorem Le.start (n : Nat) : Le (start n) 0 := fun _ => Nat.le_refl _
theorem Le.mono {B B' : Nat} (h : Le g B) (hb : B ≤ B') : Le g B' := fun m => Nat.le_trans (h m) hb
theorem Le.say {B : Nat} (h : Le g B) (word : Int) : Le (say g word) B := by
  unfold Agr.say
  split
  · exact h
  · exact h
theorem Le.pro {B : Nat} (h : Le g B) (who word : Int) : Le (pro g who word) (B + 1) := by
  unfold Agr.pro
  split
  · intro m
    show (if m = who.toNat then g.most who.toNat + 1 else g.most m) ≤ B + 1
    have := h m
    have := h who.toNat
    split <;> omega
  · exact h.mono (Nat.le_succ _)
theorem Le.set {B : Nat} (h : Le g B) (hi : Inv0 g) (who word : Int) : Le (set g who word) B := by
  by_cases hc : setC g who word = 0
  · obtain ⟨a, b, c, d, e⟩ := setC_ok hc
    rw [set_spec hi hc]
    intro m
    show (if m = who.toNat then max (g.most who.toNat) (fin g word.toNat).1 else g.most m) ≤ B
    obtain ⟨i, _, ef, _⟩ := hi.fin_at d
    have h1 : (fin g word.toNat).1 ≤ B := by
      rw [ef]
      exact Nat.le_trans (hi.gvM _ i) (h i)
    have := h m
    have := h who.toNat
    split
    · exact Nat.max_le.2 ⟨by omega, h1⟩
    · omega
  · unfold Agr.set
    rw [if_neg hc]
    exact h
/-! two words -/
structure T2 (n a b : Nat) (g : G) (p s : Nat) : Prop where
  inv : Inv g
  n : g.n = n
  was : ∀ w, g.was w = true ↔ w = a ∨ w = b
  gv : ∀ w i, g.gv w i ≠ 0 ↔ (w = a ∨ w = b) ∧ i < p
  kn : ∀ w i, g.kn w i = true ↔ (w = a ∨ w = b) ∧ i < s
  ab : a ≠ b
  ra : 1 ≤ a ∧ a ≤ 30
  rb : 1 ≤ b ∧ b ≤ 30
variable {n a b p s : Nat}
theorem sayC_new {k : Nat} (hk : 1 ≤ k ∧ k ≤ 30) (hw : g.was k = false) : sayC g (k : Int) = 0 := by
  unfold sayC
  rw [if_neg (by omega), if_neg]
  show ¬ g.was k = true
  rw [hw]
  decide
theorem T2.start (h2 : 2 ≤ n) (h5 : n ≤ 5) (ha : 1 ≤ a ∧ a ≤ 30) (hb : 1 ≤ b ∧ b ≤ 30) (hab : a ≠ b) : sayC (start n) (a : Int) = 0 ∧ sayC (say (start n) (a : Int)) (b : Int) = 0 ∧ T2 n a b (say (say (start n) (a : Int)) (b : Int)) 0 0 := by
  have c1 : sayC (Agr.start n) (a : Int) = 0 := sayC_new ha rfl
  have e1 : say (Agr.start n) (a : Int) = also (Agr.start n) a := if_pos c1
  have c2 : sayC (say (Agr.start n) (a : Int)) (b : Int) = 0 := by
    rw [e1]
    refine sayC_new hb ?_
    show (if b = a then true else false) = false
    rw [if_neg (fun e => hab e.symm)]
  have e2 : say (say (Agr.start n) (a : Int)) (b : Int) = also (say (Agr.start n) (a : Int)) b := if_pos c2
  refine ⟨c1, c2, ((Inv.start h2 h5).say _).say _, ?_, fun w => ?_, fun w i => ?_, fun w i => ?_, hab, ha, hb⟩
  · rw [say_n, say_n]; rfl
  · rw [e2, e1]
    show (if w = b then true else if w = a then true else false) = true ↔ _
    by_cases h1 : w = b
    · rw [if_pos h1]; simp [h1]
    · rw [if_neg h1]
      by_cases h2 : w = a
      · rw [if_pos h2]; simp [h2]
      · rw [if_neg h2]; simp [h1, h2]
  · rw [e2, e1]
    show (0 : Nat) ≠ 0 ↔ _
    simp
  · rw [e2, e1]
    show false = true ↔ _
    simp
theorem chk_in {m k : Nat} (hm : m < g.n) (hk : 1 ≤ k ∧ k ≤ 30) (hw : g.was k = true) : chkC g (m : Int) (k : Int) = 0 := by
  unfold chkC
  rw [if_neg (by omega), if_pos]
  exact hw
theorem proC_new {m k : Nat} (hm : m < g.n) (hk : 1 ≤ k ∧ k ≤ 30) (hw : g.was k = true) (hg : g.gv k m = 0) : proC g (m : Int) (k : Int) = 0 ∧ pro g (m : Int) (k : Int) = give g m k := by
  have e : proC g (m : Int) (k : Int) = 0 := by
    unfold proC
    rw [if_neg (by rw [chk_in hm hk hw]; decide), if_neg]
    show ¬ g.gv k m ≠ 0
    omega
  exact ⟨e, if_pos e⟩
theorem T2.pro (h : T2 n a b g p s) (hp : p < n) {x y : Nat} (hxy : (x = a ∧ y = b) ∨ (x = b ∧ y = a)) : proC g (p : Int) (x : Int) = 0 ∧ proC (pro g (p : Int) (x : Int)) (p : Int) (y : Int) = 0 ∧ T2 n a b (pro (pro g (p : Int) (x : Int)) (p : Int) (y : Int)) (p + 1) s := by
  have hx : x = a ∨ x = b := by omega
  have hy : y = a ∨ y = b := by omega
  have hab := h.ab
  have hne : y ≠ x := by omega
  have rx : 1 ≤ x ∧ x ≤ 30 := by have := h.ra; have := h.rb; omega
  have ry : 1 ≤ y ∧ y ≤ 30 := by have := h.ra; have := h.rb; omega
  have g0 : ∀ w, g.gv w p = 0 := fun w => Decidable.byContradiction fun q => by
    have := ((h.gv w p).1 q).2
    omega
  obtain ⟨c1, e1⟩ := proC_new (g := g) (m := p) (k := x) (by rw [h.n]; exact hp) rx ((h.was x).2 hx) (g0 x)
  have g1 : (give g p x).gv y p = 0 := by
    rw [give_gv, if_neg (fun q => hne q.1)]
    exact g0 y
  obtain ⟨c2, e2⟩ := proC_new (g := give g p x) (m := p) (k := y) (by show p < g.n; rw [h.n]; exact hp) ry ((h.was y).2 hy) g1
  refine ⟨c1, by rw [e1]; exact c2, (h.inv.pro _ _).pro _ _, by rw [pro_n, pro_n]; exact h.n, ?_, fun w i => ?_, ?_, hab, h.ra, h.rb⟩
  · intro w
    rw [e1, e2]
    exact h.was w
  · rw [e1, e2, give_gv, give_gv]
    by_cases q1 : w = y ∧ i = p
    · rw [if_pos q1]
      simp
      omega
    · rw [if_neg q1]
      by_cases q2 : w = x ∧ i = p
      · rw [if_pos q2]
        simp
        omega
      · rw [if_neg q2, h.gv]
        omega
  · intro w i
    rw [e1, e2]
    exact h.kn w i
theorem setC_new {m k : Nat} (hm : m < g.n) (hk : 1 ≤ k ∧ k ≤ 30) (hw : g.was k = true) (ha : allG g k = true) (hn : g.kn k m = false) : setC g (m : Int) (k : Int) = 0 := by
  unfold setC
  rw [if_neg (by rw [chk_in hm hk hw]; decide), if_neg, if_neg]
  · show ¬ g.kn k m = true
    rw [hn]; decide
  · show ¬ allG g k = false
    rw [ha]; decide
theorem T2.set (h : T2 n a b g n s) (hs : s < n) : setC g (s : Int) (b : Int) = 0 ∧ setC (set g (s : Int) (b : Int)) (s : Int) (a : Int) = 0 ∧ T2 n a b (set (set g (s : Int) (b : Int)) (s : Int) (a : Int)) n (s + 1) := by
  have hab := h.ab
  have all : ∀ w, (w = a ∨ w = b) → allG g w = true := fun w hw => allG_iff.2 fun i hi => (h.gv w i).2 ⟨hw, by rw [← h.n]; exact hi⟩
  have k0 : ∀ w, g.kn w s = false := fun w => by
    rw [Bool.eq_false_iff]
    intro q
    have := ((h.kn w s).1 q).2
    omega
  have c1 : setC g (s : Int) (b : Int) = 0 := setC_new (by rw [h.n]; exact hs) h.rb ((h.was b).2 (.inr rfl)) (all b (.inr rfl)) (k0 b)
  have e1 := set_spec h.inv.toInv0 c1
  have k1 : (Agr.set g (s : Int) (b : Int)).kn a s = false := by
    rw [e1]
    show (if a = b ∧ s = s then true else g.kn a s) = false
    rw [if_neg (fun q => hab q.1), k0]
  have a1 : allG (Agr.set g (s : Int) (b : Int)) a = true := by
    rw [e1]
    exact all a (.inl rfl)
  have c2 : setC (Agr.set g (s : Int) (b : Int)) (s : Int) (a : Int) = 0 := setC_new (by rw [set_n h.inv.toInv0, h.n]; exact hs) h.ra (by rw [e1]; exact (h.was a).2 (.inl rfl)) a1 k1
  have hi1 := h.inv.set (s : Int) (b : Int)
  have e2 := set_spec hi1.toInv0 c2
  refine ⟨c1, c2, hi1.set _ _, by rw [set_n hi1.toInv0, set_n h.inv.toInv0]; exact h.n, ?_, ?_, fun w i => ?_, hab, h.ra, h.rb⟩
  · intro w
    rw [e2]
    show (Agr.set g (s : Int) (b : Int)).was w = true ↔ _
    rw [e1]
    exact h.was w
  · intro w i
    rw [e2]
    show (Agr.set g (s : Int) (b : Int)).gv w i ≠ 0 ↔ _
    rw [e1]
    exact h.gv w i
  · rw [e2]
    show (if w = a ∧ i = s then true else (Agr.set g (s : Int) (b : Int)).kn w i) = true ↔ _
    rw [e1]
    show (if w = a ∧ i = s then true else if w = b ∧ i = s then true else g.kn w i) = true ↔ _
    by_cases q1 : w = a ∧ i = s
    · rw [if_pos q1]
      simp
      omega
    · rw [if_neg q1]
      by_cases q2 : w = b ∧ i = s
      · rw [if_pos q2]
        simp
        omega
      · rw [if_neg q2, h.kn]
        omega
theorem T2.two (h : T2 n a b g n n) {m : Nat} (hm : m < n) : (g.hd m).length = 2 := by
  have hmem : ∀ w, w ∈ g.hd m ↔ (w = a ∨ w = b) := fun w => by
    rw [h.inv.heard (by rw [h.n]; exact hm) (fun v hv => (h.kn v m).2 ⟨((h.gv v m).1 hv).1, hm⟩), h.gv]
    omega
  have l1 : (g.hd m).length ≤ [a, b].length := sub_len (h.inv.hdN m) fun x hx => by
    rcases (hmem x).1 hx with rfl | rfl <;> simp
  have l2 : [a, b].length ≤ (g.hd m).length := sub_len (by simp [h.ab]) fun x hx => (hmem x).2 (by simpa using hx)
  simp at l1 l2
  omega
theorem T2.same (h : T2 n a b g n n) {m : Nat} (hm : m < n) (h0 : 0 < n) : g.hd m = g.hd 0 := by
  have e1 := h.two hm
  have e2 := h.two h0
  rcases h.inv.alike m 0 with q | q
  · exact q.eq_of_length (by omega)
  · exact (q.eq_of_length (by omega)).symm
end Go.Proofs.Ytcccheeeagphpag.Agr
