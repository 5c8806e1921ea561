/-
  Plain facts for FlushLost: a word of one who goes that nobody else heard is heard by none, one that one heard by all who stay.
-/
import Derived.Test.YtgdmbnfdcbekaaiDoorFluM
namespace Go.Proofs.YtgdmbnfdcbekaaiDoor.Flu
open Go.Proofs.YtgdmbnfdcbekaaiDoor.Viw (Vi viewC nextC nextV next_is)
set_option linter.unusedVariables false

def g1 (a : Int) : F := say (start 4) 3 a
def g2 (a b : Int) : F := say (g1 a) 3 b
def g3 (a b : Int) : F := give (g2 a b) 1 b
def g4 (a b : Int) : F := change (g3 a b) [0, 1, 2]
structure AB (a b : Int) : Prop where
  a1 : 1 ≤ a
  a2 : a ≤ 30
  b1 : 1 ≤ b
  b2 : b ≤ 30
  ne : a ≠ b
variable {a b : Int}
theorem chk3 (f : F) (hv : f.v.has = [0, 1, 2, 3]) (who : Int) (h : who = 3 ∨ who = 1) {x : Int} (h1 : 1 ≤ x) (h2 : x ≤ 30) : chk f who x = 0 := by
  unfold chk
  rw [if_neg (by omega), if_pos (by rw [hv]; rcases h with rfl | rfl <;> decide)]
theorem s1 (h : AB a b) : sayC (start 4) 3 a = 0 := by
  unfold sayC
  rw [if_pos (chk3 _ rfl 3 (.inl rfl) h.a1 h.a2)]
  rfl
theorem e1 (h : AB a b) : g1 a = put (start 4) 3 a := if_pos (s1 h)
theorem v1 (h : AB a b) : (g1 a).v = ⟨0, [0, 1, 2, 3]⟩ := by rw [e1 h]; rfl
theorem s2 (h : AB a b) : sayC (g1 a) 3 b = 0 := by
  unfold sayC
  rw [if_pos (chk3 _ (by rw [v1 h]) 3 (.inl rfl) h.b1 h.b2), e1 h]
  show (if (if b = a then true else false) = true then (7 : Int) else 0) = 0
  rw [if_neg (show ¬ b = a from fun e => h.ne e.symm)]
  rfl
theorem e2 (h : AB a b) : g2 a b = put (put (start 4) 3 a) 3 b := by
  have q : g2 a b = put (g1 a) 3 b := if_pos (s2 h)
  rw [q, e1 h]
theorem c2 (h : AB a b) (m : Nat) : cur (g2 a b) m = if m = 3 then [a, b] else [] := by
  rw [e2 h]
  show up2 (up2 (fun _ _ => []) 0 3 [a]) 0 3 (up2 (fun _ _ => []) 0 3 [a] 0 3 ++ [b]) 0 m = _
  by_cases e : m = 3
  · rw [e, up2_same, up2_same, if_pos rfl]
    rfl
  · rw [up2_other _ _ (fun q => e q.2), up2_other _ _ (fun q => e q.2), if_neg e]
theorem s3 (h : AB a b) : giveC (g2 a b) 1 b = 0 := by
  unfold giveC
  rw [if_pos (chk3 _ (by rw [e2 h]; rfl) 1 (.inr rfl) h.b1 h.b2), if_pos (by rw [e2 h]; show b ∈ [a] ++ [b]; simp), c2 h, if_neg (by simp)]
theorem e3 (h : AB a b) : g3 a b = got (g2 a b) 1 b := if_pos (s3 h)
theorem c3 (h : AB a b) (m : Nat) : cur (g3 a b) m = if m = 3 then [a, b] else if m = 1 then [b] else [] := by
  rw [e3 h]
  show up2 (g2 a b).hd (num (g2 a b)) 1 (cur (g2 a b) 1 ++ [b]) (num (g2 a b)) m = _
  by_cases e : m = 1
  · rw [e, up2_same, c2 h]
    rfl
  · rw [up2_other _ _ (fun q => e q.2)]
    show cur (g2 a b) m = _
    rw [c2 h]
    by_cases e3 : m = 3
    · rw [if_pos e3, if_pos e3]
    · rw [if_neg e3, if_neg e3, if_neg e]
theorem v3 (h : AB a b) : (g3 a b).v = ⟨0, [0, 1, 2, 3]⟩ ∧ (g3 a b).said = [a, b] := by
  rw [e3 h, e2 h]
  exact ⟨rfl, rfl⟩
theorem s4 (h : AB a b) : chC (g3 a b) [0, 1, 2] = 0 := by
  unfold chC
  rw [(v3 h).1]
  decide
theorem e4 (h : AB a b) : g4 a b = turn (g3 a b) [0, 1, 2] := if_pos (s4 h)
theorem v4 (h : AB a b) : (g4 a b).v = ⟨1, [0, 1, 2]⟩ := by
  rw [e4 h]
  show Vi.mk ((g3 a b).v.n + 1) [0, 1, 2] = _
  rw [(v3 h).1]
  rfl
theorem nv4 (h : AB a b) : nextV (g3 a b).v [0, 1, 2] = ⟨1, [0, 1, 2]⟩ := by
  rw [(v3 h).1, next_is (by decide)]
  rfl
theorem s5 (h : AB a b) : sayC (g4 a b) 3 1 = 8 := by
  have q : chk (g4 a b) 3 1 = 8 := by unfold chk; rw [v4 h]; decide
  unfold sayC
  rw [q, if_neg (by decide)]
/-- who stays heard the one word -/
theorem hd4 (h : AB a b) {m : Nat} (hm : m < 3) : (g4 a b).hd 0 m = [b] := by
  rw [e4 h]
  have hn : num (g3 a b) = 0 := by unfold num; rw [(v3 h).1]; rfl
  show up1 (g3 a b).hd (num (g3 a b)) (fl (stay (g3 a b) [0, 1, 2]) (cur (g3 a b)) (g3 a b).said) 0 m = _
  have hs : stay (g3 a b) [0, 1, 2] = [0, 1, 2] := by unfold stay; rw [(v3 h).1]; decide
  have hst : ∀ k ∈ ([0, 1, 2] : List Int), 0 ≤ k := by decide
  rw [hn, up1_same, hs, (v3 h).2]
  have ha : anyH [0, 1, 2] (cur (g3 a b)) a = false := by
    rw [Bool.eq_false_iff]
    intro q
    obtain ⟨k, hk, hx⟩ := anyH_iff.1 q
    rw [c3 h] at hx
    have hne := h.ne
    simp at hk
    rcases hk with rfl | rfl | rfl <;> simp at hx
    exact hne hx
  have hb : anyH [0, 1, 2] (cur (g3 a b)) b = true := anyH_iff.2 ⟨1, by decide, by rw [c3 h]; simp⟩
  have h1 : ∀ k, hearW [0, 1, 2] (cur (g3 a b)) a k = cur (g3 a b) k := fun k => if_neg (fun q => by rw [ha] at q; exact absurd q.2.2 (by decide))
  have e1 : hearW [0, 1, 2] (cur (g3 a b)) a = cur (g3 a b) := funext h1
  show hearW [0, 1, 2] (hearW [0, 1, 2] (cur (g3 a b)) a) b m = [b]
  rw [e1]
  unfold hearW
  rw [c3 h]
  rcases (show m = 0 ∨ m = 1 ∨ m = 2 by omega) with rfl | rfl | rfl
  · rw [hb]; simp
  · rw [hb]; simp
  · rw [hb]; simp
theorem hd43 (h : AB a b) : (g4 a b).hd 0 3 = [a, b] := by
  rw [e4 h]
  have hn : num (g3 a b) = 0 := by unfold num; rw [(v3 h).1]; rfl
  show up1 (g3 a b).hd (num (g3 a b)) (fl (stay (g3 a b) [0, 1, 2]) (cur (g3 a b)) (g3 a b).said) 0 3 = _
  have hs : stay (g3 a b) [0, 1, 2] = [0, 1, 2] := by unfold stay; rw [(v3 h).1]; decide
  rw [hn, up1_same, hs, (v3 h).2]
  have key : ∀ g : Nat → List Int, ∀ x, hearW [0, 1, 2] g x 3 = g 3 := fun g x => if_neg (fun q => absurd q.1 (by decide))
  show hearW [0, 1, 2] (hearW [0, 1, 2] (cur (g3 a b)) a) b 3 = [a, b]
  rw [key, key, c3 h, if_pos rfl]
theorem hdL4 (h : AB a b) {m : Nat} (hm : m < 3) : hdC (g4 a b) (m : Int) 0 = 0 ∧ hdL (g4 a b) (m : Int) 0 = [b] := by
  have e : hdC (g4 a b) (m : Int) 0 = 0 := by unfold hdC; rw [v4 h, if_neg (by show ¬ (((m : Int) < 0 ∨ 4 < (m : Int)) ∨ (0 : Int) < 0 ∨ (1 : Int) < 0); omega)]
  refine ⟨e, ?_⟩
  unfold hdL
  rw [if_pos e, Int.toNat_natCast]
  exact hd4 h hm
theorem hdL43 (h : AB a b) : hdC (g4 a b) 3 0 = 0 ∧ hdL (g4 a b) 3 0 = [a, b] := by
  have e : hdC (g4 a b) 3 0 = 0 := by unfold hdC; rw [v4 h]; decide
  refine ⟨e, ?_⟩
  unfold hdL
  rw [if_pos e]
  exact hd43 h
theorem i0 : Inv (start 4) := Inv.start (by decide) (by decide)
theorem i1 (a : Int) : Inv (g1 a) := i0.say 3 a
theorem i2 (a b : Int) : Inv (g2 a b) := (i1 a).say 3 b
theorem i3 (a b : Int) : Inv (g3 a b) := (i2 a b).give 1 b
theorem i4 (a b : Int) : Inv (g4 a b) := (i3 a b).change [0, 1, 2]
end Go.Proofs.YtgdmbnfdcbekaaiDoor.Flu
