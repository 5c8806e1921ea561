/-
  Plain facts: all give numbers, all learn them, all heard all.
-/
import Derived.Test.YtcolcjnmdejfeafDoorAgtM
namespace Go.Proofs.YtcolcjnmdejfeafDoor.Agr
set_option linter.unusedVariables false
variable {g : G}

theorem pro_was (g : G) (who word : Int) (v : Nat) : (pro g who word).was v = g.was v := by
  unfold pro
  split <;> rfl
theorem pro_kn (g : G) (who word : Int) (v i : Nat) : (pro g who word).kn v i = g.kn v i := by
  unfold pro
  split <;> rfl
theorem pro_gv {who word : Int} {v i : Nat} (h : g.gv v i ≠ 0) : (pro g who word).gv v i ≠ 0 := by
  unfold pro
  split
  · rw [give_gv]
    split
    · omega
    · exact h
  · exact h
theorem pro_gives {m k : Nat} (hm : m < g.n) (hk : 1 ≤ k ∧ k ≤ 30) (hw : g.was k = true) : (pro g (m : Int) (k : Int)).gv k m ≠ 0 := by
  by_cases h0 : g.gv k m = 0
  · rw [(proC_new hm hk hw h0).2, give_gv, if_pos ⟨rfl, rfl⟩]
    omega
  · exact pro_gv h0
theorem proC_was {m k : Nat} (hm : m < g.n) (hk : 1 ≤ k ∧ k ≤ 30) (hw : g.was k = true) : proC g (m : Int) (k : Int) ≠ 5 := by
  unfold proC
  rw [if_neg (by rw [chk_in hm hk hw]; decide)]
  split <;> decide
theorem chk_not {m k : Nat} (hm : m < g.n) (hk : 1 ≤ k ∧ k ≤ 30) (hw : g.was k = false) : chkC g (m : Int) (k : Int) = 5 := by
  unfold chkC
  rw [if_neg (by omega), if_neg]
  show ¬ g.was k = true
  rw [hw]
  decide
theorem proC_not {m k : Nat} (hm : m < g.n) (hk : 1 ≤ k ∧ k ≤ 30) (hw : g.was k = false) : proC g (m : Int) (k : Int) = 5 ∧ pro g (m : Int) (k : Int) = g := by
  have e : proC g (m : Int) (k : Int) = 5 := by
    unfold proC
    rw [chk_not hm hk hw, if_pos (by decide)]
  refine ⟨e, ?_⟩
  unfold pro
  rw [if_neg (by rw [e]; decide)]
theorem cnt_congr {g g' : G} (h : ∀ v, g'.was v = g.was v) : ∀ k, cnt g' k = cnt g k := by
  intro k
  induction k with
  | zero => rfl
  | succ k ih =>
    unfold cnt
    rw [ih, h]
theorem cnt_succ (g : G) (k : Nat) : cnt g (k + 1) = cnt g k + (g.was (k + 1)).toNat := rfl
theorem cnt_le (g : G) (k : Nat) : cnt g k ≤ k := by
  induction k with
  | zero => exact Nat.le_refl _
  | succ k ih =>
    rw [cnt_succ]
    have : (g.was (k + 1)).toNat ≤ 1 := by cases g.was (k + 1) <;> decide
    omega
/-- all members have given numbers to words below one, and the first so many to it -/
structure GP (n : Nat) (g : G) (v m : Nat) : Prop where
  inv : Inv g
  num : g.n = n
  below : ∀ u, 1 ≤ u → u < v → g.was u = true → ∀ i, i < n → g.gv u i ≠ 0
  at_ : g.was v = true → ∀ i, i < m → g.gv v i ≠ 0
variable {n v m : Nat}
theorem GP.start (h : Inv g) (hn : g.n = n) : GP n g 1 0 := ⟨h, hn, fun u h1 h2 => absurd h2 (by omega), fun _ i hi => absurd hi (by omega)⟩
theorem GP.first (h : GP n g v m) : GP n g v 0 := ⟨h.inv, h.num, h.below, fun _ i hi => absurd hi (by omega)⟩
theorem GP.pro (h : GP n g v m) (hm : m < n) (hv : 1 ≤ v ∧ v ≤ 30) : GP n (pro g (m : Int) (v : Int)) v (m + 1) := by
  refine ⟨h.inv.pro _ _, by rw [pro_n]; exact h.num, fun u h1 h2 hw i hi => pro_gv (h.below u h1 h2 (by rw [pro_was] at hw; exact hw) i hi), fun hw i hi => ?_⟩
  rw [pro_was] at hw
  by_cases e : i = m
  · rw [e]
    exact pro_gives (by rw [h.num]; exact hm) hv hw
  · exact pro_gv (h.at_ hw i (by omega))
theorem GP.next (h : GP n g v n) : GP n g (v + 1) 0 := by
  refine ⟨h.inv, h.num, fun u h1 h2 hw i hi => ?_, fun _ i hi => absurd hi (by omega)⟩
  by_cases e : u = v
  · rw [e] at hw ⊢
    exact h.at_ hw i hi
  · exact h.below u h1 (by omega) hw i hi
theorem GP.skip (h : GP n g v m) (hw : g.was v = false) : GP n g (v + 1) 0 := by
  refine ⟨h.inv, h.num, fun u h1 h2 hw' i hi => ?_, fun _ i hi => absurd hi (by omega)⟩
  by_cases e : u = v
  · rw [e, hw] at hw'
    cases hw'
  · exact h.below u h1 (by omega) hw' i hi
/-! all learn -/
theorem set_was (h : Inv0 g) (who word : Int) (v : Nat) : (set g who word).was v = g.was v := by
  by_cases hc : setC g who word = 0
  · rw [set_spec h hc]; rfl
  · unfold Agr.set; rw [if_neg hc]
theorem set_gv (h : Inv0 g) (who word : Int) (v i : Nat) : (set g who word).gv v i = g.gv v i := by
  by_cases hc : setC g who word = 0
  · rw [set_spec h hc]; rfl
  · unfold Agr.set; rw [if_neg hc]
theorem set_kn (h : Inv0 g) {who word : Int} {v i : Nat} (hk : g.kn v i = true) : (set g who word).kn v i = true := by
  by_cases hc : setC g who word = 0
  · rw [set_spec h hc]
    show (if v = word.toNat ∧ i = who.toNat then true else g.kn v i) = true
    rw [hk]
    simp
  · unfold Agr.set; rw [if_neg hc]; exact hk
theorem set_knows (h : Inv0 g) {m k : Nat} (hm : m < g.n) (hk : 1 ≤ k ∧ k ≤ 30) (hw : g.was k = true) (ha : allG g k = true) : (set g (m : Int) (k : Int)).kn k m = true := by
  cases hn : g.kn k m
  · rw [set_spec h (setC_new hm hk hw ha hn)]
    show (if k = k ∧ m = m then true else g.kn k m) = true
    rw [if_pos ⟨rfl, rfl⟩]
  · exact set_kn h hn
structure KP (n : Nat) (g : G) (v m : Nat) : Prop where
  inv : Inv g
  num : g.n = n
  gave : ∀ u, g.was u = true → ∀ i, i < n → g.gv u i ≠ 0
  below : ∀ u, 1 ≤ u → u < v → g.was u = true → ∀ i, i < n → g.kn u i = true
  at_ : g.was v = true → ∀ i, i < m → g.kn v i = true
theorem KP.start (h : GP n g 31 0) : KP n g 1 0 := ⟨h.inv, h.num, fun u hw i hi => h.below u (h.inv.was u hw).1 (by have := (h.inv.was u hw).2; omega) hw i hi, fun u h1 h2 => absurd h2 (by omega), fun _ i hi => absurd hi (by omega)⟩
theorem KP.set (h : KP n g v m) (hm : m < n) (hv : 1 ≤ v ∧ v ≤ 30) : KP n (set g (m : Int) (v : Int)) v (m + 1) := by
  have h0 := h.inv.toInv0
  refine ⟨h.inv.set _ _, by rw [set_n h0]; exact h.num, fun u hw i hi => ?_, fun u h1 h2 hw i hi => ?_, fun hw i hi => ?_⟩
  · rw [set_was h0] at hw
    rw [set_gv h0]
    exact h.gave u hw i hi
  · rw [set_was h0] at hw
    exact set_kn h0 (h.below u h1 h2 hw i hi)
  · rw [set_was h0] at hw
    by_cases e : i = m
    · rw [e]
      exact set_knows h0 (by rw [h.num]; exact hm) hv hw (allG_iff.2 fun j hj => h.gave v hw j (by rw [← h.num]; exact hj))
    · exact set_kn h0 (h.at_ hw i (by omega))
theorem KP.next (h : KP n g v n) : KP n g (v + 1) 0 := by
  refine ⟨h.inv, h.num, h.gave, fun u h1 h2 hw i hi => ?_, fun _ i hi => absurd hi (by omega)⟩
  by_cases e : u = v
  · rw [e] at hw ⊢
    exact h.at_ hw i hi
  · exact h.below u h1 (by omega) hw i hi
theorem KP.all (h : KP n g 31 0) (hm : m < n) : (g.hd m).length = cnt g 30 :=
  h.inv.all (by rw [h.num]; exact hm) (fun w hw => h.gave w hw m hm) fun w hg => by
    have hw := (h.inv.gv w m hg).1
    exact h.below w (h.inv.was w hw).1 (by have := (h.inv.was w hw).2; omega) hw m hm
/-! one word, said, given numbers by two, settled at the first -/
theorem one_fact : sayC (start 2) 4 = 0 ∧ proC (say (start 2) 4) 0 4 = 0 ∧ proC (pro (say (start 2) 4) 0 4) 1 4 = 0 ∧ proS (pro (say (start 2) 4) 0 4) 1 4 = (1, 1) ∧ setC (pro (pro (say (start 2) 4) 0 4) 1 4) 0 4 = 0 ∧ setO (pro (pro (say (start 2) 4) 0 4) 1 4) 0 4 = [4] := by
  have c0 : sayC (start 2) ((4 : Nat) : Int) = 0 := sayC_new (by omega) rfl
  have e0 : say (start 2) ((4 : Nat) : Int) = also (start 2) 4 := if_pos c0
  obtain ⟨c1, e1⟩ := proC_new (g := also (start 2) 4) (m := 0) (k := 4) (by decide) (by omega) rfl rfl
  obtain ⟨c2, e2⟩ := proC_new (g := give (also (start 2) 4) 0 4) (m := 1) (k := 4) (by decide) (by omega) rfl rfl
  have hi : Inv (give (give (also (start 2) 4) 0 4) 1 4) := by
    rw [← e2, ← e1]
    exact (((Inv.start (n := 2) (by omega) (by omega)).also (w := 4) (by omega) (by omega)).pro _ _).pro _ _
  have hg : ∀ w i, (give (give (also (start 2) 4) 0 4) 1 4).gv w i ≠ 0 ↔ w = 4 ∧ i < 2 := fun w i => by
    rw [give_gv, give_gv]
    show (if w = 4 ∧ i = 1 then _ else if w = 4 ∧ i = 0 then _ else 0) ≠ 0 ↔ _
    by_cases q1 : w = 4 ∧ i = 1
    · rw [if_pos q1]; simp; omega
    · rw [if_neg q1]
      by_cases q2 : w = 4 ∧ i = 0
      · rw [if_pos q2]; simp; omega
      · rw [if_neg q2]; simp; omega
  have c3 : setC (give (give (also (start 2) 4) 0 4) 1 4) ((0 : Nat) : Int) ((4 : Nat) : Int) = 0 := setC_new (by decide) (by omega) rfl (allG_iff.2 fun i hi' => (hg 4 i).2 ⟨rfl, hi'⟩) rfl
  have e3 := set_spec hi.toInv0 c3
  have hi3 := hi.set ((0 : Nat) : Int) ((4 : Nat) : Int)
  have o3 : setO (give (give (also (start 2) 4) 0 4) 1 4) ((0 : Nat) : Int) ((4 : Nat) : Int) = [4] := by
    have hm := hi3.heard (m := 0) (by rw [set_n hi.toInv0]; decide) (fun w hw => by
      rw [set_gv hi.toInv0, hg] at hw
      rw [hw.1]
      exact set_knows hi.toInv0 (by decide) (by omega) rfl (allG_iff.2 fun i hi' => (hg 4 i).2 ⟨rfl, hi'⟩))
    have hN := hi3.hdN 0
    have hh : (Agr.set (give (give (also (start 2) 4) 0 4) 1 4) ((0 : Nat) : Int) ((4 : Nat) : Int)).hd 0 = setO (give (give (also (start 2) 4) 0 4) 1 4) ((0 : Nat) : Int) ((4 : Nat) : Int) := by
      exact (congrArg (fun x : G => x.hd 0) e3).trans rfl
    rw [hh] at hm hN
    have h4 : ∀ w, w ∈ setO (give (give (also (start 2) 4) 0 4) 1 4) ((0 : Nat) : Int) ((4 : Nat) : Int) ↔ w = 4 := fun w => by
      rw [hm, set_gv hi.toInv0, hg]
      omega
    generalize setO (give (give (also (start 2) 4) 0 4) 1 4) ((0 : Nat) : Int) ((4 : Nat) : Int) = l at hN h4
    cases l with
    | nil => exact absurd ((h4 4).2 rfl) List.not_mem_nil
    | cons x l =>
      rw [(h4 x).1 (List.mem_cons_self ..)] at hN ⊢
      cases l with
      | nil => rfl
      | cons y l =>
        have := (h4 y).1 (by simp)
        rw [this] at hN
        simp at hN
  have e0' : say (start 2) 4 = also (start 2) 4 := e0
  have e1' : pro (also (start 2) 4) 0 4 = give (also (start 2) 4) 0 4 := e1
  have e2' : pro (give (also (start 2) 4) 0 4) 1 4 = give (give (also (start 2) 4) 0 4) 1 4 := e2
  rw [e0', e1', e2']
  refine ⟨c0, c1, c2, ?_, c3, o3⟩
  have : proC (give (also (start 2) 4) 0 4) 1 4 = 0 := c2
  unfold proS
  rw [if_pos this]
  rfl
end Go.Proofs.YtcolcjnmdejfeafDoor.Agr
