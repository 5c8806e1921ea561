/-
  Plain facts for the document's own Change: word by word, member by member.
-/
import Derived.Test.YtgdmbnfdcbekaaiDoorFluM
namespace Go.Proofs.YtgdmbnfdcbekaaiDoor.Flu
set_option linter.unusedVariables false
variable {st : List Int} {gc : Nat → List Int} {x : Int}

theorem fl_snoc (st : List Int) (x : Int) : ∀ (l : List Int) (gc : Nat → List Int), fl st gc (l ++ [x]) = hearW st (fl st gc l) x := by
  intro l
  induction l with
  | nil => intro gc; rfl
  | cons y l ih => intro gc; exact ih (hearW st gc y)
/-- did any of the first so many hear it -/
def anyK (st : List Int) (gc : Nat → List Int) (x : Int) (k : Nat) : Bool := (st.take k).any fun s => decide (x ∈ gc s.toNat)
theorem anyK_zero : anyK st gc x 0 = false := rfl
theorem anyK_step {k : Nat} (hk : k < st.length) : anyK st gc x (k + 1) = (anyK st gc x k || decide (x ∈ gc (st.getD k 0).toNat)) := by
  unfold anyK
  have e : st.take (k + 1) = st.take k ++ [st.getD k 0] := by
    rw [List.take_succ_eq_append_getElem hk]
    simp [List.getD, hk]
  rw [e, List.any_append]
  simp
theorem anyK_all : anyK st gc x st.length = anyH st gc x := by
  unfold anyK anyH
  rw [List.take_length]
/-- the first so many have heard it -/
def heK (st : List Int) (gc : Nat → List Int) (x : Int) (k : Nat) : Nat → List Int := fun m => if (m : Int) ∈ st.take k ∧ x ∉ gc m then gc m ++ [x] else gc m
theorem heK_zero : heK st gc x 0 = gc := funext fun m => if_neg (by simp)
theorem heK_mem {k m : Nat} : x ∈ heK st gc x k m ↔ x ∈ gc m ∨ (m : Int) ∈ st.take k := by
  unfold heK
  by_cases h : (m : Int) ∈ st.take k ∧ x ∉ gc m
  · rw [if_pos h]
    simp [h.1]
  · rw [if_neg h]
    constructor
    · exact .inl
    · rintro (a | a)
      · exact a
      · exact Decidable.byContradiction fun z => h ⟨a, z⟩
theorem take_snoc {k : Nat} (hk : k < st.length) : st.take (k + 1) = st.take k ++ [st.getD k 0] := by
  rw [List.take_succ_eq_append_getElem hk]
  simp [List.getD, hk]
theorem heK_had {k s : Nat} (hk : k < st.length) (hs : st.getD k 0 = (s : Int)) (h : x ∈ heK st gc x k s) : heK st gc x (k + 1) = heK st gc x k := by
  funext m
  unfold heK
  rw [take_snoc hk, hs]
  by_cases e : m = s
  · subst e
    rcases heK_mem.1 h with a | a
    · rw [if_neg (fun z => z.2 a), if_neg (fun z => z.2 a)]
    · have a2 : (m : Int) ∈ st.take k ++ [(m : Int)] := List.mem_append.2 (.inl a)
      by_cases z : x ∈ gc m
      · rw [if_neg (fun q => q.2 z), if_neg (fun q => q.2 z)]
      · rw [if_pos ⟨a2, z⟩, if_pos ⟨a, z⟩]
  · have q : (m : Int) ∈ st.take k ++ [(s : Int)] ↔ (m : Int) ∈ st.take k := by
      rw [List.mem_append, List.mem_singleton]
      constructor
      · rintro (a | a)
        · exact a
        · exact absurd (by omega) e
      · exact .inl
    simp only [q]
theorem heK_new {k s : Nat} (hk : k < st.length) (hs : st.getD k 0 = (s : Int)) (h : x ∉ heK st gc x k s) : heK st gc x (k + 1) = fun m => if m = s then heK st gc x k s ++ [x] else heK st gc x k m := by
  funext m
  have hn : ¬ (x ∈ gc s ∨ (s : Int) ∈ st.take k) := fun z => h (heK_mem.2 z)
  have es : heK st gc x k s = gc s := if_neg (fun z => hn (.inr z.1))
  by_cases e : m = s
  · subst e
    rw [if_pos rfl, es]
    unfold heK
    rw [take_snoc hk, hs, if_pos ⟨List.mem_append.2 (.inr (List.mem_singleton.2 rfl)), fun z => hn (.inl z)⟩]
  · rw [if_neg e]
    unfold heK
    rw [take_snoc hk, hs]
    have q : (m : Int) ∈ st.take k ++ [(s : Int)] ↔ (m : Int) ∈ st.take k := by
      rw [List.mem_append, List.mem_singleton]
      constructor
      · rintro (a | a)
        · exact a
        · exact absurd (by omega) e
      · exact .inl
    simp only [q]
theorem heK_all (h : anyH st gc x = true) : heK st gc x st.length = hearW st gc x := by
  funext m
  unfold heK hearW
  rw [List.take_length, h]
  simp
theorem hearW_none (h : anyH st gc x = false) : hearW st gc x = gc := funext fun m => if_neg (fun q => by rw [h] at q; exact absurd q.2.2 (by decide))
end Go.Proofs.YtgdmbnfdcbekaaiDoor.Flu
