/-
  Rows of numbers of a group that flushes, in memory: each of its own; small facts on words and members.
-/
import Derived.Test.YtgdmbnfdcbekaaiDoorFlsM
import Derived.Test.YtgdmbnfdcbekaaiDoorFlqM
import Derived.Test.YtgdmbnfdcbekaaiDoorFluE
import Derived.Test.YtgdmbnfdcbekaaiDoorSepA
import Derived.Test.YtgdmbnfdcbekaaiDoorLdrE
import Derived.Deep.AppendLies
import Derived.Deep.QuietTactic
import Derived.BigQuiet
import Derived.Deep.RegionHeld3
import Derived.WalkLawsBesides
import Derived.Handy
namespace Go.Proofs.YtgdmbnfdcbekaaiDoor.Flu
open Go.RowKit
open Go.Proofs.YtgdmbnfdcbekaaiDoor.Fif (own_lt own_block own_form own_vw ret_bool info_int new_int int_one)
open Go.Proofs.YtgdmbnfdcbekaaiDoor.Vec (Vw)
open Go.Proofs.YtgdmbnfdcbekaaiDoor.Sep (KpL NewL)
open Go.Proofs.YtgdmbnfdcbekaaiDoor.Ldr (Sl)
set_option linter.unusedVariables false

def nilV : Value := .slice none 0 0
/-- of which type a block is -/
def tyB (w : World) (b : Nat) : Option TypeId := match w.heap[b]? with
  | some (.cells _ t _) => some t
  | _ => none
theorem tyB_row {w : World} {b : Nat} {t : TypeId} {n : Nat} {f : Nat → Value} (h : w.rowIs b t n f) : tyB w b = some t := by
  obtain ⟨c, hc, _⟩ := h
  unfold tyB
  rw [hc]
theorem tyB_own {w : World} {base : Nat} {t : TypeId} {s n : Nat} {v : Value} {xs : List Value} (h : w.ownsRow base t s v n xs) {k : Nat} (hk : v.ownBlock = some k) : tyB w k = some t := by
  rcases h.2 with ⟨h2, _⟩ | ⟨g', cap', cur, hv, _, hh, _⟩
  · rw [h2] at hk; cases hk
  · rw [hv] at hk
    have : g' = k := by simpa [Value.ownBlock] using hk
    subst this
    unfold tyB
    rw [hh]
theorem tyB_ne {w : World} {a b : Nat} {t1 t2 : TypeId} (h1 : tyB w a = some t1) (h2 : tyB w b = some t2) (hn : t1 ≠ t2) : a ≠ b := by
  intro e
  rw [e, h2] at h1
  exact hn (Option.some.inj h1).symm
def upV {α : Type} (f : Nat → α) (i : Nat) (x : α) : Nat → α := fun j => if j = i then x else f j
theorem upV_same {α : Type} (f : Nat → α) (i : Nat) (x : α) : upV f i x i = x := if_pos rfl
theorem upV_other {α : Type} (f : Nat → α) {i j : Nat} (x : α) (h : j ≠ i) : upV f i x j = f j := if_neg h
abbrev Orw (w : World) (base : Nat) (v : Value) (l : List Int) : Prop := w.ownsRow base 3 1 v l.length (l.map (Value.int .i64))
/-- rows of numbers, each of its own -/
structure RI (w : World) (base N : Nat) (L : Nat → List Int) (rv : Nat → Value) : Prop where
  own : ∀ i, i < N → Orw w base (rv i) (L i)
  sep : ∀ i j, i < N → j < N → i ≠ j → ∀ b, (rv i).ownBlock = some b → (rv j).ownBlock ≠ some b
variable {w w' w1 w5 : World} {base N : Nat} {L : Nat → List Int} {rv : Nat → Value}
theorem RI.of_blocks (h : RI w base N L rv) (hk : ∀ i b, i < N → (rv i).ownBlock = some b → w'.heap[b]? = w.heap[b]?) : RI w' base N L rv := ⟨fun i hi => own_block (h.own i hi) fun b hb => hk i b hi hb, h.sep⟩
theorem RI.congr (h : RI w base N L rv) {L' : Nat → List Int} {rv' : Nat → Value} (e : ∀ i, i < N → L' i = L i) (e' : ∀ i, i < N → rv' i = rv i) : RI w base N L' rv' := ⟨fun i hi => by rw [e i hi, e' i hi]; exact h.own i hi, fun i j hi hj hn b => by rw [e' i hi, e' j hj]; exact h.sep i j hi hj hn b⟩
/-- one of them is another one -/
theorem RI.set (h : RI w base N L rv) {i : Nat} (hi : i < N) {v : Value} {l : List Int} (hk : ∀ j b, j < N → j ≠ i → (rv j).ownBlock = some b → w'.heap[b]? = w.heap[b]?) (ho : Orw w' base v l) (hn : ∀ b, v.ownBlock = some b → (rv i).ownBlock = some b ∨ w.heap.size ≤ b) : RI w' base N (upV L i l) (upV rv i v) := by
  refine ⟨fun j hj => ?_, fun j k hj hk' hjk b hb => ?_⟩
  · by_cases e : j = i
    · rw [e, upV_same, upV_same]; exact ho
    · rw [upV_other _ _ e, upV_other _ _ e]
      exact own_block (h.own j hj) fun b hb => hk j b hj e hb
  · by_cases e : j = i
    · rw [e, upV_same] at hb
      have e2 : k ≠ i := fun q => hjk (by rw [e, q])
      rw [upV_other _ _ e2]
      intro z
      rcases hn b hb with a | a
      · exact h.sep i k hi hk' (Ne.symm e2) b a z
      · have := (own_lt (h.own k hk') b z).2
        omega
    · rw [upV_other _ _ e] at hb
      by_cases e2 : k = i
      · rw [e2, upV_same]
        intro z
        rcases hn b z with a | a
        · exact h.sep j i hj hi e b hb a
        · have := (own_lt (h.own j hj) b hb).2
          omega
      · rw [upV_other _ _ e2]
        exact h.sep j k hj hk' hjk b hb
/-- one of them grows -/
theorem RI.app (h : RI w base N L rv) {i : Nat} (hi : i < N) {n gg gc : Nat} {x : Int} (hn : n = (L i).length) (hg : w.grownBy w5 (rv i).ownBlock) (ho : w5.ownsRow base 3 1 (.slice (some ⟨gg, 0, none⟩) (n + 1) gc) (n + 1) ((L i).map (Value.int .i64) ++ [.int .i64 x])) (hat : (rv i).ownBlock = some gg ∨ w.heap.size ≤ gg) : RI w5 base N (upV L i (L i ++ [x])) (upV rv i (.slice (some ⟨gg, 0, none⟩) (n + 1) gc)) := by
  refine h.set hi (fun j b hj e hb => hg.block b (own_lt (h.own j hj) b hb).2 fun q => h.sep j i hj hi e b hb q.symm) ?_ fun b hb => ?_
  · show World.ownsRow _ _ _ _ _ _ _
    rw [List.length_append, List.map_append, ← hn]
    exact ho
  · have e : gg = b := by simpa [Value.ownBlock] using hb
    rw [← e]
    exact hat
theorem RI.see (h : RI w base N L rv) {i : Nat} (hi : i < N) : ∃ q c, rv i = .slice q (L i).length c ∧ Vw w q (L i).length (L i) := own_vw (h.own i hi)
/-! which row holds what -/
def ix (k m : Nat) : Nat := 2 + 5 * k + m
def lsF (f : F) (i : Nat) : List Int := if i = 0 then f.v.has else if i = 1 then f.said else f.hd ((i - 2) / 5) ((i - 2) % 5)
theorem lsF_ix (f : F) {k m : Nat} (hm : m < 5) : lsF f (ix k m) = f.hd k m := by
  unfold lsF ix
  rw [if_neg (by omega), if_neg (by omega), show (2 + 5 * k + m - 2) / 5 = k by omega, show (2 + 5 * k + m - 2) % 5 = m by omega]
def cntF (f : F) : Nat := 2 + 5 * (num f + 1)
variable {f : F} {gc : Nat → List Int}
theorem has5 (hi : Inv f) : f.v.has.length ≤ 5 := Viw.has_le (Viw.view_ok hi.view).2
theorem said30 (hi : Inv f) : f.said.length ≤ 30 := by
  have hs : ∀ x ∈ f.said, x ∈ (List.range 30).map (fun (i : Nat) => ((i : Int) + 1)) := by
    intro x hx
    have hb := (hi.was x hx).2
    exact List.mem_map.2 ⟨(x - 1).toNat, List.mem_range.2 (by omega), by omega⟩
  have := len_le hi.saidN hs
  simpa using this
theorem ix_inj {k m k' m' : Nat} (hm : m < 5) (hm' : m' < 5) : ix k m = ix k' m' ↔ k = k' ∧ m = m' := by
  unfold ix
  constructor
  · intro h; omega
  · rintro ⟨rfl, rfl⟩; rfl
theorem ix_lt {k m : Nat} (hk : k ≤ num f) (hm : m < 5) : ix k m < cntF f := by
  unfold ix cntF
  omega
theorem ix_two (k m : Nat) : 2 ≤ ix k m := by unfold ix; omega
theorem len30 {l : List Int} (hn : l.Nodup) (h : ∀ x ∈ l, 1 ≤ x ∧ x ≤ 30) : l.length ≤ 30 := by
  have hs : ∀ x ∈ l, x ∈ (List.range 30).map (fun (i : Nat) => ((i : Int) + 1)) := by
    intro x hx
    have hb := h x hx
    exact List.mem_map.2 ⟨(x - 1).toNat, List.mem_range.2 (by omega), by omega⟩
  have := len_le hn hs
  simpa using this
/-- lists of words, each once -/
def Okg (gc : Nat → List Int) : Prop := ∀ m, (gc m).Nodup ∧ ∀ x ∈ gc m, 1 ≤ x ∧ x ≤ 30
theorem Okg.len (h : Okg gc) (m : Nat) : (gc m).length ≤ 30 := len30 (h m).1 (h m).2
theorem Okg.start (hi : Inv f) (hr : Rng f) : Okg (cur f) := fun m => ⟨hi.hdN _ m, fun x hx => hr _ m x hx⟩
theorem Okg.inv (hi : Inv f) : Okg (cur f) := fun m => ⟨hi.hdN _ m, fun x hx => (hi.was x (hi.now m x hx)).2⟩
theorem Okg.heK (h : Okg gc) {x : Int} (hx : 1 ≤ x ∧ x ≤ 30) (st : List Int) (k : Nat) : Okg (heK st gc x k) := fun m => by
  unfold Flu.heK
  split
  · rename_i q
    refine ⟨nodup_snoc (h m).1 q.2, fun y hy => ?_⟩
    rcases List.mem_append.1 hy with a | a
    · exact (h m).2 y a
    · rw [List.mem_singleton.1 a]; exact hx
  · exact h m
theorem Okg.hearW (h : Okg gc) {x : Int} (hx : 1 ≤ x ∧ x ≤ 30) (st : List Int) : Okg (hearW st gc x) := by
  cases ha : anyH st gc x
  · rw [hearW_none ha]; exact h
  · rw [← heK_all ha]; exact h.heK hx st _
theorem said_at (hi : Inv f) {i : Nat} (h : i < f.said.length) : 1 ≤ f.said.getD i 0 ∧ f.said.getD i 0 ≤ 30 := by
  have e : f.said.getD i 0 = f.said[i] := by simp [List.getD, h]
  rw [e]
  exact (hi.was _ (List.getElem_mem h)).2
theorem stay_at (hi : Inv f) {has : List Int} {k : Nat} (h : k < (stay f has).length) : ∃ s : Nat, (stay f has).getD k 0 = (s : Int) ∧ s < 5 := by
  have e : (stay f has).getD k 0 = (stay f has)[k] := by simp [List.getD, h]
  have hb := hi.has _ (stay_in (List.getElem_mem h))
  exact ⟨((stay f has)[k]).toNat, by rw [e]; omega, by omega⟩
end Go.Proofs.YtgdmbnfdcbekaaiDoor.Flu
