/-
  Small facts on rows that the call owns: of numbers, and of words that have come; what is left alone.
-/
import Derived.Test.YtpjoaogiaacikakDoorFifM
import Derived.Test.YtpjoaogiaacikakDoorVecB
import Derived.Deep.AppendLies
import Derived.Deep.OwnRows
namespace Go.Proofs.YtpjoaogiaacikakDoor.Fif
open Go.RowKit
open Go.Proofs.YtpjoaogiaacikakDoor.Vec (Vw)

theorem ret_bool {a b : Bool} (h : a = b) : Ending.returned (.bool a) = .returned (.bool b) := by rw [h]
theorem below_up {w w1 w2 : World} {B : Nat} (h : Below B w w1) (h' : Below w1.heap.size w1 w2) : Below B w w2 ∨ w.heap.size < B := by
  rcases Nat.lt_or_ge w.heap.size B with a | a
  · exact .inr a
  · exact .inl (h.trans (h'.mono (Nat.le_trans a h.size)))
theorem own_lt {w : World} {base : Nat} {t : TypeId} {s : Nat} {v : Value} {n : Nat} {xs : List Value} (o : w.ownsRow base t s v n xs) : ∀ k, v.ownBlock = some k → base ≤ k ∧ k < w.heap.size := by
  intro k hk
  rcases o.2 with ⟨h2, _⟩ | ⟨g', cap', cur, hv, hbg, hh, _⟩
  · rw [h2] at hk; cases hk
  · rw [hv] at hk
    have : g' = k := by simpa [Value.ownBlock] using hk
    subst this
    refine ⟨hbg, ?_⟩
    rcases Nat.lt_or_ge g' w.heap.size with hlt | hge
    · exact hlt
    · rw [Array.getElem?_eq_none hge] at hh; cases hh
/-- a row stays where its block stays -/
theorem own_block {w w' : World} {base : Nat} {t : TypeId} {s : Nat} {v : Value} {n : Nat} {xs : List Value} (o : w.ownsRow base t s v n xs) (hb : ∀ k, v.ownBlock = some k → w'.heap[k]? = w.heap[k]?) : w'.ownsRow base t s v n xs := by
  obtain ⟨h1, h2⟩ := o
  refine ⟨h1, ?_⟩
  rcases h2 with h2 | ⟨g', cap', cur, hv, hbg, hh, hc, hm, hsz, ht⟩
  · exact .inl h2
  · refine .inr ⟨g', cap', cur, hv, hbg, ?_, hc, hm, hsz, ht⟩
    rw [hb g' (by rw [hv]; rfl)]
    exact hh
theorem own_vw {w : World} {base n : Nat} {t : TypeId} {v : Value} {xs : List Int} (h : w.ownsRow base t 1 v n (xs.map (Value.int .i64))) : ∃ a cap, v = .slice a n cap ∧ Vw w a n xs := by
  obtain ⟨h1, h2⟩ := h
  have hl : xs.length = n := by simpa using h1
  rcases h2 with ⟨h2, rfl⟩ | ⟨g, cap, cur, hv, _, hh, _, _, hsz, ht⟩
  · exact ⟨none, 0, h2, hl, fun q => absurd q (by omega)⟩
  · refine ⟨_, cap, hv, hl, fun _ => ⟨g, 0, rfl, ?_, fun k hk => ?_⟩⟩
    · rcases Nat.lt_or_ge g w.heap.size with hlt | hge
      · exact hlt
      · rw [Array.getElem?_eq_none hge] at hh; cases hh
    · rw [Nat.zero_add, World.cell?, hh]
      have : (cur.toList.take (n * 1))[k]? = (xs.map (Value.int .i64))[k]? := by rw [ht]
      rw [Nat.mul_one, List.getElem?_take_of_lt hk, List.getElem?_map] at this
      have hx : k < xs.length := by omega
      simp only [Option.isSome_none, Bool.false_eq_true, if_false]
      rw [← Array.getElem?_toList, this]
      simp [hx, List.getD]
theorem infoI : (Tryd.prog.info? 3).map (fun i => (i.zero, i.size, i.bytes)) = some (some (.int .i64 0), 1, 8) := by kernel_rfl
theorem info_int : ∃ i, Tryd.prog.info? 3 = some i ∧ i.zero = some (.int .i64 0) ∧ i.size = 1 ∧ i.bytes = 8 := by
  obtain ⟨i, hi, hzz⟩ := Option.map_eq_some_iff.1 infoI
  simp only [Prod.mk.injEq] at hzz
  exact ⟨i, hi, hzz.1, hzz.2.1, hzz.2.2⟩
theorem new_int (w : World) (B : Nat) (hB : B = w.heap.size) (x : Int) (t : TypeId) : ∀ j u, [Value.int .i64 x][j]? = some u → (w.alloc (.cells #[.int .i64 x] t)).cell? ((⟨B, 0, none⟩ : Addr).add j) = some u := by
  subst hB
  intro j u hj
  rw [Addr.add_lit, Nat.zero_add]
  rcases j with _ | j
  · simpa using hj
  · simp at hj
theorem int_one (x : Int) : ∀ u ∈ [Value.int .i64 x], u.oneCell' = true := by
  intro u hu
  obtain rfl := List.mem_singleton.1 hu
  rfl
/-- all is left alone but one block and one row -/
def Kp (w w' : World) (P : Nat) (r : Option Nat) : Prop := w.heap.size ≤ w'.heap.size ∧ ∀ b, b < w.heap.size → b ≠ P → some b ≠ r → w'.heap[b]? = w.heap[b]?
theorem Kp.refl (w : World) (P : Nat) (r : Option Nat) : Kp w w P r := ⟨Nat.le_refl _, fun _ _ _ _ => rfl⟩
/-- what is changed later is that block, that row, or was not there -/
theorem Kp.trans {w w1 w2 : World} {P : Nat} {r r' : Option Nat} (h : Kp w w1 P r) (h' : Kp w1 w2 P r') (hr : ∀ k, r' = some k → w.heap.size ≤ k ∨ r = some k ∨ k = P) : Kp w w2 P r := by
  refine ⟨Nat.le_trans h.1 h'.1, fun b hb hP hne => ?_⟩
  rw [h'.2 b (Nat.lt_of_lt_of_le hb h.1) hP (fun e => ?_), h.2 b hb hP hne]
  rcases hr b e.symm with a | a | a
  · omega
  · exact hne a.symm
  · exact hP a
theorem Kp.grown {w w' : World} {r : Option Nat} (hg : w.grownBy w' r) (P : Nat) : Kp w w' P r := ⟨hg.size, fun b hb _ hne => hg.block b hb hne⟩
theorem Kp.alloc (w : World) (o : Obj) (P : Nat) (r : Option Nat) : Kp w (w.alloc o) P r := ⟨by simp, fun b hb _ _ => ((Below.refl w.heap.size w).alloc (Nat.le_refl _) o).block b hb⟩
theorem Kp.setCell (w : World) (P i : Nat) (v : Value) (r : Option Nat) : Kp w (w.setCell ⟨P, i, none⟩ v) P r := ⟨by simp [World.setCell], fun b _ hP _ => Deep.blk_setCell_other _ _ _ _ hP⟩
theorem Kp.below {w w' : World} {P : Nat} (hb : Below w.heap.size w w') (r : Option Nat) : Kp w w' P r := ⟨hb.size, fun b h _ _ => hb.block b h⟩
theorem own_mono {w : World} {b b' : Nat} {t : TypeId} {s n : Nat} {v : Value} {xs : List Value} (o : w.ownsRow b t s v n xs) (hb : b' ≤ b) : w.ownsRow b' t s v n xs := by
  obtain ⟨h1, h2⟩ := o
  refine ⟨h1, ?_⟩
  rcases h2 with h2 | ⟨g', cap', cur, hv, hbg, hh⟩
  · exact .inl h2
  · exact .inr ⟨g', cap', cur, hv, Nat.le_trans hb hbg, hh⟩
theorem own_two {w : World} {b1 b2 : Nat} {t1 t2 : TypeId} (ht : t1 ≠ t2) {s1 s2 n1 n2 : Nat} {v1 v2 : Value} {x1 x2 : List Value} (o1 : w.ownsRow b1 t1 s1 v1 n1 x1) (o2 : w.ownsRow b2 t2 s2 v2 n2 x2) {g : Nat} (hg : v2.ownBlock = some g) : v1.ownBlock ≠ some g := by
  intro e
  rcases o1.2 with ⟨h2, _⟩ | ⟨g', cap', cur, hv, hbg, hh, _⟩
  · rw [h2] at e; cases e
  · rcases o2.2 with ⟨h2, _⟩ | ⟨g2, cap2, cur2, hv2, hbg2, hh2, _⟩
    · rw [h2] at hg; cases hg
    · rw [hv] at e
      rw [hv2] at hg
      have e1 : g' = g := by simpa [Value.ownBlock] using e
      have e2 : g2 = g := by simpa [Value.ownBlock] using hg
      subst e1 e2
      rw [hh] at hh2
      injection hh2 with hh2
      injection hh2 with _ hh2 _
      exact ht hh2
theorem own_form {w : World} {base : Nat} {t : TypeId} {s : Nat} {v : Value} {n : Nat} {xs : List Value} (o : w.ownsRow base t s v n xs) : ∃ q cap, v = .slice q n cap := by
  rcases o.2 with ⟨h2, h3⟩ | ⟨g', cap', cur, hv, _⟩
  · exact ⟨none, 0, by rw [h3]; exact h2⟩
  · exact ⟨_, _, hv⟩
/-- a row keeps through what leaves its block -/
theorem row_grown {w w' : World} {r : Option Nat} {P : Nat} {t : TypeId} {n : Nat} {f : Nat → Value} (h : w.rowIs P t n f) (hg : w.grownBy w' r) (hne : some P ≠ r) : w'.rowIs P t n f := h.of_block (hg.block P h.lt hne)
def lenOf : Value → Nat
  | .slice _ n _ => n
  | _ => 0
end Go.Proofs.YtpjoaogiaacikakDoor.Fif
