/-
  The document's own group: Settle.
-/
import Derived.Test.YtcolcjnmdejfeafDoorAgrS
import Derived.Deep.Cut
import Derived.Deep.AppendLies
import Derived.Deep.RegionLaw
namespace Go.Proofs.YtcolcjnmdejfeafDoor.Agr
open Go.RowKit
open Go.Proofs.YtcolcjnmdejfeafDoor.Fif (own_lt own_block own_form own_mono own_vw ret_bool info_int lenOf new_int int_one)
open Go.Proofs.YtcolcjnmdejfeafDoor.Vec (Vw)
open Go.Proofs.YtcolcjnmdejfeafDoor.Sep (KpL NewL)
set_option linter.unusedVariables false
variable {w w' : World} {base P : Nat} {g : G} {hs : Nat → Value}

theorem vals_len (l : List Nat) : (vals l).length = l.length := by simp [vals]
theorem vals_app (a b : List Nat) : vals (a ++ b) = vals a ++ vals b := by simp [vals]
theorem vals_int (l : List Nat) : vals l = (l.map fun x : Nat => (x : Int)).map (Value.int .i64) := by simp [vals]
theorem has_nat (l : List Nat) (k : Nat) : (l.map fun x : Nat => (x : Int)).contains (k : Int) = l.contains k := by
  rw [Bool.eq_iff_iff, List.contains_iff_mem, List.contains_iff_mem, List.mem_map]
  constructor
  · rintro ⟨a, ha, e⟩
    rw [← show a = k by omega]
    exact ha
  · intro h
    exact ⟨k, h, rfl⟩
/-- what a member heard grows -/
theorem RA.hear {w5 : World} {m b gg gc n : Nat} (h : RA w base P g hs) (hm : m < 5) (hg : w.grownBy w5 (hs m).ownBlock) (ho : w5.ownsRow base 3 1 (.slice (some ⟨gg, 0, none⟩) (n + 1) gc) (n + 1) (vals (g.hd m) ++ [.int .i64 (b : Int)])) (hn : n = (g.hd m).length) (hat : (hs m).ownBlock = some gg ∨ w.heap.size ≤ gg) :
    RA (w5.setCell ⟨P, 657 + m, none⟩ (.slice (some ⟨gg, 0, none⟩) (n + 1) gc)) base P (hear g m b) (up1 hs m (.slice (some ⟨gg, 0, none⟩) (n + 1) gc)) := by
  have hPl := h.row.lt
  have hPg : P ≠ gg := fun e => by
    rcases hat with a | a
    · exact h.ne m hm (by rw [e]; exact a)
    · omega
  have hP5 : w5.heap[P]? = w.heap[P]? := hg.block P hPl (fun e => h.ne m hm e.symm)
  have hob : ∀ x, (Value.slice (some (⟨gg, 0, none⟩ : Addr)) (n + 1) gc).ownBlock = some x → x = gg := fun x e => by
    have : gg = x := by simpa [Value.ownBlock] using e
    exact this.symm
  refine ⟨?_, h.low, fun i hi => ?_, fun i hi => ?_, fun i j b' hi hj e1 e2 => ?_⟩
  · refine ((h.row.of_block hP5).setS hm _).congr (fv_ext rfl (fun _ _ => rfl) (fun _ _ _ _ => rfl) (fun _ _ _ _ => rfl) (fun _ _ _ _ => rfl) (fun _ _ _ _ => rfl) (fun _ _ => rfl) (fun _ _ => rfl))
  · rw [hear_hd]
    unfold up1
    by_cases e : i = m
    · rw [if_pos e, if_pos e]
      have o : w5.ownsRow base 3 1 (.slice (some ⟨gg, 0, none⟩) (n + 1) gc) (g.hd m ++ [b]).length (vals (g.hd m ++ [b])) := by
        rw [List.length_append, vals_app, ← hn]
        exact ho
      exact own_block o fun x e => Deep.blk_setCell_other _ _ _ _ (by rw [hob x e]; exact fun q => hPg q.symm)
    · rw [if_neg e, if_neg e]
      refine own_block (h.own i hi) fun x ex => ?_
      have hx := (own_lt (h.own i hi) x ex).2
      have hxP : x ≠ P := fun q => h.ne i hi (by rw [← q]; exact ex)
      exact (Deep.blk_setCell_other _ _ _ _ hxP).trans (hg.block x hx (fun q => e (h.one i m x hi hm ex q.symm)))
  · unfold up1
    by_cases e : i = m
    · rw [if_pos e]
      intro q
      exact hPg (hob P q)
    · rw [if_neg e]
      exact h.ne i hi
  · unfold up1 at e1 e2
    by_cases a : i = m
    · by_cases b : j = m
      · rw [a, b]
      · rw [if_pos a] at e1
        rw [if_neg b] at e2
        exfalso
        rw [hob b' e1] at e2
        have hx := (own_lt (h.own j hj) gg e2).2
        rcases hat with q | q
        · exact b (h.one j m gg hj hm e2 q)
        · omega
    · by_cases b : j = m
      · rw [if_neg a] at e1
        rw [if_pos b] at e2
        exfalso
        rw [hob b' e2] at e1
        have hx := (own_lt (h.own i hi) gg e1).2
        rcases hat with q | q
        · exact a (h.one i m gg hi hm e1 q)
        · omega
      · rw [if_neg a] at e1
        rw [if_neg b] at e2
        exact h.one i j b' hi hj e1 e2
/-- the least so far -/
def lst (g : G) (m k : Nat) : St := if best g m k = 0 then (0, 0) else ts g m (best g m k)
theorem best_skip {m k : Nat} (h : wts g m (k + 1) = false) : best g m (k + 1) = best g m k := by
  unfold best
  rw [if_neg (fun q => by rw [h] at q; exact absurd q.1 (by decide))]
  cases k <;> rfl
theorem best_step {m k : Nat} (h : wts g m (k + 1) = true) : best g m (k + 1) = if best g m k = 0 ∨ les (ts g m (k + 1)) (lst g m k) = true then k + 1 else best g m k := by
  have e : best g m (k + 1) = if wts g m (k + 1) = true ∧ (best g m k = 0 ∨ les (ts g m (k + 1)) (ts g m (best g m k)) = true) then k + 1 else best g m k := by
    cases k <;> rfl
  rw [e]
  by_cases hb : best g m k = 0
  · rw [if_pos ⟨h, .inl hb⟩, if_pos (.inl hb)]
  · have el : lst g m k = ts g m (best g m k) := if_neg hb
    rw [el]
    by_cases hl : les (ts g m (k + 1)) (ts g m (best g m k)) = true
    · rw [if_pos ⟨h, .inr hl⟩, if_pos (.inr hl)]
    · rw [if_neg (fun q => q.2.elim hb hl), if_neg (fun q => q.elim hb hl)]
def tru : Value → Bool
  | .bool b => b
  | _ => false
/-- as far as it goes -/
def SMid (w : World) (base P m : Nat) (hs : Nat → Value) (fi : List Nat × G) (wr : World) (vo : Value) (ag : Bool) (g1 : G) (hs1 : Nat → Value) : Prop :=
  ∃ o, RA wr base P g1 hs1 ∧ wr.ownsRow w.heap.size 3 1 vo o.length (vals o) ∧ Inv0 g1 ∧ g1.n ≤ 5 ∧ o.length ≤ (g1.hd m).length ∧ Below base w wr ∧ KpL w wr (rfp P hs) ∧ NewL w (rfp P hs) (rfp P hs1) ∧ (∀ b, vo.ownBlock = some b → b ∉ rfp P hs1) ∧
    (ag = true → (o ++ (run m g1).1, (run m g1).2) = fi) ∧ (ag = false → (o, g1) = fi)
set_option maxRecDepth 100000 in
theorem refSet_chk (who word : Int) (w : World) (h : RA w base P g hs) (hn : g.n ≤ 5) (hc : chkC g who word ≠ 0) : Calls Tryd.prog 23 #[.pointer (some ⟨P, 0, none⟩), .int .i64 who, .int .i64 word] w fun x w' => x = .returned (.tuple #[.slice none 0 0, .int .i64 (chkC g who word)]) ∧ w' = w := by
  have HR : Hid (RA w base P g hs) := h
  obtain ⟨c, ec⟩ : ∃ c, c = chkC g who word := ⟨_, rfl⟩
  have EC : Hid (c = chkC g who word) := ec
  have d : (c != 0) = true := by simp [ec, hc]
  rw [← ec]
  clear h hc ec
  go_enter Tryd.func23, Tryd.ntmps23
  go_wp2_with fail
  refine (refCheck P (ofG g hs) g hs who word _ HR.out.row hn).mono ?_
  rintro e w ⟨rfl, rfl⟩
  rw [← EC.out]
  go_wp2
  go_ret2
  exact ⟨rfl, rfl⟩
set_option maxRecDepth 100000 in
theorem refSet_not (m k : Nat) (w : World) (h : RA w base P g hs) (hn : g.n ≤ 5) (hm : m < g.n) (hk : k < 31) (hc : chkC g (m : Int) (k : Int) = 0) (ha : allG g k = false) : Calls Tryd.prog 23 #[.pointer (some ⟨P, 0, none⟩), .int .i64 (m : Int), .int .i64 (k : Int)] w fun x w' => x = .returned (.tuple #[.slice none 0 0, .int .i64 6]) ∧ Below w.heap.size w w' := by
  have HR : Hid (RA w base P g hs ∧ chkC g (m : Int) (k : Int) = 0 ∧ allG g k = false) := ⟨h, hc, ha⟩
  clear h hc ha
  go_enter Tryd.func23, Tryd.ntmps23
  go_wp2_with fail
  refine (refCheck P (ofG g hs) g hs (m : Int) (k : Int) _ HR.out.1.row hn).mono ?_
  rintro e w ⟨rfl, rfl⟩
  rw [HR.out.2.1]
  go_wp2_with fail
  refine (refFinal P g hs k w HR.out.1.row hn hk).mono ?_
  rintro e w1 ⟨⟨⟨f0, f1⟩, rfl, _⟩, hb⟩
  rw [HR.out.2.2]
  have B1 : Hid (Below w.heap.size w w1) := hb
  clear hb
  go_wp2
  go_ret2
  exact ⟨rfl, B1.out.alloc B1.out.size _⟩
set_option maxRecDepth 100000 in
theorem refSet_knew (m k : Nat) (w : World) (h : RA w base P g hs) (hn : g.n ≤ 5) (hm : m < g.n) (hk : k < 31) (hc : chkC g (m : Int) (k : Int) = 0) (ha : allG g k = true) (hkn : g.kn k m = true) : Calls Tryd.prog 23 #[.pointer (some ⟨P, 0, none⟩), .int .i64 (m : Int), .int .i64 (k : Int)] w fun x w' => x = .returned (.tuple #[.slice none 0 0, .int .i64 7]) ∧ Below w.heap.size w w' := by
  have HR : Hid (RA w base P g hs ∧ chkC g (m : Int) (k : Int) = 0 ∧ allG g k = true ∧ g.kn k m = true) := ⟨h, hc, ha, hkn⟩
  have m5 : m < 5 := by omega
  clear h hc ha hkn
  go_enter Tryd.func23, Tryd.ntmps23
  go_wp2_with fail
  refine (refCheck P (ofG g hs) g hs (m : Int) (k : Int) _ HR.out.1.row hn).mono ?_
  rintro e w ⟨rfl, rfl⟩
  rw [HR.out.2.1]
  go_wp2_with fail
  refine (refFinal P g hs k w HR.out.1.row hn hk).mono ?_
  rintro e w1 ⟨⟨⟨f0, f1⟩, rfl, _⟩, hb⟩
  rw [HR.out.2.2.1]
  have B1 : Hid (Below w.heap.size w w1) := hb
  have r1 := (HR.out.1.later hb).row
  have hP := r1.lt
  have cK := r1.cK (i := k) (j := m) hk m5
  have eK : (ofG g hs).K k m = true := HR.out.2.2.2
  rw [eK] at cK
  clear hb r1 eK
  go_wp2
  go_ret2
  exact ⟨rfl, B1.out.alloc B1.out.size _⟩
end Go.Proofs.YtcolcjnmdejfeafDoor.Agr
