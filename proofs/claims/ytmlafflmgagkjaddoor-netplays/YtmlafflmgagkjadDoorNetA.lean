/-
  Rows of packets that the call owns; what is left alone; errors as the program tells them.
-/
import Derived.Test.YtmlafflmgagkjadDoorNetM
import Derived.Test.YtmlafflmgagkjadDoorFifA
import Derived.Test.YtmlafflmgagkjadDoorTold
import Derived.Deep.QuietTactic
import Derived.BigQuiet
import Derived.Deep.RegionHeld3
import Derived.Handy
namespace Go.Proofs.YtmlafflmgagkjadDoor.Net
open Go.RowKit
open Go.Proofs.YtmlafflmgagkjadDoor.Vec (Vw)
open Go.Proofs.YtmlafflmgagkjadDoor.Fif (own_lt own_block own_form own_mono Kp ret_bool)
set_option linter.unusedVariables false

def errF (c : Int) : Value := if c = 0 then .nilIface else .iface 76 (.int .i64 c)
theorem errF_ok : errF 0 = .nilIface := rfl
theorem errF_no {c : Int} (h : c ≠ 0) : errF c = .iface 76 (.int .i64 c) := if_neg h
theorem errF_same (c : Int) (w : World) (hL : As.Laid w) : Calls Tryd.prog 8 #[errF c, .int .i64 c] w fun e w' => e = .returned (.bool true) ∧ Below w.heap.size w w' := by
  by_cases h : c = 0
  · subst h
    rw [errF_ok]
    refine (As.error_nil 0 w).mono ?_
    rintro e w' ⟨rfl, hb⟩
    exact ⟨ret_bool (by simp), hb⟩
  · rw [errF_no h]
    refine (As.error_errno c c w hL).mono ?_
    rintro e w' ⟨rfl, hb⟩
    exact ⟨ret_bool (by simp), hb⟩
theorem below_heap2 {B : Nat} {w w1 w2 : World} (h : Below B w w1) (e : w2.heap = w1.heap) (e1 : w2.os = w1.os) (e2 : w2.tape = w1.tape) (e3 : w2.output = w1.output) : Below B w w2 :=
  ⟨e1.trans h.os, e2.trans h.tape, e3.trans h.output, by rw [e]; exact h.size, fun k hk => by rw [e]; exact h.block k hk⟩
theorem below_same {w w1 w2 : World} (h : Below w1.heap.size w1 w2) (e : w1.heap = w.heap) (e1 : w1.os = w.os) (e2 : w1.tape = w.tape) (e3 : w1.output = w.output) : Below w.heap.size w w2 := by
  rw [e] at h
  exact ⟨h.os.trans e1, h.tape.trans e2, h.output.trans e3, by have := h.size; rw [e] at this; exact this, fun k hk => by rw [h.block k hk, e]⟩
theorem below_drews {B : Nat} {a w : World} (h : Below B a w) (n : Nat) : Below B a (w.drewN n) := ⟨h.os, h.tape, h.output, h.size, h.block⟩
/-- all is left alone but some blocks -/
def KpL (w w' : World) (fp : List Nat) : Prop := w.heap.size ≤ w'.heap.size ∧ ∀ b, b < w.heap.size → b ∉ fp → w'.heap[b]? = w.heap[b]?
/-- blocks that were there, or are new -/
def NewL (w : World) (fp fp' : List Nat) : Prop := ∀ b ∈ fp', b ∈ fp ∨ w.heap.size ≤ b
/-- packets in a row that the call owns -/
def Po (w : World) (base : Nat) (v : Value) (l : List Pk) : Prop := w.ownsRow base 54 3 v l.length (flat l)
theorem Po.form {w : World} {base : Nat} {v : Value} {ws : List Pk} (h : Po w base v ws) : ∃ q cap, v = .slice q ws.length cap ∧ ws.length ≤ cap ∧ cap ≤ maxLen ∧ (0 < ws.length → ∃ g, q = some ⟨g, 0, none⟩ ∧ base ≤ g ∧ g < w.heap.size ∧ ∀ j u, (flat ws)[j]? = some u → w.cell? ⟨g, j, none⟩ = some u) := by
  rcases h.2 with ⟨h2, h3⟩ | ⟨g, cap, cur, hv, hb, hh, hc, hm, hsz, ht⟩
  · refine ⟨none, 0, by rw [h3]; exact h2, by omega, by unfold maxLen; omega, fun q => absurd q (by omega)⟩
  · refine ⟨_, cap, hv, hc, hm, fun _ => ⟨g, rfl, hb, ?_, fun j u hj => ?_⟩⟩
    · rcases Nat.lt_or_ge g w.heap.size with hlt | hge
      · exact hlt
      · rw [Array.getElem?_eq_none hge] at hh; cases hh
    · have hlt : j < ws.length * 3 := by
        have := (List.getElem?_eq_some_iff.1 hj).1
        rwa [flat_len] at this
      rw [← ht, List.getElem?_take_of_lt hlt] at hj
      simp only [World.cell?, hh]
      simpa using hj
theorem Po.later {w w' : World} {base : Nat} {v : Value} {l : List Pk} (h : Po w base v l) (hb : Below w.heap.size w w') : Po w' base v l := own_block h fun k hk => hb.block k (own_lt h k hk).2
theorem infoP : (Tryd.prog.info? 54).map (fun i => (i.zero, i.size, i.bytes)) = some (some (.agg #[.int .i64 0, .int .i64 0, .int .i64 0]), 3, 24) := by kernel_rfl
theorem info_pk : ∃ i, Tryd.prog.info? 54 = some i ∧ i.zero = some (.agg #[.int .i64 0, .int .i64 0, .int .i64 0]) ∧ i.size = 3 ∧ i.bytes = 24 := by
  obtain ⟨i, hi, hzz⟩ := Option.map_eq_some_iff.1 infoP
  simp only [Prod.mk.injEq] at hzz
  exact ⟨i, hi, hzz.1, hzz.2.1, hzz.2.2⟩
theorem blk_push {w w' : World} {ob : Obj} (e : w'.heap = w.heap.push ob) {k : Nat} (hk : k < w.heap.size) : w'.heap[k]? = w.heap[k]? := by
  rw [e, Array.getElem?_push_lt hk, Array.getElem?_eq_getElem hk]
theorem own_push {w w' : World} {ob : Obj} {base : Nat} {t : TypeId} {s n : Nat} {v : Value} {xs : List Value} (o : w.ownsRow base t s v n xs) (e : w'.heap = w.heap.push ob) : w'.ownsRow base t s v n xs := own_block o fun k hk => blk_push e (own_lt o k hk).2
theorem new_pk (w : World) (B : Nat) (hB : B = w.heap.size) (x0 x1 x2 : Int) (t : TypeId) : ∀ j u, (flat [(x0, x1, x2)])[j]? = some u → (w.alloc (.cells #[.int .i64 x0, .int .i64 x1, .int .i64 x2] t)).cell? ((⟨B, 0, none⟩ : Addr).add j) = some u := by
  subst hB
  intro j u hj
  rw [Addr.add_lit, Nat.zero_add]
  have hlt := (List.getElem?_eq_some_iff.1 hj).1
  rw [flat_len] at hlt
  simp only [List.length_cons, List.length_nil] at hlt
  rcases j with _ | _ | _ | j
  · simpa [flat] using hj
  · simpa [flat] using hj
  · simpa [flat] using hj
  · omega
theorem pk_push {w w' : World} {x0 x1 x2 : Int} {t : TypeId} (e : w'.heap = w.heap.push (.cells #[.int .i64 x0, .int .i64 x1, .int .i64 x2] t)) : ∀ j u, (flat [(x0, x1, x2)])[j]? = some u → w'.cell? ((⟨w.heap.size, 0, none⟩ : Addr).add j) = some u := by
  intro j u hj
  refine Eq.trans (World.cell?_of_block ?_) (new_pk w _ rfl x0 x1 x2 t j u hj)
  rw [e]
  rfl
theorem grown_push {w2 X w3 : World} {ob : Obj} {r : Option Nat} (hg : X.grownBy w3 r) (e : X.heap = w2.heap.push ob) (e1 : X.os = w2.os) (e2 : X.tape = w2.tape) (e3 : X.output = w2.output) : (w2.alloc ob).grownBy w3 r := by
  obtain ⟨a1, a2, a3, a4, a5⟩ := hg
  exact ⟨a1.trans e1, a2.trans e2, a3.trans e3, by rw [e] at a4; exact a4, fun k hk hne => (a5 k (by rw [e]; exact hk) hne).trans (by rw [e]; rfl)⟩
theorem c_heap {w X : World} (e : X.heap = w.heap) (a : Addr) : X.cell? a = w.cell? a := World.cell?_of_block (by rw [e])
/-- a packet in a row, as it lies -/
def C3 (w : World) (g i : Nat) (c : Pk) : Prop := w.cell? ⟨g, i * 3, none⟩ = some (.int .i64 c.1) ∧ w.cell? ⟨g, i * 3 + 1, none⟩ = some (.int .i64 c.2.1) ∧ w.cell? ⟨g, i * 3 + 2, none⟩ = some (.int .i64 c.2.2)
theorem c3_of {w : World} {g : Nat} {ws : List Pk} (h : ∀ j u, (flat ws)[j]? = some u → w.cell? ⟨g, j, none⟩ = some u) {i : Nat} (hi : i < ws.length) : C3 w g i (pk ws i) := by
  obtain ⟨a, b, c⟩ := flat_get ws i hi
  exact ⟨h _ _ a, h _ _ b, h _ _ c⟩
end Go.Proofs.YtmlafflmgagkjadDoor.Net
