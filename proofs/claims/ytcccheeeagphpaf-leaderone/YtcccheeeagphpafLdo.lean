/-
  One order for all, given by a leader: the walk of LeaderOne.
-/
import Derived.Test.YtcccheeeagphpafLdb
import Derived.Test.YtcccheeeagphpafRowsF
import Derived.Deep.AppendLies
import Derived.Deep.CutBlock
import Derived.Deep.CutRange
import Derived.BigQuiet
import Derived.Deep.RegionHeld3
namespace Go.Proofs.Ytcccheeeagphpaf.Ldr
open Go.RowKit
open Go.Proofs.Ytcccheeeagphpaf.Fif (own_lt own_block own_form own_mono own_vw ret_bool info_int lenOf new_int int_one)
open Go.Proofs.Ytcccheeeagphpaf.Vec (Vw Rw Wf)
open Go.Proofs.Ytcccheeeagphpaf.Sep (KpL NewL)
set_option linter.unusedVariables false

/-- a block that the program does not touch -/
def Bx (w : World) (fp : List Nat) (b : Nat) : Prop := b < w.heap.size ∧ b ∉ fp
theorem Bx.step {w w' : World} {fp fp' : List Nat} {b : Nat} (h : Bx w fp b) (hk : KpL w w' fp) (hn : NewL w fp fp') : w'.heap[b]? = w.heap[b]? ∧ Bx w' fp' b := by
  refine ⟨hk.2 b h.1 h.2, Nat.lt_of_lt_of_le h.1 hk.1, fun q => ?_⟩
  rcases hn b q with z | z
  · exact h.2 z
  · have := h.1; omega
theorem Bx.later {w w' : World} {fp : List Nat} {b : Nat} (h : Bx w fp b) (hb : Below w.heap.size w w') : w'.heap[b]? = w.heap[b]? ∧ Bx w' fp b := ⟨hb.block b h.1, Nat.lt_of_lt_of_le h.1 hb.size, h.2⟩
def C2 (w : World) (b : Nat) (x y : Int) : Prop := w.cell? ⟨b, 0, none⟩ = some (.int .i64 x) ∧ w.cell? ⟨b, 1, none⟩ = some (.int .i64 y)
theorem C2.of {w w' : World} {b : Nat} {x y : Int} (h : C2 w b x y) (e : w'.heap[b]? = w.heap[b]?) : C2 w' b x y := ⟨(World.cell?_of_block (a := ⟨b, 0, none⟩) e).trans h.1, (World.cell?_of_block (a := ⟨b, 1, none⟩) e).trans h.2⟩
theorem C2.new (w : World) (x y : Int) (t : TypeId) : C2 (w.alloc (.cells #[.int .i64 x, .int .i64 y] t)) w.heap.size x y := ⟨by go_cell, by go_cell⟩
theorem own_pushL {w w' : World} {base : Nat} {ob : Obj} {t : TypeId} {s n : Nat} {v : Value} {xs : List Value} (o : w.ownsRow base t s v n xs) (e : w'.heap = w.heap.push ob) : w'.ownsRow base t s v n xs := own_block o fun k hk => by
  rw [e, Array.getElem?_push_lt (own_lt o k hk).2, Array.getElem?_eq_getElem (own_lt o k hk).2]
theorem new_pushL {w w' : World} {x : Int} {t : TypeId} (e : w'.heap = w.heap.push (.cells #[.int .i64 x] t)) : ∀ j u, [Value.int .i64 x][j]? = some u → w'.cell? ((⟨w.heap.size, 0, none⟩ : Addr).add j) = some u := by
  intro j u hj
  refine Eq.trans (World.cell?_of_block ?_) (new_int w _ rfl x t j u hj)
  rw [e]
  rfl
set_option maxRecDepth 100000 in
set_option maxHeartbeats 4000000 in
theorem one_bad (n : Int) (a : Option Addr) (len cap : Nat) (b : Option Addr) (len' cap' : Nat) (w : World) (h : n < 2 ∨ 5 < n) : Calls Try.prog 4 #[.int .i64 n, .slice a len cap, .slice b len' cap'] w fun e w' => e = .returned (.bool true) ∧ Below w.heap.size w w' := by
  go_enter Try.func4, Try.ntmps4
  go_wp2_with fail
  refine (newL_ok 2 (by omega) (by omega) w).mono ?_
  rintro e x1 ⟨P1, fp1, rfl, hA, hb⟩
  have A1 : Hid (LS x1 w.heap.size P1 (start 2) fp1 ∧ Below w.heap.size w x1 ∧ Inv (start 2)) := ⟨hA, hb, Inv.start (by omega) (by omega)⟩
  clear hA hb
  go_wp2_with fail
  refine (sayL w.heap.size P1 (start 2) fp1 8 x1 A1.out.1 A1.out.2.2 A1.out.2.1.size).mono ?_
  rintro e x2 ⟨fp2, rfl, hA, hb, _, _⟩
  rw [one_fact.1, one_fact.2.1, errF_ok]
  obtain ⟨X2, eX2⟩ : ∃ X2, X2 = x2.alloc (.cells #[.int .i64 0, .int .i64 8] 43) := ⟨_, rfl⟩
  have A2 : Hid (LS X2 w.heap.size P1 (say (start 2) 8) fp2 ∧ Below w.heap.size w X2 ∧ Inv (say (start 2) 8) ∧ C2 X2 x2.heap.size 0 8 ∧ Bx X2 fp2 x2.heap.size) := by
    have b := A1.out.2.1.trans hb
    rw [eX2]
    exact ⟨hA.later ((Below.refl _ _).alloc (Nat.le_refl _) _), b.alloc b.size _, A1.out.2.2.say 8, C2.new x2 0 8 _, by simp, fun q => by have := (hA.fp _ q).2; omega⟩
  clear hA hb
  go_wp2_with fail
  rw [← eX2]
  clear eX2
  refine (sayL w.heap.size P1 _ fp2 9 X2 A2.out.1 A2.out.2.2.1 A2.out.2.1.size).mono ?_
  rintro e x3 ⟨fp3, rfl, hA, hb, hk, hn⟩
  rw [one_fact.2.2.1, one_fact.2.2.2.1, errF_ok]
  obtain ⟨X3, eX3⟩ : ∃ X3, X3 = x3.alloc (.cells #[.int .i64 1, .int .i64 9] 43) := ⟨_, rfl⟩
  have A3 : Hid (LS X3 w.heap.size P1 (say (say (start 2) 8) 9) fp3 ∧ Below w.heap.size w X3 ∧ Inv (say (say (start 2) 8) 9) ∧ (C2 X3 x2.heap.size 0 8 ∧ Bx X3 fp3 x2.heap.size) ∧ C2 X3 x3.heap.size 1 9 ∧ Bx X3 fp3 x3.heap.size) := by
    have b := A2.out.2.1.trans hb
    have s := A2.out.2.2.2.2.step hk hn
    have a : Below x3.heap.size x3 X3 := by rw [eX3]; exact (Below.refl _ _).alloc (Nat.le_refl _) _
    have s' := s.2.later a
    refine ⟨hA.later a, b.trans (a.mono b.size), A2.out.2.2.1.say 9, ⟨(A2.out.2.2.2.1.of s.1).of s'.1, s'.2⟩, by rw [eX3]; exact C2.new x3 1 9 _, by rw [eX3]; simp, fun q => by have := (hA.fp _ q).2; omega⟩
  clear hA hb hk hn
  go_wp2_with fail
  rw [← eX3]
  clear eX3
  refine (tkL w.heap.size P1 _ fp3 1 1 X3 A3.out.1 A3.out.2.2.1 A3.out.2.1.size (by decide)).mono ?_
  rintro e x4 ⟨v4, fp4, rfl, hs, hA, hb, hk, hn⟩
  rw [one_fact.2.2.2.2.1, errF_ok]
  rw [one_fact.2.2.2.2.2.1] at hs
  obtain ⟨a4, c4, rfl, _, _, _⟩ := hs
  have A4 : Hid (LS x4 w.heap.size P1 (tk (say (say (start 2) 8) 9) 1 1) fp4 ∧ Below w.heap.size w x4 ∧ Inv (tk (say (say (start 2) 8) 9) 1 1) ∧ (C2 x4 x2.heap.size 0 8 ∧ Bx x4 fp4 x2.heap.size) ∧ C2 x4 x3.heap.size 1 9 ∧ Bx x4 fp4 x3.heap.size) := by
    have s := A3.out.2.2.2.1.2.step hk hn
    have t := A3.out.2.2.2.2.2.step hk hn
    exact ⟨hA, A3.out.2.1.trans hb, A3.out.2.2.1.tk 1 1, ⟨A3.out.2.2.2.1.1.of s.1, s.2⟩, A3.out.2.2.2.2.1.of t.1, t.2⟩
  have l0 : ([] : List Int).length = 0 := rfl
  rw [l0]
  clear hA hb hk hn l0
  go_wp2_with fail
  refine (tkL w.heap.size P1 _ fp4 1 0 x4 A4.out.1 A4.out.2.2.1 A4.out.2.1.size (by decide)).mono ?_
  rintro e x5 ⟨v5, fp5, rfl, hs, hA, hb, hk, hn⟩
  rw [one_fact.2.2.2.2.2.2.1, errF_ok]
  rw [one_fact.2.2.2.2.2.2.2] at hs
  obtain ⟨a5, c5, rfl, h51, h52, h53⟩ := hs
  obtain ⟨b5, o5, rfl, _, hc5⟩ := h53.2 (by decide)
  have f5 : x5.cell? ⟨b5, o5 + 1, none⟩ = some (.int .i64 9) := hc5 1 (by decide)
  have s := A4.out.2.2.2.1.1.of (A4.out.2.2.2.1.2.step hk hn).1
  have t := A4.out.2.2.2.2.1.of (A4.out.2.2.2.2.2.step hk hn).1
  have s0 := s.1
  have t0 := t.1
  have B5 : Hid (Below w.heap.size w x5) := A4.out.2.1.trans hb
  have l2 : ([8, 9] : List Int).length = 2 := rfl
  rw [l2]
  clear hA hb hk hn h51 h52 h53 hc5 s t l2 A1 A2 A3 A4
  go_wp2_with fail
  refine (newL_no n h x5).mono ?_
  rintro e x6 ⟨rfl, hb⟩
  rw [errF_no (by decide)]
  have B6 : Hid (Below w.heap.size w x6) := B5.out.trans (hb.mono B5.out.size)
  clear hb f5 s0 t0
  go_wp2
  go_ret
  exact ⟨rfl, B6.out⟩
/-- how the group stands, and the row of all words -/
structure W1 (w x5 wr : World) (P n : Nat) (l : L) (fp : List Nat) (va : Value) : Prop where
  ls : LS wr x5.heap.size P l fp
  inv : Inv l
  num : l.n = n
  own : wr.ownsRow x5.heap.size 3 1 va l.ws.length (l.ws.map (Value.int .i64))
  ap : ∀ b, va.ownBlock = some b → b ∉ fp
  bel : Below w.heap.size w wr
  sz : x5.heap.size ≤ wr.heap.size
  b5 : w.heap.size ≤ x5.heap.size
theorem W1.later {w x5 wr w' : World} {P n : Nat} {l : L} {fp : List Nat} {va : Value} (h : W1 w x5 wr P n l fp va) (hb : Below wr.heap.size wr w') : W1 w x5 w' P n l fp va :=
  ⟨h.ls.later hb, h.inv, h.num, own_block h.own fun k e => hb.block k (own_lt h.own k e).2, h.ap, h.bel.trans (hb.mono h.bel.size), Nat.le_trans h.sz hb.size, h.b5⟩
/-- the program turns, the words stay -/
theorem W1.step {w x5 wr w' : World} {P n : Nat} {l l' : L} {fp fp' : List Nat} {va : Value} (h : W1 w x5 wr P n l fp va) (hl : LS w' x5.heap.size P l' fp') (hi : Inv l') (hn : l'.n = l.n) (hw : l'.ws = l.ws) (hb : Below x5.heap.size wr w') (hk : KpL wr w' fp) (hnw : NewL wr fp fp') : W1 w x5 w' P n l' fp' va := by
  refine ⟨hl, hi, hn.trans h.num, ?_, fun b e q => ?_, h.bel.trans (hb.mono h.b5), Nat.le_trans h.sz hk.1, h.b5⟩
  · rw [hw]
    exact own_block h.own fun k e => hk.2 k (own_lt h.own k e).2 (h.ap k e)
  · rcases hnw b q with z | z
    · exact h.ap b e z
    · have := (own_lt h.own b e).2; omega
theorem W1.sl {w x5 wr : World} {P n : Nat} {l : L} {fp : List Nat} {va : Value} (h : W1 w x5 wr P n l fp va) : Sl wr va l.ws := Sl.of_own h.own
set_option maxRecDepth 100000 in
set_option maxHeartbeats 8000000 in
theorem one_ok (n : Nat) (a : Option Addr) (len cap : Nat) (zs : List Int) (b : Option Addr) (len' cap' : Nat) (ls : List (List Int)) (w : World) (hv : Vw w a len zs) (hlm : len ≤ maxLen) (hR : Rw w b len' ls) (hF : Wf ls) (h2 : 2 ≤ n) (h5 : n ≤ 5) : Calls Try.prog 4 #[.int .i64 (n : Int), .slice a len cap, .slice b len' cap'] w fun e w' => e = .returned (.bool true) ∧ Below w.heap.size w w' := by
  have HL : Hid (Vw w a len zs ∧ Rw w b len' ls) := ⟨hv, hR⟩
  have HF : Hid (Wf ls) := hF
  clear hF
  have hlm' : len' ≤ maxLen := hR.2.1
  have hn2 : (2 : Int) ≤ (n : Int) := by omega
  have hn5 : (n : Int) ≤ 5 := by omega
  obtain ⟨ii, hii, hz0, hz1, hz2⟩ := info_int
  have HJ : Hid (Try.prog.info? 3 = some ii ∧ ii.zero = some (.int .i64 0) ∧ ii.size = 1 ∧ ii.bytes = 8) := ⟨hii, hz0, hz1, hz2⟩
  clear hv hR hii hz0 hz1 hz2
  go_enter Try.func4, Try.ntmps4
  go_wp2_with fail
  refine (newL_ok 2 (by omega) (by omega) w).mono ?_
  rintro e x1 ⟨P1, fp1, rfl, hA, hb⟩
  have A1 : Hid (LS x1 w.heap.size P1 (start 2) fp1 ∧ Below w.heap.size w x1 ∧ Inv (start 2)) := ⟨hA, hb, Inv.start (by omega) (by omega)⟩
  clear hA hb
  go_wp2_with fail
  refine (sayL w.heap.size P1 (start 2) fp1 8 x1 A1.out.1 A1.out.2.2 A1.out.2.1.size).mono ?_
  rintro e x2 ⟨fp2, rfl, hA, hb, _, _⟩
  rw [one_fact.1, one_fact.2.1, errF_ok]
  obtain ⟨X2, eX2⟩ : ∃ X2, X2 = x2.alloc (.cells #[.int .i64 0, .int .i64 8] 43) := ⟨_, rfl⟩
  have A2 : Hid (LS X2 w.heap.size P1 (say (start 2) 8) fp2 ∧ Below w.heap.size w X2 ∧ Inv (say (start 2) 8) ∧ C2 X2 x2.heap.size 0 8 ∧ Bx X2 fp2 x2.heap.size) := by
    have b := A1.out.2.1.trans hb
    rw [eX2]
    exact ⟨hA.later ((Below.refl _ _).alloc (Nat.le_refl _) _), b.alloc b.size _, A1.out.2.2.say 8, C2.new x2 0 8 _, by simp, fun q => by have := (hA.fp _ q).2; omega⟩
  clear hA hb
  go_wp2_with fail
  rw [← eX2]
  clear eX2
  refine (sayL w.heap.size P1 _ fp2 9 X2 A2.out.1 A2.out.2.2.1 A2.out.2.1.size).mono ?_
  rintro e x3 ⟨fp3, rfl, hA, hb, hk, hn⟩
  rw [one_fact.2.2.1, one_fact.2.2.2.1, errF_ok]
  obtain ⟨X3, eX3⟩ : ∃ X3, X3 = x3.alloc (.cells #[.int .i64 1, .int .i64 9] 43) := ⟨_, rfl⟩
  have A3 : Hid (LS X3 w.heap.size P1 (say (say (start 2) 8) 9) fp3 ∧ Below w.heap.size w X3 ∧ Inv (say (say (start 2) 8) 9) ∧ (C2 X3 x2.heap.size 0 8 ∧ Bx X3 fp3 x2.heap.size) ∧ C2 X3 x3.heap.size 1 9 ∧ Bx X3 fp3 x3.heap.size) := by
    have b := A2.out.2.1.trans hb
    have s := A2.out.2.2.2.2.step hk hn
    have a : Below x3.heap.size x3 X3 := by rw [eX3]; exact (Below.refl _ _).alloc (Nat.le_refl _) _
    have s' := s.2.later a
    refine ⟨hA.later a, b.trans (a.mono b.size), A2.out.2.2.1.say 9, ⟨(A2.out.2.2.2.1.of s.1).of s'.1, s'.2⟩, by rw [eX3]; exact C2.new x3 1 9 _, by rw [eX3]; simp, fun q => by have := (hA.fp _ q).2; omega⟩
  clear hA hb hk hn
  go_wp2_with fail
  rw [← eX3]
  clear eX3
  refine (tkL w.heap.size P1 _ fp3 1 1 X3 A3.out.1 A3.out.2.2.1 A3.out.2.1.size (by decide)).mono ?_
  rintro e x4 ⟨v4, fp4, rfl, hs, hA, hb, hk, hn⟩
  rw [one_fact.2.2.2.2.1, errF_ok]
  rw [one_fact.2.2.2.2.2.1] at hs
  obtain ⟨a4, c4, rfl, _, _, _⟩ := hs
  have A4 : Hid (LS x4 w.heap.size P1 (tk (say (say (start 2) 8) 9) 1 1) fp4 ∧ Below w.heap.size w x4 ∧ Inv (tk (say (say (start 2) 8) 9) 1 1) ∧ (C2 x4 x2.heap.size 0 8 ∧ Bx x4 fp4 x2.heap.size) ∧ C2 x4 x3.heap.size 1 9 ∧ Bx x4 fp4 x3.heap.size) := by
    have s := A3.out.2.2.2.1.2.step hk hn
    have t := A3.out.2.2.2.2.2.step hk hn
    exact ⟨hA, A3.out.2.1.trans hb, A3.out.2.2.1.tk 1 1, ⟨A3.out.2.2.2.1.1.of s.1, s.2⟩, A3.out.2.2.2.2.1.of t.1, t.2⟩
  have l0 : ([] : List Int).length = 0 := rfl
  rw [l0]
  clear hA hb hk hn l0
  go_wp2_with fail
  refine (tkL w.heap.size P1 _ fp4 1 0 x4 A4.out.1 A4.out.2.2.1 A4.out.2.1.size (by decide)).mono ?_
  rintro e x5 ⟨v5, fp5, rfl, hs, hA, hb, hk, hn⟩
  rw [one_fact.2.2.2.2.2.2.1, errF_ok]
  rw [one_fact.2.2.2.2.2.2.2] at hs
  obtain ⟨a5, c5, rfl, h51, h52, h53⟩ := hs
  obtain ⟨b5, o5, rfl, _, hc5⟩ := h53.2 (by decide)
  have f5 : x5.cell? ⟨b5, o5 + 1, none⟩ = some (.int .i64 9) := hc5 1 (by decide)
  have s := A4.out.2.2.2.1.1.of (A4.out.2.2.2.1.2.step hk hn).1
  have t := A4.out.2.2.2.2.1.of (A4.out.2.2.2.2.2.step hk hn).1
  have s0 := s.1
  have t0 := t.1
  have B5 : Hid (Below w.heap.size w x5) := A4.out.2.1.trans hb
  have l2 : ([8, 9] : List Int).length = 2 := rfl
  rw [l2]
  clear hA hb hk hn h51 h52 h53 hc5 s t l2 A1 A2 A3 A4
  go_wp2_with fail
  refine (newL_ok n h2 h5 x5).mono ?_
  rintro e x6 ⟨P, fp6, rfl, hA, hb⟩
  have C6 : Hid (W1 w x5 x6 P n (start n) fp6 (.slice none 0 0)) := ⟨hA, Inv.start h2 h5, rfl, World.ownsRow_nil _ _ _ _, fun b e => (by cases e), B5.out.trans (hb.mono B5.out.size), hb.size, B5.out.size⟩
  clear hA hb f5 s0 t0
  go_upto_block 0 with fail
  go_cut [19, 20, 21, 22] from 108 to 149 (fun va x20 x21 x22 wc => ∃ l fp, Hid (W1 w x5 wc P n l fp va))
  case first =>
    go_wp2_with fail
    go_loopw [19, 20] (fun va x wr => ∃ i : Nat, i ≤ len ∧ i ≤ 40 ∧ x = .int .i64 (i : Int) ∧ ∃ l fp, Hid (W1 w x5 wr P n l fp va)) (fun _ x _ => len - (intOf x).toNat)
    case atStart => exact ⟨0, by omega, by omega, rfl, _, _, C6⟩
    case round =>
      obtain ⟨i, hi, hi40, rfl, l, f, hQ⟩ := hrel
      by_cases hgo : (i : Int) < (len : Int) ∧ (i : Int) < 40
      · obtain ⟨hil, hi40'⟩ := hgo
        have hi0 : (0 : Int) ≤ (i : Int) := by omega
        obtain ⟨rb, ro, rfl, hrb, hrc⟩ := (HL.out.1.later hQ.out.bel).2 (by omega)
        have c0 := hrc i (by omega)
        obtain ⟨x, ex⟩ : ∃ x, x = zs.getD i 0 := ⟨_, rfl⟩
        rw [← ex] at c0
        obtain ⟨qa, ca, eva⟩ := own_form hQ.out.own
        obtain ⟨la, ela⟩ : ∃ la, la = l.ws.length := ⟨_, rfl⟩
        have ELA : Hid (la = l.ws.length) := ela
        rw [← ela] at eva
        subst eva
        have hla : la ≤ 30 := by rw [ela]; exact hQ.out.inv.len
        have hrb' : Hid (rb < w.heap.size ∧ w.cell? ⟨rb, ro + i, none⟩ = some (.int .i64 x)) := by
          obtain ⟨rb', ro', e, h3, h4⟩ := HL.out.1.2 (by omega)
          cases e
          exact ⟨h3, by rw [ex]; exact h4 i (by omega)⟩
        clear hrc ex hrb ela
        go_wp2_with fail
        refine (sayL x5.heap.size P l f x wr hQ.out.ls hQ.out.inv hQ.out.sz).mono ?_
        rintro e w2 ⟨f2, rfl, hA2, hb2, hk2, hn2'⟩
        by_cases hc : sayC l x = 0
        · have eP : sayP l x = ((la : Int), x) := by
            unfold sayP
            rw [if_pos hc, ELA.out]
          have eS : say l x = { l with ws := l.ws ++ [x] } := if_pos hc
          rw [hc, errF_ok, eP]
          obtain ⟨W2, eW2⟩ : ∃ W2, W2 = w2.alloc (.cells #[.int .i64 (la : Int), .int .i64 x] 43) := ⟨_, rfl⟩
          have bW : Below w2.heap.size w2 W2 := by rw [eW2]; exact (Below.refl _ _).alloc (Nat.le_refl _) _
          have K2 : Hid (LS W2 x5.heap.size P { l with ws := l.ws ++ [x] } f2 ∧ Inv { l with ws := l.ws ++ [x] } ∧ W2.ownsRow x5.heap.size 3 1 (.slice qa la ca) la (l.ws.map (Value.int .i64)) ∧ (∀ b, (Value.slice qa la ca).ownBlock = some b → b ∉ f2 ∧ b < wr.heap.size) ∧ Below w.heap.size w W2 ∧ x5.heap.size ≤ W2.heap.size ∧ C2 W2 w2.heap.size (la : Int) x ∧ (∀ b ∈ f2, b < w2.heap.size)) := by
            have hi2 := hQ.out.inv.say x
            rw [eS] at hA2 hi2
            have o : wr.ownsRow x5.heap.size 3 1 (.slice qa la ca) la (l.ws.map (Value.int .i64)) := by
              have q := hQ.out.own
              rw [← ELA.out] at q
              exact q
            have bw2 : Below w.heap.size w w2 := hQ.out.bel.trans (hb2.mono hQ.out.b5)
            refine ⟨hA2.later bW, hi2, own_block (own_block o fun k e => hk2.2 k (own_lt o k e).2 (hQ.out.ap k e)) fun k e => bW.block k (Nat.lt_of_lt_of_le (own_lt o k e).2 hk2.1), fun b e => ⟨fun q => ?_, (own_lt o b e).2⟩, bw2.trans (bW.mono bw2.size), Nat.le_trans hQ.out.sz (Nat.le_trans hk2.1 bW.size), by rw [eW2]; exact C2.new w2 _ _ _, fun b hb => (hA2.fp b hb).2⟩
            rcases hn2' b q with z | z
            · exact hQ.out.ap b e z
            · have := (own_lt o b e).2; omega
          have c2 : w2.cell? ⟨rb, ro + i, none⟩ = some (.int .i64 x) := ((hQ.out.bel.trans (hb2.mono hQ.out.b5)).cell (p := ⟨rb, ro + i, none⟩) hrb'.out.1).trans hrb'.out.2
          have hrw : rb < w2.heap.size := Nat.lt_of_lt_of_le hrb'.out.1 (Nat.le_trans hQ.out.bel.size hk2.1)
          have cW := (bW.cell (p := ⟨rb, ro + i, none⟩) hrw).trans c2
          have p0 := K2.out.2.2.2.2.2.2.1.1
          have p1 := K2.out.2.2.2.2.2.2.1.2
          have d1 : ((la : Int) != (la : Int)) = false := by simp
          have d2 : (x != x) = false := by simp
          have HC : Hid (sayC l x = 0) := hc
          clear hA2 hb2 hk2 hn2' eP eS hc c0 bW
          go_wp2_with fail
          rw [← eW2]
          clear eW2 c2
          go_quiet (fail)
          obtain ⟨W3, eW3⟩ : ∃ W3, W3 = W2.drewN nq := ⟨_, rfl⟩
          have cV : W3.cell? ⟨rb, ro + i, none⟩ = some (.int .i64 x) := by rw [eW3]; exact cW
          have O3 : Hid (W3.ownsRow x5.heap.size 3 1 (.slice qa la ca) la (l.ws.map (Value.int .i64)) ∧ Below W2.heap.size W2 W3) := by
            rw [eW3]
            exact ⟨own_block K2.out.2.2.1 fun _ _ => rfl, ⟨rfl, rfl, rfl, Nat.le_refl _, fun _ _ => rfl⟩⟩
          rw [← eW3]
          clear eW3 cW p0 p1
          go_wp2_with (at_builtin; refine wpList_append_lies _ rfl _ _ 32 rfl x5.heap.size 3 ii (.int .i64 0) 1 8 Try.underlying32 HJ.out.1 HJ.out.2.1 HJ.out.2.2.1 HJ.out.2.2.2 rfl (by decide) (.slice qa la ca) la (l.ws.map (Value.int .i64)) rfl (by exact own_pushL O3.out.1 rfl) ⟨W3.heap.size, 0, none⟩ 1 1 [.int .i64 x] rfl rfl (by exact new_pushL rfl) (int_one _) (by omega) (by unfold maxLen; omega) (by omega) (by have := K2.out.2.2.2.2.2.1; have := O3.out.2.size; simp; omega) (W3.heap.size + 1) (by simp) ?_; intro gg gc w5 hown hgrow hat _; have G5 : Hid ((W3.alloc (.cells #[.int .i64 x] 3)).grownBy w5 (Value.slice qa la ca).ownBlock) := hgrow; have O5 : Hid (w5.ownsRow x5.heap.size 3 1 (.slice (some ⟨gg, 0, none⟩) (la + 1) gc) (la + 1) (l.ws.map (Value.int .i64) ++ [.int .i64 x])) := hown; have A5 : Hid ((Value.slice qa la ca).ownBlock = some gg ∨ W3.heap.size ≤ gg) := (hat.imp id (fun e => by omega)); clear hown hgrow hat)
          go_roundw
          case rel =>
            have hW : Below W3.heap.size W3 (W3.alloc (.cells #[.int .i64 x] 3)) := (Below.refl _ _).alloc (Nat.le_refl _) _
            have hfar : ∀ k, k < W2.heap.size → some k ≠ (Value.slice qa la ca).ownBlock → w5.heap[k]? = W2.heap[k]? := fun k hk hne => (G5.out.block k (Nat.lt_of_lt_of_le hk (Nat.le_trans O3.out.2.size hW.size)) hne).trans ((hW.block k (Nat.lt_of_lt_of_le hk O3.out.2.size)).trans (O3.out.2.block k hk))
            have hff : ∀ k ∈ f2, k < W2.heap.size := fun k hk => (K2.out.1.fp k hk).2
            refine ⟨i + 1, by omega, by omega, by go_num, _, f2, K2.out.1.of_blocks ?_ fun k hk => hfar k (hff k hk) (fun e => (K2.out.2.2.2.1 k e.symm).1 hk), K2.out.2.1, hQ.out.num, ?_, fun k e => ?_, ?_, ?_, hQ.out.b5⟩
            · exact Nat.le_trans O3.out.2.size (Nat.le_trans hW.size G5.out.size)
            · show w5.ownsRow x5.heap.size 3 1 _ (l.ws ++ [x]).length ((l.ws ++ [x]).map (Value.int .i64))
              rw [List.length_append, List.map_append, ← ELA.out]
              exact O5.out
            · have eg : gg = k := by simpa [Value.ownBlock] using e
              rcases A5.out with q | q
              · exact (K2.out.2.2.2.1 k (by rw [← eg]; exact q)).1
              · intro hk
                have := hff k hk
                have := O3.out.2.size
                omega
            · have b1 : Below w.heap.size w W3 := K2.out.2.2.2.2.1.trans (O3.out.2.mono K2.out.2.2.2.2.1.size)
              exact (b1.trans (hW.mono b1.size)).grown G5.out (Nat.le_trans b1.size hW.size) (fun k e => Nat.le_trans hQ.out.b5 (own_lt K2.out.2.2.1 k e).1)
            · exact Nat.le_trans K2.out.2.2.2.2.2.1 (Nat.le_trans O3.out.2.size (Nat.le_trans hW.size G5.out.size))
          case measure => simp [intOf]; omega
        · have eS : say l x = l := if_neg hc
          obtain ⟨y0, y1, ey⟩ : ∃ y0 y1, sayP l x = (y0, y1) := ⟨_, _, rfl⟩
          rw [errF_no hc, ey]
          have hst : W1 w x5 w2 P n l f2 (.slice qa la ca) := by
            rw [eS] at hA2
            exact hQ.out.step hA2 hQ.out.inv rfl rfl hb2 hk2 hn2'
          have H2 : Hid (W1 w x5 w2 P n l f2 (.slice qa la ca)) := hst
          clear hA2 hb2 hk2 hn2' eS ey hc c0 hst
          go_wp2
          go_roundw
          case rel => exact ⟨i + 1, by omega, by omega, by go_num, l, f2, H2.out.later ((Below.refl _ _).alloc (Nat.le_refl _) _)⟩
          case measure => simp [intOf]; omega
      · rcases (show ((i : Int) < (len : Int) ∧ ¬ (i : Int) < 40) ∨ ¬ (i : Int) < (len : Int) by omega) with ⟨e1, e2⟩ | e1
        all_goals
          clear hgo
          go_wp2
          go_meet
          exact ⟨l, f, hQ⟩
  case rest =>
    obtain ⟨l, f, hQ⟩ := hcut
    obtain ⟨w7, ew7⟩ : ∃ w7, w7 = wc := ⟨_, rfl⟩
    subst ew7
    obtain ⟨qa, ca, eva⟩ := own_form hQ.out.own
    obtain ⟨la, ela⟩ : ∃ la, la = l.ws.length := ⟨_, rfl⟩
    rw [← ela] at eva
    subst eva
    obtain ⟨ws, ews⟩ : ∃ ws, ws = l.ws := ⟨_, rfl⟩
    have C7 : Hid (∃ l fp, W1 w x5 w7 P n l fp (.slice qa la ca) ∧ l.ws = ws) := ⟨l, f, hQ.out, ews.symm⟩
    have hla : la ≤ 30 := by rw [ela]; exact hQ.out.inv.len
    clear hQ ela ews C6
    go_upto_block 2 with fail
    go_cut [23, 24, 25, 26, 27] from 150 to 199 (fun x23 x24 x25 x26 x27 wc => Hid (∃ l fp, W1 w x5 wc P n l fp (.slice qa la ca) ∧ l.ws = ws))
    case first =>
      go_wp2_with fail
      go_loopw [23] (fun x wr => ∃ i : Nat, i ≤ len' ∧ i ≤ 120 ∧ x = .int .i64 (i : Int) ∧ Hid (∃ l fp, W1 w x5 wr P n l fp (.slice qa la ca) ∧ l.ws = ws)) (fun x _ => len' - (intOf x).toNat)
      case atStart => exact ⟨0, by omega, by omega, rfl, C7⟩
      case round =>
        obtain ⟨i, hi, hi120, rfl, hQ⟩ := hrel
        by_cases hgo : (i : Int) < (len' : Int) ∧ (i : Int) < 120
        · obtain ⟨hil, hi120'⟩ := hgo
          have hi0 : (0 : Int) ≤ (i : Int) := by omega
          obtain ⟨l, f, hW, hws⟩ := hQ.out
          have R : Hid (W1 w x5 wr P n l f (.slice qa la ca) ∧ l.ws = ws) := ⟨hW, hws⟩
          obtain ⟨wo, ewo⟩ : ∃ wo, wo = wr := ⟨_, rfl⟩
          subst ewo
          obtain ⟨rb, ro, rfl, hrb, hrc⟩ := HL.out.2.2.2 (by omega)
          obtain ⟨qi, ci, gw, hvi, hmi⟩ := hrc i (by omega)
          obtain ⟨li, eli⟩ : ∃ li, li = (ls.getD i []).length := ⟨_, rfl⟩
          rw [← eli] at gw hvi hmi
          have hmi2 : (li : Int) ≤ 9223372036854775807 := by unfold maxLen at hmi; omega
          have g0 : wo.cell? ⟨rb, ro + i, none⟩ = some (.slice qi li ci) := (hW.bel.cell (p := ⟨rb, ro + i, none⟩) hrb).trans gw
          have XV : Hid (w.cell? ⟨rb, ro + i, none⟩ = some (.slice qi li ci) ∧ rb < w.heap.size ∧ Vw w qi li (ls.getD i [])) := ⟨gw, hrb, hvi⟩
          clear hrc hrb hvi hmi eli hW hws hQ gw
          go_upto_if 165 with fail
          go_cut [166] from 165 to 179 (fun x wc => Hid (∃ l fp, W1 w x5 wc P n l fp (.slice qa la ca) ∧ l.ws = ws))
          case first =>
            by_cases h2l : li = 2
            · subst h2l
              obtain ⟨bi, oi, rfl, hlti, hci⟩ := XV.out.2.2.2 (by omega)
              have y0 := hci 0 (by omega)
              have y1 := hci 1 (by omega)
              rw [Nat.add_zero] at y0
              obtain ⟨u0, eu0⟩ : ∃ u, u = (ls.getD i []).getD 0 0 := ⟨_, rfl⟩
              obtain ⟨u1, eu1⟩ : ∃ u, u = (ls.getD i []).getD 1 0 := ⟨_, rfl⟩
              rw [← eu0] at y0
              have HU : Hid ((Lit.int .i64 u1).wf = true) := by rw [eu1]; exact HF.out i 1
              rw [← eu1] at y1
              have HS : Hid (∀ X : World, (∀ k, k < w.heap.size → X.heap[k]? = w.heap[k]?) → X.cell? ⟨rb, ro + i, none⟩ = some (.slice (some ⟨bi, oi, none⟩) 2 ci) ∧ X.cell? ⟨bi, oi, none⟩ = some (.int .i64 u0) ∧ X.cell? ⟨bi, oi + 1, none⟩ = some (.int .i64 u1)) := fun X hX => ⟨(World.cell?_of_block (a := ⟨rb, ro + i, none⟩) (hX rb XV.out.2.1)).trans XV.out.1, (World.cell?_of_block (a := ⟨bi, oi, none⟩) (hX bi hlti)).trans y0, (World.cell?_of_block (a := ⟨bi, oi + 1, none⟩) (hX bi hlti)).trans y1⟩
              clear hci eu0 eu1 hlti y0 y1
              go_wp2_with fail
              go_region_held3 (fun X => X.cell? ⟨rb, ro + i, none⟩ = some (.slice (some ⟨bi, oi, none⟩) 2 ci) ∧ X.cell? ⟨bi, oi, none⟩ = some (.int .i64 u0) ∧ X.cell? ⟨bi, oi + 1, none⟩ = some (.int .i64 u1)) (first | exact HS.out _ (fun k hk => R.out.1.bel.block k hk) | exact HS.out _ (fun k hk => H2.out.1.bel.block k hk)) (first
                | (go_at_call 14; refine (tkL x5.heap.size P l f u0 u1 _ (by exact R.out.1.ls.of_blocks (Nat.le_refl _) fun _ _ => rfl) R.out.1.inv (by exact R.out.1.sz) HU.out).mono ?_; rintro e2 w2 ⟨v2, f2, rfl, hs2, hA2, hb2, hk2, hn2'⟩; have H2 : Hid (W1 w x5 w2 P n (tk l u0 u1) f2 (.slice qa la ca) ∧ (tk l u0 u1).ws = ws) := ⟨R.out.1.step hA2 (R.out.1.inv.tk u0 u1) (tk_n l u0 u1) (tk_ws l u0 u1) ⟨hb2.os, hb2.tape, hb2.output, hb2.size, hb2.block⟩ hk2 hn2', by rw [tk_ws]; exact R.out.2⟩; clear hs2 hA2 hb2 hk2 hn2'))
              go_wp2
              go_meet
              exact ⟨_, f2, H2.out⟩
            · have h2l' : ((li : Int) == 2) = false := by simp; omega
              go_wp2
              go_meet
              exact ⟨l, f, R.out⟩
          case rest =>
            obtain ⟨l, f, hW, hws⟩ := hcut.out
            have R2 : Hid (W1 w x5 wc P n l f (.slice qa la ca) ∧ l.ws = ws) := ⟨hW, hws⟩
            obtain ⟨w8, ew8⟩ : ∃ w8, w8 = wc := ⟨_, rfl⟩
            subst ew8
            clear hcut hW hws R XV g0
            go_wp2
            go_loopw [24] (fun x wr => ∃ m : Nat, m ≤ n ∧ x = .int .i64 (m : Int) ∧ Hid (Below w8.heap.size w8 wr)) (fun x _ => n - (intOf x).toNat)
            case atStart => exact ⟨0, by omega, rfl, Below.refl _ _⟩
            case round =>
              obtain ⟨m, hm, rfl, hB⟩ := hrel
              by_cases hmn : m < n
              · have hmn' : (m : Int) < (n : Int) := by omega
                have e1 : Hid (inC l (m : Int) = 0 ∧ hd l (m : Int) <+: ws) := by
                  have hl : m < l.n := by rw [R2.out.1.num]; exact hmn
                  exact ⟨in_ok hl, by rw [← R2.out.2]; exact hd_prefix hl⟩
                go_wp2_with fail
                refine (hdL x5.heap.size P l f (m : Int) wr (R2.out.1.later hB.out).ls R2.out.1.inv).mono ?_
                rintro e w9 ⟨v9, rfl, hs9, hb9⟩
                rw [e1.out.1, errF_ok]
                have S9 : Hid (Sl w9 v9 (hd l (m : Int)) ∧ Sl w9 (.slice qa la ca) ws ∧ Below w8.heap.size w8 w9) := by
                  have q := ((R2.out.1.later hB.out).later hb9).sl
                  rw [R2.out.2] at q
                  exact ⟨hs9, q, hB.out.trans (hb9.mono hB.out.size)⟩
                clear hs9 hb9
                go_wp2_with fail
                refine (begins_any S9.out.1 S9.out.2.1).mono ?_
                rintro e wa ⟨rfl, hba⟩
                rw [decide_eq_true e1.out.2]
                have Ba : Hid (Below w8.heap.size w8 wa) := S9.out.2.2.trans (hba.mono S9.out.2.2.size)
                clear hba
                go_wp2
                go_roundw
                case rel => exact ⟨m + 1, by omega, by go_num, Ba.out⟩
                case measure => simp [intOf]; omega
              · have hmn' : ¬ (m : Int) < (n : Int) := by omega
                go_wp2
                go_roundw
                case rel => exact ⟨i + 1, by omega, by omega, by go_num, l, f, R2.out.1.later hB.out, R2.out.2⟩
                case measure => simp [intOf]; omega
        · rcases (show ((i : Int) < (len' : Int) ∧ ¬ (i : Int) < 120) ∨ ¬ (i : Int) < (len' : Int) by omega) with ⟨e1, e2⟩ | e1
          all_goals
            clear hgo
            go_wp2
            go_meet
            exact hQ
    case rest =>
      have C8 : Hid (∃ l fp, W1 w x5 wc P n l fp (.slice qa la ca) ∧ l.ws = ws) := hcut
      clear hcut C7
      go_wp2
      go_loopw [28] (fun x wr => ∃ m : Nat, m ≤ n ∧ x = .int .i64 (m : Int) ∧ Hid (∃ l fp, W1 w x5 wr P n l fp (.slice qa la ca) ∧ l.ws = ws)) (fun x _ => n - (intOf x).toNat)
      case atStart => exact ⟨0, by omega, rfl, C8⟩
      case round =>
        obtain ⟨m, hm, rfl, hQ⟩ := hrel
        obtain ⟨l, f, hW, hws⟩ := hQ.out
        have R : Hid (W1 w x5 wr P n l f (.slice qa la ca) ∧ l.ws = ws) := ⟨hW, hws⟩
        clear hW hws hQ
        by_cases hmn : m < n
        · have hmn' : (m : Int) < (n : Int) := by omega
          have hl : Hid (m < l.n) := by show m < l.n; rw [R.out.1.num]; exact hmn
          have e1 : Hid (inC l (m : Int) = 0 ∧ lk l (m : Int) = lkN l m l.ws.length ∧ (lkN l m l.ws.length).length ≤ 30) := ⟨in_ok hl.out, lk_in hl.out, Nat.le_trans (lkN_len _ _ _) R.out.1.inv.len⟩
          go_wp2_with fail
          refine (lkL x5.heap.size P l f (m : Int) wr R.out.1.ls R.out.1.inv).mono ?_
          rintro e w9 ⟨a9, c9, rfl, hs9, hnew9, hb9⟩
          rw [e1.out.1, errF_ok]
          rw [e1.out.2.1] at hs9 hnew9 ⊢
          obtain ⟨a9', c9', e9, h91, h92, h93⟩ := hs9
          cases e9
          obtain ⟨lk0, elk⟩ : ∃ lk0, lk0 = lkN l m l.ws.length := ⟨_, rfl⟩
          obtain ⟨ll, ell⟩ : ∃ ll, ll = lk0.length := ⟨_, rfl⟩
          rw [← elk] at h93 hnew9
          rw [← elk, ← ell] at h91
          rw [← ell] at h93 hnew9
          have hll : ll ≤ 30 := by rw [ell, elk]; exact e1.out.2.2
          have ELK : Hid (lk0 = lkN l m l.ws.length ∧ ll = lk0.length ∧ Vw w9 a9 ll lk0) := ⟨elk, ell, h93⟩
          have q30 : ¬ (30 : Int) < (ll : Int) := by omega
          have L0 : Hid (∃ l1 f1, W1 w x5 w9 P n l1 f1 (.slice qa la ca) ∧ l1.ws = ws ∧ (∀ j, l.come m j = true → l1.come m j = true) ∧ (∀ j, j < 0 → l1.come m (lk0.getD j 0).toNat = true) ∧ Vw w9 a9 ll lk0 ∧ (∀ ad, a9 = some ad → 0 < ll → ad.block < w9.heap.size ∧ ad.block ∉ f1)) := by
            refine ⟨l, f, R.out.1.later hb9, R.out.2, fun j q => q, fun j hj => absurd hj (by omega), h93, fun ad e q => ⟨?_, fun z => ?_⟩⟩
            · obtain ⟨b9, o9, e', h4, _⟩ := h93.2 q
              rw [e] at e'
              cases e'
              exact h4
            · have := (R.out.1.ls.fp _ z).2
              have := hnew9 ad e q
              omega
          rw [← elk, ← ell]
          clear hnew9 h91 h92 h93 elk ell hb9
          go_wp2
          go_loopw [31] (fun x wr => ∃ i : Nat, i ≤ ll ∧ x = .int .i64 (i : Int) ∧ Hid (∃ l1 f1, W1 w x5 wr P n l1 f1 (.slice qa la ca) ∧ l1.ws = ws ∧ (∀ j, l.come m j = true → l1.come m j = true) ∧ (∀ j, j < i → l1.come m (lk0.getD j 0).toNat = true) ∧ Vw wr a9 ll lk0 ∧ (∀ ad, a9 = some ad → 0 < ll → ad.block < wr.heap.size ∧ ad.block ∉ f1))) (fun x _ => ll - (intOf x).toNat)
          case atStart => exact ⟨0, by omega, rfl, L0⟩
          case round =>
            obtain ⟨i, hi, rfl, hQ⟩ := hrel
            obtain ⟨l1, f1, k1, k2, k3, k4, k5, k6⟩ := hQ.out
            have K : Hid (W1 w x5 wr P n l1 f1 (.slice qa la ca) ∧ l1.ws = ws ∧ (∀ j, l.come m j = true → l1.come m j = true) ∧ (∀ j, j < i → l1.come m (lk0.getD j 0).toNat = true) ∧ Vw wr a9 ll lk0 ∧ (∀ ad, a9 = some ad → 0 < ll → ad.block < wr.heap.size ∧ ad.block ∉ f1)) := ⟨k1, k2, k3, k4, k5, k6⟩
            clear k1 k2 k3 k4 k5 k6 hQ
            by_cases hlt : i < ll
            · have hlt' : (i : Int) < (ll : Int) := by omega
              have hi0 : (0 : Int) ≤ (i : Int) := by omega
              obtain ⟨b9, o9, rfl, h4, h6⟩ := K.out.2.2.2.2.1.2 (by omega)
              have c0 := h6 i hlt
              have hme : lk0.getD i 0 ∈ lk0 := by
                rw [List.getD, List.getElem?_eq_getElem (by have := ELK.out.2.1; omega)]
                exact List.getElem_mem _
              rw [ELK.out.1] at hme
              obtain ⟨t, et, ht1, ht2⟩ := lkN_mem.1 hme
              rw [← ELK.out.1] at et
              rw [et] at c0
              have hl1 : Hid (m < l1.n ∧ t < l1.ws.length ∧ lk0.getD i 0 = (t : Int)) := ⟨by rw [K.out.1.num]; exact hmn, by rw [K.out.2.1, ← R.out.2]; exact ht1, et⟩
              have hk := K.out.2.2.2.2.2 ⟨b9, o9, none⟩ rfl (by omega)
              have HK : Hid (b9 < wr.heap.size ∧ b9 ∉ f1) := hk
              clear h6 hme et ht1 ht2 hk
              go_wp2_with fail
              refine (tkL x5.heap.size P l1 f1 (m : Int) (t : Int) wr K.out.1.ls K.out.1.inv K.out.1.sz (MapV.wfI (by omega) (by have := hl1.out.2.1; have := K.out.1.inv.len; omega))).mono ?_
              rintro e w2 ⟨v2, f2, rfl, hs2, hA2, hb2, hk2, hn2'⟩
              have ht := tk_came hl1.out.1 hl1.out.2.1
              rw [ht.2, errF_ok]
              have K2 : Hid (∃ l1 f1, W1 w x5 w2 P n l1 f1 (.slice qa la ca) ∧ l1.ws = ws ∧ (∀ j, l.come m j = true → l1.come m j = true) ∧ (∀ j, j < i + 1 → l1.come m (lk0.getD j 0).toNat = true) ∧ Vw w2 (some ⟨b9, o9, none⟩) ll lk0 ∧ (∀ ad, some (⟨b9, o9, none⟩ : Addr) = some ad → 0 < ll → ad.block < w2.heap.size ∧ ad.block ∉ f1)) := by
                have sb := Bx.step (w := wr) (fp := f1) (b := b9) ⟨HK.out.1, HK.out.2⟩ hk2 hn2'
                refine ⟨_, f2, K.out.1.step hA2 (K.out.1.inv.tk _ _) (tk_n _ _ _) (tk_ws _ _ _) hb2 hk2 hn2', by rw [tk_ws]; exact K.out.2.1, fun j q => tk_come (K.out.2.2.1 j q), fun j hj => ?_, ?_, fun ad e q => ?_⟩
                · by_cases e : j < i
                  · exact tk_come (K.out.2.2.2.1 j e)
                  · rw [show j = i by omega, hl1.out.2.2]
                    exact ht.1
                · obtain ⟨b9', o9', e', h4', h6'⟩ := K.out.2.2.2.2.1.2 (by omega)
                  cases e'
                  exact ⟨K.out.2.2.2.2.1.1, fun _ => ⟨b9, o9, rfl, sb.2.1, fun k hk => (World.cell?_of_block (a := ⟨b9, o9 + k, none⟩) sb.1).trans (h6' k hk)⟩⟩
                · cases e
                  exact ⟨sb.2.1, sb.2.2⟩
              clear hs2 hA2 hb2 hk2 hn2' ht c0
              go_wp2
              go_roundw
              case rel => exact ⟨i + 1, by omega, by go_num, K2.out⟩
              case measure => simp [intOf]; omega
            · have hlt' : ¬ (i : Int) < (ll : Int) := by omega
              have hie : i = ll := by omega
              have hl1 : m < l1.n := by rw [K.out.1.num]; exact hmn
              have e2 : Hid (inC l1 (m : Int) = 0 ∧ hd l1 (m : Int) = ws) := by
                refine ⟨in_ok hl1, ?_⟩
                have q := all_come (l := l1) (l0 := l) hl1 (by rw [K.out.2.1, R.out.2]) K.out.2.2.1 (fun x hx => by
                  rw [← ELK.out.1] at hx
                  obtain ⟨j, hj, ej⟩ := List.getElem_of_mem hx
                  have := K.out.2.2.2.1 j (by rw [hie, ELK.out.2.1]; exact hj)
                  rw [List.getD, List.getElem?_eq_getElem hj] at this
                  rw [← ej]
                  exact this)
                rw [q, K.out.2.1]
              clear hl1 hie
              go_wp2_with fail
              refine (hdL x5.heap.size P l1 f1 (m : Int) wr K.out.1.ls K.out.1.inv).mono ?_
              rintro e wa ⟨va, rfl, hsa, hba⟩
              rw [e2.out.1, errF_ok]
              rw [e2.out.2] at hsa
              have Sa : Hid (Sl wa va ws ∧ Sl wa (.slice qa la ca) ws ∧ W1 w x5 wa P n l1 f1 (.slice qa la ca)) := by
                have q := (K.out.1.later hba).sl
                rw [K.out.2.1] at q
                exact ⟨hsa, q, K.out.1.later hba⟩
              clear hsa hba
              go_wp2_with fail
              refine (same_any Sa.out.1 Sa.out.2.1).mono ?_
              rintro e wb ⟨rfl, hbb⟩
              rw [decide_eq_true (rfl : ws = ws)]
              have Sb : Hid (W1 w x5 wb P n l1 f1 (.slice qa la ca) ∧ l1.ws = ws) := ⟨Sa.out.2.2.later hbb, K.out.2.1⟩
              clear hbb
              go_wp2
              go_roundw
              case rel => exact ⟨m + 1, by omega, by go_num, l1, f1, Sb.out⟩
              case measure => simp [intOf]; omega
        · have hmn' : ¬ (m : Int) < (n : Int) := by omega
          go_wp2
          go_ret
          exact ⟨rfl, R.out.1.bel⟩
theorem one_any (n : Int) (a : Option Addr) (len cap : Nat) (zs : List Int) (b : Option Addr) (len' cap' : Nat) (ls : List (List Int)) (w : World) (hv : Vw w a len zs) (hlm : len ≤ maxLen) (hR : Rw w b len' ls) (hF : Wf ls) : Calls Try.prog 4 #[.int .i64 n, .slice a len cap, .slice b len' cap'] w fun e w' => e = .returned (.bool true) ∧ Below w.heap.size w w' := by
  by_cases h : n < 2 ∨ 5 < n
  · exact one_bad n a len cap b len' cap' w h
  · obtain ⟨k, rfl⟩ : ∃ k : Nat, n = (k : Int) := ⟨n.toNat, by omega⟩
    exact one_ok k a len cap zs b len' cap' ls w hv hlm hR hF (by omega) (by omega)
end Go.Proofs.Ytcccheeeagphpaf.Ldr
