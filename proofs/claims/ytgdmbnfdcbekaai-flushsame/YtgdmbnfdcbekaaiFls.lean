/-
  Who goes on together heard the same: the walk of FlushSame.
-/
import Derived.Test.YtgdmbnfdcbekaaiFlsM
import Derived.Test.YtgdmbnfdcbekaaiFluO
import Derived.Test.YtgdmbnfdcbekaaiViwC
import Derived.Test.YtgdmbnfdcbekaaiVwtI
import Derived.Test.YtgdmbnfdcbekaaiRowsS
import Derived.Deep.CutBlock
import Derived.Deep.CutRange
import Derived.Deep.AppendLies
namespace Go.Proofs.Ytgdmbnfdcbekaai.Flu
open Go.RowKit
open Go.Proofs.Ytgdmbnfdcbekaai.Fif (ret_bool own_lt own_block own_form info_int new_int int_one)
open Go.Proofs.Ytgdmbnfdcbekaai.Vec (Vw Rw Rs)
open Go.Proofs.Ytgdmbnfdcbekaai.Sep (KpL NewL)
open Go.Proofs.Ytgdmbnfdcbekaai.Ldr (errF errF_ok errF_no Sl)
open Go.Proofs.Ytgdmbnfdcbekaai.Viw (nextV refIn sameView bothAt drewsV)
set_option linter.unusedVariables false

/-- how the group stands -/
structure SG (w wr : World) (P B : Nat) (f : F) (fp : List Nat) : Prop where
  us : US wr w.heap.size P f fp
  inv : Inv f
  rng : Rng f
  few : f.v.n ≤ (B : Int)
  bel : Below w.heap.size w wr
theorem SG.later {w wr w' : World} {P B : Nat} {f : F} {fp : List Nat} (h : SG w wr P B f fp) (hb : Below wr.heap.size wr w') : SG w w' P B f fp := ⟨h.us.later hb, h.inv, h.rng, h.few, h.bel.trans (hb.mono h.bel.size)⟩
theorem SG.mono {w wr : World} {P B B' : Nat} {f : F} {fp : List Nat} (h : SG w wr P B f fp) (hb : B ≤ B') : SG w wr P B' f fp := ⟨h.us, h.inv, h.rng, by have := h.few; omega, h.bel⟩
theorem SG.far {w wr : World} {P B : Nat} {f : F} {fp : List Nat} (h : SG w wr P B f fp) {a : Option Addr} {len : Nat} {v : List Int} (hv : Vw w a len v) : ∀ ad, a = some ad → 0 < len → ad.block ∉ fp := fun ad e q z => by
  obtain ⟨b, off, e', hlt, _⟩ := hv.2 q
  rw [e'] at e
  cases e
  have h1 := (h.us.fp _ z).1
  have h' : b < w.heap.size := hlt
  have h'' : w.heap.size ≤ b := h1
  omega
def ST (w wr : World) (P B : Nat) : Prop := ∃ f fp, SG w wr P B f fp
theorem ST.later {w wr w' : World} {P B : Nat} (h : ST w wr P B) (hb : Below wr.heap.size wr w') : ST w w' P B := by
  obtain ⟨f, fp, h⟩ := h
  exact ⟨f, fp, h.later hb⟩
theorem stSay {w wr : World} {P B : Nat} (h : ST w wr P B) (who word : Int) : Calls Try.prog 6 #[.pointer (some ⟨P, 0, none⟩), .int .i64 who, .int .i64 word] wr fun x w' => ∃ v, x = .returned v ∧ ST w w' P (B + 1) := by
  obtain ⟨f, fp, h⟩ := h
  refine (sayU w.heap.size P f fp who word wr h.us h.inv h.bel.size).mono ?_
  rintro x w' ⟨fp', rfl, hA, hb, _, _⟩
  exact ⟨_, rfl, _, fp', hA, h.inv.say who word, h.rng.say who word, by rw [say_v]; have := h.few; omega, h.bel.trans hb⟩
theorem stGive {w wr : World} {P B : Nat} (h : ST w wr P B) (who word : Int) : Calls Try.prog 9 #[.pointer (some ⟨P, 0, none⟩), .int .i64 who, .int .i64 word] wr fun x w' => ∃ v, x = .returned v ∧ ST w w' P (B + 1) := by
  obtain ⟨f, fp, h⟩ := h
  refine (giveU w.heap.size P f fp who word wr h.us h.inv h.bel.size).mono ?_
  rintro x w' ⟨fp', rfl, hA, hb, _, _⟩
  exact ⟨_, rfl, _, fp', hA, h.inv.give who word, h.rng.give who word, by rw [give_v]; have := h.few; omega, h.bel.trans hb⟩
def R3s (wo wz : World) : Prop := ∃ f : Nat → Int, wz.rowIs wo.heap.size 36 3 (fun t => .int .i64 (f t)) ∧ Below wo.heap.size wo wz
theorem sl2u (w : World) (x y : Int) : Sl (w.alloc (.cells #[.int .i64 x, .int .i64 y] 3)) (.slice (some ⟨w.heap.size, 0, none⟩) 2 2) [x, y] := by
  have r := World.rowIs_alloc w #[.int .i64 x, .int .i64 y] 3 (fun i => .int .i64 ([x, y].getD i 0)) (fun i hi => by rcases i with _ | _ | i <;> first | rfl | (exfalso; have : _ < 2 := hi; omega))
  exact ⟨some ⟨w.heap.size, 0, none⟩, 2, rfl, Nat.le_refl _, by decide, rfl, fun _ => ⟨w.heap.size, 0, rfl, by simp, fun k hk => by rw [Nat.zero_add]; exact World.rowIs.cell r hk⟩⟩
abbrev Owl (w : World) (base : Nat) (v : Value) (l : List Int) : Prop := w.ownsRow base 3 1 v l.length (l.map (Value.int .i64))
theorem own_see {w : World} {base c : Nat} {t : TypeId} {q : Option Addr} {n : Nat} {l : List Int} (h : w.ownsRow base t 1 (.slice q n c) n (l.map (Value.int .i64))) : Vw w q n l := by
  obtain ⟨a, cap, e, hv⟩ := Fif.own_vw h
  injection e with e1 _ _
  rw [e1]
  exact hv
theorem vw_keep {w w' : World} {a : Option Addr} {len : Nat} {l : List Int} (h : Vw w a len l) (hs : w.heap.size ≤ w'.heap.size) (hk : ∀ ad, a = some ad → 0 < len → w'.heap[ad.block]? = w.heap[ad.block]?) : Vw w' a len l := by
  refine ⟨h.1, fun q => ?_⟩
  obtain ⟨b, off, e, hlt, hc⟩ := h.2 q
  have eb := hk _ e q
  exact ⟨b, off, e, Nat.lt_of_lt_of_le hlt hs, fun k hk => (World.cell?_of_block (a := ⟨b, off + k, none⟩) eb).trans (hc k hk)⟩
/-- all that one heard so far, and what it heard in this view -/
structure LA (wm wr : World) (v : Value) (f : F) (m k j : Nat) (q9 : Option Addr) (l9 : Nat) : Prop where
  own : Owl wr wm.heap.size v (alT f m k j)
  seen : Vw wr q9 l9 (f.hd k m)
  far : ∀ ad, q9 = some ad → 0 < l9 → v.ownBlock ≠ some ad.block
  bel : Below wm.heap.size wm wr
theorem LA.step {wm wr w4 : World} {q5 q9 : Option Addr} {ll cap5 g1 k1 m k j l9 : Nat} {f : F} {z : Int} {ob : Obj} (h : LA wm wr (.slice q5 ll cap5) f m k j q9 l9) (ell : ll = (alT f m k j).length) (hj : j < (f.hd k m).length) (ez : z = (f.hd k m).getD j 0) (hg : (wr.alloc ob).grownBy w4 (Value.slice q5 ll cap5).ownBlock) (ho : w4.ownsRow wm.heap.size 3 1 (.slice (some ⟨g1, 0, none⟩) (ll + 1) k1) (ll + 1) ((alT f m k j).map (Value.int .i64) ++ [.int .i64 z])) (hl : (Value.slice q5 ll cap5).ownBlock = some g1 ∨ g1 = wr.heap.size + 1) : LA wm w4 (.slice (some ⟨g1, 0, none⟩) (ll + 1) k1) f m k (j + 1) q9 l9 := by
  have hk : ∀ b, b < wr.heap.size → (Value.slice q5 ll cap5).ownBlock ≠ some b → w4.heap[b]? = wr.heap[b]? := fun b hb hne => (hg.block b (by simp; omega) (fun e => hne e.symm)).trans (Below.heap_alloc _ _ _ hb)
  have hs : wr.heap.size ≤ w4.heap.size := by
    have := hg.size
    simp at this
    omega
  refine ⟨?_, vw_keep h.seen hs fun ad e q => ?_, fun ad e q e2 => ?_, (h.bel.alloc h.bel.size ob).grown hg (by have := h.bel.size; simp; omega) fun b hb => (own_lt h.own b hb).1⟩
  · show World.ownsRow _ _ _ _ _ _ _
    rw [alT_step hj, ← ez, List.length_append, List.map_append, ← ell]
    exact ho
  · obtain ⟨b, off, e', hlt, _⟩ := h.seen.2 q
    rw [e'] at e
    cases e
    exact hk b hlt (h.far _ e' q)
  · obtain ⟨b, off, e', hlt, _⟩ := h.seen.2 q
    rw [e'] at e
    cases e
    have e3 : g1 = b := by simpa [Value.ownBlock] using e2
    rcases hl with a | a
    · exact h.far _ e' q (by rw [a, e3])
    · have hlt' : b < wr.heap.size := hlt
      omega
set_option maxRecDepth 100000 in
set_option maxHeartbeats 4000000 in
theorem same_bad (n : Int) (a : Option Addr) (len cap : Nat) (b : Option Addr) (len' cap' : Nat) (w : World) (h : n < 2 ∨ 5 < n) : Calls Try.prog 3 #[.int .i64 n, .slice a len cap, .slice b len' cap'] w fun e w' => e = .returned (.bool true) ∧ Below w.heap.size w w' := by
  have HN : Hid (n < 2 ∨ 5 < n) := h
  clear h
  go_enter Try.func3, Try.ntmps3
  go_wp2_with fail
  refine (newU_ok 2 (by omega) (by omega) w).mono ?_
  rintro e x1 ⟨P1, fp1, rfl, hA, hb⟩
  have A1 : Hid (UO w x1 P1 (start 2) fp1) := ⟨hA, hb⟩
  clear hA hb
  go_wp2_with fail
  refine (sayU w.heap.size P1 (start 2) fp1 0 6 x1 A1.out.us (Inv.start (by omega) (by omega)) A1.out.bel.size).mono ?_
  rintro e x2 ⟨fp2, rfl, hA, hb, _, _⟩
  rw [k_fact.1, errF_ok]
  have A2 : Hid (UO w x2 P1 k1 fp2) := ⟨hA, A1.out.bel.trans hb⟩
  clear hA hb A1
  obtain ⟨X2, eX2⟩ : ∃ X2, X2 = x2.alloc (.cells #[.int .i64 0, .int .i64 1] 3) := ⟨_, rfl⟩
  have A3 : Hid (UO w X2 P1 k1 fp2 ∧ Sl X2 (.slice (some ⟨x2.heap.size, 0, none⟩) 2 2) [0, 1]) := by rw [eX2]; exact ⟨A2.out.later (below_alu _ _), sl2u x2 0 1⟩
  go_wp2_with fail
  rw [← eX2]
  clear eX2
  refine (changeU w.heap.size P1 k1 fp2 [0, 1] (some ⟨x2.heap.size, 0, none⟩) 2 2 X2 A3.out.1.us kI1 A3.out.1.bel.size A3.out.2 (fun ad e _ q => by cases e; exact Nat.lt_irrefl _ (A2.out.us.fp _ q).2) (by rw [k_fact.2.2.2.2.1]; decide)).mono ?_
  rintro e x3 ⟨q3, c3, fp3, rfl, _, _, hA, hb, _, _⟩
  rw [k_fact.2.1, errF_ok, k_fact.2.2.2.2.2.2.1, k_fact.2.2.2.2.2.2.2]
  have len2 : ([0, 1] : List Int).length = 2 := rfl
  rw [len2]
  have A4 : Hid (UO w x3 P1 k2 fp3) := ⟨hA, A3.out.1.bel.trans hb⟩
  clear hA hb A3 A2 len2
  obtain ⟨X3, eX3⟩ : ∃ X3, X3 = x3.alloc (.cells #[.int .i64 1, .slice q3 2 c3] 31) := ⟨_, rfl⟩
  have A5 : Hid (UO w X3 P1 k2 fp3) := by rw [eX3]; exact A4.out.later (below_alu _ _)
  go_wp2_with fail
  rw [← eX3]
  clear eX3 A4
  refine (heardU w.heap.size P1 k2 fp3 1 0 X3 A5.out.us kI2 (by rw [k_fact.2.2.2.2.2.1]; decide)).mono ?_
  rintro e x4 ⟨q4, c4, rfl, hs, _, hb⟩
  rw [k_fact.2.2.1, errF_ok, k_fact.2.2.2.1]
  rw [k_fact.2.2.2.1] at hs
  obtain ⟨_, hv4, _, _⟩ := sl_vw hs
  obtain ⟨b4, o4, rfl, _, hc4⟩ := hv4.2 (by decide)
  have f4 : x4.cell? ⟨b4, o4, none⟩ = some (.int .i64 6) := hc4 0 (by decide)
  have l1 : ([6] : List Int).length = 1 := rfl
  rw [l1]
  have B5 : Hid (Below w.heap.size w x4) := A5.out.bel.trans (hb.mono A5.out.bel.size)
  clear hs hb hv4 hc4 l1 A5
  go_wp2_with fail
  refine (newU_no n HN.out x4).mono ?_
  rintro e x5 ⟨rfl, hb⟩
  rw [errF_no (by decide)]
  have B6 : Hid (Below w.heap.size w x5) := B5.out.trans (hb.mono B5.out.size)
  clear hb f4
  go_wp2
  go_ret
  exact ⟨rfl, B6.out⟩
set_option maxRecDepth 100000 in
set_option maxHeartbeats 8000000 in
theorem same_ok (n : Nat) (a : Option Addr) (len cap : Nat) (ls : List (List Int)) (b : Option Addr) (len' cap' : Nat) (ms : List (List Int)) (w : World) (hR : Rw w a len ls) (hR' : Rs w b len' ms) (h2 : 2 ≤ n) (h5 : n ≤ 5) : Calls Try.prog 3 #[.int .i64 (n : Int), .slice a len cap, .slice b len' cap'] w fun e w' => e = .returned (.bool true) ∧ Below w.heap.size w w' := by
  have HL : Hid (Rw w a len ls ∧ Rs w b len' ms) := ⟨hR, hR'⟩
  have hlm : len ≤ maxLen := hR.2.1
  have hlm' : len' ≤ maxLen := hR'.2.1
  obtain ⟨ii, hii, hz0, hz1, hz2⟩ := info_int
  have HJ : Hid (Try.prog.info? 3 = some ii ∧ ii.zero = some (.int .i64 0) ∧ ii.size = 1 ∧ ii.bytes = 8) := ⟨hii, hz0, hz1, hz2⟩
  clear hR hR' hii hz0 hz1 hz2
  go_enter Try.func3, Try.ntmps3
  go_wp2_with fail
  refine (newU_ok 2 (by omega) (by omega) w).mono ?_
  rintro e x1 ⟨P1, fp1, rfl, hA, hb⟩
  have A1 : Hid (UO w x1 P1 (start 2) fp1) := ⟨hA, hb⟩
  clear hA hb
  go_wp2_with fail
  refine (sayU w.heap.size P1 (start 2) fp1 0 6 x1 A1.out.us (Inv.start (by omega) (by omega)) A1.out.bel.size).mono ?_
  rintro e x2 ⟨fp2, rfl, hA, hb, _, _⟩
  rw [k_fact.1, errF_ok]
  have A2 : Hid (UO w x2 P1 k1 fp2) := ⟨hA, A1.out.bel.trans hb⟩
  clear hA hb A1
  obtain ⟨X2, eX2⟩ : ∃ X2, X2 = x2.alloc (.cells #[.int .i64 0, .int .i64 1] 3) := ⟨_, rfl⟩
  have A3 : Hid (UO w X2 P1 k1 fp2 ∧ Sl X2 (.slice (some ⟨x2.heap.size, 0, none⟩) 2 2) [0, 1]) := by rw [eX2]; exact ⟨A2.out.later (below_alu _ _), sl2u x2 0 1⟩
  go_wp2_with fail
  rw [← eX2]
  clear eX2
  refine (changeU w.heap.size P1 k1 fp2 [0, 1] (some ⟨x2.heap.size, 0, none⟩) 2 2 X2 A3.out.1.us kI1 A3.out.1.bel.size A3.out.2 (fun ad e _ q => by cases e; exact Nat.lt_irrefl _ (A2.out.us.fp _ q).2) (by rw [k_fact.2.2.2.2.1]; decide)).mono ?_
  rintro e x3 ⟨q3, c3, fp3, rfl, _, _, hA, hb, _, _⟩
  rw [k_fact.2.1, errF_ok, k_fact.2.2.2.2.2.2.1, k_fact.2.2.2.2.2.2.2]
  have len2 : ([0, 1] : List Int).length = 2 := rfl
  rw [len2]
  have A4 : Hid (UO w x3 P1 k2 fp3) := ⟨hA, A3.out.1.bel.trans hb⟩
  clear hA hb A3 A2 len2
  obtain ⟨X3, eX3⟩ : ∃ X3, X3 = x3.alloc (.cells #[.int .i64 1, .slice q3 2 c3] 31) := ⟨_, rfl⟩
  have A5 : Hid (UO w X3 P1 k2 fp3) := by rw [eX3]; exact A4.out.later (below_alu _ _)
  go_wp2_with fail
  rw [← eX3]
  clear eX3 A4
  refine (heardU w.heap.size P1 k2 fp3 1 0 X3 A5.out.us kI2 (by rw [k_fact.2.2.2.2.2.1]; decide)).mono ?_
  rintro e x4 ⟨q4, c4, rfl, hs, _, hb⟩
  rw [k_fact.2.2.1, errF_ok, k_fact.2.2.2.1]
  rw [k_fact.2.2.2.1] at hs
  obtain ⟨_, hv4, _, _⟩ := sl_vw hs
  obtain ⟨b4, o4, rfl, _, hc4⟩ := hv4.2 (by decide)
  have f4 : x4.cell? ⟨b4, o4, none⟩ = some (.int .i64 6) := hc4 0 (by decide)
  have l1 : ([6] : List Int).length = 1 := rfl
  rw [l1]
  have B5 : Hid (Below w.heap.size w x4) := A5.out.bel.trans (hb.mono A5.out.bel.size)
  clear hs hb hv4 hc4 l1 A5
  go_wp2_with fail
  refine (newU_ok n h2 h5 x4).mono ?_
  rintro e x5 ⟨P, fp5, rfl, hA, hb⟩
  have C6 : Hid (ST w x5 P 0) := ⟨start n, fp5, hA.lower B5.out.size, Inv.start h2 h5, Rng.start n, Int.le_refl _, B5.out.trans (hb.mono B5.out.size)⟩
  clear hA hb f4 B5
  go_upto_block 0 with fail
  go_cut [15, 16, 17, 18, 19, 20, 21, 22, 23, 24, 25, 26, 27, 28, 29] from 83 to 235 (fun x15 x16 x17 x18 x19 x20 x21 x22 x23 x24 x25 x26 x27 x28 x29 wc => Hid (ST w wc P 120))
  case first =>
    go_wp2_with fail
    go_loopw [15, 16] (fun y x wr => ∃ t i : Nat, t ≤ i ∧ i ≤ len ∧ i ≤ 120 ∧ y = .int .i64 (t : Int) ∧ x = .int .i64 (i : Int) ∧ Hid (ST w wr P i)) (fun _ x _ => len - (intOf x).toNat)
    case atStart => exact ⟨0, 0, by omega, by omega, by omega, rfl, rfl, C6⟩
    case round =>
      obtain ⟨t, i, hti, hi, hi120, rfl, rfl, hC⟩ := hrel
      by_cases hgo : (i : Int) < (len : Int) ∧ (i : Int) < 120
      · obtain ⟨hil, hil2⟩ := hgo
        obtain ⟨wo, ewo⟩ : ∃ wo, wo = wr := ⟨_, rfl⟩
        subst ewo
        have hi0 : (0 : Int) ≤ (i : Int) := by omega
        have ht0 : (0 : Int) ≤ (t : Int) := by omega
        have BO : Hid (Below w.heap.size w wo) := by
          obtain ⟨_, _, z⟩ := hC.out
          exact z.bel
        obtain ⟨rb, ro, rfl, hrb, hrc⟩ := (HL.out.1.later BO.out).2.2 (by omega)
        obtain ⟨qi, ci, g0, hvi, hmi⟩ := hrc i (by omega)
        obtain ⟨li, eli⟩ : ∃ li, li = (ls.getD i []).length := ⟨_, rfl⟩
        rw [← eli] at g0 hvi hmi
        have XV : Hid (wo.cell? ⟨rb, ro + i, none⟩ = some (.slice qi li ci) ∧ rb < wo.heap.size ∧ Vw wo qi li (ls.getD i [])) := ⟨g0, hrb, hvi⟩
        have hmi2 : (li : Int) ≤ 9223372036854775807 := by unfold maxLen at hmi; omega
        clear hrc g0 hrb hvi hmi eli
        have A1 : Hid (R3s wo (wo.alloc (.cells #[.int .i64 0, .int .i64 0, .int .i64 0] 36))) := by
          refine ⟨fun _ => 0, ?_, (Below.refl _ _).alloc (Nat.le_refl _) _⟩
          exact World.rowIs_alloc wo #[.int .i64 0, .int .i64 0, .int .i64 0] 36 _ (fun t ht => by rcases t with _ | _ | _ | t <;> first | rfl | (exfalso; have : _ < 3 := ht; omega))
        go_upto_block 2 with fail
        go_cut [18] from 93 to 114 (fun x wc => Hid (R3s wo wc))
        case first =>
          as_aux_lemma =>
            go_wp2_with fail
            go_loopw [18] (fun y wz => ∃ j : Nat, j ≤ 3 ∧ y = .int .i64 (j : Int) ∧ Hid (R3s wo wz)) (fun y _ => 3 - (intOf y).toNat)
            case atStart => exact ⟨0, by omega, rfl, A1⟩
            case round =>
              obtain ⟨j, hj, rfl, hA⟩ := hrel
              have x0 : wr.cell? ⟨rb, ro + i, none⟩ = some (.slice qi li ci) := by
                obtain ⟨f, _, hb⟩ := hA.out
                exact (hb.cell (p := ⟨rb, ro + i, none⟩) XV.out.2.1).trans XV.out.1
              have hj0 : (0 : Int) ≤ (j : Int) := by omega
              by_cases hjl : (j : Int) < (li : Int) ∧ (j : Int) < 3
              · obtain ⟨hjl, hj3⟩ := hjl
                obtain ⟨f, hf, hb⟩ := hA.out
                obtain ⟨bi, oi, rfl, hlti, hci⟩ := XV.out.2.2.2 (by omega)
                have y0 := (hb.cell (p := ⟨bi, oi + j, none⟩) hlti).trans (hci j (by omega))
                have c0 := World.rowIs.cell hf (i := j) (by omega)
                have z0 := World.rowIs.frozen hf j
                obtain ⟨yv, ey⟩ : ∃ yv, yv = (ls.getD i []).getD j 0 := ⟨_, rfl⟩
                rw [← ey] at y0
                have FB : Hid (wr.rowIs wo.heap.size 36 3 (fun t => .int .i64 (f t)) ∧ Below wo.heap.size wo wr) := ⟨hf, hb⟩
                clear hf hb hci hlti ey hA
                go_wp2
                go_roundw
                case rel =>
                  refine ⟨j + 1, by omega, by go_num, fun t => if t = j then yv else f t, (World.rowIs.set FB.out.1 j _).congr fun t ht => ?_, FB.out.2.setCell (p := ⟨wo.heap.size, j, none⟩) (Nat.le_refl _) _⟩
                  by_cases e : t = j
                  · rw [if_pos e]; simp [e]
                  · rw [if_neg e]; simp [e]
                case measure => simp [intOf]; omega
              · rcases (show ((j : Int) < (li : Int) ∧ ¬ (j : Int) < 3) ∨ ¬ (j : Int) < (li : Int) by omega) with ⟨e1, e2⟩ | e1
                all_goals
                  go_wp2
                  go_meet
                  exact hA.out
        case rest =>
          obtain ⟨v, hf, hb⟩ := hcut.out
          obtain ⟨k0, ek0⟩ : ∃ k, k = v 0 := ⟨_, rfl⟩
          obtain ⟨k1, ek1⟩ : ∃ k, k = v 1 := ⟨_, rfl⟩
          obtain ⟨k2, ek2⟩ : ∃ k, k = v 2 := ⟨_, rfl⟩
          have y0 := World.rowIs.cell hf (i := 0) (by omega)
          have y1 := World.rowIs.cell hf (i := 1) (by omega)
          have y2 := World.rowIs.cell hf (i := 2) (by omega)
          rw [← ek0] at y0
          rw [← ek1] at y1
          rw [← ek2] at y2
          have CZ : Hid (ST w wc P i) := hC.out.later hb
          obtain ⟨w6, ew6⟩ : ∃ w6, w6 = wc := ⟨_, rfl⟩
          subst ew6
          clear hf hb ek0 ek1 ek2 hcut A1 XV hC BO hmi2
          by_cases q01 : k0 = 0 ∨ k0 = 1
          · skip
            rcases q01 with rfl | rfl
            all_goals
              go_wp2_with fail
              refine (stSay CZ.out k1 k2).mono ?_
              rintro e w7 ⟨vr, rfl, hc7⟩
              have C7 : Hid (ST w w7 P (i + 1)) := hc7
              clear hc7
              go_wp2
              go_roundw
              case rel => exact ⟨t, i + 1, by omega, by omega, by omega, rfl, by go_num, C7⟩
              case measure => simp [intOf]; omega
          · have q0 : (k0 == 0) = false := by rw [beq_eq_false_iff_ne]; omega
            have q1 : (k0 == 1) = false := by rw [beq_eq_false_iff_ne]; omega
            by_cases q25 : k0 = 2 ∨ k0 = 3 ∨ k0 = 4 ∨ k0 = 5
            · skip
              clear q01 q0 q1
              rcases q25 with rfl | rfl | rfl | rfl
              all_goals
                go_wp2_with fail
                refine (stGive CZ.out k1 k2).mono ?_
                rintro e w7 ⟨vr, rfl, hc7⟩
                have C7 : Hid (ST w w7 P (i + 1)) := hc7
                clear hc7
                go_wp2
                go_roundw
                case rel => exact ⟨t, i + 1, by omega, by omega, by omega, rfl, by go_num, C7⟩
                case measure => simp [intOf]; omega
            · have q2 : (k0 == 2) = false := by rw [beq_eq_false_iff_ne]; omega
              have q3 : (k0 == 3) = false := by rw [beq_eq_false_iff_ne]; omega
              have q4 : (k0 == 4) = false := by rw [beq_eq_false_iff_ne]; omega
              have q5 : (k0 == 5) = false := by rw [beq_eq_false_iff_ne]; omega
              clear q01 q25
              by_cases hts : (t : Int) ≥ (len' : Int)
              · go_wp2
                go_roundw
                case rel => exact ⟨t, i + 1, by omega, by omega, by omega, rfl, by go_num, by
                  obtain ⟨f, fp, z⟩ := CZ.out
                  exact ⟨f, fp, z.mono (by omega)⟩⟩
                case measure => simp [intOf]; omega
              · as_aux_lemma =>
                  have htl : (t : Int) < (len' : Int) := by omega
                  obtain ⟨f, fp, hG⟩ := CZ.out
                  have G6 : Hid (SG w w6 P i f fp) := hG
                  have IF : Hid (Inv f) := hG.inv
                  clear hG CZ y1 y2
                  obtain ⟨sb, so, rfl, hsb, hsc⟩ := HL.out.2.2.2 (by omega)
                  obtain ⟨qt, ct, gt, hst⟩ := hsc t (by omega)
                  obtain ⟨has, ehas⟩ : ∃ has, has = ms.getD t [] := ⟨_, rfl⟩
                  rw [← ehas] at gt hst
                  obtain ⟨lt, elt⟩ : ∃ lt, lt = has.length := ⟨_, rfl⟩
                  rw [← elt] at gt hst
                  have HT : Hid (w.cell? ⟨sb, so + t, none⟩ = some (.slice qt lt ct) ∧ sb < w.heap.size ∧ Sl w (.slice qt lt ct) has) := ⟨gt, hsb, hst⟩
                  clear hsc hsb gt hst ehas elt
                  go_wp2_with fail
                  refine (viewU w.heap.size P f fp w6 G6.out.us G6.out.inv).mono ?_
                  rintro e w7 ⟨q7, c7, rfl, hs7, hn7, hb7⟩
                  obtain ⟨nv, env⟩ : ∃ nv, nv = f.v.n := ⟨_, rfl⟩
                  obtain ⟨l7, el7⟩ : ∃ l7, l7 = f.v.has.length := ⟨_, rfl⟩
                  rw [← el7] at hs7 hn7
                  rw [← env, ← el7]
                  have hnv : 0 ≤ nv ∧ nv ≤ 120 := by have := G6.out.inv.n0; have := G6.out.few; rw [env]; omega
                  have EV : Hid (nv = f.v.n ∧ l7 = f.v.has.length) := ⟨env, el7⟩
                  obtain ⟨W8, eW8⟩ : ∃ W8, W8 = w7.alloc (.cells #[.int .i64 nv, .slice q7 l7 c7] 31) := ⟨_, rfl⟩
                  obtain ⟨O, eO⟩ : ∃ O, O = w7.heap.size := ⟨_, rfl⟩
                  have G8 : Hid (SG w W8 P i f fp ∧ Sl W8 (.slice q7 l7 c7) f.v.has ∧ W8.cell? ⟨O, 0, none⟩ = some (.int .i64 nv) ∧ W8.cell? ⟨O, 1, none⟩ = some (.slice q7 l7 c7) ∧ O < W8.heap.size ∧ O ∉ fp ∧ (∀ ad, q7 = some ad → 0 < l7 → ad.block ∉ fp)) := by
                    have b8 : Below w7.heap.size w7 W8 := by rw [eW8]; exact below_alu _ _
                    have hv := view_cells w7 nv (.slice q7 l7 c7)
                    rw [← eW8, ← eO] at hv
                    refine ⟨(G6.out.later hb7).later b8, hs7.later b8, hv.1, hv.2, by rw [eW8, eO]; simp, fun q => ?_, fun ad e q z => ?_⟩
                    · have h1 := (G6.out.us.fp _ q).2
                      have h2 := hb7.size
                      omega
                    · have h1 := (G6.out.us.fp _ z).2
                      have h2 := hn7 ad e q
                      omega
                  have gt8 : W8.cell? ⟨sb, so + t, none⟩ = some (.slice qt lt ct) := (G8.out.1.bel.cell (p := ⟨sb, so + t, none⟩) HT.out.2.1).trans HT.out.1
                  clear hs7 hn7 hb7 env el7 G6
                  go_upto_region 23 with fail
                  rw [← eW8, ← eO]
                  clear eW8 eO
                  go_wp2_with fail
                  refine (changeU w.heap.size P f fp has qt lt ct W8 G8.out.1.us G8.out.1.inv G8.out.1.bel.size (HT.out.2.2.later G8.out.1.bel) (G8.out.1.far (sl_vw HT.out.2.2).2.1) (by rw [← EV.out.1]; omega)).mono ?_
                  rintro e w9 ⟨q9, c9, f9, rfl, hs9, hn9, hA9, hb9, hk9, hw9⟩
                  have K9 : Hid (Sl w9 (.slice q7 l7 c7) f.v.has ∧ w9.cell? ⟨O, 0, none⟩ = some (.int .i64 nv) ∧ w9.cell? ⟨O, 1, none⟩ = some (.slice q7 l7 c7) ∧ O < w9.heap.size) := by
                    have eb := hk9.2 O G8.out.2.2.2.2.1 G8.out.2.2.2.2.2.1
                    refine ⟨sl_block G8.out.2.1 hk9.1 fun ad e q => ?_, (World.cell?_of_block (a := ⟨O, 0, none⟩) eb).trans G8.out.2.2.1, (World.cell?_of_block (a := ⟨O, 1, none⟩) eb).trans G8.out.2.2.2.1, Nat.lt_of_lt_of_le G8.out.2.2.2.2.1 hk9.1⟩
                    obtain ⟨bb, oo, e', hlt, _⟩ := (sl_vw G8.out.2.1).2.1.2 q
                    rw [e'] at e
                    cases e
                    exact hk9.2 bb hlt (G8.out.2.2.2.2.2.2 _ e' q)
                  have G9 : Hid (SG w w9 P (i + 1) (change f has) f9) := ⟨hA9, G8.out.1.inv.change has, G8.out.1.rng.change G8.out.1.inv has, by have := change_n G8.out.1.inv has; have := G8.out.1.few; omega, G8.out.1.bel.trans hb9⟩
                  clear hs9 hn9 hA9 hb9 hk9 hw9 gt8
                  obtain ⟨n9, en9⟩ : ∃ n9, n9 = (nextV f.v has).n := ⟨_, rfl⟩
                  obtain ⟨l9, el9⟩ : ∃ l9, l9 = (nextV f.v has).has.length := ⟨_, rfl⟩
                  rw [← en9, ← el9]
                  clear en9 el9
                  obtain ⟨W10, eW10⟩ : ∃ W10, W10 = w9.alloc (.cells #[.int .i64 n9, .slice q9 l9 c9] 31) := ⟨_, rfl⟩
                  have G10 : Hid (SG w W10 P (i + 1) (change f has) f9 ∧ Sl W10 (.slice q7 l7 c7) f.v.has ∧ W10.cell? ⟨O, 0, none⟩ = some (.int .i64 nv) ∧ W10.cell? ⟨O, 1, none⟩ = some (.slice q7 l7 c7) ∧ O < W10.heap.size) := by
                    have b := below_alu w9 (.cells #[.int .i64 n9, .slice q9 l9 c9] 31)
                    rw [← eW10] at b
                    exact ⟨G9.out.later b, K9.out.1.later b, (b.cell (p := ⟨O, 0, none⟩) K9.out.2.2.2).trans K9.out.2.1, (b.cell (p := ⟨O, 1, none⟩) K9.out.2.2.2).trans K9.out.2.2.1, Nat.lt_of_lt_of_le K9.out.2.2.2 b.size⟩
                  clear G8 G9 K9
                  have ht120 : (t : Int) < 120 := by omega
                  by_cases hc : chC f has = 0
                  · skip
                    rw [hc, errF_ok]
                    obtain ⟨f', ef'⟩ : ∃ f', f' = turn f has := ⟨_, rfl⟩
                    have EF : Hid (f' = turn f has ∧ Inv f ∧ chC f has = 0 ∧ f'.v.n = nv + 1 ∧ f'.v.has = has ∧ (∀ x, x ∈ stay f has → hdC f' x nv = 0 ∧ (hdL f' x nv).length ≤ 30) ∧ ∀ x y, x ∈ stay f has → y ∈ stay f has → (hdL f' x nv).length = (hdL f' y nv).length ∧ ∀ z, z ∈ hdL f' x nv ↔ z ∈ hdL f' y nv) := by
                      have hI := G10.out.1.inv
                      have hRg := G10.out.1.rng
                      rw [change_ok hc] at hI hRg
                      refine ⟨ef', IF.out, hc, by rw [ef', EV.out.1]; rfl, by rw [ef']; rfl, fun x hx => ?_, fun x y hx hy => ?_⟩
                      · rw [ef', EV.out.1]
                        refine ⟨(heard_stay IF.out hx).1, ?_⟩
                        rw [(heard_stay IF.out hx).2]
                        exact hd_len hI hRg _ _
                      · rw [ef', EV.out.1]
                        exact same_two IF.out hc hx hy
                    obtain ⟨z1, z2, z3, z4⟩ := both_stay IF.out hc
                    have BS : Hid (Viw.bothC f.v (nextV f.v has) = 0 ∧ Viw.bothL f.v (nextV f.v has) = stay f has ∧ nextV f.v has = f'.v) := ⟨z1, z2, by rw [ef', Viw.next_is hc]; rfl⟩
                    obtain ⟨lb, elb⟩ : ∃ lb, lb = (stay f has).length := ⟨_, rfl⟩
                    rw [← elb] at z3 z4
                    have GY : Hid (SG w W10 P (i + 1) f' f9) := by have z := G10.out.1; rw [change_ok hc, ← ef'] at z; exact z
                    have LB : Hid (lb = (stay f has).length) := elb
                    clear hc ef' z1 z2 elb
                    go_upto_region 28 with fail
                    rw [← eW10]
                    clear eW10
                    go_wp2_with fail
                    refine (viewU w.heap.size P f' f9 W10 GY.out.us GY.out.inv).mono ?_
                    rintro e w11 ⟨q11, c11, rfl, hs11, hn11, hb11⟩
                    obtain ⟨l11, el11⟩ : ∃ l11, l11 = f'.v.has.length := ⟨_, rfl⟩
                    rw [← el11] at hs11
                    rw [← el11, EF.out.2.2.2.1]
                    obtain ⟨W12, eW12⟩ : ∃ W12, W12 = w11.alloc (.cells #[.int .i64 (nv + 1), .slice q11 l11 c11] 31) := ⟨_, rfl⟩
                    obtain ⟨O2, eO2⟩ : ∃ O2, O2 = w11.heap.size := ⟨_, rfl⟩
                    have G12 : Hid (SG w W12 P (i + 1) f' f9 ∧ Sl W12 (.slice q7 l7 c7) f.v.has ∧ Sl W12 (.slice q11 l11 c11) f'.v.has ∧ O < W12.heap.size ∧ O2 < W12.heap.size) := by
                      have b := below_alu w11 (.cells #[.int .i64 (nv + 1), .slice q11 l11 c11] 31)
                      rw [← eW12] at b
                      exact ⟨(GY.out.later hb11).later b, (G10.out.2.1.later hb11).later b, hs11.later b, Nat.lt_of_lt_of_le (Nat.lt_of_lt_of_le G10.out.2.2.2.2 hb11.size) b.size, by rw [eO2, eW12]; simp⟩
                    have o0 : W12.cell? ⟨O, 0, none⟩ = some (.int .i64 nv) := by
                      have b := below_alu w11 (.cells #[.int .i64 (nv + 1), .slice q11 l11 c11] 31)
                      rw [← eW12] at b
                      exact (b.cell (p := ⟨O, 0, none⟩) (Nat.lt_of_lt_of_le G10.out.2.2.2.2 hb11.size)).trans ((hb11.cell (p := ⟨O, 0, none⟩) G10.out.2.2.2.2).trans G10.out.2.2.1)
                    have o1 : W12.cell? ⟨O, 1, none⟩ = some (.slice q7 l7 c7) := by
                      have b := below_alu w11 (.cells #[.int .i64 (nv + 1), .slice q11 l11 c11] 31)
                      rw [← eW12] at b
                      exact (b.cell (p := ⟨O, 1, none⟩) (Nat.lt_of_lt_of_le G10.out.2.2.2.2 hb11.size)).trans ((hb11.cell (p := ⟨O, 1, none⟩) G10.out.2.2.2.2).trans G10.out.2.2.2.1)
                    have p0 : W12.cell? ⟨O2, 0, none⟩ = some (.int .i64 (nv + 1)) := by rw [eW12, eO2]; exact (view_cells _ _ _).1
                    have p1 : W12.cell? ⟨O2, 1, none⟩ = some (.slice q11 l11 c11) := by rw [eW12, eO2]; exact (view_cells _ _ _).2
                    clear hs11 hn11 hb11 el11 GY G10
                    go_upto_region 29 with fail
                    rw [← eW12, ← eO2]
                    clear eW12 eO2
                    go_wp2_with fail
                    refine (bothAt (v := f.v) (v' := f'.v) EV.out.1 EF.out.2.2.2.1.symm G12.out.2.1 G12.out.2.2.1).mono ?_
                    rintro e w13 ⟨lb', qb, cb, rfl, hlb, hsb, hb13⟩
                    rw [← BS.out.2.2, BS.out.1, errF_ok]
                    have elb : lb' = lb := by rw [hlb.out, ← BS.out.2.2, BS.out.2.1, ← LB.out]
                    rw [elb] at hsb ⊢
                    rw [← BS.out.2.2, BS.out.2.1] at hsb
                    have G13 : Hid (SG w w13 P (i + 1) f' f9 ∧ Vw w13 qb lb (stay f has)) := ⟨G12.out.1.later hb13, (sl_vw hsb).2.1⟩
                    have r0 : w13.cell? ⟨O, 0, none⟩ = some (.int .i64 nv) := (hb13.cell (p := ⟨O, 0, none⟩) G12.out.2.2.2.1).trans o0
                    have r1 : w13.cell? ⟨O2, 0, none⟩ = some (.int .i64 (nv + 1)) := (hb13.cell (p := ⟨O2, 0, none⟩) G12.out.2.2.2.2).trans p0
                    have hO : O < w13.heap.size := Nat.lt_of_lt_of_le G12.out.2.2.2.1 hb13.size
                    have d1 : (nv + 1 != nv + 1) = false := by simp
                    have d2 : ((lb : Int) == 0) = false := by rw [beq_eq_false_iff_ne]; omega
                    clear hlb hsb hb13 elb o0 o1 p0 p1 G12 lb'
                    obtain ⟨bb, bo, rfl, hbb, hbc⟩ := G13.out.2.2 (by omega)
                    obtain ⟨x0, ex0⟩ : ∃ x0, x0 = (stay f has).getD 0 0 := ⟨_, rfl⟩
                    have hx0 : x0 ∈ stay f has := by
                      have hl : 0 < (stay f has).length := by rw [← LB.out]; exact z3
                      rw [ex0, List.getD, List.getElem?_eq_getElem hl]
                      exact List.getElem_mem hl
                    have s0 : w13.cell? ⟨bb, bo, none⟩ = some (.int .i64 x0) := by rw [ex0]; exact hbc 0 z3
                    have HX : Hid (x0 ∈ stay f has) := hx0
                    have HS : Hid (∀ X : World, (∀ k, k < w13.heap.size → X.heap[k]? = w13.heap[k]?) → X.cell? ⟨O, 0, none⟩ = some (.int .i64 nv) ∧ X.cell? ⟨bb, bo, none⟩ = some (.int .i64 x0)) := fun X hX => ⟨(World.cell?_of_block (a := ⟨O, 0, none⟩) (hX O hO)).trans r0, (World.cell?_of_block (a := ⟨bb, bo, none⟩) (hX bb hbb)).trans s0⟩
                    have HBC : Hid (∀ k, k < lb → w13.cell? ⟨bb, bo + k, none⟩ = some (.int .i64 ((stay f has).getD k 0))) := hbc
                    clear hbc ex0 hx0
                    go_upto_region 32 with fail
                    clear r1 d1 d2
                    go_region_held3 (fun X => X.cell? ⟨O, 0, none⟩ = some (.int .i64 nv) ∧ X.cell? ⟨bb, bo, none⟩ = some (.int .i64 x0)) (first | exact HS.out _ (fun _ _ => rfl) | exact HS.out _ (fun k hk => H14.out.2.1.block k hk)) (first
                      | (go_at_call 8; refine (heardU w.heap.size P f' f9 x0 nv _ (by exact G13.out.1.us.of_blocks (Nat.le_refl _) fun _ _ => rfl) G13.out.1.inv (by rw [EF.out.2.2.2.1]; omega)).mono ?_; rintro e14 w14 ⟨q14, c14, rfl, hs14, _, hb14⟩; rw [(EF.out.2.2.2.2.2.1 x0 HX.out).1, errF_ok]; obtain ⟨lx, elx⟩ : ∃ lx, lx = (hdL f' x0 nv).length := ⟨_, rfl⟩; rw [← elx] at hs14; rw [← elx]; have hlx : lx ≤ 30 := (by rw [elx]; exact (EF.out.2.2.2.2.2.1 x0 HX.out).2); have H14 : Hid (Sl w14 (.slice q14 lx c14) (hdL f' x0 nv) ∧ Below w13.heap.size w13 w14 ∧ lx = (hdL f' x0 nv).length) := ⟨hs14, below_same hb14 rfl rfl rfl rfl, elx⟩; clear hs14 hb14 elx))
                    have G14 : Hid (SG w w14 P (i + 1) f' f9 ∧ Vw w14 q14 lx (hdL f' x0 nv)) := ⟨G13.out.1.later H14.out.2.1, (sl_vw H14.out.1).2.1⟩
                    go_wp2_with fail
                    go_loopw [25] (fun x wr => ∃ k : Nat, 1 ≤ k ∧ k ≤ lb ∧ x = .int .i64 (k : Int) ∧ Hid (Below w14.heap.size w14 wr)) (fun x _ => lb - (intOf x).toNat)
                    case atStart => exact ⟨1, by omega, by omega, rfl, Below.refl _ _⟩
                    case round =>
                      obtain ⟨k, hk1, hkb, rfl, hB⟩ := hrel
                      by_cases hkl : k < lb
                      · have hkl' : (k : Int) < (lb : Int) := by omega
                        have hk0 : (0 : Int) ≤ (k : Int) := by omega
                        obtain ⟨wk, ewk⟩ : ∃ wk, wk = wr := ⟨_, rfl⟩
                        subst ewk
                        have hw : Below w13.heap.size w13 wk := H14.out.2.1.trans (hB.out.mono H14.out.2.1.size)
                        obtain ⟨y0, ey0⟩ : ∃ y0, y0 = (stay f has).getD k 0 := ⟨_, rfl⟩
                        have HY : Hid (y0 ∈ stay f has) := by
                          have hl : k < (stay f has).length := by rw [← LB.out]; exact hkl
                          show y0 ∈ stay f has
                          rw [ey0, List.getD, List.getElem?_eq_getElem hl]
                          exact List.getElem_mem hl
                        have t0 : wk.cell? ⟨O, 0, none⟩ = some (.int .i64 nv) := (hw.cell (p := ⟨O, 0, none⟩) hO).trans r0
                        have t1 : wk.cell? ⟨bb, bo + k, none⟩ = some (.int .i64 y0) := by rw [ey0]; exact (hw.cell (p := ⟨bb, bo + k, none⟩) hbb).trans (HBC.out k hkl)
                        have hO' : O < wk.heap.size := Nat.lt_of_lt_of_le hO hw.size
                        have hbb' : bb < wk.heap.size := Nat.lt_of_lt_of_le hbb hw.size
                        have HT2 : Hid (∀ X : World, (∀ j, j < wk.heap.size → X.heap[j]? = wk.heap[j]?) → X.cell? ⟨O, 0, none⟩ = some (.int .i64 nv) ∧ X.cell? ⟨bb, bo + k, none⟩ = some (.int .i64 y0)) := fun X hX => ⟨(World.cell?_of_block (a := ⟨O, 0, none⟩) (hX O hO')).trans t0, (World.cell?_of_block (a := ⟨bb, bo + k, none⟩) (hX bb hbb')).trans t1⟩
                        have Gk : Hid (SG w wk P (i + 1) f' f9 ∧ Vw wk q14 lx (hdL f' x0 nv)) := ⟨G14.out.1.later hB.out, G14.out.2.later hB.out⟩
                        have HW : Hid (Below w13.heap.size w13 wk) := hw
                        clear ey0 hw t0 t1 hO' hbb'
                        go_wp2_with fail
                        go_region_held3 (fun X => X.cell? ⟨O, 0, none⟩ = some (.int .i64 nv) ∧ X.cell? ⟨bb, bo + k, none⟩ = some (.int .i64 y0)) (first | exact HT2.out _ (fun _ _ => rfl) | exact HT2.out _ (fun j hj => H15.out.2.1.block j hj)) (first
                          | (go_at_call 8; refine (heardU w.heap.size P f' f9 y0 nv _ (by exact Gk.out.1.us.of_blocks (Nat.le_refl _) fun _ _ => rfl) Gk.out.1.inv (by rw [EF.out.2.2.2.1]; omega)).mono ?_; rintro e15 w15 ⟨q15, c15, rfl, hs15, _, hb15⟩; rw [(EF.out.2.2.2.2.2.1 y0 HY.out).1, errF_ok]; have ely : (hdL f' y0 nv).length = lx := (by rw [H14.out.2.2]; exact (EF.out.2.2.2.2.2.2 y0 x0 HY.out HX.out).1); rw [ely] at hs15; rw [ely]; have H15 : Hid (Sl w15 (.slice q15 lx c15) (hdL f' y0 nv) ∧ Below wk.heap.size wk w15 ∧ (hdL f' y0 nv).length = lx) := ⟨hs15, below_same hb15 rfl rfl rfl rfl, ely⟩; clear hs15 hb15 ely))
                        have d3 : ((lx : Int) != (lx : Int)) = false := by simp
                        have V15 : Hid (Vw w15 q14 lx (hdL f' x0 nv) ∧ Vw w15 q15 lx (hdL f' y0 nv)) := ⟨Gk.out.2.later H15.out.2.1, (sl_vw H15.out.1).2.1⟩
                        go_wp2_with fail
                        go_loopw [28] (fun x wz => ∃ j : Nat, j ≤ lx ∧ x = .int .i64 (j : Int) ∧ wz = w15) (fun x _ => lx - (intOf x).toNat)
                        case atStart => exact ⟨0, by omega, rfl, rfl⟩
                        case round =>
                          obtain ⟨j, hj, rfl, hwz⟩ := hrel
                          obtain ⟨wz, ewz⟩ : ∃ wz, wz = wr := ⟨_, rfl⟩
                          subst ewz
                          subst hwz
                          by_cases hjl : j < lx
                          · have hjl' : (j : Int) < (lx : Int) := by omega
                            have hj0 : (0 : Int) ≤ (j : Int) := by omega
                            obtain ⟨b5, o5, rfl, hb5, hc5⟩ := V15.out.2.2 (by omega)
                            have u0 := hc5 j hjl
                            obtain ⟨z, ez⟩ : ∃ z, z = (hdL f' y0 nv).getD j 0 := ⟨_, rfl⟩
                            rw [← ez] at u0
                            have HZ : Hid ((hdL f' x0 nv).contains z = true) := by
                              have hl : j < (hdL f' y0 nv).length := by rw [H15.out.2.2]; exact hjl
                              show (hdL f' x0 nv).contains z = true
                              refine List.contains_iff_mem.2 ?_
                              refine ((EF.out.2.2.2.2.2.2 x0 y0 HX.out HY.out).2 z).2 ?_
                              rw [ez, List.getD, List.getElem?_eq_getElem hl]
                              exact List.getElem_mem hl
                            clear hc5 ez hb5
                            go_wp2_with fail
                            refine (refIn q14 lx c14 (hdL f' x0 nv) z wz V15.out.1 (by omega)).mono ?_
                            rintro e wz ⟨rfl, rfl⟩
                            rw [HZ.out]
                            go_wp2
                            go_roundw
                            case rel => exact ⟨j + 1, by omega, by go_num, by first | rfl | trivial⟩
                            case measure => simp [intOf]; omega
                          · have hjl' : ¬ (j : Int) < (lx : Int) := by omega
                            go_wp2
                            go_roundw
                            case rel => exact ⟨k + 1, by omega, by omega, by go_num, hB.out.trans (H15.out.2.1.mono hB.out.size)⟩
                            case measure => simp [intOf]; omega
                      · have hkl' : ¬ (k : Int) < (lb : Int) := by omega
                        have GE : Hid (SG w wr P (i + 1) f' f9) := G14.out.1.later hB.out
                        go_wp2
                        go_roundw
                        case rel => exact ⟨t + 1, i + 1, by omega, by omega, by omega, by go_num, by go_num, f', f9, GE.out⟩
                        case measure => simp [intOf]; omega
                  · skip
                    rw [errF_no hc]
                    have GN : Hid (SG w W10 P (i + 1) f f9) := by have z := G10.out.1; rw [change_no hc] at z; exact z
                    have HS : Hid (∀ X : World, (∀ k, k < W10.heap.size → X.heap[k]? = W10.heap[k]?) → X.cell? ⟨O, 0, none⟩ = some (.int .i64 nv) ∧ X.cell? ⟨O, 1, none⟩ = some (.slice q7 l7 c7)) := fun X hX => ⟨(World.cell?_of_block (a := ⟨O, 0, none⟩) (hX O G10.out.2.2.2.2)).trans G10.out.2.2.1, (World.cell?_of_block (a := ⟨O, 1, none⟩) (hX O G10.out.2.2.2.2)).trans G10.out.2.2.2.1⟩
                    clear hc
                    go_upto_region 26 with fail
                    rw [← eW10]
                    clear eW10
                    go_region_held3 (fun X => X.cell? ⟨O, 0, none⟩ = some (.int .i64 nv) ∧ X.cell? ⟨O, 1, none⟩ = some (.slice q7 l7 c7)) (first | exact HS.out _ (fun _ _ => rfl) | exact HS.out _ (fun k hk => H11.out.2.block k hk) | exact HS.out _ (fun k hk => H12.out.block k hk)) (first
                      | (go_at_call 10; refine (viewU w.heap.size P f f9 _ (by exact GN.out.us.of_blocks (Nat.le_refl _) fun _ _ => rfl) GN.out.inv).mono ?_; rintro e11 w11 ⟨q11, c11, rfl, hs11, _, hb11⟩; rw [← EV.out.2] at hs11; rw [← EV.out.1, ← EV.out.2]; have H11 : Hid (Sl w11 (.slice q11 l7 c11) f.v.has ∧ Below W10.heap.size W10 w11) := ⟨hs11, below_same hb11 rfl rfl rfl rfl⟩; clear hs11 hb11)
                      | (go_at_call 11; refine (sameView nv f.v.has q11 l7 c11 q7 l7 c7 _ (by exact H11.out.1.later ⟨rfl, rfl, rfl, Nat.le_refl _, fun _ _ => rfl⟩) (by exact (G10.out.2.1.later H11.out.2).later ⟨rfl, rfl, rfl, Nat.le_refl _, fun _ _ => rfl⟩)).mono ?_; rintro e12 w12 ⟨rfl, hb12⟩; have H12 : Hid (Below W10.heap.size W10 w12) := H11.out.2.trans ((below_same hb12 rfl rfl rfl rfl).mono H11.out.2.size); clear hb12))
                    have G12 : Hid (SG w w12 P (i + 1) f f9) := GN.out.later H12.out
                    go_wp2
                    go_roundw
                    case rel => exact ⟨t + 1, i + 1, by omega, by omega, by omega, by go_num, by go_num, f, f9, G12.out⟩
                    case measure => simp [intOf]; omega
      · rcases (show ((i : Int) < (len : Int) ∧ ¬ (i : Int) < 120) ∨ ¬ (i : Int) < (len : Int) by omega) with ⟨e1, e2⟩ | e1
        all_goals
          clear hgo
          go_wp2
          go_meet
          obtain ⟨f, fp, z⟩ := hC.out
          exact ⟨f, fp, z.mono hi120⟩
  case rest =>
    as_aux_lemma =>
      obtain ⟨f, fp, hG⟩ := hcut.out
      obtain ⟨w7, ew7⟩ : ∃ w7, w7 = wc := ⟨_, rfl⟩
      subst ew7
      have G7 : Hid (SG w w7 P 120 f fp) := hG
      obtain ⟨nv, env⟩ : ∃ nv : Nat, (nv : Int) = f.v.n := ⟨f.v.n.toNat, by have := hG.inv.n0; omega⟩
      have hnv : nv ≤ 120 := by have := hG.few; omega
      have EN : Hid ((nv : Int) = f.v.n) := env
      have fld : ∀ (x : Int) (u : Value) (W : World), (Instr.field 31 (.agg #[.int .i64 x, u]) 0).run Try.prog W = .ok (.int .i64 x) W := fun _ _ _ => by kernel_rfl
      clear hcut hG C6 env
      go_wp2_with fail
      go_loopw [30] (fun x wr => ∃ m : Nat, m ≤ 5 ∧ x = .int .i64 (m : Int) ∧ Hid (Below w7.heap.size w7 wr)) (fun x _ => 5 - (intOf x).toNat)
      case atStart => exact ⟨0, by omega, rfl, Below.refl _ _⟩
      case round =>
        obtain ⟨m, hm, rfl, hB⟩ := hrel
        by_cases hm5 : m < 5
        · have hm5' : (m : Int) < 5 := by omega
          obtain ⟨wm, ewm⟩ : ∃ wm, wm = wr := ⟨_, rfl⟩
          subst ewm
          have Gm : Hid (SG w wm P 120 f fp) := G7.out.later hB.out
          have HM : Hid (m < 5) := hm5
          go_wp2_with fail
          go_loopw [31, 32] (fun v x wr => ∃ k : Nat, k ≤ nv + 1 ∧ x = .int .i64 (k : Int) ∧ Hid (Owl wr wm.heap.size v (al f m k) ∧ Below wm.heap.size wm wr)) (fun _ x _ => nv + 1 - (intOf x).toNat)
          case atStart => exact ⟨0, by omega, rfl, World.ownsRow_nil _ _ _ _, Below.refl _ _⟩
          case round =>
            obtain ⟨k, hk, rfl, hQ⟩ := hrel
            obtain ⟨q, cap, rfl⟩ := own_form hQ.out.1
            obtain ⟨wk, ewk⟩ : ∃ wk, wk = wr := ⟨_, rfl⟩
            subst ewk
            have Gk : Hid (SG w wk P 120 f fp) := Gm.out.later hQ.out.2
            obtain ⟨ll, ell⟩ : ∃ ll, ll = (al f m k).length := ⟨_, rfl⟩
            have QO : Hid (wk.ownsRow wm.heap.size 3 1 (.slice q ll cap) ll ((al f m k).map (Value.int .i64)) ∧ Below wm.heap.size wm wk ∧ ll = (al f m k).length) := by rw [ell]; exact ⟨hQ.out.1, hQ.out.2, rfl⟩
            rw [← ell]
            clear hQ ell
            go_wp2_with fail
            refine (viewU w.heap.size P f fp wk Gk.out.us Gk.out.inv).mono ?_
            rintro e w8 ⟨q8, c8, rfl, _, _, hb8⟩
            rw [← EN.out]
            have G8 : Hid (SG w w8 P 120 f fp ∧ Below wk.heap.size wk w8) := ⟨Gk.out.later hb8, hb8⟩
            clear hb8
            by_cases hkn : k ≤ nv
            · have d1 : (k : Int) ≤ (nv : Int) := by omega
              have d2 : (k : Int) ≤ 120 := by omega
              go_wp2_with fail
              refine (heardU w.heap.size P f fp (m : Int) (k : Int) w8 G8.out.1.us G8.out.1.inv (by rw [← EN.out]; omega)).mono ?_
              rintro e w9 ⟨q9, c9, rfl, hs9, hn9, hb9⟩
              have eh := heard_all G8.out.1.inv (k := k) HM.out (by rw [← EN.out]; exact d1)
              rw [eh.1, errF_ok, eh.2]
              rw [eh.2] at hs9 hn9
              obtain ⟨l9, el9⟩ : ∃ l9, l9 = (f.hd k m).length := ⟨_, rfl⟩
              rw [← el9] at hs9 hn9 ⊢
              have hl9 : l9 ≤ 30 := by rw [el9]; exact hd_len G8.out.1.inv G8.out.1.rng _ _
              have b9 : Below wk.heap.size wk w9 := G8.out.2.trans (hb9.mono G8.out.2.size)
              have L9 : Hid (LA wm w9 (.slice q ll cap) f m k 0 q9 l9 ∧ l9 = (f.hd k m).length) := by
                refine ⟨⟨?_, (sl_vw hs9).2.1, fun ad e z e2 => ?_, QO.out.2.1.trans (b9.mono QO.out.2.1.size)⟩, el9⟩
                · show World.ownsRow _ _ _ _ _ _ _
                  rw [alT_zero, ← QO.out.2.2]
                  exact own_block QO.out.1 fun b hb => b9.block b (own_lt QO.out.1 b hb).2
                · have h1 := (own_lt QO.out.1 _ e2).2
                  have h2 := hn9 ad e z
                  have h3 := G8.out.2.size
                  omega
              have IR : Hid (Inv f ∧ Rng f) := ⟨G8.out.1.inv, G8.out.1.rng⟩
              clear hs9 hn9 hb9 eh el9 b9 G8 Gk QO d2
              go_wp2_with fail
              go_loopw [31, 35] (fun v x wr => ∃ j : Nat, j ≤ l9 ∧ x = .int .i64 (j : Int) ∧ Hid (LA wm wr v f m k j q9 l9)) (fun _ x _ => l9 - (intOf x).toNat)
              case atStart => exact ⟨0, by omega, rfl, L9.out.1⟩
              case round =>
                obtain ⟨j, hj, rfl, hQ⟩ := hrel
                obtain ⟨q5, cap5, rfl⟩ := own_form hQ.out.own
                obtain ⟨ll, ell⟩ : ∃ ll, ll = (alT f m k j).length := ⟨_, rfl⟩
                have hll : ll ≤ 30 := by rw [ell]; exact alT_len IR.out.1 IR.out.2 _ _ _
                have O5 : Hid (wr.ownsRow wm.heap.size 3 1 (.slice q5 ll cap5) ll ((alT f m k j).map (Value.int .i64)) ∧ ll = (alT f m k j).length) := by rw [ell]; exact ⟨hQ.out.own, rfl⟩
                rw [← ell] at hQ ⊢
                clear ell
                by_cases hjl : j < l9
                · have hjl' : (j : Int) < (l9 : Int) := by omega
                  have hj0 : (0 : Int) ≤ (j : Int) := by omega
                  obtain ⟨b5, o5, rfl, hb5, hc5⟩ := hQ.out.seen.2 (by omega)
                  have u0 := hc5 j hjl
                  obtain ⟨z, ez⟩ : ∃ z, z = (f.hd k m).getD j 0 := ⟨_, rfl⟩
                  rw [← ez] at u0
                  have HZ : Hid ((alT f m k j).contains z = false ∧ z = (f.hd k m).getD j 0) := by
                    refine ⟨?_, ez⟩
                    rw [Bool.eq_false_iff]
                    intro q
                    refine alT_new IR.out.1 (by rw [← L9.out.2]; exact hjl) ?_
                    rw [← ez]
                    exact List.contains_iff_mem.1 q
                  have hlt5 : Hid (b5 < wr.heap.size) := hb5
                  clear hc5 ez hb5
                  go_wp2_with fail
                  refine (refIn q5 ll cap5 (alT f m k j) z wr (own_see O5.out.1) (by omega)).mono ?_
                  rintro e wr ⟨rfl, rfl⟩
                  rw [HZ.out.1]
                  go_wp2_with (at_builtin; refine wpList_append_lies _ rfl _ _ 29 rfl wm.heap.size 3 ii (.int .i64 0) 1 8 Try.underlying29 HJ.out.1 HJ.out.2.1 HJ.out.2.2.1 HJ.out.2.2.2 rfl (by decide) (.slice q5 ll cap5) ll ((alT f m k j).map (Value.int .i64)) rfl (by exact own_block O5.out.1 fun b hb => Below.heap_alloc _ _ _ (own_lt O5.out.1 b hb).2) ⟨wr.heap.size, 0, none⟩ 1 1 [.int .i64 z] rfl rfl (by exact new_int wr _ rfl _ 3) (int_one _) (by omega) (by unfold maxLen; omega) (by omega) (by have := hQ.out.bel.size; simp; omega) (wr.heap.size + 1) (by simp) ?_; intro g1 k1 w4 hown hgrow hlie hg4; have N4 : Hid (LA wm w4 (.slice (some ⟨g1, 0, none⟩) (ll + 1) k1) f m k (j + 1) (some ⟨b5, o5, none⟩) l9) := hQ.out.step O5.out.2 (by rw [← L9.out.2]; exact hjl) HZ.out.2 hgrow hown hlie; clear hown hgrow hlie hg4)
                  go_roundw
                  case rel => exact ⟨j + 1, by omega, by go_num, N4⟩
                  case measure => simp [intOf]; omega
                · have hjl' : ¬ (j : Int) < (l9 : Int) := by omega
                  have ej : j = (f.hd k m).length := by rw [← L9.out.2]; omega
                  have E4 : Hid (Owl wr wm.heap.size (.slice q5 ll cap5) (al f m (k + 1)) ∧ Below wm.heap.size wm wr) := by
                    refine ⟨?_, hQ.out.bel⟩
                    rw [← alT_end, ← ej]
                    exact hQ.out.own
                  clear ej
                  go_wp2
                  go_roundw
                  case rel => exact ⟨k + 1, by omega, by go_num, E4⟩
                  case measure => simp [intOf]; omega
            · have d1 : ¬ (k : Int) ≤ (nv : Int) := by omega
              have E4 : Hid (Below w7.heap.size w7 w8) := hB.out.trans ((QO.out.2.1.trans (G8.out.2.mono QO.out.2.1.size)).mono hB.out.size)
              go_wp2
              go_roundw
              case rel => exact ⟨m + 1, by omega, by go_num, E4⟩
              case measure => simp [intOf]; omega
        · have hm5' : ¬ (m : Int) < 5 := by omega
          have E4 : Hid (Below w.heap.size w wr) := G7.out.bel.trans (hB.out.mono G7.out.bel.size)
          go_wp2
          go_ret
          exact ⟨rfl, E4.out⟩
theorem same_any (n : Int) (a : Option Addr) (len cap : Nat) (ls : List (List Int)) (b : Option Addr) (len' cap' : Nat) (ms : List (List Int)) (w : World) (hR : Rw w a len ls) (hR' : Rs w b len' ms) : Calls Try.prog 3 #[.int .i64 n, .slice a len cap, .slice b len' cap'] w fun e w' => e = .returned (.bool true) ∧ Below w.heap.size w w' := by
  by_cases h : n < 2 ∨ 5 < n
  · exact same_bad n a len cap b len' cap' w h
  · obtain ⟨x, rfl⟩ : ∃ x : Nat, n = (x : Int) := ⟨n.toNat, by omega⟩
    exact same_ok x a len cap ls b len' cap' ms w hR hR' (by omega) (by omega)
end Go.Proofs.Ytgdmbnfdcbekaai.Flu
