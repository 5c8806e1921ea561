/-
  What all have heard rises: the walk of StableRises, from a right number of members on.
-/
import Derived.Test.YtcmiihdbkdcfgagStrA
namespace Go.Proofs.Ytcmiihdbkdcfgag.Stb
open Go.RowKit
open Go.Proofs.Ytcmiihdbkdcfgag.Fif (ret_bool)
open Go.Proofs.Ytcmiihdbkdcfgag.Vec (Vw leq_ok Rw)
open Go.Proofs.Ytcmiihdbkdcfgag.Sep (KpL NewL)
open Go.Proofs.Ytcmiihdbkdcfgag.Ldr (errF errF_ok errF_no Sl same_any)
open Go.Proofs.Ytcmiihdbkdcfgag.His (zero5 leR)
set_option linter.unusedVariables false

theorem below_same {X w w' : World} (h : Below X.heap.size X w') (e : X.heap = w.heap) (e1 : X.os = w.os) (e2 : X.tape = w.tape) (e3 : X.output = w.output) : Below w.heap.size w w' := ⟨by rw [← e1]; exact h.os, by rw [← e2]; exact h.tape, by rw [← e3]; exact h.output, by rw [← e]; exact h.size, fun k hk => by rw [← e]; exact h.block k (by rw [e]; exact hk)⟩
theorem same_from {B : Nat} {a w1 X w2 : World} (h2 : Below B X w2) (h : Below B a w1) (e : X.heap = w1.heap) (e1 : X.os = w1.os) (e2 : X.tape = w1.tape) (e3 : X.output = w1.output) : Below B a w2 := by
  refine h.trans ⟨by rw [← e1]; exact h2.os, by rw [← e2]; exact h2.tape, by rw [← e3]; exact h2.output, by rw [← e]; exact h2.size, fun k hk => by rw [← e]; exact h2.block k hk⟩
set_option maxRecDepth 100000 in
set_option maxHeartbeats 4000000 in
theorem rises_ok (n : Nat) (many : Int) (a : Option Addr) (len cap : Nat) (b : Option Addr) (len' cap' : Nat) (vs : List Int) (ls : List (List Int)) (w : World) (h2 : 2 ≤ n) (h5 : n ≤ 5) (hv : Vw w a len vs) (hm : len ≤ maxLen) (hR : Rw w b len' ls) : Calls Try.prog 6 #[.int .i64 (n : Int), .slice a len cap, .slice b len' cap', .int .i64 many] w fun x w' => x = .returned (.bool true) ∧ Below w.heap.size w w' := by
  have HV : Hid (Vw w a len vs ∧ Rw w b len' ls) := ⟨hv, hR⟩
  have hlm : len' ≤ maxLen := hR.2.1
  clear hv hR
  go_enter Try.func6, Try.ntmps6
  go_wp2_with fail
  refine (newB_ok 2 (by omega) (by omega) w).mono ?_
  rintro e x1 ⟨P1, fp1, rfl, hA, hb⟩
  have O1 : Hid (OS w x1 P1 (start 2) fp1) := ⟨hA, Inv.start (by omega) (by omega), hb⟩
  clear hA hb
  obtain ⟨X1, eX1⟩ : ∃ X1, X1 = x1.alloc (.cells #[.int .i64 3, .int .i64 1, .int .i64 0, .int .i64 0, .int .i64 0] 3) := ⟨_, rfl⟩
  have O2 : Hid (OS w X1 P1 (start 2) fp1 ∧ Vw X1 (some ⟨x1.heap.size, 0, none⟩) 5 [3, 1, 0, 0, 0]) := ⟨by rw [eX1]; exact O1.out.lit _, by rw [eX1]; exact Vw.lit x1 3 1 0 0 0 _⟩
  go_wp2_with fail
  rw [← eX1]
  clear eX1
  refine (toldB w.heap.size P1 (start 2) fp1 0 (some ⟨x1.heap.size, 0, none⟩) 5 5 [3, 1, 0, 0, 0] X1 O2.out.1.bs O2.out.1.inv O2.out.1.bel.size O2.out.2 (by decide) (O1.out.lies (c := 5))).mono ?_
  rintro e x2 ⟨fp2, rfl, hA, hb, _, _⟩
  rw [q1_c, errF_ok]
  have O3 : Hid (OS w x2 P1 q1 fp2) := ⟨hA, q1_inv, O2.out.1.bel.trans hb⟩
  clear hA hb
  obtain ⟨X2, eX2⟩ : ∃ X2, X2 = x2.alloc (.cells #[.int .i64 2, .int .i64 5, .int .i64 0, .int .i64 0, .int .i64 0] 3) := ⟨_, rfl⟩
  have O4 : Hid (OS w X2 P1 q1 fp2 ∧ Vw X2 (some ⟨x2.heap.size, 0, none⟩) 5 [2, 5, 0, 0, 0]) := ⟨by rw [eX2]; exact O3.out.lit _, by rw [eX2]; exact Vw.lit x2 2 5 0 0 0 _⟩
  go_wp2_with fail
  rw [← eX2]
  clear eX2
  refine (toldB w.heap.size P1 q1 fp2 1 (some ⟨x2.heap.size, 0, none⟩) 5 5 [2, 5, 0, 0, 0] X2 O4.out.1.bs O4.out.1.inv O4.out.1.bel.size O4.out.2 (by decide) (O3.out.lies (c := 5))).mono ?_
  rintro e x3 ⟨fp3, rfl, hA, hb, _, _⟩
  rw [q2_c, errF_ok]
  have O5 : Hid (OS w x3 P1 q2 fp3) := ⟨hA, q2_inv, O4.out.1.bel.trans hb⟩
  clear hA hb
  go_wp2_with fail
  refine (leastB w.heap.size P1 q2 fp3 x3 O5.out.bs O5.out.inv).mono ?_
  rintro e x4 ⟨a4, c4, rfl, hs4, _, hb4⟩
  rw [q2_least] at hs4
  obtain ⟨b4, o4, rfl, _, hc4⟩ := (Sl.vw hs4).2.2 (by decide)
  have g0 : x4.cell? ⟨b4, o4, none⟩ = some (.int .i64 2) := hc4 0 (by decide)
  have g1 : x4.cell? ⟨b4, o4 + 1, none⟩ = some (.int .i64 1) := hc4 1 (by decide)
  have B4 : Hid (Below w.heap.size w x4) := O5.out.bel.trans (hb4.mono O5.out.bel.size)
  clear hs4 hb4 hc4 O1 O2 O3 O4 O5
  go_wp2_with fail
  refine (newB_ok n h2 h5 x4).mono ?_
  rintro e x5 ⟨P, fp5, rfl, hA, hb⟩
  have C5 : Hid (OS w x5 P (start n) fp5 ∧ (start n).n = n) := ⟨⟨hA.lower B4.out.size, Inv.start h2 h5, B4.out.trans (hb.mono B4.out.size)⟩, rfl⟩
  clear hA hb B4 g0 g1
  go_wp2_with fail
  go_loopw [14] (fun x wr => ∃ (i : Nat) (t : T) (f : List Nat), i ≤ len ∧ i ≤ 60 ∧ x = .int .i64 (i : Int) ∧ Hid (OS w wr P t f ∧ t.n = n)) (fun x _ => len - (intOf x).toNat)
  case atStart => exact ⟨0, _, _, by omega, by omega, rfl, C5⟩
  case round =>
    obtain ⟨i, t, f, hi, hi60, rfl, hQ⟩ := hrel
    by_cases hgo : (i : Int) < (len : Int) ∧ (i : Int) < (len' : Int) ∧ (i : Int) < 60
    · obtain ⟨hil, hil', hi60'⟩ := hgo
      have hi0 : (0 : Int) ≤ (i : Int) := by omega
      obtain ⟨wo, ewo⟩ : ∃ wo, wo = wr := ⟨_, rfl⟩
      subst ewo
      obtain ⟨bw, ow, rfl, hbw, hcw⟩ := HV.out.1.2 (by omega)
      obtain ⟨rb, ro, rfl, hrb, hrc⟩ := HV.out.2.2.2 (by omega)
      obtain ⟨qi, ci, gw, hvi, hmi⟩ := hrc i (by omega)
      have gx := hcw i (by omega)
      obtain ⟨x, ex⟩ : ∃ x, x = vs.getD i 0 := ⟨_, rfl⟩
      obtain ⟨v, ev⟩ : ∃ v, v = ls.getD i [] := ⟨_, rfl⟩
      rw [← ev] at gw hvi hmi
      rw [← ex] at gx
      obtain ⟨li, eli⟩ : ∃ li, li = v.length := ⟨_, rfl⟩
      rw [← eli] at gw hvi hmi
      have hmi2 : (li : Int) ≤ 9223372036854775807 := by unfold maxLen at hmi; omega
      have HS : Hid (∀ X : World, (∀ k, k < w.heap.size → X.heap[k]? = w.heap[k]?) → X.cell? ⟨bw, ow + i, none⟩ = some (.int .i64 x) ∧ X.cell? ⟨rb, ro + i, none⟩ = some (.slice qi li ci)) := fun X hX => ⟨(World.cell?_of_block (a := ⟨bw, ow + i, none⟩) (hX bw hbw)).trans gx, (World.cell?_of_block (a := ⟨rb, ro + i, none⟩) (hX rb hrb)).trans gw⟩
      have XV : Hid (Vw w qi li v ∧ li ≤ maxLen) := ⟨hvi, hmi⟩
      clear hcw hrc hvi gw gx hrb hbw ex ev eli hmi
      go_wp2_with fail
      refine (leastB w.heap.size P t f wo hQ.out.1.bs hQ.out.1.inv).mono ?_
      rintro e1 w1 ⟨a1, c1, rfl, hs1, hn1, hb1⟩
      have S1 : Hid (OS w w1 P t f ∧ Sa w1 f a1 5 (least t) ∧ Sl w1 (.slice a1 5 c1) (least t)) := ⟨hQ.out.1.later hb1, (Sa.new hs1 (fun ad e q => hn1 ad e) fun k hk => (hQ.out.1.bs.fp k hk).2).2, hs1⟩
      clear hs1 hn1 hb1
      obtain ⟨k1, k1'⟩ := HS.out w1 fun k hk => S1.out.1.bel.block k hk
      go_wp2_with fail
      refine (rowB w.heap.size P t f x w1 S1.out.1.bs S1.out.1.inv).mono ?_
      rintro e2 w2 ⟨a2, c2, rfl, hs2, hn2, hb2⟩
      obtain ⟨r2, er2⟩ : ∃ r2, r2 = rowL t x := ⟨_, rfl⟩
      rw [← er2] at hs2 hn2 ⊢
      obtain ⟨l2, el2⟩ : ∃ l2, l2 = r2.length := ⟨_, rfl⟩
      rw [← el2] at hs2 hn2 ⊢
      have S2 : Hid (OS w w2 P t f ∧ Sa w2 f a1 5 (least t) ∧ Sa w2 f a2 l2 r2 ∧ (5 ≤ c1 ∧ c1 ≤ maxLen) ∧ r2 = rowL t x) := by
        obtain ⟨_, _, e, h1, h2, _⟩ := S1.out.2.2
        injection e with _ _ e3
        subst e3
        exact ⟨S1.out.1.later hb2, S1.out.2.1.later hb2, (Sa.new hs2 hn2 fun k hk => (S1.out.1.bs.fp k hk).2).2, ⟨h1, h2⟩, er2⟩
      clear hs2 hn2 hb2 k1 k1' el2 er2 S1
      by_cases hc : toldC t x v = 0
      · obtain ⟨xn, rfl⟩ : ∃ xn : Nat, x = (xn : Int) := ⟨x.toNat, by have := (told_ok hc).1; omega⟩
        obtain ⟨t1, et1⟩ : ∃ t1, t1 = told t (xn : Int) v := ⟨_, rfl⟩
        have hx5 : xn < 5 := by have := (told_ok hc).1; have := hQ.out.2; omega
        have FX : Hid ((inC t (xn : Int) = 0 ∧ inC t1 (xn : Int) = 0 ∧ rowL t (xn : Int) = t.r xn ∧ rowL t1 (xn : Int) = t1.r xn ∧ vecC v = 0 ∧ leR (least t) (least t1) = true ∧ leR (t.r xn) (t1.r xn) = true ∧ leR v (t1.r xn) = true) ∧ (Inv t1 ∧ t1.n = n ∧ toldC t1 (xn : Int) v = 0 ∧ told t1 (xn : Int) v = t1) ∧ toldC t (xn : Int) v = 0 ∧ told t (xn : Int) v = t1) := by
          rw [et1]
          exact ⟨rise hQ.out.1.inv hc, ⟨hQ.out.1.inv.told _ _, (told_n _ _ _).trans hQ.out.2, (told_twice hQ.out.1.inv hc).1, (told_twice hQ.out.1.inv hc).2⟩, hc, rfl⟩
        rw [FX.out.1.1, errF_ok]
        clear hc et1
        go_wp2_with fail
        go_region_held3 (fun X => X.cell? ⟨bw, ow + i, none⟩ = some (.int .i64 (xn : Int)) ∧ X.cell? ⟨rb, ro + i, none⟩ = some (.slice qi li ci)) (first | exact HS.out _ (fun k hk => S2.out.1.bel.block k hk) | exact HS.out _ (fun k hk => S3.out.1.bel.block k hk)) (first
          | (go_at_call 24; refine (toldB w.heap.size P t f (xn : Int) qi li ci v _ (by exact S2.out.1.bs.of_blocks (Nat.le_refl _) fun _ _ => rfl) S2.out.1.inv (by exact S2.out.1.bel.size) (by have q := XV.out.1.later S2.out.1.bel; exact q) XV.out.2 (by have q := S2.out.1.far XV.out.1; exact q)).mono ?_; rintro e3 w3 ⟨f3, rfl, hA3, hb3, hk3, hn3⟩; rw [FX.out.2.2.1, errF_ok]; have S3 : Hid (OS w w3 P t1 f3 ∧ Sa w3 f3 a1 5 (least t) ∧ Sa w3 f3 a2 l2 r2) := ⟨⟨by rw [FX.out.2.2.2] at hA3; exact hA3, FX.out.2.1.1, same_from hb3 S2.out.1.bel rfl rfl rfl rfl⟩, S2.out.2.1.step (by exact hk3) (by exact hn3), S2.out.2.2.1.step (by exact hk3) (by exact hn3)⟩; clear hA3 hb3 hk3 hn3))
        go_wp2_with fail
        refine (leastB w.heap.size P t1 f3 w3 S3.out.1.bs S3.out.1.inv).mono ?_
        rintro e4 w4 ⟨a4, c4, rfl, hs4, hn4, hb4⟩
        have S4 : Hid (OS w w4 P t1 f3 ∧ Sa w4 f3 a1 5 (least t) ∧ Sa w4 f3 a2 l2 r2 ∧ Sa w4 f3 a4 5 (least t1) ∧ 5 ≤ c4 ∧ c4 ≤ maxLen) := by
          have hs4' := hs4
          obtain ⟨_, _, e, h1, h2, _⟩ := hs4'
          injection e with _ _ e3
          subst e3
          exact ⟨S3.out.1.later hb4, S3.out.2.1.later hb4, S3.out.2.2.later hb4, (Sa.new hs4 (fun ad e q => hn4 ad e) fun k hk => (S3.out.1.bs.fp k hk).2).2, h1, h2⟩
        clear hs4 hn4 hb4
        obtain ⟨k1, k1'⟩ := HS.out w4 fun k hk => S4.out.1.bel.block k hk
        go_wp2_with fail
        refine (rowB w.heap.size P t1 f3 (xn : Int) w4 S4.out.1.bs S4.out.1.inv).mono ?_
        rintro e5 w5 ⟨a5, c5, rfl, hs5, hn5, hb5⟩
        rw [FX.out.1.2.1, errF_ok]
        obtain ⟨r5, er5⟩ : ∃ r5, r5 = rowL t1 (xn : Int) := ⟨_, rfl⟩
        rw [← er5] at hs5 hn5 ⊢
        obtain ⟨l5, el5⟩ : ∃ l5, l5 = r5.length := ⟨_, rfl⟩
        rw [← el5] at hs5 hn5 ⊢
        have S5 : Hid (OS w w5 P t1 f3 ∧ Sa w5 f3 a1 5 (least t) ∧ Sa w5 f3 a2 l2 r2 ∧ Sa w5 f3 a4 5 (least t1) ∧ Sa w5 f3 a5 l5 r5 ∧ r5 = t1.r xn ∧ r2 = t.r xn) := ⟨S4.out.1.later hb5, S4.out.2.1.later hb5, S4.out.2.2.1.later hb5, S4.out.2.2.2.1.later hb5, (Sa.new hs5 hn5 fun k hk => (S4.out.1.bs.fp k hk).2).2, er5.trans FX.out.1.2.2.2.1, S2.out.2.2.2.2.trans FX.out.1.2.2.1⟩
        clear hs5 hn5 hb5 k1 k1' el5 er5
        go_wp2_with fail
        refine (leq_ok a1 a4 5 c1 5 c4 (least t) (least t1) w5 S5.out.2.1.1 S5.out.2.2.2.1.1 (least_vec hQ.out.1.inv) (least_vec S5.out.1.inv)).mono ?_
        rintro e6 w6 ⟨rfl, hb6⟩
        rw [gt_leR, FX.out.1.2.2.2.2.2.1]
        have S6 : Hid (OS w w6 P t1 f3 ∧ Sa w6 f3 a2 l2 r2 ∧ Sa w6 f3 a4 5 (least t1) ∧ Sa w6 f3 a5 l5 r5) := ⟨S5.out.1.later hb6, S5.out.2.2.1.later hb6, S5.out.2.2.2.1.later hb6, S5.out.2.2.2.2.1.later hb6⟩
        clear hb6
        go_wp2_with fail
        refine (leq_ok a2 a5 l2 c2 l5 c5 r2 r5 w6 S6.out.2.1.1 S6.out.2.2.2.1 (by rw [S5.out.2.2.2.2.2.2]; exact row_vec hQ.out.1.inv xn) (by rw [S5.out.2.2.2.2.2.1]; exact row_vec S5.out.1.inv xn)).mono ?_
        rintro e7 w7 ⟨rfl, hb7⟩
        rw [gt_leR, show leR r2 r5 = true by rw [S5.out.2.2.2.2.2.2, S5.out.2.2.2.2.2.1]; exact FX.out.1.2.2.2.2.2.2.1]
        have S7 : Hid (OS w w7 P t1 f3 ∧ Sa w7 f3 a4 5 (least t1) ∧ Sa w7 f3 a5 l5 r5) := ⟨S6.out.1.later hb7, S6.out.2.2.1.later hb7, S6.out.2.2.2.later hb7⟩
        clear hb7
        obtain ⟨k1, k1'⟩ := HS.out w7 fun k hk => S7.out.1.bel.block k hk
        go_wp2_with fail
        refine (leq_ok qi a5 li ci l5 c5 v r5 w7 (XV.out.1.later S7.out.1.bel) S7.out.2.2.1 FX.out.1.2.2.2.2.1 (by rw [S5.out.2.2.2.2.2.1]; exact row_vec S5.out.1.inv xn)).mono ?_
        rintro e8 w8 ⟨rfl, hb8⟩
        rw [gt_leR, show leR v r5 = true by rw [S5.out.2.2.2.2.2.1]; exact FX.out.1.2.2.2.2.2.2.2]
        have S8 : Hid (OS w w8 P t1 f3 ∧ Sa w8 f3 a4 5 (least t1)) := ⟨S7.out.1.later hb8, S7.out.2.1.later hb8⟩
        clear hb8 k1 k1'
        have C4 : Hid (5 ≤ c4 ∧ c4 ≤ maxLen) := S4.out.2.2.2.2
        clear S2 S3 S4 S5 S6 S7
        go_wp2_with fail
        go_region_held3 (fun X => X.cell? ⟨bw, ow + i, none⟩ = some (.int .i64 (xn : Int)) ∧ X.cell? ⟨rb, ro + i, none⟩ = some (.slice qi li ci)) (first | exact HS.out _ (fun k hk => S8.out.1.bel.block k hk) | exact HS.out _ (fun k hk => S9.out.1.bel.block k hk) | exact HS.out _ (fun k hk => S10.out.1.bel.block k hk) | exact HS.out _ (fun k hk => S11.out.1.bel.block k hk)) (first
          | (go_at_call 24; refine (toldB w.heap.size P t1 f3 (xn : Int) qi li ci v _ (by exact S8.out.1.bs.of_blocks (Nat.le_refl _) fun _ _ => rfl) S8.out.1.inv (by exact S8.out.1.bel.size) (by have q := XV.out.1.later S8.out.1.bel; exact q) XV.out.2 (by have q := S8.out.1.far XV.out.1; exact q)).mono ?_; rintro e9 w9 ⟨f9, rfl, hA9, hb9, hk9, hn9⟩; rw [FX.out.2.1.2.2.1, errF_ok]; have S9 : Hid (OS w w9 P t1 f9 ∧ Sa w9 f9 a4 5 (least t1)) := ⟨⟨by rw [FX.out.2.1.2.2.2] at hA9; exact hA9, FX.out.2.1.1, same_from hb9 S8.out.1.bel rfl rfl rfl rfl⟩, S8.out.2.step (by exact hk9) (by exact hn9)⟩; clear hA9 hb9 hk9 hn9)
          | (go_at_call 25; refine (leastB w.heap.size P t1 f9 _ (by exact S9.out.1.bs.of_blocks (Nat.le_refl _) fun _ _ => rfl) S9.out.1.inv).mono ?_; rintro e10 w10 ⟨a10, c10, rfl, hs10, hn10, hb10⟩; have S10 : Hid (OS w w10 P t1 f9 ∧ Sl w10 (.slice a10 5 c10) (least t1) ∧ Sa w10 f9 a4 5 (least t1)) := ⟨S9.out.1.later (below_same hb10 rfl rfl rfl rfl), hs10, S9.out.2.later (below_same hb10 rfl rfl rfl rfl)⟩; clear hs10 hn10 hb10)
          | (go_at_call 27; refine (same_any (l := least t1) (l' := least t1) (by exact S10.out.2.1) (by exact S10.out.2.2.sl C4.out.1 C4.out.2)).mono ?_; rintro e11 w11 ⟨rfl, hb11⟩; rw [decide_eq_true (rfl : least t1 = least t1)]; have S11 : Hid (OS w w11 P t1 f9 ∧ Sa w11 f9 a4 5 (least t1)) := ⟨S10.out.1.later (below_same hb11 rfl rfl rfl rfl), S10.out.2.2.later (below_same hb11 rfl rfl rfl rfl)⟩; clear hb11))
        go_wp2_with fail
        go_loopw [27] (fun y wr => ∃ m : Nat, m ≤ n ∧ y = .int .i64 (m : Int) ∧ Hid (OS w wr P t1 f9 ∧ Sa wr f9 a4 5 (least t1))) (fun y _ => n - (intOf y).toNat)
        case atStart => exact ⟨0, by omega, rfl, S11⟩
        case round =>
          obtain ⟨m, hm, rfl, hM⟩ := hrel
          by_cases hmn : m < n
          · have hmn' : (m : Int) < (n : Int) := by omega
            have RM : Hid (inC t1 (m : Int) = 0 ∧ rowL t1 (m : Int) = t1.r m ∧ leR (least t1) (t1.r m) = true ∧ (rowL t1 (m : Int)).length = 5) := by
              have q : m < t1.n := by rw [FX.out.2.1.2.1]; exact hmn
              exact ⟨in_ok q, row_in q, below FX.out.2.1.1 q, by rw [row_in q]; exact FX.out.2.1.1.len m⟩
            go_wp2_with fail
            refine (rowB w.heap.size P t1 f9 (m : Int) wr hM.out.1.bs hM.out.1.inv).mono ?_
            rintro e12 w12 ⟨a12, c12, rfl, hs12, hn12, hb12⟩
            rw [RM.out.1, errF_ok, RM.out.2.2.2]
            rw [RM.out.2.2.2, RM.out.2.1] at hs12
            have M12 : Hid (OS w w12 P t1 f9 ∧ Sa w12 f9 a4 5 (least t1) ∧ Vw w12 a12 5 (t1.r m)) := ⟨hM.out.1.later hb12, hM.out.2.later hb12, (Sl.vw hs12).2⟩
            clear hs12 hn12 hb12
            go_wp2_with fail
            refine (leq_ok a4 a12 5 c4 5 c12 (least t1) (t1.r m) w12 M12.out.2.1.1 M12.out.2.2 (least_vec M12.out.1.inv) (row_vec M12.out.1.inv m)).mono ?_
            rintro e13 w13 ⟨rfl, hb13⟩
            rw [gt_leR, RM.out.2.2.1]
            have M13 : Hid (OS w w13 P t1 f9 ∧ Sa w13 f9 a4 5 (least t1) ∧ Vw w13 a12 5 (t1.r m)) := ⟨M12.out.1.later hb13, M12.out.2.1.later hb13, M12.out.2.2.later hb13⟩
            clear hb13
            obtain ⟨k1, k1'⟩ := HS.out w13 fun k hk => M13.out.1.bel.block k hk
            go_wp2_with fail
            refine (mayB w.heap.size P t1 f9 (xn : Int) many w13 M13.out.1.bs M13.out.1.inv).mono ?_
            rintro e14 w14 ⟨rfl, hb14⟩
            have M14 : Hid (OS w w14 P t1 f9 ∧ Sa w14 f9 a4 5 (least t1) ∧ Vw w14 a12 5 (t1.r m)) := ⟨M13.out.1.later hb14, M13.out.2.1.later hb14, M13.out.2.2.later hb14⟩
            clear hb14 k1 k1'
            obtain ⟨k1, k1'⟩ := HS.out w14 fun k hk => M14.out.1.bel.block k hk
            obtain ⟨b12, o12, rfl, _, hc12⟩ := M14.out.2.2.2 (by omega)
            have g1 := hc12 xn hx5
            obtain ⟨y, ey⟩ : ∃ y, y = (t1.r m).getD xn 0 := ⟨_, rfl⟩
            rw [← ey] at g1
            clear hc12
            have hxn0 : (0 : Int) ≤ (xn : Int) := by omega
            have hxn5 : (xn : Int) < 5 := by omega
            by_cases hmc : mayC t1 (xn : Int) many = 0
            · rw [hmc, errF_ok]
              cases hmay : may t1 (xn : Int) many
              · clear ey hmc hmay
                go_wp2
                go_roundw
                case rel => exact ⟨m + 1, by omega, by go_num, M14.out.1, M14.out.2.1⟩
                case measure => simp [intOf]; omega
              · have d1 : ¬ y < many := by
                  have := may_all FX.out.2.1.1 hmay (m := m) (by rw [FX.out.2.1.2.1]; exact hmn)
                  rw [Int.toNat_natCast, ← ey] at this
                  omega
                clear ey hmc hmay
                go_wp2
                go_roundw
                case rel => exact ⟨m + 1, by omega, by go_num, M14.out.1, M14.out.2.1⟩
                case measure => simp [intOf]; omega
            · rw [errF_no hmc]
              clear ey hmc
              go_wp2
              go_roundw
              case rel => exact ⟨m + 1, by omega, by go_num, M14.out.1, M14.out.2.1⟩
              case measure => simp [intOf]; omega
          · have hmn' : ¬ (m : Int) < (n : Int) := by omega
            have S12 : Hid (OS w wr P t1 f9 ∧ t1.n = n) := ⟨hM.out.1, FX.out.2.1.2.1⟩
            go_wp2
            go_roundw
            case rel => exact ⟨i + 1, t1, f9, by omega, by omega, by go_num, S12⟩
            case measure => simp [intOf]; omega
      · have HC : Hid (toldC t x v ≠ 0) := hc
        clear hc
        go_wp2_with fail
        go_region_held3 (fun X => X.cell? ⟨bw, ow + i, none⟩ = some (.int .i64 x) ∧ X.cell? ⟨rb, ro + i, none⟩ = some (.slice qi li ci)) (first | exact HS.out _ (fun k hk => S2.out.1.bel.block k hk) | exact HS.out _ (fun k hk => S3.out.1.bel.block k hk)) (first
          | (go_at_call 24; refine (toldB w.heap.size P t f x qi li ci v _ (by exact S2.out.1.bs.of_blocks (Nat.le_refl _) fun _ _ => rfl) S2.out.1.inv (by exact S2.out.1.bel.size) (by have q := XV.out.1.later S2.out.1.bel; exact q) XV.out.2 (by have q := S2.out.1.far XV.out.1; exact q)).mono ?_; rintro e3 w3 ⟨f3, rfl, hA3, hb3, hk3, hn3⟩; rw [errF_no HC.out]; have S3 : Hid (OS w w3 P t f3 ∧ Sa w3 f3 a1 5 (least t)) := ⟨⟨by rw [told_not HC.out] at hA3; exact hA3, S2.out.1.inv, same_from hb3 S2.out.1.bel rfl rfl rfl rfl⟩, S2.out.2.1.step (by exact hk3) (by exact hn3)⟩; clear hA3 hb3 hk3 hn3))
        go_wp2_with fail
        refine (leastB w.heap.size P t f3 w3 S3.out.1.bs S3.out.1.inv).mono ?_
        rintro e4 w4 ⟨a4, c4, rfl, hs4, hn4, hb4⟩
        have S4 : Hid (OS w w4 P t f3 ∧ Sl w4 (.slice a4 5 c4) (least t) ∧ Sl w4 (.slice a1 5 c1) (least t)) := ⟨S3.out.1.later hb4, hs4, (S3.out.2.later hb4).sl S2.out.2.2.2.1.1 S2.out.2.2.2.1.2⟩
        clear hs4 hn4 hb4
        go_wp2_with fail
        refine (same_any S4.out.2.1 S4.out.2.2).mono ?_
        rintro e5 w5 ⟨rfl, hb5⟩
        rw [decide_eq_true (rfl : least t = least t)]
        have S5 : Hid (OS w w5 P t f3 ∧ t.n = n) := ⟨S4.out.1.later hb5, hQ.out.2⟩
        clear hb5
        go_wp2
        go_roundw
        case rel => exact ⟨i + 1, t, f3, by omega, by omega, by go_num, S5⟩
        case measure => simp [intOf]; omega
    · rcases (show ((i : Int) < (len : Int) ∧ (i : Int) < (len' : Int) ∧ ¬ (i : Int) < 60) ∨ ((i : Int) < (len : Int) ∧ ¬ (i : Int) < (len' : Int)) ∨ ¬ (i : Int) < (len : Int) by omega) with ⟨e1, e2, e3⟩ | ⟨e1, e2⟩ | e1
      all_goals
        clear hgo
        go_wp2
        go_ret
        exact ⟨rfl, hQ.out.1.bel⟩
theorem rises_any (n many : Int) (a : Option Addr) (len cap : Nat) (b : Option Addr) (len' cap' : Nat) (vs : List Int) (ls : List (List Int)) (w : World) (hv : Vw w a len vs) (hm : len ≤ maxLen) (hR : Rw w b len' ls) : Calls Try.prog 6 #[.int .i64 n, .slice a len cap, .slice b len' cap', .int .i64 many] w fun x w' => x = .returned (.bool true) ∧ Below w.heap.size w w' := by
  by_cases hn : n < 2 ∨ 5 < n
  · exact rises_bad n many a len cap b len' cap' w hn
  · obtain ⟨k, rfl⟩ : ∃ k : Nat, n = (k : Int) := ⟨n.toNat, by omega⟩
    exact rises_ok k many a len cap b len' cap' vs ls w (by omega) (by omega) hv hm hR
end Go.Proofs.Ytcmiihdbkdcfgag.Stb
