/-
  Each its turn: the walk of TokenFair.
-/
import Derived.Test.YtfjhjjikaodadagTkr
import Derived.Test.YtfjhjjikaodadagRowsF
import Derived.Deep.CutBlock
import Derived.Deep.CutRange
namespace Go.Proofs.Ytfjhjjikaodadag.Tok
open Go.RowKit
open Go.Proofs.Ytfjhjjikaodadag.Fif (ret_bool)
open Go.Proofs.Ytfjhjjikaodadag.Vec (Vw Rw)
open Go.Proofs.Ytfjhjjikaodadag.Sep (KpL NewL)
open Go.Proofs.Ytfjhjjikaodadag.Ldr (errF errF_ok errF_no Sl)
set_option linter.unusedVariables false

def f1 : K := say (start 2 1) 0 3
def f2 : K := say f1 0 4
theorem fair_fact : sayC (start 2 1) 0 3 = 0 ∧ sayC f1 0 4 = 0 ∧ passL f2 = [(0, 3)] ∧ (pass f2).hold = 1 := by decide
theorem vw_block {w w' : World} {a : Option Addr} {len : Nat} {l : List Int} (h : Vw w a len l) (hs : w.heap.size ≤ w'.heap.size) (hk : ∀ ad, a = some ad → 0 < len → w'.heap[ad.block]? = w.heap[ad.block]?) : Vw w' a len l := by
  refine ⟨h.1, fun q => ?_⟩
  obtain ⟨b, off, e, hlt, hc⟩ := h.2 q
  have eb := hk _ e q
  exact ⟨b, off, e, Nat.lt_of_lt_of_le hlt hs, fun k hk => (World.cell?_of_block (a := ⟨b, off + k, none⟩) eb).trans (hc k hk)⟩
/-- how it stands -/
structure W1 (w wr : World) (P n most : Nat) (k : K) (fp : List Nat) : Prop where
  ts : TS wr w.heap.size P k fp
  inv : Inv k
  num : k.n = n
  mst : k.most = most
  bel : Below w.heap.size w wr
theorem W1.later {w wr w' : World} {P n most : Nat} {k : K} {fp : List Nat} (h : W1 w wr P n most k fp) (hb : Below wr.heap.size wr w') : W1 w w' P n most k fp := ⟨h.ts.later hb, h.inv, h.num, h.mst, h.bel.trans (hb.mono h.bel.size)⟩
set_option maxRecDepth 100000 in
set_option maxHeartbeats 4000000 in
theorem fair_bad (n most : Int) (b : Option Addr) (len cap : Nat) (w : World) (h : (n < 2 ∨ 5 < n) ∨ most < 1 ∨ 10 < most) : Calls Try.prog 4 #[.int .i64 n, .int .i64 most, .slice b len cap] w fun e w' => e = .returned (.bool true) ∧ Below w.heap.size w w' := by
  have HN : Hid ((n < 2 ∨ 5 < n) ∨ most < 1 ∨ 10 < most) := h
  clear h
  go_enter Try.func4, Try.ntmps4
  go_wp2_with fail
  refine (newT_ok 2 1 (by omega) (by omega) (by omega) (by omega) w).mono ?_
  rintro e x1 ⟨P1, fp1, rfl, hA, hb⟩
  have A1 : Hid (TS x1 w.heap.size P1 (start 2 1) fp1 ∧ Below w.heap.size w x1 ∧ Inv (start 2 1)) := ⟨hA, hb, Inv.start (by omega) (by omega) (by omega) (by omega)⟩
  clear hA hb
  go_wp2_with fail
  refine (sayT w.heap.size P1 (start 2 1) fp1 0 3 x1 A1.out.1 A1.out.2.2 A1.out.2.1.size).mono ?_
  rintro e x2 ⟨fp2, rfl, hA, hb, _, _⟩
  rw [fair_fact.1, errF_ok]
  have A2 : Hid (TS x2 w.heap.size P1 f1 fp2 ∧ Below w.heap.size w x2 ∧ Inv f1) := ⟨hA, A1.out.2.1.trans hb, A1.out.2.2.say 0 3⟩
  clear hA hb
  go_wp2_with fail
  refine (sayT w.heap.size P1 f1 fp2 0 4 x2 A2.out.1 A2.out.2.2 A2.out.2.1.size).mono ?_
  rintro e x3 ⟨fp3, rfl, hA, hb, _, _⟩
  rw [fair_fact.2.1, errF_ok]
  have A3 : Hid (TS x3 w.heap.size P1 f2 fp3 ∧ Below w.heap.size w x3 ∧ Inv f2) := ⟨hA, A2.out.2.1.trans hb, A2.out.2.2.say 0 4⟩
  clear hA hb
  go_wp2_with fail
  refine (passT w.heap.size P1 f2 fp3 x3 A3.out.1 A3.out.2.2 A3.out.2.1.size).mono ?_
  rintro e x4 ⟨a4, c4, fp4, rfl, hp4, _, _, hA, hb, _, _⟩
  rw [fair_fact.2.2.1] at hp4 ⊢
  have l1 : ([(0, 3)] : List (Int × Int)).length = 1 := rfl
  rw [l1] at hp4 ⊢
  obtain ⟨b4, o4, rfl, hb4, hc4⟩ := hp4.2 (by decide)
  have g0 : x4.cell? ⟨b4, o4, none⟩ = some (.int .i64 0) := (hc4 0 (by decide)).1
  have g1 : x4.cell? ⟨b4, o4 + 1, none⟩ = some (.int .i64 3) := (hc4 0 (by decide)).2
  have A4 : Hid (TS x4 w.heap.size P1 (pass f2) fp4 ∧ Below w.heap.size w x4 ∧ Inv (pass f2)) := ⟨hA, A3.out.2.1.trans hb, A3.out.2.2.pass⟩
  clear hA hb hp4 hc4 l1
  go_wp2_with fail
  refine (holdT w.heap.size P1 (pass f2) fp4 x4 A4.out.1 A4.out.2.2).mono ?_
  rintro e x5 ⟨rfl, hb⟩
  rw [fair_fact.2.2.2]
  have B5 : Hid (Below w.heap.size w x5) := A4.out.2.1.trans (hb.mono A4.out.2.1.size)
  have one1 : ((1 : Nat) : Int) = 1 := rfl
  rw [one1]
  clear hb g0 g1 A1 A2 A3 A4 one1
  go_wp2_with fail
  refine (newT_no n most HN.out x5).mono ?_
  rintro e x6 ⟨rfl, hb⟩
  rw [errF_no (by decide)]
  have B6 : Hid (Below w.heap.size w x6) := B5.out.trans (hb.mono B5.out.size)
  clear hb
  go_wp2
  go_ret
  exact ⟨rfl, B6.out⟩
theorem sm_le (f : Nat → List Int) {i j : Nat} (h : i ≤ j) : sm f i ≤ sm f j := by
  induction j with
  | zero => rw [show i = 0 by omega]; exact Nat.le_refl _
  | succ j ih =>
    by_cases e : i = j + 1
    · rw [e]; exact Nat.le_refl _
    · have := ih (by omega)
      show sm f i ≤ sm f j + (f j).length
      omega
set_option maxRecDepth 100000 in
set_option maxHeartbeats 8000000 in
theorem fair_ok (n most : Nat) (b : Option Addr) (len cap : Nat) (ls : List (List Int)) (w : World) (hR : Rw w b len ls) (h2 : 2 ≤ n) (h5 : n ≤ 5) (h1 : 1 ≤ most) (h10 : most ≤ 10) : Calls Try.prog 4 #[.int .i64 (n : Int), .int .i64 (most : Int), .slice b len cap] w fun e w' => e = .returned (.bool true) ∧ Below w.heap.size w w' := by
  have HL : Hid (Rw w b len ls) := hR
  have hlm : len ≤ maxLen := hR.2.1
  clear hR
  go_enter Try.func4, Try.ntmps4
  go_wp2_with fail
  refine (newT_ok 2 1 (by omega) (by omega) (by omega) (by omega) w).mono ?_
  rintro e x1 ⟨P1, fp1, rfl, hA, hb⟩
  have A1 : Hid (TS x1 w.heap.size P1 (start 2 1) fp1 ∧ Below w.heap.size w x1 ∧ Inv (start 2 1)) := ⟨hA, hb, Inv.start (by omega) (by omega) (by omega) (by omega)⟩
  clear hA hb
  go_wp2_with fail
  refine (sayT w.heap.size P1 (start 2 1) fp1 0 3 x1 A1.out.1 A1.out.2.2 A1.out.2.1.size).mono ?_
  rintro e x2 ⟨fp2, rfl, hA, hb, _, _⟩
  rw [fair_fact.1, errF_ok]
  have A2 : Hid (TS x2 w.heap.size P1 f1 fp2 ∧ Below w.heap.size w x2 ∧ Inv f1) := ⟨hA, A1.out.2.1.trans hb, A1.out.2.2.say 0 3⟩
  clear hA hb
  go_wp2_with fail
  refine (sayT w.heap.size P1 f1 fp2 0 4 x2 A2.out.1 A2.out.2.2 A2.out.2.1.size).mono ?_
  rintro e x3 ⟨fp3, rfl, hA, hb, _, _⟩
  rw [fair_fact.2.1, errF_ok]
  have A3 : Hid (TS x3 w.heap.size P1 f2 fp3 ∧ Below w.heap.size w x3 ∧ Inv f2) := ⟨hA, A2.out.2.1.trans hb, A2.out.2.2.say 0 4⟩
  clear hA hb
  go_wp2_with fail
  refine (passT w.heap.size P1 f2 fp3 x3 A3.out.1 A3.out.2.2 A3.out.2.1.size).mono ?_
  rintro e x4 ⟨a4, c4, fp4, rfl, hp4, _, _, hA, hb, _, _⟩
  rw [fair_fact.2.2.1] at hp4 ⊢
  have l1 : ([(0, 3)] : List (Int × Int)).length = 1 := rfl
  rw [l1] at hp4 ⊢
  obtain ⟨b4, o4, rfl, hb4, hc4⟩ := hp4.2 (by decide)
  have g0 : x4.cell? ⟨b4, o4, none⟩ = some (.int .i64 0) := (hc4 0 (by decide)).1
  have g1 : x4.cell? ⟨b4, o4 + 1, none⟩ = some (.int .i64 3) := (hc4 0 (by decide)).2
  have A4 : Hid (TS x4 w.heap.size P1 (pass f2) fp4 ∧ Below w.heap.size w x4 ∧ Inv (pass f2)) := ⟨hA, A3.out.2.1.trans hb, A3.out.2.2.pass⟩
  clear hA hb hp4 hc4 l1
  go_wp2_with fail
  refine (holdT w.heap.size P1 (pass f2) fp4 x4 A4.out.1 A4.out.2.2).mono ?_
  rintro e x5 ⟨rfl, hb⟩
  rw [fair_fact.2.2.2]
  have B5 : Hid (Below w.heap.size w x5) := A4.out.2.1.trans (hb.mono A4.out.2.1.size)
  have one1 : ((1 : Nat) : Int) = 1 := rfl
  rw [one1]
  clear hb g0 g1 A1 A2 A3 A4 one1
  go_wp2_with fail
  refine (newT_ok n most h2 h5 h1 h10 x5).mono ?_
  rintro e x6 ⟨P, fp6, rfl, hA, hb⟩
  have C6 : Hid (W1 w x6 P n most (start n most) fp6 ∧ (start n most).hold = 0 ∧ (start n most).pl = 0) := ⟨⟨hA.lower B5.out.size, Inv.start h2 h5 h1 h10, rfl, rfl, B5.out.trans (hb.mono B5.out.size)⟩, rfl, rfl⟩
  clear hA hb B5
  go_upto_block 0 with fail
  go_cut [12] from 72 to 101 (fun x12 wc => ∃ k f, Hid (W1 w wc P n most k f ∧ k.hold = 0 ∧ k.pl = 0))
  case first =>
    go_wp2_with fail
    go_loopw [12] (fun x wr => ∃ (i : Nat) (k : K) (f : List Nat), i ≤ len ∧ i ≤ 40 ∧ x = .int .i64 (i : Int) ∧ Hid (W1 w wr P n most k f ∧ k.hold = 0 ∧ k.pl = 0)) (fun x _ => len - (intOf x).toNat)
    case atStart => exact ⟨0, _, _, by omega, by omega, rfl, C6⟩
    case round =>
      obtain ⟨i, k, f, hi, hi40, rfl, hQ⟩ := hrel
      by_cases hgo : (i : Int) < (len : Int) ∧ (i : Int) < 40
      · obtain ⟨hil, hi40'⟩ := hgo
        have hi0 : (0 : Int) ≤ (i : Int) := by omega
        obtain ⟨wo, ewo⟩ : ∃ wo, wo = wr := ⟨_, rfl⟩
        subst ewo
        obtain ⟨rb, ro, rfl, hrb, hrc⟩ := HL.out.2.2 (by omega)
        obtain ⟨qi, ci, gw, hvi, hmi⟩ := hrc i (by omega)
        obtain ⟨li, eli⟩ : ∃ li, li = (ls.getD i []).length := ⟨_, rfl⟩
        rw [← eli] at gw hvi hmi
        have hmi2 : (li : Int) ≤ 9223372036854775807 := by unfold maxLen at hmi; omega
        have g0 : wo.cell? ⟨rb, ro + i, none⟩ = some (.slice qi li ci) := (hQ.out.1.bel.cell (p := ⟨rb, ro + i, none⟩) hrb).trans gw
        have XV : Hid (w.cell? ⟨rb, ro + i, none⟩ = some (.slice qi li ci) ∧ rb < w.heap.size ∧ Vw w qi li (ls.getD i [])) := ⟨gw, hrb, hvi⟩
        clear hrc hrb hvi hmi eli gw
        by_cases h2l : li = 2
        · subst h2l
          obtain ⟨bi, oi, rfl, hlti, hci⟩ := XV.out.2.2.2 (by omega)
          have y0 := hci 0 (by omega)
          have y1 := hci 1 (by omega)
          rw [Nat.add_zero] at y0
          obtain ⟨u0, eu0⟩ : ∃ u, u = (ls.getD i []).getD 0 0 := ⟨_, rfl⟩
          obtain ⟨u1, eu1⟩ : ∃ u, u = (ls.getD i []).getD 1 0 := ⟨_, rfl⟩
          rw [← eu0] at y0
          rw [← eu1] at y1
          have HS : Hid (∀ X : World, (∀ k, k < w.heap.size → X.heap[k]? = w.heap[k]?) → X.cell? ⟨rb, ro + i, none⟩ = some (.slice (some ⟨bi, oi, none⟩) 2 ci) ∧ X.cell? ⟨bi, oi, none⟩ = some (.int .i64 u0) ∧ X.cell? ⟨bi, oi + 1, none⟩ = some (.int .i64 u1)) := fun X hX => ⟨(World.cell?_of_block (a := ⟨rb, ro + i, none⟩) (hX rb XV.out.2.1)).trans XV.out.1, (World.cell?_of_block (a := ⟨bi, oi, none⟩) (hX bi hlti)).trans y0, (World.cell?_of_block (a := ⟨bi, oi + 1, none⟩) (hX bi hlti)).trans y1⟩
          clear hci eu0 eu1 hlti y0 y1
          go_wp2_with fail
          go_region_held3 (fun X => X.cell? ⟨rb, ro + i, none⟩ = some (.slice (some ⟨bi, oi, none⟩) 2 ci) ∧ X.cell? ⟨bi, oi, none⟩ = some (.int .i64 u0) ∧ X.cell? ⟨bi, oi + 1, none⟩ = some (.int .i64 u1)) (first | exact HS.out _ (fun k hk => hQ.out.1.bel.block k hk) | exact HS.out _ (fun k hk => H2.out.1.bel.block k hk)) (first
            | (go_at_call 18; refine (sayT w.heap.size P k f u0 u1 _ (by exact hQ.out.1.ts.of_blocks (Nat.le_refl _) fun _ _ => rfl) hQ.out.1.inv (by exact hQ.out.1.bel.size)).mono ?_; rintro e2 w2 ⟨f2, rfl, hA2, hb2, _, _⟩; have H2 : Hid (W1 w w2 P n most (say k u0 u1) f2 ∧ (say k u0 u1).hold = 0 ∧ (say k u0 u1).pl = 0) := ⟨⟨hA2, hQ.out.1.inv.say u0 u1, (say_n k u0 u1).1.trans hQ.out.1.num, (say_n k u0 u1).2.1.trans hQ.out.1.mst, same_from hb2 hQ.out.1.bel rfl rfl rfl rfl⟩, (say_n k u0 u1).2.2.1.trans hQ.out.2.1, (say_n k u0 u1).2.2.2.trans hQ.out.2.2⟩; clear hA2 hb2))
          go_wp2
          go_roundw
          case rel => exact ⟨i + 1, _, f2, by omega, by omega, by go_num, H2⟩
          case measure => simp [intOf]; omega
        · have h2l' : ((li : Int) == 2) = false := by simp; omega
          go_wp2
          go_roundw
          case rel => exact ⟨i + 1, k, f, by omega, by omega, by go_num, hQ⟩
          case measure => simp [intOf]; omega
      · rcases (show ((i : Int) < (len : Int) ∧ ¬ (i : Int) < 40) ∨ ¬ (i : Int) < (len : Int) by omega) with ⟨e1, e2⟩ | e1
        all_goals
          clear hgo
          go_wp2
          go_meet
          exact ⟨k, f, hQ⟩
  case rest =>
    obtain ⟨k0, f0, C7⟩ := hcut
    obtain ⟨w7, ew7⟩ : ∃ w7, w7 = wc := ⟨_, rfl⟩
    subst ew7
    clear C6
    go_wp2_with fail
    go_loopw [13, 14] (fun x13 x14 wr => ∃ (r : Nat) (k : K) (f : List Nat), x13 = .int .i64 (k.pl : Int) ∧ x14 = .int .i64 (r : Int) ∧ r ≤ 30 ∧ Hid (W1 w wr P n most k f ∧ k.hold = 0 ∧ all k + r ≤ 30)) (fun _ x _ => 31 - (intOf x).toNat)
    case atStart => exact ⟨0, k0, f0, by rw [C7.out.2.2]; rfl, rfl, by omega, C7.out.1, C7.out.2.1, by have := C7.out.1.inv.all30; omega⟩
    case round =>
      obtain ⟨r, k0, f0, rfl, rfl, hr30, hQ⟩ := hrel
      have hr' : (r : Int) < 31 := by omega
      obtain ⟨T0, eT⟩ : ∃ T0, T0 = all k0 := ⟨_, rfl⟩
      have C8 : Hid (W1 w wr P n most k0 f0 ∧ TF n most r 0 T0 k0 0) := ⟨hQ.out.1, by rw [eT]; exact TF.begin hQ.out.1.inv hQ.out.1.num hQ.out.1.mst hQ.out.2.1 hQ.out.2.2⟩
      clear hQ eT
      go_wp2_with fail
      go_loopw [13, 15, 16] (fun x13 x15 x16 wr => ∃ (i left : Nat) (k : K) (f : List Nat), x13 = .int .i64 (k.pl : Int) ∧ x15 = .int .i64 (left : Int) ∧ x16 = .int .i64 (i : Int) ∧ i ≤ n ∧ Hid (W1 w wr P n most k f ∧ TF n most r i T0 k left)) (fun _ _ x _ => n - (intOf x).toNat)
      case atStart => exact ⟨0, 0, k0, f0, rfl, rfl, rfl, by omega, C8⟩
      case round =>
        obtain ⟨i, left, k, f, rfl, rfl, rfl, hin, hQ⟩ := hrel
        by_cases hlt : i < n
        · have hlt' : (i : Int) < (n : Int) := by omega
          have hh : k.hold = i := by rw [hQ.out.2.hold, if_neg (by omega)]
          have hik : i < k.n := by rw [hQ.out.1.num]; exact hlt
          have ew1 : wts k (i : Int) = k.wt i := wts_in hik
          have ein : inC k (i : Int) = 0 := in_ok hik
          have ew2 : wts (pass k) (i : Int) = (k.wt i).drop most := by
            rw [wts_in (k := pass k) hik]
            show up k.wt k.hold ((k.wt k.hold).drop k.most) i = _
            rw [hh, up_same, hQ.out.1.mst]
          have ein2 : inC (pass k) (i : Int) = 0 := in_ok (k := pass k) hik
          have eout : out k = (k.wt i).take most := by
            unfold out
            rw [hh, hQ.out.1.mst]
          obtain ⟨n1, en1⟩ : ∃ n1, n1 = (k.wt i).length := ⟨_, rfl⟩
          obtain ⟨n2, en2⟩ : ∃ n2, n2 = (passL k).length := ⟨_, rfl⟩
          obtain ⟨n3, en3⟩ : ∃ n3, n3 = ((k.wt i).drop most).length := ⟨_, rfl⟩
          have ln2 : n2 = ((k.wt i).take most).length := by rw [en2]; unfold passL; rw [plN_len, eout]
          have lens : n2 ≤ most ∧ n2 + n3 = n1 ∧ (0 < n3 → n2 = most) ∧ n1 ≤ 30 ∧ k.pl + n1 ≤ 30 := by
            rw [ln2, en3, en1, List.length_take, List.length_drop]
            have := hQ.out.1.inv.len i
            omega
          obtain ⟨l1, l2, l3, l4, l5⟩ := lens
          have LL : Hid (n2 ≤ most ∧ n2 + n3 = n1 ∧ (0 < n3 → n2 = most)) := ⟨l1, l2, l3⟩
          have hn2 : n2 ≤ 30 := by omega
          have hn3 : n3 ≤ 30 := by omega
          obtain ⟨pl, epl⟩ : ∃ pl, pl = k.pl := ⟨_, rfl⟩
          have FX : Hid (wts k (i : Int) = k.wt i ∧ inC k (i : Int) = 0 ∧ wts (pass k) (i : Int) = (k.wt i).drop most ∧ inC (pass k) (i : Int) = 0 ∧ n1 = (k.wt i).length ∧ n2 = (passL k).length ∧ n3 = ((k.wt i).drop most).length ∧ out k = (k.wt i).take most ∧ k.hold = i ∧ (pl = k.pl ∧ n2 = ((k.wt i).take most).length)) := ⟨ew1, ein, ew2, ein2, en1, en2, en3, eout, hh, epl, ln2⟩
          have TN : Hid (TF n most r (i + 1) T0 (pass k) (left + n3) ∧ (pass k).pl = pl + n2) := by
            refine ⟨?_, ?_⟩
            · rw [en3]
              exact hQ.out.2.pass hlt
            · show k.pl + (out k).length = _
              rw [epl, eout, ln2]
          rw [← epl]
          have hpl : pl ≤ 30 := by rw [epl]; omega
          have l5' : pl + n1 ≤ 30 := by rw [epl]; exact l5
          have hleft : left ≤ 30 := by
            have q := hQ.out.2.less.1
            have q2 := hQ.out.2.far
            have q3 : sm k.wt i ≤ all k := by
              unfold all
              exact sm_le k.wt (by have := hQ.out.1.inv.five; have := hQ.out.1.num; omega)
            rw [hQ.out.2.lft]
            omega
          clear ew1 ein ew2 ein2 eout en1 en2 en3 hh hik ln2 epl l5 l1 l2 l3
          go_wp2_with fail
          refine (holdT w.heap.size P k f wr hQ.out.1.ts hQ.out.1.inv).mono ?_
          rintro e2 w2 ⟨rfl, hb2⟩
          rw [FX.out.2.2.2.2.2.2.2.2.1]
          have W2 : Hid (W1 w w2 P n most k f) := hQ.out.1.later hb2
          clear hb2
          go_wp2_with fail
          refine (wtT w.heap.size P k f (i : Int) w2 W2.out.ts W2.out.inv).mono ?_
          rintro e3 w3 ⟨a3, c3, rfl, hs3, hn3, hb3⟩
          rw [FX.out.2.1, errF_ok, FX.out.1, ← FX.out.2.2.2.2.1]
          rw [FX.out.1, ← FX.out.2.2.2.2.1] at hs3 hn3
          have W3 : Hid (W1 w w3 P n most k f ∧ Vw w3 a3 n1 (k.wt i) ∧ (∀ ad, a3 = some ad → 0 < n1 → ad.block ∉ f)) := by
            refine ⟨W2.out.later hb3, ?_, fun ad e q z => ?_⟩
            · obtain ⟨a, c, e, _, _, hv⟩ := hs3
              rw [← FX.out.2.2.2.2.1] at e hv
              injection e with e1 _ _
              rw [e1]
              exact hv
            · have := hn3 ad e q
              have := (W2.out.ts.fp _ z).2
              omega
          clear hs3 hn3 hb3
          go_wp2_with fail
          refine (passT w.heap.size P k f w3 W3.out.1.ts W3.out.1.inv W3.out.1.bel.size).mono ?_
          rintro e4 w4 ⟨a4, c4, f4, rfl, hp4, _, hn4, hA4, hb4, hk4, hnw4⟩
          rw [← FX.out.2.2.2.2.2.1] at hp4 hn4 ⊢
          have W4 : Hid (W1 w w4 P n most (pass k) f4 ∧ Vw w4 a3 n1 (k.wt i) ∧ Pl w4 a4 n2 (passL k)) := by
            refine ⟨⟨hA4, W3.out.1.inv.pass, W3.out.1.num, W3.out.1.mst, W3.out.1.bel.trans hb4⟩, vw_block W3.out.2.1 hk4.1 fun ad e q => ?_, hp4⟩
            obtain ⟨b, off, e', hlt, _⟩ := W3.out.2.1.2 q
            rw [e'] at e
            cases e
            exact hk4.2 b hlt (W3.out.2.2 _ e' q)
          clear hp4 hn4 hA4 hb4 hk4 hnw4
          go_wp2_with fail
          refine (wtT w.heap.size P (pass k) f4 (i : Int) w4 W4.out.1.ts W4.out.1.inv).mono ?_
          rintro e5 w5 ⟨a5, c5, rfl, _, _, hb5⟩
          rw [FX.out.2.2.2.1, errF_ok, FX.out.2.2.1, ← FX.out.2.2.2.2.2.2.1]
          have W5 : Hid (W1 w w5 P n most (pass k) f4 ∧ Vw w5 a3 n1 (k.wt i) ∧ Pl w5 a4 n2 (passL k)) := ⟨W4.out.1.later hb5, W4.out.2.1.later hb5, W4.out.2.2.later hb5⟩
          have d1 : ((i : Int) != (i : Int)) = false := by simp
          have d2 : ¬ (n2 : Int) > (most : Int) := by have := LL.out.1; omega
          have d2' : ¬ most < n2 := by have := LL.out.1; omega
          have d3 : ((n2 : Int) != (n1 : Int) - (n3 : Int)) = false := by have := LL.out.2.1; simp; omega
          clear hb5
          go_upto_region 27 with fail
          go_cut [164] from 127 to 163 (fun x wz => x = .bool false ∧ wz = w5)
          case first =>
            by_cases h3 : 0 < n3
            · have d4 : ((n2 : Int) != (most : Int)) = false := by have := LL.out.2.2 h3; simp; omega
              go_wp2
              go_meet
              exact ⟨rfl, rfl⟩
            · go_wp2
              go_meet
              exact ⟨rfl, rfl⟩
          case rest =>
            obtain ⟨rfl, rfl⟩ := hcut
            obtain ⟨w6, ew6⟩ : ∃ w6, w6 = wc := ⟨_, rfl⟩
            subst ew6
            clear d1 d2 d3 d2'
            go_wp2_with fail
            go_loopw [13, 23] (fun x13 x23 wr => ∃ j : Nat, j ≤ n2 ∧ x13 = .int .i64 ((pl + j : Nat) : Int) ∧ x23 = .int .i64 (j : Int) ∧ Hid (Below w6.heap.size w6 wr)) (fun _ x _ => n2 - (intOf x).toNat)
            case atStart => exact ⟨0, by omega, rfl, rfl, Below.refl _ _⟩
            case round =>
              obtain ⟨j, hj, rfl, rfl, hB⟩ := hrel
              by_cases hj2 : j < n2
              · have hj2' : (j : Int) < (n2 : Int) := by omega
                have hj1' : (j : Int) < (n1 : Int) := by have := LL.out.2.1; omega
                have hj0 : (0 : Int) ≤ (j : Int) := by omega
                obtain ⟨b4, o4, rfl, hb4, hc4⟩ := (W5.out.2.2.later hB.out).2 (by omega)
                obtain ⟨b3, o3, rfl, hb3, hc3⟩ := (W5.out.2.1.later hB.out).2 (by have := LL.out.2.1; omega)
                obtain ⟨x, ex⟩ : ∃ x, x = (k.wt i).getD j 0 := ⟨_, rfl⟩
                obtain ⟨pj, epj⟩ : ∃ pj : Int, pj = ((pl + j : Nat) : Int) := ⟨_, rfl⟩
                have eg : (passL k).getD j (0, 0) = (pj, x) := by
                  unfold passL
                  rw [FX.out.2.2.2.2.2.2.2.1, plN_get _ _ (by rw [← FX.out.2.2.2.2.2.2.2.2.2.2]; exact hj2), epj, ex, ← FX.out.2.2.2.2.2.2.2.2.2.1]
                  congr 1
                  have q : j < most := by have := LL.out.1; omega
                  simp [List.getD, List.getElem?_take_of_lt q]
                have g0 := (hc4 j hj2).1
                have g1 := (hc4 j hj2).2
                have g2 := hc3 j (by have := LL.out.2.1; omega)
                rw [eg] at g0 g1
                rw [← ex] at g2
                have d1 : (pj != pj) = false := by simp
                have d2 : (x != x) = false := by simp
                have EPJ : Hid (pj = ((pl + j : Nat) : Int)) := epj
                rw [← epj]
                have hpj : 0 ≤ pj ∧ pj ≤ 60 := by rw [epj]; omega
                clear hc4 hc3 eg ex epj
                go_wp2_with fail
                go_quiet (fail)
                go_wp2
                go_roundw
                case rel => exact ⟨j + 1, by omega, by rw [EPJ.out]; go_num, by go_num, ⟨hB.out.os, hB.out.tape, hB.out.output, hB.out.size, hB.out.block⟩⟩
                case measure => simp [intOf]; omega
              · have hj2' : ¬ (j : Int) < (n2 : Int) := by omega
                have ej : j = n2 := by omega
                subst ej
                have W7 : Hid (W1 w wr P n most (pass k) f4) := W5.out.1.later hB.out
                go_wp2
                go_roundw
                case rel => exact ⟨i + 1, left + n3, pass k, f4, by rw [TN.out.2], by go_num, by go_num, by omega, W7.out, TN.out.1⟩
                case measure => simp [intOf]; omega
        · have hlt' : ¬ (i : Int) < (n : Int) := by omega
          have ei : i = n := by omega
          subst ei
          by_cases hl : left = 0
          · have hl' : ((left : Int) == 0) = true := by simp; omega
            have B9 : Hid (Below w.heap.size w wr) := hQ.out.1.bel
            go_wp2
            go_ret
            exact ⟨rfl, B9.out⟩
          · have hl' : ((left : Int) == 0) = false := by simp; omega
            have TD : Hid (k.hold = 0 ∧ all k + (r + 1) ≤ 30) := hQ.out.2.done hl
            have r30 : r + 1 ≤ 30 := by have := TD.out.2; omega
            go_wp2
            go_roundw
            case rel => exact ⟨r + 1, k, f, rfl, by go_num, r30, hQ.out.1, TD.out⟩
            case measure => simp [intOf]; omega
theorem fair_any (n most : Int) (b : Option Addr) (len cap : Nat) (ls : List (List Int)) (w : World) (hR : Rw w b len ls) : Calls Try.prog 4 #[.int .i64 n, .int .i64 most, .slice b len cap] w fun e w' => e = .returned (.bool true) ∧ Below w.heap.size w w' := by
  by_cases h : (n < 2 ∨ 5 < n) ∨ most < 1 ∨ 10 < most
  · exact fair_bad n most b len cap w h
  · obtain ⟨x, rfl⟩ : ∃ x : Nat, n = (x : Int) := ⟨n.toNat, by omega⟩
    obtain ⟨y, rfl⟩ : ∃ y : Nat, most = (y : Int) := ⟨most.toNat, by omega⟩
    exact fair_ok x y b len cap ls w hR (by omega) (by omega) (by omega) (by omega)
end Go.Proofs.Ytfjhjjikaodadag.Tok
