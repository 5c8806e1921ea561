/-
  Contract of package agree's least: of those that wait the one with the least stamp, whichever way the map is gone through.
-/
import Derived.Test.YtcccheeeagphpagAgrG
namespace Go.Proofs.Ytcccheeeagphpag.Agr
open Go.RowKit Go.Maps
open Go.Proofs.Ytcccheeeagphpag.Fif (own_lt own_block own_form own_mono own_vw ret_bool info_int)
open Go.Proofs.Ytcccheeeagphpag.Vec (Vw)
open Go.Proofs.Ytcccheeeagphpag.MapV (MM MP RV kl putT delT wfI turned_below g_of_turned strike strike_new strike_old strike_self kl_key ranges_blocks next_cases)
open Go.Proofs.Ytcccheeeagphpag.Sep (KpL NewL)
set_option linter.unusedVariables false
variable {w w' : World} {base P mS : Nat} {mb : Nat → Nat} {hv : Nat → Value} {r : Rc} {g : G} {cW : Nat → Nat}

/-- the least of those that were looked at -/
def LM (g : G) (m : Nat) (left : Lit → Bool) (c : Nat) : Prop :=
  (c = 0 ∧ ∀ v, wts g m v = true → left (kl (v : Int)) = true) ∨
  (wts g m c = true ∧ left (kl (c : Int)) = false ∧ ∀ v, wts g m v = true → left (kl (v : Int)) = false → les (ts g m v) (ts g m c) = false)
theorem LM.none {m : Nat} {left : Lit → Bool} (hi : Inv0 g) (h : LM g m left 0) : ∀ v, wts g m v = true → left (kl (v : Int)) = true := by
  rcases h with ⟨_, h⟩ | ⟨h, _⟩
  · exact h
  · have := hi.wtsR h; omega
theorem LM.one {m v : Nat} {left : Lit → Bool} (hi : Inv0 g) (h : LM g m left 0) (hv : wts g m v = true) : LM g m (strike left (kl (v : Int))) v := by
  have h0 := h.none hi
  have hr := hi.wtsR hv
  refine .inr ⟨hv, strike_self (kl_key (wfI (by omega) (by omega))), fun u hu q => ?_⟩
  rcases strike_new q with a | a
  · rw [h0 u hu] at a; cases a
  · rw [show u = v by omega]; exact les_irr _
theorem LM.get {m c : Nat} {left : Lit → Bool} (h : LM g m left c) (hc : c ≠ 0) : wts g m c = true ∧ left (kl (c : Int)) = false ∧ ∀ v, wts g m v = true → left (kl (v : Int)) = false → les (ts g m v) (ts g m c) = false := by
  rcases h with ⟨h, _⟩ | h
  · exact absurd h hc
  · exact h
theorem LM.less {m c v : Nat} {left : Lit → Bool} (hi : Inv0 g) (h : LM g m left c) (hc : c ≠ 0) (hv : wts g m v = true) (hl : les (ts g m v) (ts g m c) = true) : LM g m (strike left (kl (v : Int))) v := by
  obtain ⟨h1, h2, h3⟩ := h.get hc
  have hr := hi.wtsR hv
  refine .inr ⟨hv, strike_self (kl_key (wfI (by omega) (by omega))), fun u hu q => ?_⟩
  rcases strike_new q with a | a
  · rw [Bool.eq_false_iff]
    intro z
    have := les_trans z hl
    rw [h3 u hu a] at this
    cases this
  · rw [show u = v by omega]; exact les_irr _
theorem LM.more {m c v : Nat} {left : Lit → Bool} (h : LM g m left c) (hc : c ≠ 0) (hl : les (ts g m v) (ts g m c) = false) : LM g m (strike left (kl (v : Int))) c := by
  obtain ⟨h1, h2, h3⟩ := h.get hc
  refine .inr ⟨h1, strike_old h2, fun u hu q => ?_⟩
  rcases strike_new q with a | a
  · exact h3 u hu a
  · rw [show u = v by omega]; exact hl
theorem LM.done {m c : Nat} {left : Lit → Bool} (hi : Inv0 g) (h : LM g m left c) (hl : ∀ k, left k = false) : c = best g m 30 := by
  refine best_is hi ?_
  rcases h with ⟨h, h2⟩ | ⟨h1, h2, h3⟩
  · refine .inl ⟨h, fun v => ?_⟩
    rw [Bool.eq_false_iff]
    intro q
    have := h2 v q
    rw [hl] at this
    cases this
  · exact .inr ⟨h1, fun v hv => h3 v hv (hl _)⟩
/-- the group that it shows, with other rows of what was heard -/
def rcH (g : G) (cW : Nat → Nat) (H : Nat → List Nat) : Rc := ⟨g.n, TS g, cnt g 30, TW g, cW, g.most, H⟩
theorem rc_eq (g : G) (cW : Nat → Nat) : rc g cW = rcH g cW g.hd := rfl
variable {H : Nat → List Nat}
/-- as far as it goes -/
def LR (w wr : World) (b n : Nat) (D : DataW Value) (g : G) (m c : Nat) (left : Lit → Bool) (cnt : Nat) : Prop :=
  wr.ranges Try.prog 3 RV b w.heap.size n D left cnt ∧ Below w.heap.size w wr ∧ LM g m left c ∧ w.heap.size < wr.heap.size
set_option maxRecDepth 100000 in
set_option maxHeartbeats 1000000 in
theorem least_any (h : AF w base P mS mb hv (rcH g cW H)) (hi : Inv0 g) (m : Nat) (hm : m < g.n) : Calls Try.prog 43 #[.pointer (some ⟨P, 0, none⟩), .int .i64 (m : Int)] w fun x w' => x = .returned (.int .i64 ((best g m 30 : Nat) : Int)) ∧ Below w.heap.size w w' := by
  have hm5 : m < 5 := Nat.lt_of_lt_of_le hm h.five
  obtain ⟨D, hD, vD⟩ := h.wait m hm
  have HD : Hid (MP D (TW g m) (cW m)) := vD
  have HG : Hid (AF w base P mS mb hv (rcH g cW H) ∧ Inv0 g ∧ m < g.n) := ⟨h, hi, hm⟩
  have HO : Hid (w.ownsMap Try.prog 3 RV (mb m) (Maps.size D) D) := hD
  have c0 := h.cw hm
  have hm0 : (0 : Int) ≤ (m : Int) := by omega
  have hm5' : (m : Int) < 5 := by omega
  clear hD vD h hi hm hm5
  go_enter Try.func43, Try.ntmps43
  go_wp2_with (first | (at_range; refine wpList_range_own _ rfl _ 57 rfl 3 71 MapV.law Try.underlying57 _ (mb m) (Maps.size D) D rfl HO.out ?_; intro w0 hrg0 hg0 hs0) | go_in)
  have F0 : Hid (LR w w0 (mb m) (Maps.size D) D g m 0 (Maps.has D) (Maps.size D)) := by
    refine ⟨hrg0, (Below.refl _ _).grown hg0 (Nat.le_refl _) (by simp), .inl ⟨rfl, fun v hv => ?_⟩, by omega⟩
    rw [HD.out.has, TW_at hv]
    rfl
  clear hrg0 hg0 hs0 c0 HO
  go_frame
  go_loopw [5] (fun x wr => ∃ (c : Nat) (left : Lit → Bool) (cnt : Nat), x = .int .i64 (c : Int) ∧ Hid (LR w wr (mb m) (Maps.size D) D g m c left cnt)) (fun _ wr => wr.rangeLeft (mb m) w.heap.size)
  case atStart => exact ⟨0, _, _, rfl, F0⟩
  case round =>
    obtain ⟨c, left, cnt, rfl, hF⟩ := hrel
    obtain ⟨hrg, hB, hM, hsz⟩ := hF.out
    rcases next_cases hrg HD.out 0 with ⟨h0, hl, hrun⟩ | ⟨i, u, hTi, hwf, hle, w1, cnt1, hrun, hrg1, hlt, hg1, hs1, hen⟩
    · have HH : Hid (c = best g m 30 ∧ Below w.heap.size w wr) := ⟨hM.done HG.out.2.1 hl, hB⟩
      clear hrg hB hM hl hF h0
      go_wp2
      go_ret
      exact ⟨by rw [← HH.out.1]; rfl, HH.out.2⟩
    · obtain ⟨v, rfl, hv, rfl⟩ := TW_some hTi
      obtain ⟨a, ea⟩ : ∃ a : Int, a = ((ts g m v).1 : Int) := ⟨_, rfl⟩
      obtain ⟨b, eb⟩ : ∃ b : Int, b = ((ts g m v).2 : Int) := ⟨_, rfl⟩
      obtain ⟨d, ed⟩ : ∃ d, d = g.kn v m := ⟨_, rfl⟩
      have eval : waV (ts g m v) (g.kn v m) = .agg #[.int .i64 a, .int .i64 b, .bool d] := by rw [ea, eb, ed]; rfl
      rw [eval] at hrun hen
      obtain ⟨W2, eW2⟩ : ∃ W2, W2 = w1.alloc (.cells #[.int .i64 a, .int .i64 b, .bool d] 71) := ⟨_, rfl⟩
      have Bw1 : Below w.heap.size w w1 := hB.grown hg1 hB.size (fun k q => by cases q; omega)
      have B2 : Hid (Below w1.heap.size w1 W2 ∧ W2.heap.size = w1.heap.size + 1) := ⟨by rw [eW2]; exact (Below.refl _ _).alloc (Nat.le_refl _) _, by rw [eW2]; simp⟩
      have BW2 : Hid (Below w.heap.size w W2) := Bw1.trans (B2.out.1.mono Bw1.size)
      have R2 : Hid (W2.ranges Try.prog 3 RV (mb m) w.heap.size (Maps.size D) D (strike left (kl (v : Int))) cnt1) := by
        rw [eW2]
        exact hrg1.alloc _
      have v0 : W2.cell? ⟨w1.heap.size, 0, none⟩ = some (.int .i64 a) := by rw [eW2]; go_cell
      have v1 : W2.cell? ⟨w1.heap.size, 1, none⟩ = some (.int .i64 b) := by rw [eW2]; go_cell
      have v2 : W2.cell? ⟨w1.heap.size, 2, none⟩ = some (.bool d) := by rw [eW2]; go_cell
      have HH : Hid (LM g m left c ∧ wts g m v = true ∧ cnt1 < cnt ∧ wr.rangeLeft (mb m) w.heap.size = cnt ∧ w.heap.size < w1.heap.size ∧ a = ((ts g m v).1 : Int) ∧ b = ((ts g m v).2 : Int)) := ⟨hM, hv, hlt, hrg.left_eq, by omega, ea, eb⟩
      have fin : Hid (∀ c' : Nat, ∀ X : World, Below W2.heap.size W2 X → LM g m (strike left (kl (v : Int))) c' → LR w X (mb m) (Maps.size D) D g m c' (strike left (kl (v : Int))) cnt1 ∧ X.rangeLeft (mb m) w.heap.size < wr.rangeLeft (mb m) w.heap.size) := by
        intro c' X hX hL
        have l2 : w.heap.size < W2.heap.size := by have := B2.out.2; omega
        have lm : mb m < W2.heap.size := by have := (HG.out.1.wait m HG.out.2.2).lt; omega
        have hR := ranges_blocks R2.out (hX.block _ lm) (hX.block _ l2)
        exact ⟨⟨hR, BW2.out.trans (hX.mono BW2.out.size), hL, Nat.lt_of_lt_of_le l2 hX.size⟩, by rw [hR.left_eq, HH.out.2.2.2.1]; exact HH.out.2.2.1⟩
      clear hrg hB hM hF hle hrg1 hlt hg1 hs1 hTi ea eb ed eval Bw1 hsz hwf hv
      by_cases hc : c = 0
      · have HC : Hid (c = 0) := hc
        have e0 : (c : Int) = 0 := by omega
        rw [e0]
        clear hc e0
        go_wp2_with fail
        rw [← eW2]
        clear eW2 hrun hen
        go_quiet (fail)
        go_wp2
        have q := fin.out v (W2.drewN nq) ⟨rfl, rfl, rfl, Nat.le_refl _, fun _ _ => rfl⟩ (LM.one HG.out.2.1 (by have := HH.out.1; rw [HC.out] at this; exact this) HH.out.2.1)
        exact ⟨⟨v, _, _, rfl, q.1⟩, q.2⟩
      · have HC : Hid (c ≠ 0) := hc
        have hw := (HH.out.1.get hc).1
        obtain ⟨a', ea⟩ : ∃ a : Int, a = ((ts g m c).1 : Int) := ⟨_, rfl⟩
        obtain ⟨b', eb⟩ : ∃ b : Int, b = ((ts g m c).2 : Int) := ⟨_, rfl⟩
        obtain ⟨d', ed⟩ : ∃ d, d = g.kn c m := ⟨_, rfl⟩
        obtain ⟨cv, ecv⟩ : ∃ cv : Int, cv = orA (cmpA a a') (cmpA b b') := ⟨_, rfl⟩
        have ECV : Hid (cv = orA (cmpA a a') (cmpA b b') ∧ decide (cv < 0) = les (ts g m v) (ts g m c)) := by
          refine ⟨ecv, ?_⟩
          rw [← cmS_lt (ts g m v) (ts g m c), ecv, ea, eb, HH.out.2.2.2.2.2.1, HH.out.2.2.2.2.2.2]
          rfl
        have HS : Hid (∀ X : World, Below W2.heap.size W2 X → ∀ w' : World, w'.heap = X.heap → w'.cell? ⟨w1.heap.size, 0, none⟩ = some (.int .i64 a) ∧ w'.cell? ⟨w1.heap.size, 1, none⟩ = some (.int .i64 b) ∧ w'.cell? ⟨P, 7 + m, none⟩ = some (.map (some (mb m))) ∧ (Instr.lookup 57 (.map (some (mb m))) (.int .i64 (c : Int)) false).run Try.prog w' = .ok (.agg #[.int .i64 a', .int .i64 b', .bool d']) w') := by
          intro X hX w' h
          have gX := HG.out.1.later (BW2.out.trans (hX.mono BW2.out.size))
          have l1 : w1.heap.size < W2.heap.size := by have := B2.out.2; omega
          refine ⟨(c_heap h _).trans ((hX.cell (p := ⟨w1.heap.size, 0, none⟩) l1).trans v0), (c_heap h _).trans ((hX.cell (p := ⟨w1.heap.size, 1, none⟩) l1).trans v1), (c_heap h _).trans (gX.cw HG.out.2.2), ?_⟩
          have hr := HG.out.2.1.wtsR hw
          have q := gX.lkW1 (s := some (ts g m c, g.kn c m)) HG.out.2.2 (x := (c : Int)) (wfI (by omega) (by omega)) (TW_at hw) w' (by rw [h])
          rw [ea, eb, ed]
          exact q
        have hfd := fldS a' b' d'
        have hd0 : ((c : Int) == 0) = false := by simp; omega
        have hd1 : decide ((c : Int) = 0) = false := by simp; omega
        have hd2 : ¬ (c : Int) = 0 := by omega
        clear ea eb ed ecv hw hc
        by_cases hlt : cv < 0
        · have HL : Hid (les (ts g m v) (ts g m c) = true) := by rw [← ECV.out.2]; exact decide_eq_true hlt
          go_wp2_with fail
          rw [← eW2]
          clear eW2 hrun hen
          go_region_held3 (fun w' => w'.cell? ⟨w1.heap.size, 0, none⟩ = some (.int .i64 a) ∧ w'.cell? ⟨w1.heap.size, 1, none⟩ = some (.int .i64 b) ∧ w'.cell? ⟨P, 7 + m, none⟩ = some (.map (some (mb m))) ∧ (Instr.lookup 57 (.map (some (mb m))) (.int .i64 (c : Int)) false).run Try.prog w' = .ok (.agg #[.int .i64 a', .int .i64 b', .bool d']) w') (first | exact HS.out _ B9.out _ rfl | exact HS.out _ (Below.refl _ _) _ rfl) (first
            | (go_at_call 25; refine (cmpZ_any a b a' b' _).mono ?_; rintro e9 w9 ⟨rfl, hb⟩; rw [← ECV.out.1]; have B9 : Hid (Below W2.heap.size W2 w9) := below_sameA hb rfl rfl rfl rfl; clear hb))
          try go_frame
          go_wp2
          have q := fin.out v w9 B9.out (LM.less HG.out.2.1 HH.out.1 HC.out HH.out.2.1 HL.out)
          exact ⟨⟨v, _, _, rfl, q.1⟩, q.2⟩
        · have HL : Hid (les (ts g m v) (ts g m c) = false) := by rw [← ECV.out.2]; exact decide_eq_false hlt
          go_wp2_with fail
          rw [← eW2]
          clear eW2 hrun hen
          go_region_held3 (fun w' => w'.cell? ⟨w1.heap.size, 0, none⟩ = some (.int .i64 a) ∧ w'.cell? ⟨w1.heap.size, 1, none⟩ = some (.int .i64 b) ∧ w'.cell? ⟨P, 7 + m, none⟩ = some (.map (some (mb m))) ∧ (Instr.lookup 57 (.map (some (mb m))) (.int .i64 (c : Int)) false).run Try.prog w' = .ok (.agg #[.int .i64 a', .int .i64 b', .bool d']) w') (first | exact HS.out _ B9.out _ rfl | exact HS.out _ (Below.refl _ _) _ rfl) (first
            | (go_at_call 25; refine (cmpZ_any a b a' b' _).mono ?_; rintro e9 w9 ⟨rfl, hb⟩; rw [← ECV.out.1]; have B9 : Hid (Below W2.heap.size W2 w9) := below_sameA hb rfl rfl rfl rfl; clear hb))
          try go_frame
          go_wp2
          have q := fin.out c w9 B9.out (LM.more HH.out.1 HC.out HL.out)
          exact ⟨⟨c, _, _, rfl, q.1⟩, q.2⟩
end Go.Proofs.Ytcccheeeagphpag.Agr
