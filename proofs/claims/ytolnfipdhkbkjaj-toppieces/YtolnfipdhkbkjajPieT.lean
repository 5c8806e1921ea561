/-
  What is wrong with a piece, did it come, Take.
-/
import Derived.Test.YtolnfipdhkbkjajPieK
import Derived.Maps.RangeWalk
namespace Go.Proofs.Ytolnfipdhkbkjaj.Pie
open Go.RowKit Go.Maps
open Go.Proofs.Ytolnfipdhkbkjaj.Fif (own_lt own_block own_form own_mono Kp ret_bool)
set_option linter.unusedVariables false
variable {w w' : World} {base P mb : Nat} {j : J} {T : Nat → Option ByteArray}

theorem mayBe_any (a b : Int) (c : ByteArray) (w : World) (r : Bool) (hr : pcBad (a, b, c) = !r) : Calls Try.prog 22 #[.agg #[.int .i64 a, .int .i64 b, .string c]] w fun x w' => x = .returned (.bool r) ∧ Below w.heap.size w w' := by
  have HB : Hid (Below w.heap.size w (w.alloc (.cells #[.int .i64 a, .int .i64 b, .string c] 35))) := (Below.refl _ _).alloc (Nat.le_refl _) _
  have hr' : (decide (b ≥ 1) && decide (b ≤ 60) && decide (a ≥ 0) && decide (a < b) && decide ((c.size : Int) ≤ 12)) = r := by
    have e : (decide (b ≥ 1) && decide (b ≤ 60) && decide (a ≥ 0) && decide (a < b) && decide ((c.size : Int) ≤ 12)) = !pcBad (a, b, c) := by
      rw [Bool.eq_iff_iff]
      simp [pcBad]
      omega
    rw [e, hr, Bool.not_not]
  clear hr
  cases d1 : decide (b ≥ 1)
  · rw [d1] at hr'
    simp at hr'
    subst hr'
    go_enter Try.func22, Try.ntmps22
    go_wp2
    go_ret
    exact ⟨rfl, HB.out⟩
  · cases d2 : decide (b ≤ 60)
    · rw [d1, d2] at hr'
      simp at hr'
      subst hr'
      go_enter Try.func22, Try.ntmps22
      go_wp2
      go_ret
      exact ⟨rfl, HB.out⟩
    · cases d3 : decide (a ≥ 0)
      · rw [d1, d2, d3] at hr'
        simp at hr'
        subst hr'
        go_enter Try.func22, Try.ntmps22
        go_wp2
        go_ret
        exact ⟨rfl, HB.out⟩
      · cases d4 : decide (a < b)
        · rw [d1, d2, d3, d4] at hr'
          simp at hr'
          subst hr'
          go_enter Try.func22, Try.ntmps22
          go_wp2
          go_ret
          exact ⟨rfl, HB.out⟩
        · rw [d1, d2, d3, d4] at hr'
          have d5 : decide ((c.size : Int) ≤ 12) = r := by rw [← hr']; simp
          clear hr'
          go_enter Try.func22, Try.ntmps22
          go_wp2
          go_ret
          exact ⟨rfl, HB.out⟩
set_option maxRecDepth 100000 in
theorem has_any (h : JF w base P mb j) {i : Nat} (hi : i < 60) : Calls Try.prog 15 #[.pointer (some ⟨P, 0, none⟩), .int .i64 (i : Int)] w fun x w' => x = .returned (.bool (j.T i).isSome) ∧ Below w.heap.size w w' := by
  obtain ⟨c1, z1⟩ := h.c1
  obtain ⟨a, b, t, hl⟩ := h.map.look_ok (show i < 1000 by omega)
  have hlk := hl w rfl
  clear h hl
  go_enter Try.func15, Try.ntmps15
  go_wp2
  go_ret
  exact ⟨rfl, (Below.refl _ _).alloc (Nat.le_refl _) _⟩
theorem drewsP {B : Nat} {a w : World} (h : Below B a w) (n : Nat) : Below B a (w.drewN n) := ⟨h.os, h.tape, h.output, h.size, h.block⟩
theorem below_same {X w w' : World} (h : Below X.heap.size X w') (e : X.heap = w.heap) (e1 : X.os = w.os) (e2 : X.tape = w.tape) (e3 : X.output = w.output) : Below w.heap.size w w' := ⟨by rw [← e1]; exact h.os, by rw [← e2]; exact h.tape, by rw [← e3]; exact h.output, by rw [← e]; exact h.size, fun k hk => by rw [← e]; exact h.block k (by rw [e]; exact hk)⟩
theorem c_heap {X Y : World} (e : X.heap = Y.heap) (p : Addr) : X.cell? p = Y.cell? p := by simp only [World.cell?, e]
/-- the piece that was handed in, in a block of its own -/
theorem box3 (w : World) (a b : Int) (c : ByteArray) : (w.alloc (.cells #[.int .i64 a, .int .i64 b, .string c] 35)).rowIs w.heap.size 35 3 (fun k => if k = 0 then .int .i64 a else if k = 1 then .int .i64 b else .string c) := World.rowIs_alloc w #[.int .i64 a, .int .i64 b, .string c] 35 _ fun i hi => by
  have hi : i < 3 := hi
  rcases i with _ | _ | _ | i <;> first | rfl | omega
theorem take_at {P : Program} {ops : Array Oper} {Q : Exit → Act → World → Prop} {md : Region.Mode} {i : Nat} (d : Nat) {oi : Oper} {v : Value} {fuel : Nat} {listed : Array Bool} {a : Act} {w : World} (hi : ops[i]? = some oi) (hd : oi.dst = some d)
    (hs : Region.noSelect ops = true) (hf : Region.free md ops listed i = true) (hr : (Region.ready md ops listed).contains i = true)
    (hQ : ∀ c a w, Q (.panic c) (a.put (some d) v) w → Q (.panic c) a w) (hy : Yields P ops oi v a)
    (h : wpAny P md ops Q fuel (listed.setIfInBounds i true) (a.put (some d) v) w) : wpAny P md ops Q (fuel + 1) listed a w :=
  wpAny_take hi hs hf hr (by rw [hd]; exact hQ) hy (by rw [hd]; exact h)
theorem fld_t (a b : Int) (t : ByteArray) (X : World) : (Instr.field 35 (.agg #[.int .i64 a, .int .i64 b, .string t]) 2).run Try.prog X = .ok (.string t) X := by kernel_rfl
theorem check_bad (a b : Int) (c : ByteArray) (w : World) (hb : pcBad (a, b, c) = true) : Calls Try.prog 14 #[.pointer (some ⟨P, 0, none⟩), .agg #[.int .i64 a, .int .i64 b, .string c]] w fun x w' => x = .returned (errF 1) ∧ Below w.heap.size w w' := by
  go_enter Try.func14, Try.ntmps14
  go_wp2_with (refine (mayBe_any a b c _ false hb).mono ?_)
  rintro e w1 ⟨rfl, hb1⟩
  go_wp2
  go_ret
  exact ⟨rfl, ((Below.refl w.heap.size w).alloc (Nat.le_refl _) _).trans (hb1.mono (by simp))⟩
theorem cnt_of (h : JF w base P mb j) (hi : JInv j) : (0 < cN j.T 60) ↔ j.of ≠ 0 := by
  have := hi.cnt
  constructor
  · intro q; omega
  · intro q; have := h.any q; omega
set_option maxRecDepth 100000 in
set_option maxHeartbeats 4000000 in
theorem check_right (m : Nat) (b : Int) (c : ByteArray) (h : JF w base P mb j) (hi : JInv j) (hm : m < 60) (hb : pcBad ((m : Int), b, c) = false) (k : Int) (hk : k = takeC j ((m : Int), b, c)) : Calls Try.prog 14 #[.pointer (some ⟨P, 0, none⟩), .agg #[.int .i64 (m : Int), .int .i64 b, .string c]] w fun x w' => x = .returned (errF k) ∧ Below w.heap.size w w' := by
  have hcnt := cnt_of h hi
  have hc60 := cN_le j.T 60
  obtain ⟨n, en⟩ : ∃ n, n = cN j.T 60 := ⟨_, rfl⟩
  obtain ⟨o, eo⟩ : ∃ o, o = j.of := ⟨_, rfl⟩
  have ek : k = if o ≠ 0 ∧ (o : Int) ≠ b then 3 else if other j ((m : Int), b, c) = true then 7 else 0 := by
    rw [hk, eo]
    unfold takeC
    rw [if_neg (by rw [hb]; decide)]
  rw [← en] at hcnt hc60
  rw [← eo] at hcnt
  have HJ : Hid (JF w base P mb j ∧ n = cN j.T 60 ∧ o = j.of) := ⟨h, en, eo⟩
  have HK : Hid _ := ek
  have HC : Hid _ := hcnt
  clear h hi hk ek en eo hcnt
  go_enter Try.func14, Try.ntmps14
  go_wp2_with (refine (mayBe_any (m : Int) b c _ true hb).mono ?_)
  rintro e w1 ⟨rfl, hb1⟩
  have B1 : Hid (Below w.heap.size w w1) := ((Below.refl w.heap.size w).alloc (Nat.le_refl _) _).trans (hb1.mono (by simp))
  have h1 : JF w1 base P mb j := HJ.out.1.later B1.out
  have r1 := World.rowIs.of_block (box3 w (m : Int) b c) (hb1.block w.heap.size (by simp))
  have k0 : w1.cell? ⟨w.heap.size, 0, none⟩ = some (.int .i64 (m : Int)) := World.rowIs.cell r1 (i := 0) (by omega)
  have k1 : w1.cell? ⟨w.heap.size, 1, none⟩ = some (.int .i64 b) := World.rowIs.cell r1 (i := 1) (by omega)
  have k2 : w1.cell? ⟨w.heap.size, 2, none⟩ = some (.string c) := World.rowIs.cell r1 (i := 2) (by omega)
  have hlt : w.heap.size < w1.heap.size := World.rowIs.lt r1
  have c0 := h1.c0.1
  rw [← HJ.out.2.2] at c0
  have c1 := h1.c1.1
  have hl : ∀ W : World, W.heap[mb]? = w1.heap[mb]? → (Builtin.len_ #[47] 3 #[.map (some mb)]).run Try.prog W = .ok (.int .i64 (n : Nat)) W := by rw [HJ.out.2.1]; exact h1.map.len 3
  have hl1 := fun k : Nat => hl (w1.drewN k) rfl
  have hl0 := hl w1 rfl
  have H1 : Hid (JF w1 base P mb j) := h1
  clear hb1 r1 h1 hl
  have HN : Hid (∀ X : World, X.heap = w1.heap → JF X base P mb j) := fun X e => H1.out.of_blocks (by rw [e]) (by rw [e])
  have hP1 := H1.out.lt.1
  have HT : Hid (o = 0 ∨ (o : Int) = b → k = if other j ((m : Int), b, c) = true then 7 else 0) := fun q => by
    rw [HK.out, if_neg]
    rintro ⟨q1, q2⟩
    rcases q with q | q
    · exact q1 q
    · exact q2 q
  cases hT : j.T m with
  | none =>
    have eN : other j ((m : Int), b, c) = false := by
      unfold other
      rw [show ((m : Int), b, c).1.toNat = m from rfl, hT]
    by_cases hn : 0 < n
    · have dn : decide ((n : Int) > 0) = true := decide_eq_true (by omega)
      by_cases ho : (o : Int) = b
      · have dno : (b != (o : Int)) = false := by simp [ho]
        go_wp2_with fail
        go_quiet (fail)
        go_wp2_with fail
        refine wp_region_any (by kernel_rfl) ?_
        change wpAny _ _ _ _ _ _ _ (World.drew _)
        refine take_at (i := 0) 28 (v := .pointer (some ⟨P, 0, none⟩)) rfl rfl (by kernel_rfl) (by kernel_rfl) (by kernel_rfl) (fun _ _ _ h => h) (Or.inl ⟨by kernel_rfl, fun _ => by first | rfl | go_simp⟩) ?_
        refine take_at (i := 1) 29 (v := .pointer (some ⟨w.heap.size, 0, none⟩)) rfl rfl (by kernel_rfl) (by kernel_rfl) (by kernel_rfl) (fun _ _ _ h => h) (Or.inl ⟨by kernel_rfl, fun _ => by first | rfl | go_simp⟩) ?_
        refine wpAny_ready (rs := [2]) (by kernel_rfl) (by simp) ?_
        refine AllReady.cons rfl (fun KK hK => ?_) AllReady.nil
        go_simp
        refine hK _ _ ?_
        clear hK KK
        refine wpAny_ready (rs := [3]) (by kernel_rfl) (by simp) ?_
        refine AllReady.cons rfl (fun KK hK => ?_) AllReady.nil
        go_simp
        go_wp2_with (go_at_call 15; refine (has_any (base := base) (mb := mb) (j := j) (by exact HN.out _ rfl) hm).mono ?_; rintro e9 w9 ⟨rfl, hb9⟩; rw [hT]; have B9 : Hid (Below w1.heap.size w1 w9) := below_same hb9 rfl rfl rfl rfl; clear hb9)
        try go_frame
        refine take_at (i := 4) 32 (v := .bool false) rfl rfl (by kernel_rfl) (by kernel_rfl) (by kernel_rfl) (fun _ _ _ h => h) (Or.inl ⟨by kernel_rfl, fun _ => by first | rfl | go_simp⟩) ?_
        refine take_at (i := 5) 33 (v := undef) rfl rfl (by kernel_rfl) (by kernel_rfl) (by kernel_rfl) (fun _ _ _ h => h) (Or.inr ⟨by kernel_rfl, rfl⟩) ?_
        refine take_at (i := 6) 34 (v := undef) rfl rfl (by kernel_rfl) (by kernel_rfl) (by kernel_rfl) (fun _ _ _ h => h) (Or.inr ⟨by kernel_rfl, rfl⟩) ?_
        refine take_at (i := 7) 35 (v := undef) rfl rfl (by kernel_rfl) (by kernel_rfl) (by kernel_rfl) (fun _ _ _ h => h) (Or.inr ⟨by kernel_rfl, rfl⟩) ?_
        refine take_at (i := 8) 36 (v := undef) rfl rfl (by kernel_rfl) (by kernel_rfl) (by kernel_rfl) (fun _ _ _ h => h) (Or.inr ⟨by kernel_rfl, rfl⟩) ?_
        refine take_at (i := 9) 37 (v := undef) rfl rfl (by kernel_rfl) (by kernel_rfl) (by kernel_rfl) (fun _ _ _ h => h) (Or.inr ⟨by kernel_rfl, rfl⟩) ?_
        refine take_at (i := 10) 38 (v := undef) rfl rfl (by kernel_rfl) (by kernel_rfl) (by kernel_rfl) (fun _ _ _ h => h) (Or.inr ⟨by kernel_rfl, rfl⟩) ?_
        refine take_at (i := 11) 39 (v := undef) rfl rfl (by kernel_rfl) (by kernel_rfl) (by kernel_rfl) (fun _ _ _ h => h) (Or.inr ⟨by kernel_rfl, rfl⟩) ?_
        refine take_at (i := 12) 40 (v := undef) rfl rfl (by kernel_rfl) (by kernel_rfl) (by kernel_rfl) (fun _ _ _ h => h) (Or.inr ⟨by kernel_rfl, rfl⟩) ?_
        refine take_at (i := 13) 41 (v := undef) rfl rfl (by kernel_rfl) (by kernel_rfl) (by kernel_rfl) (fun _ _ _ h => h) (Or.inr ⟨by kernel_rfl, rfl⟩) ?_
        refine take_at (i := 14) 42 (v := undef) rfl rfl (by kernel_rfl) (by kernel_rfl) (by kernel_rfl) (fun _ _ _ h => h) (Or.inr ⟨by kernel_rfl, rfl⟩) ?_
        refine take_at (i := 15) 43 (v := undef) rfl rfl (by kernel_rfl) (by kernel_rfl) (by kernel_rfl) (fun _ _ _ h => h) (Or.inr ⟨by kernel_rfl, rfl⟩) ?_
        try go_frame
        refine take_at (i := 16) 44 (v := .bool false) rfl rfl (by kernel_rfl) (by kernel_rfl) (by kernel_rfl) (fun _ _ _ h => h) (Or.inl ⟨by kernel_rfl, fun _ => by first | rfl | go_simp⟩) ?_
        try go_frame
        refine take_at (i := 17) 27 (v := .bool false) rfl rfl (by kernel_rfl) (by kernel_rfl) (by kernel_rfl) (fun _ _ _ h => h) (Or.inl ⟨by kernel_rfl, fun _ => by first | rfl | go_simp⟩) ?_
        refine wpAny_done (by kernel_rfl) ?_ _
        try go_frame
        go_wp2
        go_ret
        refine ⟨?_, B1.out.trans (B9.out.mono B1.out.size)⟩
        rw [HT.out (.inr ho), eN]
        rfl
      · have dno : (b != (o : Int)) = true := by simpa using fun q => ho q.symm
        go_wp2_with fail
        go_quiet (fail)
        go_wp2
        go_ret
        refine ⟨?_, drewsP B1.out _⟩
        rw [HK.out, if_pos ⟨HC.out.1 hn, ho⟩]
        rfl
    · have dn : decide ((n : Int) > 0) = false := decide_eq_false (by omega)
      go_wp2_with fail
      go_quiet (fail)
      go_wp2_with fail
      refine wp_region_any (by kernel_rfl) ?_
      change wpAny _ _ _ _ _ _ _ (World.drew _)
      refine take_at (i := 0) 28 (v := .pointer (some ⟨P, 0, none⟩)) rfl rfl (by kernel_rfl) (by kernel_rfl) (by kernel_rfl) (fun _ _ _ h => h) (Or.inl ⟨by kernel_rfl, fun _ => by first | rfl | go_simp⟩) ?_
      refine take_at (i := 1) 29 (v := .pointer (some ⟨w.heap.size, 0, none⟩)) rfl rfl (by kernel_rfl) (by kernel_rfl) (by kernel_rfl) (fun _ _ _ h => h) (Or.inl ⟨by kernel_rfl, fun _ => by first | rfl | go_simp⟩) ?_
      refine wpAny_ready (rs := [2]) (by kernel_rfl) (by simp) ?_
      refine AllReady.cons rfl (fun KK hK => ?_) AllReady.nil
      go_simp
      refine hK _ _ ?_
      clear hK KK
      refine wpAny_ready (rs := [3]) (by kernel_rfl) (by simp) ?_
      refine AllReady.cons rfl (fun KK hK => ?_) AllReady.nil
      go_simp
      go_wp2_with (go_at_call 15; refine (has_any (base := base) (mb := mb) (j := j) (by exact HN.out _ rfl) hm).mono ?_; rintro e9 w9 ⟨rfl, hb9⟩; rw [hT]; have B9 : Hid (Below w1.heap.size w1 w9) := below_same hb9 rfl rfl rfl rfl; clear hb9)
      try go_frame
      refine take_at (i := 4) 32 (v := .bool false) rfl rfl (by kernel_rfl) (by kernel_rfl) (by kernel_rfl) (fun _ _ _ h => h) (Or.inl ⟨by kernel_rfl, fun _ => by first | rfl | go_simp⟩) ?_
      refine take_at (i := 5) 33 (v := undef) rfl rfl (by kernel_rfl) (by kernel_rfl) (by kernel_rfl) (fun _ _ _ h => h) (Or.inr ⟨by kernel_rfl, rfl⟩) ?_
      refine take_at (i := 6) 34 (v := undef) rfl rfl (by kernel_rfl) (by kernel_rfl) (by kernel_rfl) (fun _ _ _ h => h) (Or.inr ⟨by kernel_rfl, rfl⟩) ?_
      refine take_at (i := 7) 35 (v := undef) rfl rfl (by kernel_rfl) (by kernel_rfl) (by kernel_rfl) (fun _ _ _ h => h) (Or.inr ⟨by kernel_rfl, rfl⟩) ?_
      refine take_at (i := 8) 36 (v := undef) rfl rfl (by kernel_rfl) (by kernel_rfl) (by kernel_rfl) (fun _ _ _ h => h) (Or.inr ⟨by kernel_rfl, rfl⟩) ?_
      refine take_at (i := 9) 37 (v := undef) rfl rfl (by kernel_rfl) (by kernel_rfl) (by kernel_rfl) (fun _ _ _ h => h) (Or.inr ⟨by kernel_rfl, rfl⟩) ?_
      refine take_at (i := 10) 38 (v := undef) rfl rfl (by kernel_rfl) (by kernel_rfl) (by kernel_rfl) (fun _ _ _ h => h) (Or.inr ⟨by kernel_rfl, rfl⟩) ?_
      refine take_at (i := 11) 39 (v := undef) rfl rfl (by kernel_rfl) (by kernel_rfl) (by kernel_rfl) (fun _ _ _ h => h) (Or.inr ⟨by kernel_rfl, rfl⟩) ?_
      refine take_at (i := 12) 40 (v := undef) rfl rfl (by kernel_rfl) (by kernel_rfl) (by kernel_rfl) (fun _ _ _ h => h) (Or.inr ⟨by kernel_rfl, rfl⟩) ?_
      refine take_at (i := 13) 41 (v := undef) rfl rfl (by kernel_rfl) (by kernel_rfl) (by kernel_rfl) (fun _ _ _ h => h) (Or.inr ⟨by kernel_rfl, rfl⟩) ?_
      refine take_at (i := 14) 42 (v := undef) rfl rfl (by kernel_rfl) (by kernel_rfl) (by kernel_rfl) (fun _ _ _ h => h) (Or.inr ⟨by kernel_rfl, rfl⟩) ?_
      refine take_at (i := 15) 43 (v := undef) rfl rfl (by kernel_rfl) (by kernel_rfl) (by kernel_rfl) (fun _ _ _ h => h) (Or.inr ⟨by kernel_rfl, rfl⟩) ?_
      try go_frame
      refine take_at (i := 16) 44 (v := .bool false) rfl rfl (by kernel_rfl) (by kernel_rfl) (by kernel_rfl) (fun _ _ _ h => h) (Or.inl ⟨by kernel_rfl, fun _ => by first | rfl | go_simp⟩) ?_
      try go_frame
      refine take_at (i := 17) 27 (v := .bool false) rfl rfl (by kernel_rfl) (by kernel_rfl) (by kernel_rfl) (fun _ _ _ h => h) (Or.inl ⟨by kernel_rfl, fun _ => by first | rfl | go_simp⟩) ?_
      refine wpAny_done (by kernel_rfl) ?_ _
      try go_frame
      go_wp2
      go_ret
      refine ⟨?_, B1.out.trans (B9.out.mono B1.out.size)⟩
      rw [HT.out (.inl (Decidable.byContradiction fun q => hn (HC.out.2 q))), eN]
      rfl
  | some t =>
    obtain ⟨a', b', hlk⟩ := H1.out.map.look (show m < 1000 by omega) hT
    have hmb := H1.out.lt.2
    have HS : Hid (∀ X Y : World, Below w1.heap.size w1 Y → X.heap = Y.heap → X.cell? ⟨w.heap.size, 0, none⟩ = some (.int .i64 (m : Int)) ∧ X.cell? ⟨w.heap.size, 2, none⟩ = some (.string c) ∧ X.cell? ⟨P, 1, none⟩ = some (.map (some mb)) ∧ (Instr.lookup 47 (.map (some mb)) (.int .i64 (m : Int)) false).run Try.prog X = .ok (.agg #[.int .i64 a', .int .i64 b', .string t]) X) := by
      intro X Y hb e
      rw [c_heap e, c_heap e, c_heap e]
      exact ⟨(hb.cell (p := ⟨w.heap.size, 0, none⟩) hlt).trans k0, (hb.cell (p := ⟨w.heap.size, 2, none⟩) hlt).trans k2, (hb.cell (p := ⟨P, 1, none⟩) hP1).trans c1, hlk X (by rw [e]; exact hb.block mb hmb)⟩
    have fld := fld_t a' b' t
    clear hlk hmb
    by_cases hs : c = t
    · have eN : other j ((m : Int), b, c) = false := by
        unfold other
        rw [show ((m : Int), b, c).1.toNat = m from rfl, hT]
        simp [hs]
      have ds : (c.toList == t.toList) = true := by rw [str_eq]; exact decide_eq_true hs
      by_cases hn : 0 < n
      · have dn : decide ((n : Int) > 0) = true := decide_eq_true (by omega)
        by_cases ho : (o : Int) = b
        · have dno : (b != (o : Int)) = false := by simp [ho]
          go_wp2_with fail
          go_quiet (fail)
          go_wp2_with fail
          go_region_held3 (fun X => X.cell? ⟨w.heap.size, 0, none⟩ = some (.int .i64 (m : Int)) ∧ X.cell? ⟨w.heap.size, 2, none⟩ = some (.string c) ∧ X.cell? ⟨P, 1, none⟩ = some (.map (some mb)) ∧ (Instr.lookup 47 (.map (some mb)) (.int .i64 (m : Int)) false).run Try.prog X = .ok (.agg #[.int .i64 a', .int .i64 b', .string t]) X) (first | exact HS.out _ _ B9.out rfl | exact HS.out _ _ (Below.refl _ _) rfl) (first | (go_at_call 15; refine (has_any (base := base) (mb := mb) (j := j) (by exact HN.out _ rfl) hm).mono ?_; rintro e9 w9 ⟨rfl, hb9⟩; rw [hT]; have B9 : Hid (Below w1.heap.size w1 w9) := below_same hb9 rfl rfl rfl rfl; clear hb9))
          go_wp2
          go_ret
          refine ⟨?_, B1.out.trans (B9.out.mono B1.out.size)⟩
          rw [HT.out (.inr ho), eN]
          rfl
        · have dno : (b != (o : Int)) = true := by simpa using fun q => ho q.symm
          go_wp2_with fail
          go_quiet (fail)
          go_wp2
          go_ret
          refine ⟨?_, drewsP B1.out _⟩
          rw [HK.out, if_pos ⟨HC.out.1 hn, ho⟩]
          rfl
      · have dn : decide ((n : Int) > 0) = false := decide_eq_false (by omega)
        go_wp2_with fail
        go_quiet (fail)
        go_wp2_with fail
        go_region_held3 (fun X => X.cell? ⟨w.heap.size, 0, none⟩ = some (.int .i64 (m : Int)) ∧ X.cell? ⟨w.heap.size, 2, none⟩ = some (.string c) ∧ X.cell? ⟨P, 1, none⟩ = some (.map (some mb)) ∧ (Instr.lookup 47 (.map (some mb)) (.int .i64 (m : Int)) false).run Try.prog X = .ok (.agg #[.int .i64 a', .int .i64 b', .string t]) X) (first | exact HS.out _ _ B9.out rfl | exact HS.out _ _ (Below.refl _ _) rfl) (first | (go_at_call 15; refine (has_any (base := base) (mb := mb) (j := j) (by exact HN.out _ rfl) hm).mono ?_; rintro e9 w9 ⟨rfl, hb9⟩; rw [hT]; have B9 : Hid (Below w1.heap.size w1 w9) := below_same hb9 rfl rfl rfl rfl; clear hb9))
        go_wp2
        go_ret
        refine ⟨?_, B1.out.trans (B9.out.mono B1.out.size)⟩
        rw [HT.out (.inl (Decidable.byContradiction fun q => hn (HC.out.2 q))), eN]
        rfl
    · have eN : other j ((m : Int), b, c) = true := by
        unfold other
        rw [show ((m : Int), b, c).1.toNat = m from rfl, hT]
        simpa using fun q => hs q.symm
      have ds : (c.toList == t.toList) = false := by rw [str_eq]; exact decide_eq_false hs
      by_cases hn : 0 < n
      · have dn : decide ((n : Int) > 0) = true := decide_eq_true (by omega)
        by_cases ho : (o : Int) = b
        · have dno : (b != (o : Int)) = false := by simp [ho]
          go_wp2_with fail
          go_quiet (fail)
          go_wp2_with fail
          go_region_held3 (fun X => X.cell? ⟨w.heap.size, 0, none⟩ = some (.int .i64 (m : Int)) ∧ X.cell? ⟨w.heap.size, 2, none⟩ = some (.string c) ∧ X.cell? ⟨P, 1, none⟩ = some (.map (some mb)) ∧ (Instr.lookup 47 (.map (some mb)) (.int .i64 (m : Int)) false).run Try.prog X = .ok (.agg #[.int .i64 a', .int .i64 b', .string t]) X) (first | exact HS.out _ _ B9.out rfl | exact HS.out _ _ (Below.refl _ _) rfl) (first | (go_at_call 15; refine (has_any (base := base) (mb := mb) (j := j) (by exact HN.out _ rfl) hm).mono ?_; rintro e9 w9 ⟨rfl, hb9⟩; rw [hT]; have B9 : Hid (Below w1.heap.size w1 w9) := below_same hb9 rfl rfl rfl rfl; clear hb9))
          go_wp2
          go_ret
          refine ⟨?_, B1.out.trans (B9.out.mono B1.out.size)⟩
          rw [HT.out (.inr ho), eN]
          rfl
        · have dno : (b != (o : Int)) = true := by simpa using fun q => ho q.symm
          go_wp2_with fail
          go_quiet (fail)
          go_wp2
          go_ret
          refine ⟨?_, drewsP B1.out _⟩
          rw [HK.out, if_pos ⟨HC.out.1 hn, ho⟩]
          rfl
      · have dn : decide ((n : Int) > 0) = false := decide_eq_false (by omega)
        go_wp2_with fail
        go_quiet (fail)
        go_wp2_with fail
        go_region_held3 (fun X => X.cell? ⟨w.heap.size, 0, none⟩ = some (.int .i64 (m : Int)) ∧ X.cell? ⟨w.heap.size, 2, none⟩ = some (.string c) ∧ X.cell? ⟨P, 1, none⟩ = some (.map (some mb)) ∧ (Instr.lookup 47 (.map (some mb)) (.int .i64 (m : Int)) false).run Try.prog X = .ok (.agg #[.int .i64 a', .int .i64 b', .string t]) X) (first | exact HS.out _ _ B9.out rfl | exact HS.out _ _ (Below.refl _ _) rfl) (first | (go_at_call 15; refine (has_any (base := base) (mb := mb) (j := j) (by exact HN.out _ rfl) hm).mono ?_; rintro e9 w9 ⟨rfl, hb9⟩; rw [hT]; have B9 : Hid (Below w1.heap.size w1 w9) := below_same hb9 rfl rfl rfl rfl; clear hb9))
        go_wp2
        go_ret
        refine ⟨?_, B1.out.trans (B9.out.mono B1.out.size)⟩
        rw [HT.out (.inl (Decidable.byContradiction fun q => hn (HC.out.2 q))), eN]
        rfl
end Go.Proofs.Ytolnfipdhkbkjaj.Pie
