/-
  Contracts of package agree's small functions: isWord, has, wasSaid, check, gave, learnt, allGave.
-/
import Derived.Test.YtcolcjnmdejfeafDoorAgrB
namespace Go.Proofs.YtcolcjnmdejfeafDoor.Agr
open Go.RowKit Go.Maps
open Go.Proofs.YtcolcjnmdejfeafDoor.Fif (own_lt own_block own_form own_mono own_vw ret_bool info_int)
open Go.Proofs.YtcolcjnmdejfeafDoor.Vec (Vw)
open Go.Proofs.YtcolcjnmdejfeafDoor.MapV (MM putT delT wfI)
set_option linter.unusedVariables false

theorem zeroS (W : World) : (zeroValue 56).run Tryd.prog W = .ok (stV (0, 0)) W := by kernel_rfl
theorem zeroW (W : World) : (zeroValue 92).run Tryd.prog W = .ok (waV (0, 0) false) W := by kernel_rfl
theorem wordA_any (x : Int) (w : World) : Calls Tryd.prog 30 #[.int .i64 x] w fun e w' => e = .returned (.bool (decide (1 ≤ x ∧ x ≤ 30))) ∧ w' = w := by
  by_cases h1 : 1 ≤ x
  · by_cases h2 : x ≤ 30
    · rw [decide_eq_true (show 1 ≤ x ∧ x ≤ 30 from ⟨h1, h2⟩)]
      go_enter Tryd.func30, Tryd.ntmps30
      go_wp2
      go_ret
      exact ⟨rfl, rfl⟩
    · rw [decide_eq_false (show ¬ (1 ≤ x ∧ x ≤ 30) from fun q => h2 q.2)]
      go_enter Tryd.func30, Tryd.ntmps30
      go_wp2
      go_ret
      exact ⟨rfl, rfl⟩
  · rw [decide_eq_false (show ¬ (1 ≤ x ∧ x ≤ 30) from fun q => h1 q.1)]
    go_enter Tryd.func30, Tryd.ntmps30
    go_wp2
    go_ret
    exact ⟨rfl, rfl⟩
variable {w w' : World} {base P mS : Nat} {mb : Nat → Nat} {hv : Nat → Value} {r : Rc}
theorem has_any (h : AF w base P mS mb hv r) (x : Int) : Calls Tryd.prog 39 #[.pointer (some ⟨P, 0, none⟩), .int .i64 x] w fun e w' => e = .returned (.bool (decide (0 ≤ x ∧ x < (r.n : Int)))) ∧ w' = w := by
  have c0 := h.c0
  obtain ⟨n, en⟩ : ∃ n : Int, n = (r.n : Int) := ⟨_, rfl⟩
  rw [← en] at c0 ⊢
  clear h en
  by_cases h1 : 0 ≤ x
  · by_cases h2 : x < n
    · rw [decide_eq_true (show 0 ≤ x ∧ x < n from ⟨h1, h2⟩)]
      go_enter Tryd.func39, Tryd.ntmps39
      go_wp2
      go_ret
      exact ⟨rfl, rfl⟩
    · rw [decide_eq_false (show ¬ (0 ≤ x ∧ x < n) from fun q => h2 q.2)]
      go_enter Tryd.func39, Tryd.ntmps39
      go_wp2
      go_ret
      exact ⟨rfl, rfl⟩
  · rw [decide_eq_false (show ¬ (0 ≤ x ∧ x < n) from fun q => h1 q.1)]
    go_enter Tryd.func39, Tryd.ntmps39
    go_wp2
    go_ret
    exact ⟨rfl, rfl⟩
theorem AF.lkS {s : Option St} (h : AF w base P mS mb hv r) {x : Int} (hx : (Lit.int .i64 x).wf = true) (hs : r.S x = s.map stV) : ∀ W : World, W.heap[mS]? = w.heap[mS]? → (Instr.lookup 85 (.map (some mS)) (.int .i64 x) true).run Tryd.prog W = .ok (.tuple #[.agg #[.int .i64 ((s.getD (0, 0)).1 : Int), .int .i64 ((s.getD (0, 0)).2 : Int)], .bool s.isSome]) W := by
  intro W hW
  have hlk := h.said.look_ok Tryd.underlying85 zeroS hx W hW
  rw [hs] at hlk
  cases s <;> exact hlk
theorem AF.lkS1 {s : Option St} (h : AF w base P mS mb hv r) {x : Int} (hx : (Lit.int .i64 x).wf = true) (hs : r.S x = s.map stV) : ∀ W : World, W.heap[mS]? = w.heap[mS]? → (Instr.lookup 85 (.map (some mS)) (.int .i64 x) false).run Tryd.prog W = .ok (.agg #[.int .i64 ((s.getD (0, 0)).1 : Int), .int .i64 ((s.getD (0, 0)).2 : Int)]) W := by
  intro W hW
  have hlk := h.said.look Tryd.underlying85 zeroS hx W hW
  rw [hs] at hlk
  cases s <;> exact hlk
abbrev waP (p : St × Bool) : Value := waV p.1 p.2
theorem AF.lkW {s : Option (St × Bool)} (h : AF w base P mS mb hv r) {m : Nat} (hm : m < r.n) {x : Int} (hx : (Lit.int .i64 x).wf = true) (hs : r.W m x = s.map waP) : ∀ W : World, W.heap[mb m]? = w.heap[mb m]? → (Instr.lookup 86 (.map (some (mb m))) (.int .i64 x) true).run Tryd.prog W = .ok (.tuple #[.agg #[.int .i64 ((s.getD ((0, 0), false)).1.1 : Int), .int .i64 ((s.getD ((0, 0), false)).1.2 : Int), .bool (s.getD ((0, 0), false)).2], .bool s.isSome]) W := by
  intro W hW
  have hlk := (h.wait m hm).look_ok Tryd.underlying86 zeroW hx W hW
  rw [hs] at hlk
  cases s <;> exact hlk
theorem AF.lkW1 {s : Option (St × Bool)} (h : AF w base P mS mb hv r) {m : Nat} (hm : m < r.n) {x : Int} (hx : (Lit.int .i64 x).wf = true) (hs : r.W m x = s.map waP) : ∀ W : World, W.heap[mb m]? = w.heap[mb m]? → (Instr.lookup 86 (.map (some (mb m))) (.int .i64 x) false).run Tryd.prog W = .ok (.agg #[.int .i64 ((s.getD ((0, 0), false)).1.1 : Int), .int .i64 ((s.getD ((0, 0), false)).1.2 : Int), .bool (s.getD ((0, 0), false)).2]) W := by
  intro W hW
  have hlk := (h.wait m hm).look Tryd.underlying86 zeroW hx W hW
  rw [hs] at hlk
  cases s <;> exact hlk
set_option maxRecDepth 100000 in
theorem saidA_any {s : Option St} (h : AF w base P mS mb hv r) (x : Int) (hx : (Lit.int .i64 x).wf = true) (hs : r.S x = s.map stV) : Calls Tryd.prog 31 #[.pointer (some ⟨P, 0, none⟩), .int .i64 x] w fun e w' => e = .returned (.bool s.isSome) ∧ Below w.heap.size w w' := by
  have c1 := h.c1
  have hlk := h.lkS hx hs w rfl
  obtain ⟨a, ea⟩ : ∃ a : Int, a = ((s.getD (0, 0)).1 : Int) := ⟨_, rfl⟩
  obtain ⟨b, eb⟩ : ∃ b : Int, b = ((s.getD (0, 0)).2 : Int) := ⟨_, rfl⟩
  obtain ⟨c, ec⟩ : ∃ c, c = s.isSome := ⟨_, rfl⟩
  rw [← ea, ← eb, ← ec] at hlk
  rw [← ec]
  clear h hs ea eb ec
  go_enter Tryd.func31, Tryd.ntmps31
  go_wp2
  go_ret
  exact ⟨rfl, (Below.refl _ _).alloc (Nat.le_refl _) _⟩
theorem TS_map (g : G) {x : Int} (h1 : 1 ≤ x) : TS g x = (if g.was x.toNat = true then some (mx g x.toNat) else none).map stV := by
  unfold TS
  by_cases q : g.was x.toNat = true
  · rw [if_pos ⟨by omega, q⟩, if_pos q]
    rfl
  · rw [if_neg (fun z => q z.2), if_neg q]
    rfl
theorem TW_map (g : G) (m : Nat) {x : Int} (h1 : 0 ≤ x) : TW g m x = (if wts g m x.toNat = true then some (ts g m x.toNat, g.kn x.toNat m) else none).map waP := by
  unfold TW
  by_cases q : wts g m x.toNat = true
  · rw [if_pos ⟨by omega, q⟩, if_pos q]
    rfl
  · rw [if_neg (fun z => q z.2), if_neg q]
    rfl
variable {g : G} {cW : Nat → Nat}
/-- what is wrong with a member and a word -/
theorem checkA_any (h : AF w base P mS mb hv (rc g cW)) (who x : Int) : Calls Tryd.prog 32 #[.pointer (some ⟨P, 0, none⟩), .int .i64 who, .int .i64 x] w fun e w' => e = .returned (errF (chkC g who x)) ∧ Below w.heap.size w w' := by
  have HG : Hid (AF w base P mS mb hv (rc g cW)) := h
  clear h
  by_cases h1 : 0 ≤ who ∧ who < (g.n : Int)
  · have d1 : Hid (decide (0 ≤ who ∧ who < ((rc g cW).n : Int)) = true) := decide_eq_true h1
    by_cases h2 : 1 ≤ x ∧ x ≤ 30
    · have d2 : Hid (decide (1 ≤ x ∧ x ≤ 30) = true) := decide_eq_true h2
      have HW : Hid ((Lit.int .i64 x).wf = true) := wfI (by omega) (by omega)
      by_cases h3 : g.was x.toNat = true
      · have HS : Hid ((rc g cW).S x = (some (mx g x.toNat)).map stV) := by
          have := TS_map g h2.1
          rw [if_pos h3] at this
          exact this
        have e : chkC g who x = 0 := by unfold chkC; rw [if_neg (by omega), if_pos h3]
        rw [e, errF_ok]
        clear h3 e
        go_enter Tryd.func32, Tryd.ntmps32
        go_wp2_with fail
        refine (has_any HG.out who).mono ?_
        rintro e w ⟨rfl, rfl⟩
        rw [d1.out]
        go_wp2_with fail
        refine (wordA_any x w).mono ?_
        rintro e w ⟨rfl, rfl⟩
        rw [d2.out]
        go_wp2_with fail
        refine (saidA_any HG.out x HW.out HS.out).mono ?_
        rintro e w1 ⟨rfl, hb⟩
        have B1 : Hid _ := hb
        clear hb
        go_wp2
        go_ret
        exact ⟨rfl, B1.out⟩
      · have HS : Hid ((rc g cW).S x = (none : Option St).map stV) := by
          have := TS_map g h2.1
          rw [if_neg h3] at this
          exact this
        have e : chkC g who x = 5 := by unfold chkC; rw [if_neg (by omega), if_neg h3]
        rw [e, errF_no (by decide)]
        clear h3 e
        go_enter Tryd.func32, Tryd.ntmps32
        go_wp2_with fail
        refine (has_any HG.out who).mono ?_
        rintro e w ⟨rfl, rfl⟩
        rw [d1.out]
        go_wp2_with fail
        refine (wordA_any x w).mono ?_
        rintro e w ⟨rfl, rfl⟩
        rw [d2.out]
        go_wp2_with fail
        refine (saidA_any HG.out x HW.out HS.out).mono ?_
        rintro e w1 ⟨rfl, hb⟩
        have B1 : Hid _ := hb
        clear hb
        go_wp2
        go_ret
        exact ⟨rfl, B1.out⟩
    · have d2 : Hid (decide (1 ≤ x ∧ x ≤ 30) = false) := decide_eq_false h2
      have e : chkC g who x = 1 := if_pos (by omega)
      rw [e, errF_no (by decide)]
      clear e
      go_enter Tryd.func32, Tryd.ntmps32
      go_wp2_with fail
      refine (has_any HG.out who).mono ?_
      rintro e w ⟨rfl, rfl⟩
      rw [d1.out]
      go_wp2_with fail
      refine (wordA_any x w).mono ?_
      rintro e w ⟨rfl, rfl⟩
      rw [d2.out]
      go_wp2
      go_ret
      exact ⟨rfl, Below.refl _ _⟩
  · have d1 : Hid (decide (0 ≤ who ∧ who < ((rc g cW).n : Int)) = false) := decide_eq_false h1
    have e : chkC g who x = 1 := if_pos (by omega)
    rw [e, errF_no (by decide)]
    clear e
    go_enter Tryd.func32, Tryd.ntmps32
    go_wp2_with fail
    refine (has_any HG.out who).mono ?_
    rintro e w ⟨rfl, rfl⟩
    rw [d1.out]
    go_wp2
    go_ret
    exact ⟨rfl, Below.refl _ _⟩
set_option maxRecDepth 100000 in
/-- did a member give a word a stamp? -/
theorem gaveA_any {s : Option (St × Bool)} {m : Nat} (h : AF w base P mS mb hv r) (hm : m < r.n) (x : Int) (hx : (Lit.int .i64 x).wf = true) (hs : r.W m x = s.map waP) : Calls Tryd.prog 33 #[.pointer (some ⟨P, 0, none⟩), .int .i64 (m : Int), .int .i64 x] w fun e w' => e = .returned (.bool (s.isSome || (ints (r.hd m)).contains x)) ∧ Below w.heap.size w w' := by
  have hm5 : m < 5 := Nat.lt_of_lt_of_le hm h.five
  have c1 := h.cw hm
  have c2 := h.ch hm5
  obtain ⟨q, cap, e, hvw⟩ := own_vw (h.hd m hm5)
  have HM : Hid ((r.hd m).length ≤ maxLen) := by
    obtain ⟨a, c, e, h1, h2, _⟩ := Sl.of_own (h.hd m hm5)
    exact Nat.le_trans h1 h2
  obtain ⟨ll, el⟩ : ∃ ll, ll = (r.hd m).length := ⟨_, rfl⟩
  rw [← el] at hvw e
  rw [e] at c2
  have HV : Hid (Vw w q ll (ints (r.hd m)) ∧ ll ≤ maxLen) := ⟨hvw, by rw [el]; exact HM.out⟩
  have hlk := h.lkW hm hx hs w rfl
  obtain ⟨a, ea⟩ : ∃ a : Int, a = ((s.getD ((0, 0), false)).1.1 : Int) := ⟨_, rfl⟩
  obtain ⟨b, eb⟩ : ∃ b : Int, b = ((s.getD ((0, 0), false)).1.2 : Int) := ⟨_, rfl⟩
  obtain ⟨d, ed⟩ : ∃ d, d = (s.getD ((0, 0), false)).2 := ⟨_, rfl⟩
  rw [← ea, ← eb, ← ed] at hlk
  have hlt := h.lt
  have HX : Hid (((Below.refl w.heap.size w).alloc (Nat.le_refl _) (.cells #[.int .i64 a, .int .i64 b, .bool d] 92)) = ((Below.refl w.heap.size w).alloc (Nat.le_refl _) (.cells #[.int .i64 a, .int .i64 b, .bool d] 92))) := rfl
  have hm0 : (0 : Int) ≤ (m : Int) := by omega
  have hm5' : (m : Int) < 5 := by omega
  clear h hs ea eb ed e hvw el HM HX
  cases s with
  | none =>
    simp only [Option.isSome_none, Bool.false_or] at hlk ⊢
    go_enter Tryd.func33, Tryd.ntmps33
    go_wp2_with fail
    refine (contA q ll cap (ints (r.hd m)) x _ HV.out.2 (HV.out.1.later ((Below.refl _ _).alloc (Nat.le_refl _) _))).mono ?_
    rintro e w1 ⟨rfl, rfl⟩
    go_wp2
    go_ret
    exact ⟨ret_bool (by simp), (Below.refl _ _).alloc (Nat.le_refl _) _⟩
  | some s =>
    simp only [Option.isSome_some, Bool.true_or] at hlk ⊢
    go_enter Tryd.func33, Tryd.ntmps33
    go_wp2
    go_ret
    exact ⟨rfl, (Below.refl _ _).alloc (Nat.le_refl _) _⟩
theorem fldB (a b : Int) (d : Bool) (X : World) : (Instr.field 92 (.agg #[.int .i64 a, .int .i64 b, .bool d]) 1).run Tryd.prog X = .ok (.bool d) X := by kernel_rfl
theorem fldS (a b : Int) (d : Bool) (X : World) : (Instr.field 92 (.agg #[.int .i64 a, .int .i64 b, .bool d]) 0).run Tryd.prog X = .ok (.agg #[.int .i64 a, .int .i64 b]) X := by kernel_rfl
set_option maxRecDepth 100000 in
/-- does a member know a word's stamp? -/
theorem learnA_any {s : Option (St × Bool)} {m : Nat} (h : AF w base P mS mb hv r) (hm : m < r.n) (x : Int) (hx : (Lit.int .i64 x).wf = true) (hs : r.W m x = s.map waP) : Calls Tryd.prog 36 #[.pointer (some ⟨P, 0, none⟩), .int .i64 (m : Int), .int .i64 x] w fun e w' => e = .returned (.bool ((s.getD ((0, 0), false)).2 || (ints (r.hd m)).contains x)) ∧ Below w.heap.size w w' := by
  have hm5 : m < 5 := Nat.lt_of_lt_of_le hm h.five
  have c1 := h.cw hm
  have c2 := h.ch hm5
  obtain ⟨q, cap, e, hvw⟩ := own_vw (h.hd m hm5)
  have HM : Hid ((r.hd m).length ≤ maxLen) := by
    obtain ⟨a, c, e, h1, h2, _⟩ := Sl.of_own (h.hd m hm5)
    exact Nat.le_trans h1 h2
  obtain ⟨ll, el⟩ : ∃ ll, ll = (r.hd m).length := ⟨_, rfl⟩
  rw [← el] at hvw e
  rw [e] at c2
  have HV : Hid (Vw w q ll (ints (r.hd m)) ∧ ll ≤ maxLen) := ⟨hvw, by rw [el]; exact HM.out⟩
  have hlk := h.lkW1 hm hx hs w rfl
  obtain ⟨a, ea⟩ : ∃ a : Int, a = ((s.getD ((0, 0), false)).1.1 : Int) := ⟨_, rfl⟩
  obtain ⟨b, eb⟩ : ∃ b : Int, b = ((s.getD ((0, 0), false)).1.2 : Int) := ⟨_, rfl⟩
  obtain ⟨d, ed⟩ : ∃ d, d = (s.getD ((0, 0), false)).2 := ⟨_, rfl⟩
  rw [← ea, ← eb, ← ed] at hlk
  rw [← ed]
  have hfd := fldB a b d
  have hm0 : (0 : Int) ≤ (m : Int) := by omega
  have hm5' : (m : Int) < 5 := by omega
  clear h hs ea eb ed e hvw el HM
  cases d with
  | false =>
    rw [Bool.false_or]
    go_enter Tryd.func36, Tryd.ntmps36
    go_wp2_with fail
    refine (contA q ll cap (ints (r.hd m)) x _ HV.out.2 HV.out.1).mono ?_
    rintro e w1 ⟨rfl, rfl⟩
    go_wp2
    go_ret
    exact ⟨ret_bool (by simp), Below.refl _ _⟩
  | true =>
    rw [Bool.true_or]
    go_enter Tryd.func36, Tryd.ntmps36
    go_wp2
    go_ret
    exact ⟨rfl, Below.refl _ _⟩
/-! in words of the group -/
theorem gave_is (hi : Inv0 g) {m v : Nat} : ((if wts g m v = true then some (ts g m v, g.kn v m) else none : Option (St × Bool)).isSome || (ints (g.hd m)).contains (v : Int)) = decide (g.gv v m ≠ 0) := by
  rw [ints_cont, Bool.eq_iff_iff]
  by_cases q : wts g m v = true
  · rw [if_pos q]
    simp [(wts_iff.1 q).1]
  · rw [if_neg q]
    simp only [Option.isSome_none, Bool.false_or, decide_eq_true_iff]
    constructor
    · intro z
      have hk := hi.hd m v (by simpa using z)
      exact allG_iff.1 (hi.kn v m hk).1 m (hi.kn v m hk).2
    · intro z
      refine Decidable.byContradiction fun y => q (wts_iff.2 ⟨z, by simpa using y⟩)
theorem learn_is (hi : Inv0 g) {m v : Nat} : (((if wts g m v = true then some (ts g m v, g.kn v m) else none : Option (St × Bool)).getD ((0, 0), false)).2 || (ints (g.hd m)).contains (v : Int)) = g.kn v m := by
  rw [ints_cont, Bool.eq_iff_iff]
  by_cases q : wts g m v = true
  · rw [if_pos q]
    have : (g.hd m).contains v = false := by
      rw [Bool.eq_false_iff]
      intro z
      exact (wts_iff.1 q).2 (by simpa using z)
    rw [this]
    simp
  · rw [if_neg q]
    simp only [Option.getD_none, Bool.false_or]
    constructor
    · intro z
      exact hi.hd m v (by simpa using z)
    · intro z
      refine Decidable.byContradiction fun y => q (wts_iff.2 ⟨?_, by simpa using y⟩)
      exact allG_iff.1 (hi.kn v m z).1 m (hi.kn v m z).2
theorem gaveG {m v : Nat} (h : AF w base P mS mb hv (rc g cW)) (hi : Inv0 g) (hm : m < g.n) (hv30 : v ≤ 30) : Calls Tryd.prog 33 #[.pointer (some ⟨P, 0, none⟩), .int .i64 (m : Int), .int .i64 (v : Int)] w fun e w' => e = .returned (.bool (decide (g.gv v m ≠ 0))) ∧ Below w.heap.size w w' := by
  have := TW_map g m (x := (v : Int)) (by omega)
  rw [Int.toNat_natCast] at this
  refine (gaveA_any h hm (v : Int) (wfI (by omega) (by omega)) this).mono ?_
  rintro e w' ⟨rfl, hb⟩
  exact ⟨ret_bool (gave_is hi), hb⟩
theorem learnG {m v : Nat} (h : AF w base P mS mb hv (rc g cW)) (hi : Inv0 g) (hm : m < g.n) (hv30 : v ≤ 30) : Calls Tryd.prog 36 #[.pointer (some ⟨P, 0, none⟩), .int .i64 (m : Int), .int .i64 (v : Int)] w fun e w' => e = .returned (.bool (g.kn v m)) ∧ Below w.heap.size w w' := by
  have := TW_map g m (x := (v : Int)) (by omega)
  rw [Int.toNat_natCast] at this
  refine (learnA_any h hm (v : Int) (wfI (by omega) (by omega)) this).mono ?_
  rintro e w' ⟨rfl, hb⟩
  exact ⟨ret_bool (learn_is hi), hb⟩
set_option maxRecDepth 100000 in
theorem allGaveG {v : Nat} (h : AF w base P mS mb hv (rc g cW)) (hi : Inv0 g) (hv30 : v ≤ 30) : Calls Tryd.prog 35 #[.pointer (some ⟨P, 0, none⟩), .int .i64 (v : Int)] w fun e w' => e = .returned (.bool (allG g v)) ∧ Below w.heap.size w w' := by
  have c0 : w.cell? ⟨P, 0, none⟩ = some (.int .i64 (g.n : Int)) := h.c0
  obtain ⟨n, en⟩ : ∃ n, n = g.n := ⟨_, rfl⟩
  rw [← en] at c0
  have hn5 : n ≤ 5 := by rw [en]; exact hi.five
  have HG : Hid (AF w base P mS mb hv (rc g cW) ∧ Inv0 g ∧ v ≤ 30 ∧ n = g.n) := ⟨h, hi, hv30, en⟩
  clear h hi hv30 en
  go_enter Tryd.func35, Tryd.ntmps35
  go_wp2
  go_loopw [10] (fun i wr => ∃ k : Nat, k ≤ n ∧ i = .int .i64 k ∧ Hid (Below w.heap.size w wr ∧ ∀ j, j < k → g.gv v j ≠ 0)) (fun i _ => n - (intOf i).toNat)
  case atStart => exact ⟨0, by omega, rfl, Below.refl _ _, fun j hj => absurd hj (by omega)⟩
  case round =>
    obtain ⟨k, hk, rfl, hp⟩ := hrel
    by_cases hlt : k < n
    · have hkl : (k : Int) < (n : Int) := by omega
      go_wp2_with fail
      refine (gaveG (HG.out.1.later hp.out.1) HG.out.2.1 (m := k) (by rw [← HG.out.2.2.2]; exact hlt) HG.out.2.2.1).mono ?_
      rintro e w2 ⟨rfl, hb⟩
      have B2 : Hid (Below w.heap.size w w2) := hp.out.1.trans (hb.mono hp.out.1.size)
      clear hb
      by_cases hz : g.gv v k = 0
      · rw [decide_eq_false (show ¬ g.gv v k ≠ 0 from fun q => q hz)]
        have E : Hid (allG g v = false) := by
          show _ = _
          rw [Bool.eq_false_iff]
          intro q
          exact allG_iff.1 q k (by rw [← HG.out.2.2.2]; exact hlt) hz
        clear hz
        go_wp2
        go_ret
        exact ⟨ret_bool E.out.symm, B2.out⟩
      · rw [decide_eq_true hz]
        have HZ : Hid (g.gv v k ≠ 0) := hz
        clear hz
        go_wp2
        go_roundw
        case rel => exact ⟨k + 1, by omega, by go_num, B2.out, fun j hj => if e : j < k then hp.out.2 j e else by rw [show j = k by omega]; exact HZ.out⟩
        case measure => simp [intOf]; omega
    · go_wp2
      go_ret
      exact ⟨ret_bool (allG_iff.2 fun i hi => hp.out.2 i (by have := HG.out.2.2.2; omega)).symm, hp.out.1⟩
end Go.Proofs.YtcolcjnmdejfeafDoor.Agr
