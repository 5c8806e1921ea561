/-
  Contracts of package picture's isMember, check, Gold, Done and OnWay.
-/
import Derived.Test.YtgcdbcljneoifajDoorPicK
import Derived.Deep.QuietTactic
import Derived.BigQuiet
import Derived.Deep.RegionHeld3
import Derived.WalkLawsBesides
import Derived.Handy
namespace Go.Proofs.YtgcdbcljneoifajDoor.Pic
open Go.RowKit Go.Maps
open Go.Proofs.YtgcdbcljneoifajDoor.Fif (own_lt own_block own_form own_mono own_vw ret_bool info_int new_int int_one)
open Go.Proofs.YtgcdbcljneoifajDoor.Vec (Vw)
open Go.Proofs.YtgcdbcljneoifajDoor.Sep (KpL NewL)
open Go.Proofs.YtgcdbcljneoifajDoor.Ldr (errF errF_ok errF_no Sl)
open Go.Proofs.YtgcdbcljneoifajDoor.Off (OR)
set_option linter.unusedVariables false
variable {w w' : World} {base P bG cG mO mW mS : Nat} {rv : Nat → Value} {g : G}

theorem zeroL (W : World) : (zeroValue 22).run Tryd.prog W = .ok nilP W := by kernel_rfl
theorem zeroI (W : World) : (zeroValue 3).run Tryd.prog W = .ok (.int .i64 0) W := by kernel_rfl
theorem isMem (h : GP w base P bG cG mO mW mS rv g) (x : Int) : Calls Tryd.prog 27 #[.pointer (some ⟨P, 0, none⟩), .int .i64 x] w fun e w' => e = .returned (.bool (decide (inM g x))) ∧ w' = w := by
  have c0 := h.c0
  obtain ⟨n, en⟩ : ∃ n, n = g.n := ⟨_, rfl⟩
  have EI : decide (inM g x) = decide (0 ≤ x ∧ x < (n : Int)) := by rw [en]
  rw [EI]
  rw [← en] at c0
  clear h en EI
  by_cases h1 : x ≥ 0
  · by_cases h2 : x < (n : Int)
    · go_enter Tryd.func27, Tryd.ntmps27
      go_wp2
      go_ret
      exact ⟨ret_bool (decide_eq_true (by omega)).symm, rfl⟩
    · go_enter Tryd.func27, Tryd.ntmps27
      go_wp2
      go_ret
      exact ⟨ret_bool (decide_eq_false (by omega)).symm, rfl⟩
  · go_enter Tryd.func27, Tryd.ntmps27
    go_wp2
    go_ret
    exact ⟨ret_bool (by first | (simp; omega) | simp | (simp; done)), rfl⟩
set_option maxRecDepth 100000 in
theorem chkW (h : GP w base P bG cG mO mW mS rv g) (a b : Int) : Calls Tryd.prog 22 #[.pointer (some ⟨P, 0, none⟩), .int .i64 a, .int .i64 b] w fun e w' => e = .returned (errF (wayC g a b)) ∧ w' = w := by
  have HG : Hid (GP w base P bG cG mO mW mS rv g) := h
  clear h
  by_cases h1 : inM g a
  · have d1 : Hid (decide (inM g a) = true) := decide_eq_true h1
    by_cases h2 : inM g b
    · have d2 : Hid (decide (inM g b) = true) := decide_eq_true h2
      by_cases h3 : a = b
      · have e0 : wayC g a b = 3 := by unfold wayC; rw [if_pos ⟨h1, h2⟩, if_pos h3]
        have hab : (a == b) = true := by simp [h3]
        rw [e0, errF_no (by decide)]
        clear h1 h2 h3 e0
        go_enter Tryd.func22, Tryd.ntmps22
        go_wp2_with fail
        refine (isMem HG.out a).mono ?_
        rintro e w ⟨rfl, rfl⟩
        rw [d1.out]
        go_wp2_with fail
        refine (isMem HG.out b).mono ?_
        rintro e w ⟨rfl, rfl⟩
        rw [d2.out]
        go_wp2
        go_ret
        exact ⟨rfl, rfl⟩
      · have e0 : wayC g a b = 0 := by unfold wayC; rw [if_pos ⟨h1, h2⟩, if_neg h3]
        have hab : (a == b) = false := by simp [h3]
        rw [e0, errF_ok]
        clear h1 h2 h3 e0
        go_enter Tryd.func22, Tryd.ntmps22
        go_wp2_with fail
        refine (isMem HG.out a).mono ?_
        rintro e w ⟨rfl, rfl⟩
        rw [d1.out]
        go_wp2_with fail
        refine (isMem HG.out b).mono ?_
        rintro e w ⟨rfl, rfl⟩
        rw [d2.out]
        go_wp2
        go_ret
        exact ⟨rfl, rfl⟩
    · have d2 : Hid (decide (inM g b) = false) := decide_eq_false h2
      have e0 : wayC g a b = 1 := by unfold wayC; rw [if_neg (fun q => h2 q.2)]
      rw [e0, errF_no (by decide)]
      clear h1 h2 e0
      go_enter Tryd.func22, Tryd.ntmps22
      go_wp2_with fail
      refine (isMem HG.out a).mono ?_
      rintro e w ⟨rfl, rfl⟩
      rw [d1.out]
      go_wp2_with fail
      refine (isMem HG.out b).mono ?_
      rintro e w ⟨rfl, rfl⟩
      rw [d2.out]
      go_wp2
      go_ret
      exact ⟨rfl, rfl⟩
  · have d1 : Hid (decide (inM g a) = false) := decide_eq_false h1
    have e0 : wayC g a b = 1 := by unfold wayC; rw [if_neg (fun q => h1 q.1)]
    rw [e0, errF_no (by decide)]
    clear h1 e0
    go_enter Tryd.func22, Tryd.ntmps22
    go_wp2_with fail
    refine (isMem HG.out a).mono ?_
    rintro e w ⟨rfl, rfl⟩
    rw [d1.out]
    go_wp2
    go_ret
    exact ⟨rfl, rfl⟩
theorem goldG (base P : Nat) (g : G) (fp : List Nat) (all : Int) (m : Int) (w : World) (h : TS w base P g fp) (hi : Inv all g) : Calls Tryd.prog 12 #[.pointer (some ⟨P, 0, none⟩), .int .i64 m] w fun e w' => e = .returned (.tuple #[.int .i64 (goN g m), errF (goC g m)]) ∧ Below w.heap.size w w' := by
  obtain ⟨bG, cG, mO, mW, mS, rv, rfl, h, -, -⟩ := h
  have HG : Hid (GP w base P bG cG mO mW mS rv g) := h
  by_cases h1 : inM g m
  · have d1 : Hid (decide (inM g m) = true) := decide_eq_true h1
    have e0 : goC g m = 0 := if_pos h1
    have e1 : goN g m = g.gold m.toNat := if_pos h1
    obtain ⟨k, rfl⟩ : ∃ k : Nat, m = (k : Int) := ⟨m.toNat, by unfold inM at h1; omega⟩
    have hk : k < g.n := by unfold inM at h1; omega
    rw [e0, e1, errF_ok, Int.toNat_natCast]
    have c0 := h.c0
    have cg := h.cg hk
    have hr := h.room
    obtain ⟨n, en⟩ : ∃ n, n = g.n := ⟨_, rfl⟩
    rw [← en] at c0 hk hr
    obtain ⟨x, ex⟩ : ∃ x, x = g.gold k := ⟨_, rfl⟩
    rw [← ex] at cg ⊢
    clear h h1 e0 e1 en ex hi
    go_enter Tryd.func12, Tryd.ntmps12
    go_wp2_with fail
    refine (isMem HG.out (k : Int)).mono ?_
    rintro e w ⟨rfl, rfl⟩
    rw [d1.out]
    go_wp2
    go_ret2
    exact ⟨rfl, Below.refl _ _⟩
  · have d1 : Hid (decide (inM g m) = false) := decide_eq_false h1
    have e0 : goC g m = 1 := if_neg h1
    have e1 : goN g m = 0 := if_neg h1
    rw [e0, e1, errF_no (by decide)]
    clear h h1 e0 e1 hi
    go_enter Tryd.func12, Tryd.ntmps12
    go_wp2_with fail
    refine (isMem HG.out m).mono ?_
    rintro e w ⟨rfl, rfl⟩
    rw [d1.out]
    go_wp2
    go_ret2
    exact ⟨rfl, Below.refl _ _⟩
theorem len1 {T : Int → Option Value} {b c : Nat} (h : MapV.MM w b T c) (ty : TypeId) : ∀ W : World, W.heap[b]? = w.heap[b]? → (Builtin.len_ #[63] ty #[.map (some b)]).run Tryd.prog W = .ok (.int .i64 (c : Nat)) W := by
  obtain ⟨D, hm, v⟩ := h
  intro W hW
  rw [(MapV.own_heap hm hW).len Tryd.underlying63 ty, v.size]
theorem len2 {T : Int → Int → Option Value} {b c : Nat} (h : MapW.MM w b T c) (ty : TypeId) : ∀ W : World, W.heap[b]? = w.heap[b]? → (Builtin.len_ #[64] ty #[.map (some b)]).run Tryd.prog W = .ok (.int .i64 (c : Nat)) W := by
  obtain ⟨D, hm, v⟩ := h
  intro W hW
  rw [(MapV.own_heap hm hW).len Tryd.underlying64 ty, v.size]
theorem done_iff (hr : Rg g) (h5 : g.n ≤ 5) : Dn g ↔ cnK g.has 5 = g.n ∧ cn2 g.opn = 0 := by
  have e : cnK g.has 5 = cnK g.has g.n := by
    have z := cnK_more (p := g.has) (n := g.n) (m := 5 - g.n) fun i h1 _ => by
      cases q : g.has i
      · rfl
      · have := hr.has i q; omega
    rw [show g.n + (5 - g.n) = 5 by omega] at z
    exact z
  rw [e, cnK_full, cn2_zero]
  constructor
  · intro h
    refine ⟨fun i hi => (h i hi).1, fun i j hi hj => ?_⟩
    cases q : g.opn i j
    · rfl
    · have z := hr.opn i j q
      rw [(h i z.1).2 j z.2] at q
      cases q
  · exact fun h i hi => ⟨h.1 i hi, fun k hk => h.2 i k (by omega) (by omega)⟩
set_option maxRecDepth 100000 in
theorem donP (h : GP w base P bG cG mO mW mS rv g) (hr : Rg g) : Calls Tryd.prog 17 #[.pointer (some ⟨P, 0, none⟩)] w fun e w' => e = .returned (.bool (doneB g)) ∧ w'.heap = w.heap ∧ Below w.heap.size w w' := by
  have c0 := h.c0
  have c2 := h.c2
  have c3 := h.c3
  have l2 := len1 h.wrt 3
  have l3 := len2 h.snc 3
  have hd := done_iff hr h.room.2.2
  obtain ⟨n, en⟩ : ∃ n, n = g.n := ⟨_, rfl⟩
  obtain ⟨a, ea⟩ : ∃ a, a = cnK g.has 5 := ⟨_, rfl⟩
  obtain ⟨b, eb⟩ : ∃ b, b = cn2 g.opn := ⟨_, rfl⟩
  rw [← en] at c0 hd
  rw [← ea] at l2 hd
  rw [← eb] at l3 hd
  have ED : doneB g = decide (a = n ∧ b = 0) := by
    unfold doneB
    exact decide_eq_decide.2 hd
  rw [ED]
  have k2 : ∀ k, (Builtin.len_ #[63] 3 #[.map (some mW)]).run Tryd.prog (w.drewN k) = .ok (.int .i64 (a : Nat)) (w.drewN k) := fun k => l2 _ rfl
  have k3 : ∀ k, (Builtin.len_ #[64] 3 #[.map (some mS)]).run Tryd.prog (w.drewN k) = .ok (.int .i64 (b : Nat)) (w.drewN k) := fun k => l3 _ rfl
  clear h hr hd en ea eb ED l2 l3
  by_cases h1 : a = n
  · have q1 : ((a : Int) == (n : Int)) = true := by simp [h1]
    by_cases h2 : b = 0
    · have q2 : ((b : Int) == 0) = true := by simp [h2]
      rw [decide_eq_true ⟨h1, h2⟩]
      clear h1 h2
      go_enter Tryd.func17, Tryd.ntmps17
      go_wp2_with fail
      go_quiet (fail)
      go_wp2
      go_ret
      exact ⟨ret_bool (by first | rfl | simpa using q2), rfl, ⟨rfl, rfl, rfl, Nat.le_refl _, fun _ _ => rfl⟩⟩
    · have q2 : ((b : Int) == 0) = false := by simp [h2]
      rw [decide_eq_false fun z => h2 z.2]
      clear h1 h2
      go_enter Tryd.func17, Tryd.ntmps17
      go_wp2_with fail
      go_quiet (fail)
      go_wp2
      go_ret
      exact ⟨ret_bool (by first | rfl | simpa using q2), rfl, ⟨rfl, rfl, rfl, Nat.le_refl _, fun _ _ => rfl⟩⟩
  · have q1 : ((a : Int) == (n : Int)) = false := by
      simp
      omega
    rw [decide_eq_false fun z => h1 z.1]
    clear h1
    go_enter Tryd.func17, Tryd.ntmps17
    go_wp2_with fail
    go_quiet (fail)
    go_wp2
    go_ret
    exact ⟨rfl, rfl, ⟨rfl, rfl, rfl, Nat.le_refl _, fun _ _ => rfl⟩⟩
theorem doneG (base P : Nat) (g : G) (fp : List Nat) (all : Int) (w : World) (h : TS w base P g fp) (hi : Inv all g) : Calls Tryd.prog 17 #[.pointer (some ⟨P, 0, none⟩)] w fun e w' => e = .returned (.bool (doneB g)) ∧ Below w.heap.size w w' := by
  obtain ⟨bG, cG, mO, mW, mS, rv, rfl, h, r, -⟩ := h
  refine (donP h r).mono ?_
  rintro e w' ⟨rfl, -, hb⟩
  exact ⟨rfl, hb⟩
/-! slices.Clone -/
abbrev OwC (w : World) (base : Nat) (v : Value) (l : List Int) : Prop := w.ownsRow base 3 1 v l.length (l.map (Value.int .i64))
theorem OwC.sl {w : World} {base : Nat} {v : Value} {l : List Int} (h : OwC w base v l) : ∃ q c, v = .slice q l.length c ∧ Sl w (.slice q l.length c) l ∧ (∀ ad, q = some ad → base ≤ ad.block) := by
  obtain ⟨q, c, rfl, hv⟩ := own_vw h
  have hl : ∀ ad, q = some ad → base ≤ ad.block := by
    intro ad e
    subst e
    exact (own_lt h ad.block rfl).1
  rcases h.2 with ⟨h1, h2⟩ | ⟨b, cap, cur, h1, h2, h3, h4, h5, h6, h7⟩
  · injection h1 with e1 e2 e3
    subst e1 e3
    refine ⟨none, 0, rfl, ⟨none, 0, rfl, ?_, Nat.zero_le _, hv⟩, hl⟩
    omega
  · injection h1 with e1 e2 e3
    subst e1 e3
    exact ⟨_, c, rfl, ⟨_, c, rfl, h4, h5, hv⟩, hl⟩
theorem int_emptyP (w : World) : (w.alloc (.cells #[] 3)).ownsRow w.heap.size 3 1 (.slice (some ⟨w.heap.size, 0, none⟩) 0 0) 0 [] := by
  refine ⟨rfl, .inr ⟨w.heap.size, 0, #[], rfl, Nat.le_refl _, ?_, Nat.le_refl _, by unfold maxLen; omega, rfl, rfl⟩⟩
  show (w.heap.push _)[w.heap.size]? = _
  simp
theorem int_onesP (l : List Int) : ∀ u ∈ l.map (Value.int .i64), u.oneCell' = true := by
  intro u hu
  obtain ⟨x, _, rfl⟩ := List.mem_map.1 hu
  rfl
theorem getDC {l : List Int} {j : Nat} (h : j < l.length) : l.getD j 0 = l[j] := by simp [List.getD, h]
set_option maxRecDepth 100000 in
theorem cloneC (u : Value) (l : List Int) (w : World) (g : Sl w u l) (h0 : 0 < l.length) (hl : l.length ≤ 1000) :
    Calls Tryd.prog 20 #[u] w fun x w' => ∃ v', x = .returned v' ∧ OwC w' w.heap.size v' l ∧ Below w.heap.size w w' := by
  obtain ⟨a, cap, rfl, hc, hm, hv⟩ := g
  obtain ⟨b, off, rfl, hlt, hcs⟩ := hv.2 h0
  obtain ⟨n, en⟩ : ∃ n, n = l.length := ⟨_, rfl⟩
  have HN : Hid (n = l.length) := en
  have HC : Hid (∀ j u, (l.map (Value.int .i64))[j]? = some u → (w.alloc (.cells #[] 3)).cell? ((⟨b, off, none⟩ : Addr).add j) = some u) := by
    intro j u hj
    have hjl : j < l.length := by
      have := (List.getElem?_eq_some_iff.1 hj).1
      rwa [List.length_map] at this
    rw [Addr.add_lit]
    refine (((Below.refl w.heap.size w).alloc (Nat.le_refl _) _).cell (p := ⟨b, off + j, none⟩) hlt).trans ?_
    rw [hcs j hjl, ← hj, List.getElem?_map, List.getElem?_eq_getElem hjl, getDC hjl]
    rfl
  obtain ⟨ie, hi, hz0, hz1, hz2⟩ := info_int
  have HI : Hid (Tryd.prog.info? 3 = some ie ∧ ie.zero = some (.int .i64 0) ∧ ie.size = 1 ∧ ie.bytes = 8) := ⟨hi, hz0, hz1, hz2⟩
  show Calls _ _ _ _ fun x w' => ∃ v', x = .returned v' ∧ w'.ownsRow w.heap.size 3 1 v' l.length (l.map (Value.int .i64)) ∧ Below w.heap.size w w'
  rw [← en] at hl h0 ⊢
  have hnil := fun W : World => Lib.run_eql_slice_nil (P := Tryd.prog) W 22 3 (some ⟨b, off, none⟩) n cap 0 0 Tryd.underlying22
  clear hv hcs hc hm hi hz0 hz1 hz2 en hlt
  go_enter Tryd.func20, Tryd.ntmps20
  go_wp2_with (at_builtin; refine wpList_append_own _ rfl _ _ 22 rfl w.heap.size 3 ie (.int .i64 0) 1 8 Tryd.underlying22 HI.out.1 HI.out.2.1 HI.out.2.2.1 HI.out.2.2.2 rfl (by decide) _ 0 _ rfl (int_emptyP w) ⟨b, off, none⟩ n cap (l.map (Value.int .i64)) rfl (by rw [List.length_map, HN.out, Nat.mul_one]) HC.out (int_onesP _) (by unfold maxLen; omega) (by omega) (by simp) ?_; intro v' wn hown hgrow _; rw [Nat.zero_add, List.nil_append] at hown; have HO : Hid (wn.ownsRow w.heap.size 3 1 v' n (l.map (Value.int .i64))) := hown; have HGr : Hid _ := hgrow; clear hown hgrow)
  go_ret
  exact ⟨_, rfl, HO.out, ((Below.refl w.heap.size w).alloc (Nat.le_refl _) _).grown HGr.out (by simp) (fun k e => (own_lt (int_emptyP w) k e).1)⟩
theorem clone_nil (w : World) : Calls Tryd.prog 20 #[.slice none 0 0] w fun x w' => x = .returned (.slice none 0 0) ∧ w' = w := by
  have hnil := fun W : World => Lib.run_eql_slice_nil (P := Tryd.prog) W 22 3 none 0 0 0 0 Tryd.underlying22
  go_enter Tryd.func20, Tryd.ntmps20
  go_wp2
  go_ret
  exact ⟨rfl, rfl⟩
/-- what is found of a way -/
theorem GP.look (h : GP w base P bG cG mO mW mS rv g) {a b : Nat} (ha : a < 5) (hb : b < 5) : ∃ q c, rv (a * 5 + b) = .slice q (g.way a b).length c ∧ Sl w (.slice q (g.way a b).length c) (g.way a b) ∧ ∀ W : World, W.heap[mO]? = w.heap[mO]? → (Instr.lookup 62 (.map (some mO)) (.agg #[.int .i64 (a : Int), .int .i64 (b : Int)]) false).run Tryd.prog W = .ok (.slice q (g.way a b).length c) W := by
  have hw := h.ways (a * 5 + b) (by omega)
  rw [show (a * 5 + b) / 5 = a by omega, show (a * 5 + b) % 5 = b by omega] at hw
  obtain ⟨q, c, e, h1, h2, hv⟩ := hw.vw
  refine ⟨q, c, e, ⟨q, c, rfl, h1, h2, hv⟩, fun W hW => ?_⟩
  have z := MapW.MM.look h.onw Tryd.underlying62 zeroL (okW ha hb) W hW
  rw [wy_getD h ha hb, e] at z
  exact z
set_option maxRecDepth 100000 in
theorem onwayG (base P : Nat) (g : G) (fp : List Nat) (all : Int) (a b : Int) (w : World) (h : TS w base P g fp) (hi : Inv all g) : Calls Tryd.prog 13 #[.pointer (some ⟨P, 0, none⟩), .int .i64 a, .int .i64 b] w fun e w' => ∃ q c, e = .returned (.tuple #[.slice q (onL g a b).length c, errF (wayC g a b)]) ∧ Sl w' (.slice q (onL g a b).length c) (onL g a b) ∧ (∀ ad, q = some ad → 0 < (onL g a b).length → w.heap.size ≤ ad.block) ∧ Below w.heap.size w w' := by
  obtain ⟨bG, cG, mO, mW, mS, rv, rfl, h, -, -⟩ := h
  have HG : Hid (GP w base P bG cG mO mW mS rv g) := h
  by_cases hc : wayC g a b = 0
  · obtain ⟨i1, i2, -⟩ := way_ok hc
    unfold inM at i1 i2
    have h5 := h.room.2.2
    obtain ⟨i, rfl⟩ : ∃ i : Nat, a = (i : Int) := ⟨a.toNat, by omega⟩
    obtain ⟨j, rfl⟩ : ∃ j : Nat, b = (j : Int) := ⟨b.toNat, by omega⟩
    have e1 : onL g (i : Int) (j : Int) = g.way i j := by unfold onL; rw [if_pos hc, Int.toNat_natCast, Int.toNat_natCast]
    obtain ⟨q, c, eq, hsl, hlk⟩ := h.look (a := i) (b := j) (by omega) (by omega)
    replace hlk := hlk w rfl
    have hn0 := h.nil (i * 5 + j) (by omega)
    rw [show (i * 5 + j) / 5 = i by omega, show (i * 5 + j) % 5 = j by omega, eq] at hn0
    have hlen := hi.len i j
    have c1 := h.c1
    have EC : Hid (errF (wayC g (i : Int) (j : Int)) = .nilIface) := by rw [hc]; rfl
    rw [e1, EC.out]
    obtain ⟨xs, exs⟩ : ∃ xs, xs = g.way i j := ⟨_, rfl⟩
    rw [← exs] at hsl hlk hn0 hlen ⊢
    obtain ⟨l, el⟩ : ∃ l, l = xs.length := ⟨_, rfl⟩
    have hl41 : l ≤ 41 := by
      rw [el]
      split at hlen <;> omega
    have HS : Hid (Sl w (.slice q xs.length c) xs) := hsl
    by_cases h0 : xs = []
    · have e3 := hn0 h0
      unfold nilP at e3
      subst h0
      injection e3 with z1 z2 z3
      subst z1 z3
      clear h hi hc i1 i2 h5 e1 eq hn0 hlen exs hsl el hl41
      go_enter Tryd.func13, Tryd.ntmps13
      go_wp2_with fail
      refine (chkW HG.out (i : Int) (j : Int)).mono ?_
      rintro e w ⟨rfl, rfl⟩
      rw [EC.out]
      go_wp2_with fail
      refine (clone_nil _).mono ?_
      rintro e w ⟨rfl, rfl⟩
      go_wp2
      go_ret2
      exact ⟨none, 0, rfl, HS.out, fun ad e => (by cases e), Below.refl _ _⟩
    · have h0' : 0 < xs.length := List.length_pos_iff.2 h0
      rw [← el] at hlk
      have EL : Hid (l = xs.length) := el
      have HX : Hid (0 < xs.length ∧ xs.length ≤ 1000) := ⟨h0', by omega⟩
      clear h hi hc i1 i2 h5 e1 eq hn0 hlen exs hsl el h0 h0'
      go_enter Tryd.func13, Tryd.ntmps13
      go_wp2_with fail
      refine (chkW HG.out (i : Int) (j : Int)).mono ?_
      rintro e w ⟨rfl, rfl⟩
      rw [EC.out]
      go_wp2_with fail
      refine (cloneC (.slice q l c) xs _ (by rw [EL.out]; exact HS.out) HX.out.1 HX.out.2).mono ?_
      rintro e w1 ⟨v', rfl, ho, hb⟩
      obtain ⟨q', c', rfl, hs', hn'⟩ := OwC.sl ho
      have HR : Hid (Sl w1 (.slice q' xs.length c') xs ∧ (∀ ad, q' = some ad → w.heap.size ≤ ad.block) ∧ Below w.heap.size w w1) := ⟨hs', hn', hb⟩
      clear ho hb hs' hn'
      go_wp2
      go_ret2
      exact ⟨q', c', rfl, HR.out.1, fun ad e _ => HR.out.2.1 ad e, HR.out.2.2⟩
  · have e1 : onL g a b = [] := by unfold onL; rw [if_neg hc]
    have EC : Hid (errF (wayC g a b) = .iface 58 (.int .i64 (wayC g a b))) := errF_no hc
    rw [e1, EC.out]
    clear h hi hc e1
    go_enter Tryd.func13, Tryd.ntmps13
    go_wp2_with fail
    refine (chkW HG.out a b).mono ?_
    rintro e w ⟨rfl, rfl⟩
    rw [EC.out]
    go_wp2
    go_ret2
    exact ⟨none, 0, rfl, ⟨none, 0, rfl, Nat.zero_le _, Nat.zero_le _, rfl, fun z => (by cases z)⟩, fun ad e => (by cases e), Below.refl _ _⟩
end Go.Proofs.YtgcdbcljneoifajDoor.Pic
