/-
  Contract of package log: Do.
-/
import Derived.Test.YtpjoaogiaacikakGreatDoorLgsG
import Derived.Test.YtpjoaogiaacikakGreatDoorLgsH
import Derived.Deep.CutRange
namespace Go.Proofs.YtpjoaogiaacikakGreatDoor.Lgs
open Go.RowKit
open Go.Proofs.YtpjoaogiaacikakGreatDoor.His (Ev Ew ev errV errV_ok errV_no Eo flat flat_len flat_append flat_one news1 info_ev chkC chkAt chk_zero)
open Go.Proofs.YtpjoaogiaacikakGreatDoor.Sep (KpL NewL)
open Go.Proofs.YtpjoaogiaacikakGreatDoor.Fif (own_lt own_block own_mono own_form)
set_option linter.unusedVariables false
variable {w w' : World} {base P : Nat} {v : Value} {lf : Int} {hb : List Int} {l : L}

/-- bytes behind the row -/
theorem app_ro (w : World) {ops : Array Oper} {rest : List Oper} {o : Oper} {a : Act} {Q : Exit → Act → World → Prop} (hgd : o.guard = none) (s x : Operand)
    (ho : o.op = .call { callee := .builtin .append, args := #[s, x], argTypes := #[79, 79] }) (base : Nat) (v : Value) (bs : List Int) (hs : a.eval s = v) (hown : Ro w base v bs)
    (m : List Int) (g n c : Nat) (hn : m.length = n) (h0 : 0 < n) (hx : a.eval x = .slice (some ⟨g, 0, none⟩) n c) (hc : ∀ j u, (m.map (Value.int .u8))[j]? = some u → w.cell? ((⟨g, 0, none⟩ : Addr).add j) = some u)
    (hsz : bs.length + n ≤ 10000) (hbase : base ≤ w.heap.size)
    (h : ∀ g9 c9 w', Ro w' base (.slice (some ⟨g9, 0, none⟩) (bs.length + n) c9) (bs ++ m) → w.grownBy w' v.ownBlock → (v.ownBlock = some g9 ∨ g9 = w.heap.size) → wpList Tryz.prog ops Q rest (a.put o.dst (.slice (some ⟨g9, 0, none⟩) (bs.length + n) c9)) w') : wpList Tryz.prog ops Q (o :: rest) a w := by
  obtain ⟨i, h1, h2, h3, h4⟩ := info_byte
  refine wpList_append_lies w hgd s x 79 ho base 5 i (.int .u8 0) 1 1 Tryz.underlying79 h1 h2 h3 h4 rfl (by decide) v bs.length (bs.map (Value.int .u8)) hs hown ⟨g, 0, none⟩ n c (m.map (Value.int .u8)) hx (by simp [hn]) hc (byte_one m) h0 (by unfold maxLen; omega) (by omega) hbase _ rfl ?_
  intro g9 c9 w' ho' hg hat _
  refine h g9 c9 w' ?_ hg hat
  unfold Ro
  rw [List.length_append, List.map_append, hn]
  exact ho'
/-- what Do leaves: bytes came behind the row -/
theorem LF.grew {w w4 w5 w9 : World} {l1 l2 : L} {hb2 : List Int} {g9 N9 c9 : Nat} (h0 : LF w base P v lf hb l) {lf5 : Int} {hb5 : List Int} (h5 : LF w5 base P v lf5 hb5 l1) (hB : Below w.heap.size w w4) (hbw : base ≤ w.heap.size) (s : St w4 w5 base P) (hg : w5.grownBy w9 v.ownBlock) (hat : v.ownBlock = some g9 ∨ g9 = w5.heap.size)
    (ho : Ro w9 base (.slice (some ⟨g9, 0, none⟩) N9 c9) (rcs l2.es ++ hb2)) (e1 : l2.safe = l1.safe) (e2 : l2.stop = l1.stop) (e3 : l2.left = l1.left) (e4 : hb2.length = l2.half) (e5 : l2.half ≤ 1) (e6 : l2.rs = List.replicate l2.es.length 3) :
    Re w (w9.setCell ⟨P, 0, none⟩ (.slice (some ⟨g9, 0, none⟩) N9 c9)) base P l v (.slice (some ⟨g9, 0, none⟩) N9 c9) l2 := by
  have hP5 := h5.lt
  have hs5 := s.size
  have hs4 := hB.size
  have hP0 := h0.lt
  have hgP : g9 ≠ P := by
    rcases hat with q | q
    · exact fun e => h5.ne (e ▸ q)
    · omega
  have r9 : w9.rowIs P 81 4 (cv v l2.safe lf5 l2.stop) := by
    rw [e1, e2]
    exact h5.row.of_block (hg.block P hP5 fun e => h5.ne e.symm)
  have lt0 : ∀ k, v.ownBlock = some k → base ≤ k ∧ k < w.heap.size := own_lt h0.ro
  refine ⟨⟨lf5, hb2, cv_kept r9 _, h5.low, own_block ho fun k hk => set_blk _ _ _ _ k ?_, e4, e5, e6, by rw [e1]; exact h5.whole, by rw [e3]; exact h5.left, h5.most⟩, ?_, ⟨?_, fun b hb q => ?_⟩, fun b hb => ?_⟩
  · have : g9 = k := by simpa [Value.ownBlock] using hk
    subst this
    exact hgP
  · exact (((hB.mono hbw).trans s.bel).grown hg (by omega) fun k hk => (lt0 k hk).1).trans (set_below _ 0 _ h5.low)
  · have := hg.size
    rw [set_size]
    omega
  · have q1 : b ≠ P := fun e => q (mem_fpL.2 (.inl e))
    have q2 : some b ≠ v.ownBlock := fun e => q (mem_fpL.2 (.inr e.symm))
    rw [set_blk _ _ _ _ b q1, hg.block b (by omega) q2, s.blk b q1, hB.block b hb]
  · rcases mem_fpL.1 hb with t | t
    · exact .inl (mem_fpL.2 (.inl t))
    · have : g9 = b := by simpa [Value.ownBlock] using t
      subst this
      rcases hat with q | q
      · exact .inl (mem_fpL.2 (.inr q))
      · exact .inr (by omega)
theorem dd_stop {e : Ev} (h : l.stop = true) : doC l e = 6 ∧ doL l e 3 = l := ⟨if_pos h, if_pos (.inl h)⟩
theorem dd_bad {e : Ev} (hs : l.stop = false) (h : chkC (l.es ++ [e]) ≠ 0) : doC l e = chkC (l.es ++ [e]) ∧ doL l e 3 = l := by
  refine ⟨?_, if_pos (.inr h)⟩
  unfold doC
  rw [if_neg (by simp [hs]), if_pos h]
theorem dd_half {e : Ev} (hs : l.stop = false) (h : chkC (l.es ++ [e]) = 0) (h0 : l.left = 0) : doC l e = 6 ∧ doL l e 3 = { l with half := 1, stop := true } := by
  constructor
  · unfold doC
    rw [if_neg (by simp [hs]), if_neg (fun q => q h), if_pos h0]
  · unfold doL
    rw [if_neg (by simp [hs, h]), if_pos h0]
theorem dd_ok {e : Ev} (hs : l.stop = false) (h : chkC (l.es ++ [e]) = 0) (h0 : l.left ≠ 0) : doC l e = 0 ∧ doL l e 3 = { l with es := l.es ++ [e], rs := l.rs ++ [3], left := tick l.left } := by
  constructor
  · unfold doC
    rw [if_neg (by simp [hs]), if_neg (fun q => q h), if_neg h0]
  · unfold doL
    rw [if_neg (by simp [hs, h]), if_neg h0]
set_option maxRecDepth 100000 in
set_option maxHeartbeats 8000000 in
theorem do_any (x0 x1 x2 : Int) (h : LF w base P v lf hb l) (hi : Inv l) (hbw : base ≤ w.heap.size) : Calls Tryz.prog 10 #[.pointer (some ⟨P, 0, none⟩), .agg #[.int .i64 x0, .int .i64 x1, .int .i64 x2]] w fun x w' => x = .returned (errV (doC l (x0, x1, x2))) ∧ ∃ v', Re w w' base P l v v' (doL l (x0, x1, x2) 3) := by
  obtain ⟨W0, eW⟩ : ∃ W, W = w.alloc (.cells #[.int .i64 x0, .int .i64 x1, .int .i64 x2] 40) := ⟨_, rfl⟩
  obtain ⟨BX, eBX⟩ : ∃ B, B = w.heap.size := ⟨_, rfl⟩
  have BW : Hid (Below w.heap.size w W0 ∧ W0.heap.size = BX + 1 ∧ BX = w.heap.size) := ⟨by rw [eW]; exact (Below.refl _ _).alloc (Nat.le_refl _) _, by rw [eW, eBX]; simp, eBX⟩
  have s0 : W0.cell? ⟨BX, 0, none⟩ = some (.int .i64 x0) := by rw [eW, eBX]; go_cell
  have s1 : W0.cell? ⟨BX, 1, none⟩ = some (.int .i64 x1) := by rw [eW, eBX]; go_cell
  have s2 : W0.cell? ⟨BX, 2, none⟩ = some (.int .i64 x2) := by rw [eW, eBX]; go_cell
  have G0 : Hid (LF W0 base P v lf hb l) := h.later BW.out.1
  have HG : Hid (LF w base P v lf hb l ∧ Inv l ∧ base ≤ w.heap.size) := ⟨h, hi, hbw⟩
  obtain ⟨c3, f3⟩ := G0.out.c3
  by_cases hs : l.stop = true
  · rw [(dd_stop hs).1, (dd_stop hs).2, errV_no (by decide)]
    rw [hs] at c3
    clear h hs hi hbw s0 s1 s2
    go_enter Tryz.func10, Tryz.ntmps10
    go_upto_region 1 with fail
    rw [← eW]
    clear eW eBX
    go_wp2
    go_ret
    exact ⟨rfl, _, Re.still HG.out.1 HG.out.2.2 BW.out.1⟩
  · have hs' : l.stop = false := by simpa using hs
    rw [hs'] at c3
    have HS : Hid (l.stop = false) := hs'
    have HH : Hid (hb = []) := List.eq_nil_of_length_eq_zero (by rw [h.half]; exact hi.half0 hs')
    have hn60 : l.es.length ≤ 60 := hi.small.1
    have hBX : BX < W0.heap.size := by have := BW.out.2.1; omega
    clear h hs hi hbw hs'
    go_enter Tryz.func10, Tryz.ntmps10
    go_upto_region 1 with fail
    rw [← eW, ← eBX]
    clear eW eBX
    go_upto_region 3 with fail
    go_cut [5, 6] from 14 to 22 (fun _ x wx => x = errV (chkC (l.es ++ [(x0, x1, x2)])) ∧ Hid (Below W0.heap.size W0 wx))
    case first =>
      refine wp_region_held_drew (S := fun X => X.cell? ⟨BX, 0, none⟩ = some (.int .i64 x0) ∧ X.cell? ⟨BX, 1, none⟩ = some (.int .i64 x1) ∧ X.cell? ⟨BX, 2, none⟩ = some (.int .i64 x2)) (by kernel_rfl) ⟨s0, s1, s2⟩ ?_
      intro hS
      refine takeL (i := 0) 15 (v := .pointer (some ⟨P, 0, none⟩)) rfl rfl (by kernel_rfl) (by kernel_rfl) (by kernel_rfl) (fun _ _ _ h => h) (Or.inl ⟨by kernel_rfl, fun _ hS => by first | rfl | (obtain ⟨k0, k1, k2⟩ := hS; go_simp)⟩) hS ?_
      try simp only [Act.put, List.setIfInBounds_toArray, List.set_cons_zero, List.set_cons_succ]
      refine takeL (i := 2) 17 (v := .agg #[.int .i64 x0, .int .i64 x1, .int .i64 x2]) rfl rfl (by kernel_rfl) (by kernel_rfl) (by kernel_rfl) (fun _ _ _ h => h) (Or.inl ⟨by kernel_rfl, fun _ hS => by first | rfl | (obtain ⟨k0, k1, k2⟩ := hS; go_simp)⟩) hS ?_
      try simp only [Act.put, List.setIfInBounds_toArray, List.set_cons_zero, List.set_cons_succ]
      refine wpAnyH_ready (rs := [1, 3]) (by kernel_rfl) (by simp) ?_
      refine (AllReadyH.cons rfl (fun K9 hK9 => ?_) (AllReadyH.cons rfl (fun K9 hK9 => ?_) AllReadyH.nil))
      · go_simp
        refine (all_any (w := W0.drew) (G0.out.later (Below.refl _ _).drew) HG.out.2.1).mono ?_
        rintro e w1 ⟨u, rfl, ho, hb1⟩
        have B1 : Hid (Below W0.heap.size W0 w1) := (Below.refl W0.heap.size W0).drew.trans hb1
        have O1 : Hid (Eo w1 W0.heap.size u l.es) := ho
        clear ho hb1
        go_simp
        refine hK9.out _ _ ⟨(B1.out.cell (p := ⟨BX, 0, none⟩) hBX).trans s0, (B1.out.cell (p := ⟨BX, 1, none⟩) hBX).trans s1, (B1.out.cell (p := ⟨BX, 2, none⟩) hBX).trans s2⟩ (fun hS => ?_)
        clear hK9 K9
        refine wpAnyH_ready (rs := [3]) (by kernel_rfl) (by simp) ?_
        refine (AllReadyH.cons rfl (fun K9 hK9 => ?_) AllReadyH.nil)
        have b1 : Hid (Below W0.heap.size W0 (w1.alloc (.cells #[.int .i64 x0, .int .i64 x1, .int .i64 x2] 40))) := B1.out.alloc B1.out.size _
        have o1 : Hid (Eo (w1.alloc (.cells #[.int .i64 x0, .int .i64 x1, .int .i64 x2] 40)) W0.heap.size u l.es) := O1.out.alloc _
        have n1 : Hid _ := news1 w1 _ rfl x0 x1 x2 40
        go_simp
        refine hK9.out _ _ ⟨(b1.out.cell (p := ⟨BX, 0, none⟩) hBX).trans s0, (b1.out.cell (p := ⟨BX, 1, none⟩) hBX).trans s1, (b1.out.cell (p := ⟨BX, 2, none⟩) hBX).trans s2⟩ (fun hS => ?_)
        clear hK9 K9
        obtain ⟨ie, i1, i2, i3, i4⟩ := info_ev
        refine wpAnyH_ready (rs := [4]) (by kernel_rfl) (by simp) ?_
        refine (AllReadyH.cons rfl (fun K9 hK9 => ?_) AllReadyH.nil)
        refine step_append_lies _ rfl _ _ 34 rfl W0.heap.size 40 ie _ 3 24 Tryz.underlying34 i1 i2 i3 i4 rfl (by decide) _ l.es.length (flat l.es) rfl o1.out ⟨w1.heap.size, 0, none⟩ 1 1 (flat [(x0, x1, x2)]) rfl rfl n1.out (flat_one _) (by decide) (by unfold maxLen; omega) (by omega) b1.out.size _ rfl ?_
        intro g9 c9 w9 ho9 hg9 _ _
        have O9 : Hid (Eo w9 W0.heap.size (.slice (some ⟨g9, 0, none⟩) (l.es.length + 1) c9) (l.es ++ [(x0, x1, x2)])) := by
          unfold Eo
          rw [flat_append, List.length_append]
          exact ho9
        have b9 : Hid (Below W0.heap.size W0 w9) := b1.out.grown hg9 b1.out.size (fun t ht => (own_lt o1.out t ht).1)
        clear ho9 hg9 n1 o1 b1
        go_simp
        refine hK9.out _ _ ⟨(b9.out.cell (p := ⟨BX, 0, none⟩) hBX).trans s0, (b9.out.cell (p := ⟨BX, 1, none⟩) hBX).trans s1, (b9.out.cell (p := ⟨BX, 2, none⟩) hBX).trans s2⟩ (fun hS => ?_)
        clear hK9 K9
        refine wpAnyH_ready (rs := [5]) (by kernel_rfl) (by simp) ?_
        refine (AllReadyH.cons rfl (fun K9 hK9 => ?_) AllReadyH.nil)
        have V9 : Hid (l.es.length + 1 ≤ c9 ∧ c9 ≤ maxLen ∧ Ew w9 (some ⟨g9, 0, none⟩) (l.es.length + 1) (l.es ++ [(x0, x1, x2)])) := by
          obtain ⟨q, c, e, h1, h2, h3⟩ := eo_view O9.out
          rw [List.length_append] at e h1 h3
          cases e
          exact ⟨h1, h2, h3⟩
        go_simp
        refine (His.check_any (some ⟨g9, 0, none⟩) (l.es.length + 1) c9 (l.es ++ [(x0, x1, x2)]) w9 V9.out.1 V9.out.2.1 V9.out.2.2).mono ?_
        rintro e w10 ⟨rfl, hb10⟩
        have b10 : Hid (Below W0.heap.size W0 w10) := b9.out.trans (hb10.mono b9.out.size)
        clear hb10 b9 O9 V9
        go_simp
        refine hK9.out _ _ ⟨(b10.out.cell (p := ⟨BX, 0, none⟩) hBX).trans s0, (b10.out.cell (p := ⟨BX, 1, none⟩) hBX).trans s1, (b10.out.cell (p := ⟨BX, 2, none⟩) hBX).trans s2⟩ (fun hS => ?_)
        clear hK9 K9
        refine takeL (i := 6) 14 (v := .tuple #[.int .i64 (chkAt (l.es ++ [(x0, x1, x2)])), errV (chkC (l.es ++ [(x0, x1, x2)]))]) rfl rfl (by kernel_rfl) (by kernel_rfl) (by kernel_rfl) (fun _ _ _ h => h) (Or.inl ⟨by kernel_rfl, fun _ hS => by first | rfl | (obtain ⟨k0, k1, k2⟩ := hS; go_simp)⟩) hS ?_
        try simp only [Act.put, List.setIfInBounds_toArray, List.set_cons_zero, List.set_cons_succ]
        refine takeL (i := 7) 21 (v := .int .i64 (chkAt (l.es ++ [(x0, x1, x2)]))) rfl rfl (by kernel_rfl) (by kernel_rfl) (by kernel_rfl) (fun _ _ _ h => h) (Or.inl ⟨by kernel_rfl, fun _ hS => by first | rfl | (obtain ⟨k0, k1, k2⟩ := hS; go_simp)⟩) hS ?_
        try simp only [Act.put, List.setIfInBounds_toArray, List.set_cons_zero, List.set_cons_succ]
        refine takeL (i := 8) 22 (v := errV (chkC (l.es ++ [(x0, x1, x2)]))) rfl rfl (by kernel_rfl) (by kernel_rfl) (by kernel_rfl) (fun _ _ _ h => h) (Or.inl ⟨by kernel_rfl, fun _ hS => by first | rfl | (obtain ⟨k0, k1, k2⟩ := hS; go_simp)⟩) hS ?_
        try simp only [Act.put, List.setIfInBounds_toArray, List.set_cons_zero, List.set_cons_succ]
        refine takeL (i := 9) 5 (v := .int .i64 (chkAt (l.es ++ [(x0, x1, x2)]))) rfl rfl (by kernel_rfl) (by kernel_rfl) (by kernel_rfl) (fun _ _ _ h => h) (Or.inl ⟨by kernel_rfl, fun _ hS => by first | rfl | (obtain ⟨k0, k1, k2⟩ := hS; go_simp)⟩) hS ?_
        try simp only [Act.put, List.setIfInBounds_toArray, List.set_cons_zero, List.set_cons_succ]
        refine takeL (i := 10) 6 (v := errV (chkC (l.es ++ [(x0, x1, x2)]))) rfl rfl (by kernel_rfl) (by kernel_rfl) (by kernel_rfl) (fun _ _ _ h => h) (Or.inl ⟨by kernel_rfl, fun _ hS => by first | rfl | (obtain ⟨k0, k1, k2⟩ := hS; go_simp)⟩) hS ?_
        try simp only [Act.put, List.setIfInBounds_toArray, List.set_cons_zero, List.set_cons_succ]
        refine wpAnyH_done (by kernel_rfl) ?_ _
        go_wp2_with fail
        go_meet
        exact ⟨rfl, b10.out⟩
      · have B1 : Hid (Below W0.heap.size W0 (W0.alloc (.cells #[.int .i64 x0, .int .i64 x1, .int .i64 x2] 40)).drew) := ((Below.refl _ _).alloc (Nat.le_refl _) _).drew
        go_simp
        refine hK9.out _ _ ⟨(B1.out.cell (p := ⟨BX, 0, none⟩) hBX).trans s0, (B1.out.cell (p := ⟨BX, 1, none⟩) hBX).trans s1, (B1.out.cell (p := ⟨BX, 2, none⟩) hBX).trans s2⟩ (fun hS => ?_)
        clear hK9 K9
        refine wpAnyH_ready (rs := [1]) (by kernel_rfl) (by simp) ?_
        refine (AllReadyH.cons rfl (fun K9 hK9 => ?_) AllReadyH.nil)
        go_simp
        refine (all_any (w := (W0.alloc (.cells #[.int .i64 x0, .int .i64 x1, .int .i64 x2] 40)).drew) (G0.out.later B1.out) HG.out.2.1).mono ?_
        rintro e w1 ⟨u, rfl, ho, hb1⟩
        have b1 : Hid (Below W0.heap.size W0 w1) := B1.out.trans (hb1.mono B1.out.size)
        have o1 : Hid (Eo w1 W0.heap.size u l.es) := own_mono ho B1.out.size
        have n1 : Hid (∀ j y, (flat [(x0, x1, x2)])[j]? = some y → w1.cell? ((⟨W0.heap.size, 0, none⟩ : Addr).add j) = some y) := fun j y hj => by
          have q := news1 W0 _ rfl x0 x1 x2 40 j y hj
          rw [Addr.add_lit] at q ⊢
          exact (hb1.cell (p := ⟨W0.heap.size, 0 + j, none⟩) (by simp)).trans q
        clear ho hb1
        go_simp
        refine hK9.out _ _ ⟨(b1.out.cell (p := ⟨BX, 0, none⟩) hBX).trans s0, (b1.out.cell (p := ⟨BX, 1, none⟩) hBX).trans s1, (b1.out.cell (p := ⟨BX, 2, none⟩) hBX).trans s2⟩ (fun hS => ?_)
        clear hK9 K9
        obtain ⟨ie, i1, i2, i3, i4⟩ := info_ev
        refine wpAnyH_ready (rs := [4]) (by kernel_rfl) (by simp) ?_
        refine (AllReadyH.cons rfl (fun K9 hK9 => ?_) AllReadyH.nil)
        refine step_append_lies _ rfl _ _ 34 rfl W0.heap.size 40 ie _ 3 24 Tryz.underlying34 i1 i2 i3 i4 rfl (by decide) _ l.es.length (flat l.es) rfl o1.out ⟨W0.heap.size, 0, none⟩ 1 1 (flat [(x0, x1, x2)]) rfl rfl n1.out (flat_one _) (by decide) (by unfold maxLen; omega) (by omega) b1.out.size _ rfl ?_
        intro g9 c9 w9 ho9 hg9 _ _
        have O9 : Hid (Eo w9 W0.heap.size (.slice (some ⟨g9, 0, none⟩) (l.es.length + 1) c9) (l.es ++ [(x0, x1, x2)])) := by
          unfold Eo
          rw [flat_append, List.length_append]
          exact ho9
        have b9 : Hid (Below W0.heap.size W0 w9) := b1.out.grown hg9 b1.out.size (fun t ht => (own_lt o1.out t ht).1)
        clear ho9 hg9 n1 o1 b1
        go_simp
        refine hK9.out _ _ ⟨(b9.out.cell (p := ⟨BX, 0, none⟩) hBX).trans s0, (b9.out.cell (p := ⟨BX, 1, none⟩) hBX).trans s1, (b9.out.cell (p := ⟨BX, 2, none⟩) hBX).trans s2⟩ (fun hS => ?_)
        clear hK9 K9
        refine wpAnyH_ready (rs := [5]) (by kernel_rfl) (by simp) ?_
        refine (AllReadyH.cons rfl (fun K9 hK9 => ?_) AllReadyH.nil)
        have V9 : Hid (l.es.length + 1 ≤ c9 ∧ c9 ≤ maxLen ∧ Ew w9 (some ⟨g9, 0, none⟩) (l.es.length + 1) (l.es ++ [(x0, x1, x2)])) := by
          obtain ⟨q, c, e, h1, h2, h3⟩ := eo_view O9.out
          rw [List.length_append] at e h1 h3
          cases e
          exact ⟨h1, h2, h3⟩
        go_simp
        refine (His.check_any (some ⟨g9, 0, none⟩) (l.es.length + 1) c9 (l.es ++ [(x0, x1, x2)]) w9 V9.out.1 V9.out.2.1 V9.out.2.2).mono ?_
        rintro e w10 ⟨rfl, hb10⟩
        have b10 : Hid (Below W0.heap.size W0 w10) := b9.out.trans (hb10.mono b9.out.size)
        clear hb10 b9 O9 V9
        go_simp
        refine hK9.out _ _ ⟨(b10.out.cell (p := ⟨BX, 0, none⟩) hBX).trans s0, (b10.out.cell (p := ⟨BX, 1, none⟩) hBX).trans s1, (b10.out.cell (p := ⟨BX, 2, none⟩) hBX).trans s2⟩ (fun hS => ?_)
        clear hK9 K9
        refine takeL (i := 6) 14 (v := .tuple #[.int .i64 (chkAt (l.es ++ [(x0, x1, x2)])), errV (chkC (l.es ++ [(x0, x1, x2)]))]) rfl rfl (by kernel_rfl) (by kernel_rfl) (by kernel_rfl) (fun _ _ _ h => h) (Or.inl ⟨by kernel_rfl, fun _ hS => by first | rfl | (obtain ⟨k0, k1, k2⟩ := hS; go_simp)⟩) hS ?_
        try simp only [Act.put, List.setIfInBounds_toArray, List.set_cons_zero, List.set_cons_succ]
        refine takeL (i := 7) 21 (v := .int .i64 (chkAt (l.es ++ [(x0, x1, x2)]))) rfl rfl (by kernel_rfl) (by kernel_rfl) (by kernel_rfl) (fun _ _ _ h => h) (Or.inl ⟨by kernel_rfl, fun _ hS => by first | rfl | (obtain ⟨k0, k1, k2⟩ := hS; go_simp)⟩) hS ?_
        try simp only [Act.put, List.setIfInBounds_toArray, List.set_cons_zero, List.set_cons_succ]
        refine takeL (i := 8) 22 (v := errV (chkC (l.es ++ [(x0, x1, x2)]))) rfl rfl (by kernel_rfl) (by kernel_rfl) (by kernel_rfl) (fun _ _ _ h => h) (Or.inl ⟨by kernel_rfl, fun _ hS => by first | rfl | (obtain ⟨k0, k1, k2⟩ := hS; go_simp)⟩) hS ?_
        try simp only [Act.put, List.setIfInBounds_toArray, List.set_cons_zero, List.set_cons_succ]
        refine takeL (i := 9) 5 (v := .int .i64 (chkAt (l.es ++ [(x0, x1, x2)]))) rfl rfl (by kernel_rfl) (by kernel_rfl) (by kernel_rfl) (fun _ _ _ h => h) (Or.inl ⟨by kernel_rfl, fun _ hS => by first | rfl | (obtain ⟨k0, k1, k2⟩ := hS; go_simp)⟩) hS ?_
        try simp only [Act.put, List.setIfInBounds_toArray, List.set_cons_zero, List.set_cons_succ]
        refine takeL (i := 10) 6 (v := errV (chkC (l.es ++ [(x0, x1, x2)]))) rfl rfl (by kernel_rfl) (by kernel_rfl) (by kernel_rfl) (fun _ _ _ h => h) (Or.inl ⟨by kernel_rfl, fun _ hS => by first | rfl | (obtain ⟨k0, k1, k2⟩ := hS; go_simp)⟩) hS ?_
        try simp only [Act.put, List.setIfInBounds_toArray, List.set_cons_zero, List.set_cons_succ]
        refine wpAnyH_done (by kernel_rfl) ?_ _
        go_wp2_with fail
        go_meet
        exact ⟨rfl, b10.out⟩
    case rest =>
      obtain ⟨rfl, hB3⟩ := hcut
      by_cases hc : chkC (l.es ++ [(x0, x1, x2)]) = 0
      · have HC : Hid (chkC (l.es ++ [(x0, x1, x2)]) = 0) := hc
        rw [hc, errV_ok]
        have y0 : wc.cell? ⟨BX, 0, none⟩ = some (.int .i64 x0) := (hB3.out.cell (p := ⟨BX, 0, none⟩) hBX).trans s0
        have y1 : wc.cell? ⟨BX, 1, none⟩ = some (.int .i64 x1) := (hB3.out.cell (p := ⟨BX, 1, none⟩) hBX).trans s1
        have y2 : wc.cell? ⟨BX, 2, none⟩ = some (.int .i64 x2) := (hB3.out.cell (p := ⟨BX, 2, none⟩) hBX).trans s2
        obtain ⟨b0, b1, b2⟩ := last_small hc
        have hv0 := IntWalk.u8_in x0 (by simp only at b0; omega)
        have hv1 := IntWalk.u8_in x1 (by simp only at b1; omega)
        have hv2 := IntWalk.u8_in x2 (by simp only at b2; omega)
        clear b0 b1 b2 hc
        obtain ⟨W4, eW4⟩ : ∃ W, W = wc.alloc (.cells ([x0, x1, x2].map (Value.int .u8)).toArray 5) := ⟨_, rfl⟩
        have B4 : Hid (Below w.heap.size w W4 ∧ wc.heap.size < W4.heap.size) := by
          have q := BW.out.1.trans (hB3.out.mono BW.out.1.size)
          rw [eW4]
          exact ⟨q.alloc q.size _, by simp⟩
        have G4 : Hid (LF W4 base P v lf hb l) := HG.out.1.later B4.out.1
        have N4 : Hid (∀ j u, ([x0, x1, x2].map (Value.int .u8))[j]? = some u → W4.cell? ((⟨wc.heap.size, 0, none⟩ : Addr).add j) = some u) := by
          rw [eW4]
          exact new_bytes wc _ rfl _ _
        have NP : Hid (wc.heap.size ≠ P) := by
          have := HG.out.1.lt
          have := BW.out.1.size
          have := hB3.out.size
          show _ ≠ _
          omega
        go_upto_region 7 with fail
        rw [show (wc.alloc (.cells #[.int .u8 x0, .int .u8 x1, .int .u8 x2] 5)) = W4 from eW4.symm]
        clear eW4
        have SZ : Hid (l.es.length * 3 + l.half ≤ 9000 ∧ base ≤ W4.heap.size) := by
          have := HG.out.1.one
          have := HG.out.2.2
          have := B4.out.1.size
          exact ⟨by omega, by omega⟩
        by_cases h0 : l.left = 0
        · have H0 : Hid (l.left = 0) := h0
          clear h0
          go_wp2_with fail
          refine (step_stop G4.out H0.out).mono ?_
          rintro e w5 ⟨rfl, h5, t5⟩
          obtain ⟨d0, g0⟩ := h5.c0
          have K5 : Hid _ := And.intro h5 t5
          clear h5 t5
          have N51 : Hid (∀ j u, ([x0].map (Value.int .u8))[j]? = some u → w5.cell? ((⟨wc.heap.size, 0, none⟩ : Addr).add j) = some u) := fun j u hj => by
            have q := N4.out j u (by rcases j with _ | j <;> simp_all)
            rw [Addr.add_lit] at q ⊢
            exact (World.cell?_of_block (a := ⟨wc.heap.size, 0 + j, none⟩) (K5.out.2.blk _ NP.out)).trans q
          rw [errV_no (by decide)]
          go_wp2_with (at_builtin; refine app_ro _ rfl _ _ rfl base v (rcs l.es ++ hb) rfl K5.out.1.ro [x0] wc.heap.size 1 3 rfl (by decide) rfl N51.out (by have := HG.out.1.lenN; have := SZ.out; omega) (by have := SZ.out; have := K5.out.2.size; omega) ?_; intro g9 c9 w9 ho9 hg9 hat9; have d9 := (hg9.cell_far ⟨P, 0, none⟩ K5.out.1.lt (fun e => K5.out.1.ne e.symm)).trans d0; have z9 := (hg9.frozen_far ⟨P, 0, none⟩ K5.out.1.lt (fun e => K5.out.1.ne e.symm)).trans g0; have K9 : Hid _ := And.intro ho9 (And.intro hg9 hat9); clear ho9 hg9 hat9)
          go_wp2
          go_ret
          refine ⟨by rw [(dd_half HS.out HC.out H0.out).1, errV_no (by decide)]; rfl, .slice (some ⟨g9, 0, none⟩) ((rcs l.es).length + hb.length + 1) c9, ?_⟩
          rw [(dd_half HS.out HC.out H0.out).2]
          refine LF.grew (l1 := { l with stop := true }) (l2 := { l with half := 1, stop := true }) (hb2 := [x0]) HG.out.1 K5.out.1 B4.out.1 HG.out.2.2 K5.out.2 K9.out.2.1 K9.out.2.2 ?_ rfl rfl rfl rfl (Nat.le_refl 1) HG.out.1.rs
          have q := K9.out.1
          rw [List.length_append] at q
          have e : rcs l.es ++ hb ++ [x0] = rcs l.es ++ [x0] := by rw [HH.out, List.append_nil]
          rw [e] at q
          exact q
        · have H0 : Hid (l.left ≠ 0) := h0
          clear h0
          go_wp2_with fail
          refine (step_go G4.out H0.out).mono ?_
          rintro e w5 ⟨rfl, ⟨lf', h5⟩, t5⟩
          obtain ⟨d0, g0⟩ := h5.c0
          have K5 : Hid _ := And.intro h5 t5
          clear h5 t5
          have N5 : Hid (∀ j u, ([x0, x1, x2].map (Value.int .u8))[j]? = some u → w5.cell? ((⟨wc.heap.size, 0, none⟩ : Addr).add j) = some u) := fun j u hj => by
            have q := N4.out j u hj
            rw [Addr.add_lit] at q ⊢
            exact (World.cell?_of_block (a := ⟨wc.heap.size, 0 + j, none⟩) (K5.out.2.blk _ NP.out)).trans q
          rw [errV_ok]
          go_wp2_with (at_builtin; refine app_ro _ rfl _ _ rfl base v (rcs l.es ++ hb) rfl K5.out.1.ro [x0, x1, x2] wc.heap.size 3 3 rfl (by decide) rfl N5.out (by have := HG.out.1.lenN; have := SZ.out; omega) (by have := SZ.out; have := K5.out.2.size; omega) ?_; intro g9 c9 w9 ho9 hg9 hat9; have d9 := (hg9.cell_far ⟨P, 0, none⟩ K5.out.1.lt (fun e => K5.out.1.ne e.symm)).trans d0; have z9 := (hg9.frozen_far ⟨P, 0, none⟩ K5.out.1.lt (fun e => K5.out.1.ne e.symm)).trans g0; have K9 : Hid _ := And.intro ho9 (And.intro hg9 hat9); clear ho9 hg9 hat9)
          go_wp2
          go_ret
          refine ⟨by rw [(dd_ok HS.out HC.out H0.out).1, errV_ok]; rfl, .slice (some ⟨g9, 0, none⟩) ((rcs l.es).length + hb.length + 3) c9, ?_⟩
          rw [(dd_ok HS.out HC.out H0.out).2]
          refine LF.grew (l1 := { l with left := tick l.left }) (l2 := { l with es := l.es ++ [(x0, x1, x2)], rs := l.rs ++ [3], left := tick l.left }) (hb2 := []) HG.out.1 K5.out.1 B4.out.1 HG.out.2.2 K5.out.2 K9.out.2.1 K9.out.2.2 ?_ rfl rfl rfl ?_ HG.out.1.one ?_
          · have q := K9.out.1
            rw [List.length_append] at q
            have e : rcs l.es ++ hb ++ [x0, x1, x2] = rcs (l.es ++ [(x0, x1, x2)]) ++ [] := by rw [HH.out, List.append_nil, List.append_nil, rcs_append, rcs_one]; rfl
            rw [e] at q
            exact q
          · have := HG.out.1.half
            rw [HH.out] at this
            exact this
          · show l.rs ++ [3] = List.replicate (l.es ++ [(x0, x1, x2)]).length 3
            rw [HG.out.1.rs, List.length_append, List.length_singleton, List.replicate_succ']
      · have HC : Hid (chkC (l.es ++ [(x0, x1, x2)]) ≠ 0) := hc
        rw [errV_no hc]
        clear hc
        go_wp2
        go_ret
        refine ⟨by rw [(dd_bad HS.out HC.out).1, errV_no HC.out]; rfl, v, ?_⟩
        rw [(dd_bad HS.out HC.out).2]
        exact Re.still HG.out.1 HG.out.2.2 (BW.out.1.trans (hB3.out.mono BW.out.1.size))
end Go.Proofs.YtpjoaogiaacikakGreatDoor.Lgs
