/-
  The document's own word out of bytes.
-/
import Derived.Test.YtolnfipdhkbkjajDoorWirR
import Derived.Test.YtolnfipdhkbkjajDoorWirF
import Derived.Test.YtolnfipdhkbkjajDoorWirG
import Derived.Test.YtolnfipdhkbkjajDoorRefVe
import Derived.Deep.AppendLies
import Derived.Deep.RegionLaw
import Derived.Deep.CutBlock
import Derived.Deep.CutRange
namespace Go.Proofs.YtolnfipdhkbkjajDoor.Wir
open Go.RowKit
open Go.Proofs.YtolnfipdhkbkjajDoor.Fif (own_lt own_block own_form own_mono own_vw Kp ret_bool info_int int_one new_int)
open Go.Proofs.YtolnfipdhkbkjajDoor.Vec (Vw code)
open Go.Proofs.YtolnfipdhkbkjajDoor.Cau (Sd sdBad)
set_option linter.unusedVariables false

/-- numbers in a row that the call owns -/
def Io (w : World) (base : Nat) (v : Value) (l : List Int) : Prop := w.ownsRow base 3 1 v l.length (l.map (Value.int .i64))
theorem Io.nil (w : World) (base : Nat) : Io w base (.slice none 0 0) [] := World.ownsRow_nil _ _ _ _
theorem Io.same {w w' : World} {base : Nat} {v : Value} {l : List Int} (h : Io w base v l) (e : w'.heap = w.heap) : Io w' base v l := own_block h fun k _ => by rw [e]
theorem Io.sl {w : World} {base : Nat} {v : Value} {l : List Int} (h : Io w base v l) : Sl w v l := by
  rcases h.2 with ⟨h2, h3⟩ | ⟨g, cap, cur, hv, hb, hh, hc, hm, hsz, ht⟩
  · have e : l = [] := List.eq_nil_of_length_eq_zero h3
    subst e
    rw [h2]
    exact Sl.nil w
  · obtain ⟨a, c, e, hw⟩ := own_vw h
    rw [hv] at e
    simp only [Value.slice.injEq] at e
    exact ⟨_, cap, hv, hc, hm, by rw [e.1]; exact hw⟩
theorem step_app (w : World) {ops : Array Oper} {o : Oper} {a : Act} {K : Act → World → Prop} {Q : Exit → Act → World → Prop} {E : Prop} (hgd : o.guard = none) (s x : Operand)
    (ho : o.op = .call { callee := .builtin .append, args := #[s, x], argTypes := #[22, 22] }) (base : Nat) (v : Value) (l : List Int) (hs : a.eval s = v) (hown : Io w base v l)
    (g : Nat) (n : Int) (hx : a.eval x = .slice (some ⟨g, 0, none⟩) 1 1) (hc : w.cell? ⟨g, 0, none⟩ = some (.int .i64 n)) (hl : l.length ≤ 1000) (hbase : base ≤ w.heap.size)
    (h : ∀ g cap w', Io w' base (.slice (some ⟨g, 0, none⟩) (l.length + 1) cap) (l ++ [n]) → w.grownBy w' v.ownBlock → (v.ownBlock = some g ∨ g = w.heap.size) → K (a.put o.dst (.slice (some ⟨g, 0, none⟩) (l.length + 1) cap)) w') :
    if Region.wanted o (yielded ops a.tmps) = true then Oper.wp Tryd.prog o a w K Q else E := by
  obtain ⟨i, h1, h2, h3, h4⟩ := info_int
  refine step_append_lies w hgd s x 22 ho base 3 i (.int .i64 0) 1 8 Tryd.underlying22 h1 h2 h3 h4 rfl (by omega) v l.length (l.map (Value.int .i64)) hs hown ⟨g, 0, none⟩ 1 1 [.int .i64 n] hx rfl (fun j u hj => ?_) (int_one _) (by omega) (by unfold maxLen; omega) (by omega) hbase w.heap.size rfl ?_
  · rcases j with _ | j
    · simp at hj
      subst hj
      rw [Addr.add_lit]
      exact hc
    · simp at hj
  · intro g cap w' ho' hg hat _
    refine h g cap w' ?_ hg hat
    unfold Io
    rw [List.length_append, List.map_append]
    exact ho'
/-- the numbers that have been read -/
def nums (t : ByteArray) (k : Nat) : List Int := (List.range k).map (n3at t)
theorem nums_len (t : ByteArray) (k : Nat) : (nums t k).length = k := by simp [nums]
theorem nums_succ (t : ByteArray) (k : Nat) : nums t (k + 1) = nums t k ++ [n3at t k] := by simp [nums, List.range_succ]
theorem nums_five (t : ByteArray) : nums t 5 = (rd t).2.2 := rfl
/-- how far a word has been read: its block, and the numbers -/
structure RB (W0 w : World) (t : ByteArray) (L k : Nat) : Prop where
  row : ∃ v, w.rowIs L 59 3 (wv (bt t 0) (bt t 1) v) ∧ Io w W0.heap.size v (nums t k) ∧ v.ownBlock ≠ some L
  low : W0.heap.size ≤ L
  bel : Below W0.heap.size W0 w
theorem RB.drew {W0 w : World} {t : ByteArray} {L k : Nat} (h : RB W0 w t L k) : RB W0 w.drew t L k := by
  obtain ⟨v, h1, h2, h3⟩ := h.row
  exact ⟨⟨v, h1, h2.same rfl, h3⟩, h.low, h.bel.trans ⟨rfl, rfl, rfl, Nat.le_refl _, fun _ _ => rfl⟩⟩
theorem RB.made (W0 : World) (t : ByteArray) (b0 b1 : Int) (e0 : b0 = bt t 0) (e1 : b1 = bt t 1) : RB W0 (W0.alloc (.cells #[.int .i64 b0, .int .i64 b1, .slice none 0 0] 59)) t W0.heap.size 0 := by
  rw [e0, e1]
  exact ⟨⟨.slice none 0 0, box W0 _ _ _, Io.nil _ _, by simp [Value.ownBlock]⟩, Nat.le_refl _, (Below.refl _ _).alloc (Nat.le_refl _) _⟩
theorem grown_drew {w w' : World} {ob : Obj} {k : Option Nat} (h : ((w.alloc ob).drew).grownBy w' k) : (w.alloc ob).grownBy w' k := ⟨h.os, h.tape, h.output, h.size, h.block⟩
theorem RB.next {W0 w w5 : World} {t : ByteArray} {L k g cap : Nat} {v : Value} {ob : Obj} (h1 : w.rowIs L 59 3 (wv (bt t 0) (bt t 1) v)) (h2 : Io w W0.heap.size v (nums t k)) (h3 : v.ownBlock ≠ some L) (hl : W0.heap.size ≤ L) (hb : Below W0.heap.size W0 w)
    (ho : Io w5 W0.heap.size (.slice (some ⟨g, 0, none⟩) (k + 1) cap) (nums t (k + 1))) (hg : (w.alloc ob).grownBy w5 v.ownBlock) (hat : v.ownBlock = some g ∨ g = (w.alloc ob).heap.size) : RB W0 (w5.setCell ⟨L, 2, none⟩ (.slice (some ⟨g, 0, none⟩) (k + 1) cap)) t L (k + 1) := by
  have hLl := World.rowIs.lt h1
  have hgL : g ≠ L := by
    rcases hat with e | e
    · rintro rfl
      exact h3 e
    · simp at e
      omega
  have e5 : w5.heap[L]? = w.heap[L]? := (hg.block L (Nat.lt_of_lt_of_le hLl (by simp)) (fun e => h3 e.symm)).trans (Below.heap_alloc _ _ _ hLl)
  refine ⟨⟨.slice (some ⟨g, 0, none⟩) (k + 1) cap, (World.rowIs.set (World.rowIs.of_block h1 e5) 2 _).congr fun i hi => ?_, own_block ho fun b hb => ?_, ?_⟩, hl, ?_⟩
  · unfold wv
    rcases i with _ | _ | _ | i <;> first | rfl | omega
  · have : b = g := by simpa [Value.ownBlock] using hb.symm
    subst this
    exact Deep.blk_setCell_other _ _ _ _ hgL
  · simpa [Value.ownBlock] using hgL
  · exact ((hb.alloc hb.size _).grown hg (by have := hb.size; simp; omega) (fun b hk => (own_lt h2 b hk).1)).setCell (p := ⟨L, 2, none⟩) hl _
set_option maxRecDepth 100000 in
set_option maxHeartbeats 2000000 in
theorem refRead_right (t : ByteArray) (w : World) (h : t.size = 18) : Calls Tryd.prog 24 #[.string t] w fun e w' => ∃ u, e = .returned (.tuple #[.agg #[.int .i64 (unS t).1, .int .i64 (unS t).2.1, u], .bool (okU t)]) ∧ Sl w' u (unS t).2.2 ∧ Below w.heap.size w w' := by
  have d0 : ((t.size : Int) != 18) = false := by simp; omega
  have H : Hid (t.size = 18) := h
  obtain ⟨W0, eW0⟩ : ∃ W0, W0 = w.alloc (.cells #[.int .i64 0, .int .i64 0, .slice none 0 0] 59) := ⟨_, rfl⟩
  have KR : Hid (W0.rowIs w.heap.size 59 3 (wv 0 0 (.slice none 0 0)) ∧ w.heap.size < W0.heap.size ∧ Below w.heap.size w W0) := by
    have b := box w 0 0 (.slice none 0 0)
    have b2 := (Below.refl w.heap.size w).alloc (Nat.le_refl _) (.cells #[.int .i64 0, .int .i64 0, .slice none 0 0] 59)
    rw [← eW0] at b b2
    exact ⟨b, World.rowIs.lt b, b2⟩
  obtain ⟨b0, e0⟩ : ∃ b, b = bt t 0 := ⟨_, rfl⟩
  obtain ⟨b1, e1⟩ : ∃ b, b = bt t 1 := ⟨_, rfl⟩
  have i0 := index_at (t := t) (i := 0) (a := 0) rfl (by omega)
  have i1 := index_at (t := t) (i := 1) (a := 1) rfl (by omega)
  obtain ⟨p0, p1⟩ := bt_range t 0
  obtain ⟨q0, q1⟩ := bt_range t 1
  rw [← e0] at i0 p0 p1
  rw [← e1] at i1 q0 q1
  have E : Hid (b0 = bt t 0 ∧ b1 = bt t 1) := ⟨e0, e1⟩
  have hw0 := wrap_id p0 (by omega)
  have hw1 := wrap_id q0 (by omega)
  have R0 : Hid (RB W0 (W0.alloc (.cells #[.int .i64 b0, .int .i64 b1, .slice none 0 0] 59)).drew t W0.heap.size 0) := (RB.made W0 t b0 b1 e0 e1).drew
  clear h e0 e1
  go_enter Tryd.func24, Tryd.ntmps24
  go_upto_region 1 with fail
  rw [← eW0]
  clear eW0
  go_upto_region 3 with fail
  go_cut [4] from 10 to 16 (fun x wx => ∃ L : Nat, x = .pointer (some ⟨L, 0, none⟩) ∧ Hid (RB W0 wx t L 0))
  case first =>
    refine wp_region_held_drew (S := fun X => True) (by kernel_rfl) True.intro ?_
    intro hS
    refine takeH (i := 0) 10 (v := .string t) rfl rfl (by kernel_rfl) (by kernel_rfl) (by kernel_rfl) (fun _ _ _ h => h) (Or.inl ⟨by kernel_rfl, fun _ hS => by first | rfl | (go_simp)⟩) hS ?_
    try simp only [Act.put, List.setIfInBounds_toArray, List.set_cons_zero, List.set_cons_succ]
    refine takeH (i := 1) 11 (v := .int .u8 b0) rfl rfl (by kernel_rfl) (by kernel_rfl) (by kernel_rfl) (fun _ _ _ h => h) (Or.inl ⟨by kernel_rfl, fun _ hS => by first | rfl | (go_simp)⟩) hS ?_
    try simp only [Act.put, List.setIfInBounds_toArray, List.set_cons_zero, List.set_cons_succ]
    refine takeH (i := 2) 12 (v := .int .i64 b0) rfl rfl (by kernel_rfl) (by kernel_rfl) (by kernel_rfl) (fun _ _ _ h => h) (Or.inl ⟨by kernel_rfl, fun _ hS => by first | rfl | (go_simp)⟩) hS ?_
    try simp only [Act.put, List.setIfInBounds_toArray, List.set_cons_zero, List.set_cons_succ]
    refine takeH (i := 3) 13 (v := .string t) rfl rfl (by kernel_rfl) (by kernel_rfl) (by kernel_rfl) (fun _ _ _ h => h) (Or.inl ⟨by kernel_rfl, fun _ hS => by first | rfl | (go_simp)⟩) hS ?_
    try simp only [Act.put, List.setIfInBounds_toArray, List.set_cons_zero, List.set_cons_succ]
    refine takeH (i := 4) 14 (v := .int .u8 b1) rfl rfl (by kernel_rfl) (by kernel_rfl) (by kernel_rfl) (fun _ _ _ h => h) (Or.inl ⟨by kernel_rfl, fun _ hS => by first | rfl | (go_simp)⟩) hS ?_
    try simp only [Act.put, List.setIfInBounds_toArray, List.set_cons_zero, List.set_cons_succ]
    refine takeH (i := 5) 15 (v := .int .i64 b1) rfl rfl (by kernel_rfl) (by kernel_rfl) (by kernel_rfl) (fun _ _ _ h => h) (Or.inl ⟨by kernel_rfl, fun _ hS => by first | rfl | (go_simp)⟩) hS ?_
    try simp only [Act.put, List.setIfInBounds_toArray, List.set_cons_zero, List.set_cons_succ]
    refine takeH (i := 6) 16 (v := .agg #[.int .i64 b0, .int .i64 b1, .slice none 0 0]) rfl rfl (by kernel_rfl) (by kernel_rfl) (by kernel_rfl) (fun _ _ _ h => h) (Or.inl ⟨by kernel_rfl, fun _ hS => by first | rfl | (go_simp)⟩) hS ?_
    try simp only [Act.put, List.setIfInBounds_toArray, List.set_cons_zero, List.set_cons_succ]
    refine wpAnyH_ready (rs := [7]) (by kernel_rfl) (by simp) ?_
    refine (AllReadyH.cons rfl (fun K9 hK9 => ?_) AllReadyH.nil)
    go_simp
    refine hK9.out _ _ True.intro (fun hS => ?_)
    clear hK9 K9
    refine wpAnyH_ready (rs := [8]) (by kernel_rfl) (by simp) ?_
    refine (AllReadyH.cons rfl (fun K9 hK9 => ?_) AllReadyH.nil)
    go_simp
    refine hK9.out _ _ True.intro (fun hS => ?_)
    clear hK9 K9
    refine wpAnyH_done (by kernel_rfl) ?_ _
    go_wp2_with fail
    go_meet
    exact ⟨_, rfl, R0.out⟩
  case rest =>
    obtain ⟨L, rfl, hR0⟩ := hcut
    clear R0 i0 i1 hw0 hw1
    go_wp2_with fail
    go_loopw [5] (fun x wr => ∃ k : Nat, k ≤ 5 ∧ x = .int .i64 (2 + 3 * (k : Int)) ∧ Hid (RB W0 wr t L k)) (fun x _ => 17 - (intOf x).toNat)
    case atStart => exact ⟨0, by omega, rfl, hR0⟩
    case round =>
      clear hR0
      obtain ⟨k, hk5, rfl, hR⟩ := hrel
      by_cases hlt : k < 5
      · have hk0 : (0 : Int) ≤ (k : Int) := by omega
        have hkn : (k : Int) < 5 := by omega
        obtain ⟨v, hs, ho, hvL⟩ := hR.out.row
        obtain ⟨qv, cv, rfl⟩ := own_form ho
        rw [nums_len] at hs ho hvL
        have k2 : wr.cell? ⟨L, 2, none⟩ = some (.slice qv k cv) := World.rowIs.cell hs (i := 2) (by omega)
        have kf := World.rowIs.frozen hs 2
        obtain ⟨c0, ec0⟩ : ∃ b, b = bt t (2 + 3 * k) := ⟨_, rfl⟩
        obtain ⟨c1, ec1⟩ : ∃ b, b = bt t (2 + 3 * k + 1) := ⟨_, rfl⟩
        obtain ⟨c2, ec2⟩ : ∃ b, b = bt t (2 + 3 * k + 2) := ⟨_, rfl⟩
        have i0 := index_at (t := t) (i := 2 + 3 * k) (a := 2 + 3 * (k : Int)) (by omega) (by rw [H.out]; omega)
        have i1 := index_at (t := t) (i := 2 + 3 * k + 1) (a := 2 + 3 * (k : Int) + 1) (by omega) (by rw [H.out]; omega)
        have i2 := index_at (t := t) (i := 2 + 3 * k + 2) (a := 2 + 3 * (k : Int) + 2) (by omega) (by rw [H.out]; omega)
        have p0 := bt_range t (2 + 3 * k)
        have p1 := bt_range t (2 + 3 * k + 1)
        have p2 := bt_range t (2 + 3 * k + 2)
        rw [← ec0] at i0 p0
        rw [← ec1] at i1 p1
        rw [← ec2] at i2 p2
        have EC : n3at t k = c0 * 65536 + c1 * 256 + c2 := by
          unfold n3at
          rw [← ec0, ← ec1, ← ec2]
        have hw0 := wrap_id p0.1 (by omega)
        have hw1 := wrap_id p1.1 (by omega)
        have hw2 := wrap_id p2.1 (by omega)
        have hs0 := wrap_id (b := c0 * 65536) (by omega) (by omega)
        have hs1 := wrap_id (b := c1 * 256) (by omega) (by omega)
        have ht1 := wrap_id (b := c0 * 65536 + c1 * 256) (by omega) (by omega)
        have ht2 := wrap_id (b := c0 * 65536 + c1 * 256 + c2) (by omega) (by omega)
        have ha1 := wrap_id (b := 2 + 3 * (k : Int) + 1) (by omega) (by omega)
        have ha2 := wrap_id (b := 2 + 3 * (k : Int) + 2) (by omega) (by omega)
        have OW : Hid (Io (wr.alloc (.cells #[.int .i64 (c0 * 65536 + c1 * 256 + c2)] 3)) W0.heap.size (.slice qv k cv) (nums t k)) := own_block ho fun b hb => Below.heap_alloc _ _ _ (own_lt ho b hb).2
        have LT : Hid (L < wr.heap.size + 1 ∧ (Value.slice qv k cv).ownBlock ≠ some L) := ⟨by have := World.rowIs.lt hs; omega, hvL⟩
        have HK : Hid ((wr.alloc (.cells #[.int .i64 (c0 * 65536 + c1 * 256 + c2)] 3)).cell? ⟨L, 2, none⟩ = some (.slice qv k cv) ∧ (wr.alloc (.cells #[.int .i64 (c0 * 65536 + c1 * 256 + c2)] 3)).frozen? ⟨L, 2, none⟩ = false) := ⟨(World.cell?_of_block (a := ⟨L, 2, none⟩) (Below.heap_alloc _ _ _ (World.rowIs.lt hs))).trans k2, (World.frozen?_of_block (a := ⟨L, 2, none⟩) (Below.heap_alloc _ _ _ (World.rowIs.lt hs))).trans kf⟩
        have FIN : Hid (∀ g cap w5, Io w5 W0.heap.size (.slice (some ⟨g, 0, none⟩) (k + 1) cap) (nums t k ++ [c0 * 65536 + c1 * 256 + c2]) → (wr.alloc (.cells #[.int .i64 (c0 * 65536 + c1 * 256 + c2)] 3)).grownBy w5 (Value.slice qv k cv).ownBlock → ((Value.slice qv k cv).ownBlock = some g ∨ g = (wr.alloc (.cells #[.int .i64 (c0 * 65536 + c1 * 256 + c2)] 3)).heap.size) → RB W0 (w5.setCell ⟨L, 2, none⟩ (.slice (some ⟨g, 0, none⟩) (k + 1) cap)) t L (k + 1)) := by
          intro g cap w5 h5 hg hat
          rw [← EC, ← nums_succ] at h5
          exact RB.next hs ho hvL hR.out.low hR.out.bel h5 hg hat
        have ho1 := or_one p0 p1
        have ho2 := or_two p0 p1 p2
        clear ec0 ec1 ec2 EC hs ho hvL
        go_upto_region 7 with fail
        refine wp_region_held_drew (S := fun X => True) (by kernel_rfl) True.intro ?_
        intro hS
        refine takeH (i := 0) 21 (v := .pointer (some ⟨L, 2, none⟩)) rfl rfl (by kernel_rfl) (by kernel_rfl) (by kernel_rfl) (fun _ _ _ h => h) (Or.inl ⟨by kernel_rfl, fun _ hS => by first | rfl | (go_simp)⟩) hS ?_
        try simp only [Act.put, List.setIfInBounds_toArray, List.set_cons_zero, List.set_cons_succ]
        refine takeH (i := 2) 23 (v := .string t) rfl rfl (by kernel_rfl) (by kernel_rfl) (by kernel_rfl) (fun _ _ _ h => h) (Or.inl ⟨by kernel_rfl, fun _ hS => by first | rfl | (go_simp)⟩) hS ?_
        try simp only [Act.put, List.setIfInBounds_toArray, List.set_cons_zero, List.set_cons_succ]
        refine takeH (i := 3) 24 (v := .int .i64 (2 + 3 * (k : Int))) rfl rfl (by kernel_rfl) (by kernel_rfl) (by kernel_rfl) (fun _ _ _ h => h) (Or.inl ⟨by kernel_rfl, fun _ hS => by first | rfl | (go_simp)⟩) hS ?_
        try simp only [Act.put, List.setIfInBounds_toArray, List.set_cons_zero, List.set_cons_succ]
        refine takeH (i := 4) 25 (v := .int .u8 c0) rfl rfl (by kernel_rfl) (by kernel_rfl) (by kernel_rfl) (fun _ _ _ h => h) (Or.inl ⟨by kernel_rfl, fun _ hS => by first | rfl | (go_simp)⟩) hS ?_
        try simp only [Act.put, List.setIfInBounds_toArray, List.set_cons_zero, List.set_cons_succ]
        refine takeH (i := 5) 26 (v := .int .i64 c0) rfl rfl (by kernel_rfl) (by kernel_rfl) (by kernel_rfl) (fun _ _ _ h => h) (Or.inl ⟨by kernel_rfl, fun _ hS => by first | rfl | (go_simp)⟩) hS ?_
        try simp only [Act.put, List.setIfInBounds_toArray, List.set_cons_zero, List.set_cons_succ]
        refine takeH (i := 6) 27 (v := .int .i64 (c0 * 65536)) rfl rfl (by kernel_rfl) (by kernel_rfl) (by kernel_rfl) (fun _ _ _ h => h) (Or.inl ⟨by kernel_rfl, fun _ hS => by first | rfl | (go_simp)⟩) hS ?_
        try simp only [Act.put, List.setIfInBounds_toArray, List.set_cons_zero, List.set_cons_succ]
        refine takeH (i := 7) 28 (v := .string t) rfl rfl (by kernel_rfl) (by kernel_rfl) (by kernel_rfl) (fun _ _ _ h => h) (Or.inl ⟨by kernel_rfl, fun _ hS => by first | rfl | (go_simp)⟩) hS ?_
        try simp only [Act.put, List.setIfInBounds_toArray, List.set_cons_zero, List.set_cons_succ]
        refine takeH (i := 8) 29 (v := .int .i64 (2 + 3 * (k : Int))) rfl rfl (by kernel_rfl) (by kernel_rfl) (by kernel_rfl) (fun _ _ _ h => h) (Or.inl ⟨by kernel_rfl, fun _ hS => by first | rfl | (go_simp)⟩) hS ?_
        try simp only [Act.put, List.setIfInBounds_toArray, List.set_cons_zero, List.set_cons_succ]
        refine takeH (i := 9) 30 (v := .int .i64 (2 + 3 * (k : Int) + 1)) rfl rfl (by kernel_rfl) (by kernel_rfl) (by kernel_rfl) (fun _ _ _ h => h) (Or.inl ⟨by kernel_rfl, fun _ hS => by first | rfl | (go_simp)⟩) hS ?_
        try simp only [Act.put, List.setIfInBounds_toArray, List.set_cons_zero, List.set_cons_succ]
        refine takeH (i := 10) 31 (v := .int .u8 c1) rfl rfl (by kernel_rfl) (by kernel_rfl) (by kernel_rfl) (fun _ _ _ h => h) (Or.inl ⟨by kernel_rfl, fun _ hS => by first | rfl | (go_simp)⟩) hS ?_
        try simp only [Act.put, List.setIfInBounds_toArray, List.set_cons_zero, List.set_cons_succ]
        refine takeH (i := 11) 32 (v := .int .i64 c1) rfl rfl (by kernel_rfl) (by kernel_rfl) (by kernel_rfl) (fun _ _ _ h => h) (Or.inl ⟨by kernel_rfl, fun _ hS => by first | rfl | (go_simp)⟩) hS ?_
        try simp only [Act.put, List.setIfInBounds_toArray, List.set_cons_zero, List.set_cons_succ]
        refine takeH (i := 12) 33 (v := .int .i64 (c1 * 256)) rfl rfl (by kernel_rfl) (by kernel_rfl) (by kernel_rfl) (fun _ _ _ h => h) (Or.inl ⟨by kernel_rfl, fun _ hS => by first | rfl | (go_simp)⟩) hS ?_
        try simp only [Act.put, List.setIfInBounds_toArray, List.set_cons_zero, List.set_cons_succ]
        refine takeH (i := 13) 34 (v := .int .i64 (c0 * 65536 + c1 * 256)) rfl rfl (by kernel_rfl) (by kernel_rfl) (by kernel_rfl) (fun _ _ _ h => h) (Or.inl ⟨by kernel_rfl, fun _ hS => by first | rfl | (go_simp)⟩) hS ?_
        try simp only [Act.put, List.setIfInBounds_toArray, List.set_cons_zero, List.set_cons_succ]
        refine takeH (i := 14) 35 (v := .string t) rfl rfl (by kernel_rfl) (by kernel_rfl) (by kernel_rfl) (fun _ _ _ h => h) (Or.inl ⟨by kernel_rfl, fun _ hS => by first | rfl | (go_simp)⟩) hS ?_
        try simp only [Act.put, List.setIfInBounds_toArray, List.set_cons_zero, List.set_cons_succ]
        refine takeH (i := 15) 36 (v := .int .i64 (2 + 3 * (k : Int))) rfl rfl (by kernel_rfl) (by kernel_rfl) (by kernel_rfl) (fun _ _ _ h => h) (Or.inl ⟨by kernel_rfl, fun _ hS => by first | rfl | (go_simp)⟩) hS ?_
        try simp only [Act.put, List.setIfInBounds_toArray, List.set_cons_zero, List.set_cons_succ]
        refine takeH (i := 16) 37 (v := .int .i64 (2 + 3 * (k : Int) + 2)) rfl rfl (by kernel_rfl) (by kernel_rfl) (by kernel_rfl) (fun _ _ _ h => h) (Or.inl ⟨by kernel_rfl, fun _ hS => by first | rfl | (go_simp)⟩) hS ?_
        try simp only [Act.put, List.setIfInBounds_toArray, List.set_cons_zero, List.set_cons_succ]
        refine takeH (i := 17) 38 (v := .int .u8 c2) rfl rfl (by kernel_rfl) (by kernel_rfl) (by kernel_rfl) (fun _ _ _ h => h) (Or.inl ⟨by kernel_rfl, fun _ hS => by first | rfl | (go_simp)⟩) hS ?_
        try simp only [Act.put, List.setIfInBounds_toArray, List.set_cons_zero, List.set_cons_succ]
        refine takeH (i := 18) 39 (v := .int .i64 c2) rfl rfl (by kernel_rfl) (by kernel_rfl) (by kernel_rfl) (fun _ _ _ h => h) (Or.inl ⟨by kernel_rfl, fun _ hS => by first | rfl | (go_simp)⟩) hS ?_
        try simp only [Act.put, List.setIfInBounds_toArray, List.set_cons_zero, List.set_cons_succ]
        refine takeH (i := 19) 40 (v := .int .i64 (c0 * 65536 + c1 * 256 + c2)) rfl rfl (by kernel_rfl) (by kernel_rfl) (by kernel_rfl) (fun _ _ _ h => h) (Or.inl ⟨by kernel_rfl, fun _ hS => by first | rfl | (go_simp)⟩) hS ?_
        try simp only [Act.put, List.setIfInBounds_toArray, List.set_cons_zero, List.set_cons_succ]
        refine wpAnyH_ready (rs := [1, 20]) (by kernel_rfl) (by simp) ?_
        refine (AllReadyH.cons rfl (fun K9 hK9 => ?_) (AllReadyH.cons rfl (fun K9 hK9 => ?_) AllReadyH.nil))
        · go_simp
          refine hK9.out _ _ True.intro (fun hS => ?_)
          clear hK9 K9
          refine wpAnyH_ready (rs := [20]) (by kernel_rfl) (by simp) ?_
          refine (AllReadyH.cons rfl (fun K9 hK9 => ?_) AllReadyH.nil)
          go_simp
          refine hK9.out _ _ True.intro (fun hS => ?_)
          clear hK9 K9
          refine wpAnyH_ready (rs := [21]) (by kernel_rfl) (by simp) ?_
          refine (AllReadyH.cons rfl (fun K9 hK9 => ?_) AllReadyH.nil)
          refine step_app _ (by rfl) _ _ (by rfl) W0.heap.size (.slice qv k cv) (nums t k) (by rfl) (by exact OW.out) wr.heap.size (c0 * 65536 + c1 * 256 + c2) (by rfl) (by go_simp) (by rw [nums_len]; omega) (by have := hR.out.bel.size; simp; omega) ?_
          intro g cap w5 hown hgrow hat
          have RN : Hid (RB W0 (w5.setCell ⟨L, 2, none⟩ (.slice (some ⟨g, 0, none⟩) (k + 1) cap)) t L (k + 1)) := FIN.out g cap w5 (by rw [nums_len] at hown; exact hown) (grown_drew hgrow) hat
          have l5 : w5.cell? ⟨L, 2, none⟩ = some (.slice qv k cv) := (hgrow.cell_far ⟨L, 2, none⟩ (by simp; exact LT.out.1) LT.out.2.symm).trans HK.out.1
          have f5 : w5.frozen? ⟨L, 2, none⟩ = false := (hgrow.frozen_far ⟨L, 2, none⟩ (by simp; exact LT.out.1) LT.out.2.symm).trans HK.out.2
          rw [nums_len]
          refine hK9.out _ _ True.intro (fun hS => ?_)
          clear hK9 K9 hown hgrow hat
          refine takeH (i := 22) 43 (v := .pointer (some ⟨L, 2, none⟩)) rfl rfl (by kernel_rfl) (by kernel_rfl) (by kernel_rfl) (fun _ _ _ h => h) (Or.inl ⟨by kernel_rfl, fun _ hS => by first | rfl | (go_simp)⟩) hS ?_
          refine wpAnyH_ready (rs := [23]) (by kernel_rfl) (by simp) ?_
          refine (AllReadyH.cons rfl (fun K9 hK9 => ?_) AllReadyH.nil)
          go_simp
          refine hK9.out _ _ True.intro (fun hS => ?_)
          clear hK9 K9
          refine wpAnyH_done (by kernel_rfl) ?_ _
          go_wp2_with fail
          go_roundw
          case rel => exact ⟨k + 1, by omega, by go_num, RN.out⟩
          case measure => simp [intOf]; omega
        · go_simp
          refine hK9.out _ _ True.intro (fun hS => ?_)
          clear hK9 K9
          refine wpAnyH_ready (rs := [1]) (by kernel_rfl) (by simp) ?_
          refine (AllReadyH.cons rfl (fun K9 hK9 => ?_) AllReadyH.nil)
          have kb := HK.out.1
          go_simp
          refine hK9.out _ _ True.intro (fun hS => ?_)
          clear hK9 K9
          refine wpAnyH_ready (rs := [21]) (by kernel_rfl) (by simp) ?_
          refine (AllReadyH.cons rfl (fun K9 hK9 => ?_) AllReadyH.nil)
          refine step_app _ (by rfl) _ _ (by rfl) W0.heap.size (.slice qv k cv) (nums t k) (by rfl) (by exact OW.out) wr.heap.size (c0 * 65536 + c1 * 256 + c2) (by rfl) (by go_simp) (by rw [nums_len]; omega) (by have := hR.out.bel.size; simp; omega) ?_
          intro g cap w5 hown hgrow hat
          have RN : Hid (RB W0 (w5.setCell ⟨L, 2, none⟩ (.slice (some ⟨g, 0, none⟩) (k + 1) cap)) t L (k + 1)) := FIN.out g cap w5 (by rw [nums_len] at hown; exact hown) (grown_drew hgrow) hat
          have l5 : w5.cell? ⟨L, 2, none⟩ = some (.slice qv k cv) := (hgrow.cell_far ⟨L, 2, none⟩ (by simp; exact LT.out.1) LT.out.2.symm).trans HK.out.1
          have f5 : w5.frozen? ⟨L, 2, none⟩ = false := (hgrow.frozen_far ⟨L, 2, none⟩ (by simp; exact LT.out.1) LT.out.2.symm).trans HK.out.2
          rw [nums_len]
          refine hK9.out _ _ True.intro (fun hS => ?_)
          clear hK9 K9 hown hgrow hat
          refine takeH (i := 22) 43 (v := .pointer (some ⟨L, 2, none⟩)) rfl rfl (by kernel_rfl) (by kernel_rfl) (by kernel_rfl) (fun _ _ _ h => h) (Or.inl ⟨by kernel_rfl, fun _ hS => by first | rfl | (go_simp)⟩) hS ?_
          refine wpAnyH_ready (rs := [23]) (by kernel_rfl) (by simp) ?_
          refine (AllReadyH.cons rfl (fun K9 hK9 => ?_) AllReadyH.nil)
          go_simp
          refine hK9.out _ _ True.intro (fun hS => ?_)
          clear hK9 K9
          refine wpAnyH_done (by kernel_rfl) ?_ _
          go_wp2_with fail
          go_roundw
          case rel => exact ⟨k + 1, by omega, by go_num, RN.out⟩
          case measure => simp [intOf]; omega
      · have hk : k = 5 := by omega
        subst hk
        obtain ⟨v, hs, ho, hvL⟩ := hR.out.row
        have U : Hid (US w wr b0 b1 v L (rd t).2.2) := by
          rw [E.out.1, E.out.2]
          exact ⟨World.rowIs.of_block KR.out.1 (hR.out.bel.block _ KR.out.2.1), hs, ho.sl, KR.out.2.2.trans (hR.out.bel.mono KR.out.2.2.size), by have := hR.out.low; have := KR.out.2.1; omega⟩
        obtain ⟨qv, cv, rfl⟩ := own_form ho
        rw [nums_len] at U
        have OB : Hid (∀ b off, qv = some ⟨b, off, none⟩ → 0 < 5 → b ≠ w.heap.size) := fun b off e _ => by
          have := (own_lt ho b (by rw [e]; rfl)).1
          have := KR.out.2.1
          omega
        rw [nums_len] at hs
        clear hs ho hvL hR
        have k0 : wr.cell? ⟨L, 0, none⟩ = some (.int .i64 b0) := World.rowIs.cell U.out.s (i := 0) (by omega)
        have k1 : wr.cell? ⟨L, 1, none⟩ = some (.int .i64 b1) := World.rowIs.cell U.out.s (i := 1) (by omega)
        have k2 : wr.cell? ⟨L, 2, none⟩ = some (.slice qv 5 cv) := World.rowIs.cell U.out.s (i := 2) (by omega)
        have NO : Hid (packC (rd t) ≠ 0 → okU t = false) := fun h => by simp [okU, h]
        have PB : Hid (sdBad (b0, b1, (rd t).2.2) = true → packC (rd t) ≠ 0) := fun h => by
          have e : packC (rd t) = 1 := by
            unfold packC
            rw [if_pos]
            rw [E.out.1, E.out.2] at h
            exact h
          omega
        have PC : Hid (sdBad (b0, b1, (rd t).2.2) = false → packC (rd t) = code (rd t).2.2) := fun h => by
          unfold packC
          rw [if_neg]
          rw [E.out.1, E.out.2] at h
          rw [Bool.not_eq_true]
          exact h
        go_upto_region 8 with fail
        go_cut [68] from 44 to 67 (fun x wx => x = .bool (!okU t) ∧ Hid (US w wx b0 b1 (.slice qv 5 cv) L (rd t).2.2))
        case first =>
          cases d1 : decide (b0 > 4)
          · cases d2 : decide (b1 < 1)
            · cases d3 : decide (b1 > 30)
              · have hpc := PC.out (by simp at d1 d2 d3; simp [sdBad]; omega)
                go_wp2_with fail
                have V : Hid (Vw wr qv 5 (rd t).2.2) := by
                  obtain ⟨a, c, e, _, _, hv⟩ := U.out.sl
                  simp only [Value.slice.injEq] at e
                  rw [e.1]
                  exact hv
                refine (Vec.refVector qv 5 cv (rd t).2.2 wr V.out).mono ?_
                rintro e w4 ⟨rfl, rfl⟩
                by_cases hz : code (rd t).2.2 = 0
                · rw [hz]
                  have hp0 : packC (rd t) = 0 := hpc.trans hz
                  have hbb : (b0, b1, (rd t).2.2) = rd t := by rw [E.out.1, E.out.2]; rfl
                  go_wp2_with fail
                  refine (refBytes b0 b1 (rd t).2.2 (.slice qv 5 cv) w4 U.out.sl (by rw [hbb]; exact hp0)).mono ?_
                  rw [hbb]
                  rintro e w5 ⟨rfl, hb5⟩
                  obtain ⟨again, ea⟩ : ∃ a, a = txt (pk (rd t)) := ⟨_, rfl⟩
                  rw [← ea]
                  have U5 : Hid (US w w5 b0 b1 (.slice qv 5 cv) L (rd t).2.2) := U.out.later hb5
                  have FI : Hid ((again.toList != t.toList) = !okU t) := by
                    show (again.toList != t.toList) = !okU t
                    unfold bne
                    rw [str_eq]
                    unfold okU
                    rw [hp0, ← ea]
                    simp [H.out]
                  clear hb5 hp0 hbb ea hz hpc
                  go_wp2_with fail
                  go_meet
                  exact ⟨by rw [← FI.out]; rfl, U5.out⟩
                · have hzb : (code (rd t).2.2 != 0) = true := by simp [hz]
                  have hno := NO.out (by rw [hpc]; exact hz)
                  go_wp2_with fail
                  go_meet
                  exact ⟨by rw [hno]; rfl, U.out⟩
              · have hno := NO.out (PB.out (by simp at d3; simp [sdBad]; omega))
                go_wp2_with fail
                go_meet
                exact ⟨by rw [hno]; rfl, U.out⟩
            · have hno := NO.out (PB.out (by simp at d2; simp [sdBad]; omega))
              go_wp2_with fail
              go_meet
              exact ⟨by rw [hno]; rfl, U.out⟩
          · have hno := NO.out (PB.out (by simp at d1; simp [sdBad]; omega))
            go_wp2_with fail
            go_meet
            exact ⟨by rw [hno]; rfl, U.out⟩
        case rest =>
          obtain ⟨rfl, hU⟩ := hcut
          clear U k0 k1 k2
          have k0 : wc.cell? ⟨L, 0, none⟩ = some (.int .i64 b0) := World.rowIs.cell hU.out.s (i := 0) (by omega)
          have k1 : wc.cell? ⟨L, 1, none⟩ = some (.int .i64 b1) := World.rowIs.cell hU.out.s (i := 1) (by omega)
          have k2 : wc.cell? ⟨L, 2, none⟩ = some (.slice qv 5 cv) := World.rowIs.cell hU.out.s (i := 2) (by omega)
          have c0 : wc.cell? ⟨w.heap.size, 0, none⟩ = some (.int .i64 0) := World.rowIs.cell hU.out.r (i := 0) (by omega)
          have c1 : wc.cell? ⟨w.heap.size, 1, none⟩ = some (.int .i64 0) := World.rowIs.cell hU.out.r (i := 1) (by omega)
          have c2 : wc.cell? ⟨w.heap.size, 2, none⟩ = some (.slice none 0 0) := World.rowIs.cell hU.out.r (i := 2) (by omega)
          have f0 := World.rowIs.frozen hU.out.r 0
          have f1 := World.rowIs.frozen hU.out.r 1
          have f2 := World.rowIs.frozen hU.out.r 2
          cases hok : okU t
          · have EN : Hid (unS t = (0, 0, [])) := by unfold unS; rw [hok]; rfl
            simp only [Bool.not_false]
            go_wp2
            have r5 := ((World.rowIs.set hU.out.r 0 (.int .i64 0)).set 1 (.int .i64 0)).set 2 (.slice none 0 0)
            have y0 := World.rowIs.cell r5 (i := 0) (by omega)
            have y1 := World.rowIs.cell r5 (i := 1) (by omega)
            have y2 := World.rowIs.cell r5 (i := 2) (by omega)
            simp at y0 y1 y2
            exact bodyPost_ret (v := .tuple #[.agg #[.int .i64 0, .int .i64 0, .slice none 0 0], .bool false]) (retS rfl rfl rfl y0 y1 y2) rfl ⟨.slice none 0 0, by rw [EN.out, hok], by rw [EN.out]; exact Sl.nil _, hU.out.bel.trans (three_b (Nat.le_refl _))⟩
          · have EN : Hid (unS t = rd t) := by unfold unS; rw [hok]; rfl
            simp only [Bool.not_true]
            go_wp2
            have r5 := ((World.rowIs.set hU.out.r 0 (.int .i64 b0)).set 1 (.int .i64 b1)).set 2 (.slice qv 5 cv)
            have y0 := World.rowIs.cell r5 (i := 0) (by omega)
            have y1 := World.rowIs.cell r5 (i := 1) (by omega)
            have y2 := World.rowIs.cell r5 (i := 2) (by omega)
            simp at y0 y1 y2
            exact bodyPost_ret (v := .tuple #[.agg #[.int .i64 b0, .int .i64 b1, .slice qv 5 cv], .bool true]) (retS rfl rfl rfl y0 y1 y2) rfl ⟨.slice qv 5 cv, by rw [EN.out, hok, E.out.1, E.out.2]; rfl, by rw [EN.out]; exact three_sl hU.out.sl (fun b off e => OB.out b off e (by omega)), hU.out.bel.trans (three_b (Nat.le_refl _))⟩
theorem refRead_len (t : ByteArray) (w : World) (h : t.size ≠ 18) : Calls Tryd.prog 24 #[.string t] w fun e w' => e = .returned (.tuple #[.agg #[.int .i64 0, .int .i64 0, .slice none 0 0], .bool false]) ∧ Below w.heap.size w w' := by
  have d0 : ((t.size : Int) != 18) = true := by rw [bne_iff_ne]; omega
  have b := box w 0 0 (.slice none 0 0)
  have c0 := World.rowIs.cell b (i := 0) (by omega)
  have c1 := World.rowIs.cell b (i := 1) (by omega)
  have c2 := World.rowIs.cell b (i := 2) (by omega)
  have f0 := World.rowIs.frozen b 0
  have f1 := World.rowIs.frozen b 1
  have f2 := World.rowIs.frozen b 2
  have R : Hid _ := b
  clear b h
  go_enter Tryd.func24, Tryd.ntmps24
  go_wp2
  exact bodyPost_ret (v := .tuple #[.agg #[.int .i64 0, .int .i64 0, .slice none 0 0], .bool false]) (retS rfl rfl rfl (World.rowIs.cell R.out (i := 0) (by omega)) (World.rowIs.cell R.out (i := 1) (by omega)) (World.rowIs.cell R.out (i := 2) (by omega))) rfl ⟨rfl, (Below.refl _ _).alloc (Nat.le_refl _) _⟩
theorem refRead (t : ByteArray) (w : World) : Calls Tryd.prog 24 #[.string t] w fun e w' => ∃ u, e = .returned (.tuple #[.agg #[.int .i64 (unS t).1, .int .i64 (unS t).2.1, u], .bool (okU t)]) ∧ Sl w' u (unS t).2.2 ∧ Below w.heap.size w w' := by
  by_cases h : t.size = 18
  · exact refRead_right t w h
  · have e2 := (unC_no h).2
    have e1 : okU t = false := by simp [okU, h]
    rw [e1, e2]
    refine (refRead_len t w h).mono ?_
    rintro e w' ⟨rfl, hb⟩
    exact ⟨_, rfl, Sl.nil _, hb⟩
/-- the same, the word's parts under names of their own -/
theorem refReadX (t : ByteArray) (w : World) : Calls Tryd.prog 24 #[.string t] w fun e w' => ∃ x y q n c, e = .returned (.tuple #[.agg #[.int .i64 x, .int .i64 y, .slice q n c], .bool (okU t)]) ∧ Hid ((x = (unS t).1 ∧ y = (unS t).2.1) ∧ Sl w' (.slice q n c) (unS t).2.2) ∧ Below w.heap.size w w' := by
  refine (refRead t w).mono ?_
  rintro e w' ⟨u, rfl, hs, hb⟩
  have hs' := hs
  obtain ⟨q, c, rfl, _⟩ := hs'
  exact ⟨_, _, _, _, _, rfl, ⟨⟨rfl, rfl⟩, hs⟩, hb⟩
end Go.Proofs.YtolnfipdhkbkjajDoor.Wir
