/-
  Contracts of package log: New, Bytes, Safe, All.
-/
import Derived.Test.YtpjoaogiaacikakDoorLgsB
namespace Go.Proofs.YtpjoaogiaacikakDoor.Lgs
open Go.RowKit
open Go.Proofs.YtpjoaogiaacikakDoor.His (Ev Ew ev errV errV_ok errV_no Eo flat flat_len flat_append flat_get flat_one news1 info_ev chkC chk_zero)
open Go.Proofs.YtpjoaogiaacikakDoor.Sep (KpL NewL)
open Go.Proofs.YtpjoaogiaacikakDoor.Fif (own_lt own_block own_mono own_form)
set_option linter.unusedVariables false
variable {w w' : World} {base P : Nat} {v : Value} {lf : Int} {hb : List Int} {l : L}

theorem new_any (w : World) : Calls Tryd.prog 5 #[] w fun x w' => ∃ P fp, x = .returned (.pointer (some ⟨P, 0, none⟩)) ∧ LG w' w.heap.size P new fp ∧ Below w.heap.size w w' := by
  have R : Hid _ := World.rowIs_alloc w #[.slice none 0 0, .int .i64 0, .int .i64 (-1), .bool false] 48 (cv (.slice none 0 0) 0 (-1) false) (fun t ht => by rcases t with _ | _ | _ | _ | t <;> first | rfl | (exfalso; have : _ < 4 := ht; omega))
  go_enter Tryd.func5, Tryd.ntmps5
  go_wp2
  go_ret
  refine ⟨w.heap.size, _, rfl, ⟨.slice none 0 0, -1, [], rfl, R.out, Nat.le_refl _, World.ownsRow_nil _ _ _ _, rfl, by decide, rfl, rfl, .inl rfl, by decide⟩, (Below.refl _ _).alloc (Nat.le_refl _) _⟩
theorem bytes_any (h : LF w base P v lf hb l) : Calls Tryd.prog 8 #[.pointer (some ⟨P, 0, none⟩)] w fun x w' => x = .returned (.int .i64 (bytes l : Nat)) ∧ Below w.heap.size w w' := by
  obtain ⟨q, c, ev, -⟩ := h.ro.form
  subst ev
  obtain ⟨c0, f0⟩ := h.c0
  have e : (rcs l.es ++ hb).length = bytes l := by rw [h.lenN, h.bytes]
  rw [e] at c0
  clear h f0 e
  go_enter Tryd.func8, Tryd.ntmps8
  go_wp2
  go_ret
  exact ⟨rfl, Below.refl _ _⟩
theorem safe_any (h : LF w base P v lf hb l) : Calls Tryd.prog 13 #[.pointer (some ⟨P, 0, none⟩)] w fun x w' => x = .returned (.int .i64 (l.safe : Nat)) ∧ Below w.heap.size w w' := by
  obtain ⟨c1, f1⟩ := h.c1
  clear h f1
  go_enter Tryd.func13, Tryd.ntmps13
  go_wp2
  go_ret
  exact ⟨rfl, Below.refl _ _⟩
/-- events that the call owns, seen -/
theorem eo_view {w : World} {base : Nat} {v : Value} {H : List Ev} (o : Eo w base v H) : ∃ q c, v = .slice q H.length c ∧ H.length ≤ c ∧ c ≤ maxLen ∧ Ew w q H.length H := by
  rcases o.2 with ⟨h2, h3⟩ | ⟨g, cap, cur, hv, hb, hh, hc, hm, hsz, ht⟩
  · exact ⟨none, 0, by rw [h3]; exact h2, by omega, by unfold maxLen; omega, rfl, fun q => absurd q (by omega)⟩
  · refine ⟨_, cap, hv, hc, hm, rfl, fun _ => ⟨g, 0, rfl, ?_, fun k hk => ?_⟩⟩
    · rcases Nat.lt_or_ge g w.heap.size with q | q
      · exact q
      · rw [Array.getElem?_eq_none q] at hh; cases hh
    · have key : ∀ j u, j < H.length * 3 → (flat H)[j]? = some u → w.cell? ⟨g, j, none⟩ = some u := by
        intro j u hj hu
        rw [← ht, List.getElem?_take_of_lt hj] at hu
        simp only [World.cell?, hh]
        simpa using hu
      obtain ⟨a, b, c⟩ := flat_get H k hk
      rw [Nat.zero_add]
      exact ⟨key _ _ (by omega) a, key _ _ (by omega) b, key _ _ (by omega) c⟩
theorem takeL {P : Program} {ops : Array Oper} {Q : Exit → Act → World → Prop} {md : Region.Mode} {S : World → Prop} {i : Nat} (d : Nat) {oi : Oper} {v : Value} {fuel : Nat} {listed : Array Bool} {a : Act} {w : World} (hi : ops[i]? = some oi) (hd : oi.dst = some d)
    (hs : Region.noSelect ops = true) (hf : Region.free md ops listed i = true) (hr : (Region.ready md ops listed).contains i = true)
    (hQ : ∀ c a w, Q (.panic c) (a.put (some d) v) w → Q (.panic c) a w) (hy : YieldsIf P ops S oi v a) (hS : S w)
    (h : wpAnyH P md ops Q S fuel (listed.setIfInBounds i true) (a.put (some d) v) w) : wpAnyH P md ops Q S (fuel + 1) listed a w :=
  wpAnyH_take hi hs hf hr (by rw [hd]; exact hQ) hy hS (by rw [hd]; exact h)
theorem ev_push (h : List Ev) {k : Nat} (hk : k < h.length) : h.take k ++ [ev h k] = h.take (k + 1) := by
  rw [List.take_add_one, ev, List.getD, List.getElem?_eq_getElem hk]
  rfl
/-- what the row of bytes says of an event -/
theorem ev_bytes (h : List Ev) (hb : List Int) {k : Nat} (hk : k < h.length) : (rcs h ++ hb).getD (k * 3) 0 = (ev h k).1 ∧ (rcs h ++ hb).getD (k * 3 + 1) 0 = (ev h k).2.1 ∧ (rcs h ++ hb).getD (k * 3 + 2) 0 = (ev h k).2.2 := by
  have e : ∀ i, i < h.length * 3 → (rcs h ++ hb).getD i 0 = (rcs h).getD i 0 := fun i hi => by
    rw [List.getD, List.getD, List.getElem?_append_left (by rw [rcs_len]; exact hi)]
  obtain ⟨a, b, c⟩ := rcs_get h k hk
  exact ⟨(e _ (by omega)).trans a, (e _ (by omega)).trans b, (e _ (by omega)).trans c⟩
set_option maxRecDepth 100000 in
set_option maxHeartbeats 4000000 in
theorem all_any (h : LF w base P v lf hb l) (hi : Inv l) : Calls Tryd.prog 10 #[.pointer (some ⟨P, 0, none⟩)] w fun x w' => ∃ u, x = .returned u ∧ Eo w' w.heap.size u l.es ∧ Below w.heap.size w w' := by
  obtain ⟨q, c, ev0, hlc, hcm, hq⟩ := h.ro.form
  subst ev0
  have hNN := h.lenN
  have hone := h.one
  have h60 := hi.small.1
  obtain ⟨d0, -⟩ := h.c0
  have hP := h.lt
  obtain ⟨N, eN⟩ : ∃ N, N = (rcs l.es ++ hb).length := ⟨_, rfl⟩
  rw [← eN] at hNN d0 hlc hq
  have HN : Hid (N = l.es.length * 3 + l.half ∧ l.half ≤ 1 ∧ l.es.length ≤ 60) := ⟨hNN, hone, h60⟩
  have HQ : Hid (0 < N → ∃ g, q = some ⟨g, 0, none⟩ ∧ base ≤ g ∧ g < w.heap.size ∧ ∀ i, i < N → w.cell? ⟨g, i, none⟩ = some (.int .u8 ((rcs l.es ++ hb).getD i 0))) := hq
  have HC : Hid (w.cell? ⟨P, 0, none⟩ = some (.slice q N c) ∧ P < w.heap.size) := ⟨d0, hP⟩
  have HI : Hid (Inv l) := hi
  have hN9 : (N : Int) ≤ 181 := by omega
  clear hNN hone h60 d0 hlc hq h hi hP eN
  have E0 : Hid (Eo w w.heap.size (.slice none 0 0) (l.es.take 0) ∧ Below w.heap.size w w) := ⟨World.ownsRow_nil _ _ _ _, Below.refl _ _⟩
  go_enter Tryd.func10, Tryd.ntmps10
  go_wp2
  go_loopw [3, 4] (fun y z wr => ∃ k : Nat, k ≤ l.es.length ∧ z = .int .i64 ((k * 3 : Nat) : Int) ∧ Hid (Eo wr w.heap.size y (l.es.take k) ∧ Below w.heap.size w wr)) (fun _ z _ => 200 - (intOf z).toNat)
  case atStart => exact ⟨0, by omega, rfl, E0⟩
  case round =>
    obtain ⟨k, hk, rfl, hR⟩ := hrel
    obtain ⟨j, ej⟩ : ∃ j, j = k * 3 := ⟨_, rfl⟩
    rw [← ej]
    have x0 : wr.cell? ⟨P, 0, none⟩ = some (.slice q N c) := (hR.out.2.cell (p := ⟨P, 0, none⟩) HC.out.2).trans HC.out.1
    have hj9 : (j : Int) ≤ 180 := by have := HN.out; omega
    have EJ : Hid (j = k * 3 ∧ k ≤ l.es.length) := ⟨ej, hk⟩
    clear ej hk
    by_cases hgo : (j : Int) + 3 ≤ (N : Int)
    · have hkn : Hid (k < l.es.length) := by have := HN.out; have := EJ.out; show k < _; omega
      obtain ⟨g, rfl, hbg, hgl, hcell⟩ := HQ.out (by omega)
      have GL : Hid (g < w.heap.size) := hgl
      obtain ⟨r0, r1, r2⟩ := ev_bytes l.es hb hkn.out
      obtain ⟨s0, s1, s2⟩ := ev_small HI.out.good hkn.out
      rw [← EJ.out.1] at r0 r1 r2
      have m0 := (hR.out.2.cell (p := ⟨g, j, none⟩) hgl).trans (hcell j (by omega))
      have m1 := (hR.out.2.cell (p := ⟨g, j + 1, none⟩) hgl).trans (hcell (j + 1) (by omega))
      have m2 := (hR.out.2.cell (p := ⟨g, j + 2, none⟩) hgl).trans (hcell (j + 2) (by omega))
      rw [r0] at m0
      rw [r1] at m1
      rw [r2] at m2
      obtain ⟨b0, e0⟩ : ∃ b, b = (ev l.es k).1 := ⟨_, rfl⟩
      obtain ⟨b1, e1⟩ : ∃ b, b = (ev l.es k).2.1 := ⟨_, rfl⟩
      obtain ⟨b2, e2⟩ : ∃ b, b = (ev l.es k).2.2 := ⟨_, rfl⟩
      rw [← e0] at m0 s0
      rw [← e1] at m1 s1
      rw [← e2] at m2 s2
      have EB : Hid (ev l.es k = (b0, b1, b2)) := by
        show ev l.es k = _
        rw [e0, e1, e2]
      have hPl : P < wr.heap.size := Nat.lt_of_lt_of_le HC.out.2 hR.out.2.size
      have hgl2 : g < wr.heap.size := Nat.lt_of_lt_of_le hgl hR.out.2.size
      have hs0 : w.heap.size ≤ wr.heap.size := hR.out.2.size
      have hsP : P < w.heap.size := HC.out.2
      clear r0 r1 r2 e0 e1 e2 hcell hbg
      have hj0 : (0 : Int) ≤ (j : Int) := by omega
      have hj1 : (0 : Int) ≤ (j : Int) + 1 := by omega
      have hj2 : (0 : Int) ≤ (j : Int) + 2 := by omega
      have hj3 : (j : Int) < (N : Int) := by omega
      have hj4 : (j : Int) + 1 < (N : Int) := by omega
      have hj5 : (j : Int) + 2 < (N : Int) := by omega
      have hj6 : ((j : Int) + 1).toNat = j + 1 := by omega
      have hj7 : ((j : Int) + 2).toNat = j + 2 := by omega
      have hw0 := IntWalk.i64_in b0 (by omega)
      have hw1 := IntWalk.i64_in b1 (by omega)
      have hw2 := IntWalk.i64_in b2 (by omega)
      have hw3 := IntWalk.i64_in ((j : Int) + 1) (by omega)
      have hw4 := IntWalk.i64_in ((j : Int) + 2) (by omega)
      go_upto_region 5 with fail
      refine wp_region_held_drew (S := fun X => X.cell? ⟨P, 0, none⟩ = some (.slice (some ⟨g, 0, none⟩) N c) ∧ X.cell? ⟨g, j, none⟩ = some (.int .u8 b0) ∧ X.cell? ⟨g, j + 1, none⟩ = some (.int .u8 b1) ∧ X.cell? ⟨g, j + 2, none⟩ = some (.int .u8 b2)) (by kernel_rfl) ⟨x0, m0, m1, m2⟩ ?_
      intro hS
      refine takeL (i := 0) 15 (v := u3) rfl rfl (by kernel_rfl) (by kernel_rfl) (by kernel_rfl) (fun _ _ _ h => h) (Or.inl ⟨by kernel_rfl, fun _ hS => by first | rfl | (obtain ⟨g0, g1, g2, g3⟩ := hS; go_simp)⟩) hS ?_
      try simp only [Act.put, List.setIfInBounds_toArray, List.set_cons_zero, List.set_cons_succ]
      refine takeL (i := 1) 16 (v := .pointer (some ⟨P, 0, none⟩)) rfl rfl (by kernel_rfl) (by kernel_rfl) (by kernel_rfl) (fun _ _ _ h => h) (Or.inl ⟨by kernel_rfl, fun _ hS => by first | rfl | (obtain ⟨g0, g1, g2, g3⟩ := hS; go_simp)⟩) hS ?_
      try simp only [Act.put, List.setIfInBounds_toArray, List.set_cons_zero, List.set_cons_succ]
      refine takeL (i := 2) 17 (v := .pointer (some ⟨P, 0, none⟩)) rfl rfl (by kernel_rfl) (by kernel_rfl) (by kernel_rfl) (fun _ _ _ h => h) (Or.inl ⟨by kernel_rfl, fun _ hS => by first | rfl | (obtain ⟨g0, g1, g2, g3⟩ := hS; go_simp)⟩) hS ?_
      try simp only [Act.put, List.setIfInBounds_toArray, List.set_cons_zero, List.set_cons_succ]
      refine takeL (i := 3) 18 (v := .pointer (some ⟨P, 0, none⟩)) rfl rfl (by kernel_rfl) (by kernel_rfl) (by kernel_rfl) (fun _ _ _ h => h) (Or.inl ⟨by kernel_rfl, fun _ hS => by first | rfl | (obtain ⟨g0, g1, g2, g3⟩ := hS; go_simp)⟩) hS ?_
      try simp only [Act.put, List.setIfInBounds_toArray, List.set_cons_zero, List.set_cons_succ]
      refine takeL (i := 4) 19 (v := .slice (some ⟨g, 0, none⟩) N c) rfl rfl (by kernel_rfl) (by kernel_rfl) (by kernel_rfl) (fun _ _ _ h => h) (Or.inl ⟨by kernel_rfl, fun _ hS => by first | rfl | (obtain ⟨g0, g1, g2, g3⟩ := hS; go_simp)⟩) hS ?_
      try simp only [Act.put, List.setIfInBounds_toArray, List.set_cons_zero, List.set_cons_succ]
      refine takeL (i := 5) 20 (v := .int .i64 (j : Int)) rfl rfl (by kernel_rfl) (by kernel_rfl) (by kernel_rfl) (fun _ _ _ h => h) (Or.inl ⟨by kernel_rfl, fun _ hS => by first | rfl | (obtain ⟨g0, g1, g2, g3⟩ := hS; go_simp)⟩) hS ?_
      try simp only [Act.put, List.setIfInBounds_toArray, List.set_cons_zero, List.set_cons_succ]
      refine takeL (i := 6) 21 (v := .pointer (some ⟨g, j, none⟩)) rfl rfl (by kernel_rfl) (by kernel_rfl) (by kernel_rfl) (fun _ _ _ h => h) (Or.inl ⟨by kernel_rfl, fun _ hS => by first | rfl | (obtain ⟨g0, g1, g2, g3⟩ := hS; go_simp)⟩) hS ?_
      try simp only [Act.put, List.setIfInBounds_toArray, List.set_cons_zero, List.set_cons_succ]
      refine takeL (i := 7) 22 (v := .int .u8 b0) rfl rfl (by kernel_rfl) (by kernel_rfl) (by kernel_rfl) (fun _ _ _ h => h) (Or.inl ⟨by kernel_rfl, fun _ hS => by first | rfl | (obtain ⟨g0, g1, g2, g3⟩ := hS; go_simp)⟩) hS ?_
      try simp only [Act.put, List.setIfInBounds_toArray, List.set_cons_zero, List.set_cons_succ]
      refine takeL (i := 8) 23 (v := .int .i64 b0) rfl rfl (by kernel_rfl) (by kernel_rfl) (by kernel_rfl) (fun _ _ _ h => h) (Or.inl ⟨by kernel_rfl, fun _ hS => by first | rfl | (obtain ⟨g0, g1, g2, g3⟩ := hS; go_simp)⟩) hS ?_
      try simp only [Act.put, List.setIfInBounds_toArray, List.set_cons_zero, List.set_cons_succ]
      refine takeL (i := 9) 24 (v := .pointer (some ⟨P, 0, none⟩)) rfl rfl (by kernel_rfl) (by kernel_rfl) (by kernel_rfl) (fun _ _ _ h => h) (Or.inl ⟨by kernel_rfl, fun _ hS => by first | rfl | (obtain ⟨g0, g1, g2, g3⟩ := hS; go_simp)⟩) hS ?_
      try simp only [Act.put, List.setIfInBounds_toArray, List.set_cons_zero, List.set_cons_succ]
      refine takeL (i := 10) 25 (v := .pointer (some ⟨P, 0, none⟩)) rfl rfl (by kernel_rfl) (by kernel_rfl) (by kernel_rfl) (fun _ _ _ h => h) (Or.inl ⟨by kernel_rfl, fun _ hS => by first | rfl | (obtain ⟨g0, g1, g2, g3⟩ := hS; go_simp)⟩) hS ?_
      try simp only [Act.put, List.setIfInBounds_toArray, List.set_cons_zero, List.set_cons_succ]
      refine takeL (i := 11) 26 (v := .pointer (some ⟨P, 0, none⟩)) rfl rfl (by kernel_rfl) (by kernel_rfl) (by kernel_rfl) (fun _ _ _ h => h) (Or.inl ⟨by kernel_rfl, fun _ hS => by first | rfl | (obtain ⟨g0, g1, g2, g3⟩ := hS; go_simp)⟩) hS ?_
      try simp only [Act.put, List.setIfInBounds_toArray, List.set_cons_zero, List.set_cons_succ]
      refine takeL (i := 12) 27 (v := .slice (some ⟨g, 0, none⟩) N c) rfl rfl (by kernel_rfl) (by kernel_rfl) (by kernel_rfl) (fun _ _ _ h => h) (Or.inl ⟨by kernel_rfl, fun _ hS => by first | rfl | (obtain ⟨g0, g1, g2, g3⟩ := hS; go_simp)⟩) hS ?_
      try simp only [Act.put, List.setIfInBounds_toArray, List.set_cons_zero, List.set_cons_succ]
      refine takeL (i := 13) 28 (v := .int .i64 (j : Int)) rfl rfl (by kernel_rfl) (by kernel_rfl) (by kernel_rfl) (fun _ _ _ h => h) (Or.inl ⟨by kernel_rfl, fun _ hS => by first | rfl | (obtain ⟨g0, g1, g2, g3⟩ := hS; go_simp)⟩) hS ?_
      try simp only [Act.put, List.setIfInBounds_toArray, List.set_cons_zero, List.set_cons_succ]
      refine takeL (i := 14) 29 (v := .int .i64 ((j : Int) + 1)) rfl rfl (by kernel_rfl) (by kernel_rfl) (by kernel_rfl) (fun _ _ _ h => h) (Or.inl ⟨by kernel_rfl, fun _ hS => by first | rfl | (obtain ⟨g0, g1, g2, g3⟩ := hS; go_simp)⟩) hS ?_
      try simp only [Act.put, List.setIfInBounds_toArray, List.set_cons_zero, List.set_cons_succ]
      refine takeL (i := 15) 30 (v := .pointer (some ⟨g, j + 1, none⟩)) rfl rfl (by kernel_rfl) (by kernel_rfl) (by kernel_rfl) (fun _ _ _ h => h) (Or.inl ⟨by kernel_rfl, fun _ hS => by first | rfl | (obtain ⟨g0, g1, g2, g3⟩ := hS; go_simp)⟩) hS ?_
      try simp only [Act.put, List.setIfInBounds_toArray, List.set_cons_zero, List.set_cons_succ]
      refine takeL (i := 16) 31 (v := .int .u8 b1) rfl rfl (by kernel_rfl) (by kernel_rfl) (by kernel_rfl) (fun _ _ _ h => h) (Or.inl ⟨by kernel_rfl, fun _ hS => by first | rfl | (obtain ⟨g0, g1, g2, g3⟩ := hS; go_simp)⟩) hS ?_
      try simp only [Act.put, List.setIfInBounds_toArray, List.set_cons_zero, List.set_cons_succ]
      refine takeL (i := 17) 32 (v := .int .i64 b1) rfl rfl (by kernel_rfl) (by kernel_rfl) (by kernel_rfl) (fun _ _ _ h => h) (Or.inl ⟨by kernel_rfl, fun _ hS => by first | rfl | (obtain ⟨g0, g1, g2, g3⟩ := hS; go_simp)⟩) hS ?_
      try simp only [Act.put, List.setIfInBounds_toArray, List.set_cons_zero, List.set_cons_succ]
      refine takeL (i := 18) 33 (v := .pointer (some ⟨P, 0, none⟩)) rfl rfl (by kernel_rfl) (by kernel_rfl) (by kernel_rfl) (fun _ _ _ h => h) (Or.inl ⟨by kernel_rfl, fun _ hS => by first | rfl | (obtain ⟨g0, g1, g2, g3⟩ := hS; go_simp)⟩) hS ?_
      try simp only [Act.put, List.setIfInBounds_toArray, List.set_cons_zero, List.set_cons_succ]
      refine takeL (i := 19) 34 (v := .pointer (some ⟨P, 0, none⟩)) rfl rfl (by kernel_rfl) (by kernel_rfl) (by kernel_rfl) (fun _ _ _ h => h) (Or.inl ⟨by kernel_rfl, fun _ hS => by first | rfl | (obtain ⟨g0, g1, g2, g3⟩ := hS; go_simp)⟩) hS ?_
      try simp only [Act.put, List.setIfInBounds_toArray, List.set_cons_zero, List.set_cons_succ]
      refine takeL (i := 20) 35 (v := .pointer (some ⟨P, 0, none⟩)) rfl rfl (by kernel_rfl) (by kernel_rfl) (by kernel_rfl) (fun _ _ _ h => h) (Or.inl ⟨by kernel_rfl, fun _ hS => by first | rfl | (obtain ⟨g0, g1, g2, g3⟩ := hS; go_simp)⟩) hS ?_
      try simp only [Act.put, List.setIfInBounds_toArray, List.set_cons_zero, List.set_cons_succ]
      refine takeL (i := 21) 36 (v := .slice (some ⟨g, 0, none⟩) N c) rfl rfl (by kernel_rfl) (by kernel_rfl) (by kernel_rfl) (fun _ _ _ h => h) (Or.inl ⟨by kernel_rfl, fun _ hS => by first | rfl | (obtain ⟨g0, g1, g2, g3⟩ := hS; go_simp)⟩) hS ?_
      try simp only [Act.put, List.setIfInBounds_toArray, List.set_cons_zero, List.set_cons_succ]
      refine takeL (i := 22) 37 (v := .int .i64 (j : Int)) rfl rfl (by kernel_rfl) (by kernel_rfl) (by kernel_rfl) (fun _ _ _ h => h) (Or.inl ⟨by kernel_rfl, fun _ hS => by first | rfl | (obtain ⟨g0, g1, g2, g3⟩ := hS; go_simp)⟩) hS ?_
      try simp only [Act.put, List.setIfInBounds_toArray, List.set_cons_zero, List.set_cons_succ]
      refine takeL (i := 23) 38 (v := .int .i64 ((j : Int) + 2)) rfl rfl (by kernel_rfl) (by kernel_rfl) (by kernel_rfl) (fun _ _ _ h => h) (Or.inl ⟨by kernel_rfl, fun _ hS => by first | rfl | (obtain ⟨g0, g1, g2, g3⟩ := hS; go_simp)⟩) hS ?_
      try simp only [Act.put, List.setIfInBounds_toArray, List.set_cons_zero, List.set_cons_succ]
      refine takeL (i := 24) 39 (v := .pointer (some ⟨g, j + 2, none⟩)) rfl rfl (by kernel_rfl) (by kernel_rfl) (by kernel_rfl) (fun _ _ _ h => h) (Or.inl ⟨by kernel_rfl, fun _ hS => by first | rfl | (obtain ⟨g0, g1, g2, g3⟩ := hS; go_simp)⟩) hS ?_
      try simp only [Act.put, List.setIfInBounds_toArray, List.set_cons_zero, List.set_cons_succ]
      refine takeL (i := 25) 40 (v := .int .u8 b2) rfl rfl (by kernel_rfl) (by kernel_rfl) (by kernel_rfl) (fun _ _ _ h => h) (Or.inl ⟨by kernel_rfl, fun _ hS => by first | rfl | (obtain ⟨g0, g1, g2, g3⟩ := hS; go_simp)⟩) hS ?_
      try simp only [Act.put, List.setIfInBounds_toArray, List.set_cons_zero, List.set_cons_succ]
      refine takeL (i := 26) 41 (v := .int .i64 b2) rfl rfl (by kernel_rfl) (by kernel_rfl) (by kernel_rfl) (fun _ _ _ h => h) (Or.inl ⟨by kernel_rfl, fun _ hS => by first | rfl | (obtain ⟨g0, g1, g2, g3⟩ := hS; go_simp)⟩) hS ?_
      try simp only [Act.put, List.setIfInBounds_toArray, List.set_cons_zero, List.set_cons_succ]
      refine takeL (i := 27) 42 (v := .agg #[.int .i64 b0, .int .i64 b1, .int .i64 b2]) rfl rfl (by kernel_rfl) (by kernel_rfl) (by kernel_rfl) (fun _ _ _ h => h) (Or.inl ⟨by kernel_rfl, fun _ hS => by first | rfl | (obtain ⟨g0, g1, g2, g3⟩ := hS; go_simp)⟩) hS ?_
      try simp only [Act.put, List.setIfInBounds_toArray, List.set_cons_zero, List.set_cons_succ]
      refine wpAnyH_ready (rs := [28]) (by kernel_rfl) (by simp) ?_
      refine AllReadyH.cons rfl (fun K9 hK9 => ?_) AllReadyH.nil
      go_simp
      refine hK9.out _ _ ⟨(World.cell?_alloc_lt _ _ _ hPl).trans x0, (World.cell?_alloc_lt _ _ _ hgl2).trans m0, (World.cell?_alloc_lt _ _ _ hgl2).trans m1, (World.cell?_alloc_lt _ _ _ hgl2).trans m2⟩ (fun hS => ?_)
      clear hK9 K9
      have OA : Hid (Eo (wr.alloc (.cells #[.int .i64 b0, .int .i64 b1, .int .i64 b2] 28)) w.heap.size u3 (l.es.take k)) := (hR.out.1).alloc _
      have BA : Hid (Below w.heap.size w (wr.alloc (.cells #[.int .i64 b0, .int .i64 b1, .int .i64 b2] 28))) := hR.out.2.alloc hs0 _
      obtain ⟨ie, i1, i2, i3, i4⟩ := info_ev
      refine wpAnyH_ready (rs := [29]) (by kernel_rfl) (by simp) ?_
      refine AllReadyH.cons rfl (fun K9 hK9 => ?_) AllReadyH.nil
      refine step_append_lies _ rfl _ _ 33 rfl w.heap.size 28 ie _ 3 24 Tryd.underlying33 i1 i2 i3 i4 rfl (by decide) u3 (l.es.take k).length (flat (l.es.take k)) rfl OA.out ⟨wr.heap.size, 0, none⟩ 1 1 (flat [(b0, b1, b2)]) rfl rfl (news1 wr _ rfl b0 b1 b2 28) (flat_one _) (by decide) (by have := EJ.out; have := HN.out; rw [List.length_take]; unfold maxLen; omega) (by have := EJ.out; have := HN.out; rw [List.length_take]; omega) BA.out.size _ rfl ?_
      intro g9 c9 w9 ho9 hg9 _ _
      have R9 : Hid (Eo w9 w.heap.size (.slice (some ⟨g9, 0, none⟩) ((l.es.take k).length + 1) c9) (l.es.take (k + 1)) ∧ Below w.heap.size w w9) := by
        refine ⟨?_, BA.out.drew.grown hg9 BA.out.size (fun t ht => (own_lt OA.out t ht).1)⟩
        have e9 := ev_push l.es hkn.out
        rw [EB.out] at e9
        unfold Eo
        rw [← e9, flat_append, List.length_append]
        exact ho9
      have gr : ∀ t, t < w.heap.size → t < wr.heap.size → some t ≠ u3.ownBlock := fun t h1 _ e => by have := (own_lt OA.out t e.symm).1; omega
      have hsz9 : ∀ t, t < wr.heap.size → t < (wr.alloc (.cells #[.int .i64 b0, .int .i64 b1, .int .i64 b2] 28)).heap.size := fun t ht => by simp; omega
      go_simp
      refine hK9.out _ _ ⟨(hg9.cell_far ⟨P, 0, none⟩ (hsz9 _ hPl) (gr _ hsP hPl)).trans hS.1, (hg9.cell_far ⟨g, j, none⟩ (hsz9 _ hgl2) (gr _ GL.out hgl2)).trans hS.2.1, (hg9.cell_far ⟨g, j + 1, none⟩ (hsz9 _ hgl2) (gr _ GL.out hgl2)).trans hS.2.2.1, (hg9.cell_far ⟨g, j + 2, none⟩ (hsz9 _ hgl2) (gr _ GL.out hgl2)).trans hS.2.2.2⟩ (fun hS => ?_)
      clear hK9 K9
      refine takeL (i := 30) 3 (v := .slice (some ⟨g9, 0, none⟩) ((l.es.take k).length + 1) c9) rfl rfl (by kernel_rfl) (by kernel_rfl) (by kernel_rfl) (fun _ _ _ h => h) (Or.inl ⟨by kernel_rfl, fun _ hS => by first | rfl | (obtain ⟨g0, g1, g2, g3⟩ := hS; go_simp)⟩) hS ?_
      try simp only [Act.put, List.setIfInBounds_toArray, List.set_cons_zero, List.set_cons_succ]
      refine wpAnyH_done (by kernel_rfl) ?_ _
      go_wp2_with fail
      go_roundw
      case rel => exact ⟨k + 1, hkn.out, by rw [EJ.out.1]; go_num, R9.out⟩
      case measure => simp [intOf]; omega
    · have hk : k = l.es.length := by have := HN.out; have := EJ.out; omega
      subst hk
      have hR' : Hid (Eo wr w.heap.size _ l.es ∧ Below w.heap.size w wr) := ⟨by have := hR.out.1; rwa [List.take_of_length_le (Nat.le_refl _)] at this, hR.out.2⟩
      clear hR
      go_wp2
      go_ret
      exact ⟨_, rfl, hR'.out⟩
end Go.Proofs.YtpjoaogiaacikakDoor.Lgs
