/-
  Contract of package faces' have: whether whoever heard the later one of two words had the earlier one.
-/
import Derived.Test.YtpjoaogiaacikakDoorFacB
namespace Go.Proofs.YtpjoaogiaacikakDoor.His
open Go.RowKit
open Go.Proofs.YtpjoaogiaacikakDoor.Vec

/-- what all members have -/
def Al5 (h : List Ev) (w : World) (q0 q1 q2 q3 q4 : Option Addr) (d0 d1 d2 d3 d4 : Nat) : Prop := Al h w 0 q0 d0 ∧ Al h w 1 q1 d1 ∧ Al h w 2 q2 d2 ∧ Al h w 3 q3 d3 ∧ Al h w 4 q4 d4
theorem Al5.later {h : List Ev} {w w' : World} {q0 q1 q2 q3 q4 : Option Addr} {d0 d1 d2 d3 d4 : Nat} (g : Al5 h w q0 q1 q2 q3 q4 d0 d1 d2 d3 d4) (hb : Below w.heap.size w w') : Al5 h w' q0 q1 q2 q3 q4 d0 d1 d2 d3 d4 := ⟨g.1.later hb, g.2.1.later hb, g.2.2.1.later hb, g.2.2.2.1.later hb, g.2.2.2.2.later hb⟩
theorem Al.max {h : List Ev} {w : World} {m : Nat} {q : Option Addr} {d : Nat} (g : Al h w m q d) : ln h m ≤ maxLen := Nat.le_trans g.2.1 g.2.2
theorem hv1_own (words : List Int) (lw ew lword : Int) : hv1 words lw lw ew lword = true := by simp [hv1]
theorem hv1_not {words : List Int} {who lw ew lword : Int} (h : lword ∉ words) : hv1 words who lw ew lword = true := by simp [hv1, h]
theorem hv1_in {words : List Int} {who lw ew lword : Int} (hw : who ≠ lw) (h : lword ∈ words) : hv1 words who lw ew lword = (words.take (ix words lword)).contains ew := by simp [hv1, h, hw]
theorem hv5_step {h : List Ev} {l0 e2 l2 : Int} {k : Nat} (hp : ∀ j : Nat, j < k → hv1 (hrd h (j : Int)) (j : Int) l0 e2 l2 = true) (hk : hv1 (hrd h (k : Int)) (k : Int) l0 e2 l2 = true) : ∀ j : Nat, j < k + 1 → hv1 (hrd h (j : Int)) (j : Int) l0 e2 l2 = true := by
  intro j hj
  rcases Nat.lt_or_ge j k with a | a
  · exact hp j a
  · obtain rfl : j = k := by omega
    exact hk
theorem hv5_all {h : List Ev} {e l : Ev} (hp : ∀ j : Nat, j < 5 → hv1 (hrd h (j : Int)) (j : Int) l.1 e.2.2 l.2.2 = true) : hv5 h e l = true := by
  unfold hv5
  rw [List.all_eq_true]
  exact fun j hj => hp j (List.mem_range.1 hj)
theorem hv5_no {h : List Ev} {e l : Ev} {k : Nat} (hk : k < 5) (hp : hv1 (hrd h (k : Int)) (k : Int) l.1 e.2.2 l.2.2 = false) : hv5 h e l = false := by
  rw [Bool.eq_false_iff]
  intro hx
  unfold hv5 at hx
  rw [List.all_eq_true] at hx
  rw [hx k (List.mem_range.2 hk)] at hp
  exact absurd hp (by decide)

theorem quiet_plus {P : Program} {f : FuncId} {args : Array Value} {w : World} {n m : Nat} {v : Value} (h : Calls P f args (w.drewN (n + m)) fun e w' => e = .returned v ∧ w' = w.drewN (n + m)) : Calls P f args (w.drewN (n + m)) fun e w'' => e = .returned v ∧ ∃ k, w'' = w.drewN (n + k) :=
  h.mono fun _ _ ⟨he, hm⟩ => ⟨he, m, hm⟩
theorem idx5 (v0 v1 v2 v3 v4 : Value) (W : World) :
    (Instr.index 59 (.agg #[v0, v1, v2, v3, v4]) (.int .i64 0)).run Tryd.prog W = .ok v0 W ∧ (Instr.index 59 (.agg #[v0, v1, v2, v3, v4]) (.int .i64 1)).run Tryd.prog W = .ok v1 W ∧ (Instr.index 59 (.agg #[v0, v1, v2, v3, v4]) (.int .i64 2)).run Tryd.prog W = .ok v2 W ∧ (Instr.index 59 (.agg #[v0, v1, v2, v3, v4]) (.int .i64 3)).run Tryd.prog W = .ok v3 W ∧ (Instr.index 59 (.agg #[v0, v1, v2, v3, v4]) (.int .i64 4)).run Tryd.prog W = .ok v4 W := by
  refine ⟨?_, ?_, ?_, ?_, ?_⟩ <;> simp [Instr.index, run_underlying Tryd.underlying59, asIntOf, go_sem]
theorem sel5 {h : List Ev} {w : World} {q0 q1 q2 q3 q4 : Option Addr} {d0 d1 d2 d3 d4 : Nat} (g : Al5 h w q0 q1 q2 q3 q4 d0 d1 d2 d3 d4) {k : Nat} (hk : k < 5) : ∃ q d, (∀ W, (Instr.index 59 (.agg #[.slice q0 (ln h 0) d0, .slice q1 (ln h 1) d1, .slice q2 (ln h 2) d2, .slice q3 (ln h 3) d3, .slice q4 (ln h 4) d4]) (.int .i64 (k : Int))).run Tryd.prog W = .ok (.slice q (ln h k) d) W) ∧ Al h w k q d := by
  have e := idx5 (.slice q0 (ln h 0) d0) (.slice q1 (ln h 1) d1) (.slice q2 (ln h 2) d2) (.slice q3 (ln h 3) d3) (.slice q4 (ln h 4) d4)
  obtain ⟨g0, g1, g2, g3, g4⟩ := g
  rcases k with _ | _ | _ | _ | _ | k
  · exact ⟨q0, d0, fun W => (e W).1, g0⟩
  · exact ⟨q1, d1, fun W => (e W).2.1, g1⟩
  · exact ⟨q2, d2, fun W => (e W).2.2.1, g2⟩
  · exact ⟨q3, d3, fun W => (e W).2.2.2.1, g3⟩
  · exact ⟨q4, d4, fun W => (e W).2.2.2.2, g4⟩
  · omega

set_option maxRecDepth 100000 in
set_option maxHeartbeats 8000000 in
theorem have_any (h : List Ev) (q0 q1 q2 q3 q4 : Option Addr) (d0 d1 d2 d3 d4 : Nat) (e0 e1 e2 l0 l1 l2 : Int) (w : World) (ha : Al5 h w q0 q1 q2 q3 q4 d0 d1 d2 d3 d4) :
    Calls Tryd.prog 35 #[.agg #[.slice q0 (ln h 0) d0, .slice q1 (ln h 1) d1, .slice q2 (ln h 2) d2, .slice q3 (ln h 3) d3, .slice q4 (ln h 4) d4], .agg #[.int .i64 e0, .int .i64 e1, .int .i64 e2], .agg #[.int .i64 l0, .int .i64 l1, .int .i64 l2]] w fun x w' => x = .returned (.bool (hv5 h (e0, e1, e2) (l0, l1, l2))) ∧ Below w.heap.size w w' := by
  obtain ⟨W0, eW⟩ : ∃ W, W = ((w.alloc (.cells #[.slice q0 (ln h 0) d0, .slice q1 (ln h 1) d1, .slice q2 (ln h 2) d2, .slice q3 (ln h 3) d3, .slice q4 (ln h 4) d4] 59)).alloc (.cells #[.int .i64 e0, .int .i64 e1, .int .i64 e2] 28)).alloc (.cells #[.int .i64 l0, .int .i64 l1, .int .i64 l2] 28) := ⟨_, rfl⟩
  have B0 : Hid (Below w.heap.size w W0) := by
    subst eW
    exact (((Below.refl _ _).alloc (Nat.le_refl _) _).alloc (by simp) _).alloc (by simp; omega) _
  have D0 : Hid (Al5 h W0 q0 q1 q2 q3 q4 d0 d1 d2 d3 d4) := Al5.later ha B0.out
  have c0 : W0.cell? ⟨w.heap.size + 1, 2, none⟩ = some (.int .i64 e2) := by rw [eW]; go_cell
  have c1 : W0.cell? ⟨w.heap.size + 1 + 1, 0, none⟩ = some (.int .i64 l0) := by rw [eW]; go_cell
  have c2 : W0.cell? ⟨w.heap.size + 1 + 1, 2, none⟩ = some (.int .i64 l2) := by rw [eW]; go_cell
  clear ha
  go_enter Tryd.func35, Tryd.ntmps35
  go_wp2
  rw [← eW]
  clear eW
  go_loopw [11] (fun i wr => ∃ k : Nat, k ≤ 5 ∧ i = .int .i64 (k : Int) ∧ (∃ n, wr = W0.drewN n) ∧ Hid (∀ j : Nat, j < k → hv1 (hrd h (j : Int)) (j : Int) l0 e2 l2 = true)) (fun i _ => 5 - (intOf i).toNat)
  case atStart => exact ⟨0, by omega, rfl, ⟨0, rfl⟩, fun j hj => absurd hj (by omega)⟩
  case round =>
    obtain ⟨k, hk, rfl, ⟨nd, rfl⟩, hp⟩ := hrel
    by_cases hlt : k < 5
    · obtain ⟨q, d, hidx, al⟩ := sel5 D0.out hlt
      have hk0 : (0 : Int) ≤ (k : Int) := by omega
      have hkl : (k : Int) < 5 := by omega
      have V0 : Hid (Vw W0 q (ln h k) (hrd h (k : Int)) ∧ ln h k ≤ d ∧ ln h k ≤ maxLen ∧ d ≤ maxLen) := ⟨al.1, al.2.1, al.max, al.2.2⟩
      clear al
      go_wp2_with fail
      refine (idx_ints q (ln h k) d (hrd h (k : Int)) l2 _ V0.out.2.2.1 (by exact V0.out.1)).mono ?_
      rintro e w1 ⟨rfl, rfl⟩
      by_cases hl : (k : Int) = l0
      · have hne : ((k : Int) != l0) = false := by simp [hl]
        have HL : Hid ((k : Int) = l0) := hl
        clear hl
        go_wp2
        go_quiet (fail)
        go_wp2
        go_roundw
        case rel => exact ⟨k + 1, by omega, by go_num, ⟨_, rfl⟩, hv5_step (hp.out) (by rw [HL.out]; exact hv1_own _ _ _ _)⟩
        case measure => simp [intOf]; omega
      · have hne : ((k : Int) != l0) = true := by rw [bne_iff_ne]; exact hl
        by_cases hin : l2 ∈ hrd h (k : Int)
        · have HIX : Hid (ixI (hrd h (k : Int)) l2 = (ix (hrd h (k : Int)) l2 : Nat) ∧ ix (hrd h (k : Int)) l2 < ln h k) := ⟨if_pos hin, ix_lt hin⟩
          have HV : Hid (hv1 (hrd h (k : Int)) (k : Int) l0 e2 l2 = ((hrd h (k : Int)).take (ix (hrd h (k : Int)) l2)).contains e2) := hv1_in hl hin
          rw [HIX.out.1]
          obtain ⟨x, ex⟩ : ∃ x, x = ix (hrd h (k : Int)) l2 := ⟨_, rfl⟩
          rw [← ex] at HIX HV ⊢
          have hx0 : (0 : Int) ≤ (x : Int) := by omega
          have hxd : x ≤ d := Nat.le_trans (Nat.le_of_lt HIX.out.2) V0.out.2.1
          have hxd' : (x : Int) ≤ (d : Int) := by omega
          have XM : Hid (x ≤ maxLen ∧ x ≤ ln h k) := ⟨Nat.le_trans hxd V0.out.2.2.2, Nat.le_of_lt HIX.out.2⟩
          obtain ⟨b, off, rfl, -, -⟩ := V0.out.1.2 (by have := HIX.out.2; omega)
          clear ex hin
          have hcall : ∀ n, Calls Tryd.prog 50 #[.slice (some ⟨b, off, none⟩) x d, .int .i64 e2] (W0.drewN n) fun e w' => e = .returned (.bool (((hrd h (k : Int)).take x).contains e2)) ∧ w' = W0.drewN n := fun n => cont_ints (some ⟨b, off, none⟩) x d ((hrd h (k : Int)).take x) e2 _ XM.out.1 (by exact Vw.take V0.out.1 XM.out.2)
          obtain ⟨r, er⟩ : ∃ r, r = ((hrd h (k : Int)).take x).contains e2 := ⟨_, rfl⟩
          rw [← er] at hcall HV
          clear er
          cases r with
          | true =>
            go_wp2
            go_quiet (first | (go_at_call 50; refine quiet_plus (hcall _)))
            go_wp2
            go_roundw
            case rel => exact ⟨k + 1, by omega, by go_num, ⟨_, rfl⟩, hv5_step (hp.out) (HV.out)⟩
            case measure => simp [intOf]; omega
          | false =>
            have HN : Hid _ := hv5_no (h := h) (e := (e0, e1, e2)) (l := (l0, l1, l2)) (k := k) hlt (HV.out)
            go_wp2
            go_quiet (first | (go_at_call 50; refine quiet_plus (hcall _)))
            go_wp2
            go_ret
            exact ⟨ret_bool HN.out.symm, below_drewN (below_drewN B0.out _) _⟩
        · have HIX : ixI (hrd h (k : Int)) l2 = -1 := if_neg hin
          have HIN : Hid (l2 ∉ hrd h (k : Int)) := hin
          rw [HIX]
          clear HIX hin
          go_wp2
          go_quiet (fail)
          go_wp2
          go_roundw
          case rel => exact ⟨k + 1, by omega, by go_num, ⟨_, rfl⟩, hv5_step (hp.out) (hv1_not HIN.out)⟩
          case measure => simp [intOf]; omega
    · have hk5 : k = 5 := by omega
      subst hk5
      go_wp2
      go_ret
      exact ⟨ret_bool (hv5_all (e := (e0, e1, e2)) (l := (l0, l1, l2)) hp.out).symm, below_drewN B0.out _⟩
end Go.Proofs.YtpjoaogiaacikakDoor.His
