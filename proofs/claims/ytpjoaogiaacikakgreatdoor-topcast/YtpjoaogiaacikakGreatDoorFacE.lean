/-
  Contract of package faces' agree, with its closure and the searches of package slices over slices.
-/
import Derived.Test.YtpjoaogiaacikakGreatDoorFacD
import Derived.Deep.RegionWith
namespace Go.Proofs.YtpjoaogiaacikakGreatDoor.His
open Go.RowKit
open Go.Proofs.YtpjoaogiaacikakGreatDoor.Vec

set_option maxRecDepth 100000 in
set_option maxHeartbeats 4000000 in
theorem agree1 (h : List Ev) (m B Q : Nat) (q qo : Option Addr) (d no co : Nat) (ys : List Int) (w : World) (hm5 : m < 5) (hB : B < w.heap.size) (hQ : Q < w.heap.size) (cq : w.cell? ⟨Q, 0, none⟩ = some (.int .i64 (m : Int))) (cb : w.cell? ⟨B, m, none⟩ = some (.slice q (ln h m) d)) (hv : Vw w q (ln h m) (hrd h (m : Int))) (hl : ln h m ≤ 60) (hv' : Vw w qo no ys) (hl' : no ≤ 60) :
    Calls Tryz.prog 92 #[.slice qo no co, .pointer (some ⟨B, 0, none⟩), .pointer (some ⟨Q, 0, none⟩)] w fun e w' => e = .returned (.bool (!ag1 (hrd h (m : Int)) ys)) ∧ Below w.heap.size w w' := by
  have VV : Hid (Vw w q (ln h m) (hrd h (m : Int)) ∧ Vw w qo no ys) := ⟨hv, hv'⟩
  have LL : Hid (ln h m ≤ 60 ∧ no ≤ 60 ∧ ln h m ≤ maxLen ∧ no ≤ maxLen) := ⟨hl, hl', by unfold maxLen; omega, by unfold maxLen; omega⟩
  have CC : Hid (B < w.heap.size ∧ Q < w.heap.size ∧ w.cell? ⟨Q, 0, none⟩ = some (.int .i64 (m : Int)) ∧ w.cell? ⟨B, m, none⟩ = some (.slice q (ln h m) d)) := ⟨hB, hQ, cq, cb⟩
  have hm0 : (0 : Int) ≤ (m : Int) := by omega
  have hml : (m : Int) < 5 := by omega
  have ED : Hid (ag1 (hrd h (m : Int)) ys = (both (hrd h (m : Int)) ys == both ys (hrd h (m : Int)))) := rfl
  have LB : Hid ((both (hrd h (m : Int)) ys).length ≤ maxLen) := Nat.le_trans (both_len _ _) LL.out.2.2.1
  clear hv hv' hl hl' hB hQ
  go_enter Tryz.func92, Tryz.ntmps92
  go_wp2_with fail
  go_region_held3 (fun w' => w'.cell? ⟨Q, 0, none⟩ = some (.int .i64 (m : Int)) ∧ w'.cell? ⟨B, m, none⟩ = some (.slice q (ln h m) d)) (go_keep)
    (first
      | (go_at_call_of 94 (#[Value.slice q (ln h m) d, Value.slice qo no co]); refine (both_any q qo (ln h m) d no co (hrd h (m : Int)) ys _ ?_ ?_ LL.out.1 LL.out.2.2.2).mono ?_; exact Vw.later VV.out.1 (Below.refl _ _).drew; exact Vw.later VV.out.2 (Below.refl _ _).drew; rintro e w1 ⟨⟨v1, rfl, o1⟩, hb⟩; obtain ⟨p1, k1, rfl, u1, -, -, -⟩ := own_sl o1; have U1 : Hid (Vw w1 p1 (both (hrd h (m : Int)) ys).length (both (hrd h (m : Int)) ys)) := u1; have B1 : Hid (Below w.heap.size w w1) := below_up rfl (Below.refl w.heap.size w).drew hb; have x1 := (B1.out.cell (p := ⟨Q, 0, none⟩) CC.out.2.1).trans CC.out.2.2.1; have x2 := (B1.out.cell (p := ⟨B, m, none⟩) CC.out.1).trans CC.out.2.2.2; clear hb o1 u1)
      | (go_at_call_of 94 (#[Value.slice qo no co, Value.slice q (ln h m) d]); refine (both_any qo q no co (ln h m) d ys (hrd h (m : Int)) _ ?_ ?_ LL.out.2.1 LL.out.2.2.1).mono ?_; exact Vw.later VV.out.2 B1.out; exact Vw.later VV.out.1 B1.out; rintro e w2 ⟨⟨v2, rfl, o2⟩, hb⟩; obtain ⟨p2, k2, rfl, u2, -, -, -⟩ := own_sl o2; have U2 : Hid (Vw w2 p2 (both ys (hrd h (m : Int))).length (both ys (hrd h (m : Int)))) := u2; have B12 : Hid (Below w1.heap.size w1 w2) := hb; have B2 : Hid (Below w.heap.size w w2) := below_up rfl B1.out hb; have x3 := (B2.out.cell (p := ⟨Q, 0, none⟩) CC.out.2.1).trans CC.out.2.2.1; have x4 := (B2.out.cell (p := ⟨B, m, none⟩) CC.out.1).trans CC.out.2.2.2; clear hb o2 u2)
      | (go_at_call 93; refine (equal_ints p1 p2 (both (hrd h (m : Int)) ys).length k1 (both ys (hrd h (m : Int))).length k2 (both (hrd h (m : Int)) ys) (both ys (hrd h (m : Int))) _ ?_ ?_ LB.out).mono ?_; exact Vw.later U1.out B12.out; exact U2.out; rintro e w3 ⟨rfl, hb⟩; have B3 : Hid (Below w.heap.size w w3) := below_up rfl B2.out hb; have x5 := (B3.out.cell (p := ⟨Q, 0, none⟩) CC.out.2.1).trans CC.out.2.2.1; have x6 := (B3.out.cell (p := ⟨B, m, none⟩) CC.out.1).trans CC.out.2.2.2; clear hb))
  all_goals go_wp2
  go_ret
  exact ⟨ret_bool (by rw [ED.out]), B3.out⟩

/-- what all members have, in a row -/
def Lx (h : List Ev) (w : World) (B : Nat) : Prop := B < w.heap.size ∧ ∀ j, j < 5 → ∃ q d, w.cell? ⟨B, j, none⟩ = some (.slice q (ln h j) d) ∧ Vw w q (ln h j) (hrd h (j : Int))
theorem Lx.later {h : List Ev} {w w' : World} {B : Nat} (g : Lx h w B) (hb : Below w.heap.size w w') : Lx h w' B := by
  refine ⟨Nat.lt_of_lt_of_le g.1 hb.size, fun j hj => ?_⟩
  obtain ⟨q, d, c, v⟩ := g.2 j hj
  exact ⟨q, d, (hb.cell (p := ⟨B, j, none⟩) g.1).trans c, Vw.later v hb⟩
def agM (h : List Ev) (m n : Nat) : Bool := (List.range n).all fun o => ag1 (hrd h (m : Int)) (hrd h (o : Int))
theorem agM_all {h : List Ev} {m n : Nat} (hx : ∀ o, o < n → ag1 (hrd h (m : Int)) (hrd h (o : Int)) = true) : agM h m n = true := by
  unfold agM
  simp only [List.all_eq_true, List.mem_range]
  exact hx
theorem agM_not {h : List Ev} {m n o : Nat} (ho : o < n) (hx : ag1 (hrd h (m : Int)) (hrd h (o : Int)) = false) : agM h m n = false := by
  rw [Bool.eq_false_iff]
  intro ha
  unfold agM at ha
  simp only [List.all_eq_true, List.mem_range] at ha
  rw [ha o ho] at hx
  exact absurd hx (by decide)

set_option maxRecDepth 100000 in
theorem idxLists (h : List Ev) (m B Q : Nat) (w : World) (hm5 : m < 5) (h60 : h.length ≤ 60) (hL : Lx h w B) (hQ : Q < w.heap.size) (cq : w.cell? ⟨Q, 0, none⟩ = some (.int .i64 (m : Int))) :
    Calls Tryz.prog 108 #[.slice (some ⟨B, 0, none⟩) m 5, .func (.func 92) #[] #[.pointer (some ⟨B, 0, none⟩), .pointer (some ⟨Q, 0, none⟩)]] w fun e w' => (∃ z, e = .returned (.int .i64 z) ∧ decide (0 ≤ z) = !agM h m m) ∧ Below w.heap.size w w' := by
  have LX : Hid (Lx h w B ∧ Q < w.heap.size ∧ w.cell? ⟨Q, 0, none⟩ = some (.int .i64 (m : Int))) := ⟨hL, hQ, cq⟩
  have L60 : Hid (∀ j, ln h j ≤ 60) := fun j => Nat.le_trans (ln_le h j) h60
  clear hL hQ cq
  go_enter Tryz.func108, Tryz.ntmps108
  go_wp2
  go_loopw [8] (fun x wr => ∃ k : Nat, k ≤ m ∧ x = .int .i64 (k : Int) ∧ Hid (Below w.heap.size w wr) ∧ Hid (∀ o, o < k → ag1 (hrd h (m : Int)) (hrd h (o : Int)) = true)) (fun x _ => m - (intOf x).toNat)
  case atStart => exact ⟨0, by omega, rfl, Below.refl _ _, fun j hj => absurd hj (by omega)⟩
  case round =>
    obtain ⟨k, hk, rfl, hbel, hp⟩ := hrel
    by_cases hlt : k < m
    · have LW := Lx.later LX.out.1 hbel.out
      have cq : wr.cell? ⟨Q, 0, none⟩ = some (.int .i64 (m : Int)) := (hbel.out.cell (p := ⟨Q, 0, none⟩) LX.out.2.1).trans LX.out.2.2
      obtain ⟨q, d, c, v⟩ := LW.2 m hm5
      obtain ⟨qo, co, c0, vo⟩ := LW.2 k (by omega)
      have FX : Hid (B < wr.heap.size ∧ Q < wr.heap.size ∧ wr.cell? ⟨Q, 0, none⟩ = some (.int .i64 (m : Int)) ∧ wr.cell? ⟨B, m, none⟩ = some (.slice q (ln h m) d) ∧ Vw wr q (ln h m) (hrd h (m : Int)) ∧ Vw wr qo (ln h k) (hrd h (k : Int))) := ⟨LW.1, Nat.lt_of_lt_of_le LX.out.2.1 hbel.out.size, cq, c, v, vo⟩
      have hk0 : (0 : Int) ≤ (k : Int) := by omega
      have hkl : (k : Int) < (m : Int) := by omega
      clear LW cq c v vo
      go_wp2_with fail
      refine (agree1 h m B Q q qo d (ln h k) co (hrd h (k : Int)) _ hm5 FX.out.1 FX.out.2.1 FX.out.2.2.1 FX.out.2.2.2.1 FX.out.2.2.2.2.1 (L60.out m) FX.out.2.2.2.2.2 (L60.out k)).mono ?_
      rintro e w1 ⟨rfl, hb⟩
      have B1 : Hid (Below w.heap.size w w1) := below_up rfl hbel.out hb
      clear hb
      cases hx : ag1 (hrd h (m : Int)) (hrd h (k : Int)) with
      | true =>
        go_wp2
        go_roundw
        case rel => exact ⟨k + 1, by omega, by go_num, B1.out, up_step (p := fun o => ag1 (hrd h (m : Int)) (hrd h (o : Int))) hp.out hx⟩
        case measure => simp [intOf]; omega
      | false =>
        have HN : Hid (agM h m m = false) := agM_not hlt hx
        go_wp2
        go_ret
        refine ⟨⟨(k : Int), rfl, ?_⟩, B1.out⟩
        rw [HN.out]
        simp
    · have hkm : k = m := by omega
      subst hkm
      go_wp2
      go_ret
      refine ⟨⟨-1, rfl, ?_⟩, hbel.out⟩
      rw [agM_all hp.out]
      simp
theorem contLists (h : List Ev) (m B Q : Nat) (w : World) (hm5 : m < 5) (h60 : h.length ≤ 60) (hL : Lx h w B) (hQ : Q < w.heap.size) (cq : w.cell? ⟨Q, 0, none⟩ = some (.int .i64 (m : Int))) :
    Calls Tryz.prog 95 #[.slice (some ⟨B, 0, none⟩) m 5, .func (.func 92) #[] #[.pointer (some ⟨B, 0, none⟩), .pointer (some ⟨Q, 0, none⟩)]] w fun e w' => e = .returned (.bool (!agM h m m)) ∧ Below w.heap.size w w' := by
  go_enter Tryz.func95, Tryz.ntmps95
  go_wp2_with fail
  refine (idxLists h m B Q _ hm5 h60 hL hQ cq).mono ?_
  rintro e w1 ⟨⟨z, rfl, hz⟩, hb⟩
  have HZ : Hid (decide (0 ≤ z) = !agM h m m) := hz
  clear hL cq hz
  go_wp2
  go_ret
  exact ⟨ret_bool HZ.out, hb⟩

set_option maxRecDepth 100000 in
set_option maxHeartbeats 4000000 in
theorem agree_any (h : List Ev) (q0 q1 q2 q3 q4 : Option Addr) (d0 d1 d2 d3 d4 : Nat) (w : World) (h60 : h.length ≤ 60) (ha : Al5 h w q0 q1 q2 q3 q4 d0 d1 d2 d3 d4) :
    Calls Tryz.prog 65 #[.agg #[.slice q0 (ln h 0) d0, .slice q1 (ln h 1) d1, .slice q2 (ln h 2) d2, .slice q3 (ln h 3) d3, .slice q4 (ln h 4) d4]] w fun x w' => x = .returned (.bool (totB h)) ∧ Below w.heap.size w w' := by
  obtain ⟨W0, eW⟩ : ∃ W, W = w.alloc (.cells #[.slice q0 (ln h 0) d0, .slice q1 (ln h 1) d1, .slice q2 (ln h 2) d2, .slice q3 (ln h 3) d3, .slice q4 (ln h 4) d4] 122) := ⟨_, rfl⟩
  have B0 : Hid (Below w.heap.size w W0) := by
    subst eW
    exact (Below.refl _ _).alloc (Nat.le_refl _) _
  have L0 : Hid (Lx h W0 w.heap.size) := by
    have D0 : Al5 h W0 q0 q1 q2 q3 q4 d0 d1 d2 d3 d4 := Al5.later ha B0.out
    have F0 : B5 W0 w.heap.size (.slice q0 (ln h 0) d0) (.slice q1 (ln h 1) d1) (.slice q2 (ln h 2) d2) (.slice q3 (ln h 3) d3) (.slice q4 (ln h 4) d4) := by
      rw [eW]
      exact B5.new _ _ _ _ _ _ _
    refine ⟨by rw [eW]; simp, fun j hj => ?_⟩
    obtain ⟨f0, f1, f2, f3, f4⟩ := F0
    obtain ⟨g0, g1, g2, g3, g4⟩ := D0
    rcases j with _ | _ | _ | _ | _ | j
    · exact ⟨q0, d0, f0, g0.1⟩
    · exact ⟨q1, d1, f1, g1.1⟩
    · exact ⟨q2, d2, f2, g2.1⟩
    · exact ⟨q3, d3, f3, g3.1⟩
    · exact ⟨q4, d4, f4, g4.1⟩
    · omega
  clear ha
  go_enter Tryz.func65, Tryz.ntmps65
  go_wp2
  rw [← eW]
  clear eW
  go_loopw [5] (fun x wr => ∃ k : Nat, k ≤ 5 ∧ x = .int .i64 (k : Int) ∧ Hid (Below W0.heap.size W0 wr) ∧ Hid (∀ m, m < k → agM h m m = true)) (fun x _ => 5 - (intOf x).toNat)
  case atStart => exact ⟨0, by omega, rfl, Below.refl _ _, fun j hj => absurd hj (by omega)⟩
  case round =>
    obtain ⟨k, hk, rfl, hbel, hp⟩ := hrel
    by_cases hlt : k < 5
    · have hk0 : (0 : Int) ≤ (k : Int) := by omega
      have hkl : (k : Int) < 5 := by omega
      have hkl' : (k : Int) ≤ 5 := by omega
      obtain ⟨W1, eW1⟩ : ∃ W, W = wr.alloc (.cells #[.int .i64 (k : Int)] 3) := ⟨_, rfl⟩
      have B1 : Hid (Below wr.heap.size wr W1) := by
        subst eW1
        exact (Below.refl _ _).alloc (Nat.le_refl _) _
      have C1 : Hid (W1.cell? ⟨wr.heap.size, 0, none⟩ = some (.int .i64 (k : Int)) ∧ wr.heap.size < W1.heap.size) := by
        subst eW1
        exact ⟨by go_cell, by simp⟩
      have B01 : Hid (Below W0.heap.size W0 W1) := below_up rfl hbel.out B1.out
      go_wp2_with fail
      rw [← eW1]
      refine (contLists h k w.heap.size wr.heap.size _ hlt h60 (Lx.later L0.out B01.out) C1.out.2 C1.out.1).mono ?_
      rintro e w2 ⟨rfl, hb⟩
      have B02 : Hid (Below W0.heap.size W0 w2) := below_up rfl B01.out hb
      clear hb eW1
      cases hx : agM h k k with
      | true =>
        go_wp2
        go_roundw
        case rel => exact ⟨k + 1, by omega, by go_num, B02.out, up_step (p := fun m => agM h m m) hp.out hx⟩
        case measure => simp [intOf]; omega
      | false =>
        have HN : Hid (totB h = false) := by
          rw [Bool.eq_false_iff]
          intro ht
          unfold totB at ht
          rw [List.all_eq_true] at ht
          have hk' : agM h k k = true := ht k (List.mem_range.2 hlt)
          rw [hx] at hk'
          exact absurd hk' (by decide)
        go_wp2
        go_ret
        exact ⟨ret_bool HN.out.symm, below_up rfl B0.out B02.out⟩
    · have hk5 : k = 5 := by omega
      subst hk5
      have HT : Hid (totB h = true) := by
        show totB h = true
        unfold totB
        rw [List.all_eq_true]
        exact fun m hm => hp.out m (List.mem_range.1 hm)
      go_wp2
      go_ret
      exact ⟨ret_bool HT.out.symm, below_up rfl B0.out hbel.out⟩
end Go.Proofs.YtpjoaogiaacikakGreatDoor.His
