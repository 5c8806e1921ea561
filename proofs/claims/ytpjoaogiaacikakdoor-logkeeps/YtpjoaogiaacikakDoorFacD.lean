/-
  Contract of package faces' keep, with each of the two closures of Of.
-/
import Derived.Test.YtpjoaogiaacikakDoorFacC
namespace Go.Proofs.YtpjoaogiaacikakDoor.His
open Go.RowKit
open Go.Proofs.YtpjoaogiaacikakDoor.Vec

def K1 (w : World) (a : Option Addr) (len cap : Nat) (h : List Ev) (P : Nat) : Prop := Ew w a len h ∧ P < w.heap.size ∧ w.cell? ⟨P, 0, none⟩ = some (.slice a len cap)
theorem K1.later {w w' : World} {a : Option Addr} {len cap : Nat} {h : List Ev} {P : Nat} (g : K1 w a len cap h P) (hb : Below w.heap.size w w') : K1 w' a len cap h P := ⟨g.1.later hb, Nat.lt_of_lt_of_le g.2.1 hb.size, (hb.cell (p := ⟨P, 0, none⟩) g.2.1).trans g.2.2⟩
def K2 (w : World) (a : Option Addr) (len cap : Nat) (h : List Ev) (P A Q : Nat) : Prop := K1 w a len cap h Q ∧ Good h len ∧ P < w.heap.size ∧ w.cell? ⟨P, 0, none⟩ = some (.slice (some ⟨A, 0, none⟩) len len) ∧ Lw w (some ⟨A, 0, none⟩) len (rows h len)
theorem K2.later {w w' : World} {a : Option Addr} {len cap : Nat} {h : List Ev} {P A Q : Nat} (g : K2 w a len cap h P A Q) (hb : Below w.heap.size w w') : K2 w' a len cap h P A Q := ⟨K1.later g.1 hb, g.2.1, Nat.lt_of_lt_of_le g.2.2.1 hb.size, (hb.cell (p := ⟨P, 0, none⟩) g.2.2.1).trans g.2.2.2.1, g.2.2.2.2.later hb⟩
theorem of1k (a : Option Addr) (len cap : Nat) (h : List Ev) (P x y : Nat) (w : World) (hxy : x < y) (hy : y < len) (g : K1 w a len cap h P) :
    Calls Tryd.prog 24 #[.int .i64 (x : Int), .int .i64 (y : Int), .pointer (some ⟨P, 0, none⟩)] w fun e w' => e = .returned (.bool (smB h x y)) ∧ Below w.heap.size w w' := of1 a len cap h P x y w (by omega) hy g.2.2 g.1
theorem of2k (a : Option Addr) (len cap : Nat) (h : List Ev) (P A Q x y : Nat) (w : World) (hxy : x < y) (hy : y < len) (g : K2 w a len cap h P A Q) :
    Calls Tryd.prog 25 #[.int .i64 (x : Int), .int .i64 (y : Int), .pointer (some ⟨P, 0, none⟩), .pointer (some ⟨Q, 0, none⟩)] w fun e w' => e = .returned (.bool (bef h x y)) ∧ Below w.heap.size w w' := of2 a len cap h P A Q x y w (by omega) hy hxy g.2.1 g.2.2.2.1 g.1.2.2 g.1.1 g.2.2.2.2

/-- five cells of a row of slices -/
def B5 (w : World) (B : Nat) (v0 v1 v2 v3 v4 : Value) : Prop := w.cell? ⟨B, 0, none⟩ = some v0 ∧ w.cell? ⟨B, 1, none⟩ = some v1 ∧ w.cell? ⟨B, 2, none⟩ = some v2 ∧ w.cell? ⟨B, 3, none⟩ = some v3 ∧ w.cell? ⟨B, 4, none⟩ = some v4
theorem B5.later {w w' : World} {B : Nat} {v0 v1 v2 v3 v4 : Value} (g : B5 w B v0 v1 v2 v3 v4) (hB : B < w.heap.size) (hb : Below w.heap.size w w') : B5 w' B v0 v1 v2 v3 v4 :=
  ⟨(hb.cell (p := ⟨B, 0, none⟩) hB).trans g.1, (hb.cell (p := ⟨B, 1, none⟩) hB).trans g.2.1, (hb.cell (p := ⟨B, 2, none⟩) hB).trans g.2.2.1, (hb.cell (p := ⟨B, 3, none⟩) hB).trans g.2.2.2.1, (hb.cell (p := ⟨B, 4, none⟩) hB).trans g.2.2.2.2⟩
/-- three cells of an event -/
def E3 (w : World) (B : Nat) (x0 x1 x2 : Int) : Prop := w.cell? ⟨B, 0, none⟩ = some (.int .i64 x0) ∧ w.cell? ⟨B, 1, none⟩ = some (.int .i64 x1) ∧ w.cell? ⟨B, 2, none⟩ = some (.int .i64 x2)
theorem E3.later {w w' : World} {B : Nat} {x0 x1 x2 : Int} (g : E3 w B x0 x1 x2) (hB : B < w.heap.size) (hb : Below w.heap.size w w') : E3 w' B x0 x1 x2 :=
  ⟨(hb.cell (p := ⟨B, 0, none⟩) hB).trans g.1, (hb.cell (p := ⟨B, 1, none⟩) hB).trans g.2.1, (hb.cell (p := ⟨B, 2, none⟩) hB).trans g.2.2⟩
theorem E3.new (w : World) (x0 x1 x2 : Int) (t : TypeId) : E3 (w.alloc (.cells #[.int .i64 x0, .int .i64 x1, .int .i64 x2] t)) w.heap.size x0 x1 x2 := by
  refine ⟨?_, ?_, ?_⟩ <;> go_cell
theorem B5.new (w : World) (v0 v1 v2 v3 v4 : Value) (t : TypeId) : B5 (w.alloc (.cells #[v0, v1, v2, v3, v4] t)) w.heap.size v0 v1 v2 v3 v4 := by
  refine ⟨?_, ?_, ?_, ?_, ?_⟩ <;> go_cell

theorem kp1_a {h : List Ev} {p : Nat → Nat → Bool} {i k : Nat} (hk : (ev h k).2.1 ≠ 2) : kp1 h p i k = true := by simp [kp1, hk]
theorem kp1_b {h : List Ev} {p : Nat → Nat → Bool} {i k : Nat} (hi : (ev h i).2.1 ≠ 2) : kp1 h p i k = true := by simp [kp1, hi]
theorem kp1_c {h : List Ev} {p : Nat → Nat → Bool} {i k : Nat} (hp : p i k = false) : kp1 h p i k = true := by simp [kp1, hp]
theorem kp1_d {h : List Ev} {p : Nat → Nat → Bool} {i k : Nat} (hi : (ev h i).2.1 = 2) (hk : (ev h k).2.1 = 2) (hp : p i k = true) : kp1 h p i k = hv5 h (ev h i) (ev h k) := by simp [kp1, hp, hi, hk]
theorem keep_all {h : List Ev} {p : Nat → Nat → Bool} (hx : ∀ k, k < h.length → ∀ i, i < k → kp1 h p i k = true) : keepB h p = true := by
  unfold keepB
  simp only [List.all_eq_true, List.mem_range]
  exact hx
theorem keep_not {h : List Ev} {p : Nat → Nat → Bool} {i k : Nat} (hk : k < h.length) (hi : i < k) (hn : kp1 h p i k = false) : keepB h p = false := by
  rw [Bool.eq_false_iff]
  intro hx
  unfold keepB at hx
  simp only [List.all_eq_true, List.mem_range] at hx
  rw [hx k hk i hi] at hn
  exact absurd hn (by decide)
theorem up_step {p : Nat → Bool} {k : Nat} (hp : ∀ j, j < k → p j = true) (hk : p k = true) : ∀ j, j < k + 1 → p j = true := by
  intro j hj
  rcases Nat.lt_or_ge j k with a | a
  · exact hp j a
  · obtain rfl : j = k := by omega
    exact hk
theorem up_row {p : Nat → Nat → Bool} {k : Nat} (hp : ∀ k', k' < k → ∀ i, i < k' → p i k' = true) (hk : ∀ i, i < k → p i k = true) : ∀ k', k' < k + 1 → ∀ i, i < k' → p i k' = true := by
  intro j hj
  rcases Nat.lt_or_ge j k with a | a
  · exact hp j a
  · obtain rfl : j = k := by omega
    exact hk

set_option maxRecDepth 100000 in
set_option maxHeartbeats 8000000 in
theorem keep1 (a : Option Addr) (len cap : Nat) (h : List Ev) (P : Nat) (q0 q1 q2 q3 q4 : Option Addr) (d0 d1 d2 d3 d4 : Nat) (w : World) (h60 : len ≤ 60) (hlc : len ≤ cap) (hm : cap ≤ maxLen) (hk : K1 w a len cap h P) (ha : Al5 h w q0 q1 q2 q3 q4 d0 d1 d2 d3 d4) :
    Calls Tryd.prog 27 #[.agg #[.slice q0 (ln h 0) d0, .slice q1 (ln h 1) d1, .slice q2 (ln h 2) d2, .slice q3 (ln h 3) d3, .slice q4 (ln h 4) d4], .slice a len cap, .func (.func 24) #[] #[.pointer (some ⟨P, 0, none⟩)]] w fun x w' => x = .returned (.bool (keepB h (smB h))) ∧ Below w.heap.size w w' := by
  unfold maxLen at hm
  obtain ⟨W0, eW⟩ : ∃ W, W = w.alloc (.cells #[.slice q0 (ln h 0) d0, .slice q1 (ln h 1) d1, .slice q2 (ln h 2) d2, .slice q3 (ln h 3) d3, .slice q4 (ln h 4) d4] 59) := ⟨_, rfl⟩
  have B0 : Hid (Below w.heap.size w W0) := by
    subst eW
    exact (Below.refl _ _).alloc (Nat.le_refl _) _
  have D0 : Hid (Al5 h W0 q0 q1 q2 q3 q4 d0 d1 d2 d3 d4) := Al5.later ha B0.out
  have K0 : Hid (K1 W0 a len cap h P) := K1.later hk B0.out
  have F0 : Hid (B5 W0 w.heap.size (.slice q0 (ln h 0) d0) (.slice q1 (ln h 1) d1) (.slice q2 (ln h 2) d2) (.slice q3 (ln h 3) d3) (.slice q4 (ln h 4) d4) ∧ w.heap.size < W0.heap.size) := by
    subst eW
    exact ⟨B5.new _ _ _ _ _ _ _, by simp⟩
  have HL : Hid (h.length = len) := hk.1.1
  clear ha hk
  go_enter Tryd.func27, Tryd.ntmps27
  go_wp2
  rw [← eW]
  clear eW
  go_loopw [13] (fun x wr => ∃ k : Nat, k ≤ len ∧ x = .int .i64 (k : Int) ∧ Hid (Below W0.heap.size W0 wr) ∧ Hid (∀ k', k' < k → ∀ i, i < k' → kp1 h (smB h) i k' = true)) (fun x _ => len - (intOf x).toNat)
  case atStart => exact ⟨0, by omega, rfl, Below.refl _ _, fun j hj => absurd hj (by omega)⟩
  case round =>
    obtain ⟨k, hk, rfl, hbel, hp⟩ := hrel
    by_cases hlt : k < len
    · have KW : Hid (K1 wr a len cap h P) := K1.later K0.out hbel.out
      obtain ⟨b, off, rfl, hpb, hcs⟩ := KW.out.1.2 (by omega)
      obtain ⟨c0, c1, c2⟩ := hcs k hlt
      obtain ⟨s, es⟩ : ∃ s, s = ev h k := ⟨_, rfl⟩
      rw [← es] at c0 c1 c2
      obtain ⟨s0, s1, s2⟩ := s
      have ES : Hid _ := es
      have hk0 : (0 : Int) ≤ (k : Int) := by omega
      have hkl : (k : Int) < (len : Int) := by omega
      have hkc : (k : Int) ≤ (cap : Int) := by omega
      obtain ⟨W1, eW1⟩ : ∃ W, W = wr.alloc (.cells #[.int .i64 s0, .int .i64 s1, .int .i64 s2] 28) := ⟨_, rfl⟩
      have B1 : Hid (Below wr.heap.size wr W1) := by
        subst eW1
        exact (Below.refl _ _).alloc (Nat.le_refl _) _
      have E1 : Hid (E3 W1 wr.heap.size s0 s1 s2 ∧ wr.heap.size < W1.heap.size) := by
        subst eW1
        exact ⟨E3.new _ _ _ _ _, by simp⟩
      clear hcs es hpb
      by_cases g1 : s1 = 2
      · subst g1
        have B01 : Hid (Below W0.heap.size W0 W1) := below_up rfl hbel.out B1.out
        go_wp2
        rw [← eW1]
        clear eW1 c0 c1 c2
        obtain ⟨Wr, eWr⟩ : ∃ W, W = wr := ⟨_, rfl⟩
        subst eWr
        go_loopw [25] (fun x wi => ∃ i : Nat, i ≤ k ∧ x = .int .i64 (i : Int) ∧ Hid (Below W1.heap.size W1 wi) ∧ Hid (∀ j, j < i → kp1 h (smB h) j k = true)) (fun x _ => k - (intOf x).toNat)
        case atStart => exact ⟨0, by omega, rfl, Below.refl _ _, fun j hj => absurd hj (by omega)⟩
        case round =>
          obtain ⟨i, hi, rfl, hbi, hpi⟩ := hrel
          by_cases hlti : i < k
          · have B0i : Hid (Below W0.heap.size W0 wr) := below_up rfl B01.out hbi.out
            have KW : Hid (K1 wr (some ⟨b, off, none⟩) len cap h P) := K1.later K0.out B0i.out
            obtain ⟨_, _, e, -, hcs⟩ := KW.out.1.2 (by omega)
            cases e
            obtain ⟨c0, c1, c2⟩ := hcs i (by omega)
            obtain ⟨t, et⟩ : ∃ t, t = ev h i := ⟨_, rfl⟩
            rw [← et] at c0 c1 c2
            obtain ⟨t0, t1, t2⟩ := t
            have ET : Hid _ := et
            have hi0 : (0 : Int) ≤ (i : Int) := by omega
            have hil : (i : Int) < (k : Int) := by omega
            obtain ⟨W2, eW2⟩ : ∃ W, W = wr.alloc (.cells #[.int .i64 t0, .int .i64 t1, .int .i64 t2] 28) := ⟨_, rfl⟩
            have B2 : Hid (Below wr.heap.size wr W2) := by
              subst eW2
              exact (Below.refl _ _).alloc (Nat.le_refl _) _
            have E2 : Hid (E3 W2 wr.heap.size t0 t1 t2 ∧ wr.heap.size < W2.heap.size) := by
              subst eW2
              exact ⟨E3.new _ _ _ _ _, by simp⟩
            have B12 : Hid (Below W1.heap.size W1 W2) := below_up rfl hbi.out B2.out
            clear hcs et
            by_cases g2 : t1 = 2
            · subst g2
              have hLT : Hid (i < k ∧ k < len) := ⟨hlti, hlt⟩
              go_wp2_with fail
              rw [← eW2]
              refine (of1k (some ⟨b, off, none⟩) len cap h P i k _ hLT.out.1 hLT.out.2 (K1.later KW.out B2.out)).mono ?_
              rintro e w3 ⟨rfl, hb⟩
              have B3 : Hid (Below W2.heap.size W2 w3) := hb
              have B13 : Hid (Below W1.heap.size W1 w3) := below_up rfl B12.out hb
              obtain ⟨m0, m1, m2⟩ := E3.later E2.out.1 E2.out.2 hb
              obtain ⟨n0, n1, n2⟩ := E3.later E1.out.1 E1.out.2 B13.out
              obtain ⟨f0, f1, f2, f3, f4⟩ := B5.later F0.out.1 F0.out.2 (below_up rfl B01.out B13.out)
              have D3 : Hid (Al5 h w3 q0 q1 q2 q3 q4 d0 d1 d2 d3 d4) := Al5.later D0.out (below_up rfl B01.out B13.out)
              clear hb eW2 c0 c1 c2
              cases hpx : smB h i k with
              | false =>
                go_wp2
                go_roundw
                case rel => exact ⟨i + 1, by omega, by go_num, B13.out, up_step (p := fun j => kp1 h (smB h) j k) hpi.out (kp1_c hpx)⟩
                case measure => simp [intOf]; omega
              | true =>
                have HK : Hid (kp1 h (smB h) i k = hv5 h (t0, 2, t2) (s0, 2, s2)) := by
                  have e1 : (ev h i).2.1 = 2 := by rw [← ET.out]
                  have e2 : (ev h k).2.1 = 2 := by rw [← ES.out]
                  show _ = _
                  rw [kp1_d e1 e2 hpx, ET.out, ES.out]
                go_wp2_with fail
                refine (have_any h q0 q1 q2 q3 q4 d0 d1 d2 d3 d4 t0 2 t2 s0 2 s2 _ D3.out).mono ?_
                rintro e w4 ⟨rfl, hb⟩
                have B14 : Hid (Below W1.heap.size W1 w4) := below_up rfl B13.out hb
                clear hb m0 m1 m2 n0 n1 n2 f0 f1 f2 f3 f4
                cases hvx : hv5 h (t0, 2, t2) (s0, 2, s2) with
                | true =>
                  go_wp2
                  go_roundw
                  case rel => exact ⟨i + 1, by omega, by go_num, B14.out, up_step (p := fun j => kp1 h (smB h) j k) hpi.out (HK.out.trans hvx)⟩
                  case measure => simp [intOf]; omega
                | false =>
                  have HN : Hid (keepB h (smB h) = false) := keep_not (by rw [HL.out]; exact hLT.out.2) hLT.out.1 (HK.out.trans hvx)
                  go_wp2
                  go_ret
                  exact ⟨ret_bool HN.out.symm, below_up rfl B0.out (below_up rfl B01.out B14.out)⟩
            · have g2' : (t1 == 2) = false := by simp [g2]
              have HK : Hid (kp1 h (smB h) i k = true) := kp1_b (by rw [← ET.out]; exact g2)
              go_wp2
              rw [← eW2]
              go_roundw
              case rel => exact ⟨i + 1, by omega, by go_num, B12.out, up_step (p := fun j => kp1 h (smB h) j k) hpi.out HK.out⟩
              case measure => simp [intOf]; omega
          · have hik : i = k := by omega
            subst hik
            go_wp2
            go_roundw
            case rel => exact ⟨i + 1, by omega, by go_num, below_up rfl B01.out hbi.out, up_row hp.out hpi.out⟩
            case measure => simp [intOf]; omega
      · have g1' : (s1 != 2) = true := by rw [bne_iff_ne]; exact g1
        have HK : Hid (∀ i, i < k → kp1 h (smB h) i k = true) := fun i _ => kp1_a (by rw [← ES.out]; exact g1)
        go_wp2
        rw [← eW1]
        go_roundw
        case rel => exact ⟨k + 1, by omega, by go_num, below_up rfl hbel.out B1.out, up_row hp.out HK.out⟩
        case measure => simp [intOf]; omega
    · have hkl : k = len := by omega
      subst hkl
      go_wp2
      go_ret
      exact ⟨ret_bool (keep_all (by rw [HL.out]; exact hp.out)).symm, below_up rfl B0.out hbel.out⟩

set_option maxRecDepth 100000 in
set_option maxHeartbeats 8000000 in
theorem keep2 (a : Option Addr) (len cap : Nat) (h : List Ev) (P A Q : Nat) (q0 q1 q2 q3 q4 : Option Addr) (d0 d1 d2 d3 d4 : Nat) (w : World) (h60 : len ≤ 60) (hlc : len ≤ cap) (hm : cap ≤ maxLen) (hk : K2 w a len cap h P A Q) (ha : Al5 h w q0 q1 q2 q3 q4 d0 d1 d2 d3 d4) :
    Calls Tryd.prog 27 #[.agg #[.slice q0 (ln h 0) d0, .slice q1 (ln h 1) d1, .slice q2 (ln h 2) d2, .slice q3 (ln h 3) d3, .slice q4 (ln h 4) d4], .slice a len cap, .func (.func 25) #[] #[.pointer (some ⟨P, 0, none⟩), .pointer (some ⟨Q, 0, none⟩)]] w fun x w' => x = .returned (.bool (keepB h (bef h))) ∧ Below w.heap.size w w' := by
  unfold maxLen at hm
  obtain ⟨W0, eW⟩ : ∃ W, W = w.alloc (.cells #[.slice q0 (ln h 0) d0, .slice q1 (ln h 1) d1, .slice q2 (ln h 2) d2, .slice q3 (ln h 3) d3, .slice q4 (ln h 4) d4] 59) := ⟨_, rfl⟩
  have B0 : Hid (Below w.heap.size w W0) := by
    subst eW
    exact (Below.refl _ _).alloc (Nat.le_refl _) _
  have D0 : Hid (Al5 h W0 q0 q1 q2 q3 q4 d0 d1 d2 d3 d4) := Al5.later ha B0.out
  have K0 : Hid (K2 W0 a len cap h P A Q) := K2.later hk B0.out
  have F0 : Hid (B5 W0 w.heap.size (.slice q0 (ln h 0) d0) (.slice q1 (ln h 1) d1) (.slice q2 (ln h 2) d2) (.slice q3 (ln h 3) d3) (.slice q4 (ln h 4) d4) ∧ w.heap.size < W0.heap.size) := by
    subst eW
    exact ⟨B5.new _ _ _ _ _ _ _, by simp⟩
  have HL : Hid (h.length = len) := hk.1.1.1
  clear ha hk
  go_enter Tryd.func27, Tryd.ntmps27
  go_wp2
  rw [← eW]
  clear eW
  go_loopw [13] (fun x wr => ∃ k : Nat, k ≤ len ∧ x = .int .i64 (k : Int) ∧ Hid (Below W0.heap.size W0 wr) ∧ Hid (∀ k', k' < k → ∀ i, i < k' → kp1 h (bef h) i k' = true)) (fun x _ => len - (intOf x).toNat)
  case atStart => exact ⟨0, by omega, rfl, Below.refl _ _, fun j hj => absurd hj (by omega)⟩
  case round =>
    obtain ⟨k, hk, rfl, hbel, hp⟩ := hrel
    by_cases hlt : k < len
    · have KW : Hid (K2 wr a len cap h P A Q) := K2.later K0.out hbel.out
      obtain ⟨b, off, rfl, hpb, hcs⟩ := KW.out.1.1.2 (by omega)
      obtain ⟨c0, c1, c2⟩ := hcs k hlt
      obtain ⟨s, es⟩ : ∃ s, s = ev h k := ⟨_, rfl⟩
      rw [← es] at c0 c1 c2
      obtain ⟨s0, s1, s2⟩ := s
      have ES : Hid _ := es
      have hk0 : (0 : Int) ≤ (k : Int) := by omega
      have hkl : (k : Int) < (len : Int) := by omega
      have hkc : (k : Int) ≤ (cap : Int) := by omega
      obtain ⟨W1, eW1⟩ : ∃ W, W = wr.alloc (.cells #[.int .i64 s0, .int .i64 s1, .int .i64 s2] 28) := ⟨_, rfl⟩
      have B1 : Hid (Below wr.heap.size wr W1) := by
        subst eW1
        exact (Below.refl _ _).alloc (Nat.le_refl _) _
      have E1 : Hid (E3 W1 wr.heap.size s0 s1 s2 ∧ wr.heap.size < W1.heap.size) := by
        subst eW1
        exact ⟨E3.new _ _ _ _ _, by simp⟩
      clear hcs es hpb
      by_cases g1 : s1 = 2
      · subst g1
        have B01 : Hid (Below W0.heap.size W0 W1) := below_up rfl hbel.out B1.out
        go_wp2
        rw [← eW1]
        clear eW1 c0 c1 c2
        obtain ⟨Wr, eWr⟩ : ∃ W, W = wr := ⟨_, rfl⟩
        subst eWr
        go_loopw [25] (fun x wi => ∃ i : Nat, i ≤ k ∧ x = .int .i64 (i : Int) ∧ Hid (Below W1.heap.size W1 wi) ∧ Hid (∀ j, j < i → kp1 h (bef h) j k = true)) (fun x _ => k - (intOf x).toNat)
        case atStart => exact ⟨0, by omega, rfl, Below.refl _ _, fun j hj => absurd hj (by omega)⟩
        case round =>
          obtain ⟨i, hi, rfl, hbi, hpi⟩ := hrel
          by_cases hlti : i < k
          · have B0i : Hid (Below W0.heap.size W0 wr) := below_up rfl B01.out hbi.out
            have KW : Hid (K2 wr (some ⟨b, off, none⟩) len cap h P A Q) := K2.later K0.out B0i.out
            obtain ⟨_, _, e, -, hcs⟩ := KW.out.1.1.2 (by omega)
            cases e
            obtain ⟨c0, c1, c2⟩ := hcs i (by omega)
            obtain ⟨t, et⟩ : ∃ t, t = ev h i := ⟨_, rfl⟩
            rw [← et] at c0 c1 c2
            obtain ⟨t0, t1, t2⟩ := t
            have ET : Hid _ := et
            have hi0 : (0 : Int) ≤ (i : Int) := by omega
            have hil : (i : Int) < (k : Int) := by omega
            obtain ⟨W2, eW2⟩ : ∃ W, W = wr.alloc (.cells #[.int .i64 t0, .int .i64 t1, .int .i64 t2] 28) := ⟨_, rfl⟩
            have B2 : Hid (Below wr.heap.size wr W2) := by
              subst eW2
              exact (Below.refl _ _).alloc (Nat.le_refl _) _
            have E2 : Hid (E3 W2 wr.heap.size t0 t1 t2 ∧ wr.heap.size < W2.heap.size) := by
              subst eW2
              exact ⟨E3.new _ _ _ _ _, by simp⟩
            have B12 : Hid (Below W1.heap.size W1 W2) := below_up rfl hbi.out B2.out
            clear hcs et
            by_cases g2 : t1 = 2
            · subst g2
              have hLT : Hid (i < k ∧ k < len) := ⟨hlti, hlt⟩
              go_wp2_with fail
              rw [← eW2]
              refine (of2k (some ⟨b, off, none⟩) len cap h P A Q i k _ hLT.out.1 hLT.out.2 (K2.later KW.out B2.out)).mono ?_
              rintro e w3 ⟨rfl, hb⟩
              have B3 : Hid (Below W2.heap.size W2 w3) := hb
              have B13 : Hid (Below W1.heap.size W1 w3) := below_up rfl B12.out hb
              obtain ⟨m0, m1, m2⟩ := E3.later E2.out.1 E2.out.2 hb
              obtain ⟨n0, n1, n2⟩ := E3.later E1.out.1 E1.out.2 B13.out
              obtain ⟨f0, f1, f2, f3, f4⟩ := B5.later F0.out.1 F0.out.2 (below_up rfl B01.out B13.out)
              have D3 : Hid (Al5 h w3 q0 q1 q2 q3 q4 d0 d1 d2 d3 d4) := Al5.later D0.out (below_up rfl B01.out B13.out)
              clear hb eW2 c0 c1 c2
              cases hpx : bef h i k with
              | false =>
                go_wp2
                go_roundw
                case rel => exact ⟨i + 1, by omega, by go_num, B13.out, up_step (p := fun j => kp1 h (bef h) j k) hpi.out (kp1_c hpx)⟩
                case measure => simp [intOf]; omega
              | true =>
                have HK : Hid (kp1 h (bef h) i k = hv5 h (t0, 2, t2) (s0, 2, s2)) := by
                  have e1 : (ev h i).2.1 = 2 := by rw [← ET.out]
                  have e2 : (ev h k).2.1 = 2 := by rw [← ES.out]
                  show _ = _
                  rw [kp1_d e1 e2 hpx, ET.out, ES.out]
                go_wp2_with fail
                refine (have_any h q0 q1 q2 q3 q4 d0 d1 d2 d3 d4 t0 2 t2 s0 2 s2 _ D3.out).mono ?_
                rintro e w4 ⟨rfl, hb⟩
                have B14 : Hid (Below W1.heap.size W1 w4) := below_up rfl B13.out hb
                clear hb m0 m1 m2 n0 n1 n2 f0 f1 f2 f3 f4
                cases hvx : hv5 h (t0, 2, t2) (s0, 2, s2) with
                | true =>
                  go_wp2
                  go_roundw
                  case rel => exact ⟨i + 1, by omega, by go_num, B14.out, up_step (p := fun j => kp1 h (bef h) j k) hpi.out (HK.out.trans hvx)⟩
                  case measure => simp [intOf]; omega
                | false =>
                  have HN : Hid (keepB h (bef h) = false) := keep_not (by rw [HL.out]; exact hLT.out.2) hLT.out.1 (HK.out.trans hvx)
                  go_wp2
                  go_ret
                  exact ⟨ret_bool HN.out.symm, below_up rfl B0.out (below_up rfl B01.out B14.out)⟩
            · have g2' : (t1 == 2) = false := by simp [g2]
              have HK : Hid (kp1 h (bef h) i k = true) := kp1_b (by rw [← ET.out]; exact g2)
              go_wp2
              rw [← eW2]
              go_roundw
              case rel => exact ⟨i + 1, by omega, by go_num, B12.out, up_step (p := fun j => kp1 h (bef h) j k) hpi.out HK.out⟩
              case measure => simp [intOf]; omega
          · have hik : i = k := by omega
            subst hik
            go_wp2
            go_roundw
            case rel => exact ⟨i + 1, by omega, by go_num, below_up rfl B01.out hbi.out, up_row hp.out hpi.out⟩
            case measure => simp [intOf]; omega
      · have g1' : (s1 != 2) = true := by rw [bne_iff_ne]; exact g1
        have HK : Hid (∀ i, i < k → kp1 h (bef h) i k = true) := fun i _ => kp1_a (by rw [← ES.out]; exact g1)
        go_wp2
        rw [← eW1]
        go_roundw
        case rel => exact ⟨k + 1, by omega, by go_num, below_up rfl hbel.out B1.out, up_row hp.out HK.out⟩
        case measure => simp [intOf]; omega
    · have hkl : k = len := by omega
      subst hkl
      go_wp2
      go_ret
      exact ⟨ret_bool (keep_all (by rw [HL.out]; exact hp.out)).symm, below_up rfl B0.out hbel.out⟩
end Go.Proofs.YtpjoaogiaacikakDoor.His
