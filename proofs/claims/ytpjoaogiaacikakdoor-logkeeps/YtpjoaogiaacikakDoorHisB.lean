/-
  Contracts of package history's checkNext and Check: which event is wrong, and how.
-/
import Derived.Test.YtpjoaogiaacikakDoorHisA
namespace Go.Proofs.YtpjoaogiaacikakDoor.His
open Go.RowKit

theorem next_cases (p : List Ev) (e : Ev) :
    (isOne e = false ∧ next p e = 1) ∨ (isOne e = true ∧ e.2.1 = 2 ∧ p.any (says e.2.2) = true ∧ next p e = 7) ∨ (isOne e = true ∧ e.2.1 = 2 ∧ p.any (says e.2.2) = false ∧ next p e = 0) ∨
    (isOne e = true ∧ e.2.1 = 1 ∧ next p e = 0) ∨
    (isOne e = true ∧ e.2.1 = 3 ∧ p.any (fun y => y == e) = true ∧ next p e = 7) ∨
    (isOne e = true ∧ e.2.1 = 3 ∧ p.any (fun y => y == e) = false ∧ p.any (says e.2.2) = false ∧ next p e = 5) ∨
    (isOne e = true ∧ e.2.1 = 3 ∧ p.any (fun y => y == e) = false ∧ p.any (says e.2.2) = true ∧ p.any (fun y => y == (e.1, 2, e.2.2)) = true ∧ next p e = 3) ∨
    (isOne e = true ∧ e.2.1 = 3 ∧ p.any (fun y => y == e) = false ∧ p.any (says e.2.2) = true ∧ p.any (fun y => y == (e.1, 2, e.2.2)) = false ∧ next p e = 0) := by
  unfold next
  cases h0 : isOne e with
  | false => exact .inl ⟨rfl, rfl⟩
  | true =>
    right
    rcases isOne_what h0 with ⟨h1, _⟩ | ⟨h2 | h3, _⟩
    · refine .inr (.inr (.inl ⟨rfl, h1, ?_⟩))
      simp [h1]
    · cases hs : p.any (says e.2.2) with
      | true => exact .inl ⟨rfl, h2, rfl, by simp [h2]⟩
      | false => exact .inr (.inl ⟨rfl, h2, rfl, by simp [h2]⟩)
    · cases hc : p.any (fun y => y == e) with
      | true => exact .inr (.inr (.inr (.inl ⟨rfl, h3, rfl, by simp [h3]⟩)))
      | false =>
        cases hs : p.any (says e.2.2) with
        | false => exact .inr (.inr (.inr (.inr (.inl ⟨rfl, h3, rfl, rfl, by simp [h3]⟩))))
        | true =>
          cases hd : p.any (fun y => y == (e.1, 2, e.2.2)) with
          | true => exact .inr (.inr (.inr (.inr (.inr (.inl ⟨rfl, h3, rfl, rfl, rfl, by simp [h3]⟩)))))
          | false => exact .inr (.inr (.inr (.inr (.inr (.inr ⟨rfl, h3, rfl, rfl, rfl, by simp [h3]⟩)))))

/-- an event in a variable of the call's own -/
def Bx (w : World) (B : Nat) (x0 x1 x2 : Int) : Prop := B < w.heap.size ∧ w.cell? ⟨B, 0, none⟩ = some (.int .i64 x0) ∧ w.cell? ⟨B, 1, none⟩ = some (.int .i64 x1) ∧ w.cell? ⟨B, 2, none⟩ = some (.int .i64 x2)
theorem Bx.later {w w' : World} {B : Nat} {x0 x1 x2 : Int} (h : Bx w B x0 x1 x2) (hb : Below w.heap.size w w') : Bx w' B x0 x1 x2 :=
  ⟨Nat.lt_of_lt_of_le h.1 hb.size, (hb.cell (p := ⟨B, 0, none⟩) h.1).trans h.2.1, (hb.cell (p := ⟨B, 1, none⟩) h.1).trans h.2.2.1, (hb.cell (p := ⟨B, 2, none⟩) h.1).trans h.2.2.2⟩
theorem Bx.lit (w : World) (x0 x1 x2 : Int) (t : TypeId) : Bx (w.alloc (.cells #[.int .i64 x0, .int .i64 x1, .int .i64 x2] t)) w.heap.size x0 x1 x2 := by
  refine ⟨by simp, ?_, ?_, ?_⟩ <;> simp

set_option maxRecDepth 100000 in
theorem checkNext_any (a : Option Addr) (len cap : Nat) (p : List Ev) (x0 x1 x2 : Int) (w : World) (hm : len ≤ maxLen) (hv : Ew w a len p) :
    Calls Tryd.prog 29 #[.slice a len cap, .agg #[.int .i64 x0, .int .i64 x1, .int .i64 x2]] w fun x w' => x = .returned (errV (next p (x0, x1, x2))) ∧ Below w.heap.size w w' := by
  rcases next_cases p (x0, x1, x2) with ⟨h0, hn⟩ | ⟨h0, h2, hs, hn⟩ | ⟨h0, h2, hs, hn⟩ | ⟨h0, h1, hn⟩ | ⟨h0, h3, hc, hn⟩ | ⟨h0, h3, hc, hs, hn⟩ | ⟨h0, h3, hc, hs, hd, hn⟩ | ⟨h0, h3, hc, hs, hd, hn⟩
  · rw [hn]
    have HV : Hid (Ew w a len p) := hv
    clear hv hn
    go_enter Tryd.func29, Tryd.ntmps29
    go_wp2_with fail
    have b1 := (Below.refl w.heap.size w).alloc (Nat.le_refl _) (.cells #[.int .i64 x0, .int .i64 x1, .int .i64 x2] 28)
    have bx := Bx.lit w x0 x1 x2 28
    refine (one1 x0 x1 x2 _).mono ?_
    rintro e w1 ⟨rfl, hb⟩
    rw [h0]
    have V1 : Hid (Below w.heap.size w w1) := below_up rfl b1 hb
    have X1 : Hid (Bx w1 w.heap.size x0 x1 x2) := bx.later hb
    clear hb bx b1
    go_wp2
    go_ret
    exact ⟨rfl, V1.out⟩
  · subst h2
    rw [hn]
    have HV : Hid (Ew w a len p) := hv
    clear hv hn
    go_enter Tryd.func29, Tryd.ntmps29
    go_wp2_with fail
    have b1 := (Below.refl w.heap.size w).alloc (Nat.le_refl _) (.cells #[.int .i64 x0, .int .i64 2, .int .i64 x2] 28)
    have bx := Bx.lit w x0 2 x2 28
    refine (one1 x0 2 x2 _).mono ?_
    rintro e w1 ⟨rfl, hb⟩
    rw [h0]
    have V1 : Hid (Below w.heap.size w w1) := below_up rfl b1 hb
    have X1 : Hid (Bx w1 w.heap.size x0 2 x2) := bx.later hb
    clear hb bx b1
    obtain ⟨_, c0, c1, c2⟩ := X1.out
    go_wp2_with fail
    refine (says0 x2 _).mono ?_
    rintro e w2 ⟨rfl, e2⟩
    have b2 : Below w1.heap.size w1 w2 := by rw [e2]; exact (Below.refl _ _).alloc (Nat.le_refl _) _
    have B2 : Hid (Below w1.heap.size w1 w2) := b2
    have k2 : w2.cell? ⟨w1.heap.size, 0, none⟩ = some (.int .i64 x2) := by rw [e2]; simp
    have K2 : Hid (w2.cell? ⟨w1.heap.size, 0, none⟩ = some (.int .i64 x2)) := k2
    have V2 : Hid (Below w.heap.size w w2) := below_up rfl V1.out b2
    have X2 : Hid (Bx w2 w.heap.size x0 2 x2) := X1.out.later b2
    clear e2 b2 k2 c0 c1 c2
    go_wp2_with fail
    refine (contFunc a len cap p x2 w1.heap.size _ hm (HV.out.later V2.out) (block_lt_of_cell K2.out) K2.out).mono ?_
    rintro e w3 ⟨rfl, b3⟩
    rw [hs]
    have V3 : Hid (Below w.heap.size w w3) := below_up rfl V2.out b3
    have X3 : Hid (Bx w3 w.heap.size x0 2 x2) := X2.out.later b3
    obtain ⟨_, c0, c1, c2⟩ := X3.out
    clear b3 V1 X1 V2 X2 B2 K2
    go_wp2
    go_ret
    exact ⟨rfl, V3.out⟩
  · subst h2
    rw [hn]
    have HV : Hid (Ew w a len p) := hv
    clear hv hn
    go_enter Tryd.func29, Tryd.ntmps29
    go_wp2_with fail
    have b1 := (Below.refl w.heap.size w).alloc (Nat.le_refl _) (.cells #[.int .i64 x0, .int .i64 2, .int .i64 x2] 28)
    have bx := Bx.lit w x0 2 x2 28
    refine (one1 x0 2 x2 _).mono ?_
    rintro e w1 ⟨rfl, hb⟩
    rw [h0]
    have V1 : Hid (Below w.heap.size w w1) := below_up rfl b1 hb
    have X1 : Hid (Bx w1 w.heap.size x0 2 x2) := bx.later hb
    clear hb bx b1
    obtain ⟨_, c0, c1, c2⟩ := X1.out
    go_wp2_with fail
    refine (says0 x2 _).mono ?_
    rintro e w2 ⟨rfl, e2⟩
    have b2 : Below w1.heap.size w1 w2 := by rw [e2]; exact (Below.refl _ _).alloc (Nat.le_refl _) _
    have B2 : Hid (Below w1.heap.size w1 w2) := b2
    have k2 : w2.cell? ⟨w1.heap.size, 0, none⟩ = some (.int .i64 x2) := by rw [e2]; simp
    have K2 : Hid (w2.cell? ⟨w1.heap.size, 0, none⟩ = some (.int .i64 x2)) := k2
    have V2 : Hid (Below w.heap.size w w2) := below_up rfl V1.out b2
    have X2 : Hid (Bx w2 w.heap.size x0 2 x2) := X1.out.later b2
    clear e2 b2 k2 c0 c1 c2
    go_wp2_with fail
    refine (contFunc a len cap p x2 w1.heap.size _ hm (HV.out.later V2.out) (block_lt_of_cell K2.out) K2.out).mono ?_
    rintro e w3 ⟨rfl, b3⟩
    rw [hs]
    have V3 : Hid (Below w.heap.size w w3) := below_up rfl V2.out b3
    have X3 : Hid (Bx w3 w.heap.size x0 2 x2) := X2.out.later b3
    obtain ⟨_, c0, c1, c2⟩ := X3.out
    clear b3 V1 X1 V2 X2 B2 K2
    go_wp2
    go_ret
    exact ⟨rfl, V3.out⟩
  · subst h1
    rw [hn]
    have HV : Hid (Ew w a len p) := hv
    clear hv hn
    go_enter Tryd.func29, Tryd.ntmps29
    go_wp2_with fail
    have b1 := (Below.refl w.heap.size w).alloc (Nat.le_refl _) (.cells #[.int .i64 x0, .int .i64 1, .int .i64 x2] 28)
    have bx := Bx.lit w x0 1 x2 28
    refine (one1 x0 1 x2 _).mono ?_
    rintro e w1 ⟨rfl, hb⟩
    rw [h0]
    have V1 : Hid (Below w.heap.size w w1) := below_up rfl b1 hb
    have X1 : Hid (Bx w1 w.heap.size x0 1 x2) := bx.later hb
    clear hb bx b1
    generalize hq : p.any (says x2) = q
    obtain ⟨_, c0, c1, c2⟩ := X1.out
    go_wp2_with fail
    refine (says0 x2 _).mono ?_
    rintro e w2 ⟨rfl, e2⟩
    have b2 : Below w1.heap.size w1 w2 := by rw [e2]; exact (Below.refl _ _).alloc (Nat.le_refl _) _
    have B2 : Hid (Below w1.heap.size w1 w2) := b2
    have k2 : w2.cell? ⟨w1.heap.size, 0, none⟩ = some (.int .i64 x2) := by rw [e2]; simp
    have K2 : Hid (w2.cell? ⟨w1.heap.size, 0, none⟩ = some (.int .i64 x2)) := k2
    have V2 : Hid (Below w.heap.size w w2) := below_up rfl V1.out b2
    have X2 : Hid (Bx w2 w.heap.size x0 1 x2) := X1.out.later b2
    clear e2 b2 k2 c0 c1 c2
    go_wp2_with fail
    refine (contFunc a len cap p x2 w1.heap.size _ hm (HV.out.later V2.out) (block_lt_of_cell K2.out) K2.out).mono ?_
    rintro e w3 ⟨rfl, b3⟩
    rw [hq]
    have V3 : Hid (Below w.heap.size w w3) := below_up rfl V2.out b3
    have X3 : Hid (Bx w3 w.heap.size x0 1 x2) := X2.out.later b3
    obtain ⟨_, c0, c1, c2⟩ := X3.out
    clear b3 V1 X1 V2 X2 B2 K2
    go_wp2
    go_ret
    exact ⟨rfl, V3.out⟩
  · subst h3
    rw [hn]
    have HV : Hid (Ew w a len p) := hv
    clear hv hn
    go_enter Tryd.func29, Tryd.ntmps29
    go_wp2_with fail
    have b1 := (Below.refl w.heap.size w).alloc (Nat.le_refl _) (.cells #[.int .i64 x0, .int .i64 3, .int .i64 x2] 28)
    have bx := Bx.lit w x0 3 x2 28
    refine (one1 x0 3 x2 _).mono ?_
    rintro e w1 ⟨rfl, hb⟩
    rw [h0]
    have V1 : Hid (Below w.heap.size w w1) := below_up rfl b1 hb
    have X1 : Hid (Bx w1 w.heap.size x0 3 x2) := bx.later hb
    clear hb bx b1
    generalize hq : p.any (says x2) = q
    obtain ⟨_, c0, c1, c2⟩ := X1.out
    go_wp2_with fail
    refine (says0 x2 _).mono ?_
    rintro e w2 ⟨rfl, e2⟩
    have b2 : Below w1.heap.size w1 w2 := by rw [e2]; exact (Below.refl _ _).alloc (Nat.le_refl _) _
    have B2 : Hid (Below w1.heap.size w1 w2) := b2
    have k2 : w2.cell? ⟨w1.heap.size, 0, none⟩ = some (.int .i64 x2) := by rw [e2]; simp
    have K2 : Hid (w2.cell? ⟨w1.heap.size, 0, none⟩ = some (.int .i64 x2)) := k2
    have V2 : Hid (Below w.heap.size w w2) := below_up rfl V1.out b2
    have X2 : Hid (Bx w2 w.heap.size x0 3 x2) := X1.out.later b2
    clear e2 b2 k2 c0 c1 c2
    go_wp2_with fail
    refine (contFunc a len cap p x2 w1.heap.size _ hm (HV.out.later V2.out) (block_lt_of_cell K2.out) K2.out).mono ?_
    rintro e w3 ⟨rfl, b3⟩
    rw [hq]
    have V3 : Hid (Below w.heap.size w w3) := below_up rfl V2.out b3
    have X3 : Hid (Bx w3 w.heap.size x0 3 x2) := X2.out.later b3
    obtain ⟨_, c0, c1, c2⟩ := X3.out
    clear b3 V1 X1 V2 X2 B2 K2
    go_wp2_with fail
    refine (contEv a len cap p x0 3 x2 _ hm (HV.out.later V3.out)).mono ?_
    rintro e w4 ⟨rfl, b4⟩
    rw [hc]
    have V4 : Hid (Below w.heap.size w w4) := below_up rfl V3.out b4
    have X4 : Hid (Bx w4 w.heap.size x0 3 x2) := X3.out.later b4
    clear b4 c0 c1 c2
    obtain ⟨_, c0, c1, c2⟩ := X4.out
    go_wp2
    go_ret
    exact ⟨rfl, V4.out⟩
  · subst h3
    rw [hn]
    have HV : Hid (Ew w a len p) := hv
    clear hv hn
    go_enter Tryd.func29, Tryd.ntmps29
    go_wp2_with fail
    have b1 := (Below.refl w.heap.size w).alloc (Nat.le_refl _) (.cells #[.int .i64 x0, .int .i64 3, .int .i64 x2] 28)
    have bx := Bx.lit w x0 3 x2 28
    refine (one1 x0 3 x2 _).mono ?_
    rintro e w1 ⟨rfl, hb⟩
    rw [h0]
    have V1 : Hid (Below w.heap.size w w1) := below_up rfl b1 hb
    have X1 : Hid (Bx w1 w.heap.size x0 3 x2) := bx.later hb
    clear hb bx b1
    obtain ⟨_, c0, c1, c2⟩ := X1.out
    go_wp2_with fail
    refine (says0 x2 _).mono ?_
    rintro e w2 ⟨rfl, e2⟩
    have b2 : Below w1.heap.size w1 w2 := by rw [e2]; exact (Below.refl _ _).alloc (Nat.le_refl _) _
    have B2 : Hid (Below w1.heap.size w1 w2) := b2
    have k2 : w2.cell? ⟨w1.heap.size, 0, none⟩ = some (.int .i64 x2) := by rw [e2]; simp
    have K2 : Hid (w2.cell? ⟨w1.heap.size, 0, none⟩ = some (.int .i64 x2)) := k2
    have V2 : Hid (Below w.heap.size w w2) := below_up rfl V1.out b2
    have X2 : Hid (Bx w2 w.heap.size x0 3 x2) := X1.out.later b2
    clear e2 b2 k2 c0 c1 c2
    go_wp2_with fail
    refine (contFunc a len cap p x2 w1.heap.size _ hm (HV.out.later V2.out) (block_lt_of_cell K2.out) K2.out).mono ?_
    rintro e w3 ⟨rfl, b3⟩
    rw [hs]
    have V3 : Hid (Below w.heap.size w w3) := below_up rfl V2.out b3
    have X3 : Hid (Bx w3 w.heap.size x0 3 x2) := X2.out.later b3
    obtain ⟨_, c0, c1, c2⟩ := X3.out
    clear b3 V1 X1 V2 X2 B2 K2
    go_wp2_with fail
    refine (contEv a len cap p x0 3 x2 _ hm (HV.out.later V3.out)).mono ?_
    rintro e w4 ⟨rfl, b4⟩
    rw [hc]
    have V4 : Hid (Below w.heap.size w w4) := below_up rfl V3.out b4
    have X4 : Hid (Bx w4 w.heap.size x0 3 x2) := X3.out.later b4
    clear b4 c0 c1 c2
    obtain ⟨_, c0, c1, c2⟩ := X4.out
    go_wp2
    go_ret
    exact ⟨rfl, V4.out⟩
  · subst h3
    rw [hn]
    have HV : Hid (Ew w a len p) := hv
    clear hv hn
    go_enter Tryd.func29, Tryd.ntmps29
    go_wp2_with fail
    have b1 := (Below.refl w.heap.size w).alloc (Nat.le_refl _) (.cells #[.int .i64 x0, .int .i64 3, .int .i64 x2] 28)
    have bx := Bx.lit w x0 3 x2 28
    refine (one1 x0 3 x2 _).mono ?_
    rintro e w1 ⟨rfl, hb⟩
    rw [h0]
    have V1 : Hid (Below w.heap.size w w1) := below_up rfl b1 hb
    have X1 : Hid (Bx w1 w.heap.size x0 3 x2) := bx.later hb
    clear hb bx b1
    obtain ⟨_, c0, c1, c2⟩ := X1.out
    go_wp2_with fail
    refine (says0 x2 _).mono ?_
    rintro e w2 ⟨rfl, e2⟩
    have b2 : Below w1.heap.size w1 w2 := by rw [e2]; exact (Below.refl _ _).alloc (Nat.le_refl _) _
    have B2 : Hid (Below w1.heap.size w1 w2) := b2
    have k2 : w2.cell? ⟨w1.heap.size, 0, none⟩ = some (.int .i64 x2) := by rw [e2]; simp
    have K2 : Hid (w2.cell? ⟨w1.heap.size, 0, none⟩ = some (.int .i64 x2)) := k2
    have V2 : Hid (Below w.heap.size w w2) := below_up rfl V1.out b2
    have X2 : Hid (Bx w2 w.heap.size x0 3 x2) := X1.out.later b2
    clear e2 b2 k2 c0 c1 c2
    go_wp2_with fail
    refine (contFunc a len cap p x2 w1.heap.size _ hm (HV.out.later V2.out) (block_lt_of_cell K2.out) K2.out).mono ?_
    rintro e w3 ⟨rfl, b3⟩
    rw [hs]
    have V3 : Hid (Below w.heap.size w w3) := below_up rfl V2.out b3
    have X3 : Hid (Bx w3 w.heap.size x0 3 x2) := X2.out.later b3
    obtain ⟨_, c0, c1, c2⟩ := X3.out
    clear b3 V1 X1 V2 X2 B2 K2
    go_wp2_with fail
    refine (contEv a len cap p x0 3 x2 _ hm (HV.out.later V3.out)).mono ?_
    rintro e w4 ⟨rfl, b4⟩
    rw [hc]
    have V4 : Hid (Below w.heap.size w w4) := below_up rfl V3.out b4
    have X4 : Hid (Bx w4 w.heap.size x0 3 x2) := X3.out.later b4
    clear b4 c0 c1 c2
    obtain ⟨_, c0, c1, c2⟩ := X4.out
    go_wp2_with fail
    refine (contEv a len cap p x0 2 x2 _ hm (HV.out.later V4.out)).mono ?_
    rintro e w5 ⟨rfl, b5⟩
    rw [hd]
    have V5 : Hid (Below w.heap.size w w5) := below_up rfl V4.out b5
    clear b5 c0 c1 c2
    go_wp2
    go_ret
    exact ⟨rfl, V5.out⟩
  · subst h3
    rw [hn]
    have HV : Hid (Ew w a len p) := hv
    clear hv hn
    go_enter Tryd.func29, Tryd.ntmps29
    go_wp2_with fail
    have b1 := (Below.refl w.heap.size w).alloc (Nat.le_refl _) (.cells #[.int .i64 x0, .int .i64 3, .int .i64 x2] 28)
    have bx := Bx.lit w x0 3 x2 28
    refine (one1 x0 3 x2 _).mono ?_
    rintro e w1 ⟨rfl, hb⟩
    rw [h0]
    have V1 : Hid (Below w.heap.size w w1) := below_up rfl b1 hb
    have X1 : Hid (Bx w1 w.heap.size x0 3 x2) := bx.later hb
    clear hb bx b1
    obtain ⟨_, c0, c1, c2⟩ := X1.out
    go_wp2_with fail
    refine (says0 x2 _).mono ?_
    rintro e w2 ⟨rfl, e2⟩
    have b2 : Below w1.heap.size w1 w2 := by rw [e2]; exact (Below.refl _ _).alloc (Nat.le_refl _) _
    have B2 : Hid (Below w1.heap.size w1 w2) := b2
    have k2 : w2.cell? ⟨w1.heap.size, 0, none⟩ = some (.int .i64 x2) := by rw [e2]; simp
    have K2 : Hid (w2.cell? ⟨w1.heap.size, 0, none⟩ = some (.int .i64 x2)) := k2
    have V2 : Hid (Below w.heap.size w w2) := below_up rfl V1.out b2
    have X2 : Hid (Bx w2 w.heap.size x0 3 x2) := X1.out.later b2
    clear e2 b2 k2 c0 c1 c2
    go_wp2_with fail
    refine (contFunc a len cap p x2 w1.heap.size _ hm (HV.out.later V2.out) (block_lt_of_cell K2.out) K2.out).mono ?_
    rintro e w3 ⟨rfl, b3⟩
    rw [hs]
    have V3 : Hid (Below w.heap.size w w3) := below_up rfl V2.out b3
    have X3 : Hid (Bx w3 w.heap.size x0 3 x2) := X2.out.later b3
    obtain ⟨_, c0, c1, c2⟩ := X3.out
    clear b3 V1 X1 V2 X2 B2 K2
    go_wp2_with fail
    refine (contEv a len cap p x0 3 x2 _ hm (HV.out.later V3.out)).mono ?_
    rintro e w4 ⟨rfl, b4⟩
    rw [hc]
    have V4 : Hid (Below w.heap.size w w4) := below_up rfl V3.out b4
    have X4 : Hid (Bx w4 w.heap.size x0 3 x2) := X3.out.later b4
    clear b4 c0 c1 c2
    obtain ⟨_, c0, c1, c2⟩ := X4.out
    go_wp2_with fail
    refine (contEv a len cap p x0 2 x2 _ hm (HV.out.later V4.out)).mono ?_
    rintro e w5 ⟨rfl, b5⟩
    rw [hd]
    have V5 : Hid (Below w.heap.size w w5) := below_up rfl V4.out b5
    clear b5 c0 c1 c2
    go_wp2
    go_ret
    exact ⟨rfl, V5.out⟩
end Go.Proofs.YtpjoaogiaacikakDoor.His
