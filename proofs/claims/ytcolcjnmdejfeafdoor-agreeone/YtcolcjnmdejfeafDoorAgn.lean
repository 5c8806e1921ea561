/-
  One order for all: the walk of AgreeOne.
-/
import Derived.Test.YtcolcjnmdejfeafDoorAgnM
import Derived.Test.YtcolcjnmdejfeafDoorAgrA
import Derived.Test.YtcolcjnmdejfeafDoorRowsF
import Derived.Deep.QuietTactic
import Derived.WalkLawsBesides
import Derived.Handy
namespace Go.Proofs.YtcolcjnmdejfeafDoor.Agr
open Go.RowKit
open Go.Proofs.YtcolcjnmdejfeafDoor.Fif (ret_bool)
open Go.Proofs.YtcolcjnmdejfeafDoor.Vec (Vw Rw)
open Go.Proofs.YtcolcjnmdejfeafDoor.As (Laid)
open Go.Proofs.YtcolcjnmdejfeafDoor.Sep (KpL NewL)
set_option linter.unusedVariables false

theorem AS.lat {w w' : World} {base P : Nat} {g : G} {fp : List Nat} (h : AS w base P g fp) (hb : Below w.heap.size w w') : AS w' base P g fp := h.of_blocks hb.size fun b hb' => hb.block b (h.fp b hb').2
/-- the error of another number -/
theorem errF_five (c : Int) (w : World) (hL : Laid w) : Calls Tryd.prog 9 #[errF c, .int .i64 5] w fun e w' => e = .returned (.bool (decide (c = 5))) ∧ Below w.heap.size w w' := by
  by_cases h : c = 0
  · subst h
    rw [errF_ok]
    refine (As.error_nil 5 w).mono ?_
    rintro e w' ⟨rfl, hb⟩
    exact ⟨ret_bool (by simp), hb⟩
  · rw [errF_no h]
    refine (As.error_errno c 5 w hL).mono ?_
    rintro e w' ⟨rfl, hb⟩
    exact ⟨ret_bool (by first | rfl | simp [eq_comm]), hb⟩
/-- how the group stands -/
def ON (w wr : World) (P n B : Nat) : Prop := ∃ g fp, AS wr w.heap.size P g fp ∧ Inv g ∧ g.n = n ∧ Le g B ∧ Below w.heap.size w wr
theorem ON.later {w wr w' : World} {P n B : Nat} (h : ON w wr P n B) (hb : Below wr.heap.size wr w') : ON w w' P n B := by
  obtain ⟨g, fp, h1, h2, h3, h4, h5⟩ := h
  exact ⟨g, fp, h1.lat hb, h2, h3, h4, h5.trans (hb.mono h5.size)⟩
theorem ON.mono {w wr : World} {P n B B' : Nat} (h : ON w wr P n B) (hb : B ≤ B') : ON w wr P n B' := by
  obtain ⟨g, fp, h1, h2, h3, h4, h5⟩ := h
  exact ⟨g, fp, h1, h2, h3, h4.mono hb, h5⟩
theorem ON.bel {w wr : World} {P n B : Nat} (h : ON w wr P n B) : Below w.heap.size w wr := by
  obtain ⟨g, fp, h1, h2, h3, h4, h5⟩ := h
  exact h5
theorem onSay {w wr : World} {P n B : Nat} (h : ON w wr P n B) (hB : B ≤ 10000) (k : Int) : Calls Tryd.prog 17 #[.pointer (some ⟨P, 0, none⟩), .int .i64 k] wr fun x w' => ∃ v, x = .returned v ∧ ON w w' P n (B + 1) := by
  obtain ⟨g, fp, h1, h2, h3, h4, h5⟩ := h
  refine (sayA w.heap.size P g fp k wr h1 h2 (h4.mono hB) h5.size).mono ?_
  rintro x w' ⟨f, rfl, hA, hb, _, _⟩
  exact ⟨_, rfl, _, f, hA, h2.say k, by rw [say_n]; exact h3, (h4.say k).mono (Nat.le_succ _), h5.trans hb⟩
theorem onPro {w wr : World} {P n B : Nat} (h : ON w wr P n B) (hB : B ≤ 10000) (m k : Int) : Calls Tryd.prog 18 #[.pointer (some ⟨P, 0, none⟩), .int .i64 m, .int .i64 k] wr fun x w' => ∃ v, x = .returned v ∧ ON w w' P n (B + 1) := by
  obtain ⟨g, fp, h1, h2, h3, h4, h5⟩ := h
  refine (proA w.heap.size P g fp m k wr h1 h2 (h4.mono hB) h5.size).mono ?_
  rintro x w' ⟨f, rfl, hA, hb, _, _⟩
  exact ⟨_, rfl, _, f, hA, h2.pro m k, by rw [pro_n]; exact h3, h4.pro m k, h5.trans hb⟩
theorem onSet {w wr : World} {P n B : Nat} (h : ON w wr P n B) (hB : B ≤ 10000) (m k : Int) : Calls Tryd.prog 19 #[.pointer (some ⟨P, 0, none⟩), .int .i64 m, .int .i64 k] wr fun x w' => ∃ v, x = .returned v ∧ ON w w' P n (B + 1) := by
  obtain ⟨g, fp, h1, h2, h3, h4, h5⟩ := h
  refine (setA w.heap.size P g fp m k wr h1 h2 (h4.mono hB) h5.size).mono ?_
  rintro x w' ⟨v, f, rfl, _, hA, hb, _, _⟩
  exact ⟨_, rfl, _, f, hA, h2.set m k, by rw [set_n h2.toInv0]; exact h3, (h4.set h2.toInv0 m k).mono (Nat.le_succ _), h5.trans hb⟩
theorem onAlike {w wr : World} {P n B : Nat} (h : ON w wr P n B) (hB : B ≤ 10000) : Calls Tryd.prog 20 #[.pointer (some ⟨P, 0, none⟩), .int .i64 (n : Int)] wr fun x w' => x = .returned (.bool true) ∧ ON w w' P n B := by
  obtain ⟨g, fp, h1, h2, h3, h4, h5⟩ := h
  refine (alike_any w.heap.size P n g fp wr h1 h2 (h4.mono hB) h3.symm).mono ?_
  rintro x w' ⟨rfl, hb⟩
  exact ⟨rfl, g, fp, h1.lat hb, h2, h3, h4, h5.trans (hb.mono h5.size)⟩
def R3 (wo wz : World) : Prop := ∃ f : Nat → Int, wz.rowIs wo.heap.size 36 3 (fun t => .int .i64 (f t)) ∧ Below wo.heap.size wo wz
/-- the first, small group -/
def Fst (w w4 : World) : Prop := Below w.heap.size w w4
set_option maxRecDepth 100000 in
set_option maxHeartbeats 4000000 in
theorem one_bad (n : Int) (a : Option Addr) (len cap : Nat) (w : World) (h : n < 2 ∨ 5 < n) : Calls Tryd.prog 4 #[.int .i64 n, .slice a len cap] w fun e w' => e = .returned (.bool true) ∧ Below w.heap.size w w' := by
  go_enter Tryd.func4, Tryd.ntmps4
  go_wp2_with fail
  refine (newA_ok 2 (by omega) (by omega) w).mono ?_
  rintro e x1 ⟨P1, fp1, rfl, hA, hb⟩
  have A1 : Hid (AS x1 w.heap.size P1 (start 2) fp1 ∧ Below w.heap.size w x1 ∧ Inv (start 2) ∧ Le (start 2) 0) := ⟨hA, hb, Inv.start (by omega) (by omega), Le.start 2⟩
  clear hA hb
  go_wp2_with fail
  refine (sayA w.heap.size P1 (start 2) fp1 4 x1 A1.out.1 A1.out.2.2.1 (A1.out.2.2.2.mono (by omega)) A1.out.2.1.size).mono ?_
  rintro e x2 ⟨fp2, rfl, hA, hb, _, _⟩
  rw [one_fact.1, errF_ok]
  have A2 : Hid (AS x2 w.heap.size P1 (say (start 2) 4) fp2 ∧ Below w.heap.size w x2 ∧ Inv (say (start 2) 4) ∧ Le (say (start 2) 4) 0) := ⟨hA, A1.out.2.1.trans hb, A1.out.2.2.1.say 4, A1.out.2.2.2.say 4⟩
  clear hA hb
  go_wp2_with fail
  refine (proA w.heap.size P1 _ fp2 0 4 x2 A2.out.1 A2.out.2.2.1 (A2.out.2.2.2.mono (by omega)) A2.out.2.1.size).mono ?_
  rintro e x3 ⟨fp3, rfl, hA, hb, _, _⟩
  rw [one_fact.2.1, errF_ok]
  obtain ⟨X3, eX3⟩ : ∃ X3, X3 = x3.alloc (.cells #[.int .i64 ((proS (say (start 2) 4) 0 4).1 : Int), .int .i64 ((proS (say (start 2) 4) 0 4).2 : Int)] 56) := ⟨_, rfl⟩
  have A3 : Hid (AS X3 w.heap.size P1 (pro (say (start 2) 4) 0 4) fp3 ∧ Below w.heap.size w X3 ∧ Inv (pro (say (start 2) 4) 0 4) ∧ Le (pro (say (start 2) 4) 0 4) 1) := by
    have b := A2.out.2.1.trans hb
    rw [eX3]
    exact ⟨hA.lat ((Below.refl _ _).alloc (Nat.le_refl _) _), b.alloc b.size _, A2.out.2.2.1.pro 0 4, A2.out.2.2.2.pro 0 4⟩
  clear hA hb
  go_wp2_with fail
  rw [← eX3]
  clear eX3
  refine (proA w.heap.size P1 _ fp3 1 4 X3 A3.out.1 A3.out.2.2.1 (A3.out.2.2.2.mono (by omega)) A3.out.2.1.size).mono ?_
  rintro e x4 ⟨fp4, rfl, hA, hb, _, _⟩
  rw [one_fact.2.2.1, errF_ok, one_fact.2.2.2.1]
  obtain ⟨X4, eX4⟩ : ∃ X4, X4 = x4.alloc (.cells #[.int .i64 1, .int .i64 1] 56) := ⟨_, rfl⟩
  have A4 : Hid (AS X4 w.heap.size P1 (pro (pro (say (start 2) 4) 0 4) 1 4) fp4 ∧ Below w.heap.size w X4 ∧ Inv (pro (pro (say (start 2) 4) 0 4) 1 4) ∧ Le (pro (pro (say (start 2) 4) 0 4) 1 4) 2 ∧ X4.cell? ⟨x4.heap.size, 0, none⟩ = some (.int .i64 1) ∧ X4.cell? ⟨x4.heap.size, 1, none⟩ = some (.int .i64 1) ∧ x4.heap.size < X4.heap.size ∧ w.heap.size ≤ x4.heap.size ∧ x4.heap.size ∉ fp4) := by
    have b := A3.out.2.1.trans hb
    rw [eX4]
    refine ⟨hA.lat ((Below.refl _ _).alloc (Nat.le_refl _) _), b.alloc b.size _, A3.out.2.2.1.pro 1 4, A3.out.2.2.2.pro 1 4, by go_cell, by go_cell, by simp, b.size, fun q => ?_⟩
    have := (hA.fp _ q).2
    omega
  clear hA hb
  go_wp2_with fail
  rw [← eX4]
  clear eX4
  refine (setA w.heap.size P1 _ fp4 0 4 X4 A4.out.1 A4.out.2.2.1 (A4.out.2.2.2.1.mono (by omega)) A4.out.2.1.size).mono ?_
  rintro e x5 ⟨v5, fp5, rfl, hs, hA, hb, hk, _⟩
  rw [one_fact.2.2.2.2.1, errF_ok]
  rw [one_fact.2.2.2.2.2] at hs
  obtain ⟨a5, c5, rfl, h51, h52, h53⟩ := hs
  obtain ⟨b5, o5, rfl, _, hc5⟩ := h53.2 (by decide)
  have f5 : x5.cell? ⟨b5, o5, none⟩ = some (.int .i64 4) := hc5 0 (by decide)
  have hkk := hk.2 x4.heap.size A4.out.2.2.2.2.2.2.1 A4.out.2.2.2.2.2.2.2.2
  have s0 : x5.cell? ⟨x4.heap.size, 0, none⟩ = some (.int .i64 1) := (World.cell?_of_block (a := ⟨x4.heap.size, 0, none⟩) hkk).trans A4.out.2.2.2.2.1
  have s1 : x5.cell? ⟨x4.heap.size, 1, none⟩ = some (.int .i64 1) := (World.cell?_of_block (a := ⟨x4.heap.size, 1, none⟩) hkk).trans A4.out.2.2.2.2.2.1
  have B5 : Hid (Below w.heap.size w x5) := A4.out.2.1.trans hb
  have l1 : ([4] : List Nat).length = 1 := rfl
  rw [l1]
  clear hA hb hk h51 h52 h53 hc5 hkk l1
  go_wp2_with fail
  refine (newA_no n h x5).mono ?_
  rintro e x6 ⟨rfl, hb⟩
  rw [errF_no (by decide)]
  have B6 : Hid (Below w.heap.size w x6) := B5.out.trans (hb.mono B5.out.size)
  clear hb f5 s0 s1
  go_wp2
  go_ret
  exact ⟨rfl, B6.out⟩
set_option maxRecDepth 100000 in
set_option maxHeartbeats 8000000 in
theorem one_ok (n : Nat) (a : Option Addr) (len cap : Nat) (ls : List (List Int)) (w : World) (hL : Laid w) (hR : Rw w a len ls) (h2 : 2 ≤ n) (h5 : n ≤ 5) : Calls Tryd.prog 4 #[.int .i64 (n : Int), .slice a len cap] w fun e w' => e = .returned (.bool true) ∧ Below w.heap.size w w' := by
  have HL : Hid (Laid w ∧ Rw w a len ls) := ⟨hL, hR⟩
  have hlm : len ≤ maxLen := hR.2.1
  have hn2 : (2 : Int) ≤ (n : Int) := by omega
  have hn5 : (n : Int) ≤ 5 := by omega
  clear hL hR
  go_enter Tryd.func4, Tryd.ntmps4
  go_wp2_with fail
  refine (newA_ok 2 (by omega) (by omega) w).mono ?_
  rintro e x1 ⟨P1, fp1, rfl, hA, hb⟩
  have A1 : Hid (AS x1 w.heap.size P1 (start 2) fp1 ∧ Below w.heap.size w x1 ∧ Inv (start 2) ∧ Le (start 2) 0) := ⟨hA, hb, Inv.start (by omega) (by omega), Le.start 2⟩
  clear hA hb
  go_wp2_with fail
  refine (sayA w.heap.size P1 (start 2) fp1 4 x1 A1.out.1 A1.out.2.2.1 (A1.out.2.2.2.mono (by omega)) A1.out.2.1.size).mono ?_
  rintro e x2 ⟨fp2, rfl, hA, hb, _, _⟩
  rw [one_fact.1, errF_ok]
  have A2 : Hid (AS x2 w.heap.size P1 (say (start 2) 4) fp2 ∧ Below w.heap.size w x2 ∧ Inv (say (start 2) 4) ∧ Le (say (start 2) 4) 0) := ⟨hA, A1.out.2.1.trans hb, A1.out.2.2.1.say 4, A1.out.2.2.2.say 4⟩
  clear hA hb
  go_wp2_with fail
  refine (proA w.heap.size P1 _ fp2 0 4 x2 A2.out.1 A2.out.2.2.1 (A2.out.2.2.2.mono (by omega)) A2.out.2.1.size).mono ?_
  rintro e x3 ⟨fp3, rfl, hA, hb, _, _⟩
  rw [one_fact.2.1, errF_ok]
  obtain ⟨X3, eX3⟩ : ∃ X3, X3 = x3.alloc (.cells #[.int .i64 ((proS (say (start 2) 4) 0 4).1 : Int), .int .i64 ((proS (say (start 2) 4) 0 4).2 : Int)] 56) := ⟨_, rfl⟩
  have A3 : Hid (AS X3 w.heap.size P1 (pro (say (start 2) 4) 0 4) fp3 ∧ Below w.heap.size w X3 ∧ Inv (pro (say (start 2) 4) 0 4) ∧ Le (pro (say (start 2) 4) 0 4) 1) := by
    have b := A2.out.2.1.trans hb
    rw [eX3]
    exact ⟨hA.lat ((Below.refl _ _).alloc (Nat.le_refl _) _), b.alloc b.size _, A2.out.2.2.1.pro 0 4, A2.out.2.2.2.pro 0 4⟩
  clear hA hb
  go_wp2_with fail
  rw [← eX3]
  clear eX3
  refine (proA w.heap.size P1 _ fp3 1 4 X3 A3.out.1 A3.out.2.2.1 (A3.out.2.2.2.mono (by omega)) A3.out.2.1.size).mono ?_
  rintro e x4 ⟨fp4, rfl, hA, hb, _, _⟩
  rw [one_fact.2.2.1, errF_ok, one_fact.2.2.2.1]
  obtain ⟨X4, eX4⟩ : ∃ X4, X4 = x4.alloc (.cells #[.int .i64 1, .int .i64 1] 56) := ⟨_, rfl⟩
  have A4 : Hid (AS X4 w.heap.size P1 (pro (pro (say (start 2) 4) 0 4) 1 4) fp4 ∧ Below w.heap.size w X4 ∧ Inv (pro (pro (say (start 2) 4) 0 4) 1 4) ∧ Le (pro (pro (say (start 2) 4) 0 4) 1 4) 2 ∧ X4.cell? ⟨x4.heap.size, 0, none⟩ = some (.int .i64 1) ∧ X4.cell? ⟨x4.heap.size, 1, none⟩ = some (.int .i64 1) ∧ x4.heap.size < X4.heap.size ∧ w.heap.size ≤ x4.heap.size ∧ x4.heap.size ∉ fp4) := by
    have b := A3.out.2.1.trans hb
    rw [eX4]
    refine ⟨hA.lat ((Below.refl _ _).alloc (Nat.le_refl _) _), b.alloc b.size _, A3.out.2.2.1.pro 1 4, A3.out.2.2.2.pro 1 4, by go_cell, by go_cell, by simp, b.size, fun q => ?_⟩
    have := (hA.fp _ q).2
    omega
  clear hA hb
  go_wp2_with fail
  rw [← eX4]
  clear eX4
  refine (setA w.heap.size P1 _ fp4 0 4 X4 A4.out.1 A4.out.2.2.1 (A4.out.2.2.2.1.mono (by omega)) A4.out.2.1.size).mono ?_
  rintro e x5 ⟨v5, fp5, rfl, hs, hA, hb, hk, _⟩
  rw [one_fact.2.2.2.2.1, errF_ok]
  rw [one_fact.2.2.2.2.2] at hs
  obtain ⟨a5, c5, rfl, h51, h52, h53⟩ := hs
  obtain ⟨b5, o5, rfl, _, hc5⟩ := h53.2 (by decide)
  have f5 : x5.cell? ⟨b5, o5, none⟩ = some (.int .i64 4) := hc5 0 (by decide)
  have hkk := hk.2 x4.heap.size A4.out.2.2.2.2.2.2.1 A4.out.2.2.2.2.2.2.2.2
  have s0 : x5.cell? ⟨x4.heap.size, 0, none⟩ = some (.int .i64 1) := (World.cell?_of_block (a := ⟨x4.heap.size, 0, none⟩) hkk).trans A4.out.2.2.2.2.1
  have s1 : x5.cell? ⟨x4.heap.size, 1, none⟩ = some (.int .i64 1) := (World.cell?_of_block (a := ⟨x4.heap.size, 1, none⟩) hkk).trans A4.out.2.2.2.2.2.1
  have B5 : Hid (Below w.heap.size w x5) := A4.out.2.1.trans hb
  have l1 : ([4] : List Nat).length = 1 := rfl
  rw [l1]
  clear hA hb hk h51 h52 h53 hc5 hkk l1
  go_wp2_with fail
  refine (newA_ok n h2 h5 x5).mono ?_
  rintro e x6 ⟨P, fp6, rfl, hA, hb⟩
  have C6 : Hid (ON x5 x6 P n 0) := ⟨start n, fp6, hA, Inv.start h2 h5, rfl, Le.start n, hb⟩
  clear hA hb f5 s0 s1 A1 A2 A3 A4
  go_wp2
  go_loopw [15] (fun y wr => ∃ i : Nat, i ≤ len ∧ i ≤ 150 ∧ y = .int .i64 (i : Int) ∧ Hid (ON x5 wr P n i)) (fun y _ => len - (intOf y).toNat)
  case atStart => exact ⟨0, by omega, by omega, rfl, C6.out⟩
  case round =>
    obtain ⟨i, hi, hi150, rfl, hC⟩ := hrel
    by_cases hgo : (i : Int) < (len : Int) ∧ (i : Int) < 150
    · obtain ⟨hil, hi120⟩ := hgo
      obtain ⟨wo, ewo⟩ : ∃ wo, wo = wr := ⟨_, rfl⟩
      subst ewo
      have hi0 : (0 : Int) ≤ (i : Int) := by omega
      have BO : Hid (Below w.heap.size w wo) := B5.out.trans (hC.out.bel.mono B5.out.size)
      obtain ⟨rb, ro, rfl, hrb, hrc⟩ := (HL.out.2.later BO.out).2.2 (by omega)
      obtain ⟨qi, ci, g0, hvi, hmi⟩ := hrc i (by omega)
      obtain ⟨li, eli⟩ : ∃ li, li = (ls.getD i []).length := ⟨_, rfl⟩
      rw [← eli] at g0 hvi hmi
      have XV : Hid (wo.cell? ⟨rb, ro + i, none⟩ = some (.slice qi li ci) ∧ rb < wo.heap.size ∧ Vw wo qi li (ls.getD i [])) := ⟨g0, hrb, hvi⟩
      have hmi2 : (li : Int) ≤ 9223372036854775807 := by unfold maxLen at hmi; omega
      clear hrc g0 hrb hvi hmi eli
      have A1 : Hid (R3 wo (wo.alloc (.cells #[.int .i64 0, .int .i64 0, .int .i64 0] 36))) := by
        refine ⟨fun _ => 0, ?_, (Below.refl _ _).alloc (Nat.le_refl _) _⟩
        exact World.rowIs_alloc wo #[.int .i64 0, .int .i64 0, .int .i64 0] 36 _ (fun t ht => by rcases t with _ | _ | _ | t <;> first | rfl | (exfalso; have : _ < 3 := ht; omega))
      go_wp2_with fail
      go_loopw [17] (fun y wz => ∃ j : Nat, j ≤ 3 ∧ y = .int .i64 (j : Int) ∧ Hid (R3 wo wz)) (fun y _ => 3 - (intOf y).toNat)
      case atStart => exact ⟨0, by omega, rfl, A1⟩
      case round =>
        obtain ⟨j, hj, rfl, hA⟩ := hrel
        have x0 : wr.cell? ⟨rb, ro + i, none⟩ = some (.slice qi li ci) := by
          obtain ⟨f, _, hb⟩ := hA.out
          exact (hb.cell (p := ⟨rb, ro + i, none⟩) XV.out.2.1).trans XV.out.1
        have hj0 : (0 : Int) ≤ (j : Int) := by omega
        by_cases hjl : (j : Int) < (li : Int) ∧ (j : Int) < 3
        · obtain ⟨hjl, hj3⟩ := hjl
          obtain ⟨f, hf, hb⟩ := hA.out
          obtain ⟨bi, oi, rfl, hlti, hci⟩ := XV.out.2.2.2 (by omega)
          have y0 := (hb.cell (p := ⟨bi, oi + j, none⟩) hlti).trans (hci j (by omega))
          have c0 := World.rowIs.cell hf (i := j) (by omega)
          have z0 := World.rowIs.frozen hf j
          obtain ⟨yv, ey⟩ : ∃ yv, yv = (ls.getD i []).getD j 0 := ⟨_, rfl⟩
          rw [← ey] at y0
          have FB : Hid (wr.rowIs wo.heap.size 36 3 (fun t => .int .i64 (f t)) ∧ Below wo.heap.size wo wr) := ⟨hf, hb⟩
          clear hf hb hci hlti ey hA
          go_wp2
          go_roundw
          case rel =>
            refine ⟨j + 1, by omega, by go_num, fun t => if t = j then yv else f t, (World.rowIs.set FB.out.1 j _).congr fun t ht => ?_, FB.out.2.setCell (p := ⟨wo.heap.size, j, none⟩) (Nat.le_refl _) _⟩
            by_cases e : t = j
            · rw [if_pos e]; simp [e]
            · rw [if_neg e]; simp [e]
          case measure => simp [intOf]; omega
        · obtain ⟨f, hf, hb⟩ := hA.out
          have c0 := World.rowIs.cell hf (i := 0) (by omega)
          have c1 := World.rowIs.cell hf (i := 1) (by omega)
          have c2 := World.rowIs.cell hf (i := 2) (by omega)
          obtain ⟨k0, ek0⟩ : ∃ k, k = f 0 := ⟨_, rfl⟩
          obtain ⟨k1, ek1⟩ : ∃ k, k = f 1 := ⟨_, rfl⟩
          obtain ⟨k2, ek2⟩ : ∃ k, k = f 2 := ⟨_, rfl⟩
          rw [← ek0] at c0
          rw [← ek1] at c1
          rw [← ek2] at c2
          have CZ : Hid (ON x5 wr P n i) := hC.out.later hb
          have hex : ((j : Int) < (li : Int) ∧ ¬ (j : Int) < 3) ∨ ¬ (j : Int) < (li : Int) := by omega
          clear hf hb ek0 ek1 ek2 hA A1 hjl
          rcases hex with ⟨e1, e2⟩ | e1
          all_goals
            by_cases q0 : k0 = 0
            · subst q0
              go_wp2_with fail
              refine (onSay CZ.out (by omega) k2).mono ?_
              rintro e w7 ⟨vr, rfl, hc7⟩
              have C7 : Hid (ON x5 w7 P n (i + 1)) := hc7
              clear hc7
              go_wp2_with fail
              refine (onAlike C7.out (by omega)).mono ?_
              rintro e w8 ⟨rfl, hc8⟩
              have C8 : Hid (ON x5 w8 P n (i + 1)) := hc8
              clear hc8
              go_wp2
              go_roundw
              case rel => exact ⟨i + 1, by omega, by omega, by go_num, C8.out⟩
              case measure => simp [intOf]; omega
            · have q0' : (k0 == 0) = false := by simp [q0]
              by_cases q1 : k0 = 1
              · subst q1
                go_wp2_with fail
                refine (onPro CZ.out (by omega) k1 k2).mono ?_
                rintro e w7 ⟨vr, rfl, hc7⟩
                have C7 : Hid (ON x5 w7 P n (i + 1)) := hc7
                clear hc7
                go_wp2_with fail
                refine (onAlike C7.out (by omega)).mono ?_
                rintro e w8 ⟨rfl, hc8⟩
                have C8 : Hid (ON x5 w8 P n (i + 1)) := hc8
                clear hc8
                go_wp2
                go_roundw
                case rel => exact ⟨i + 1, by omega, by omega, by go_num, C8.out⟩
                case measure => simp [intOf]; omega
              · have q1' : (k0 == 1) = false := by simp [q1]
                by_cases q2 : k0 = 2
                · subst q2
                  go_wp2_with fail
                  refine (onPro CZ.out (by omega) k1 k2).mono ?_
                  rintro e w7 ⟨vr, rfl, hc7⟩
                  have C7 : Hid (ON x5 w7 P n (i + 1)) := hc7
                  clear hc7
                  go_wp2_with fail
                  refine (onAlike C7.out (by omega)).mono ?_
                  rintro e w8 ⟨rfl, hc8⟩
                  have C8 : Hid (ON x5 w8 P n (i + 1)) := hc8
                  clear hc8
                  go_wp2
                  go_roundw
                  case rel => exact ⟨i + 1, by omega, by omega, by go_num, C8.out⟩
                  case measure => simp [intOf]; omega
                · have q2' : (k0 == 2) = false := by simp [q2]
                  by_cases q3 : k0 = 3
                  · subst q3
                    go_wp2_with fail
                    refine (onPro CZ.out (by omega) k1 k2).mono ?_
                    rintro e w7 ⟨vr, rfl, hc7⟩
                    have C7 : Hid (ON x5 w7 P n (i + 1)) := hc7
                    clear hc7
                    go_wp2_with fail
                    refine (onAlike C7.out (by omega)).mono ?_
                    rintro e w8 ⟨rfl, hc8⟩
                    have C8 : Hid (ON x5 w8 P n (i + 1)) := hc8
                    clear hc8
                    go_wp2
                    go_roundw
                    case rel => exact ⟨i + 1, by omega, by omega, by go_num, C8.out⟩
                    case measure => simp [intOf]; omega
                  · have q3' : (k0 == 3) = false := by simp [q3]
                    go_wp2_with fail
                    refine (onSet CZ.out (by omega) k1 k2).mono ?_
                    rintro e w7 ⟨vr, rfl, hc7⟩
                    have C7 : Hid (ON x5 w7 P n (i + 1)) := hc7
                    clear hc7
                    go_wp2_with fail
                    refine (onAlike C7.out (by omega)).mono ?_
                    rintro e w8 ⟨rfl, hc8⟩
                    have C8 : Hid (ON x5 w8 P n (i + 1)) := hc8
                    clear hc8
                    go_wp2
                    go_roundw
                    case rel => exact ⟨i + 1, by omega, by omega, by go_num, C8.out⟩
                    case measure => simp [intOf]; omega
    · rcases (show ((i : Int) < (len : Int) ∧ ¬ (i : Int) < 150) ∨ ¬ (i : Int) < (len : Int) by omega) with ⟨e1, e2⟩ | e1
      all_goals
        obtain ⟨g5, fp5, hA5, hI5, hN5, hL5, hB5⟩ := hC.out
        have C5 : Hid (∃ g fp, AS wr x5.heap.size P g fp ∧ GP n g 1 0 ∧ Le g (150 + 5 * 0) ∧ Below w.heap.size w wr ∧ x5.heap.size ≤ wr.heap.size ∧ (0 : Int) = (cnt g (1 - 1) : Int)) := ⟨g5, fp5, hA5, GP.start hI5 hN5, hL5.mono (by omega), B5.out.trans (hB5.mono B5.out.size), hB5.size, rfl⟩
        clear hA5 hI5 hN5 hL5 hB5 hC hgo
        go_wp2
        go_loopw [19, 20] (fun y x wr => ∃ v : Nat, 1 ≤ v ∧ v ≤ 31 ∧ x = .int .i64 (v : Int) ∧ ∃ sd : Int, y = .int .i64 sd ∧ Hid (∃ g fp, AS wr x5.heap.size P g fp ∧ GP n g v 0 ∧ Le g (150 + 5 * (v - 1)) ∧ Below w.heap.size w wr ∧ x5.heap.size ≤ wr.heap.size ∧ sd = (cnt g (v - 1) : Int))) (fun _ x _ => 31 - (intOf x).toNat)
        case atStart => exact ⟨1, by omega, by omega, rfl, 0, rfl, C5.out⟩
        case round =>
          obtain ⟨v, hv1, hv31, rfl, sd, rfl, hQ⟩ := hrel
          obtain ⟨wo, ewo⟩ : ∃ wo, wo = wr := ⟨_, rfl⟩
          subst ewo
          obtain ⟨g3, f3, k1, k2, k3, k4, k5, k6⟩ := hQ.out
          have hsd : 0 ≤ sd ∧ sd ≤ 30 := by rw [k6]; have := cnt_le g3 (v - 1); omega
          by_cases hlt : (v : Int) ≤ 30
          · have V0 : Hid (∃ g fp, AS wo x5.heap.size P g fp ∧ GP n g v 0 ∧ Le g (150 + 5 * (v - 1) + 0) ∧ Below w.heap.size w wo ∧ x5.heap.size ≤ wo.heap.size ∧ sd = (cnt g (v - 1) : Int) + (if 0 = n then ((g.was v).toNat : Int) else 0) ∧ (0 < 0 → g.was v = true)) := ⟨g3, f3, k1, k2, k3, k4, k5, by rw [k6, if_neg (by omega)]; omega, fun q => absurd q (by omega)⟩
            have hsd2 : 0 ≤ sd ∧ sd ≤ 31 := by omega
            clear hQ k1 k2 k3 k4 k5 k6 hsd
            go_wp2
            go_loopw [19, 21] (fun y x wr => ∃ m : Nat, m ≤ n ∧ x = .int .i64 (m : Int) ∧ ∃ sd : Int, y = .int .i64 sd ∧ Hid (∃ g fp, AS wr x5.heap.size P g fp ∧ GP n g v m ∧ Le g (150 + 5 * (v - 1) + m) ∧ Below w.heap.size w wr ∧ x5.heap.size ≤ wr.heap.size ∧ sd = (cnt g (v - 1) : Int) + (if m = n then ((g.was v).toNat : Int) else 0) ∧ (0 < m → g.was v = true))) (fun _ x _ => n - (intOf x).toNat)
            case atStart => exact ⟨0, by omega, rfl, sd, rfl, V0.out⟩
            case round =>
              obtain ⟨m, hm, rfl, sd, rfl, hQ⟩ := hrel
              obtain ⟨g4, f4, k1, k2, k3, k4, k5, k6, k7⟩ := hQ.out
              have hsd : 0 ≤ sd ∧ sd ≤ 31 := by
                rw [k6]
                have := cnt_le g4 (v - 1)
                have : (g4.was v).toNat ≤ 1 := by cases g4.was v <;> decide
                split <;> omega
              have K : Hid (AS wr x5.heap.size P g4 f4 ∧ GP n g4 v m ∧ Le g4 (150 + 5 * (v - 1) + m) ∧ Below w.heap.size w wr ∧ x5.heap.size ≤ wr.heap.size ∧ sd = (cnt g4 (v - 1) : Int) + (if m = n then ((g4.was v).toNat : Int) else 0) ∧ (0 < m → g4.was v = true)) := ⟨k1, k2, k3, k4, k5, k6, k7⟩
              clear hQ k1 k2 k3 k4 k5 k6 k7
              by_cases hmn : m < n
              · have hmn' : (m : Int) < (n : Int) := by omega
                go_wp2_with fail
                refine (proA x5.heap.size P g4 f4 (m : Int) (v : Int) wr K.out.1 K.out.2.1.inv (K.out.2.2.1.mono (by omega)) K.out.2.2.2.2.1).mono ?_
                rintro e w7 ⟨f7, rfl, hA7, hb7, _, _⟩
                obtain ⟨s0, es0⟩ : ∃ s0, s0 = (proS g4 (m : Int) (v : Int)).1 := ⟨_, rfl⟩
                obtain ⟨s1, es1⟩ : ∃ s1, s1 = (proS g4 (m : Int) (v : Int)).2 := ⟨_, rfl⟩
                rw [← es0, ← es1]
                obtain ⟨W7, eW7⟩ : ∃ W7, W7 = w7.alloc (.cells #[.int .i64 (s0 : Int), .int .i64 (s1 : Int)] 56) := ⟨_, rfl⟩
                have K7 : Hid (AS W7 x5.heap.size P (pro g4 (m : Int) (v : Int)) f7 ∧ Below w.heap.size w W7 ∧ x5.heap.size ≤ W7.heap.size) := by
                  have b7 : Below w.heap.size w w7 := K.out.2.2.2.1.trans (hb7.mono B5.out.size)
                  have b8 : w7.heap.size ≤ W7.heap.size := by rw [eW7]; simp
                  rw [eW7]
                  exact ⟨hA7.lat ((Below.refl _ _).alloc (Nat.le_refl _) _), b7.alloc b7.size _, by rw [← eW7]; exact Nat.le_trans (Nat.le_trans K.out.2.2.2.2.1 hb7.size) b8⟩
                clear hA7 hb7 es0 es1
                go_wp2_with fail
                rw [← eW7]
                clear eW7
                refine (errF_five (proC g4 (m : Int) (v : Int)) W7 (HL.out.1.later K7.out.2.1)).mono ?_
                rintro e w8 ⟨rfl, hb8⟩
                have K8 : Hid (AS w8 x5.heap.size P (pro g4 (m : Int) (v : Int)) f7 ∧ Below w.heap.size w w8 ∧ x5.heap.size ≤ w8.heap.size) := ⟨K7.out.1.lat hb8, K7.out.2.1.trans (hb8.mono K7.out.2.1.size), Nat.le_trans K7.out.2.2 hb8.size⟩
                clear hb8
                have hv30 : 1 ≤ v ∧ v ≤ 30 := by omega
                have hmg : m < g4.n := by rw [K.out.2.1.num]; exact hmn
                cases hw : g4.was v
                · have d5 : decide (proC g4 (m : Int) (v : Int) = 5) = true := decide_eq_true (proC_not hmg hv30 hw).1
                  rw [d5]
                  have HE : Hid (pro g4 (m : Int) (v : Int) = g4 ∧ g4.was v = false) := ⟨(proC_not hmg hv30 hw).2, hw⟩
                  clear d5 hw
                  go_wp2
                  go_roundw
                  case rel =>
                    refine ⟨v + 1, by omega, by omega, by go_num, sd, rfl, g4, f7, ?_, K.out.2.1.skip HE.out.2, K.out.2.2.1.mono (by omega), K8.out.2.1, K8.out.2.2, ?_⟩
                    · have q := K8.out.1
                      rw [HE.out.1] at q
                      exact q
                    · have q := K.out.2.2.2.2.2.1
                      rw [if_neg (by omega)] at q
                      obtain ⟨u, rfl⟩ : ∃ u, v = u + 1 := ⟨v - 1, by omega⟩
                      rw [show u + 1 + 1 - 1 = u + 1 by omega, cnt_succ, HE.out.2, q]
                      simp
                  case measure => simp [intOf]; omega
                · have d5 : decide (proC g4 (m : Int) (v : Int) = 5) = false := decide_eq_false (proC_was hmg hv30 hw)
                  rw [d5]
                  have HW : Hid (g4.was v = true) := hw
                  have wasE : Hid (∀ u, (pro g4 (m : Int) (v : Int)).was u = g4.was u) := fun u => pro_was g4 _ _ u
                  clear d5 hw
                  by_cases hlast : m + 1 = n
                  · have hl : ((m : Int) == (n : Int) - 1) = true := by simp; omega
                    go_wp2
                    go_roundw
                    case rel =>
                      refine ⟨m + 1, by omega, by go_num, sd + 1, by go_num, _, f7, K8.out.1, K.out.2.1.pro hmn hv30, (K.out.2.2.1.pro _ _).mono (by omega), K8.out.2.1, K8.out.2.2, ?_, fun _ => by rw [wasE.out]; exact HW.out⟩
                      have q := K.out.2.2.2.2.2.1
                      rw [if_neg (by omega)] at q
                      rw [if_pos hlast, cnt_congr wasE.out, wasE.out, HW.out, q]
                      simp
                    case measure => simp [intOf]; omega
                  · have hl : ((m : Int) == (n : Int) - 1) = false := by simp; omega
                    go_wp2
                    go_roundw
                    case rel =>
                      refine ⟨m + 1, by omega, by go_num, sd, by first | rfl | go_num, _, f7, K8.out.1, K.out.2.1.pro hmn hv30, (K.out.2.2.1.pro _ _).mono (by omega), K8.out.2.1, K8.out.2.2, ?_, fun _ => by rw [wasE.out]; exact HW.out⟩
                      have q := K.out.2.2.2.2.2.1
                      rw [if_neg (by omega)] at q
                      rw [if_neg hlast, cnt_congr wasE.out, q]
                    case measure => simp [intOf]; omega
              · have hmn' : ¬ (m : Int) < (n : Int) := by omega
                have hme : m = n := by omega
                go_wp2
                go_roundw
                case rel =>
                  refine ⟨v + 1, by omega, by omega, by go_num, sd, rfl, g4, f4, K.out.1, ?_, K.out.2.2.1.mono (by omega), K.out.2.2.2.1, K.out.2.2.2.2.1, ?_⟩
                  · have q := K.out.2.1
                    rw [hme] at q
                    exact q.next
                  · have q := K.out.2.2.2.2.2.1
                    rw [if_pos hme] at q
                    obtain ⟨u, rfl⟩ : ∃ u, v = u + 1 := ⟨v - 1, by omega⟩
                    rw [show u + 1 + 1 - 1 = u + 1 by omega, cnt_succ, q]
                    simp
                case measure => simp [intOf]; omega
          · have hve : v = 31 := by omega
            subst hve
            have K0 : Hid (∃ g fp, AS wo x5.heap.size P g fp ∧ KP n g 1 0 ∧ Le g 1000 ∧ Below w.heap.size w wo ∧ x5.heap.size ≤ wo.heap.size ∧ sd = (cnt g 30 : Int)) := ⟨g3, f3, k1, KP.start k2, k3.mono (by omega), k4, k5, k6⟩
            clear hQ k1 k2 k3 k4 k5 k6
            go_wp2
            go_loopw [24] (fun x wr => ∃ v : Nat, 1 ≤ v ∧ v ≤ 31 ∧ x = .int .i64 (v : Int) ∧ Hid (∃ g fp, AS wr x5.heap.size P g fp ∧ KP n g v 0 ∧ Le g 1000 ∧ Below w.heap.size w wr ∧ x5.heap.size ≤ wr.heap.size ∧ sd = (cnt g 30 : Int))) (fun x _ => 31 - (intOf x).toNat)
            case atStart => exact ⟨1, by omega, by omega, rfl, K0.out⟩
            case round =>
              obtain ⟨v, hv1, hv31, rfl, hQ⟩ := hrel
              obtain ⟨wq, ewq⟩ : ∃ wq, wq = wr := ⟨_, rfl⟩
              subst ewq
              by_cases hlt2 : (v : Int) ≤ 30
              · go_wp2
                go_loopw [25] (fun x wr => ∃ m : Nat, m ≤ n ∧ x = .int .i64 (m : Int) ∧ Hid (∃ g fp, AS wr x5.heap.size P g fp ∧ KP n g v m ∧ Le g 1000 ∧ Below w.heap.size w wr ∧ x5.heap.size ≤ wr.heap.size ∧ sd = (cnt g 30 : Int))) (fun x _ => n - (intOf x).toNat)
                case atStart => exact ⟨0, by omega, rfl, hQ.out⟩
                case round =>
                  obtain ⟨m, hm, rfl, hQ2⟩ := hrel
                  by_cases hmn : m < n
                  · have hmn' : (m : Int) < (n : Int) := by omega
                    obtain ⟨g4, f4, k1, k2, k3, k4, k5, k6⟩ := hQ2.out
                    have K : Hid (AS wr x5.heap.size P g4 f4 ∧ KP n g4 v m ∧ Le g4 1000 ∧ Below w.heap.size w wr ∧ x5.heap.size ≤ wr.heap.size ∧ sd = (cnt g4 30 : Int)) := ⟨k1, k2, k3, k4, k5, k6⟩
                    clear k1 k2 k3 k4 k5 k6 hQ2
                    go_wp2_with fail
                    refine (setA x5.heap.size P g4 f4 (m : Int) (v : Int) wr K.out.1 K.out.2.1.inv (K.out.2.2.1.mono (by omega)) K.out.2.2.2.2.1).mono ?_
                    rintro e w7 ⟨x7, f7, rfl, _, hA7, hb7, _, _⟩
                    have K7 : Hid (AS w7 x5.heap.size P (set g4 (m : Int) (v : Int)) f7 ∧ Below w.heap.size w w7 ∧ x5.heap.size ≤ w7.heap.size) := ⟨hA7, K.out.2.2.2.1.trans (hb7.mono B5.out.size), Nat.le_trans K.out.2.2.2.2.1 hb7.size⟩
                    clear hA7 hb7
                    go_wp2
                    go_roundw
                    case rel => exact ⟨m + 1, by omega, by go_num, _, f7, K7.out.1, K.out.2.1.set hmn (by omega), K.out.2.2.1.set K.out.2.1.inv.toInv0 _ _, K7.out.2.1, K7.out.2.2, by rw [cnt_congr (fun u => set_was K.out.2.1.inv.toInv0 _ _ u)]; exact K.out.2.2.2.2.2⟩
                    case measure => simp [intOf]; omega
                  · have hmn' : ¬ (m : Int) < (n : Int) := by omega
                    have hme : m = n := by omega
                    go_wp2
                    go_roundw
                    case rel =>
                      obtain ⟨g4, f4, k1, k2, k3⟩ := hQ2.out
                      rw [hme] at k2
                      exact ⟨v + 1, by omega, by omega, by go_num, g4, f4, k1, k2.next, k3⟩
                    case measure => simp [intOf]; omega
              · have hve2 : v = 31 := by omega
                subst hve2
                obtain ⟨g4, f4, k1, k2, k3, k4, k5, k6⟩ := hQ.out
                have K : Hid (AS wq x5.heap.size P g4 f4 ∧ KP n g4 31 0 ∧ Le g4 1000 ∧ Below w.heap.size w wq ∧ x5.heap.size ≤ wq.heap.size ∧ sd = (cnt g4 30 : Int)) := ⟨k1, k2, k3, k4, k5, k6⟩
                clear k1 k2 k3 k4 k5 k6 hQ
                go_wp2
                go_loopw [26] (fun x wr => ∃ m : Nat, m ≤ n ∧ x = .int .i64 (m : Int) ∧ Hid (Below wq.heap.size wq wr)) (fun x _ => n - (intOf x).toNat)
                case atStart => exact ⟨0, by omega, rfl, Below.refl _ _⟩
                case round =>
                  obtain ⟨m, hm, rfl, hB⟩ := hrel
                  by_cases hmn : m < n
                  · have hmn' : (m : Int) < (n : Int) := by omega
                    have e1 : Hid (hdC g4 (m : Int) = 0 ∧ hdL g4 (m : Int) = g4.hd m) := hd_in (by rw [K.out.2.1.num]; exact hmn)
                    go_wp2_with fail
                    refine (hdA x5.heap.size P g4 f4 (m : Int) wr (K.out.1.lat hB.out) K.out.2.1.inv (K.out.2.2.1.mono (by omega))).mono ?_
                    rintro e w7 ⟨x7, rfl, hs7, hb7⟩
                    rw [e1.out.1, errF_ok]
                    rw [e1.out.2] at hs7
                    obtain ⟨a7, c7, rfl, _, _, _⟩ := hs7
                    have hlen : ((g4.hd m).length : Int) = sd := by rw [K.out.2.1.all hmn, K.out.2.2.2.2.2]
                    obtain ⟨ll, ell⟩ : ∃ ll, ll = (g4.hd m).length := ⟨_, rfl⟩
                    rw [← ell] at hlen ⊢
                    have hd : ((ll : Int) != sd) = false := by simp [hlen]
                    have B7 : Hid (Below wq.heap.size wq w7) := hB.out.trans (hb7.mono hB.out.size)
                    clear hb7 hlen ell
                    go_wp2
                    go_roundw
                    case rel => exact ⟨m + 1, by omega, by go_num, B7.out⟩
                    case measure => simp [intOf]; omega
                  · have hmn' : ¬ (m : Int) < (n : Int) := by omega
                    go_wp2_with fail
                    refine (alike_any x5.heap.size P n g4 f4 wr (K.out.1.lat hB.out) K.out.2.1.inv (K.out.2.2.1.mono (by omega)) K.out.2.1.num.symm).mono ?_
                    rintro e w9 ⟨rfl, hb9⟩
                    go_wp2
                    go_ret
                    exact ⟨rfl, K.out.2.2.2.1.trans ((hB.out.trans (hb9.mono hB.out.size)).mono K.out.2.2.2.1.size)⟩
theorem one_any (n : Int) (a : Option Addr) (len cap : Nat) (ls : List (List Int)) (w : World) (hL : Laid w) (hR : Rw w a len ls) : Calls Tryd.prog 4 #[.int .i64 n, .slice a len cap] w fun e w' => e = .returned (.bool true) ∧ Below w.heap.size w w' := by
  by_cases h : n < 2 ∨ 5 < n
  · exact one_bad n a len cap w h
  · obtain ⟨k, rfl⟩ : ∃ k : Nat, n = (k : Int) := ⟨n.toNat, by omega⟩
    exact one_ok k a len cap ls w hL hR (by omega) (by omega)
end Go.Proofs.YtcolcjnmdejfeafDoor.Agr
