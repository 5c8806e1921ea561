/-
  Contracts of package net's small functions: isMember, isWord, checkTwo, wayOf, has, isCut, New.
-/
import Derived.Test.YtmlafflmgagkjadDoorNetF
import Derived.WalkLawsBesides
import Derived.Deep.QuietTactic
import Derived.BigQuiet
import Derived.Deep.RegionHeld3
import Derived.Handy
import Derived.Laws.ResultCell
namespace Go.Proofs.YtmlafflmgagkjadDoor.Nw
open Go.RowKit Go.Maps
open Go.Proofs.YtmlafflmgagkjadDoor.Net
open Go.Proofs.YtmlafflmgagkjadDoor.Fif (own_lt own_block own_form own_mono Kp ret_bool)
set_option linter.unusedVariables false

theorem member_yes (x : Int) (w : World) (h1 : 0 ≤ x) (h2 : x ≤ 4) : Calls Tryd.prog 52 #[.int .i64 x] w fun e w' => e = .returned (.bool true) ∧ w' = w := by
  go_enter Tryd.func52, Tryd.ntmps52
  go_wp2
  go_ret
  exact ⟨ret_bool (decide_eq_true (by omega)), rfl⟩
theorem member_no (x : Int) (w : World) (h : x < 0 ∨ 4 < x) : Calls Tryd.prog 52 #[.int .i64 x] w fun e w' => e = .returned (.bool false) ∧ w' = w := by
  by_cases h1 : 0 ≤ x
  · have h2 : ¬ x ≤ 4 := by omega
    have h3 : ¬ x < 4 + 1 := by omega
    go_enter Tryd.func52, Tryd.ntmps52
    go_wp2
    go_ret
    exact ⟨ret_bool (decide_eq_false (by omega)), rfl⟩
  · go_enter Tryd.func52, Tryd.ntmps52
    go_wp2
    go_ret
    exact ⟨rfl, rfl⟩
theorem member_any (x : Int) (w : World) : Calls Tryd.prog 52 #[.int .i64 x] w fun e w' => e = .returned (.bool (mem5 x)) ∧ w' = w := by
  cases h : mem5 x
  · exact member_no x w (mem5_no h)
  · exact member_yes x w (mem5_num h).1 (mem5_num h).2
theorem word_yes (x : Int) (w : World) (h1 : 1 ≤ x) (h2 : x ≤ 30) : Calls Tryd.prog 39 #[.int .i64 x] w fun e w' => e = .returned (.bool true) ∧ w' = w := by
  go_enter Tryd.func39, Tryd.ntmps39
  go_wp2
  go_ret
  exact ⟨rfl, rfl⟩
theorem word_no (x : Int) (w : World) (h : x < 1 ∨ 30 < x) : Calls Tryd.prog 39 #[.int .i64 x] w fun e w' => e = .returned (.bool false) ∧ w' = w := by
  by_cases h1 : 1 ≤ x
  · have h2 : ¬ x ≤ 30 := by omega
    have h3 : ¬ x < 30 + 1 := by omega
    go_enter Tryd.func39, Tryd.ntmps39
    go_wp2
    go_ret
    exact ⟨rfl, rfl⟩
  · go_enter Tryd.func39, Tryd.ntmps39
    go_wp2
    go_ret
    exact ⟨rfl, rfl⟩
theorem two_any (a b : Int) (w : World) : Calls Tryd.prog 40 #[.int .i64 a, .int .i64 b] w fun e w' => e = .returned (errF (cutC a b)) ∧ w' = w := by
  cases ha : mem5 a
  · have hc : cutC a b = 1 := if_neg fun q => by rw [ha] at q; cases q.1
    rw [hc, errF_no (by decide)]
    go_enter Tryd.func40, Tryd.ntmps40
    go_wp2_with fail
    refine (member_any a w).mono ?_
    rintro e w1 ⟨rfl, rfl⟩
    rw [ha]
    go_wp2
    go_ret
    exact ⟨rfl, rfl⟩
  · cases hb : mem5 b
    · have hc : cutC a b = 1 := if_neg fun q => by rw [hb] at q; cases q.2
      rw [hc, errF_no (by decide)]
      go_enter Tryd.func40, Tryd.ntmps40
      go_wp2_with fail
      refine (member_any a w).mono ?_
      rintro e w1 ⟨rfl, rfl⟩
      rw [ha]
      go_wp2_with fail
      refine (member_any b _).mono ?_
      rintro e w1 ⟨rfl, rfl⟩
      rw [hb]
      go_wp2
      go_ret
      exact ⟨rfl, rfl⟩
    · by_cases hne : a = b
      · have hc : cutC a b = 3 := by unfold cutC; rw [if_pos ⟨ha, hb⟩, if_pos hne]
        rw [hc, errF_no (by decide)]
        subst hne
        go_enter Tryd.func40, Tryd.ntmps40
        go_wp2_with fail
        refine (member_any a w).mono ?_
        rintro e w1 ⟨rfl, rfl⟩
        rw [ha]
        go_wp2_with fail
        refine (member_any a _).mono ?_
        rintro e w1 ⟨rfl, rfl⟩
        rw [ha]
        go_wp2
        go_ret
        exact ⟨rfl, rfl⟩
      · have hc : cutC a b = 0 := by unfold cutC; rw [if_pos ⟨ha, hb⟩, if_neg hne]
        rw [hc, errF_ok]
        have hd : decide (a = b) = false := decide_eq_false hne
        go_enter Tryd.func40, Tryd.ntmps40
        go_wp2_with fail
        refine (member_any a w).mono ?_
        rintro e w1 ⟨rfl, rfl⟩
        rw [ha]
        go_wp2_with fail
        refine (member_any b _).mono ?_
        rintro e w1 ⟨rfl, rfl⟩
        rw [hb]
        go_wp2
        go_ret
        exact ⟨rfl, rfl⟩
theorem results_one {fn : Func} {p : Tmp} {ty : TypeId} (h : fn.results = #[.cell p ty]) (tmps : Array Value) (P : Program) (w : World) :
    (results fn tmps).run P w = ((asAddr (tmps.getD p undef)).run P w).andThen fun a w₁ => (loadVar ty a).run P w₁ := by
  simp only [results, h]
  simp [Sem.run_bind]
theorem retW {fn : Func} {tmps : Array Value} {w : World} {p : Tmp} {B : Nat} {v0 v1 : Value} (h : fn.results = #[.cell p 97]) (hp : tmps.getD p undef = .pointer (some ⟨B, 0, none⟩))
    (y0 : w.cell? ⟨B, 0, none⟩ = some v0) (y1 : w.cell? ⟨B, 1, none⟩ = some v1) : (results fn tmps).run Tryd.prog w = .ok (.agg #[v0, v1]) w := by
  rw [results_one h, hp]
  simp [asAddr, go_sem, y0, y1]
set_option maxRecDepth 100000 in
theorem way_any (a b : Int) (w : World) : Calls Tryd.prog 42 #[.int .i64 a, .int .i64 b] w fun e w' => e = .returned (.agg #[.int .i64 (min a b), .int .i64 (max a b)]) ∧ Below w.heap.size w w' := by
  have e1 : (if b < a then b else a) = min a b := by split <;> omega
  have e2 : (if a < b then b else a) = max a b := by split <;> omega
  go_enter Tryd.func42, Tryd.ntmps42
  go_wp2
  refine bodyPost_ret (v := .agg #[.int .i64 (min a b), .int .i64 (max a b)]) (retW (B := w.heap.size) rfl rfl (by go_cell) (by go_cell)) rfl ?_
  exact ⟨rfl, (Below.refl _ _).alloc (Nat.le_refl _) _⟩
variable {base P mb : Nat} {no : Int → Int → Bool} {l : List Pk} {v : Value}
theorem has_any (i : Int) (w : World) (g : NF w base P mb no l v) : Calls Tryd.prog 43 #[.pointer (some ⟨P, 0, none⟩), .int .i64 i] w fun e w' => e = .returned (.bool (isIn l i)) ∧ w' = w := by
  obtain ⟨c0, z0⟩ := g.list
  obtain ⟨q, cap, rfl⟩ := own_form g.own
  have e : isIn l i = (decide (0 ≤ i) && decide (i < (l.length : Int))) := rfl
  rw [e]
  clear g e
  by_cases h0 : 0 ≤ i
  · have hd : decide (i ≥ 0) = true := decide_eq_true h0
    go_enter Tryd.func43, Tryd.ntmps43
    go_wp2
    go_ret
    exact ⟨ret_bool (by simp [h0]), rfl⟩
  · have hd : decide (i ≥ 0) = false := decide_eq_false h0
    go_enter Tryd.func43, Tryd.ntmps43
    go_wp2
    go_ret
    exact ⟨ret_bool (by simp), rfl⟩
set_option maxRecDepth 100000 in
theorem newF (w : World) : Calls Tryd.prog 18 #[] w fun x w' => x = .returned (.pointer (some ⟨w.heap.size + 1, 0, none⟩)) ∧ NF w' w.heap.size (w.heap.size + 1) w.heap.size (fun _ _ => false) [] (.slice none 0 0) ∧ Below w.heap.size w w' := by
  have hmk : ∀ W : World, (Instr.makeMap 91 none).run Tryd.prog W = .ok (.map (some W.heap.size)) (W.alloc (.map #[] 0)) := fun _ => rfl
  have A0 : Hid (((w.alloc (.map #[] 0)).alloc (.cells #[.slice none 0 0, .map (some w.heap.size)] 93)).rowIs (w.heap.size + 1) 93 2 (nsv (.slice none 0 0) w.heap.size)) := by
    have q := World.rowIs_alloc (w.alloc (.map #[] 0)) #[.slice none 0 0, .map (some w.heap.size)] 93 (nsv (.slice none 0 0) w.heap.size) (fun i hi => by
      rcases i with _ | _ | i <;> first | rfl | (exfalso; have : _ < 2 := hi; omega))
    show World.rowIs _ _ _ _ _
    simpa using q
  go_enter Tryd.func18, Tryd.ntmps18
  go_wp2
  go_ret
  refine ⟨rfl, ⟨A0.out, ⟨.map [], own_heap (World.ownsMap_made w _ _ _) ?_, MC.start⟩, World.ownsRow_nil _ _ _ _, ⟨Nat.le_succ _, Nat.le_refl _⟩⟩, ((Below.refl _ _).alloc (Nat.le_refl _) _).alloc (by simp) _⟩
  rw [Below.heap_alloc _ _ _ (by simp)]
theorem below_push {w X w' : World} {ob : Obj} (h : Below X.heap.size X w') (e : X.heap = w.heap.push ob) (e1 : X.os = w.os) (e2 : X.tape = w.tape) (e3 : X.output = w.output) : Below w.heap.size w w' := by
  have hs : X.heap.size = w.heap.size + 1 := by rw [e]; simp
  exact ⟨h.os.trans e1, h.tape.trans e2, h.output.trans e3, by have := h.size; omega, fun k hk => (h.block k (by omega)).trans (blk_push e hk)⟩
set_option maxRecDepth 100000 in
theorem cut_any (a b : Int) (w : World) (g : NF w base P mb no l v) (ha : mem5 a = true) (hb : mem5 b = true) (hne : a ≠ b) : Calls Tryd.prog 44 #[.pointer (some ⟨P, 0, none⟩), .int .i64 a, .int .i64 b] w fun e w' => e = .returned (.bool (no a b)) ∧ Below w.heap.size w w' := by
  have HF : Hid (∀ w' : World, (∀ k, k < w.heap.size → w'.heap[k]? = w.heap[k]?) → w'.cell? ⟨P, 1, none⟩ = some (.map (some mb)) ∧ (Instr.lookup 91 (.map (some mb)) (.agg #[.int .i64 (min a b), .int .i64 (max a b)]) true).run Tryd.prog w' = .ok (.tuple #[.agg #[], .bool (no a b)]) w') := by
    intro w' h
    exact ⟨(World.cell?_of_block (a := ⟨P, 1, none⟩) (h P g.lt.1)).trans g.cut.1, g.look ha hb hne w' (h mb g.lt.2)⟩
  obtain ⟨n, en⟩ : ∃ n, n = no a b := ⟨_, rfl⟩
  rw [← en] at HF ⊢
  clear g ha hb hne en
  go_enter Tryd.func44, Tryd.ntmps44
  go_wp2_with fail
  go_region_held3 (fun w' => w'.cell? ⟨P, 1, none⟩ = some (.map (some mb)) ∧ (Instr.lookup 91 (.map (some mb)) (.agg #[.int .i64 (min a b), .int .i64 (max a b)]) true).run Tryd.prog w' = .ok (.tuple #[.agg #[], .bool n]) w') (first | exact HF.out _ (fun _ _ => rfl) | exact HF.out _ B4.out.block | exact HF.out _ (fun k hk => blk_push rfl hk) | exact HF.out _ (fun k hk => (blk_push rfl (Nat.lt_of_lt_of_le hk B4.out.size)).trans (B4.out.block k hk))) (first
    | (go_at_call 42; refine (way_any a b _).mono ?_; rintro e4 w4 ⟨rfl, hb⟩; have B4 : Hid (Below w.heap.size w w4) := (by first | exact below_same hb rfl rfl rfl rfl | exact below_push hb rfl rfl rfl rfl); clear hb))
  all_goals go_wp2
  all_goals go_ret
  all_goals first | exact ⟨rfl, B4.out⟩ | exact ⟨rfl, B4.out.alloc B4.out.size _⟩ | exact ⟨rfl, below_drews B4.out _⟩ | exact ⟨rfl, below_drews (B4.out.alloc B4.out.size _) _⟩
end Go.Proofs.YtmlafflmgagkjadDoor.Nw
