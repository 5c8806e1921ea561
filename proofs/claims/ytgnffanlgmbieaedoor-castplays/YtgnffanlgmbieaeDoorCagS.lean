/-
  Contract of the document's own Say of a member that hears by cause.
-/
import Derived.Test.YtgnffanlgmbieaeDoorCagA
import Derived.Test.YtgnffanlgmbieaeDoorMgC
import Derived.Laws.ResultCell
import Derived.Deep.RegionWith
namespace Go.Proofs.YtgnffanlgmbieaeDoor.Cau
open Go.RowKit
open Go.Proofs.YtgnffanlgmbieaeDoor.Vec (Vw code)
open Go.Proofs.YtgnffanlgmbieaeDoor.Fif (own_lt own_block own_form own_vw own_mono row_grown Kp info_int new_int int_one ret_bool lenOf)
set_option linter.unusedVariables false

theorem retS {fn : Func} {tmps : Array Value} {w : World} {p u : Tmp} {B : Nat} {v0 v1 v2 x : Value} (h : fn.results = #[.cell p 41, .tmp u]) (hp : tmps.getD p undef = .pointer (some ⟨B, 0, none⟩)) (hu : tmps.getD u undef = x)
    (y0 : w.cell? ⟨B, 0, none⟩ = some v0) (y1 : w.cell? ⟨B, 1, none⟩ = some v1) (y2 : w.cell? ⟨B, 2, none⟩ = some v2) : (results fn tmps).run Tryd.prog w = .ok (.tuple #[.agg #[v0, v1, v2], x]) w := by
  rw [results_cell_tmp h, hp, hu]
  simp [asAddr, go_sem, y0, y1, y2]
theorem k5_heap {w w' : World} {P : Nat} {K : List Int} (g : K5 w P K) (e : w'.heap = w.heap) : K5 w' P K := fun m hm => (World.cell?_of_block (w := w) (a := ⟨P, 1 + m, none⟩) (by rw [e])).trans (g m hm)

theorem keep_cells {w : World} {B P o : Nat} {u : Value} (hne : B ≠ P) {v0 v1 v2 : Value} (h : w.cell? ⟨P, o, none⟩ = some u) : (((w.setCell ⟨B, 0, none⟩ v0).setCell ⟨B, 1, none⟩ v1).setCell ⟨B, 2, none⟩ v2).cell? ⟨P, o, none⟩ = some u := by
  rw [World.cell?_setCell_other _ _ _ _ (fun e => hne (congrArg Addr.block e)), World.cell?_setCell_other _ _ _ _ (fun e => hne (congrArg Addr.block e)), World.cell?_setCell_other _ _ _ _ (fun e => hne (congrArg Addr.block e))]
  exact h
theorem below_same {w w1 w2 : World} (h : Below w1.heap.size w1 w2) (e : w1.heap = w.heap) (e1 : w1.os = w.os) (e2 : w1.tape = w.tape) (e3 : w1.output = w.output) : Below w.heap.size w w2 := by
  rw [e] at h
  exact ⟨h.os.trans e1, h.tape.trans e2, h.output.trans e3, by have := h.size; rw [e] at this; exact this, fun k hk => by rw [h.block k hk, e]⟩
set_option maxRecDepth 100000 in
theorem refSay_bad (base : Nat) (F : Nat → Prop) (P : Nat) (me : Int) (K : List Int) (es : List Es) (v : Value) (word : Int) (w : World) (g : RC w base F P me K es v) (hb : word < 1 ∨ 30 < word) :
    Calls Tryd.prog 23 #[.pointer (some ⟨P, 0, none⟩), .int .i64 word] w fun x w' => x = .returned (.tuple #[.agg #[.int .i64 0, .int .i64 0, .slice none 0 0], .int .i64 1]) ∧ Below w.heap.size w w' := by
  clear g
  rcases (show word < 1 ∨ (1 ≤ word ∧ 30 < word) by omega) with h1 | ⟨h1, h2⟩
  all_goals
    clear hb
    go_enter Tryd.func23, Tryd.ntmps23
    go_wp2
    refine bodyPost_ret (v := .tuple #[.agg #[.int .i64 0, .int .i64 0, .slice none 0 0], .int .i64 1]) (retS (B := w.heap.size) rfl rfl rfl (by go_cell) (by go_cell) (by go_cell)) rfl ?_
    exact ⟨rfl, (Below.refl _ _).alloc (Nat.le_refl _) _⟩
set_option maxRecDepth 100000 in
theorem refSay_full (base : Nat) (F : Nat → Prop) (P m : Nat) (K : List Int) (es : List Es) (v : Value) (word : Int) (w : World) (hm : m < 5) (g : RC w base F P (m : Int) K es v) (h1 : 1 ≤ word) (h2 : word ≤ 30) (hf : K.getD m 0 = 1000000) :
    Calls Tryd.prog 23 #[.pointer (some ⟨P, 0, none⟩), .int .i64 word] w fun x w' => x = .returned (.tuple #[.agg #[.int .i64 0, .int .i64 0, .slice none 0 0], .int .i64 4]) ∧ Below w.heap.size w w' := by
  have hP := World.rowIs.lt g.row
  obtain ⟨c0, z0⟩ := g.me
  obtain ⟨c1, z1⟩ := g.num hm
  rw [hf] at c1
  have hm0 : (0 : Int) ≤ (m : Int) := by omega
  have hm5 : (m : Int) < 5 := by omega
  clear g
  go_enter Tryd.func23, Tryd.ntmps23
  go_wp2_with fail
  go_quiet (fail)
  go_wp2
  refine bodyPost_ret (v := .tuple #[.agg #[.int .i64 0, .int .i64 0, .slice none 0 0], .int .i64 4]) (retS (B := w.heap.size) rfl rfl rfl (by go_cell) (by go_cell) (by go_cell)) rfl ?_
  exact ⟨rfl, (((below_drews ((Below.refl _ _).alloc (Nat.le_refl _) _) _).setCell (p := ⟨w.heap.size, 0, none⟩) (Nat.le_refl _) _).setCell (p := ⟨w.heap.size, 1, none⟩) (Nat.le_refl _) _).setCell (p := ⟨w.heap.size, 2, none⟩) (Nat.le_refl _) _⟩
set_option maxRecDepth 100000 in
set_option maxHeartbeats 1000000 in
theorem refSay_ok (base : Nat) (F : Nat → Prop) (P m : Nat) (K : List Int) (es : List Es) (v : Value) (word : Int) (w : World) (hm : m < 5) (g : RC w base F P (m : Int) K es v) (hbw : base ≤ w.heap.size) (hn : 0 ≤ K.getD m 0 ∧ K.getD m 0 < 1000000) (h1 : 1 ≤ word) (h2 : word ≤ 30) :
    Calls Tryd.prog 23 #[.pointer (some ⟨P, 0, none⟩), .int .i64 word] w fun x w' => ∃ vc, x = .returned (.tuple #[.agg #[.int .i64 (m : Int), .int .i64 word, vc], .int .i64 0]) ∧
      RC w' base F P (m : Int) (inc K (m : Int)) es v ∧ w'.ownsRow w.heap.size 3 1 vc 5 ((inc K (m : Int)).map (Value.int .i64)) ∧ Below base w w' ∧ Kp w w' P none := by
  have hP := World.rowIs.lt g.row
  obtain ⟨c0, z0⟩ := g.me
  obtain ⟨c1, z1⟩ := g.num hm
  have HG : Hid (RC w base F P (m : Int) K es v ∧ base ≤ w.heap.size) := ⟨g, hbw⟩
  obtain ⟨y, ey⟩ : ∃ y, y = K.getD m 0 := ⟨_, rfl⟩
  rw [← ey] at c1 hn
  have EY : Hid (y = K.getD m 0) := ey
  have hy : (y == 1000000) = false := by simp; omega
  have hm0 : (0 : Int) ≤ (m : Int) := by omega
  have hm5 : (m : Int) < 5 := by omega
  obtain ⟨W, eW⟩ : ∃ W, W = w.alloc (.cells #[.int .i64 0, .int .i64 0, .slice none 0 0] 41) := ⟨_, rfl⟩
  clear g hbw ey
  go_enter Tryd.func23, Tryd.ntmps23
  go_wp2_with fail
  rw [← eW]
  have BW : Hid (Below w.heap.size w W ∧ W.heap.size = w.heap.size + 1) := ⟨by rw [eW]; exact (Below.refl _ _).alloc (Nat.le_refl _) _, by rw [eW]; simp⟩
  have RW : Hid (W.rowIs w.heap.size 41 3 (fun j => if j = 2 then .slice none 0 0 else .int .i64 0)) := by
    rw [eW]
    exact World.rowIs_alloc w _ 41 _ (fun i hi => by rcases i with _ | _ | _ | i <;> first | rfl | (exfalso; have : _ < 3 := hi; omega))
  have GW : Hid (RC W base F P (m : Int) K es v) := HG.out.1.later BW.out.1
  have c0 := GW.out.me.1
  have c1 := (GW.out.num hm).1
  have z1 := (GW.out.num hm).2
  rw [← EY.out] at c1
  clear eW
  go_quiet (fail)
  go_wp2_with fail
  go_region
  obtain ⟨W2, eW2⟩ : ∃ W2, W2 = (W.drewN (nq + 1)).setCell ⟨P, 1 + m, none⟩ (.int .i64 (y + 1)) := ⟨_, rfl⟩
  rw [← eW2]
  have ei : inc K (m : Int) = K.set m (y + 1) := by rw [inc, Int.toNat_natCast, EY.out]
  have R2 : Hid (RC W2 base F P (m : Int) (inc K (m : Int)) es v ∧ W2.rowIs w.heap.size 41 3 (fun j => if j = 2 then .slice none 0 0 else .int .i64 0) ∧ Below base w W2 ∧ Kp w W2 P none ∧ w.heap.size < W2.heap.size) := by
    have gd : RC (W.drewN (nq + 1)) base F P (m : Int) K es v := GW.out.later (below_drews (Below.refl _ _) _)
    have hne : w.heap.size ≠ P := by omega
    rw [eW2]
    refine ⟨by rw [ei]; exact gd.setK hm (y + 1), (RW.out.of_block rfl : (W.drewN (nq + 1)).rowIs _ _ _ _).setOther (a := ⟨P, 1 + m, none⟩) hne _, ((below_drews (BW.out.1.mono HG.out.2) _).setCell (p := ⟨P, 1 + m, none⟩) HG.out.1.low _), (Kp.below (below_drews BW.out.1 _) none).trans (Kp.setCell _ P (1 + m) _ none) (by simp), ?_⟩
    simp [World.setCell]
    have := BW.out.2
    show w.heap.size < W.heap.size
    omega
  have k2 := R2.out.1.me.1
  have P2 : Hid (P < W2.heap.size ∧ (inc K (m : Int)).length = 5) := ⟨World.rowIs.lt R2.out.1.row, R2.out.1.five⟩
  have HNE : Hid (w.heap.size ≠ P) := (by show _ ≠ _; omega)
  clear eW2 c0 c1 z1 z0 RW GW
  go_wp2_with fail
  go_region_held3 (fun w' => w'.cell? ⟨P, 0, none⟩ = some (.int .i64 (m : Int))) (first | exact k9 | exact k2 | exact keep_cells HNE.out k9 | go_keep) (first
    | (go_at_call 39; refine (list_any P (inc K (m : Int)) _ P2.out.2 (by exact P2.out.1) (by exact k5_heap R2.out.1.k5 rfl)).mono ?_; rintro e w9 ⟨vc, rfl, hO, hB⟩; obtain ⟨qc, cc, rfl⟩ := own_form hO; have B9 : Hid (Below W2.heap.size W2 w9 ∧ w9.ownsRow W2.heap.size 3 1 (.slice qc 5 cc) 5 ((inc K (m : Int)).map (Value.int .i64))) := ⟨below_same hB rfl rfl rfl rfl, hO⟩; have k9 := (B9.out.1.cell (p := ⟨P, 0, none⟩) P2.out.1).trans k2; have r9 := World.rowIs.of_block R2.out.2.1 (B9.out.1.block _ R2.out.2.2.2.2); have y0 := World.rowIs.cell r9 (i := 0) (by omega); have y1 := World.rowIs.cell r9 (i := 1) (by omega); have y2 := World.rowIs.cell r9 (i := 2) (by omega); have f0 := World.rowIs.frozen r9 0; have f1 := World.rowIs.frozen r9 1; have f2 := World.rowIs.frozen r9 2; have R9 : Hid (w9.rowIs w.heap.size 41 3 (fun j => if j = 2 then .slice none 0 0 else .int .i64 0)) := r9; clear hO hB r9))
  go_wp2
  have r3 := ((World.rowIs.set R9.out 0 (.int .i64 (m : Int))).set 1 (.int .i64 word)).set 2 (.slice qc 5 cc)
  have u0 := r3.cell (i := 0) (by omega)
  have u1 := r3.cell (i := 1) (by omega)
  have u2 := r3.cell (i := 2) (by omega)
  simp at u0 u1 u2
  refine bodyPost_ret (v := .tuple #[.agg #[.int .i64 (m : Int), .int .i64 word, .slice qc 5 cc], .int .i64 0]) (retS (B := w.heap.size) rfl rfl rfl u0 u1 u2) rfl ?_
  have g9 := R2.out.1.later B9.out.1
  have hbb : base ≤ w.heap.size := HG.out.2
  have b9 : Below base w w9 := R2.out.2.2.1.trans (B9.out.1.mono (Nat.le_trans hbb (Nat.le_of_lt R2.out.2.2.2.2)))
  have bl : ∀ k, k ≠ w.heap.size → (((w9.setCell ⟨w.heap.size, 0, none⟩ (.int .i64 (m : Int))).setCell ⟨w.heap.size, 1, none⟩ (.int .i64 word)).setCell ⟨w.heap.size, 2, none⟩ (.slice qc 5 cc)).heap[k]? = w9.heap[k]? := by
    intro k hk
    rw [Deep.blk_setCell_other _ _ _ _ hk, Deep.blk_setCell_other _ _ _ _ hk, Deep.blk_setCell_other _ _ _ _ hk]
  have bb : ∀ (a : World), Below base a w9 → Below base a (((w9.setCell ⟨w.heap.size, 0, none⟩ (.int .i64 (m : Int))).setCell ⟨w.heap.size, 1, none⟩ (.int .i64 word)).setCell ⟨w.heap.size, 2, none⟩ (.slice qc 5 cc)) := fun a h => ((h.setCell (p := ⟨w.heap.size, 0, none⟩) hbb _).setCell (p := ⟨w.heap.size, 1, none⟩) hbb _).setCell (p := ⟨w.heap.size, 2, none⟩) hbb _
  refine ⟨_, rfl, g9.of_blocks (bb w9 (Below.refl _ _)).size (fun b hb => bl b (Nat.ne_of_lt (HG.out.1.flt b hb))) (bl P (Ne.symm HNE.out)) (fun k hk => bl k (Nat.ne_of_lt (own_lt HG.out.1.own k hk).2)), own_mono (own_block B9.out.2 (fun k hk => bl k (by have := (own_lt B9.out.2 k hk).1; have := R2.out.2.2.2.2; omega))) (Nat.le_of_lt R2.out.2.2.2.2), bb w b9, ⟨?_, fun b hb hP' hr => ?_⟩⟩
  · exact (bb w b9).size
  · rw [bl b (by omega), B9.out.1.block b (by have := R2.out.2.2.2.2; omega)]
    exact R2.out.2.2.2.1.2 b hb hP' hr
theorem refSay (base : Nat) (F : Nat → Prop) (P : Nat) (me : Int) (K : List Int) (es : List Es) (v : Value) (word : Int) (w : World) (g : RC w base F P me K es v) (hi : CInv me K (es.map toSd)) (hbw : base ≤ w.heap.size) :
    Calls Tryd.prog 23 #[.pointer (some ⟨P, 0, none⟩), .int .i64 word] w fun x w' => ∃ s0 s1 vc, x = .returned (.tuple #[.agg #[.int .i64 s0, .int .i64 s1, vc], .int .i64 (sayC me K word)]) ∧
      RC w' base F P me (sayK me K word) es v ∧ SayR w' w.heap.size me K word s0 s1 vc ∧ Below base w w' ∧ Kp w w' P none := by
  have no : ∀ k : Int, k ≠ 0 → sayC me K word = k → ∀ x w', (x = Ending.returned (.tuple #[.agg #[.int .i64 0, .int .i64 0, .slice none 0 0], .int .i64 k]) ∧ Below w.heap.size w w') → ∃ s0 s1 vc, x = .returned (.tuple #[.agg #[.int .i64 s0, .int .i64 s1, vc], .int .i64 (sayC me K word)]) ∧
      RC w' base F P me (sayK me K word) es v ∧ SayR w' w.heap.size me K word s0 s1 vc ∧ Below base w w' ∧ Kp w w' P none := by
    rintro k hk0 hk x w' ⟨rfl, hb⟩
    have h0 : ¬ sayC me K word = 0 := by rw [hk]; exact hk0
    refine ⟨0, 0, .slice none 0 0, by rw [hk], ?_, ⟨(if_neg h0).symm, (if_neg h0).symm, ?_⟩, hb.mono hbw, Kp.below hb _⟩
    · rw [sayK, if_neg h0]; exact g.later hb
    · rw [sayL, if_neg h0]; exact World.ownsRow_nil _ _ _ _
  obtain ⟨m, rfl⟩ : ∃ m : Nat, me = (m : Int) := ⟨me.toNat, by have := hi.me; omega⟩
  have hm : m < 5 := by have := hi.me; omega
  by_cases h1 : word < 1 ∨ 30 < word
  · exact (refSay_bad base F P (m : Int) K es v word w g h1).mono (no 1 (by decide) (if_pos h1))
  · by_cases h2 : K.getD m 0 = 1000000
    · exact (refSay_full base F P m K es v word w hm g (by omega) (by omega) h2).mono (no 4 (by decide) (by rw [sayC, if_neg h1, Int.toNat_natCast, if_pos h2]))
    · have h0 : sayC (m : Int) K word = 0 := by rw [sayC, if_neg h1, Int.toNat_natCast, if_neg h2]
      have hn := hi.num m hm
      refine (refSay_ok base F P m K es v word w hm g hbw (by omega) (by omega) (by omega)).mono ?_
      rintro x w' ⟨vc, rfl, r, o, b, k⟩
      refine ⟨(m : Int), word, vc, by rw [h0], by rw [sayK, if_pos h0]; exact r, ⟨(if_pos h0).symm, (if_pos h0).symm, ?_⟩, b, k⟩
      rw [sayL, if_pos h0]
      have e5 : (inc K (m : Int)).length = 5 := r.five
      rw [e5]
      exact o
end Go.Proofs.YtgnffanlgmbieaeDoor.Cau
