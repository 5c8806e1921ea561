/-
  Contract of package cause's Say.
-/
import Derived.Test.YtndjejbnappmeadDoorCapT
namespace Go.Proofs.YtndjejbnappmeadDoor.Cap
open Go.RowKit Go.Maps
open Go.Proofs.YtndjejbnappmeadDoor.Cau
open Go.Proofs.YtndjejbnappmeadDoor.Vec (code Vw anyP ret_bool)
open Go.Proofs.YtndjejbnappmeadDoor.Fif (own_lt own_block own_mono own_vw own_form Kp info_int)
set_option linter.unusedVariables false
variable {base P mb : Nat} {K : List Int} {cn : Int} {es : List En}

theorem retS {fn : Func} {tmps : Array Value} {w : World} {p u : Tmp} {B : Nat} {v0 v1 v2 x : Value} (h : fn.results = #[.cell p 35, .tmp u]) (hp : tmps.getD p undef = .pointer (some ⟨B, 0, none⟩)) (hu : tmps.getD u undef = x)
    (y0 : w.cell? ⟨B, 0, none⟩ = some v0) (y1 : w.cell? ⟨B, 1, none⟩ = some v1) (y2 : w.cell? ⟨B, 2, none⟩ = some v2) : (results fn tmps).run Tryd.prog w = .ok (.tuple #[.agg #[v0, v1, v2], x]) w := by
  rw [results_cell_tmp h, hp, hu]
  simp [asAddr, go_sem, y0, y1, y2]
theorem keep_cells {w : World} {B P o : Nat} {u : Value} (hne : B ≠ P) {v0 v1 v2 : Value} (h : w.cell? ⟨P, o, none⟩ = some u) : (((w.setCell ⟨B, 0, none⟩ v0).setCell ⟨B, 1, none⟩ v1).setCell ⟨B, 2, none⟩ v2).cell? ⟨P, o, none⟩ = some u := by
  rw [World.cell?_setCell_other _ _ _ _ (fun e => hne (congrArg Addr.block e)), World.cell?_setCell_other _ _ _ _ (fun e => hne (congrArg Addr.block e)), World.cell?_setCell_other _ _ _ _ (fun e => hne (congrArg Addr.block e))]
  exact h
theorem below_same0 {w w1 w2 : World} (h : Below w1.heap.size w1 w2) (e : w1.heap = w.heap) (e1 : w1.os = w.os) (e2 : w1.tape = w.tape) (e3 : w1.output = w.output) : Below w.heap.size w w2 := by
  rw [e] at h
  exact ⟨h.os.trans e1, h.tape.trans e2, h.output.trans e3, by have := h.size; rw [e] at this; exact this, fun k hk => by rw [h.block k hk, e]⟩
theorem set3 {B : Nat} {a w : World} (h : Below B a w) {b : Nat} (hb : B ≤ b) (v0 v1 v2 : Value) : Below B a (((w.setCell ⟨b, 0, none⟩ v0).setCell ⟨b, 1, none⟩ v1).setCell ⟨b, 2, none⟩ v2) := ((h.setCell (p := ⟨b, 0, none⟩) hb _).setCell (p := ⟨b, 1, none⟩) hb _).setCell (p := ⟨b, 2, none⟩) hb _
set_option maxRecDepth 100000 in
theorem say_bad (P : Nat) (word : Int) (w : World) (hb : word < 1 ∨ 30 < word) :
    Calls Tryd.prog 7 #[.pointer (some ⟨P, 0, none⟩), .int .i64 word] w fun x w' => x = .returned (.tuple #[.agg #[.int .i64 0, .int .i64 0, .slice none 0 0], .iface 50 (.int .i64 1)]) ∧ Below w.heap.size w w' := by
  go_enter Tryd.func7, Tryd.ntmps7
  go_wp2_with fail
  refine (word_no word _ hb).mono ?_
  rintro e w1 ⟨rfl, rfl⟩
  go_wp2
  refine bodyPost_ret (v := .tuple #[.agg #[.int .i64 0, .int .i64 0, .slice none 0 0], .iface 50 (.int .i64 1)]) (retS (B := w.heap.size) rfl rfl rfl (by go_cell) (by go_cell) (by go_cell)) rfl ?_
  exact ⟨rfl, (Below.refl _ _).alloc (Nat.le_refl _) _⟩
set_option maxRecDepth 100000 in
theorem say_full (m : Nat) (word : Int) (w : World) (hm : m < 5) (g : CF w base P mb (m : Int) K cn es) (h1 : 1 ≤ word) (h2 : word ≤ 30) (hf : K.getD m 0 = 1000000) :
    Calls Tryd.prog 7 #[.pointer (some ⟨P, 0, none⟩), .int .i64 word] w fun x w' => x = .returned (.tuple #[.agg #[.int .i64 0, .int .i64 0, .slice none 0 0], .iface 50 (.int .i64 4)]) ∧ Below w.heap.size w w' := by
  have hP := g.lt.1
  obtain ⟨c0, z0⟩ := g.who
  obtain ⟨c1, z1⟩ := g.clock hm
  rw [hf] at c1
  have hm0 : (0 : Int) ≤ (m : Int) := by omega
  have hm5 : (m : Int) < 5 := by omega
  clear g
  go_enter Tryd.func7, Tryd.ntmps7
  go_wp2_with fail
  refine (word_yes word _ h1 h2).mono ?_
  rintro e w1 ⟨rfl, rfl⟩
  go_wp2_with fail
  go_quiet (fail)
  go_wp2
  refine bodyPost_ret (v := .tuple #[.agg #[.int .i64 0, .int .i64 0, .slice none 0 0], .iface 50 (.int .i64 4)]) (retS (B := w.heap.size) rfl rfl rfl (by go_cell) (by go_cell) (by go_cell)) rfl ?_
  exact ⟨rfl, set3 (below_drews ((Below.refl _ _).alloc (Nat.le_refl _) _) _) (Nat.le_refl _) _ _ _⟩
set_option maxRecDepth 100000 in
set_option maxHeartbeats 1000000 in
theorem say_ok (m : Nat) (word : Int) (w : World) (hm : m < 5) (g : CF w base P mb (m : Int) K cn es) (hbw : base ≤ w.heap.size) (hn : K.getD m 0 < 1000000) (h1 : 1 ≤ word) (h2 : word ≤ 30) :
    Calls Tryd.prog 7 #[.pointer (some ⟨P, 0, none⟩), .int .i64 word] w fun x w' => ∃ vc, x = .returned (.tuple #[.agg #[.int .i64 (m : Int), .int .i64 word, vc], .nilIface]) ∧
      CF w' base P mb (m : Int) (inc K (m : Int)) cn es ∧ w'.ownsRow w.heap.size 3 1 vc 5 ((inc K (m : Int)).map (Value.int .i64)) ∧ Below base w w' ∧ Kp w w' P none := by
  have hP := g.lt.1
  have HG : Hid (CF w base P mb (m : Int) K cn es ∧ base ≤ w.heap.size) := ⟨g, hbw⟩
  obtain ⟨y, ey⟩ : ∃ y, y = K.getD m 0 := ⟨_, rfl⟩
  have hn0 := (g.num m hm).1
  rw [← ey] at hn hn0
  have EY : Hid (y = K.getD m 0) := ey
  have hy : (y == 1000000) = false := by simp; omega
  have hm0 : (0 : Int) ≤ (m : Int) := by omega
  have hm5 : (m : Int) < 5 := by omega
  obtain ⟨W, eW⟩ : ∃ W, W = w.alloc (.cells #[.int .i64 0, .int .i64 0, .slice none 0 0] 35) := ⟨_, rfl⟩
  clear g hbw ey
  go_enter Tryd.func7, Tryd.ntmps7
  go_wp2_with fail
  refine (word_yes word _ h1 h2).mono ?_
  rintro e w1 ⟨rfl, rfl⟩
  rw [← eW]
  have BW : Hid (Below w.heap.size w W ∧ W.heap.size = w.heap.size + 1) := ⟨by rw [eW]; exact (Below.refl _ _).alloc (Nat.le_refl _) _, by rw [eW]; simp⟩
  have RW : Hid (W.rowIs w.heap.size 35 3 (fun j => if j = 2 then .slice none 0 0 else .int .i64 0)) := by
    rw [eW]
    exact World.rowIs_alloc w _ 35 _ (fun i hi => by rcases i with _ | _ | _ | i <;> first | rfl | (exfalso; have : _ < 3 := hi; omega))
  have GW : Hid (CF W base P mb (m : Int) K cn es) := HG.out.1.later BW.out.1
  have c0 := GW.out.who.1
  have c1 := (GW.out.clock hm).1
  have z1 := (GW.out.clock hm).2
  rw [← EY.out] at c1
  clear eW
  go_wp2_with fail
  go_quiet (fail)
  go_wp2_with fail
  go_region
  obtain ⟨W2, eW2⟩ : ∃ W2, W2 = (W.drewN (nq + 1)).setCell ⟨P, 1 + m, none⟩ (.int .i64 (y + 1)) := ⟨_, rfl⟩
  rw [← eW2]
  have R2 : Hid (CF W2 base P mb (m : Int) (inc K (m : Int)) cn es ∧ W2.rowIs w.heap.size 35 3 (fun j => if j = 2 then .slice none 0 0 else .int .i64 0) ∧ Below base w W2 ∧ Kp w W2 P none ∧ w.heap.size < W2.heap.size) := by
    have gd : CF (W.drewN (nq + 1)) base P mb (m : Int) K cn es := GW.out.later (below_drews (Below.refl _ _) _)
    have gi := gd.incK hm (by rw [← EY.out]; exact hn)
    rw [← EY.out] at gi
    have hne : w.heap.size ≠ P := by omega
    rw [eW2]
    refine ⟨gi, (RW.out.of_block rfl : (W.drewN (nq + 1)).rowIs _ _ _ _).setOther (a := ⟨P, 1 + m, none⟩) hne _, ((below_drews (BW.out.1.mono HG.out.2) _).setCell (p := ⟨P, 1 + m, none⟩) HG.out.1.low.1 _), (Kp.below (below_drews BW.out.1 _) none).trans (Kp.setCell _ P (1 + m) _ none) (by simp), ?_⟩
    simp [World.setCell]
    have := BW.out.2
    show w.heap.size < W.heap.size
    omega
  have k2 := R2.out.1.who.1
  have P2 : Hid (P < W2.heap.size) := R2.out.1.lt.1
  have HNE : Hid (w.heap.size ≠ P) := (by show _ ≠ _; omega)
  clear eW2 c0 c1 z1 RW GW
  go_wp2_with fail
  go_region_held3 (fun w' => w'.cell? ⟨P, 0, none⟩ = some (.int .i64 (m : Int))) (first | exact k9 | exact k2 | exact keep_cells HNE.out k9 | go_keep) (first
    | (go_at_call 12; refine (clock_any (base := base) (mb := mb) (me := (m : Int)) (K := inc K (m : Int)) (cn := cn) (es := es) (by exact R2.out.1.of_blocks fun _ _ => rfl)).mono ?_; rintro e w9 ⟨vc, rfl, hO, hB⟩; obtain ⟨qc, cc, rfl⟩ := own_form hO; have B9 : Hid (Below W2.heap.size W2 w9 ∧ w9.ownsRow W2.heap.size 3 1 (.slice qc 5 cc) 5 ((inc K (m : Int)).map (Value.int .i64))) := ⟨below_same0 hB rfl rfl rfl rfl, hO⟩; have k9 := (B9.out.1.cell (p := ⟨P, 0, none⟩) P2.out).trans k2; have r9 := World.rowIs.of_block R2.out.2.1 (B9.out.1.block _ R2.out.2.2.2.2); have y0 := World.rowIs.cell r9 (i := 0) (by omega); have y1 := World.rowIs.cell r9 (i := 1) (by omega); have y2 := World.rowIs.cell r9 (i := 2) (by omega); have f0 := World.rowIs.frozen r9 0; have f1 := World.rowIs.frozen r9 1; have f2 := World.rowIs.frozen r9 2; have R9 : Hid (w9.rowIs w.heap.size 35 3 (fun j => if j = 2 then .slice none 0 0 else .int .i64 0)) := r9; clear hO hB r9))
  go_wp2
  have r3 := ((World.rowIs.set R9.out 0 (.int .i64 (m : Int))).set 1 (.int .i64 word)).set 2 (.slice qc 5 cc)
  have u0 := r3.cell (i := 0) (by omega)
  have u1 := r3.cell (i := 1) (by omega)
  have u2 := r3.cell (i := 2) (by omega)
  simp at u0 u1 u2
  refine bodyPost_ret (v := .tuple #[.agg #[.int .i64 (m : Int), .int .i64 word, .slice qc 5 cc], .nilIface]) (retS (B := w.heap.size) rfl rfl rfl u0 u1 u2) rfl ?_
  have g9 := R2.out.1.later B9.out.1
  have hbb : base ≤ w.heap.size := HG.out.2
  have b9 : Below base w w9 := R2.out.2.2.1.trans (B9.out.1.mono (Nat.le_trans hbb (Nat.le_of_lt R2.out.2.2.2.2)))
  have bl : ∀ k, k ≠ w.heap.size → (((w9.setCell ⟨w.heap.size, 0, none⟩ (.int .i64 (m : Int))).setCell ⟨w.heap.size, 1, none⟩ (.int .i64 word)).setCell ⟨w.heap.size, 2, none⟩ (.slice qc 5 cc)).heap[k]? = w9.heap[k]? := by
    intro k hk
    rw [Deep.blk_setCell_other _ _ _ _ hk, Deep.blk_setCell_other _ _ _ _ hk, Deep.blk_setCell_other _ _ _ _ hk]
  refine ⟨_, rfl, g9.of_blocks (fun k hk => bl k (Nat.ne_of_lt (HG.out.1.fp k hk).2)), own_mono (own_block B9.out.2 (fun k hk => bl k (by have := (own_lt B9.out.2 k hk).1; have := R2.out.2.2.2.2; omega))) (Nat.le_of_lt R2.out.2.2.2.2), set3 b9 hbb _ _ _, ⟨?_, fun b hb hP' hr => ?_⟩⟩
  · exact (set3 b9 hbb (.int .i64 (m : Int)) (.int .i64 word) (.slice qc 5 cc)).size
  · rw [bl b (by omega), B9.out.1.block b (by have := R2.out.2.2.2.2; omega)]
    exact R2.out.2.2.2.1.2 b hb hP' hr
end Go.Proofs.YtndjejbnappmeadDoor.Cap
