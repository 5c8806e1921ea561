/-
  The document's own group that flushes: NewFlush.
-/
import Derived.Test.YtgdmbnfdcbekaaiDoorFlqS
namespace Go.Proofs.YtgdmbnfdcbekaaiDoor.Flu
open Go.RowKit
open Go.Proofs.YtgdmbnfdcbekaaiDoor.Fif (own_lt own_block own_form own_vw ret_bool info_int new_int int_one)
open Go.Proofs.YtgdmbnfdcbekaaiDoor.Vec (Vw)
set_option linter.unusedVariables false

def zFl (v : Value) : Array Value := #[.int .i64 0, nilV, .bool false, .bool false, .bool false, .bool false, .bool false, .bool false, .bool false, .bool false, .bool false, .bool false, .bool false, .bool false, .bool false, .bool false, .bool false, .bool false, .bool false, .bool false, .bool false, .bool false, .bool false, .bool false, .bool false, .bool false, .bool false, .bool false, .bool false, .bool false, .bool false, .bool false, .bool false, nilV, v]
theorem zFl_get (v : Value) : ∀ i, i < 35 → (zFl v)[i]? = some (fvc 0 (fun _ => false) nilV nilV v i) := by
  intro i hi
  match i, hi with
  | 0, _ => rfl
  | 1, _ => rfl
  | 33, _ => rfl
  | 34, _ => rfl
  | 2, _ | 3, _ | 4, _ | 5, _ | 6, _ | 7, _ | 8, _ | 9, _ | 10, _ | 11, _ | 12, _ | 13, _ | 14, _ | 15, _ | 16, _ | 17, _ | 18, _ | 19, _ | 20, _ | 21, _ | 22, _ | 23, _ | 24, _ | 25, _ | 26, _ | 27, _ | 28, _ | 29, _ | 30, _ | 31, _ | 32, _ => rfl
  | k + 35, q => omega
theorem allOf_succ (n : Nat) : allOf (n + 1) = allOf n ++ [(n : Int)] := by simp [allOf, List.range_succ]
def rvN (vh : Value) (i : Nat) : Value := if i = 0 then vh else nilV
def lsN (l : List Int) (i : Nat) : List Int := if i = 0 then l else []
/-- the group while its members are laid -/
theorem made_x (w : World) : RX ((w.alloc (.cells #[nilV, nilV, nilV, nilV, nilV] 48)).alloc (.cells (zFl (.slice (some ⟨w.heap.size, 0, none⟩) 1 1)) 46)) w.heap.size (w.heap.size + 1) 7 0 (fun _ => false) nilV nilV (lsN []) (rvN nilV) w.heap.size 1 1 (fun _ _ => nilV) := by
  obtain ⟨W1, e1⟩ : ∃ W1, W1 = w.alloc (.cells #[nilV, nilV, nilV, nilV, nilV] 48) := ⟨_, rfl⟩
  have hs : W1.heap.size = w.heap.size + 1 := by rw [e1]; simp
  have r1 : W1.rowIs w.heap.size 48 5 (fun _ => nilV) := by
    rw [e1]
    exact World.rowIs_alloc w #[nilV, nilV, nilV, nilV, nilV] _ _ fun i hi => by rcases i with _ | _ | _ | _ | _ | i <;> first | rfl | (exfalso; have : _ < 5 := hi; omega)
  rw [← e1, ← hs]
  refine ⟨World.rowIs_alloc W1 (zFl (.slice (some ⟨w.heap.size, 0, none⟩) 1 1)) _ _ (zFl_get _), ⟨fun i hi => ?_, fun i j hi hj hn b hb => ?_⟩, ⟨Nat.le_refl _, ⟨fun _ => nilV, (World.rowIs.of_block r1 (Below.heap_alloc _ _ _ (World.rowIs.lt r1))).congr fun j hj => ?_⟩, Nat.le_refl _, by decide⟩, by omega⟩
  · have e : rvN nilV i = nilV := by unfold rvN; split <;> rfl
    have e' : lsN [] i = [] := by unfold lsN; split <;> rfl
    rw [e, e']
    exact World.ownsRow_nil _ _ _ _
  · have e : rvN nilV i = nilV := by unfold rvN; split <;> rfl
    rw [e] at hb
    cases hb
  · split <;> rfl
set_option maxRecDepth 100000 in
set_option maxHeartbeats 1000000 in
theorem refNew (n : Nat) (h5 : n ≤ 5) (w : World) : Calls Tryd.prog 11 #[.int .i64 (n : Int)] w fun e w' => ∃ R rv g cap, e = .returned (.pointer (some ⟨R, 0, none⟩)) ∧ RF w' w.heap.size R (start n) rv g cap ∧ Below w.heap.size w w' := by
  have hmk : ∀ w, (Instr.makeSlice 44 (.int .i64 1) (.int .i64 1)).run Tryd.prog w = .ok (.slice (some ⟨w.heap.size, 0, none⟩) 1 1) (w.alloc (.cells #[nilV, nilV, nilV, nilV, nilV] 48)) := fun _ => by kernel_rfl
  obtain ⟨W2, eW2⟩ : ∃ W2, W2 = (w.alloc (.cells #[nilV, nilV, nilV, nilV, nilV] 48)).alloc (.cells (zFl (.slice (some ⟨w.heap.size, 0, none⟩) 1 1)) 46) := ⟨_, rfl⟩
  obtain ⟨R, eR⟩ : ∃ R, R = w.heap.size + 1 := ⟨_, rfl⟩
  obtain ⟨g, eg⟩ : ∃ g, g = w.heap.size := ⟨_, rfl⟩
  obtain ⟨ii, hii, hz0, hz1, hz2⟩ := info_int
  have HJ : Hid (Tryd.prog.info? 3 = some ii ∧ ii.zero = some (.int .i64 0) ∧ ii.size = 1 ∧ ii.bytes = 8) := ⟨hii, hz0, hz1, hz2⟩
  have X0 : Hid (RX W2 w.heap.size R 7 0 (fun _ => false) nilV nilV (lsN (allOf 0)) (rvN nilV) g 1 1 (fun _ _ => nilV) ∧ Below w.heap.size w W2) := by
    rw [eW2, eR, eg]
    exact ⟨made_x w, ((Below.refl _ _).alloc (Nat.le_refl _) _).alloc (by simp) _⟩
  clear hii hz0 hz1 hz2
  go_enter Tryd.func11, Tryd.ntmps11
  go_upto_region 2 with fail
  change Code.wp _ _ _ _ ((w.alloc (.cells #[nilV, nilV, nilV, nilV, nilV] 48)).alloc (.cells (zFl (.slice (some ⟨w.heap.size, 0, none⟩) 1 1)) 46))
  rw [← eW2, ← eR, ← eg]
  clear eW2 hmk
  have EG : Hid (g = w.heap.size ∧ R = w.heap.size + 1) := ⟨eg, eR⟩
  clear eg eR
  go_wp2_with fail
  go_loopw [4] (fun x wr => ∃ i : Nat, i ≤ n ∧ x = .int .i64 (i : Int) ∧ Hid (∃ vh, RX wr w.heap.size R 7 0 (fun _ => false) vh nilV (lsN (allOf i)) (rvN vh) g 1 1 (fun _ _ => nilV) ∧ Below w.heap.size w wr)) (fun x _ => n - (intOf x).toNat)
  case atStart => exact ⟨0, by omega, rfl, nilV, X0.out⟩
  case round =>
    obtain ⟨i, hi, rfl, hQ⟩ := hrel
    obtain ⟨vh, hx, hb⟩ := hQ.out
    by_cases hin : i < n
    · have hin' : (i : Int) < (n : Int) := by omega
      have o : wr.ownsRow w.heap.size 3 1 vh (allOf i).length ((allOf i).map (Value.int .i64)) := hx.ints.own 0 (by omega)
      obtain ⟨q, c, rfl⟩ := own_form o
      rw [allOf_len] at o
      rw [allOf_len] at hx
      have x1 := hx.main.c1
      have z1 := hx.main.fr 1
      have hRl := hx.lt
      have OS : Hid (wr.ownsRow w.heap.size 3 1 (.slice q i c) i ((allOf i).map (Value.int .i64)) ∧ w.heap.size ≤ wr.heap.size ∧ some R ≠ (Value.slice q i c).ownBlock) := ⟨o, hb.size, fun e => (hx.neI (i := 0) (b := R) (by omega) e.symm).1 rfl⟩
      have HX : Hid (RX wr w.heap.size R 7 0 (fun _ => false) (.slice q i c) nilV (lsN (allOf i)) (rvN (.slice q i c)) g 1 1 (fun _ _ => nilV) ∧ Below w.heap.size w wr) := ⟨hx, hb⟩
      clear hx hb hQ o
      go_wp2_with (at_builtin; refine wpList_append_lies _ rfl _ _ 28 rfl w.heap.size 3 ii (.int .i64 0) 1 8 Tryd.underlying28 HJ.out.1 HJ.out.2.1 HJ.out.2.2.1 HJ.out.2.2.2 rfl (by decide) (.slice q i c) i ((allOf i).map (Value.int .i64)) rfl (by exact own_pushF OS.out.1 rfl) ⟨wr.heap.size, 0, none⟩ 1 1 [.int .i64 (i : Int)] rfl rfl (by exact new_pushF rfl) (int_one _) (by omega) (by unfold maxLen; omega) (by omega) (by have := OS.out.2.1; simp; omega) (wr.heap.size + 1) (by simp) ?_; intro gs gc w3 hown hgrow hat hlt3; have HG3 : Hid (wr.grownBy w3 (Value.slice q i c).ownBlock) := grown_tmpF hgrow rfl rfl rfl rfl; have HO3 : Hid (w3.ownsRow w.heap.size 3 1 (.slice (some ⟨gs, 0, none⟩) (i + 1) gc) (i + 1) ((allOf i).map (Value.int .i64) ++ [.int .i64 (i : Int)]) ∧ ((Value.slice q i c).ownBlock = some gs ∨ wr.heap.size ≤ gs)) := ⟨hown, hat.imp id (fun e => by omega)⟩; have l3 : w3.cell? ⟨R, 1, none⟩ = some (.slice q i c) := (HG3.out.cell_far ⟨R, 1, none⟩ hRl OS.out.2.2).trans x1; have m3 : w3.frozen? ⟨R, 1, none⟩ = false := (HG3.out.frozen_far ⟨R, 1, none⟩ hRl OS.out.2.2).trans z1; clear hown hgrow hat hlt3)
      go_roundw
      case rel =>
        refine ⟨i + 1, by omega, by go_num, .slice (some ⟨gs, 0, none⟩) (i + 1) gc, ?_⟩
        obtain ⟨a1, a2⟩ := HX.out.1.app (i := 0) (k := i) (gg := gs) (gc := gc) (x := (i : Int)) (by omega) (allOf_len i).symm HG3.out HO3.out.1 HO3.out.2
        obtain ⟨b1, b2⟩ := a1.onR (a1.main.setH (.slice (some ⟨gs, 0, none⟩) (i + 1) gc))
        refine ⟨⟨b1.main, b1.ints.congr (fun j hj => ?_) (fun j hj => ?_), b1.rows, b1.low⟩, HX.out.2.trans (a2.bel.trans b2.bel)⟩
        · by_cases e : j = 0
          · rw [e, upV_same]; exact allOf_succ i
          · rw [upV_other _ _ e]; unfold lsN; rw [if_neg e, if_neg e]
        · by_cases e : j = 0
          · rw [e, upV_same]; rfl
          · rw [upV_other _ _ e]; unfold rvN; rw [if_neg e, if_neg e]
      case measure => simp [intOf]; omega
    · have hin' : ¬ (i : Int) < (n : Int) := by omega
      have ei : i = n := by omega
      rw [ei] at hx
      have RE : Hid (RF wr w.heap.size R (start n) (rvN vh) g 1 ∧ Below w.heap.size w wr) := by
        refine ⟨hx.rf (f' := start n) rfl rfl (fun _ _ _ => rfl) rfl rfl (fun j hj => ?_) rfl (fun k m _ _ => ?_), hb⟩
        · unfold lsF lsN
          by_cases e : j = 0
          · rw [if_pos e, if_pos e]; rfl
          · rw [if_neg e, if_neg e]
            split <;> rfl
        · unfold rvN
          rw [if_neg (by have := ix_two k m; omega)]
      clear hx hb hQ ei
      go_wp2
      go_ret
      exact ⟨R, rfl, ⟨rvN vh, g, 1, RE.out.1⟩, RE.out.2⟩
end Go.Proofs.YtgdmbnfdcbekaaiDoor.Flu
