/-
  Contracts of package cause's New, Clock, Waits, placeOf, hasCome; slices.Clone of five numbers.
-/
import Derived.Test.YtndjejbnappmeadDoorCapR
import Derived.Laws.ResultCell
import Derived.Deep.RegionWith
namespace Go.Proofs.YtndjejbnappmeadDoor.Cap
open Go.RowKit Go.Maps
open Go.Proofs.YtndjejbnappmeadDoor.Cau
open Go.Proofs.YtndjejbnappmeadDoor.Vec (code Vw anyP ret_bool)
open Go.Proofs.YtndjejbnappmeadDoor.Fif (own_lt own_block own_mono own_vw own_form Kp info_int)
set_option linter.unusedVariables false

theorem results_one {fn : Func} {p : Tmp} {ty : TypeId} (h : fn.results = #[.cell p ty]) (tmps : Array Value) (P : Program) (w : World) :
    (results fn tmps).run P w = ((asAddr (tmps.getD p undef)).run P w).andThen fun a w₁ => (loadVar ty a).run P w₁ := by
  simp only [results, h]
  simp [Sem.run_bind]
theorem retP {fn : Func} {tmps : Array Value} {w : World} {p : Tmp} {B : Nat} {v0 v1 : Value} (h : fn.results = #[.cell p 62]) (hp : tmps.getD p undef = .pointer (some ⟨B, 0, none⟩))
    (y0 : w.cell? ⟨B, 0, none⟩ = some v0) (y1 : w.cell? ⟨B, 1, none⟩ = some v1) : (results fn tmps).run Tryd.prog w = .ok (.agg #[v0, v1]) w := by
  rw [results_one h, hp]
  simp [asAddr, go_sem, y0, y1]
set_option maxRecDepth 100000 in
theorem place_any (m g off cap : Nat) (word : Int) (clk : List Int) (w : World) (hm : m < 5) (hv : Vw w (some ⟨g, off, none⟩) 5 clk) :
    Calls Tryd.prog 22 #[.agg #[.int .i64 (m : Int), .int .i64 word, .slice (some ⟨g, off, none⟩) 5 cap]] w fun e w' => e = .returned (.agg #[.int .i64 (m : Int), .int .i64 (clk.getD m 0)]) ∧ Below w.heap.size w w' := by
  obtain ⟨b, o, e, hlt, hc⟩ := hv.2 (by omega)
  cases e
  obtain ⟨W, eW⟩ : ∃ W, W = (w.alloc (.cells #[.int .i64 (m : Int), .int .i64 word, .slice (some ⟨g, off, none⟩) 5 cap] 35)).alloc (.cells #[.int .i64 0, .int .i64 0] 62) := ⟨_, rfl⟩
  have BW : Hid (Below w.heap.size w W ∧ W.heap.size = w.heap.size + 2) := ⟨by rw [eW]; exact ((Below.refl _ _).alloc (Nat.le_refl _) _).alloc (by simp) _, by rw [eW]; simp⟩
  have s0 : W.cell? ⟨w.heap.size, 0, none⟩ = some (.int .i64 (m : Int)) := by rw [eW]; go_cell
  have s2 : W.cell? ⟨w.heap.size, 2, none⟩ = some (.slice (some ⟨g, off, none⟩) 5 cap) := by rw [eW]; go_cell
  have RW : Hid (W.rowIs (w.heap.size + 1) 62 2 (fun j => .int .i64 0)) := by
    have := World.rowIs_alloc (w.alloc (.cells #[.int .i64 (m : Int), .int .i64 word, .slice (some ⟨g, off, none⟩) 5 cap] 35)) #[.int .i64 0, .int .i64 0] 62 (fun j => .int .i64 0) (fun i hi => by rcases i with _ | _ | i <;> first | rfl | (exfalso; have : _ < 2 := hi; omega))
    rw [eW]
    show World.rowIs _ _ _ _ _
    simpa using this
  have y0 := World.rowIs.cell RW.out (i := 0) (by omega)
  have y1 := World.rowIs.cell RW.out (i := 1) (by omega)
  have f0 := World.rowIs.frozen RW.out 0
  have f1 := World.rowIs.frozen RW.out 1
  have cm : W.cell? ⟨g, off + m, none⟩ = some (.int .i64 (clk.getD m 0)) := (BW.out.1.cell (p := ⟨g, off + m, none⟩) hlt).trans (hc m hm)
  obtain ⟨x, ex⟩ : ∃ x, x = clk.getD m 0 := ⟨_, rfl⟩
  rw [← ex] at cm ⊢
  have hm0 : (0 : Int) ≤ (m : Int) := by omega
  have hm5 : (m : Int) < 5 := by omega
  clear hc hv ex
  go_enter Tryd.func22, Tryd.ntmps22
  go_wp2_with fail
  rw [← eW]
  clear eW
  go_region
  go_wp2
  have r3 := (World.rowIs.set RW.out 0 (.int .i64 (m : Int))).set 1 (.int .i64 x)
  have u0 := r3.cell (i := 0) (by omega)
  have u1 := r3.cell (i := 1) (by omega)
  simp at u0 u1
  refine bodyPost_ret (v := .agg #[.int .i64 (m : Int), .int .i64 x]) (retP (B := w.heap.size + 1) rfl rfl u0 u1) rfl ?_
  exact ⟨rfl, (((BW.out.1).setCell (p := ⟨w.heap.size + 1, 0, none⟩) (Nat.le_succ _) _).setCell (p := ⟨w.heap.size + 1, 1, none⟩) (Nat.le_succ _) _).drew⟩
theorem own_nil (w : World) (t : TypeId) : (w.alloc (.cells #[] t)).ownsRow w.heap.size t 1 (.slice (some ⟨w.heap.size, 0, none⟩) 0 0) 0 [] := by
  refine ⟨rfl, .inr ⟨w.heap.size, 0, #[], rfl, Nat.le_refl _, ?_, Nat.le_refl _, by unfold maxLen; omega, rfl, rfl⟩⟩
  show (w.heap.push _)[w.heap.size]? = _
  simp
set_option maxRecDepth 100000 in
theorem clone5 (b off cap : Nat) (xs : List Int) (w : World) (hl : xs.length = 5) (hb : b < w.heap.size) (hcs : ∀ j u, (xs.map (Value.int .i64))[j]? = some u → w.cell? ((⟨b, off, none⟩ : Addr).add j) = some u) :
    Calls Tryd.prog 21 #[.slice (some ⟨b, off, none⟩) 5 cap] w fun e w' => ∃ v, e = .returned v ∧ w'.ownsRow w.heap.size 3 1 v 5 (xs.map (Value.int .i64)) ∧ Below w.heap.size w w' := by
  have HL : Hid (xs.length = 5) := hl
  have HC : Hid (∀ j u, (xs.map (Value.int .i64))[j]? = some u → (w.alloc (.cells #[] 3)).cell? ((⟨b, off, none⟩ : Addr).add j) = some u) := by
    intro j u hu
    have := hcs j u hu
    rw [Addr.add_lit] at this ⊢
    exact (((Below.refl w.heap.size w).alloc (Nat.le_refl _) _).cell (p := ⟨b, off + j, none⟩) hb).trans this
  obtain ⟨ie, hi, hz0, hz1, hz2⟩ := info_int
  have HI : Hid (Tryd.prog.info? 3 = some ie ∧ ie.zero = some (.int .i64 0) ∧ ie.size = 1 ∧ ie.bytes = 8) := ⟨hi, hz0, hz1, hz2⟩
  have hnil := fun W : World => Lib.run_eql_slice_nil (P := Tryd.prog) W 22 3 (some ⟨b, off, none⟩) 5 cap 0 0 Tryd.underlying22
  clear hl hb hcs hi hz0 hz1 hz2
  go_enter Tryd.func21, Tryd.ntmps21
  go_wp2_with (at_builtin; refine wpList_append_own _ rfl _ _ 22 rfl w.heap.size 3 ie (.int .i64 0) 1 8 Tryd.underlying22 HI.out.1 HI.out.2.1 HI.out.2.2.1 HI.out.2.2.2 rfl (by decide) _ 0 _ rfl (own_nil w 3) ⟨b, off, none⟩ 5 cap (xs.map (Value.int .i64)) rfl (by rw [List.length_map]; exact HL.out) HC.out (fun u hu => by obtain ⟨x, _, rfl⟩ := List.mem_map.1 hu; rfl) (by unfold maxLen; omega) (by omega) (by simp) ?_; intro v' wn hown hgrow _; have HO : Hid _ := hown; have HGr : Hid _ := hgrow; clear hown hgrow)
  go_ret
  exact ⟨_, rfl, HO.out, ((Below.refl w.heap.size w).alloc (Nat.le_refl _) _).grown HGr.out (by simp) (fun k e => (own_lt (own_nil w 3) k e).1)⟩
theorem clone_vw (b off cap : Nat) (xs : List Int) (w : World) (hv : Vw w (some ⟨b, off, none⟩) 5 xs) :
    Calls Tryd.prog 21 #[.slice (some ⟨b, off, none⟩) 5 cap] w fun e w' => ∃ v, e = .returned v ∧ w'.ownsRow w.heap.size 3 1 v 5 (xs.map (Value.int .i64)) ∧ Below w.heap.size w w' := by
  obtain ⟨b', o', e, hlt, hc⟩ := hv.2 (by omega)
  cases e
  refine clone5 b off cap xs w hv.1 hlt fun j u hu => ?_
  rw [Addr.add_lit]
  have hj : j < 5 := by
    have := (List.getElem?_eq_some_iff.1 hu).1
    rw [List.length_map, hv.1] at this
    exact this
  have hx : j < xs.length := by rw [hv.1]; exact hj
  have := hc j hj
  rw [this, ← hu]
  simp [List.getD, hx]
variable {w : World} {base P mb : Nat} {me : Int} {K : List Int} {cn : Int} {es : List En}
theorem CF.kvw (g : CF w base P mb me K cn es) : Vw w (some ⟨P, 1, none⟩) 5 K := ⟨g.five, fun _ => ⟨P, 1, rfl, g.lt.1, fun k hk => (g.clock hk).1⟩⟩
theorem clock_any (g : CF w base P mb me K cn es) :
    Calls Tryd.prog 12 #[.pointer (some ⟨P, 0, none⟩)] w fun x w' => ∃ v, x = .returned v ∧ w'.ownsRow w.heap.size 3 1 v 5 (K.map (Value.int .i64)) ∧ Below w.heap.size w w' := by
  have HV : Hid (Vw w (some ⟨P, 1, none⟩) 5 K) := g.kvw
  clear g
  go_enter Tryd.func12, Tryd.ntmps12
  go_wp2_with fail
  refine (clone_vw P 1 5 K w HV.out).mono ?_
  rintro e w1 ⟨v, rfl, hO, hB⟩
  have R : Hid _ := And.intro hO hB
  clear hO hB
  go_wp2
  go_ret
  exact ⟨_, rfl, R.out.1, R.out.2⟩
theorem waits_any (g : CF w base P mb me K cn es) :
    Calls Tryd.prog 14 #[.pointer (some ⟨P, 0, none⟩)] w fun x w' => x = .returned (.int .i64 es.length) ∧ w' = w := by
  obtain ⟨c7, z7⟩ := g.wait
  have hlen := fun ty => g.len ty w rfl
  clear g
  go_enter Tryd.func14, Tryd.ntmps14
  go_wp2
  go_ret
  exact ⟨rfl, rfl⟩
theorem new_no (x : Int) (w : World) (h : x < 0 ∨ 4 < x) :
    Calls Tryd.prog 4 #[.int .i64 x] w fun e w' => e = .returned (.tuple #[.pointer none, .iface 50 (.int .i64 1)]) ∧ w' = w := by
  go_enter Tryd.func4, Tryd.ntmps4
  go_wp2_with fail
  refine (member_no x w h).mono ?_
  rintro e w1 ⟨rfl, rfl⟩
  go_wp2
  go_ret2
  exact ⟨rfl, rfl⟩
set_option maxRecDepth 100000 in
theorem new_ok (x : Int) (w : World) (h : 0 ≤ x ∧ x ≤ 4) :
    Calls Tryd.prog 4 #[.int .i64 x] w fun e w' => e = .returned (.tuple #[.pointer (some ⟨w.heap.size + 1, 0, none⟩), .nilIface]) ∧ CF w' w.heap.size (w.heap.size + 1) w.heap.size x [0, 0, 0, 0, 0] 0 [] ∧ Below w.heap.size w w' := by
  have hmk : ∀ W : World, (Instr.makeMap 51 none).run Tryd.prog W = .ok (.map (some W.heap.size)) (W.alloc (.map #[] 0)) := fun _ => rfl
  have A0 : Hid (((w.alloc (.map #[] 0)).alloc (.cells #[.int .i64 x, .int .i64 0, .int .i64 0, .int .i64 0, .int .i64 0, .int .i64 0, .int .i64 0, .map (some w.heap.size)] 53)).rowIs (w.heap.size + 1) 53 8 (csv x [0, 0, 0, 0, 0] 0 w.heap.size)) := by
    have q := World.rowIs_alloc (w.alloc (.map #[] 0)) #[.int .i64 x, .int .i64 0, .int .i64 0, .int .i64 0, .int .i64 0, .int .i64 0, .int .i64 0, .map (some w.heap.size)] 53 (csv x [0, 0, 0, 0, 0] 0 w.heap.size) (fun i hi => by
      rcases i with _ | _ | _ | _ | _ | _ | _ | _ | i <;> first | rfl | (exfalso; have : _ < 8 := hi; omega))
    show World.rowIs _ _ _ _ _
    simpa using q
  have HX : Hid (0 ≤ x ∧ x ≤ 4) := h
  go_enter Tryd.func4, Tryd.ntmps4
  go_wp2_with fail
  refine (member_yes x w h.1 h.2).mono ?_
  rintro e w1 ⟨rfl, rfl⟩
  clear h
  go_wp2
  go_ret2
  refine ⟨rfl, ⟨A0.out, ⟨.map [], own_heap (World.ownsMap_made w1 _ _ _) ?_, MW.start⟩, fun e he => absurd he List.not_mem_nil, rfl, fun j hj => ?_, HX.out, ⟨Nat.le_succ _, Nat.le_refl _⟩, List.Pairwise.nil, List.Pairwise.nil, fun e he => absurd he List.not_mem_nil, fun e he => absurd he List.not_mem_nil⟩, ((Below.refl _ _).alloc (Nat.le_refl _) _).alloc (by simp) _⟩
  · rw [Below.heap_alloc _ _ _ (by simp)]
  · rcases j with _ | _ | _ | _ | _ | j <;> first | (constructor <;> decide) | omega
end Go.Proofs.YtndjejbnappmeadDoor.Cap
