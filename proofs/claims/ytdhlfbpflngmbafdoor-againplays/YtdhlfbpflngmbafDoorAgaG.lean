/-
  The Hearer: NewHearer, isWord, came, hear.
-/
import Derived.Test.YtdhlfbpflngmbafDoorAgaF
import Derived.Deep.QuietTactic
import Derived.BigQuiet
import Derived.Deep.RegionHeld3
import Derived.WalkLawsBesides
import Derived.Handy
namespace Go.Proofs.YtdhlfbpflngmbafDoor.Aga
open Go.RowKit Go.Maps
open Go.Proofs.YtdhlfbpflngmbafDoor.Fif (Cm fnd rm Uq run fnd_some fnd_rm rm_uq rm_len run_stop run_go uq_snoc fnd_snoc own_lt own_block own_form own_mono Kp ret_bool info_int lenOf new_int int_one)
open Go.Proofs.YtdhlfbpflngmbafDoor.MapI (MM putT delT turned_below g_of_turned)
open Go.Proofs.YtdhlfbpflngmbafDoor.Sep (KpL NewL)
set_option linter.unusedVariables false

theorem wfI {i : Int} (h1 : -1000000000 ≤ i) (h2 : i ≤ 1000000000) : (Lit.int .i64 i).wf = true := by
  simp [Lit.wf, IntKind.min, IntKind.max, IntKind.bits, IntKind.signed]
  omega
theorem word_yes (x : Int) (w : World) (h1 : 1 ≤ x) (h2 : x ≤ 30) : Calls Tryd.prog 14 #[.int .i64 x] w fun e w' => e = .returned (.bool true) ∧ w' = w := by
  go_enter Tryd.func14, Tryd.ntmps14
  go_wp2
  go_ret
  exact ⟨rfl, rfl⟩
theorem word_no (x : Int) (w : World) (h : x < 1 ∨ 30 < x) : Calls Tryd.prog 14 #[.int .i64 x] w fun e w' => e = .returned (.bool false) ∧ w' = w := by
  by_cases h1 : 1 ≤ x
  · have h2 : ¬ x ≤ 30 := by omega
    go_enter Tryd.func14, Tryd.ntmps14
    go_wp2
    go_ret
    exact ⟨rfl, rfl⟩
  · go_enter Tryd.func14, Tryd.ntmps14
    go_wp2
    go_ret
    exact ⟨rfl, rfl⟩
/-- a number and an empty map, made -/
theorem NM.made (w : World) (ty : TypeId) (x : Int) : NM ((w.alloc (.map #[] 0)).alloc (.cells #[.int .i64 x, .map (some w.heap.size)] ty)) ty w.heap.size (w.heap.size + 1) w.heap.size x (fun _ => none) 0 := by
  have A0 : ((w.alloc (.map #[] 0)).alloc (.cells #[.int .i64 x, .map (some w.heap.size)] ty)).rowIs (w.heap.size + 1) ty 2 (nv x w.heap.size) := by
    have q := World.rowIs_alloc (w.alloc (.map #[] 0)) #[.int .i64 x, .map (some w.heap.size)] ty (nv x w.heap.size) (fun i hi => by
      rcases i with _ | _ | i <;> first | rfl | (exfalso; have : _ < 2 := hi; omega))
    simpa using q
  refine ⟨A0, ⟨.map [], MapI.own_heap (World.ownsMap_made w _ _ _) ?_, MapI.MP.start⟩, Nat.le_succ _, Nat.le_refl _⟩
  rw [Below.heap_alloc _ _ _ (by simp)]
set_option maxRecDepth 100000 in
theorem newH (w : World) : Calls Tryd.prog 5 #[] w fun x w' => ∃ P fp, x = .returned (.pointer (some ⟨P, 0, none⟩)) ∧ HS w' w.heap.size P 0 [] fp ∧ Below w.heap.size w w' := by
  have hmk : ∀ W : World, (Instr.makeMap 52 none).run Tryd.prog W = .ok (.map (some W.heap.size)) (W.alloc (.map #[] 0)) := fun _ => rfl
  have A0 : Hid (NM ((w.alloc (.map #[] 0)).alloc (.cells #[.int .i64 1, .map (some w.heap.size)] 56)) 56 w.heap.size (w.heap.size + 1) w.heap.size 1 (fun _ => none) 0) := NM.made w _ 1
  go_enter Tryd.func5, Tryd.ntmps5
  go_wp2
  go_ret
  exact ⟨w.heap.size + 1, _, rfl, ⟨w.heap.size, rfl, A0.out.congr (fun i => rfl) rfl⟩, ((Below.refl _ _).alloc (Nat.le_refl _) _).alloc (by simp) _⟩
set_option maxRecDepth 100000 in
theorem came_yes {w : World} {base P mb : Nat} {h : Int} {ws : List Cm} (g : HF w base P mb h ws) (n x : Int) (hn : (Lit.int .i64 n).wf = true) (hf : fnd ws 0 n = some x) : Calls Tryd.prog 18 #[.pointer (some ⟨P, 0, none⟩), .int .i64 n] w fun e w' => e = .returned (.bool true) ∧ Below w.heap.size w w' := by
  obtain ⟨c0, z0⟩ := g.c0
  obtain ⟨c1, z1⟩ := g.c1
  have hlk := g.map.look_ok hn w rfl
  have e : wt ws n = some x := hf
  rw [e] at hlk
  clear g e hf
  go_enter Tryd.func18, Tryd.ntmps18
  go_wp2
  go_ret
  exact ⟨rfl, Below.refl _ _⟩
set_option maxRecDepth 100000 in
theorem came_no {w : World} {base P mb : Nat} {h : Int} {ws : List Cm} (g : HF w base P mb h ws) (n : Int) (hn : (Lit.int .i64 n).wf = true) (hf : fnd ws 0 n = none) : Calls Tryd.prog 18 #[.pointer (some ⟨P, 0, none⟩), .int .i64 n] w fun e w' => e = .returned (.bool (decide (n < h + 1))) ∧ Below w.heap.size w w' := by
  obtain ⟨c0, z0⟩ := g.c0
  obtain ⟨c1, z1⟩ := g.c1
  have hlk := g.map.look_ok hn w rfl
  have e : wt ws n = none := hf
  rw [e] at hlk
  have hlt := g.lt.1
  clear g e hf
  go_enter Tryd.func18, Tryd.ntmps18
  go_wp2
  go_ret
  exact ⟨rfl, Below.refl _ _⟩
/-- did one come? -/
theorem came_any {w : World} {base P mb : Nat} {h : Int} {ws : List Cm} (g : HF w base P mb h ws) (n : Int) (hn : (Lit.int .i64 n).wf = true) : Calls Tryd.prog 18 #[.pointer (some ⟨P, 0, none⟩), .int .i64 n] w fun e w' => e = .returned (.bool ((fnd ws 0 n).isSome || decide (n < h + 1))) ∧ Below w.heap.size w w' := by
  cases hf : fnd ws 0 n with
  | none => simpa using came_no g n hn hf
  | some x => simpa using came_yes g n x hn hf

/-- as far as it goes: what is heard, how far, what waits -/
def HMid (w : World) (base P mb : Nat) (fin : List Int × Int × List Cm) (wr : World) (vo : Value) (ws' : List Cm) : Prop :=
  ∃ h out, HF wr base P mb h ws' ∧ wr.ownsRow w.heap.size 3 1 vo out.length (out.map (Value.int .i64)) ∧ Uq ws' ∧ (0 ≤ h ∧ h ≤ 1000000) ∧ (∀ c ∈ ws', c.2.1 ≤ 1000000) ∧ ws'.length + out.length ≤ 41 ∧ Below base w wr ∧ KpL w wr [P, mb] ∧
    (out ++ (run 0 h ws').1, (run 0 h ws').2) = fin
set_option maxRecDepth 100000 in
set_option maxHeartbeats 1000000 in
theorem hear_any (base P mb : Nat) (h : Int) (ws : List Cm) (w : World) (g : HF w base P mb h ws) (hu : Uq ws) (hH : 0 ≤ h ∧ h ≤ 1000000) (hk : ∀ c ∈ ws, c.2.1 ≤ 1000000) (hl : ws.length ≤ 41) (hbw : base ≤ w.heap.size) :
    Calls Tryd.prog 19 #[.pointer (some ⟨P, 0, none⟩)] w fun e w' => ∃ vo, e = .returned vo ∧
      HF w' base P mb (run 0 h ws).2.1 (run 0 h ws).2.2 ∧ Ow w' w.heap.size vo (run 0 h ws).1 ∧ Below base w w' ∧ KpL w w' [P, mb] := by
  obtain ⟨fin, efin⟩ : ∃ fin, fin = run 0 h ws := ⟨_, rfl⟩
  rw [← efin]
  have M0 : Hid (HMid w base P mb fin w (.slice none 0 0) ws) := by
    refine ⟨h, [], g, World.ownsRow_nil _ _ _ _, hu, hH, hk, by simpa using hl, Below.refl _ _, kp2_refl _ _ _, ?_⟩
    rw [efin]
    rfl
  have HG0 : Hid (HF w base P mb h ws) := g
  obtain ⟨ii, hi, hz0, hz1, hz2⟩ := info_int
  have HJ : Hid (Tryd.prog.info? 3 = some ii ∧ ii.zero = some (.int .i64 0) ∧ ii.size = 1 ∧ ii.bytes = 8) := ⟨hi, hz0, hz1, hz2⟩
  have HBW : Hid (base ≤ w.heap.size) := hbw
  clear g hu hH hk hi hz0 hz1 hz2 efin hbw
  go_enter Tryd.func19, Tryd.ntmps19
  go_wp2
  go_loopw [3] (fun x wr => ∃ ws', Hid (HMid w base P mb fin wr x ws')) (fun x _ => 42 - lenOf x)
  case atStart => exact ⟨ws, M0⟩
  case round =>
    obtain ⟨ws', hM⟩ := hrel
    obtain ⟨h, out, hF, hO, hU, hh, hK, hL, hB, hKp, hfin⟩ := hM.out
    obtain ⟨qo, co, rfl⟩ := own_form hO
    obtain ⟨lo, elo⟩ : ∃ lo, lo = out.length := ⟨_, rfl⟩
    obtain ⟨c0, z0⟩ := hF.c0
    obtain ⟨c5, z5⟩ := hF.c1
    have FM : Hid (HF wr base P mb h ws') := hF
    have FR : Hid (Uq ws' ∧ (∀ c ∈ ws', c.2.1 ≤ 1000000) ∧ Below base w wr ∧ KpL w wr [P, mb] ∧ (out ++ (run 0 h ws').1, (run 0 h ws').2) = fin) := ⟨hU, hK, hB, hKp, hfin⟩
    have OO : Hid (wr.ownsRow w.heap.size 3 1 (.slice qo out.length co) out.length (out.map (Value.int .i64))) := hO
    have hwf : (Lit.int .i64 (h + 1)).wf = true := wfI (by omega) (by omega)
    have HW : Hid ((Lit.int .i64 (h + 1)).wf = true) := hwf
    have hPl := hF.lt.1
    clear hM hF hO hU hK hB hKp hfin hwf
    cases hf : fnd ws' 0 (h + 1) with
    | none =>
      have ew : wt ws' (h + 1) = none := hf
      have hlk : ∀ k, (Instr.lookup 52 (.map (some mb)) (.int .i64 (h + 1)) true).run Tryd.prog (wr.drewN k) = .ok (.tuple #[.int .i64 0, .bool false]) (wr.drewN k) := fun k => by
        have q := FM.out.map.look_ok HW.out (wr.drewN k) rfl
        rw [ew] at q
        exact q
      have HX : Hid (fnd ws' 0 (h + 1) = none) := hf
      clear hf ew
      go_wp2_with fail
      go_quiet (fail)
      go_wp2
      go_ret
      have e := FR.out.2.2.2.2
      rw [run_stop HX.out, List.append_nil] at e
      rw [← e]
      exact ⟨_, rfl, FM.out.heap rfl, own_block OO.out fun _ _ => rfl, drewsF FR.out.2.2.1 _, kp2_heap FR.out.2.2.2.1 rfl⟩
    | some x =>
      have ew : wt ws' (h + 1) = some x := hf
      have hlk : ∀ k, (Instr.lookup 52 (.map (some mb)) (.int .i64 (h + 1)) true).run Tryd.prog (wr.drewN k) = .ok (.tuple #[.int .i64 x, .bool true]) (wr.drewN k) := fun k => by
        have q := FM.out.map.look_ok HW.out (wr.drewN k) rfl
        rw [ew] at q
        exact q
      have hdel : ∀ k, ∃ w', (Builtin.delete_ #[52, 3] 0 #[.map (some mb), .int .i64 (h + 1)]).run Tryd.prog (wr.drewN k) = .ok (.tuple #[]) w' ∧ HF w' base P mb h (rm ws' 0 (h + 1)) ∧ (wr.drewN k).mapTurned w' mb := fun k => by
        obtain ⟨w', e, g', t'⟩ := NM.del (w := wr.drewN k) (FM.out.heap rfl) HW.out 0
        refine ⟨w', e, g'.congr (wt_del ws' (h + 1)) ?_, t'⟩
        rw [ew]
        have := rm_len FR.out.1 hf
        simp
        omega
      obtain ⟨f, hf2⟩ := Classical.skolem.1 hdel
      have hdel1 := fun k => (hf2 k).1
      have HD : Hid (∀ k, HF (f k) base P mb h (rm ws' 0 (h + 1)) ∧ (wr.drewN k).mapTurned (f k) mb) := fun k => (hf2 k).2
      have HX : Hid (fnd ws' 0 (h + 1) = some x) := hf
      clear hdel hf2 ew hf
      go_wp2_with fail
      go_quiet (fail)
      go_wp2_with fail
      go_region
      obtain ⟨W2, eW2⟩ : ∃ W2, W2 = f (nq + 1) := ⟨_, rfl⟩
      rw [← eW2]
      have F2 : Hid (HF W2 base P mb h (rm ws' 0 (h + 1)) ∧ (wr.drewN (nq + 1)).mapTurned W2 mb) := by rw [eW2]; exact HD.out (nq + 1)
      obtain ⟨b0, x0⟩ := F2.out.1.c0
      obtain ⟨W3, eW3⟩ : ∃ W3, W3 = W2.setCell ⟨P, 0, none⟩ (.int .i64 (h + 1 + 1)) := ⟨_, rfl⟩
      have PL : Hid (P < w.heap.size ∧ mb < w.heap.size) := HG0.out.lt
      have F3 : Hid (HF W3 base P mb (h + 1) (rm ws' 0 (h + 1))) := by
        rw [eW3]
        exact F2.out.1.setX (h + 1 + 1)
      have K3 : Hid (Below base wr W3 ∧ KpL wr W3 [P, mb]) := by
        have b1 : Below base wr (wr.drewN (nq + 1)) := drewsF (Below.refl _ _) _
        have b2 : Below base wr W2 := b1.trans (turned_below F2.out.2 F2.out.1.low.2)
        have k1 : KpL wr (wr.drewN (nq + 1)) [P, mb] := kp2_heap (kp2_refl _ _ _) rfl
        rw [eW3]
        exact ⟨b2.setCell (p := ⟨P, 0, none⟩) F2.out.1.low.1 _, kp2_trans (kp2_trans k1 (kp2_turned F2.out.2)) (kp2_set W2 0 _)⟩
      have O3 : Hid (W3.ownsRow w.heap.size 3 1 (.slice qo lo co) lo (out.map (Value.int .i64)) ∧ ∀ k, (Value.slice qo lo co).ownBlock = some k → w.heap.size ≤ k ∧ k < wr.heap.size) := by
        have o := OO.out
        rw [← elo] at o
        have hlt := own_lt o
        refine ⟨own_block o fun k hk => K3.out.2.2 k (hlt k hk).2 ?_, hlt⟩
        have := (hlt k hk).1
        have := PL.out
        simp only [List.mem_cons, List.not_mem_nil, or_false, not_or]
        omega
      have hlo : lo ≤ 41 := by omega
      rw [← elo]
      have SZ : Hid (w.heap.size ≤ W3.heap.size) := Nat.le_trans FR.out.2.2.1.size K3.out.1.size
      have LO : Hid (lo = out.length) := elo
      clear eW2 HD hdel1 hlk c0 z0 c5 z5 elo hPl
      have HH : Hid (0 ≤ h ∧ h ≤ 1000000) := hh
      have EW : Hid (W3 = W2.setCell ⟨P, 0, none⟩ (.int .i64 (h + 1 + 1)) ∧ W2.heap.size = W3.heap.size) := ⟨eW3, by rw [eW3]; simp [World.setCell]⟩
      clear eW3
      go_wp2_with (at_builtin; refine wpList_append_own _ rfl _ _ 28 rfl w.heap.size 3 ii (.int .i64 0) 1 8 Tryd.underlying28 HJ.out.1 HJ.out.2.1 HJ.out.2.2.1 HJ.out.2.2.2 rfl (by decide) (.slice qo lo co) lo (out.map (Value.int .i64)) rfl (by rw [← EW.out.1]; exact own_block O3.out.1 fun k hk => Below.heap_alloc _ _ _ (Nat.lt_of_lt_of_le (O3.out.2 k hk).2 K3.out.1.size)) ⟨W2.heap.size, 0, none⟩ 1 1 [.int .i64 x] rfl rfl (by rw [← EW.out.1]; exact new_int W3 _ EW.out.2 x 3) (int_one _) (by unfold maxLen; omega) (by omega) (by rw [← EW.out.1]; have := SZ.out; simp; omega) ?_; rw [← EW.out.1]; intro v1 w1 hown hgrow _; obtain ⟨q1, k1, rfl⟩ := own_form hown; have HO1 : Hid (w1.ownsRow w.heap.size 3 1 (.slice q1 (lo + 1) k1) (lo + 1) (out.map (Value.int .i64) ++ [.int .i64 x])) := hown; have HG1 : Hid ((W3.alloc (.cells #[.int .i64 x] 3)).grownBy w1 (Value.slice qo lo co).ownBlock) := hgrow; clear hown hgrow)
      go_roundw
      case rel =>
        have o := O3.out
        have PLo := PL.out
        have b3 : Below base w W3 := FR.out.2.2.1.trans K3.out.1
        have k3 : KpL w W3 [P, mb] := kp2_trans FR.out.2.2.2.1 K3.out.2
        have hx := (fnd_some FR.out.1).1 HX.out
        have hlen := rm_len FR.out.1 HX.out
        have hbw : base ≤ W3.heap.size := Nat.le_trans HBW.out SZ.out
        have hkeep : ∀ b, b < W3.heap.size → some b ≠ (Value.slice qo lo co).ownBlock → w1.heap[b]? = W3.heap[b]? := fun b hb hne => (HG1.out.block b (by simp; omega) hne).trans (Below.heap_alloc _ _ _ hb)
        refine ⟨_, h + 1, out ++ [x], F3.out.of_blocks (hkeep P F3.out.lt.1 fun e => ?_) (hkeep mb F3.out.lt.2 fun e => ?_), ?_, rm_uq FR.out.1 _ _, ?_, fun c hc => FR.out.2.1 c (List.mem_filter.1 hc).1, ?_, ?_, ⟨?_, fun b hb hn => ?_⟩, ?_⟩
        · have := (o.2 P e.symm).1; omega
        · have := (o.2 mb e.symm).1; omega
        · have e := HO1.out
          rw [List.length_append, List.map_append, ← LO.out]
          exact e
        · have := FR.out.2.1 _ hx
          exact ⟨by have := HH.out.1; omega, this⟩
        · rw [List.length_append]
          have := LO.out
          simp
          omega
        · exact (b3.alloc hbw _).grown HG1.out (by simp; omega) (fun k e => by have := (o.2 k e).1; have := HBW.out; omega)
        · exact Nat.le_trans k3.1 (Nat.le_trans (by simp) HG1.out.size)
        · exact (hkeep b (Nat.lt_of_lt_of_le hb k3.1) (fun e => by have := (o.2 b e.symm).1; omega)).trans (k3.2 b hb hn)
        · have e := FR.out.2.2.2.2
          rw [run_go FR.out.1 HX.out] at e
          rw [← e]
          simp
      case measure => have := LO.out; simp [lenOf]; omega
end Go.Proofs.YtdhlfbpflngmbafDoor.Aga
