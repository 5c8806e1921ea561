/-
  Contracts of package agree's New, Say and Heard.
-/
import Derived.Test.YtcccheeeagphpagMgR
namespace Go.Proofs.Ytcccheeeagphpag.Agr
open Go.RowKit Go.Maps
open Go.Proofs.Ytcccheeeagphpag.Fif (own_lt own_block own_form own_mono own_vw ret_bool info_int)
open Go.Proofs.Ytcccheeeagphpag.Vec (Vw)
open Go.Proofs.Ytcccheeeagphpag.MapV (MM putT delT wfI turned_below g_of_turned)
open Go.Proofs.Ytcccheeeagphpag.Sep (KpL NewL)
set_option linter.unusedVariables false

theorem newA_no (n : Int) (hn : n < 2 ∨ 5 < n) (w : World) : Calls Try.prog 5 #[.int .i64 n] w fun x w' => x = .returned (.tuple #[.pointer none, errF 1]) ∧ Below w.heap.size w w' := by
  rw [errF_no (by decide)]
  by_cases h1 : n < 2
  · clear hn
    go_enter Try.func5, Try.ntmps5
    go_wp2
    go_ret2
    exact ⟨rfl, Below.refl _ _⟩
  · have h2 : 5 < n := by omega
    clear hn
    go_enter Try.func5, Try.ntmps5
    go_wp2
    go_ret2
    exact ⟨rfl, Below.refl _ _⟩
/-- as far as the maps of those that wait are made -/
def nw (n k m0 : Nat) (j : Nat) : Value := if j = 0 then .int .i64 (n : Int) else if j = 1 then .map (some m0) else if j < 7 then .int .i64 0 else if j < 12 then (if j - 7 < k then .map (some (m0 + 2 + (j - 7))) else .map none) else .slice none 0 0
structure NW (w wr : World) (n k : Nat) : Prop where
  row : wr.rowIs (w.heap.size + 1) 61 17 (nw n k w.heap.size)
  said : MM wr w.heap.size (fun _ => none) 0
  wait : ∀ j, j < k → MM wr (w.heap.size + 2 + j) (fun _ => none) 0
  size : wr.heap.size = w.heap.size + 2 + k
  low : Below w.heap.size w wr
theorem NW.step {w wr : World} {n k : Nat} (h : NW w wr n k) (hk : k < 5) : NW w ((wr.setCell ⟨w.heap.size + 1, 7 + k, none⟩ (.map (some wr.heap.size))).alloc (.map #[] 0)) n (k + 1) := by
  have hs : (wr.setCell ⟨w.heap.size + 1, 7 + k, none⟩ (.map (some wr.heap.size))).heap.size = wr.heap.size := by simp [World.setCell]
  have hb : ∀ b, b < wr.heap.size → b ≠ w.heap.size + 1 → ((wr.setCell ⟨w.heap.size + 1, 7 + k, none⟩ (.map (some wr.heap.size))).alloc (.map #[] 0)).heap[b]? = wr.heap[b]? := fun b h1 h2 => by
    rw [Below.heap_alloc _ _ _ (by rw [hs]; exact h1), Deep.blk_setCell_other _ _ _ _ h2]
  have sz := h.size
  refine ⟨World.rowIs.of_block ((World.rowIs.set h.row (7 + k) (.map (some wr.heap.size))).congr fun j hj => ?_) (Below.heap_alloc _ _ _ (by rw [hs]; omega)), h.said.of_block (hb _ (by omega) (by omega)), fun j hj => ?_, by simp [hs]; omega, (h.low.setCell (p := ⟨w.heap.size + 1, 7 + k, none⟩) (by simp) _).alloc (by rw [hs]; omega) _⟩
  · unfold nw
    by_cases e : j = 7 + k
    · rw [if_pos e, if_neg (by omega), if_neg (by omega), if_neg (by omega), if_pos (by omega), if_pos (by omega), sz, show j - 7 = k by omega]
    · rw [if_neg e]
      by_cases e0 : j < 7
      · rw [if_pos e0, if_pos e0]
      · rw [if_neg e0, if_neg e0]
        by_cases e2 : j < 12
        · rw [if_pos e2, if_pos e2]
          by_cases e3 : j - 7 < k
          · rw [if_pos e3, if_pos (show j - 7 < k + 1 by omega)]
          · rw [if_neg e3, if_neg (show ¬ j - 7 < k + 1 by omega)]
        · rw [if_neg e2, if_neg e2]
  · by_cases e : j = k
    · have := MM.made (wr.setCell ⟨w.heap.size + 1, 7 + k, none⟩ (.map (some wr.heap.size)))
      rw [hs] at this
      rw [e, ← sz]
      exact this
    · exact (h.wait j (by omega)).of_block (hb _ (by omega) (by omega))
theorem NW.made0 (w : World) (n : Nat) : NW w ((w.alloc (.map #[] 0)).alloc (.cells #[.int .i64 (n : Int), .map (some w.heap.size), .int .i64 0, .int .i64 0, .int .i64 0, .int .i64 0, .int .i64 0, .map none, .map none, .map none, .map none, .map none, .slice none 0 0, .slice none 0 0, .slice none 0 0, .slice none 0 0, .slice none 0 0] 61)) n 0 := by
  refine ⟨?_, (MM.made w).of_block (Below.heap_alloc _ _ _ (by simp)), fun j hj => absurd hj (by omega), by simp, ((Below.refl _ _).alloc (Nat.le_refl _) _).alloc (by simp) _⟩
  have q := World.rowIs_alloc (w.alloc (.map #[] 0)) #[.int .i64 (n : Int), .map (some w.heap.size), .int .i64 0, .int .i64 0, .int .i64 0, .int .i64 0, .int .i64 0, .map none, .map none, .map none, .map none, .map none, .slice none 0 0, .slice none 0 0, .slice none 0 0, .slice none 0 0, .slice none 0 0] 61 (nw n 0 w.heap.size) (fun i hi => by
    have hi : i < 17 := hi
    rcases i with _ | _ | _ | _ | _ | _ | _ | _ | _ | _ | _ | _ | _ | _ | _ | _ | _ | i
    all_goals first | rfl | (exfalso; omega))
  simpa using q
theorem nw_done {w wr : World} {n : Nat} (h5 : n ≤ 5) (h : NW w wr n n) : AS wr w.heap.size (w.heap.size + 1) (start n) (fpA (w.heap.size + 1) w.heap.size n (fun i => w.heap.size + 2 + i) (fun _ => .slice none 0 0)) := by
  have hc : cnt (start n) 30 = 0 := rfl
  refine ⟨w.heap.size, fun i => w.heap.size + 2 + i, fun _ => .slice none 0 0, fun _ => 0, rfl, ?_, fun i _ => Nat.zero_le _⟩
  refine { row := h.row.congr fun k hk => ?_, said := h.said.congr (fun i => ?_) rfl, wait := fun i hi => (h.wait i hi).congr (fun x => ?_) rfl, hd := fun i hi => World.ownsRow_nil _ _ _ _, low := ⟨by omega, Nat.le_refl _, fun i hi => by show w.heap.size ≤ w.heap.size + 2 + i; omega⟩, five := h5, dS := fun i hi => by show w.heap.size + 2 + i ≠ w.heap.size; omega, dW := fun i j hi hj hne => by show w.heap.size + 2 + i ≠ w.heap.size + 2 + j; omega, dH := fun i j _ _ _ b q => by cases q }
  · unfold nw av
    rfl
  · show TS (start n) i = none
    unfold TS
    rw [if_neg (fun q => by cases q.2)]
  · show TW (start n) i x = none
    unfold TW
    rw [if_neg (fun q => by have := (wts_iff.1 q.2).1; exact this rfl)]
set_option maxRecDepth 100000 in
set_option maxHeartbeats 1000000 in
theorem newA_ok (n : Nat) (h2 : 2 ≤ n) (h5 : n ≤ 5) (w : World) : Calls Try.prog 5 #[.int .i64 (n : Int)] w fun x w' => ∃ P fp, x = .returned (.tuple #[.pointer (some ⟨P, 0, none⟩), .nilIface]) ∧ AS w' w.heap.size P (start n) fp ∧ Below w.heap.size w w' := by
  have hmk : ∀ W : World, (Instr.makeMap 55 none).run Try.prog W = .ok (.map (some W.heap.size)) (W.alloc (.map #[] 0)) := fun _ => rfl
  have hmk2 : ∀ W : World, (Instr.makeMap 57 none).run Try.prog W = .ok (.map (some W.heap.size)) (W.alloc (.map #[] 0)) := fun _ => rfl
  have d1 : ¬ (n : Int) < 2 := by omega
  have d2 : ¬ (n : Int) > 5 := by omega
  go_enter Try.func5, Try.ntmps5
  go_wp2
  go_loopw [18] (fun i wr => ∃ k : Nat, k ≤ n ∧ i = .int .i64 k ∧ Hid (NW w wr n k)) (fun i _ => n - (intOf i).toNat)
  case atStart => exact ⟨0, by omega, rfl, NW.made0 w n⟩
  case round =>
    obtain ⟨k, hk, rfl, hp⟩ := hrel
    by_cases hlt : k < n
    · have hkl : (k : Int) < (n : Int) := by omega
      have c0 : wr.cell? ⟨w.heap.size + 1, 7 + k, none⟩ = some (nw n k w.heap.size (7 + k)) := World.rowIs.cell hp.out.row (i := 7 + k) (by omega)
      have z0 := World.rowIs.frozen hp.out.row (7 + k)
      have hsz : w.heap.size + 1 < wr.heap.size := by have := hp.out.size; omega
      have hk0 : (0 : Int) ≤ (k : Int) := by omega
      have hk5 : (k : Int) < 5 := by omega
      go_wp2
      go_roundw
      case rel => exact ⟨k + 1, by omega, by go_num, hp.out.step (by omega)⟩
      case measure => simp [intOf]; omega
    · have ek : k = n := by omega
      have HP : Hid (NW w wr n n) := by rw [ek] at hp; exact hp
      clear hp ek
      go_wp2
      go_ret2
      exact ⟨_, _, rfl, nw_done h5 HP.out, HP.out.low⟩
/-! Say -/
variable {w w' : World} {base P mS : Nat} {mb : Nat → Nat} {hv : Nat → Value} {r : Rc} {g : G} {cW : Nat → Nat}
theorem say_no (h : AF w base P mS mb hv (rc g cW)) (word : Int) (hc : sayC g word ≠ 0) : Calls Try.prog 9 #[.pointer (some ⟨P, 0, none⟩), .int .i64 word] w fun x w' => x = .returned (errF (sayC g word)) ∧ Below w.heap.size w w' := by
  have HG : Hid (AF w base P mS mb hv (rc g cW)) := h
  clear h
  by_cases h1 : 1 ≤ word ∧ word ≤ 30
  · have d1 : Hid (decide (1 ≤ word ∧ word ≤ 30) = true) := decide_eq_true h1
    have HW : Hid ((Lit.int .i64 word).wf = true) := wfI (by omega) (by omega)
    have h3 : g.was word.toNat = true := by
      refine Decidable.byContradiction fun q => hc ?_
      unfold sayC
      rw [if_neg (by omega), if_neg q]
    have HS : Hid ((rc g cW).S word = (some (mx g word.toNat)).map stV) := by
      have := TS_map g h1.1
      rw [if_pos h3] at this
      exact this
    have e : sayC g word = 7 := by unfold sayC; rw [if_neg (by omega), if_pos h3]
    rw [e, errF_no (by decide)]
    clear h3 e hc
    go_enter Try.func9, Try.ntmps9
    go_wp2_with fail
    refine (wordA_any word w).mono ?_
    rintro e w ⟨rfl, rfl⟩
    rw [d1.out]
    go_wp2_with fail
    refine (saidA_any HG.out word HW.out HS.out).mono ?_
    rintro e w1 ⟨rfl, hb⟩
    have B1 : Hid _ := hb
    clear hb
    go_wp2
    go_ret
    exact ⟨rfl, B1.out⟩
  · have d1 : Hid (decide (1 ≤ word ∧ word ≤ 30) = false) := decide_eq_false h1
    have e : sayC g word = 1 := if_pos (by omega)
    rw [e, errF_no (by decide)]
    clear e hc
    go_enter Try.func9, Try.ntmps9
    go_wp2_with fail
    refine (wordA_any word w).mono ?_
    rintro e w ⟨rfl, rfl⟩
    rw [d1.out]
    go_wp2
    go_ret
    exact ⟨rfl, Below.refl _ _⟩
theorem sayC_ok {word : Int} (h : sayC g word = 0) : (1 ≤ word ∧ word ≤ 30) ∧ g.was word.toNat = false := by
  unfold sayC at h
  split at h
  · omega
  · split at h
    · omega
    · rename_i q
      exact ⟨by omega, by simpa using q⟩
theorem also_rc (hi : Inv0 g) {v : Nat} (h1 : 1 ≤ v) (h30 : v ≤ 30) (hw : g.was v = false) {w : World} (h : AF w base P mS mb hv { rc g cW with S := putT (TS g) (v : Int) (stV (0, 0)), cS := cnt g 30 + 1 }) : AF w base P mS mb hv (rc (also g v) cW) :=
  h.congr rfl (fun i => TS_also hi hw i) (by show cnt (also g v) 30 = _; rw [cnt_also hw h1, if_pos h30]) (fun m _ i => TW_also g v m i) (fun _ _ => rfl) (fun _ _ => rfl) (fun _ _ => rfl)
set_option maxRecDepth 100000 in
theorem say_okA (h : AF w base P mS mb hv (rc g cW)) (hi : Inv0 g) (hbw : base ≤ w.heap.size) (word : Int) (hc : sayC g word = 0) : Calls Try.prog 9 #[.pointer (some ⟨P, 0, none⟩), .int .i64 word] w fun x w' => x = .returned .nilIface ∧ AF w' base P mS mb hv (rc (also g word.toNat) cW) ∧ Below base w w' ∧ KpL w w' (fpA P mS g.n mb hv) := by
  obtain ⟨h1, h3⟩ := sayC_ok hc
  have d1 : Hid (decide (1 ≤ word ∧ word ≤ 30) = true) := decide_eq_true h1
  have HW : Hid ((Lit.int .i64 word).wf = true) := wfI (by omega) (by omega)
  have HS : Hid ((rc g cW).S word = (none : Option St).map stV) := by
    have := TS_map g h1.1
    rw [h3] at this
    exact this
  have HG : Hid (AF w base P mS mb hv (rc g cW) ∧ Inv0 g ∧ base ≤ w.heap.size ∧ g.was word.toNat = false) := ⟨h, hi, hbw, h3⟩
  have hbuild : ∀ W : World, (zeroValue 41).run Try.prog W = .ok (.agg #[.int .i64 0, .int .i64 0]) W := fun W => zeroS W
  clear h hi hbw h3 hc
  go_enter Try.func9, Try.ntmps9
  go_wp2_with fail
  refine (wordA_any word w).mono ?_
  rintro e w ⟨rfl, rfl⟩
  rw [d1.out]
  go_wp2_with fail
  refine (saidA_any HG.out.1 word HW.out HS.out).mono ?_
  rintro e w1 ⟨rfl, hb⟩
  have B1 : Hid (Below w.heap.size w w1) := hb
  have G1 : Hid (AF w1 base P mS mb hv (rc g cW)) := HG.out.1.later hb
  have c1 := G1.out.c1
  obtain ⟨w2, e2, m2, t2⟩ := G1.out.said.put Try.underlying55 HW.out (stV (0, 0)) (by have := cnt_leA g 30; show cnt g 30 < _; omega)
  have e2' : (Instr.mapUpdate 55 (.map (some mS)) (.int .i64 word) (.agg #[.int .i64 0, .int .i64 0])).run Try.prog w1 = .ok () w2 := e2
  have G2 : Hid (AF w2 base P mS mb hv (rc (also g word.toNat) cW) ∧ w1.mapTurned w2 mS) := by
    rw [HS.out] at m2
    refine ⟨also_rc HG.out.2.1 (by omega) (by omega) HG.out.2.2.2 ?_, t2⟩
    have ew : ((word.toNat : Nat) : Int) = word := by omega
    rw [ew]
    exact G1.out.turnS m2 t2
  clear hb m2 t2 e2
  go_wp2
  go_ret
  exact ⟨rfl, G2.out.1, (B1.out.mono HG.out.2.2.1).trans (turned_below G2.out.2 G1.out.low.2.1), kp_trans (KpL.below B1.out _) (kp_turned G2.out.2 S_fp)⟩
theorem sayA (base P : Nat) (g : G) (fp : List Nat) (word : Int) (w : World) (h : AS w base P g fp) (hi : Inv g) (hM : ∀ m, g.most m ≤ 10000) (hbw : base ≤ w.heap.size) : Calls Try.prog 9 #[.pointer (some ⟨P, 0, none⟩), .int .i64 word] w fun x w' => ∃ fp', x = .returned (errF (sayC g word)) ∧ AS w' base P (say g word) fp' ∧ Below base w w' ∧ KpL w w' fp ∧ NewL w fp fp' := by
  obtain ⟨mS, mb, hv, cW, rfl, h, hcw⟩ := h
  by_cases hc : sayC g word = 0
  · rw [hc, errF_ok, show say g word = also g word.toNat from if_pos hc]
    refine (say_okA h hi.toInv0 hbw word hc).mono ?_
    rintro x w' ⟨rfl, h', hb, hk⟩
    exact ⟨_, rfl, ⟨mS, mb, hv, cW, rfl, h', hcw⟩, hb, hk, NewL.refl _ _⟩
  · rw [show say g word = g from if_neg hc]
    refine (say_no h word hc).mono ?_
    rintro x w' ⟨rfl, hb⟩
    exact ⟨_, rfl, ⟨mS, mb, hv, cW, rfl, h.later hb, hcw⟩, hb.mono hbw, KpL.below hb _, NewL.refl _ _⟩
/-! Heard -/
theorem hd_no (h : AF w base P mS mb hv (rc g cW)) (who : Int) (hc : ¬ (0 ≤ who ∧ who < (g.n : Int))) : Calls Try.prog 12 #[.pointer (some ⟨P, 0, none⟩), .int .i64 who] w fun x w' => x = .returned (.tuple #[.slice none 0 0, errF 1]) ∧ w' = w := by
  have d1 : Hid (decide (0 ≤ who ∧ who < ((rc g cW).n : Int)) = false) := decide_eq_false hc
  have HG : Hid (AF w base P mS mb hv (rc g cW)) := h
  rw [errF_no (by decide)]
  clear h hc
  go_enter Try.func12, Try.ntmps12
  go_wp2_with fail
  refine (has_any HG.out who).mono ?_
  rintro e w ⟨rfl, rfl⟩
  rw [d1.out]
  go_wp2
  go_ret2
  exact ⟨rfl, rfl⟩
set_option maxRecDepth 100000 in
theorem hd_okA (h : AF w base P mS mb hv (rc g cW)) (hi : Inv0 g) (m : Nat) (hm : m < g.n) : Calls Try.prog 12 #[.pointer (some ⟨P, 0, none⟩), .int .i64 (m : Int)] w fun x w' => ∃ v, x = .returned (.tuple #[v, .nilIface]) ∧ Lw w' w.heap.size v (g.hd m) ∧ Below w.heap.size w w' := by
  have hm5 : m < 5 := Nat.lt_of_lt_of_le hm h.five
  have d1 : Hid (decide (0 ≤ (m : Int) ∧ (m : Int) < ((rc g cW).n : Int)) = true) := decide_eq_true ⟨by omega, by show (m : Int) < (g.n : Int); omega⟩
  have c2 := h.ch hm5
  obtain ⟨q, cap, e⟩ := own_form (h.hd m hm5)
  have HV : Hid (hv m = .slice q (g.hd m).length cap) := e
  have HG : Hid (AF w base P mS mb hv (rc g cW) ∧ Inv0 g ∧ m < 5) := ⟨h, hi, hm5⟩
  rw [e] at c2
  have hm0 : (0 : Int) ≤ (m : Int) := by omega
  have hm5' : (m : Int) < 5 := by omega
  clear h e hm hm5 hi
  go_enter Try.func12, Try.ntmps12
  go_wp2_with fail
  refine (has_any HG.out.1 (m : Int)).mono ?_
  rintro e w ⟨rfl, rfl⟩
  rw [d1.out]
  go_wp2_with fail
  refine (cloneA base _ (g.hd m) w (by have := HG.out.1.hd m HG.out.2.2; rw [HV.out] at this; exact this) (by have := HG.out.2.1.hd30 m; omega)).mono ?_
  rintro e w1 ⟨v, rfl, ho, hb⟩
  have R : Hid (Lw w1 w.heap.size v (g.hd m) ∧ Below w.heap.size w w1) := ⟨ho, hb⟩
  clear ho hb
  go_wp2
  go_ret2
  exact ⟨_, rfl, R.out⟩
theorem hdA (base P : Nat) (g : G) (fp : List Nat) (who : Int) (w : World) (h : AS w base P g fp) (hi : Inv g) (hM : ∀ m, g.most m ≤ 10000) : Calls Try.prog 12 #[.pointer (some ⟨P, 0, none⟩), .int .i64 who] w fun x w' => ∃ v, x = .returned (.tuple #[v, errF (hdC g who)]) ∧ Sl w' v (hdL g who) ∧ Below w.heap.size w w' := by
  obtain ⟨mS, mb, hv, cW, rfl, h, hcw⟩ := h
  by_cases hc : 0 ≤ who ∧ who < (g.n : Int)
  · obtain ⟨m, rfl⟩ : ∃ m : Nat, who = (m : Int) := ⟨who.toNat, by omega⟩
    have e1 : hdC g (m : Int) = 0 := if_neg (by omega)
    have e2 : hdL g (m : Int) = g.hd m := by unfold hdL; rw [if_pos e1, Int.toNat_natCast]
    rw [e1, e2, errF_ok]
    refine (hd_okA h hi.toInv0 m (by omega)).mono ?_
    rintro x w' ⟨v, rfl, ho, hb⟩
    exact ⟨v, rfl, Sl.of_own ho, hb⟩
  · have e1 : hdC g who = 1 := if_pos (by omega)
    have e2 : hdL g who = [] := by unfold hdL; rw [if_neg (by omega)]
    rw [e1, e2]
    refine (hd_no h who hc).mono ?_
    rintro x w' ⟨rfl, rfl⟩
    exact ⟨_, rfl, Sl.of_own (t := 3) (World.ownsRow_nil _ 0 _ _), Below.refl _ _⟩
end Go.Proofs.Ytcccheeeagphpag.Agr
