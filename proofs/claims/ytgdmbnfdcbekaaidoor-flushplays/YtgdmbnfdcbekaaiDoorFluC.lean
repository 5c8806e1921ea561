/-
  Contracts of package flush's isMember, check, hasHeard, View and Heard.
-/
import Derived.Test.YtgdmbnfdcbekaaiDoorFluK
import Derived.Test.YtgdmbnfdcbekaaiDoorViwP
import Derived.Deep.QuietTactic
import Derived.BigQuiet
import Derived.Deep.RegionHeld3
import Derived.WalkLawsBesides
import Derived.Handy
namespace Go.Proofs.YtgdmbnfdcbekaaiDoor.Flu
open Go.RowKit Go.Maps
open Go.Proofs.YtgdmbnfdcbekaaiDoor.Fif (own_lt own_block own_form own_mono own_vw ret_bool info_int new_int int_one)
open Go.Proofs.YtgdmbnfdcbekaaiDoor.Vec (Vw)
open Go.Proofs.YtgdmbnfdcbekaaiDoor.Sep (KpL NewL)
open Go.Proofs.YtgdmbnfdcbekaaiDoor.Ldr (errF errF_ok errF_no Sl)
open Go.Proofs.YtgdmbnfdcbekaaiDoor.Viw (contP cloneP rtVP OwP two_other)
set_option linter.unusedVariables false
variable {w w' : World} {base P mS mH bH oH cH : Nat} {rv : Nat → Value} {f : F}

theorem zeroR (W : World) : (zeroValue 28).run Tryd.prog W = .ok nilV W := by kernel_rfl
theorem isM_any (x : Int) (w : World) : Calls Tryd.prog 26 #[.int .i64 x] w fun e w' => e = .returned (.bool (decide (0 ≤ x ∧ x ≤ 4))) ∧ w' = w := by
  by_cases h1 : x ≥ 0
  · by_cases h2 : x < 5
    · go_enter Tryd.func26, Tryd.ntmps26
      go_wp2
      go_ret
      exact ⟨ret_bool (decide_eq_true (by omega)).symm, rfl⟩
    · go_enter Tryd.func26, Tryd.ntmps26
      go_wp2
      go_ret
      exact ⟨ret_bool (decide_eq_false (by omega)).symm, rfl⟩
  · go_enter Tryd.func26, Tryd.ntmps26
    go_wp2
    go_ret
    exact ⟨ret_bool (by simp; omega), rfl⟩
theorem chk_is1 {who word : Int} (h : (who < 0 ∨ 4 < who) ∨ word < 1 ∨ 30 < word) : chk f who word = 1 := if_pos h
set_option maxRecDepth 100000 in
theorem chk_any (h : GF w base P mS mH bH oH cH rv f) (hl : f.v.has.length ≤ 5) (who word : Int) : Calls Tryd.prog 18 #[.pointer (some ⟨P, 0, none⟩), .int .i64 who, .int .i64 word] w fun e w' => e = .returned (errF (chk f who word)) ∧ w' = w := by
  have c1 := h.c1
  obtain ⟨l, el⟩ : ∃ l, l = f.v.has.length := ⟨_, rfl⟩
  rw [← el] at c1 hl
  have HV : Hid (Vw w (some ⟨bH, oH, none⟩) l f.v.has) := by
    obtain ⟨a, cap, e, -, -, hv⟩ := h.has
    injection e with e1
    subst e1
    rw [el]
    exact hv
  by_cases h1 : 0 ≤ who ∧ who ≤ 4
  · have d1 : Hid (decide (0 ≤ who ∧ who ≤ 4) = true) := decide_eq_true h1
    by_cases h2 : word < 1
    · rw [chk_is1 (.inr (.inl h2)), errF_no (by decide)]
      clear h h1 c1 HV el
      go_enter Tryd.func18, Tryd.ntmps18
      go_wp2_with fail
      refine (isM_any who _).mono ?_
      rintro e w ⟨rfl, rfl⟩
      rw [d1.out]
      go_wp2
      go_ret
      exact ⟨rfl, rfl⟩
    · by_cases h3 : word > 30
      · rw [chk_is1 (.inr (.inr h3)), errF_no (by decide)]
        clear h h1 c1 HV el
        go_enter Tryd.func18, Tryd.ntmps18
        go_wp2_with fail
        refine (isM_any who _).mono ?_
        rintro e w ⟨rfl, rfl⟩
        rw [d1.out]
        go_wp2
        go_ret
        exact ⟨rfl, rfl⟩
      · have e0 : chk f who word = if who ∈ f.v.has then 0 else 8 := if_neg (by omega)
        by_cases h4 : who ∈ f.v.has
        · have hc : Hid (f.v.has.contains who = true) := List.contains_iff_mem.2 h4
          rw [e0, if_pos h4, errF_ok]
          clear h h1 el e0 h4
          go_enter Tryd.func18, Tryd.ntmps18
          go_wp2_with fail
          refine (isM_any who _).mono ?_
          rintro e w ⟨rfl, rfl⟩
          rw [d1.out]
          go_wp2_with fail
          refine (contP (some ⟨bH, oH, none⟩) l cH f.v.has who _ (by unfold maxLen; omega) HV.out).mono ?_
          rintro e w ⟨rfl, rfl⟩
          rw [hc.out]
          go_wp2
          go_ret
          exact ⟨rfl, rfl⟩
        · have hc : Hid (f.v.has.contains who = false) := by
            show _ = false
            rw [Bool.eq_false_iff]
            exact fun z => h4 (List.contains_iff_mem.1 z)
          rw [e0, if_neg h4, errF_no (by decide)]
          clear h h1 el e0 h4
          go_enter Tryd.func18, Tryd.ntmps18
          go_wp2_with fail
          refine (isM_any who _).mono ?_
          rintro e w ⟨rfl, rfl⟩
          rw [d1.out]
          go_wp2_with fail
          refine (contP (some ⟨bH, oH, none⟩) l cH f.v.has who _ (by unfold maxLen; omega) HV.out).mono ?_
          rintro e w ⟨rfl, rfl⟩
          rw [hc.out]
          go_wp2
          go_ret
          exact ⟨rfl, rfl⟩
  · have d1 : Hid (decide (0 ≤ who ∧ who ≤ 4) = false) := decide_eq_false h1
    rw [chk_is1 (.inl (by omega)), errF_no (by decide)]
    clear h h1 c1 HV el
    go_enter Tryd.func18, Tryd.ntmps18
    go_wp2_with fail
    refine (isM_any who _).mono ?_
    rintro e w ⟨rfl, rfl⟩
    rw [d1.out]
    go_wp2
    go_ret
    exact ⟨rfl, rfl⟩
/-- what is found at a seat of the map -/
theorem GF.look (h : GF w base P mS mH bH oH cH rv f) (hN : (num f : Int) ≤ 1000000) {k m : Nat} (hk : k ≤ num f) (hm : m < 5) : ∃ q c, rv (ix k m) = .slice q (f.hd k m).length c ∧ Vw w q (f.hd k m).length (f.hd k m) ∧ ∀ W : World, W.heap[mH]? = w.heap[mH]? → (Instr.lookup 54 (.map (some mH)) (.agg #[.int .i64 (m : Int), .int .i64 (k : Int)]) false).run Tryd.prog W = .ok (.slice q (f.hd k m).length c) W := by
  obtain ⟨q, c, e, hv⟩ := h.ints.see (ix_lt hk hm)
  rw [lsP_ix f hm] at e hv
  refine ⟨q, c, e, hv, fun W hW => ?_⟩
  have z := h.heard.look Tryd.underlying54 zeroR (MapS.okK_of (a := (m : Int)) (b := (k : Int)) (by omega) (by omega)) W hW
  rw [TH_at h.nil hk hm, e] at z
  exact z
set_option maxRecDepth 100000 in
theorem hasH_any (h : GF w base P mS mH bH oH cH rv f) (hn : (num f : Int) = f.v.n) (hN : f.v.n ≤ 1000000) {m : Nat} (hm : m < 5) (word : Int) : Calls Tryd.prog 21 #[.pointer (some ⟨P, 0, none⟩), .int .i64 (m : Int), .int .i64 word] w fun e w' => e = .returned (.bool ((cur f m).contains word)) ∧ w'.heap = w.heap ∧ Below w.heap.size w w' := by
  have hl : (cur f m).length ≤ 30 := h.sm _ _
  obtain ⟨q, c, eq, hv, hlk⟩ := h.look (by omega) (Nat.le_refl _) hm
  obtain ⟨N, eN⟩ : ∃ N, N = num f := ⟨_, rfl⟩
  rw [← eN] at hlk hv
  have c0 := h.c0
  rw [← hn, ← eN] at c0
  have c4 := h.c4
  obtain ⟨xs, exs⟩ : ∃ xs, xs = cur f m := ⟨_, rfl⟩
  have exs' : f.hd N m = xs := by rw [exs, eN]; rfl
  rw [exs'] at hlk hv
  rw [← exs] at hl ⊢
  obtain ⟨l, el⟩ : ∃ l, l = xs.length := ⟨_, rfl⟩
  rw [← el] at hlk hv hl
  have HV : Hid (Vw w q l xs) := hv
  have HS : Hid (∀ X : World, X.heap = w.heap → X.cell? ⟨P, 0, none⟩ = some (.int .i64 (N : Int)) ∧ X.cell? ⟨P, 4, none⟩ = some (.map (some mH)) ∧ (Instr.lookup 54 (.map (some mH)) (.agg #[.int .i64 (m : Int), .int .i64 (N : Int)]) false).run Tryd.prog X = .ok (.slice q l c) X) := by
    intro X hX
    exact ⟨(World.cell?_of_block (a := ⟨P, 0, none⟩) (by rw [hX])).trans c0, (World.cell?_of_block (a := ⟨P, 4, none⟩) (by rw [hX])).trans c4, hlk X (by rw [hX])⟩
  clear h hn hN hm hv hlk eq eN exs exs' el c0 c4
  go_enter Tryd.func21, Tryd.ntmps21
  go_wp2_with fail
  go_region_held3 (fun X => X.cell? ⟨P, 0, none⟩ = some (.int .i64 (N : Int)) ∧ X.cell? ⟨P, 4, none⟩ = some (.map (some mH)) ∧ (Instr.lookup 54 (.map (some mH)) (.agg #[.int .i64 (m : Int), .int .i64 (N : Int)]) false).run Tryd.prog X = .ok (.slice q l c) X) (exact HS.out _ rfl) (first
    | (go_at_call 20; refine (contP q l c xs word _ (by unfold maxLen; omega) (by exact HV.out)).mono ?_; rintro e4 w4 ⟨rfl, rfl⟩))
  go_wp2
  go_ret
  exact ⟨ret_bool (by simp), rfl, ⟨rfl, rfl, rfl, Nat.le_refl _, fun _ _ => rfl⟩⟩
theorem ret1V {fn : Func} {tmps : Array Value} {w : World} {p : Tmp} {B : Nat} {v0 v1 : Value} (h : fn.results = #[.cell p 30]) (hp : tmps.getD p undef = .pointer (some ⟨B, 0, none⟩))
    (y0 : w.cell? ⟨B, 0, none⟩ = some v0) (y1 : w.cell? ⟨B, 1, none⟩ = some v1) : (results fn tmps).run Tryd.prog w = .ok (.agg #[v0, v1]) w := by
  have hp' : tmps[p]?.getD undef = .pointer (some ⟨B, 0, none⟩) := by simpa using hp
  simp [results, h, hp', asAddr, go_sem, y0, y1]
set_option maxRecDepth 100000 in
theorem viewG (h : GF w base P mS mH bH oH cH rv f) (h0 : 0 < f.v.has.length) (h5 : f.v.has.length ≤ 5) : Calls Tryd.prog 17 #[.pointer (some ⟨P, 0, none⟩)] w fun x w' => ∃ q c, x = .returned (.agg #[.int .i64 f.v.n, .slice q f.v.has.length c]) ∧ Sl w' (.slice q f.v.has.length c) f.v.has ∧ (∀ ad, q = some ad → w.heap.size ≤ ad.block) ∧ Below w.heap.size w w' := by
  obtain ⟨W1, eW1⟩ : ∃ W1, W1 = w.alloc (.cells #[.int .i64 0, .slice none 0 0] 30) := ⟨_, rfl⟩
  have b1 : Below w.heap.size w W1 := by rw [eW1]; exact (Below.refl _ _).alloc (Nat.le_refl _) _
  obtain ⟨B, eB⟩ : ∃ B, B = w.heap.size := ⟨_, rfl⟩
  have R1 : W1.rowIs B 30 2 (fun j => if j = 0 then .int .i64 0 else .slice none 0 0) := by
    rw [eW1, eB]
    exact World.rowIs_alloc w #[.int .i64 0, .slice none 0 0] 30 _ (fun i hi => by rcases i with _ | _ | i <;> first | rfl | (exfalso; have : _ < 2 := hi; omega))
  have G1 : Hid (GF W1 base P mS mH bH oH cH rv f ∧ Below w.heap.size w W1 ∧ W1.rowIs B 30 2 (fun j => if j = 0 then .int .i64 0 else .slice none 0 0) ∧ B = w.heap.size ∧ P < w.heap.size) := ⟨h.later b1, b1, R1, eB, h.lt⟩
  obtain ⟨l, el⟩ : ∃ l, l = f.v.has.length := ⟨_, rfl⟩
  have EL : Hid (l = f.v.has.length) := el
  have HS : Hid (∀ X : World, X.heap[P]? = W1.heap[P]? → X.cell? ⟨P, 0, none⟩ = some (.int .i64 f.v.n) ∧ X.cell? ⟨P, 1, none⟩ = some (.slice (some ⟨bH, oH, none⟩) l cH)) := by
    intro X hX
    refine ⟨(World.cell?_of_block (a := ⟨P, 0, none⟩) hX).trans G1.out.1.c0, ?_⟩
    rw [EL.out]
    exact (World.cell?_of_block (a := ⟨P, 1, none⟩) hX).trans G1.out.1.c1
  obtain ⟨n, en⟩ : ∃ n, n = f.v.n := ⟨_, rfl⟩
  have EN : Hid (n = f.v.n) := en
  rw [← en] at HS ⊢
  have HSL : Hid (Sl W1 (.slice (some ⟨bH, oH, none⟩) l cH) f.v.has) := by rw [el]; exact G1.out.1.has
  rw [← el] at h0 h5 ⊢
  clear h b1 R1 el en
  go_enter Tryd.func17, Tryd.ntmps17
  go_wp2_with fail
  rw [← eW1, ← eB]
  clear eW1 eB
  go_region_held3 (fun X => X.cell? ⟨P, 0, none⟩ = some (.int .i64 n) ∧ X.cell? ⟨P, 1, none⟩ = some (.slice (some ⟨bH, oH, none⟩) l cH)) (first | exact HS.out _ rfl | exact HS.out _ (B4.out.2.1) | exact HT.out _ _) (first
    | (go_at_call 27; refine (cloneP (.slice (some ⟨bH, oH, none⟩) l cH) f.v.has _ (by exact HSL.out) (by rw [← EL.out]; exact h0) (by rw [← EL.out]; omega)).mono ?_; rintro e4 w4 ⟨v4, rfl, ho, hb⟩; obtain ⟨q4, c4, rfl, hsl, hnw⟩ := OwP.sl ho; rw [← EL.out] at hsl; rw [← EL.out]; have B4 : Hid (Below W1.heap.size W1 w4 ∧ w4.heap[P]? = W1.heap[P]? ∧ w4.rowIs B 30 2 (fun j => if j = 0 then .int .i64 0 else .slice none 0 0)) := ⟨⟨hb.os, hb.tape, hb.output, hb.size, fun k hk => hb.block k hk⟩, hb.block P (by exact G1.out.1.lt), World.rowIs.of_block G1.out.2.2.1 (hb.block B (by exact World.rowIs.lt G1.out.2.2.1))⟩; have HN : Hid (Sl w4 (.slice q4 l c4) f.v.has ∧ (∀ ad, q4 = some ad → W1.heap.size ≤ ad.block)) := ⟨hsl, fun ad e => by have := hnw ad e; simpa using this⟩; have t0 := World.rowIs.cell B4.out.2.2 (i := 0) (by omega); have t1 := World.rowIs.cell B4.out.2.2 (i := 1) (by omega); have f0 := World.rowIs.frozen B4.out.2.2 0; have f1 := World.rowIs.frozen B4.out.2.2 1; have HT : Hid (∀ x0 x1 : Value, ((w4.setCell ⟨B, 0, none⟩ x0).setCell ⟨B, 1, none⟩ x1).cell? ⟨P, 0, none⟩ = some (.int .i64 n) ∧ ((w4.setCell ⟨B, 0, none⟩ x0).setCell ⟨B, 1, none⟩ x1).cell? ⟨P, 1, none⟩ = some (.slice (some ⟨bH, oH, none⟩) l cH)) := (fun x0 x1 => HS.out _ ((two_other _ _ _ _ (by have := G1.out.2.2.2.1; have := G1.out.2.2.2.2; omega)).trans B4.out.2.1)); simp only [Nat.one_ne_zero, if_true, if_false] at t0 t1; clear ho hb hsl hnw))
  go_wp2
  have r := (World.rowIs.set B4.out.2.2 0 (.int .i64 n)).set 1 (.slice q4 l c4)
  have u0 := r.cell (i := 0) (by omega)
  have u1 := r.cell (i := 1) (by omega)
  simp at u0 u1
  refine bodyPost_ret (v := .agg #[.int .i64 n, .slice q4 l c4]) (ret1V (B := B) rfl rfl u0 u1) rfl ?_
  have hR := World.rowIs.lt G1.out.2.2.1
  have e1 := G1.out.2.2.2.1
  have hW := G1.out.2.1.size
  refine ⟨q4, c4, by first | rfl | rw [EN.out], ?_, fun ad e => by have := HN.out.2 ad e; omega, ?_⟩
  · obtain ⟨a, cap, e, h1, h2, h3⟩ := HN.out.1
    injection e with z1 z2 z3
    subst z1 z3
    refine ⟨q4, c4, by rw [← EL.out], h1, h2, h3.1, fun z => ?_⟩
    obtain ⟨b, off, ea, hlt, hc⟩ := h3.2 z
    have hne : b ≠ B := by have := HN.out.2 _ ea; have : W1.heap.size ≤ b := this; omega
    exact ⟨b, off, ea, by simp [World.setCell]; exact hlt, fun k hk => (World.cell?_of_block (a := ⟨b, off + k, none⟩) (two_other _ _ _ _ hne)).trans (hc k hk)⟩
  · have b4 : Below w.heap.size w w4 := G1.out.2.1.trans (B4.out.1.mono hW)
    exact (b4.setCell (p := ⟨B, 0, none⟩) (by show _ ≤ B; omega) _).setCell (p := ⟨B, 1, none⟩) (by show _ ≤ B; omega) _
end Go.Proofs.YtgdmbnfdcbekaaiDoor.Flu
