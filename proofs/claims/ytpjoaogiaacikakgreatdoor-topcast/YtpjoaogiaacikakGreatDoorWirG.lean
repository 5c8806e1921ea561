/-
  Unpack.
-/
import Derived.Test.YtpjoaogiaacikakGreatDoorWirF
namespace Go.Proofs.YtpjoaogiaacikakGreatDoor.Wir
open Go.RowKit
open Go.Proofs.YtpjoaogiaacikakGreatDoor.Fif (own_lt own_block own_form own_mono own_vw Kp ret_bool)
open Go.Proofs.YtpjoaogiaacikakGreatDoor.Vec (Vw code)
open Go.Proofs.YtpjoaogiaacikakGreatDoor.Cau (Sd sdBad)
set_option linter.unusedVariables false

theorem retS {fn : Func} {tmps : Array Value} {w : World} {p u : Tmp} {B : Nat} {v0 v1 v2 x : Value} (h : fn.results = #[.cell p 51, .tmp u]) (hp : tmps.getD p undef = .pointer (some ⟨B, 0, none⟩)) (hu : tmps.getD u undef = x)
    (y0 : w.cell? ⟨B, 0, none⟩ = some v0) (y1 : w.cell? ⟨B, 1, none⟩ = some v1) (y2 : w.cell? ⟨B, 2, none⟩ = some v2) : (results fn tmps).run Tryz.prog w = .ok (.tuple #[.agg #[v0, v1, v2], x]) w := by
  rw [results_cell_tmp h, hp, hu]
  simp [asAddr, go_sem, y0, y1, y2]
theorem unpack_len (t : ByteArray) (w : World) (h : t.size ≠ 18) : Calls Tryz.prog 18 #[.string t] w fun e w' => e = .returned (.tuple #[.agg #[.int .i64 0, .int .i64 0, .slice none 0 0], errF 2]) ∧ Below w.heap.size w w' := by
  have d0 : ((t.size : Int) != 18) = true := by rw [bne_iff_ne]; omega
  have b := box w 0 0 (.slice none 0 0)
  have c0 := b.cell (i := 0) (by omega)
  have c1 := b.cell (i := 1) (by omega)
  have c2 := b.cell (i := 2) (by omega)
  have f0 := b.frozen 0
  have f1 := b.frozen 1
  have f2 := b.frozen 2
  have R : Hid _ := b
  clear b h
  go_enter Tryz.func18, Tryz.ntmps18
  go_wp2
  exact bodyPost_ret (v := .tuple #[.agg #[.int .i64 0, .int .i64 0, .slice none 0 0], .iface 60 (.int .i64 2)]) (retS rfl rfl rfl (World.rowIs.cell R.out (i := 0) (by omega)) (World.rowIs.cell R.out (i := 1) (by omega)) (World.rowIs.cell R.out (i := 2) (by omega))) rfl ⟨rfl, (Below.refl _ _).alloc (Nat.le_refl _) _⟩
theorem str_eq (a b : ByteArray) : (a.toList == b.toList) = decide (a = b) := by
  rw [Lib.toList_data, Lib.toList_data, Bool.eq_iff_iff, beq_iff_eq, decide_eq_true_eq]
  constructor
  · intro h
    cases a
    cases b
    congr 1
    exact Array.toList_inj.1 h
  · intro h; rw [h]
/-- the result's block, and the word's -/
structure US (w W : World) (x y : Int) (u : Value) (L : Nat) (l : List Int) : Prop where
  r : W.rowIs w.heap.size 51 3 (wv 0 0 (.slice none 0 0))
  s : W.rowIs L 51 3 (wv x y u)
  sl : Sl W u l
  bel : Below w.heap.size w W
  ne : L ≠ w.heap.size
theorem US.later {w W W' : World} {x y : Int} {u : Value} {L : Nat} {l : List Int} (h : US w W x y u L l) (hb : Below W.heap.size W W') : US w W' x y u L l :=
  ⟨World.rowIs.of_block h.r (hb.block _ (World.rowIs.lt h.r)), World.rowIs.of_block h.s (hb.block _ (World.rowIs.lt h.s)), h.sl.later hb, h.bel.trans (hb.mono h.bel.size), h.ne⟩
theorem three_sl {w : World} {q : Option Addr} {n c R : Nat} {l : List Int} {v0 v1 v2 : Value} (h : Sl w (.slice q n c) l) (hne : ∀ b off, q = some ⟨b, off, none⟩ → b ≠ R) : Sl (((w.setCell ⟨R, 0, none⟩ v0).setCell ⟨R, 1, none⟩ v1).setCell ⟨R, 2, none⟩ v2) (.slice q n c) l := by
  obtain ⟨a, cap, e, h1, h2, h3⟩ := h
  simp only [Value.slice.injEq] at e
  obtain ⟨rfl, rfl, rfl⟩ := e
  refine ⟨q, c, rfl, h1, h2, h3.1, fun hp => ?_⟩
  obtain ⟨b, off, eb, hlt, hc⟩ := h3.2 hp
  have hn := hne b off eb
  refine ⟨b, off, eb, by simpa [World.setCell] using hlt, fun k hk => ?_⟩
  exact (World.cell?_of_block (a := ⟨b, off + k, none⟩) (Deep.blk_setCell_other _ ⟨R, 2, none⟩ _ _ hn)).trans ((World.cell?_of_block (a := ⟨b, off + k, none⟩) (Deep.blk_setCell_other _ ⟨R, 1, none⟩ _ _ hn)).trans ((World.cell?_of_block (a := ⟨b, off + k, none⟩) (Deep.blk_setCell_other _ ⟨R, 0, none⟩ _ _ hn)).trans (hc k hk)))
set_option maxRecDepth 100000 in
set_option maxHeartbeats 2000000 in
theorem unpack_right (t : ByteArray) (w : World) (h : t.size = 18) : Calls Tryz.prog 18 #[.string t] w fun e w' => ∃ u, e = .returned (.tuple #[.agg #[.int .i64 (unS t).1, .int .i64 (unS t).2.1, u], errF (unC t)]) ∧ Sl w' u (unS t).2.2 ∧ Below w.heap.size w w' := by
  have d0 : ((t.size : Int) != 18) = false := by simp; omega
  have H : Hid (t.size = 18) := h
  have B0 : Hid (Below w.heap.size w (w.alloc (.cells #[.int .i64 0, .int .i64 0, .slice none 0 0] 51)) ∧ (w.alloc (.cells #[.int .i64 0, .int .i64 0, .slice none 0 0] 51)).rowIs w.heap.size 51 3 (wv 0 0 (.slice none 0 0))) := ⟨(Below.refl _ _).alloc (Nat.le_refl _) _, box w 0 0 (.slice none 0 0)⟩
  clear h
  go_enter Tryz.func18, Tryz.ntmps18
  go_wp2_with fail
  refine (read_any t _ H.out).mono ?_
  rintro e w1 ⟨G, rfl, hG, hs, hb⟩
  obtain ⟨x, ex⟩ : ∃ x, x = (rd t).1 := ⟨_, rfl⟩
  obtain ⟨y, ey⟩ : ∃ y, y = (rd t).2.1 := ⟨_, rfl⟩
  rw [← ex, ← ey]
  have X : Hid (x = (rd t).1 ∧ y = (rd t).2.1 ∧ G ≠ w.heap.size) := ⟨ex, ey, by simp at hG; omega⟩
  have U0 : Hid (US w (w1.alloc (.cells #[.int .i64 x, .int .i64 y, .slice (some ⟨G, 0, none⟩) 5 5] 51)) x y (.slice (some ⟨G, 0, none⟩) 5 5) w1.heap.size (rd t).2.2) := by
    have h1 := B0.out.1.trans (hb.mono B0.out.1.size)
    have lt := World.rowIs.lt B0.out.2
    have r := World.rowIs.of_block B0.out.2 (hb.block _ lt)
    have lt1 := World.rowIs.lt r
    have b2 := (Below.refl w1.heap.size w1).alloc (Nat.le_refl _) (.cells #[.int .i64 x, .int .i64 y, .slice (some ⟨G, 0, none⟩) 5 5] 51)
    exact ⟨World.rowIs.of_block r (b2.block _ lt1), box w1 x y (.slice (some ⟨G, 0, none⟩) 5 5), hs.later b2, h1.trans (b2.mono h1.size), by omega⟩
  clear hs hb ex ey B0 hG
  go_wp2_with fail
  have e1 : Value.agg #[.int .i64 x, .int .i64 y, .slice (some ⟨G, 0, none⟩) 5 5] = .agg #[.int .i64 (rd t).1, .int .i64 (rd t).2.1, .slice (some ⟨G, 0, none⟩) 5 5] := by rw [X.out.1, X.out.2.1]
  obtain ⟨L, eL⟩ : ∃ L, L = w1.heap.size := ⟨_, rfl⟩
  have hp := packP (rd t) (.slice (some ⟨G, 0, none⟩) 5 5) _ U0.out.sl
  rw [← e1] at hp
  refine hp.mono ?_
  clear hp
  rintro e w3 ⟨rfl, hb⟩
  have U3 : Hid (US w w3 x y (.slice (some ⟨G, 0, none⟩) 5 5) L (rd t).2.2) := by rw [eL]; exact U0.out.later hb
  rw [← eL]
  have LO : Hid (∀ b off, (some ⟨G, 0, none⟩ : Option Addr) = some ⟨b, off, none⟩ → b ≠ w.heap.size) := fun b off e => by
    simp only [Option.some.injEq, Addr.mk.injEq] at e
    rw [← e.1]
    exact X.out.2.2
  clear hb U0 eL e1
  by_cases hz : packC (rd t) = 0
  · rw [hz, errF_ok]
    obtain ⟨again, ea⟩ : ∃ a, a = packS (rd t) := ⟨_, rfl⟩
    have ea2 : again = txt (pk (rd t)) := ea.trans (if_pos hz)
    rw [← ea]
    by_cases heq : again = t
    · have hok : okU t = true := by simp [okU, H.out, hz, ← ea2, heq]
      have E : Hid (unC t = 0 ∧ unS t = rd t) := by
        unfold unC unS
        rw [hok]
        exact ⟨rfl, rfl⟩
      have hst : (again.toList == t.toList) = true := by rw [str_eq]; exact decide_eq_true heq
      have hst2 : (again.toList != t.toList) = false := by unfold bne; rw [hst]; rfl
      have k0 : w3.cell? ⟨L, 0, none⟩ = some (.int .i64 x) := World.rowIs.cell U3.out.s (i := 0) (by omega)
      have k1 : w3.cell? ⟨L, 1, none⟩ = some (.int .i64 y) := World.rowIs.cell U3.out.s (i := 1) (by omega)
      have k2 : w3.cell? ⟨L, 2, none⟩ = some (.slice (some ⟨G, 0, none⟩) 5 5) := World.rowIs.cell U3.out.s (i := 2) (by omega)
      have c0 : w3.cell? ⟨w.heap.size, 0, none⟩ = some (.int .i64 0) := World.rowIs.cell U3.out.r (i := 0) (by omega)
      have c1 : w3.cell? ⟨w.heap.size, 1, none⟩ = some (.int .i64 0) := World.rowIs.cell U3.out.r (i := 1) (by omega)
      have c2 : w3.cell? ⟨w.heap.size, 2, none⟩ = some (.slice none 0 0) := World.rowIs.cell U3.out.r (i := 2) (by omega)
      have f0 := U3.out.r.frozen 0
      have f1 := U3.out.r.frozen 1
      have f2 := U3.out.r.frozen 2
      clear hz ea ea2 heq hok
      go_wp2
      have r5 := ((World.rowIs.set U3.out.r 0 (.int .i64 x)).set 1 (.int .i64 y)).set 2 (.slice (some ⟨G, 0, none⟩) 5 5)
      have y0 := r5.cell (i := 0) (by omega)
      have y1 := r5.cell (i := 1) (by omega)
      have y2 := r5.cell (i := 2) (by omega)
      simp at y0 y1 y2
      exact bodyPost_ret (v := .tuple #[.agg #[.int .i64 x, .int .i64 y, .slice (some ⟨G, 0, none⟩) 5 5], .nilIface]) (retS rfl rfl rfl y0 y1 y2) rfl ⟨.slice (some ⟨G, 0, none⟩) 5 5, by rw [E.out.1, E.out.2, X.out.1, X.out.2.1]; rfl, by rw [E.out.2]; exact three_sl U3.out.sl (fun b off e => LO.out b off e), U3.out.bel.trans (three_b (Nat.le_refl _))⟩
    · have hok : okU t = false := by simp [okU, H.out, hz, ← ea2, heq]
      have E : Hid (unC t = 2 ∧ unS t = (0, 0, [])) := by
        unfold unC unS
        rw [hok]
        exact ⟨rfl, rfl⟩
      have hst : (again.toList == t.toList) = false := by rw [str_eq]; exact decide_eq_false heq
      have hst2 : (again.toList != t.toList) = true := by unfold bne; rw [hst]; rfl
      have c0 : w3.cell? ⟨w.heap.size, 0, none⟩ = some (.int .i64 0) := World.rowIs.cell U3.out.r (i := 0) (by omega)
      have c1 : w3.cell? ⟨w.heap.size, 1, none⟩ = some (.int .i64 0) := World.rowIs.cell U3.out.r (i := 1) (by omega)
      have c2 : w3.cell? ⟨w.heap.size, 2, none⟩ = some (.slice none 0 0) := World.rowIs.cell U3.out.r (i := 2) (by omega)
      have f0 := U3.out.r.frozen 0
      have f1 := U3.out.r.frozen 1
      have f2 := U3.out.r.frozen 2
      clear hz ea ea2 heq hok
      go_wp2
      have r5 := ((World.rowIs.set U3.out.r 0 (.int .i64 0)).set 1 (.int .i64 0)).set 2 (.slice none 0 0)
      have y0 := r5.cell (i := 0) (by omega)
      have y1 := r5.cell (i := 1) (by omega)
      have y2 := r5.cell (i := 2) (by omega)
      simp at y0 y1 y2
      exact bodyPost_ret (v := .tuple #[.agg #[.int .i64 0, .int .i64 0, .slice none 0 0], .iface 60 (.int .i64 2)]) (retS rfl rfl rfl y0 y1 y2) rfl ⟨.slice none 0 0, by rw [E.out.1, E.out.2]; rfl, by rw [E.out.2]; exact Sl.nil _, U3.out.bel.trans (three_b (Nat.le_refl _))⟩
  · have hok : okU t = false := by simp [okU, H.out, hz]
    have E : Hid (unC t = 2 ∧ unS t = (0, 0, [])) := by
      unfold unC unS
      rw [hok]
      exact ⟨rfl, rfl⟩
    rw [errF_no hz]
    have c0 : w3.cell? ⟨w.heap.size, 0, none⟩ = some (.int .i64 0) := World.rowIs.cell U3.out.r (i := 0) (by omega)
    have c1 : w3.cell? ⟨w.heap.size, 1, none⟩ = some (.int .i64 0) := World.rowIs.cell U3.out.r (i := 1) (by omega)
    have c2 : w3.cell? ⟨w.heap.size, 2, none⟩ = some (.slice none 0 0) := World.rowIs.cell U3.out.r (i := 2) (by omega)
    have f0 := U3.out.r.frozen 0
    have f1 := U3.out.r.frozen 1
    have f2 := U3.out.r.frozen 2
    clear hz hok
    go_wp2
    have r5 := ((World.rowIs.set U3.out.r 0 (.int .i64 0)).set 1 (.int .i64 0)).set 2 (.slice none 0 0)
    have y0 := r5.cell (i := 0) (by omega)
    have y1 := r5.cell (i := 1) (by omega)
    have y2 := r5.cell (i := 2) (by omega)
    simp at y0 y1 y2
    exact bodyPost_ret (v := .tuple #[.agg #[.int .i64 0, .int .i64 0, .slice none 0 0], .iface 60 (.int .i64 2)]) (retS rfl rfl rfl y0 y1 y2) rfl ⟨.slice none 0 0, by rw [E.out.1, E.out.2]; rfl, by rw [E.out.2]; exact Sl.nil _, U3.out.bel.trans (three_b (Nat.le_refl _))⟩
theorem unpackP (t : ByteArray) (w : World) : Calls Tryz.prog 18 #[.string t] w fun e w' => ∃ u, e = .returned (.tuple #[.agg #[.int .i64 (unS t).1, .int .i64 (unS t).2.1, u], errF (unC t)]) ∧ Sl w' u (unS t).2.2 ∧ Below w.heap.size w w' := by
  by_cases h : t.size = 18
  · exact unpack_right t w h
  · obtain ⟨e1, e2⟩ := unC_no h
    rw [e1, e2]
    refine (unpack_len t w h).mono ?_
    rintro e w' ⟨rfl, hb⟩
    exact ⟨_, rfl, Sl.nil _, hb⟩
/-- the same, the word's parts under names of their own -/
theorem unpackX (t : ByteArray) (w : World) : Calls Tryz.prog 18 #[.string t] w fun e w' => ∃ x y q n c, e = .returned (.tuple #[.agg #[.int .i64 x, .int .i64 y, .slice q n c], errF (unC t)]) ∧ Hid ((x = (unS t).1 ∧ y = (unS t).2.1) ∧ Sl w' (.slice q n c) (unS t).2.2) ∧ Below w.heap.size w w' := by
  refine (unpackP t w).mono ?_
  rintro e w' ⟨u, rfl, hs, hb⟩
  have hs' := hs
  obtain ⟨q, c, rfl, _⟩ := hs'
  exact ⟨_, _, _, _, _, rfl, ⟨⟨rfl, rfl⟩, hs⟩, hb⟩
end Go.Proofs.YtpjoaogiaacikakGreatDoor.Wir
