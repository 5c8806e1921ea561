/-
  The document's own bytes of a word.
-/
import Derived.Test.YtolnfipdhkbkjajDoorWirD
import Derived.Deep.CutBlock
import Derived.Deep.CutRange
namespace Go.Proofs.YtolnfipdhkbkjajDoor.Wir
open Go.RowKit
open Go.Proofs.YtolnfipdhkbkjajDoor.Fif (own_lt own_block own_form own_mono own_vw Kp ret_bool)
open Go.Proofs.YtolnfipdhkbkjajDoor.Vec (Vw code)
open Go.Proofs.YtolnfipdhkbkjajDoor.Cau (Sd sdBad)
set_option linter.unusedVariables false

theorem sum_upto (l : List Int) {i : Nat} (h : i < l.length) : (l.take (i + 1)).sum = (l.take i).sum + l.getD i 0 := by
  rw [List.take_succ_eq_append_getElem h, List.sum_append]
  simp [List.getD, h]
theorem sum_bound {l : List Int} (h : Byt l) : ∀ i, i ≤ l.length → 0 ≤ (l.take i).sum ∧ (l.take i).sum ≤ 255 * i := by
  intro i
  induction i with
  | zero => intro _; simp
  | succ i ih =>
    intro hi
    have := ih (by omega)
    have hm := h l[i] (List.getElem_mem (by omega))
    have e : l.getD i 0 = l[i] := by simp [List.getD, show i < l.length by omega]
    rw [sum_upto l (by omega), e]
    omega
set_option maxRecDepth 100000 in
set_option maxHeartbeats 2000000 in
theorem refBytes (x0 y0 : Int) (l : List Int) (u : Value) (w : World) (hv : Sl w u l) (h : packC (x0, y0, l) = 0) : Calls Tryd.prog 22 #[.agg #[.int .i64 x0, .int .i64 y0, u]] w fun e w' => e = .returned (.string (txt (pk (x0, y0, l)))) ∧ Below w.heap.size w w' := by
  obtain ⟨h1, h2, h3⟩ := sd_ok h
  simp only at h1 h2 h3
  have hl5 : l.length = 5 := Vec.code_len h3
  have hr : ∀ i, i < l.length → 0 ≤ l.getD i 0 ∧ l.getD i 0 ≤ 1000000 := by
    obtain ⟨a, b, c, d, e, rfl, q0, q1, q2, q3, q4⟩ := code_ok h3
    intro i hi
    rcases i with _ | _ | _ | _ | _ | i
    · exact q0
    · exact q1
    · exact q2
    · exact q3
    · exact q4
    · simp at hi; omega
  have H : Hid (packC (x0, y0, l) = 0 ∧ Sl w u l ∧ l.length = 5 ∧ (∀ i, i ≤ l.length → Byt (upto x0 y0 l i)) ∧ ∀ i, i < l.length → 0 ≤ l.getD i 0 ∧ l.getD i 0 ≤ 1000000) := ⟨h, hv, hl5, fun i hi => upto_byt ⟨by omega, by omega⟩ ⟨by omega, by omega⟩ hr hi, hr⟩
  obtain ⟨hx0, hx4⟩ := h1
  obtain ⟨y1, y30⟩ := h2
  have wx : x0 % 256 = x0 := by omega
  have wy : y0 % 256 = y0 := by omega
  clear h hv h3 hl5 hr
  obtain ⟨q, c, rfl, _, _, hv⟩ := H.out.2.1
  rw [H.out.2.2.1] at hv
  have V : Hid (Vw w q 5 l) := hv
  rw [H.out.2.2.1]
  obtain ⟨p, off, rfl, hlt, hc⟩ := hv.2 (by omega)
  have C : Hid (p < w.heap.size ∧ ∀ k, k < 5 → w.cell? ⟨p, off + k, none⟩ = some (.int .i64 (l.getD k 0))) := ⟨hlt, hc⟩
  obtain ⟨w1, ew1⟩ : ∃ w1, w1 = w.alloc (.cells #[.int .i64 x0, .int .i64 y0, .slice (some ⟨p, off, none⟩) 5 c] 59) := ⟨_, rfl⟩
  have B1 : Hid (Below w.heap.size w w1) := by
    rw [ew1]
    exact (Below.refl _ _).alloc (Nat.le_refl _) _
  have r1 := box w x0 y0 (.slice (some ⟨p, off, none⟩) 5 c)
  rw [← ew1] at r1
  have R1 : Hid (w1.rowIs w.heap.size 59 3 (wv x0 y0 (.slice (some ⟨p, off, none⟩) 5 c)) ∧ w.heap.size < w1.heap.size) := ⟨r1, World.rowIs.lt r1⟩
  have k0 : w1.cell? ⟨w.heap.size, 0, none⟩ = some (.int .i64 x0) := World.rowIs.cell r1 (i := 0) (by omega)
  have k1 : w1.cell? ⟨w.heap.size, 1, none⟩ = some (.int .i64 y0) := World.rowIs.cell r1 (i := 1) (by omega)
  have F0 : Hid (Bo (w1.alloc (.cells #[.int .u8 x0, .int .u8 y0] 5)) w1.heap.size (.slice (some ⟨w1.heap.size, 0, none⟩) 2 2) (txt (upto x0 y0 l 0)) ∧ Below w1.heap.size w1 (w1.alloc (.cells #[.int .u8 x0, .int .u8 y0] 5))) := ⟨new_own w1 [x0, y0] w1.heap.size (Nat.le_refl _) (by simp) (H.out.2.2.2.1 0 (by omega)), (Below.refl _ _).alloc (Nat.le_refl _) _⟩
  clear hv hlt hc r1
  go_enter Tryd.func22, Tryd.ntmps22
  go_upto_region 1 with fail
  rw [← ew1]
  clear ew1
  go_wp2_with fail
  clear k0 k1
  go_loopw [3, 4] (fun v x wr => ∃ i : Nat, i ≤ 5 ∧ x = .int .i64 (i : Int) ∧ Hid (Bo wr w1.heap.size v (txt (upto x0 y0 l i)) ∧ Below w1.heap.size w1 wr)) (fun _ x _ => 5 - (intOf x).toNat)
  case atStart => exact ⟨0, by omega, rfl, F0.out⟩
  case round =>
    clear F0
    obtain ⟨i, hi5, rfl, hR⟩ := hrel
    by_cases hlt : i < 5
    · have hi0 : (0 : Int) ≤ (i : Int) := by omega
      have hin : (i : Int) < 5 := by omega
      have r2 := World.rowIs.of_block R1.out.1 (hR.out.2.block _ R1.out.2)
      have k2 : wr.cell? ⟨w.heap.size, 2, none⟩ = some (.slice (some ⟨p, off, none⟩) 5 c) := World.rowIs.cell r2 (i := 2) (by omega)
      have kn : wr.cell? ⟨p, off + i, none⟩ = some (.int .i64 (l.getD i 0)) := (hR.out.2.cell (p := ⟨p, off + i, none⟩) (Nat.lt_trans C.out.1 R1.out.2)).trans ((B1.out.cell (p := ⟨p, off + i, none⟩) C.out.1).trans (C.out.2 i hlt))
      obtain ⟨n0, n1⟩ := H.out.2.2.2.2 i (by rw [H.out.2.2.1]; exact hlt)
      obtain ⟨n, en⟩ : ∃ n, n = l.getD i 0 := ⟨_, rfl⟩
      have EN : Hid (n = l.getD i 0) := en
      rw [← en] at kn n0 n1
      have e16 : n / 65536 % 256 = n / 65536 := by omega
      have e8 : n / 256 % 256 % 256 = n / 256 % 256 := by omega
      have e1 : n % 256 % 256 = n % 256 := by omega
      have BN : Hid (Byt [n / 65536, n / 256 % 256, n % 256]) := by
        intro b hb
        simp only [List.mem_cons, List.not_mem_nil, or_false] at hb
        rcases hb with rfl | rfl | rfl <;> omega
      have hsz := upto_len x0 y0 (l := l) (i := i) (by rw [H.out.2.2.1]; exact hi5)
      have hfo := hR.out.1.form
      rw [txt_size, hsz] at hfo
      obtain ⟨qb, cb, rfl, _⟩ := hfo
      have SZ : Hid ((txt (upto x0 y0 l i)).size = 2 + 3 * i) := by show _ = _; rw [txt_size, hsz]
      clear r2 en hsz
      go_wp2_with (at_builtin; refine app_bytes _ rfl _ _ rfl w1.heap.size _ (txt (upto x0 y0 l i)) rfl (hR.out.1.later ((Below.refl _ _).alloc (Nat.le_refl _) _)) [n / 65536, n / 256 % 256, n % 256] BN.out wr.heap.size 3 3 rfl rfl (new_row _ _ rfl _ _) (by rw [SZ.out]; omega) (by have := hR.out.2.size; simp; omega) ?_; intro v' w' hown hgrow; have O2 : Hid (Bo w' w1.heap.size v' (txt (upto x0 y0 l (i + 1))) ∧ Below w1.heap.size w1 w') := ⟨by rw [upto_succ x0 y0 (by rw [H.out.2.2.1]; exact hlt), txt_append, ← EN.out]; exact hown, ((hR.out.2.alloc hR.out.2.size _).grown hgrow (by have := hR.out.2.size; simp; omega) (fun k hk => (own_lt hR.out.1 k hk).1))⟩; clear hown hgrow)
      go_roundw
      case rel => exact ⟨i + 1, by omega, by go_num, O2.out⟩
      case measure => simp [intOf]; omega
    · have hi : i = 5 := by omega
      subst hi
      have U : Hid (upto x0 y0 l 5 = body (x0, y0, l)) := by
        show upto x0 y0 l 5 = body (x0, y0, l)
        unfold upto body
        rw [← H.out.2.2.1, List.take_length]
      have OK : Hid (Byt (body (x0, y0, l)) ∧ (body (x0, y0, l)).length = 17) := by
        rw [← U.out]
        exact ⟨H.out.2.2.2.1 5 (by rw [H.out.2.2.1]; omega), upto_len x0 y0 (by rw [H.out.2.2.1]; omega)⟩
      have O3 : Hid (Bo wr w1.heap.size u3 (txt (body (x0, y0, l))) ∧ Below w1.heap.size w1 wr) := by rw [← U.out]; exact hR.out
      have hfo := O3.out.1.form
      rw [txt_size, OK.out.2] at hfo
      obtain ⟨qb, cb, rfl, hcells⟩ := hfo
      obtain ⟨gb, rfl, _, _, hcells⟩ := hcells (by omega)
      have CL : Hid (∀ j, j < 17 → wr.cell? ⟨gb, j, none⟩ = some (.int .u8 ((body (x0, y0, l)).getD j 0))) := fun j hj => by
        rw [hcells j hj, bt_txt OK.out.1 (by rw [OK.out.2]; exact hj)]
      clear hcells hR
      go_wp2_with fail
      go_loopw [6, 7] (fun s x w4 => ∃ j : Nat, j ≤ 17 ∧ x = .int .i64 (j : Int) ∧ s = .int .i64 ((body (x0, y0, l)).take j).sum ∧ wr = w4) (fun _ x _ => 17 - (intOf x).toNat)
      case atStart => exact ⟨0, by omega, rfl, rfl, rfl⟩
      case round =>
        obtain ⟨j, hj17, rfl, rfl, rfl⟩ := hrel
        have hsb := sum_bound OK.out.1 j (by rw [OK.out.2]; exact hj17)
        obtain ⟨s, es⟩ : ∃ s, s = ((body (x0, y0, l)).take j).sum := ⟨_, rfl⟩
        have ES : Hid (s = ((body (x0, y0, l)).take j).sum) := es
        rw [← es] at hsb ⊢
        clear es
        have hj0 : (0 : Int) ≤ (j : Int) := by omega
        by_cases hlt : j < 17
        · have hjn : (j : Int) < 17 := by omega
          have hb := CL.out j hlt
          have hbb : 0 ≤ (body (x0, y0, l)).getD j 0 ∧ (body (x0, y0, l)).getD j 0 < 256 := by
            rw [← bt_txt OK.out.1 (by rw [OK.out.2]; exact hlt)]
            exact bt_range _ _
          obtain ⟨b, eb⟩ : ∃ b, b = (body (x0, y0, l)).getD j 0 := ⟨_, rfl⟩
          rw [← eb] at hb hbb
          have EB : Hid (b = (body (x0, y0, l)).getD j 0) := eb
          clear eb
          go_wp2
          go_roundw
          case rel =>
            refine ⟨j + 1, by omega, by go_num, ?_, trivial⟩
            rw [sum_upto _ (by rw [OK.out.2]; exact hlt), ← EB.out, ← ES.out]
          case measure => simp [intOf]; omega
        · have hj : j = 17 := by omega
          subst hj
          have ET : Hid (s % 256 = tot (body (x0, y0, l)) ∧ Byt [s % 256]) := by
            refine ⟨?_, ?_⟩
            · rw [tot_sum, ES.out, ← OK.out.2, List.take_length]
            · intro b hb
              obtain rfl := List.mem_singleton.1 hb
              omega
          have m1 : s % 256 % 256 = s % 256 := by omega
          go_wp2_with (at_builtin; refine app_bytes _ rfl _ _ rfl w1.heap.size _ (txt (body (x0, y0, l))) rfl (O3.out.1.later ((Below.refl _ _).alloc (Nat.le_refl _) _)) [s % 256] ET.out.2 wr.heap.size 1 1 rfl rfl (new_row _ _ rfl _ _) (by rw [txt_size, OK.out.2]; decide) (by have := O3.out.2.size; simp; omega) ?_; intro v' w' hown hgrow; have hcv := text_of hown w' (fun _ _ => rfl); have B9 : Hid (Below w1.heap.size w1 w') := ((O3.out.2.alloc O3.out.2.size _).grown hgrow (by have := O3.out.2.size; simp; omega) (fun k hk => (own_lt O3.out.1 k hk).1)); clear hown hgrow)
          go_ret
          refine ⟨?_, B1.out.trans (B9.out.mono (Nat.le_of_lt R1.out.2))⟩
          rw [ET.out.1, ← txt_append]
          rfl
end Go.Proofs.YtolnfipdhkbkjajDoor.Wir
