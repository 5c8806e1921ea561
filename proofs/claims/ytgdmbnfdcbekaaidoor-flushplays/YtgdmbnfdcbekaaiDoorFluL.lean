/-
  Contract of package flush's level.
-/
import Derived.Test.YtgdmbnfdcbekaaiDoorFluJ
namespace Go.Proofs.YtgdmbnfdcbekaaiDoor.Flu
open Go.RowKit Go.Maps
open Go.Proofs.YtgdmbnfdcbekaaiDoor.Fif (own_lt own_block own_form own_mono own_vw ret_bool info_int new_int int_one)
open Go.Proofs.YtgdmbnfdcbekaaiDoor.Vec (Vw)
open Go.Proofs.YtgdmbnfdcbekaaiDoor.Sep (KpL NewL)
open Go.Proofs.YtgdmbnfdcbekaaiDoor.Ldr (errF errF_ok errF_no Sl)
set_option linter.unusedVariables false
variable {w wr w' : World} {base P mS mH bH oH cH : Nat} {rv rvc : Nat → Value} {f : F}

theorem hear_len {ge : Nat → List Int} (h : Okg ge) {x : Int} (hx : 1 ≤ x ∧ x ≤ 30) {s : Nat} (hn : x ∉ ge s) : (ge s).length + 1 ≤ 30 := by
  have z := len30 (l := ge s ++ [x]) (nodup_snoc (h s).1 hn) (fun y hy => by
    rcases List.mem_append.1 hy with a | a
    · exact (h s).2 y a
    · rw [List.mem_singleton.1 a]; exact hx)
  rw [List.length_append] at z
  exact z
set_option maxRecDepth 100000 in
set_option maxHeartbeats 2000000 in
theorem level_any (h : GF w base P mS mH bH oH cH rv f) (hi : Inv f) {has : List Int} {bs os lst cst : Nat} {st : List Int} (est : st = stay f has) (hs : Vw w (some ⟨bs, os, none⟩) lst st) (has_ : bs ∉ fpG P mS mH bH (cntF f) rv) (hb : bs < w.heap.size) (hl : lst ≤ 5) : Calls Tryd.prog 24 #[.pointer (some ⟨P, 0, none⟩), .slice (some ⟨bs, os, none⟩) lst cst] w fun e w' => e = .returned (.tuple #[]) ∧ ∃ rvc, GF w' base P mS mH bH oH cH rvc (lv f (fl (stay f has) (cur f) f.said)) ∧ St w w' base (fpG P mS mH bH (cntF f) rv) (fpG P mS mH bH (cntF f) rvc) := by
  have hbw : base ≤ w.heap.size := Nat.le_trans h.low.1 (Nat.le_of_lt h.lt)
  obtain ⟨W1, eW1⟩ : ∃ W1, W1 = w.alloc (.cells #[.pointer (some ⟨P, 0, none⟩)] 22) := ⟨_, rfl⟩
  obtain ⟨BF, eBF⟩ : ∃ BF, BF = w.heap.size := ⟨_, rfl⟩
  have b1 : Below w.heap.size w W1 := by rw [eW1]; exact (Below.refl _ _).alloc (Nat.le_refl _) _
  have cF : W1.cell? ⟨BF, 0, none⟩ = some (.pointer (some ⟨P, 0, none⟩)) := by rw [eW1, eBF]; go_cell
  have h1 := h.later b1
  obtain ⟨q1, k1, e1, hv1⟩ := h.ints.see (i := 1) (by unfold cntF; omega)
  have el1 : lsP f 1 = f.said := rfl
  rw [el1] at e1 hv1
  have hl1 := said30 hi
  obtain ⟨l1, ell⟩ : ∃ l1, l1 = f.said.length := ⟨_, rfl⟩
  rw [← ell] at e1 hv1 hl1
  have c3 := h1.c3
  rw [e1] at c3
  have X0 : Hid (LX w W1 base P mS mH bH oH cH rv rv f (cur f) BF bs os lst st) := by
    refine ⟨by rw [lv_start]; exact h1, St.later hbw b1 _, rfl, h.asd b1 (by omega) (by rw [eW1, eBF]; simp), cF, ⟨Nat.lt_of_lt_of_le hb b1.size, has_⟩, hs.later b1⟩
  have HC : Hid (Inv f ∧ (num f : Int) = f.v.n ∧ f.v.n ≤ 1000000 ∧ st = stay f has ∧ lst = st.length ∧ (∀ k, k < lst → ∃ s : Nat, st.getD k 0 = (s : Int) ∧ s < 5) ∧ rv 1 = .slice q1 l1 k1 ∧ l1 = f.said.length) := by
    refine ⟨hi, hi.numI, hi.n0.2, est, hs.1.symm, fun k hk => ?_, e1, ell⟩
    rw [est]
    exact stay_at hi (by rw [← est, hs.1]; exact hk)
  have O0 : Hid (Okg (cur f)) := Okg.inv hi
  rw [← est]
  clear h hi est hs has_ hb hbw b1 h1 e1 hv1 el1 ell
  go_enter Tryd.func24, Tryd.ntmps24
  go_upto_region 1 with fail
  rw [← eW1, ← eBF]
  clear eW1 eBF
  go_wp2
  go_loopw [5, 6, 8, 14] (fun x5 x6 x8 x wr => ∃ i : Nat, i ≤ l1 ∧ x = .int .i64 (i : Int) ∧ Hid (∃ rvc, LX w wr base P mS mH bH oH cH rv rvc f (fl st (cur f) (f.said.take i)) BF bs os lst st ∧ Okg (fl st (cur f) (f.said.take i)))) (fun _ _ _ x _ => l1 - (intOf x).toNat)
  case atStart => exact ⟨0, by omega, rfl, rv, X0.out, O0.out⟩
  case round =>
    obtain ⟨i, hi, rfl, hQ⟩ := hrel
    obtain ⟨rvc, hX, hO⟩ := hQ.out
    obtain ⟨wo, ewo⟩ : ∃ wo, wo = wr := ⟨_, rfl⟩
    subst ewo
    by_cases hil : i < l1
    · have hil' : (i : Int) < (l1 : Int) := by omega
      have hi0 : (0 : Int) ≤ (i : Int) := by omega
      obtain ⟨x, ex⟩ : ∃ x, x = f.said.getD i 0 := ⟨_, rfl⟩
      obtain ⟨gc, egc⟩ : ∃ gc, gc = fl st (cur f) (f.said.take i) := ⟨_, rfl⟩
      rw [← egc] at hX hO
      have hsaid : Vw wo q1 l1 f.said := by
        obtain ⟨q, c, e, hv⟩ := hX.gf.ints.see (i := 1) (by unfold cntF; omega)
        have e2 : lsP (lv f gc) 1 = f.said := rfl
        rw [e2] at e hv
        rw [hX.one, HC.out.2.2.2.2.2.2.1] at e
        injection e with z1 z2 z3
        rw [z1, z2]
        exact hv
      obtain ⟨bq, oq, rfl, hbq, hcq⟩ := hsaid.2 (by omega)
      have cq := hcq i hil
      rw [← ex] at cq
      obtain ⟨BW, eBW⟩ : ∃ BW, BW = wo.heap.size := ⟨_, rfl⟩
      obtain ⟨W3, eW3⟩ : ∃ W3, W3 = wo.alloc (.cells #[.int .i64 x] 3) := ⟨_, rfl⟩
      have b3 : Below wo.heap.size wo W3 := by rw [eW3]; exact (Below.refl _ _).alloc (Nat.le_refl _) _
      have X3 : Hid (LX w W3 base P mS mH bH oH cH rv rvc f gc BF bs os lst st ∧ Okg gc ∧ W3.cell? ⟨BW, 0, none⟩ = some (.int .i64 x) ∧ Asd W3 (fpG P mS mH bH (cntF f) rvc) BW) := ⟨hX.later b3, hO, by rw [eW3, eBW]; go_cell, hX.gf.asd b3 (by omega) (by rw [eW3, eBW]; simp)⟩
      have EX : Hid (x = f.said.getD i 0 ∧ 1 ≤ x ∧ x ≤ 30) := by
        have z := said_at HC.out.1 (i := i) (by rw [← HC.out.2.2.2.2.2.2.2]; exact hil)
        rw [← ex] at z
        exact ⟨ex, z⟩
      have NXT : Hid (fl st (cur f) (f.said.take (i + 1)) = hearW st gc x) := by
        show _ = _
        have e : f.said.take (i + 1) = f.said.take i ++ [f.said.getD i 0] := take_snoc (st := f.said) (by rw [← HC.out.2.2.2.2.2.2.2]; exact hil)
        rw [egc, ex, e]
        exact fl_snoc _ _ _ _
      clear hQ hX hO hsaid hbq hcq ex egc b3
      go_upto_region 4 with fail
      rw [← eW3, ← eBW]
      clear eW3 eBW cq
      go_wp2_with fail
      refine (lvAny X3.out.1.gf HC.out.2.1 HC.out.2.2.1 X3.out.1.cf X3.out.2.2.1 X3.out.1.sv HC.out.2.2.2.2.2.1 (by omega)).mono ?_
      rintro e W4 ⟨rfl, hh4, hb4⟩
      have ea : anyH st (cur (lv f gc)) x = anyH st gc x := by
        unfold anyH
        simp only [lv_cur]
      rw [ea]
      have X4 : Hid (LX w W4 base P mS mH bH oH cH rv rvc f gc BF bs os lst st ∧ Okg gc ∧ W4.cell? ⟨BW, 0, none⟩ = some (.int .i64 x) ∧ Asd W4 (fpG P mS mH bH (cntF f) rvc) BW) := ⟨X3.out.1.later hb4, X3.out.2.1, (World.cell?_of_block (a := ⟨BW, 0, none⟩) (by rw [hh4])).trans X3.out.2.2.1, X3.out.2.2.2.later hb4⟩
      clear ea hh4 hb4
      cases ha : anyH st gc x
      · have E5 : Hid (hearW st gc x = gc) := hearW_none ha
        clear ha
        go_wp2
        go_roundw
        case rel => exact ⟨i + 1, by omega, by go_num, rvc, by rw [NXT.out, E5.out]; exact ⟨X4.out.1, X4.out.2.1⟩⟩
        case measure => simp [intOf]; omega
      · have E5 : Hid (heK st gc x lst = hearW st gc x) := by rw [HC.out.2.2.2.2.1]; exact heK_all ha
        clear ha
        have X5 : Hid (∃ rvd, LX w W4 base P mS mH bH oH cH rv rvd f (heK st gc x 0) BF bs os lst st ∧ W4.cell? ⟨BW, 0, none⟩ = some (.int .i64 x) ∧ Asd W4 (fpG P mS mH bH (cntF f) rvd) BW) := ⟨rvc, by rw [heK_zero]; exact X4.out.1, X4.out.2.2.1, X4.out.2.2.2⟩
        go_wp2
        go_loopw [8, 25] (fun y8 y wz => ∃ k : Nat, k ≤ lst ∧ y = .int .i64 (k : Int) ∧ Hid (∃ rvd, LX w wz base P mS mH bH oH cH rv rvd f (heK st gc x k) BF bs os lst st ∧ wz.cell? ⟨BW, 0, none⟩ = some (.int .i64 x) ∧ Asd wz (fpG P mS mH bH (cntF f) rvd) BW)) (fun _ y _ => lst - (intOf y).toNat)
        case atStart => exact ⟨0, by omega, rfl, X5.out⟩
        case round =>
          obtain ⟨k, hk, rfl, hQ⟩ := hrel
          obtain ⟨rvd, hD, hcW, haW⟩ := hQ.out
          obtain ⟨wi, ewi⟩ : ∃ wi, wi = wr := ⟨_, rfl⟩
          subst ewi
          obtain ⟨ge, ege⟩ : ∃ ge, ge = heK st gc x k := ⟨_, rfl⟩
          rw [← ege] at hD
          have CD : Hid (LX w wi base P mS mH bH oH cH rv rvd f ge BF bs os lst st ∧ wi.cell? ⟨BW, 0, none⟩ = some (.int .i64 x) ∧ Asd wi (fpG P mS mH bH (cntF f) rvd) BW ∧ ge = heK st gc x k) := ⟨hD, hcW, haW, ege⟩
          by_cases hkl : k < lst
          · have hkl' : (k : Int) < (lst : Int) := by omega
            have hk0 : (0 : Int) ≤ (k : Int) := by omega
            obtain ⟨s, es, hs5⟩ := HC.out.2.2.2.2.2.1 k hkl
            obtain ⟨b', o', e', _, hcs⟩ := hD.sv.2 (by omega)
            cases e'
            have ys : wi.cell? ⟨bs, os + k, none⟩ = some (.int .i64 (s : Int)) := by rw [← es]; exact hcs k hkl
            have HS : Hid (st.getD k 0 = (s : Int) ∧ s < 5 ∧ k < st.length) := ⟨es, hs5, by rw [← HC.out.2.2.2.2.1]; exact hkl⟩
            have OK : Hid (Okg ge) := by show Okg _; rw [ege]; exact X4.out.2.1.heK EX.out.2 st k
            clear hQ hD hcW haW ege hcs es hs5
            obtain ⟨bx, ebx⟩ : ∃ bx, bx = (ge s).contains x := ⟨_, rfl⟩
            have EX2 : Hid (bx = (ge s).contains x) := ebx
            clear ebx
            cases bx
            · have NI : Hid (x ∉ ge s) := fun z => by
                have q := EX2.out
                rw [List.contains_iff_mem.2 z] at q
                cases q
              go_upto_region 10 with (go_at_call 37; refine (lv1_any CD.out.1.gf HC.out.2.1 HC.out.2.2.1 HS.out.2.1 CD.out.1.cf CD.out.2.1).mono ?_; rintro e W6 ⟨rfl, hh6, hb6⟩; rw [lv_cur, ← EX2.out]; have X6 : Hid (LX w W6 base P mS mH bH oH cH rv rvd f ge BF bs os lst st ∧ W6.cell? ⟨BW, 0, none⟩ = some (.int .i64 x) ∧ Asd W6 (fpG P mS mH bH (cntF f) rvd) BW) := ⟨CD.out.1.later hb6, (World.cell?_of_block (a := ⟨BW, 0, none⟩) (by rw [hh6])).trans CD.out.2.1, CD.out.2.2.1.later hb6⟩; have cF6 := X6.out.1.cf; have cW6 := X6.out.2.1; clear hh6 hb6)
              go_wp2_with fail
              refine (hear_any X6.out.1.gf HC.out.2.1 HC.out.2.2.1 HS.out.2.1 (by rw [lv_cur]; exact hear_len OK.out EX.out.2 NI.out) x).mono ?_
              rintro e W7 ⟨rfl, rv7, g7, s7, o7⟩
              rw [lv_got] at g7
              have eh := heK_new HS.out.2.2 HS.out.1 (gc := gc) (x := x) (by rw [← CD.out.2.2.2]; exact NI.out)
              rw [← CD.out.2.2.2] at eh
              rw [← eh] at g7
              have X7 : Hid (∃ rvd, LX w W7 base P mS mH bH oH cH rv rvd f (heK st gc x (k + 1)) BF bs os lst st ∧ W7.cell? ⟨BW, 0, none⟩ = some (.int .i64 x) ∧ Asd W7 (fpG P mS mH bH (cntF f) rvd) BW) := by
                obtain ⟨z1, z2⟩ := X6.out.2.2.step s7
                exact ⟨rv7, X6.out.1.step g7 s7 o7, (World.cell?_of_block (a := ⟨BW, 0, none⟩) z2).trans X6.out.2.1, z1⟩
              clear g7 s7 o7 eh cF6 cW6
              go_wp2
              go_roundw
              case rel => exact ⟨k + 1, by omega, by go_num, X7.out⟩
              case measure => simp [intOf]; omega
            · have YI : Hid (x ∈ ge s) := List.contains_iff_mem.1 EX2.out.symm
              go_wp2_with (go_at_call 37; refine (lv1_any CD.out.1.gf HC.out.2.1 HC.out.2.2.1 HS.out.2.1 CD.out.1.cf CD.out.2.1).mono ?_; rintro e W6 ⟨rfl, hh6, hb6⟩; rw [lv_cur, ← EX2.out]; have X6 : Hid (LX w W6 base P mS mH bH oH cH rv rvd f ge BF bs os lst st ∧ W6.cell? ⟨BW, 0, none⟩ = some (.int .i64 x) ∧ Asd W6 (fpG P mS mH bH (cntF f) rvd) BW) := ⟨CD.out.1.later hb6, (World.cell?_of_block (a := ⟨BW, 0, none⟩) (by rw [hh6])).trans CD.out.2.1, CD.out.2.2.1.later hb6⟩; have cF6 := X6.out.1.cf; have cW6 := X6.out.2.1; clear hh6 hb6)
              go_roundw
              case rel =>
                refine ⟨k + 1, by omega, by go_num, rvd, ?_⟩
                rw [heK_had HS.out.2.2 HS.out.1 (by rw [← CD.out.2.2.2]; exact YI.out), ← CD.out.2.2.2]
                exact X6.out
              case measure => simp [intOf]; omega
          · have hkl' : ¬ (k : Int) < (lst : Int) := by omega
            have XN : Hid (∃ rvc, LX w wi base P mS mH bH oH cH rv rvc f (fl st (cur f) (f.said.take (i + 1))) BF bs os lst st ∧ Okg (fl st (cur f) (f.said.take (i + 1)))) := by
              rw [NXT.out]
              refine ⟨rvd, ?_, X4.out.2.1.hearW EX.out.2 st⟩
              rw [← E5.out, show lst = k by omega, ← CD.out.2.2.2]
              have z := CD.out.1
              rw [show lst = k by omega] at z
              exact z
            clear hQ hD hcW haW ege
            go_wp2
            go_roundw
            case rel => exact ⟨i + 1, by omega, by go_num, XN.out⟩
            case measure => simp [intOf]; omega
    · have hil' : ¬ (i : Int) < (l1 : Int) := by omega
      have ei : f.said.take i = f.said := List.take_of_length_le (by have := HC.out.2.2.2.2.2.2.2; omega)
      have XE : Hid (∃ rvc, GF wo base P mS mH bH oH cH rvc (lv f (fl st (cur f) f.said)) ∧ St w wo base (fpG P mS mH bH (cntF f) rv) (fpG P mS mH bH (cntF f) rvc)) := by
        rw [ei] at hX
        exact ⟨rvc, hX.gf, hX.stp⟩
      clear hQ hX hO ei
      go_wp2
      go_end0
      exact ⟨rfl, XE.out⟩
end Go.Proofs.YtgdmbnfdcbekaaiDoor.Flu
