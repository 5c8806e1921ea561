/-
  Anything that members say, and that the token passes: the walk of TokenPlays.
-/
import Derived.Test.YtfjhjjikaodadagDoorTkqS
import Derived.Test.YtfjhjjikaodadagDoorRowsF
namespace Go.Proofs.YtfjhjjikaodadagDoor.Tok
open Go.RowKit
open Go.Proofs.YtfjhjjikaodadagDoor.Fif (own_lt own_block own_form own_mono own_vw ret_bool info_int new_int int_one lenOf)
open Go.Proofs.YtfjhjjikaodadagDoor.Vec (Vw Rw)
open Go.Proofs.YtfjhjjikaodadagDoor.As (Laid)
open Go.Proofs.YtfjhjjikaodadagDoor.Off (OR step_append_off)
open Go.Proofs.YtfjhjjikaodadagDoor.Sep (KpL NewL)
open Go.Proofs.YtfjhjjikaodadagDoor.Ldr (errF errF_ok errF_no errF_same Sl same_any)
set_option linter.unusedVariables false

theorem TS.laterP {w w' : World} {base P : Nat} {k : K} {fp : List Nat} (h : TS w base P k fp) (hb : Below w.heap.size w w') : TS w' base P k fp := h.of_blocks hb.size fun b hb' => hb.block b (h.fp b hb').2
theorem c_heapT {w X : World} (e : X.heap = w.heap) (a : Addr) : X.cell? a = w.cell? a := World.cell?_of_block (by rw [e])
theorem below_fromT {B : Nat} {a w1 X w2 : World} (h2 : Below B X w2) (h : Below B a w1) (e : X.heap = w1.heap) (e1 : X.os = w1.os) (e2 : X.tape = w1.tape) (e3 : X.output = w1.output) : Below B a w2 := by
  have hX : Below B a X := ⟨by rw [e1]; exact h.os, by rw [e2]; exact h.tape, by rw [e3]; exact h.output, by rw [e]; exact h.size, fun k hk => by rw [e]; exact h.block k hk⟩
  exact hX.trans h2
theorem or_pushT {w w' : World} {base : Nat} {ob : Obj} {v : Value} {l : List Int} (o : OR w base v l) (e : w'.heap = w.heap.push ob) : OR w' base v l := o.of_block fun k hk => by
  rw [e, Array.getElem?_push_lt (o.lt k hk).2, Array.getElem?_eq_getElem (o.lt k hk).2]
theorem new_pushT {w w' : World} {x : Int} {t : TypeId} (e : w'.heap = w.heap.push (.cells #[.int .i64 x] t)) : ∀ j u, [Value.int .i64 x][j]? = some u → w'.cell? ((⟨w.heap.size, 0, none⟩ : Addr).add j) = some u := by
  have hb : w'.heap[w.heap.size]? = some (.cells #[.int .i64 x] t) := by rw [e]; simp
  exact World.news_of_block hb
set_option maxRecDepth 100000 in
theorem plays_bad (n most : Int) (a : Option Addr) (len cap : Nat) (w : World) (hL : Laid w) (h : (n < 2 ∨ 5 < n) ∨ most < 1 ∨ 10 < most) : Calls Tryd.prog 4 #[.int .i64 n, .int .i64 most, .slice a len cap] w fun e w' => e = .returned (.bool true) ∧ Below w.heap.size w w' := by
  have HL : Hid (Laid w) := hL
  have h0 : Hid ((n < 2 ∨ 5 < n) ∨ most < 1 ∨ 10 < most) := h
  clear hL
  rcases (show n < 2 ∨ (¬ n < 2 ∧ n > 5) ∨ (¬ n < 2 ∧ ¬ n > 5 ∧ most < 1) ∨ (¬ n < 2 ∧ ¬ n > 5 ∧ ¬ most < 1 ∧ most > 10) by omega) with d1 | ⟨d1, d2⟩ | ⟨d1, d2, d3⟩ | ⟨d1, d2, d3, d4⟩
  all_goals
    clear h
    go_enter Tryd.func4, Tryd.ntmps4
    go_wp2_with fail
    refine (newT_no n most h0.out w).mono ?_
    rintro e w1 ⟨rfl, hb⟩
    go_wp2_with fail
    refine (errF_same 1 w1 (HL.out.later hb)).mono ?_
    rintro e w2 ⟨rfl, hb2⟩
    go_wp2
    go_ret
    exact ⟨rfl, hb.trans (hb2.mono hb.size)⟩
set_option maxRecDepth 100000 in
set_option maxHeartbeats 8000000 in
theorem plays_ok (n most : Nat) (a : Option Addr) (len cap : Nat) (ls : List (List Int)) (w : World) (hL : Laid w) (hR : Rw w a len ls) (h2 : 2 ≤ n) (h5 : n ≤ 5) (h1 : 1 ≤ most) (h10 : most ≤ 10) : Calls Tryd.prog 4 #[.int .i64 (n : Int), .int .i64 (most : Int), .slice a len cap] w fun e w' => e = .returned (.bool true) ∧ Below w.heap.size w w' := by
  have HL : Hid (Laid w ∧ Rw w a len ls) := ⟨hL, hR⟩
  have hlm : len ≤ maxLen := hR.2.1
  have hn2 : (2 : Int) ≤ (n : Int) := by omega
  have hn5 : (n : Int) ≤ 5 := by omega
  have d1 : ¬ (n : Int) < 2 := by omega
  have d2 : ¬ (n : Int) > 5 := by omega
  have d3 : ¬ (most : Int) < 1 := by omega
  have d4 : ¬ (most : Int) > 10 := by omega
  obtain ⟨ii, hii, hz0, hz1, hz2⟩ := info_int
  have HJ : Hid (Tryd.prog.info? 3 = some ii ∧ ii.zero = some (.int .i64 0) ∧ ii.size = 1 ∧ ii.bytes = 8) := ⟨hii, hz0, hz1, hz2⟩
  clear hL hR hii hz0 hz1 hz2
  go_enter Tryd.func4, Tryd.ntmps4
  go_wp2_with fail
  refine (newT_ok n most h2 h5 h1 h10 w).mono ?_
  rintro e w1 ⟨P, fp1, rfl, hA, hb⟩
  have A1 : Hid (TS w1 w.heap.size P (start n most) fp1 ∧ Below w.heap.size w w1) := ⟨hA, hb⟩
  clear hA hb
  go_wp2_with fail
  refine (As.error_nil 0 w1).mono ?_
  rintro e w2 ⟨rfl, hb2⟩
  have A2 : Hid (TS w2 w.heap.size P (start n most) fp1 ∧ Below w.heap.size w w2) := ⟨A1.out.1.laterP hb2, A1.out.2.trans (hb2.mono A1.out.2.size)⟩
  clear hb2 A1
  have hzr := zero_tk
  have hzn := zTk_ne
  have P1 : Hid (PA w P w2.heap.size n most (w2.alloc (.cells ((zTk.setIfInBounds 0 (.int .i64 (n : Int))).setIfInBounds 1 (.int .i64 (most : Int))) 53))) := by
    have b3 : Below w2.heap.size w2 (w2.alloc (.cells ((zTk.setIfInBounds 0 (.int .i64 (n : Int))).setIfInBounds 1 (.int .i64 (most : Int))) 53)) := (Below.refl _ _).alloc (Nat.le_refl _) _
    refine ⟨start n most, fp1, fun _ => .slice none 0 0, A2.out.1.laterP b3, RT.made w2 w.heap.size n most A2.out.2.size, fun b h1 q => ?_, Inv.start h2 h5 h1 h10, rfl, A2.out.2.trans (b3.mono A2.out.2.size)⟩
    have := (A2.out.1.fp b h1).2
    rcases mem_rfp.1 q with z | ⟨i, _, z⟩
    · omega
    · cases z
  obtain ⟨Q, eQ⟩ : ∃ Q, Q = w2.heap.size := ⟨_, rfl⟩
  obtain ⟨w3, ew3⟩ : ∃ w3, w3 = w2.alloc (.cells ((zTk.setIfInBounds 0 (.int .i64 (n : Int))).setIfInBounds 1 (.int .i64 (most : Int))) 53) := ⟨_, rfl⟩
  rw [← eQ, ← ew3] at P1
  go_wp2_with fail
  rw [← ew3, ← eQ]
  clear ew3 eQ hzr hzn A2 d1 d2 d3 d4
  go_loopw [12] (fun x wr => ∃ i : Nat, i ≤ len ∧ i ≤ 120 ∧ x = .int .i64 (i : Int) ∧ Hid (PA w P Q n most wr)) (fun x _ => len - (intOf x).toNat)
  case atStart => exact ⟨0, by omega, by omega, rfl, P1⟩
  case round =>
    obtain ⟨i, hi, hi150, rfl, hC⟩ := hrel
    by_cases hgo : (i : Int) < (len : Int) ∧ (i : Int) < 120
    · obtain ⟨hil, hi120⟩ := hgo
      obtain ⟨wo, ewo⟩ : ∃ wo, wo = wr := ⟨_, rfl⟩
      subst ewo
      have hi0 : (0 : Int) ≤ (i : Int) := by omega
      obtain ⟨k, fp, v, p1, p2, p3, p4, p5, p7⟩ := hC.out
      have R : Hid (TS wo w.heap.size P k fp ∧ RT wo w.heap.size Q k v ∧ (∀ b, b ∈ fp → b ∉ rfp Q v) ∧ Inv k ∧ k.n = n ∧ Below w.heap.size w wo) := ⟨p1, p2, p3, p4, p5, p7⟩
      clear p1 p2 p3 p4 p5 p7 hC
      obtain ⟨rb, ro, rfl, hrb, hrc⟩ := (HL.out.2.later R.out.2.2.2.2.2).2.2 (by omega)
      obtain ⟨qi, ci, g0, hvi, hmi⟩ := hrc i (by omega)
      obtain ⟨li, eli⟩ : ∃ li, li = (ls.getD i []).length := ⟨_, rfl⟩
      rw [← eli] at g0 hvi hmi
      have XV : Hid (wo.cell? ⟨rb, ro + i, none⟩ = some (.slice qi li ci) ∧ rb < wo.heap.size ∧ Vw wo qi li (ls.getD i [])) := ⟨g0, hrb, hvi⟩
      have hmi2 : (li : Int) ≤ 9223372036854775807 := by unfold maxLen at hmi; omega
      clear hrc g0 hrb hvi hmi eli
      have A1 : Hid (R3q wo (wo.alloc (.cells #[.int .i64 0, .int .i64 0, .int .i64 0] 35))) := by
        refine ⟨fun _ => 0, ?_, (Below.refl _ _).alloc (Nat.le_refl _) _⟩
        exact World.rowIs_alloc wo #[.int .i64 0, .int .i64 0, .int .i64 0] 35 _ (fun t ht => by rcases t with _ | _ | _ | t <;> first | rfl | (exfalso; have : _ < 3 := ht; omega))
      go_upto_block 2 with fail
      go_cut [14] from 64 to 85 (fun x wc => Hid (R3q wo wc))
      case first =>
        go_wp2_with fail
        go_loopw [14] (fun y wz => ∃ j : Nat, j ≤ 3 ∧ y = .int .i64 (j : Int) ∧ Hid (R3q wo wz)) (fun y _ => 3 - (intOf y).toNat)
        case atStart => exact ⟨0, by omega, rfl, A1⟩
        case round =>
          obtain ⟨j, hj, rfl, hA⟩ := hrel
          have x0 : wr.cell? ⟨rb, ro + i, none⟩ = some (.slice qi li ci) := by
            obtain ⟨f, _, hb⟩ := hA.out
            exact (hb.cell (p := ⟨rb, ro + i, none⟩) XV.out.2.1).trans XV.out.1
          have hj0 : (0 : Int) ≤ (j : Int) := by omega
          by_cases hjl : (j : Int) < (li : Int) ∧ (j : Int) < 3
          · obtain ⟨hjl, hj3⟩ := hjl
            obtain ⟨f, hf, hb⟩ := hA.out
            obtain ⟨bi, oi, rfl, hlti, hci⟩ := XV.out.2.2.2 (by omega)
            have y0 := (hb.cell (p := ⟨bi, oi + j, none⟩) hlti).trans (hci j (by omega))
            have c0 := World.rowIs.cell hf (i := j) (by omega)
            have z0 := World.rowIs.frozen hf j
            obtain ⟨yv, ey⟩ : ∃ yv, yv = (ls.getD i []).getD j 0 := ⟨_, rfl⟩
            rw [← ey] at y0
            have FB : Hid (wr.rowIs wo.heap.size 35 3 (fun t => .int .i64 (f t)) ∧ Below wo.heap.size wo wr) := ⟨hf, hb⟩
            clear hf hb hci hlti ey hA
            go_wp2
            go_roundw
            case rel =>
              refine ⟨j + 1, by omega, by go_num, fun t => if t = j then yv else f t, (World.rowIs.set FB.out.1 j _).congr fun t ht => ?_, FB.out.2.setCell (p := ⟨wo.heap.size, j, none⟩) (Nat.le_refl _) _⟩
              by_cases e : t = j
              · rw [if_pos e]; simp [e]
              · rw [if_neg e]; simp [e]
            case measure => simp [intOf]; omega
          · rcases (show ((j : Int) < (li : Int) ∧ ¬ (j : Int) < 3) ∨ ¬ (j : Int) < (li : Int) by omega) with ⟨e1, e2⟩ | e1
            all_goals
              go_wp2
              go_meet
              exact hA.out
      case rest =>
        obtain ⟨f, hf, hb⟩ := hcut.out
        obtain ⟨k0, ek0⟩ : ∃ k, k = f 0 := ⟨_, rfl⟩
        obtain ⟨k1, ek1⟩ : ∃ k, k = f 1 := ⟨_, rfl⟩
        obtain ⟨k2, ek2⟩ : ∃ k, k = f 2 := ⟨_, rfl⟩
        obtain ⟨V, eV⟩ : ∃ V, V = wo.heap.size := ⟨_, rfl⟩
        have G2 : Hid (PS w P Q V wc k fp k v k0 k1 k2) := by
          rw [eV]
          refine ⟨R.out.1.of_blocks hb.size fun b hb' => hb.block b (R.out.1.fp b hb').2, R.out.2.1.later hb, R.out.2.2.1, ⟨?_, ?_, ?_⟩, World.rowIs.lt hf, fun q => ?_, fun q => ?_, R.out.2.2.2.2.2.trans (hb.mono R.out.2.2.2.2.2.size)⟩
          · rw [ek0]; exact World.rowIs.cell hf (i := 0) (by omega)
          · rw [ek1]; exact World.rowIs.cell hf (i := 1) (by omega)
          · rw [ek2]; exact World.rowIs.cell hf (i := 2) (by omega)
          · have := (R.out.1.fp _ q).2; omega
          · have := (R.out.2.1.fp _ q).2; omega
        have RI : Hid (Inv k ∧ k.n = n) := ⟨R.out.2.2.2.1, R.out.2.2.2.2.1⟩
        rw [← eV]
        clear hf hb ek0 ek1 ek2 hcut eV A1 XV R
        obtain ⟨w4, ew4⟩ : ∃ w4, w4 = wc := ⟨_, rfl⟩
        subst ew4
        obtain ⟨y0, y1, y2⟩ := G2.out.tr
        have hV := G2.out.vl
        obtain ⟨inb, einb⟩ : ∃ b, b = decide (0 ≤ k1 ∧ k1 < (n : Int)) := ⟨_, rfl⟩
        have HIN : Hid (inb = decide (0 ≤ k1 ∧ k1 < (n : Int))) := einb
        clear einb
        go_upto_region 18 with fail
        go_cut [15] from 86 to 94 (fun x wz => x = .bool inb ∧ wz = w4)
        case first =>
          by_cases h1 : 0 ≤ k1
          · by_cases h3 : k1 < (n : Int)
            · have e : inb = true := by rw [HIN.out]; exact decide_eq_true ⟨h1, h3⟩
              go_wp2
              go_meet
              exact ⟨by rw [e], rfl⟩
            · have e : inb = false := by rw [HIN.out]; exact decide_eq_false (fun q => h3 q.2)
              go_wp2
              go_meet
              exact ⟨by rw [e], rfl⟩
          · have e : inb = false := by rw [HIN.out]; exact decide_eq_false (fun q => h1 q.1)
            go_wp2
            go_meet
            exact ⟨by rw [e], rfl⟩
        case rest =>
          obtain ⟨rfl, rfl⟩ := hcut
          obtain ⟨w4, ew4⟩ : ∃ w4, w4 = wc := ⟨_, rfl⟩
          subst ew4
          go_upto_if 97 with fail
          go_cut [7, 10] from 97 to 152 (fun x7 x10 wz => x10 = .bool true ∧ Hid (∃ k fp v, PS w P Q V wz k fp k v k0 k1 k2 ∧ Inv k ∧ k.n = n))
          case first =>
            by_cases hk3 : k0 < 3
            · obtain ⟨c, ec⟩ : ∃ c, c = sayC k k1 k2 := ⟨_, rfl⟩
              have SC : Hid (c = sayC k k1 k2) := ec
              clear ec
              obtain ⟨ob, eob⟩ : ∃ b, b = decide (inb = false ∨ k2 < 1 ∨ 30 < k2) := ⟨_, rfl⟩
              have HOB : Hid (ob = decide (inb = false ∨ k2 < 1 ∨ 30 < k2)) := eob
              clear eob
              go_upto_region 20 with fail
              go_cut [109] from 97 to 109 (fun x wz => x = .bool ob ∧ wz = w4)
              case first =>
                have hin2 : inb = true ∨ inb = false := by cases inb <;> simp
                by_cases b0 : inb = false
                · have e : ob = true := by rw [HOB.out]; exact decide_eq_true (.inl b0)
                  subst b0
                  go_wp2
                  go_meet
                  exact ⟨by rw [e], rfl⟩
                · have b0' : inb = true := by
                    rcases hin2 with z | z
                    · exact z
                    · exact absurd z b0
                  subst b0'
                  by_cases b1 : k2 < 1
                  · have e : ob = true := by rw [HOB.out]; exact decide_eq_true (.inr (.inl b1))
                    go_wp2
                    go_meet
                    exact ⟨by rw [e], rfl⟩
                  · by_cases b2 : k2 > 30
                    · have e : ob = true := by rw [HOB.out]; exact decide_eq_true (.inr (.inr b2))
                      go_wp2
                      go_meet
                      exact ⟨by rw [e], rfl⟩
                    · have e : ob = false := by
                        rw [HOB.out]
                        refine decide_eq_false ?_
                        rintro (z | z | z)
                        · exact b0 z
                        · exact b1 z
                        · exact b2 z
                      go_wp2
                      go_meet
                      exact ⟨by rw [e], rfl⟩
              case rest =>
               obtain ⟨rfl, rfl⟩ := hcut
               obtain ⟨w4, ew4⟩ : ∃ w4, w4 = wc := ⟨_, rfl⟩
               subst ew4
               go_upto_if 109 with fail
               go_cut [7] from 97 to 139 (fun x7 wz => x7 = .int .i64 c ∧ Hid (∃ v', PS w P Q V wz k fp (say k k1 k2) v' k0 k1 k2))
               case first =>
                have hin2 : inb = true ∨ inb = false := by cases inb <;> simp
                by_cases hbad : inb = false ∨ k2 < 1 ∨ 30 < k2
                · have e : c = 1 := by
                    rw [SC.out]
                    unfold sayC
                    refine if_pos ?_
                    rcases hbad with z | z
                    · have h : ¬ (0 ≤ k1 ∧ k1 < (n : Int)) := of_decide_eq_false (by rw [← HIN.out]; exact z)
                      rw [RI.out.2]
                      omega
                    · exact .inr z
                  have eo : ob = true := by rw [HOB.out]; exact decide_eq_true hbad
                  have ES : Hid (say k k1 k2 = k) := by show _ = _; unfold say; rw [← SC.out, e, if_neg (by decide)]
                  have FN : Hid (∃ v', PS w P Q V w4 k fp (say k k1 k2) v' k0 k1 k2) := ⟨v, by rw [ES.out]; exact G2.out⟩
                  subst eo
                  clear hbad hin2
                  go_wp2
                  go_meet
                  exact ⟨by rw [e], FN⟩
                · have ein : inb = true := by
                    rcases hin2 with z | z
                    · exact z
                    · exact absurd (.inl z) hbad
                  have eo : ob = false := by rw [HOB.out]; exact decide_eq_false hbad
                  have z2 : ¬ k2 < 1 := fun z => hbad (.inr (.inl z))
                  have z3 : ¬ k2 > 30 := fun z => hbad (.inr (.inr z))
                  have hk1 : 0 ≤ k1 ∧ k1 < (n : Int) := of_decide_eq_true (by rw [← HIN.out]; exact ein)
                  obtain ⟨m, rfl⟩ : ∃ m : Nat, k1 = (m : Int) := ⟨k1.toNat, by omega⟩
                  obtain ⟨x, rfl⟩ : ∃ x : Nat, k2 = (x : Int) := ⟨k2.toNat, by omega⟩
                  have hm5 : m < 5 := by omega
                  have hx30 : x ≤ 30 := by omega
                  have hx0 : (0 : Int) ≤ (x : Int) := by omega
                  have hx31 : (x : Int) < 31 := by omega
                  have hm0 : (0 : Int) ≤ (m : Int) := by omega
                  have hm5' : (m : Int) < 5 := by omega
                  have cs := G2.out.ra.cs hx30
                  have hQ := G2.out.ra.lt
                  have EC : Hid (c = if k.said (x : Int) = true then 7 else 0) := by
                    show _ = _
                    rw [SC.out]
                    unfold sayC
                    rw [if_neg (by rw [RI.out.2]; omega)]
                  subst ein
                  subst eo
                  clear hin2 hbad hk1
                  cases hs : k.said (x : Int) with
                  | true =>
                    rw [hs] at cs
                    have e : c = 7 := by rw [EC.out, hs]; rfl
                    have ES : Hid (say k (m : Int) (x : Int) = k) := by show _ = _; unfold say; rw [← SC.out, e, if_neg (by decide)]
                    have FN : Hid (∀ X : World, Below w4.heap.size w4 X → ∃ v', PS w P Q V X k fp (say k (m : Int) (x : Int)) v' k0 (m : Int) (x : Int)) := fun X hX => ⟨v, by rw [ES.out]; exact G2.out.later hX⟩
                    clear hs
                    go_wp2_with fail
                    go_quiet (fail)
                    go_wp2
                    go_meet
                    exact ⟨by rw [e], FN.out _ ⟨rfl, rfl, rfl, Nat.le_refl _, fun _ _ => rfl⟩⟩
                  | false =>
                    rw [hs] at cs
                    have e : c = 0 := by rw [EC.out, hs]; rfl
                    have HS : Hid (k.said (x : Int) = false) := hs
                    have z9 := G2.out.ra.fr (9 + x)
                    clear hs
                    go_wp2_with fail
                    go_quiet (fail)
                    obtain ⟨W5, eW5⟩ : ∃ W5, W5 = w4.drewN nq := ⟨_, rfl⟩
                    rw [← eW5]
                    have G5 : Hid (PS w P Q V W5 k fp k v k0 (m : Int) (x : Int)) := by rw [eW5]; exact G2.out.later ⟨rfl, rfl, rfl, Nat.le_refl _, fun _ _ => rfl⟩
                    have y2 := G5.out.tr.2.2
                    have hV := G5.out.vl
                    have cs := G5.out.ra.cs hx30
                    have z9 := G5.out.ra.fr (9 + x)
                    have hQ := G5.out.ra.lt
                    clear eW5
                    go_wp2_with fail
                    go_region
                    all_goals
                      obtain ⟨W6, eW6⟩ : ∃ W6, W6 = (W5.setCell ⟨Q, 9 + x, none⟩ (.bool true)).drew := ⟨_, rfl⟩
                      rw [← eW6]
                      have G6 : Hid (PS w P Q V W6 k fp { k with said := fun y => if y = (x : Int) then true else k.said y } v k0 (m : Int) (x : Int)) := by
                        have r := G5.out.ra.setSaid hx30
                        refine G5.out.ref (v' := v) (r.of_blocks fun b _ => by rw [eW6]; rfl) ?_ ⟨by rw [eW6]; simp [World.setCell], fun b hb hn => ?_⟩ (NewL.refl _ _)
                        · rw [eW6]
                          exact ((Below.refl _ _).setCell (p := ⟨Q, 9 + x, none⟩) G5.out.ra.low _).drew
                        · rw [eW6]
                          show (W5.setCell ⟨Q, 9 + x, none⟩ (.bool true)).heap[b]? = _
                          exact Deep.blk_setCell_other _ _ _ _ (fun z => hn (mem_rfp.2 (.inl z)))
                      have y1 := G6.out.tr.2.1
                      have y2 := G6.out.tr.2.2
                      have hV := G6.out.vl
                      have hQ := G6.out.ra.lt
                      have c4 := G6.out.ra.cw hm5
                      have z4 := G6.out.ra.fr (4 + m)
                      obtain ⟨qa, ca, eva⟩ := (G6.out.ra.wt m hm5).form
                      have OW : Hid (OR W6 w.heap.size (v m) (k.wt m) ∧ w.heap.size ≤ W6.heap.size ∧ some Q ≠ (v m).ownBlock ∧ (k.wt m).length ≤ 30) := ⟨G6.out.ra.wt m hm5, G6.out.bel.size, fun q => G6.out.ra.ne hm5 q.symm rfl, by have := RI.out.1.len m; omega⟩
                      obtain ⟨vm, evm⟩ : ∃ vm, vm = v m := ⟨_, rfl⟩
                      have EVM : Hid (vm = v m) := evm
                      have eva' : v m = .slice qa (k.wt m).length ca := eva
                      rw [← evm] at eva' OW
                      rw [← evm] at c4
                      obtain ⟨lw, elw⟩ : ∃ lw, lw = (k.wt m).length := ⟨_, rfl⟩
                      have ELW : Hid (lw = (k.wt m).length) := elw
                      rw [← elw] at eva'
                      subst eva'
                      have HVN : Hid (some V ≠ (Value.slice qa lw ca).ownBlock) := fun q => G6.out.vr (mem_rfp.2 (.inr ⟨m, hm5, by rw [← EVM.out]; exact q.symm⟩))
                      clear eW6 eva evm elw cs z9
                      go_wp2_with fail
                      go_region_law ((refine step_append_off (by rfl) _ _ _ (by rfl) w.heap.size ii Tryd.underlying30 HJ.out.1 HJ.out.2.1 HJ.out.2.2.1 HJ.out.2.2.2 (.slice qa lw ca) (k.wt m) (by rfl) (by exact or_pushT OW.out.1 rfl) ⟨W6.heap.size, 0, none⟩ 1 (x : Int) (by rfl) (by exact new_pushT rfl) (by have := OW.out.2.2.2; omega) (by have := OW.out.2.1; simp; omega) ?_; intro gg go gc w8 hown hgrow hat; have HG8 : Hid (W6.grownBy w8 (Value.slice qa lw ca).ownBlock) := grown_tmpT hgrow rfl rfl rfl rfl; have HO8 : Hid (OR w8 w.heap.size (.slice (some ⟨gg, go, none⟩) ((k.wt m).length + 1) gc) (k.wt m ++ [(x : Int)]) ∧ ((Value.slice qa lw ca).ownBlock = some gg ∨ W6.heap.size ≤ gg)) := ⟨hown, hat.imp id (fun e => by simp at e; omega)⟩; have l8 : w8.cell? ⟨Q, 4 + m, none⟩ = some (.slice qa lw ca) := (HG8.out.cell_far ⟨Q, 4 + m, none⟩ hQ OW.out.2.2.1).trans c4; have m8 : w8.frozen? ⟨Q, 4 + m, none⟩ = false := (HG8.out.frozen_far ⟨Q, 4 + m, none⟩ hQ OW.out.2.2.1).trans z4; have n8 : w8.cell? ⟨V, 1, none⟩ = some (.int .i64 (m : Int)) := (HG8.out.cell_far ⟨V, 1, none⟩ hV HVN.out).trans y1; clear hown hgrow hat))
                      all_goals
                        obtain ⟨WW, eW⟩ : ∃ WW, WW = w8.setCell ⟨Q, 4 + m, none⟩ (.slice (some ⟨gg, go, none⟩) ((k.wt m).length + 1) gc) := ⟨_, rfl⟩
                        rw [← eW]
                        have FN : Hid (∃ v', PS w P Q V WW k fp (say k (m : Int) (x : Int)) v' k0 (m : Int) (x : Int)) := by
                          have hbl : ∀ b, b < W6.heap.size → (v m).ownBlock ≠ some b → w8.heap[b]? = W6.heap[b]? := fun b hb hn => HG8.out.block b hb (fun z => hn (by rw [← EVM.out]; exact z.symm))
                          have hnw : ∀ b, (Value.slice (some ⟨gg, go, none⟩) ((k.wt m).length + 1) gc).ownBlock = some b → (v m).ownBlock = some b ∨ W6.heap.size ≤ b := fun b q => by
                            have eb : gg = b := by simpa [Value.ownBlock] using q
                            subst eb
                            rw [← EVM.out]
                            exact HO8.out.2
                          have r := G6.out.ra.setWt hm5 hbl HO8.out.1 hnw
                          have es : say k (m : Int) (x : Int) = { ({ k with said := fun y => if y = (x : Int) then true else k.said y } : K) with wt := up k.wt m (k.wt m ++ [(x : Int)]) } := by
                            unfold say
                            rw [← SC.out, e, if_pos rfl, Int.toNat_natCast]
                            rfl
                          refine ⟨_, G6.out.ref (v' := up v m (.slice (some ⟨gg, go, none⟩) ((k.wt m).length + 1) gc)) (by rw [es, eW]; exact r) ?_ ⟨?_, fun b hb hn => ?_⟩ (rfp_set hm5 hnw)⟩
                          · rw [eW]
                            exact ((Below.refl _ _).grown HG8.out G6.out.bel.size (fun b q => ((OW.out.1).lt b q).1)).setCell (p := ⟨Q, 4 + m, none⟩) G6.out.ra.low _
                          · rw [eW]
                            have := HG8.out.size
                            simpa [World.setCell] using this
                          · rw [eW, Deep.blk_setCell_other _ _ _ _ (fun z => hn (mem_rfp.2 (.inl z)))]
                            exact hbl b hb (fun z => hn (mem_rfp.2 (.inr ⟨m, hm5, z⟩)))
                        clear l8 m8 n8 c4 z4 eW
                        go_wp2
                        go_meet
                        exact ⟨by rw [e], FN⟩
               case rest =>
                 obtain ⟨rfl, hx⟩ := hcut
                 obtain ⟨WW, eW⟩ : ∃ WW, WW = wc := ⟨_, rfl⟩
                 subst eW
                 obtain ⟨vr, hp⟩ := hx.out
                 have GW : Hid (PS w P Q V WW k fp (say k k1 k2) vr k0 k1 k2) := hp
                 have y1' := hp.tr.2.1
                 have y2' := hp.tr.2.2
                 have hV' := hp.vl
                 clear hx hp y0 y1 y2 hV
                 go_wp2_with fail
                 refine (sayT w.heap.size P k fp k1 k2 WW GW.out.ag RI.out.1 GW.out.bel.size).mono ?_
                 rintro e w7 ⟨f7, rfl, hA7, hb7, hk7, hn7⟩
                 rw [← SC.out]
                 have G7 : Hid (PS w P Q V w7 (say k k1 k2) f7 (say k k1 k2) vr k0 k1 k2) := GW.out.prog hA7 hb7 hk7 hn7
                 clear hA7 hb7 hk7 hn7
                 go_wp2_with fail
                 refine (errF_same c w7 (HL.out.1.later G7.out.bel)).mono ?_
                 rintro e w8 ⟨rfl, hb8⟩
                 have G8 : Hid (PS w P Q V w8 (say k k1 k2) f7 (say k k1 k2) vr k0 k1 k2) := G7.out.later hb8
                 clear hb8
                 go_wp2
                 go_meet
                 exact ⟨rfl, say k k1 k2, f7, vr, G8.out, RI.out.1.say k1 k2, (say_n k k1 k2).1.trans RI.out.2⟩
            · go_wp2_with fail
              refine (passT w.heap.size P k fp w4 G2.out.ag RI.out.1 G2.out.bel.size).mono ?_
              rintro e w7 ⟨a7, c7, f7, rfl, hp7, hc7, hn7a, hA7, hb7, hk7, hn7⟩
              obtain ⟨np, enp⟩ : ∃ np, np = (passL k).length := ⟨_, rfl⟩
              have HNP : Hid (np = (passL k).length ∧ np ≤ 100) := ⟨enp, by
                have h1 : (passL k).length = (out k).length := plN_len _ _
                have h2 : (out k).length ≤ k.most := by unfold out; rw [List.length_take]; omega
                have := RI.out.1.m10
                omega⟩
              have G7 : Hid (PS w P Q V w7 (pass k) f7 k v k0 k1 k2 ∧ Pl w7 a7 (passL k).length (passL k) ∧ (∀ ad, a7 = some ad → 0 < (passL k).length → w4.heap.size ≤ ad.block)) := ⟨G2.out.prog hA7 hb7 hk7 hn7, hp7, fun ad e q => (hn7a ad e q).1⟩
              clear hp7 hc7 hn7a hA7 hb7 hk7 hn7 y0 y1 y2 hV
              rw [← enp]
              clear enp
              go_wp2_with fail
              refine (refPass G7.out.1.ra RI.out.1 G7.out.1.bel.size).mono ?_
              rintro e w8 ⟨yo, v8, rfl, ho8, hr8, hb8, hk8, hn8⟩
              obtain ⟨a8, c8, e8, _, _, hp8, hl8⟩ := Po.pl ho8
              rw [← HNP.out.1] at e8
              subst e8
              have G8 : Hid (PS w P Q V w8 (pass k) f7 (pass k) v8 k0 k1 k2 ∧ Pl w8 a7 (passL k).length (passL k) ∧ Pl w8 a8 (passL k).length (passL k)) := by
                refine ⟨G7.out.1.ref hr8 hb8 hk8 hn8, G7.out.2.1.of_block hk8.1 fun ad e q => ?_, hp8⟩
                obtain ⟨b, off, e', hlt, _⟩ := G7.out.2.1.2 q
                rw [e'] at e
                cases e
                refine hk8.2 b hlt fun z => ?_
                have h1 := G7.out.2.2 _ e' q
                have h2 := (G2.out.ra.fp b z).2
                have h1' : w4.heap.size ≤ b := h1
                omega
              clear ho8 hr8 hb8 hk8 hn8 hp8 hl8
              have PSM : Hid (Calls Tryd.prog 16 #[.slice a7 np c7, .slice a8 np c8] w8 fun e w' => e = .returned (.bool true) ∧ Below w8.heap.size w8 w') := by
                rw [HNP.out.1]
                exact placed_same a7 a8 c7 c8 (passL k) w8 G8.out.2.1 G8.out.2.2 (by rw [← HNP.out.1]; exact HNP.out.2)
              go_wp2_with fail
              refine PSM.out.mono ?_
              rintro e w9 ⟨rfl, hb9⟩
              have G9 : Hid (PS w P Q V w9 (pass k) f7 (pass k) v8 k0 k1 k2) := G8.out.1.later hb9
              clear hb9
              go_wp2
              go_meet
              exact ⟨rfl, pass k, f7, v8, G9.out, RI.out.1.pass, RI.out.2⟩
          case rest =>
            obtain ⟨rfl, hx⟩ := hcut
            obtain ⟨w5, ew5⟩ : ∃ w5, w5 = wc := ⟨_, rfl⟩
            subst ew5
            clear G2 RI y0 y1 y2 hV
            obtain ⟨k, fp, v, hp, hi1, hn1⟩ := hx.out
            have G5 : Hid (PS w P Q V w5 k fp k v k0 k1 k2) := hp
            have RJ : Hid (Inv k ∧ k.n = n) := ⟨hi1, hn1⟩
            clear hx hp hi1 hn1
            obtain ⟨c, ec⟩ : ∃ c, c = inC k k1 := ⟨_, rfl⟩
            have SC : Hid (c = inC k k1) := ec
            clear ec
            go_upto_if 154 with fail
            go_cut [7, 16] from 153 to 161 (fun x7 x16 wz => x7 = .int .i64 c ∧ Hid (Below w5.heap.size w5 wz ∧ Sl wz x16 (wts k k1)))
            case first =>
              have z1 := G5.out.tr.2.1
              have hV5 := G5.out.vl
              have hQ5 := G5.out.ra.lt
              have hin2 : inb = true ∨ inb = false := by cases inb <;> simp
              rcases hin2 with rfl | rfl
              · have hk1 : 0 ≤ k1 ∧ k1 < (n : Int) := of_decide_eq_true (by rw [← HIN.out])
                obtain ⟨m, rfl⟩ : ∃ m : Nat, k1 = (m : Int) := ⟨k1.toNat, by omega⟩
                have hm5 : m < 5 := by omega
                have hm0 : (0 : Int) ≤ (m : Int) := by omega
                have hm5' : (m : Int) < 5 := by omega
                have hmk : m < k.n := by rw [RJ.out.2]; omega
                have e : c = 0 := by rw [SC.out]; exact in_ok hmk
                have c4 := G5.out.ra.cw hm5
                obtain ⟨qa, ca, eva, h1, h2, h3⟩ := (G5.out.ra.wt m hm5).vw
                have HSL : Hid (∀ X : World, Below w5.heap.size w5 X → Sl X (v m) (wts k (m : Int))) := fun X hX => by
                  rw [wts_in hmk, eva]
                  exact ⟨qa, ca, rfl, h1, h2, h3.later hX⟩
                clear hk1 hmk eva h1 h2 h3
                go_wp2_with fail
                go_quiet (fail)
                go_wp2
                go_meet
                exact ⟨by rw [e], ⟨rfl, rfl, rfl, Nat.le_refl _, fun _ _ => rfl⟩, HSL.out _ ⟨rfl, rfl, rfl, Nat.le_refl _, fun _ _ => rfl⟩⟩
              · have h : ¬ (0 ≤ k1 ∧ k1 < (n : Int)) := of_decide_eq_false (by rw [← HIN.out])
                have e : c = 1 := by rw [SC.out]; exact if_pos (by rw [RJ.out.2]; omega)
                have HSL : Hid (Sl w5 (.slice none 0 0) (wts k k1)) := by
                  have q : wts k k1 = [] := by unfold wts; rw [← SC.out, e, if_neg (by decide)]
                  rw [q]
                  exact Ldr.Sl.nil _
                clear h
                go_wp2
                go_meet
                exact ⟨by rw [e], Below.refl _ _, HSL.out⟩
            case rest =>
              obtain ⟨rfl, hx⟩ := hcut
              obtain ⟨WW, eW⟩ : ∃ WW, WW = wc := ⟨_, rfl⟩
              subst eW
              have GW : Hid (PS w P Q V WW k fp k v k0 k1 k2 ∧ Sl WW u16 (wts k k1)) := ⟨G5.out.later hx.out.1, hx.out.2⟩
              have yW := GW.out.1.tr.2.1
              have hVW := GW.out.1.vl
              clear hx G5
              go_wp2_with fail
              refine (wtT w.heap.size P k fp k1 WW GW.out.1.ag RJ.out.1).mono ?_
              rintro e w6 ⟨a6, c6, rfl, hs6, _, hb6⟩
              rw [← SC.out]
              obtain ⟨n6, en6⟩ : ∃ n6, n6 = (wts k k1).length := ⟨_, rfl⟩
              rw [← en6] at hs6 ⊢
              have G6 : Hid (PS w P Q V w6 k fp k v k0 k1 k2 ∧ Sl w6 (.slice a6 n6 c6) (wts k k1) ∧ Sl w6 u16 (wts k k1)) := ⟨GW.out.1.later hb6, hs6, GW.out.2.later hb6⟩
              clear hs6 hb6 yW hVW en6
              go_wp2_with fail
              refine (errF_same c w6 (HL.out.1.later G6.out.1.bel)).mono ?_
              rintro e w7 ⟨rfl, hb7⟩
              have G7 : Hid (PS w P Q V w7 k fp k v k0 k1 k2 ∧ Sl w7 (.slice a6 n6 c6) (wts k k1) ∧ Sl w7 u16 (wts k k1)) := ⟨G6.out.1.later hb7, G6.out.2.1.later hb7, G6.out.2.2.later hb7⟩
              clear hb7
              go_wp2_with fail
              refine (same_any G7.out.2.1 G7.out.2.2).mono ?_
              rintro e w8 ⟨rfl, hb8⟩
              rw [decide_eq_true (show wts k k1 = wts k k1 from rfl)]
              have G8 : Hid (PS w P Q V w8 k fp k v k0 k1 k2) := G7.out.1.later hb8
              clear hb8
              obtain ⟨r, er⟩ : ∃ r : Int, r = (k.hold : Int) := ⟨_, rfl⟩
              have ER : Hid (r = (k.hold : Int)) := er
              have HS : Hid (∀ X : World, Below w8.heap.size w8 X → ∀ X' : World, X'.heap = X.heap → X'.cell? ⟨Q, 2, none⟩ = some (.int .i64 r)) := fun X hX X' e => by
                rw [c_heapT e, ER.out]
                exact (G8.out.later hX).ra.c2
              have d3 : (r != r) = false := by simp
              clear er
              go_wp2_with fail
              go_region_held3 (fun X => X.cell? ⟨Q, 2, none⟩ = some (.int .i64 r)) (first | exact HS.out _ (Below.refl _ _) _ rfl | exact HS.out _ B9.out _ rfl) (first
                | (go_at_call 20; refine (holdT w.heap.size P k fp _ (by exact G8.out.ag.of_blocks (Nat.le_refl _) fun _ _ => rfl) RJ.out.1).mono ?_; rintro e9 w9 ⟨rfl, hb9⟩; rw [← ER.out]; have B9 : Hid (Below w8.heap.size w8 w9) := below_fromT hb9 (Below.refl _ _) rfl rfl rfl rfl; clear hb9))
              go_wp2
              go_roundw
              case rel => exact ⟨i + 1, by omega, by omega, by go_num, (G8.out.later B9.out).pa RJ.out.1 RJ.out.2⟩
              case measure => simp [intOf]; omega
    · rcases (show ((i : Int) < (len : Int) ∧ ¬ (i : Int) < 120) ∨ ¬ (i : Int) < (len : Int) by omega) with ⟨e1, e2⟩ | e1
      all_goals
        obtain ⟨k, fp, v, p1, p2, p3, p4, p5, p7⟩ := hC.out
        have B9 : Hid (Below w.heap.size w wr) := p7
        clear p1 p2 p3 p4 p5 p7 hC hgo
        go_wp2
        go_ret
        exact ⟨rfl, B9.out⟩
theorem plays_any (n most : Int) (a : Option Addr) (len cap : Nat) (ls : List (List Int)) (w : World) (hL : Laid w) (hR : Rw w a len ls) : Calls Tryd.prog 4 #[.int .i64 n, .int .i64 most, .slice a len cap] w fun e w' => e = .returned (.bool true) ∧ Below w.heap.size w w' := by
  by_cases h : (n < 2 ∨ 5 < n) ∨ most < 1 ∨ 10 < most
  · exact plays_bad n most a len cap w hL h
  · obtain ⟨x, rfl⟩ : ∃ k : Nat, n = (k : Int) := ⟨n.toNat, by omega⟩
    obtain ⟨y, rfl⟩ : ∃ k : Nat, most = (k : Int) := ⟨most.toNat, by omega⟩
    exact plays_ok x y a len cap ls w hL hR (by omega) (by omega) (by omega) (by omega)
end Go.Proofs.YtfjhjjikaodadagDoor.Tok
