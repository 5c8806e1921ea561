/-
  AgainWhole: the walk.
-/
import Derived.Test.YtdhlfbpflngmbaeAgwS
import Derived.Test.YtdhlfbpflngmbaeVecB
namespace Go.Proofs.Ytdhlfbpflngmbae.Aga
open Go.RowKit
open Go.Proofs.Ytdhlfbpflngmbae.Fif (Cm own_lt own_block own_form own_mono own_vw Kp ret_bool)
open Go.Proofs.Ytdhlfbpflngmbae.Sep (KpL NewL setF set_same set_other)
open Go.Proofs.Ytdhlfbpflngmbae.Vec (Vw ints_any)
set_option linter.unusedVariables false

theorem Ow.row {w : World} {b n : Nat} {v : Value} {l : List Int} (h : Ow w b v l) (e : l.length = n) : w.ownsRow b 3 1 v n (l.map (Value.int .i64)) := by
  subst e
  exact h
theorem Ow.of {w : World} {b n : Nat} {v : Value} {l : List Int} (h : w.ownsRow b 3 1 v n (l.map (Value.int .i64))) (e : l.length = n) : Ow w b v l := by
  subst e
  exact h
theorem below_drewsA {B : Nat} {a w : World} (h : Below B a w) (n : Nat) : Below B a (w.drewN n) := ⟨h.os, h.tape, h.output, h.size, h.block⟩
theorem newA (w : World) (B : Nat) (hB : B = w.heap.size) (x : Value) (t : TypeId) : ∀ j u, [x][j]? = some u → (w.alloc (.cells #[x] t)).cell? ((⟨B, 0, none⟩ : Addr).add j) = some u := by
  subst hB
  intro j u hj
  rw [Addr.add_lit, Nat.zero_add]
  rcases j with _ | j
  · simpa using hj
  · simp at hj
theorem oneA (x : Int) : ∀ u ∈ [Value.int .i64 x], u.oneCell' = true := by
  intro u hu
  obtain rfl := List.mem_singleton.1 hu
  rfl
theorem pushA {w w' : World} {base : Nat} {ob : Obj} {t : TypeId} {s n : Nat} {v : Value} {xs : List Value} (o : w.ownsRow base t s v n xs) (e : w'.heap = w.heap.push ob) : w'.ownsRow base t s v n xs := own_block o fun k hk => by
  rw [e, Array.getElem?_push_lt (own_lt o k hk).2, Array.getElem?_eq_getElem (own_lt o k hk).2]
theorem atA {v : Value} {g H : Nat} (hat : v.ownBlock = some g ∨ g = H) {H' n c : Nat} (hH : H' ≤ H) : ∀ k, (Value.slice (some ⟨g, 0, none⟩) n c).ownBlock = some k → v.ownBlock = some k ∨ H' ≤ k := by
  intro k hk
  have e : g = k := by simpa [Value.ownBlock] using hk
  subst e
  rcases hat with a | a
  · exact .inl a
  · exact .inr (by omega)
/-- a temporary ahead of it -/
theorem grown_push {w w1 w' : World} {o : Obj} {r : Option Nat} (e : w1 = w.alloc o) (hg : w1.grownBy w' r) : w.grownBy w' r := by
  subst e
  exact (World.grownBy_alloc w o r).trans hg
set_option maxRecDepth 100000 in
set_option maxHeartbeats 8000000 in
theorem whole_any (a0 : Option Addr) (len0 cap0 : Nat) (xs : List Int) (a1 : Option Addr) (len1 cap1 : Nat) (ys : List Int) (free : Int) (w : World) (hx : Vw w a0 len0 xs) (hm0 : len0 ≤ maxLen) (hy : Vw w a1 len1 ys) (hm1 : len1 ≤ maxLen) :
    Calls Try.prog 4 #[.slice a0 len0 cap0, .slice a1 len1 cap1, .int .i64 free] w fun e w' => e = .returned (.bool true) ∧ Below w.heap.size w w' := by
  have HV : Hid (Vw w a0 len0 xs ∧ Vw w a1 len1 ys) := ⟨hx, hy⟩
  unfold maxLen at hm0 hm1
  obtain ⟨ii, hi', hz0, hz1, hz2⟩ := Fif.info_int
  have HJ : Hid (Try.prog.info? 3 = some ii ∧ ii.zero = some (.int .i64 0) ∧ ii.size = 1 ∧ ii.bytes = 8) := ⟨hi', hz0, hz1, hz2⟩
  clear hx hy hi' hz0 hz1 hz2
  go_enter Try.func4, Try.ntmps4
  go_wp2_with fail
  refine (newS w).mono ?_
  rintro e w1 ⟨P1, f1, rfl, hS1, hb1⟩
  have B1 : Hid (SS w1 w.heap.size P1 [] 0 f1 ∧ Below w.heap.size w w1) := ⟨hS1, hb1⟩
  clear hS1 hb1
  go_wp2_with fail
  refine (sayS w.heap.size P1 [] 0 f1 9 w1 B1.out.1 SInv.start (by simp) B1.out.2.size).mono ?_
  rintro e w2 ⟨f2, rfl, hS2, hb2, -, -⟩
  rw [one_said.1, one_said.2.1, errF_ok]
  rw [one_said.2.2.1] at hS2
  have B2 : Hid (SS w2 w.heap.size P1 [9] 0 f2 ∧ Below w.heap.size w w2) := ⟨hS2, B1.out.2.trans hb2⟩
  clear hS2 hb2
  go_wp2_with fail
  refine (askS w.heap.size P1 [9] 0 f2 1 w2 B2.out.1 (SInv.say SInv.start 9) (by simp)).mono ?_
  rintro e w3 ⟨rfl, hb3⟩
  rw [one_said.2.2.2.1, one_said.2.2.2.2, errF_ok]
  have B3 : Hid (Below w.heap.size w w3) := B2.out.2.trans (hb3.mono B2.out.2.size)
  clear hb3
  go_wp2_with fail
  refine (newS w3).mono ?_
  rintro e w4 ⟨Ps, f4, rfl, hS4, hb4⟩
  have B4 : Hid (SS w4 w3.heap.size Ps [] 0 f4 ∧ Below w3.heap.size w3 w4) := ⟨hS4, hb4⟩
  clear hS4 hb4
  go_wp2_with fail
  refine (newH w4).mono ?_
  rintro e w5 ⟨Ph, f5, rfl, hH5, hb5⟩
  have A5 : Hid (∃ F, AW w Ps Ph w5 [] 0 [] (.slice none 0 0) [] (.slice none 0 0) [] (.slice none 0 0) [] F) := AW.start B3.out B4.out.1 B4.out.2 hH5 hb5
  clear hH5 hb5 B1 B2 B3 B4
  go_wp2
  go_loopw [14, 16] (fun va x wr => ∃ i : Nat, i ≤ len0 ∧ i ≤ 30 ∧ x = .int .i64 (i : Int) ∧ Hid (∃ al F, al.length = i ∧ Ok30 al ∧ AW w Ps Ph wr al 0 [] va al (.slice none 0 0) [] (.slice none 0 0) [] F)) (fun _ x _ => 30 - (intOf x).toNat)
  case atStart =>
    obtain ⟨F, hF⟩ := A5.out
    exact ⟨0, by omega, by omega, rfl, [], F, rfl, ⟨by simp, fun x hx => absurd hx List.not_mem_nil⟩, hF⟩
  case round =>
    obtain ⟨i, hil, hi30, rfl, hR⟩ := hrel
    obtain ⟨al, F, hal, hok, hA⟩ := hR.out
    have R : Hid (al.length = i ∧ Ok30 al ∧ AW w Ps Ph wr al 0 [] u14 al (.slice none 0 0) [] (.slice none 0 0) [] F) := ⟨hal, hok, hA⟩
    have hi0 : (0 : Int) ≤ (i : Int) := by omega
    clear hR hal hok hA
    by_cases hlt : i < len0 ∧ i < 30
    · obtain ⟨g0, off, rfl, hg0, hcs⟩ := HV.out.1.2 (by omega)
      have hc := hcs i hlt.1
      have bel := R.out.2.2.bel
      have x0 := (bel.cell (p := ⟨g0, off + i, none⟩) hg0).trans hc
      obtain ⟨x, ex⟩ : ∃ x, x = xs.getD i 0 := ⟨_, rfl⟩
      rw [← ex] at x0 hc
      have HC : Hid (w.cell? ⟨g0, off + i, none⟩ = some (.int .i64 x) ∧ g0 < w.heap.size) := ⟨hc, hg0⟩
      have hil' : (i : Int) < (len0 : Int) := by omega
      have hi3 : (i : Int) < 30 := by omega
      obtain ⟨qa, ca, eqa⟩ := own_form R.out.2.2.a
      rw [R.out.1] at eqa
      subst eqa
      clear hcs ex hc bel hlt
      by_cases hb : x < 1 ∨ 30 < x
      · have EC := say_no (said := al) hb
        go_wp2_with fail
        refine (sayS w.heap.size Ps al 0 (F 0) x wr R.out.2.2.s (R.out.2.1.inv (by omega)) (by have := R.out.2.1.1; omega) R.out.2.2.bel.size).mono ?_
        rintro e w6 ⟨f6, rfl, hS6, hb6, hk6, hn6⟩
        rw [EC, errF_no (by decide)]
        have B6 : Hid (Below w.heap.size w w6) := R.out.2.2.bel.trans hb6
        have y0 := (B6.out.cell (p := ⟨g0, off + i, none⟩) HC.out.2).trans HC.out.1
        clear hS6 hb6 hk6 hn6
        rcases Int.lt_or_le x 1 with q | q
        · have dq : decide (x < 1) = true := decide_eq_true q
          go_wp2
          go_ret
          exact ⟨rfl, B6.out⟩
        · have dq : decide (x < 1) = false := decide_eq_false (by omega)
          have dq2 : decide (x > 30) = true := decide_eq_true (by omega)
          go_wp2
          go_ret
          exact ⟨rfl, B6.out⟩
      · have EC := say_ok (said := al) (by have := R.out.1; omega) (x := x) (by omega) (by omega)
        have HE : Hid _ := EC
        have HB : Hid (1 ≤ x ∧ x ≤ 30) := (by show _ ∧ _; omega)
        clear EC hb
        go_wp2_with fail
        refine (sayS w.heap.size Ps al 0 (F 0) x wr R.out.2.2.s (R.out.2.1.inv (by omega)) (by have := R.out.2.1.1; omega) R.out.2.2.bel.size).mono ?_
        rintro e w6 ⟨f6, rfl, hS6, hb6, hk6, hn6⟩
        rw [HE.out.1, HE.out.2.1, errF_ok, R.out.1]
        rw [HE.out.2.2] at hS6
        have A6 : Hid (AW w Ps Ph w6 (al ++ [x]) 0 [] (.slice qa i ca) al (.slice none 0 0) [] (.slice none 0 0) [] (setF F 0 f6)) := R.out.2.2.say hS6 hb6 hk6 hn6
        have y0 := (A6.out.bel.cell (p := ⟨g0, off + i, none⟩) HC.out.2).trans HC.out.1
        have OA : Hid (w6.ownsRow w.heap.size 3 1 (.slice qa i ca) i (al.map (Value.int .i64))) := A6.out.a.row R.out.1
        clear hS6 hb6 hk6 hn6
        go_wp2_with (at_builtin; refine wpList_append_lies _ rfl _ _ 30 rfl w.heap.size 3 ii (.int .i64 0) 1 8 Try.underlying30 HJ.out.1 HJ.out.2.1 HJ.out.2.2.1 HJ.out.2.2.2 rfl (by decide) (.slice qa i ca) i (al.map (Value.int .i64)) rfl (by exact pushA OA.out rfl) ⟨w6.heap.size, 0, none⟩ 1 1 [.int .i64 x] rfl rfl (by exact newA _ _ rfl _ _) (oneA x) (by omega) (by unfold maxLen; omega) (by omega) (by have := A6.out.bel.size; simp; omega) (w6.heap.size + 1) (by simp) ?_; intro gg gc w7 hown hgrow hat _; have A7 : Hid (AW w Ps Ph w7 (al ++ [x]) 0 [] (.slice (some ⟨gg, 0, none⟩) (i + 1) gc) (al ++ [x]) (.slice none 0 0) [] (.slice none 0 0) [] (setF (setF F 0 f6) 2 (Value.slice (some ⟨gg, 0, none⟩) (i + 1) gc).ownBlock.toList)) := A6.out.rowA (grown_push rfl hgrow) (Ow.of (n := i + 1) (by rw [List.map_append]; exact hown) (by rw [List.length_append, R.out.1]; rfl)) (atA hat (by omega)); clear hown hgrow hat)
        go_roundw
        case rel => exact ⟨i + 1, by omega, by omega, by go_num, al ++ [x], _, by rw [List.length_append, R.out.1]; rfl, R.out.2.1.push (by have := R.out.1; omega) HB.out.1 HB.out.2, A7.out⟩
        case measure => simp [intOf]; omega
    · by_cases hl0 : i < len0
      · have hl3 : ¬ (i : Int) < 30 := by omega
        have hl0' : (i : Int) < (len0 : Int) := by omega
        clear hlt
        obtain ⟨n, en⟩ : ∃ n, n = al.length := ⟨_, rfl⟩
        have hn30 : n ≤ 30 := by rw [en]; exact R.out.2.1.1
        obtain ⟨qa, ca, eqa⟩ := own_form R.out.2.2.a
        rw [← en] at eqa
        subst eqa
        have HN : Hid (n = al.length ∧ Ok30 al) := ⟨en, R.out.2.1⟩
        have hnI : (n : Int) ≤ 30 := by omega
        have A6 : Hid (AW w Ps Ph wr al 0 [] (.slice qa n ca) al (.slice none 0 0) (al.take (0 : Int).toNat) (.slice none 0 0) [] F) := R.out.2.2
        clear R en
        go_wp2
        go_loopw [15, 19] (fun vh x wr => ∃ i : Nat, i ≤ len1 ∧ x = .int .i64 (i : Int) ∧ Hid (∃ S h ws F, Wg al S h ws ∧ AW w Ps Ph wr al h ws (.slice qa n ca) al vh (al.take h.toNat) (.slice none 0 0) [] F)) (fun _ x _ => len1 - (intOf x).toNat)
        case atStart => exact ⟨0, by omega, rfl, fun _ => false, 0, [], F, Wg.start al, A6.out⟩
        case round =>
          clear A6
          obtain ⟨i, hil, rfl, hR⟩ := hrel
          obtain ⟨S, h, ws, F, hW, hA⟩ := hR.out
          have R : Hid (Wg al S h ws ∧ AW w Ps Ph wr al h ws (.slice qa n ca) al u15 (al.take h.toNat) (.slice none 0 0) [] F) := ⟨hW, hA⟩
          have hi0 : (0 : Int) ≤ (i : Int) := by omega
          obtain ⟨qh, ch, eqh⟩ := own_form R.out.2.d
          obtain ⟨m, em⟩ : ∃ m, m = (al.take h.toNat).length := ⟨_, rfl⟩
          rw [← em] at eqh
          subst eqh
          have HM : Hid ((al.take h.toNat).length = m) := em.symm
          have hm30 : m ≤ 30 := by rw [em, List.length_take]; have := HN.out; omega
          clear hW hA em
          by_cases hlt : i < len1
          · obtain ⟨g1, of1, rfl, hg1, hcs⟩ := HV.out.2.2 (by omega)
            have x0 := (R.out.2.bel.cell (p := ⟨g1, of1 + i, none⟩) hg1).trans (hcs i hlt)
            obtain ⟨k, ek⟩ : ∃ k, k = ys.getD i 0 := ⟨_, rfl⟩
            rw [← ek] at x0
            have hil' : (i : Int) < (len1 : Int) := by omega
            clear hcs ek
            by_cases k1 : k < 1
            · go_wp2
              go_roundw
              case rel => exact ⟨i + 1, by omega, by go_num, hR⟩
              case measure => simp [intOf]; omega
            · have e1 : decide (k < 1) = false := decide_eq_false k1
              by_cases k2 : (n : Int) < k
              · go_wp2
                go_roundw
                case rel => exact ⟨i + 1, by omega, by go_num, hR⟩
                case measure => simp [intOf]; omega
              · obtain ⟨kk, rfl⟩ : ∃ kk : Nat, k = ((kk + 1 : Nat) : Int) := ⟨k.toNat - 1, by omega⟩
                have hkn : kk < n := by omega
                have T := R.out.1.take HN.out.2 (k := ((kk + 1 : Nat) : Int)) (by omega) (by have := HN.out.1; omega)
                have ew : wd al ((kk + 1 : Nat) : Int) = al.getD kk 0 := rfl
                obtain ⟨x, ex⟩ : ∃ x, x = wd al ((kk + 1 : Nat) : Int) := ⟨_, rfl⟩
                rw [← ex] at T ew
                obtain ⟨qa', ca', eqa', hva⟩ := own_vw (R.out.2.a.row HN.out.1.symm)
                cases eqa'
                obtain ⟨ga, ofa, rfl, hga, hca⟩ := hva.2 (by omega)
                have y0 := hca kk hkn
                rw [← ew] at y0
                have hk0 : (0 : Int) ≤ (kk : Int) := by omega
                have hkn' : (kk : Int) < (n : Int) := by omega
                have es : ((kk + 1 : Nat) : Int) = (kk : Int) + 1 := by omega
                rw [es] at x0 T
                have k2' : ¬ (n : Int) < (kk : Int) + 1 := by omega
                have k1' : ¬ (kk : Int) + 1 < 1 := by omega
                have TT : Hid _ := T
                clear T ew ex hva hca hR k1 k2 e1 es
                obtain ⟨o, h', ws', er⟩ : ∃ o h' ws', hrT h ws ((kk : Int) + 1) x = (o, h', ws') := ⟨_, _, _, rfl⟩
                go_wp2_with fail
                refine (takeH w.heap.size Ph h ws (F 1) ((kk : Int) + 1) x wr R.out.2.h R.out.1.inv R.out.2.bel.size).mono ?_
                rintro e w6 ⟨v6, f6, rfl, ho6, hH6, hb6, hk6, hn6, ha6⟩
                rw [TT.out.1, errF_ok]
                rw [er] at ho6 hH6
                have G7 : Hid (Wg al (fun j => S j || decide (j = (kk : Int) + 1)) h' ws' ∧ al.take h.toNat ++ o = al.take h'.toNat ∧ o.length ≤ 30) := by
                  have t := TT.out.2
                  rw [er] at t
                  exact t
                have A6 : Hid (AW w Ps Ph w6 al h' ws' (.slice (some ⟨ga, ofa, none⟩) n ca) al (.slice qh m ch) (al.take h.toNat) (.slice none 0 0) [] (setF F 1 f6)) := R.out.2.hear hH6 hb6 hk6 hn6
                have OD : Hid (w6.ownsRow w.heap.size 3 1 (.slice qh m ch) m ((al.take h.toNat).map (Value.int .i64))) := A6.out.d.row HM.out
                clear TT
                rcases o with _ | ⟨o0, o⟩
                · obtain ⟨q6, c6, rfl⟩ := own_form ho6
                  have A7 : Hid (AW w Ps Ph w6 al h' ws' (.slice (some ⟨ga, ofa, none⟩) n ca) al (.slice qh m ch) (al.take h'.toNat) (.slice none 0 0) [] (setF F 1 f6)) := by
                    have e := G7.out.2.1
                    rw [List.append_nil] at e
                    rw [← e]
                    exact A6.out
                  clear ho6 hH6 hb6 hk6 hn6 ha6 x0
                  go_wp2_with (at_builtin; refine wpList_append_zero rfl _ _ 30 rfl w.heap.size 3 ii 1 Try.underlying30 HJ.out.1 (.slice qh m ch) m ((al.take h.toNat).map (Value.int .i64)) rfl OD.out q6 c6 rfl ?_)
                  go_roundw
                  case rel => exact ⟨i + 1, by omega, by go_num, _, h', ws', _, G7.out.1, A7.out⟩
                  case measure => simp [intOf]; omega
                · obtain ⟨ml, eml⟩ : ∃ ml, ml = (o0 :: o).length := ⟨_, rfl⟩
                  have hml : ml ≤ 30 := by rw [eml]; exact G7.out.2.2
                  have hml0 : 0 < ml := by rw [eml]; simp
                  rcases ho6.2 with ⟨rfl, e0⟩ | ⟨g6, c6, cur, rfl, hb0, hh, hcv, hmv, hsz, htk⟩
                  · simp at e0
                  · have CS : Hid (((o0 :: o).map (Value.int .i64)).length = ml * 1 ∧ ∀ j u, ((o0 :: o).map (Value.int .i64))[j]? = some u → w6.cell? ((⟨g6, 0, none⟩ : Addr).add j) = some u) := by
                      refine ⟨by rw [eml]; simp, fun j u hj => ?_⟩
                      rw [Addr.add_lit, Nat.zero_add]
                      have hl := (List.getElem?_eq_some_iff.1 hj).1
                      rw [ho6.1] at hl
                      rw [← htk, List.getElem?_take_of_lt hl] at hj
                      simp only [World.cell?, hh]
                      simpa using hj
                    have EL : Hid (m + ml = (al.take h'.toNat).length) := by
                      have e := congrArg List.length G7.out.2.1
                      rw [List.length_append, HM.out, ← eml] at e
                      exact e
                    rw [← eml]
                    clear ho6 hH6 hb6 hk6 hn6 ha6 x0 hb0 hh hcv hmv hsz htk eml
                    go_wp2_with (at_builtin; refine wpList_append_lies _ rfl _ _ 30 rfl w.heap.size 3 ii (.int .i64 0) 1 8 Try.underlying30 HJ.out.1 HJ.out.2.1 HJ.out.2.2.1 HJ.out.2.2.2 rfl (by decide) (.slice qh m ch) m ((al.take h.toNat).map (Value.int .i64)) rfl OD.out ⟨g6, 0, none⟩ ml c6 ((o0 :: o).map (Value.int .i64)) rfl CS.out.1 CS.out.2 (fun u hu => by obtain ⟨z, _, rfl⟩ := List.mem_map.1 hu; rfl) hml0 (by unfold maxLen; omega) (by omega) A6.out.bel.size w6.heap.size rfl ?_; intro gg gc w7 hown hgrow hat _; have A7 : Hid (AW w Ps Ph w7 al h' ws' (.slice (some ⟨ga, ofa, none⟩) n ca) al (.slice (some ⟨gg, 0, none⟩) (m + ml) gc) (al.take h'.toNat) (.slice none 0 0) [] (setF (setF F 1 f6) 3 (Value.slice (some ⟨gg, 0, none⟩) (m + ml) gc).ownBlock.toList)) := A6.out.rowD hgrow (Ow.of (n := m + ml) (by rw [← G7.out.2.1, List.map_append]; exact hown) EL.out.symm) (atA hat (Nat.le_refl _)); clear hown hgrow hat)
                    go_roundw
                    case rel => exact ⟨i + 1, by omega, by go_num, _, h', ws', _, G7.out.1, A7.out⟩
                    case measure => simp [intOf]; omega
          · have hkn : i = len1 := by omega
            subst hkn
            have LK := R.out.1.lacks HN.out.2.1
            rw [← HN.out.1] at LK
            have HK : Hid _ := LK
            clear LK hR
            go_wp2_with fail
            refine (lacksH w.heap.size Ph h ws (F 1) (n : Int) wr R.out.2.h R.out.1.inv).mono ?_
            rintro e w6 ⟨v6, rfl, ho6, hb6⟩
            rw [HK.out.1, errF_ok]
            obtain ⟨l, el⟩ : ∃ l, l = lkL h ws (n : Int) := ⟨_, rfl⟩
            rw [← el] at ho6
            have HL : Hid (l.length ≤ 30 ∧ (∀ k ∈ l, 1 ≤ k ∧ k ≤ (n : Int)) ∧ ∀ k, 1 ≤ k → k ≤ (n : Int) → S k = true ∨ k ∈ l) := by rw [el]; exact HK.out.2
            have A6 : Hid (AW w Ps Ph w6 al h ws (.slice qa n ca) al (.slice qh m ch) (al.take h.toNat) v6 l (setF F 4 v6.ownBlock.toList)) := R.out.2.rowX hb6 ho6
            obtain ⟨ql, cl, rfl⟩ := own_form ho6
            obtain ⟨nl, enl⟩ : ∃ nl, nl = l.length := ⟨_, rfl⟩
            have hnl : nl ≤ 30 := by rw [enl]; exact HL.out.1
            rw [← enl] at A6 ⊢
            have ENL : Hid (l.length = nl) := enl.symm
            have GW : Hid (Wg al S h ws) := R.out.1
            clear ho6 hb6 el enl HK R HM hm30 hi0 hil hlt
            go_wp2
            go_loopw [15, 25] (fun vh x wr => ∃ i : Nat, i ≤ nl ∧ x = .int .i64 (i : Int) ∧ Hid (∃ h ws F, Wg al (seen S l i) h ws ∧ AW w Ps Ph wr al h ws (.slice qa n ca) al vh (al.take h.toNat) (.slice ql nl cl) l F)) (fun _ x _ => nl - (intOf x).toNat)
            case atStart => exact ⟨0, by omega, rfl, h, ws, _, GW.out.congr (seen_zero S l), A6.out⟩
            case round =>
              clear A6 GW
              obtain ⟨i, hil, rfl, hR⟩ := hrel
              obtain ⟨h, ws, F, hW, hA⟩ := hR.out
              have R : Hid (Wg al (seen S l i) h ws ∧ AW w Ps Ph wr al h ws (.slice qa n ca) al u15 (al.take h.toNat) (.slice ql nl cl) l F) := ⟨hW, hA⟩
              have hi0 : (0 : Int) ≤ (i : Int) := by omega
              obtain ⟨qh, ch, eqh⟩ := own_form R.out.2.d
              obtain ⟨m, em⟩ : ∃ m, m = (al.take h.toNat).length := ⟨_, rfl⟩
              rw [← em] at eqh
              subst eqh
              have HM : Hid ((al.take h.toNat).length = m) := em.symm
              have hm30 : m ≤ 30 := by rw [em, List.length_take]; have := HN.out; omega
              clear hW hA em hR
              by_cases hlt : i < nl
              · obtain ⟨ql', cl', el', hvl⟩ := own_vw (R.out.2.x.row ENL.out)
                cases el'
                obtain ⟨gl, ofl, rfl, hgl, hcl⟩ := hvl.2 (by omega)
                have x0 := hcl i hlt
                obtain ⟨k, ek⟩ : ∃ k, k = l.getD i 0 := ⟨_, rfl⟩
                rw [← ek] at x0
                have hkl : k ∈ l := by
                  have hl : i < l.length := by rw [ENL.out]; exact hlt
                  rw [ek, show l.getD i 0 = l[i] by simp [List.getD, hl]]
                  exact List.getElem_mem _
                have hk := HL.out.2.1 k hkl
                have T := R.out.1.take HN.out.2 hk.1 (by have := HN.out.1; omega)
                have QA := ask_ok (said := al) hk.1 (by have := HN.out.1; omega)
                obtain ⟨x, ex⟩ : ∃ x, x = wd al k := ⟨_, rfl⟩
                rw [← ex] at T QA
                have hil' : (i : Int) < (nl : Int) := by omega
                have TT : Hid ((hrC h ws k x = 0 ∧ Wg al (seen S l (i + 1)) (hrT h ws k x).2.1 (hrT h ws k x).2.2 ∧ al.take h.toNat ++ (hrT h ws k x).1 = al.take (hrT h ws k x).2.1.toNat ∧ (hrT h ws k x).1.length ≤ 30)) := ⟨T.1, T.2.1.congr fun j => by rw [seen_succ S l (by rw [ENL.out]; exact hlt), ek], T.2.2.1, T.2.2.2⟩
                have HQ : Hid _ := QA
                have HG : Hid (gl < wr.heap.size ∧ wr.cell? ⟨gl, ofl + i, none⟩ = some (.int .i64 k)) := ⟨hgl, x0⟩
                clear hvl hcl hkl ek hk T ex QA hgl
                go_wp2_with fail
                refine (askS w.heap.size Ps al 0 (F 0) k wr R.out.2.s (HN.out.2.inv (by omega)) (by have := HN.out.2.1; omega)).mono ?_
                rintro e w5 ⟨rfl, hb5⟩
                rw [HQ.out.1, HQ.out.2, errF_ok]
                have A5 : Hid (AW w Ps Ph w5 al h ws (.slice qa n ca) al (.slice qh m ch) (al.take h.toNat) (.slice (some ⟨gl, ofl, none⟩) nl cl) l F) := R.out.2.still hb5
                have GI : Hid (HInv h ws) := R.out.1.inv
                have x5 := (hb5.cell (p := ⟨gl, ofl + i, none⟩) HG.out.1).trans HG.out.2
                clear hb5 x0 R
                obtain ⟨o, h', ws', er⟩ : ∃ o h' ws', hrT h ws k x = (o, h', ws') := ⟨_, _, _, rfl⟩
                go_wp2_with fail
                refine (takeH w.heap.size Ph h ws (F 1) k x w5 A5.out.h GI.out A5.out.bel.size).mono ?_
                rintro e w6 ⟨v6, f6, rfl, ho6, hH6, hb6, hk6, hn6, ha6⟩
                rw [TT.out.1, errF_ok]
                rw [er] at ho6 hH6
                have x0 := x5
                clear x5
                have G7 : Hid (Wg al (seen S l (i + 1)) h' ws' ∧ al.take h.toNat ++ o = al.take h'.toNat ∧ o.length ≤ 30) := by
                  have t := TT.out.2
                  rw [er] at t
                  exact t
                have A6 : Hid (AW w Ps Ph w6 al h' ws' (.slice qa n ca) al (.slice qh m ch) (al.take h.toNat) (.slice (some ⟨gl, ofl, none⟩) nl cl) l (setF F 1 f6)) := A5.out.hear hH6 hb6 hk6 hn6
                have OD : Hid (w6.ownsRow w.heap.size 3 1 (.slice qh m ch) m ((al.take h.toNat).map (Value.int .i64))) := A6.out.d.row HM.out
                clear TT
                rcases o with _ | ⟨o0, o⟩
                · obtain ⟨q6, c6, rfl⟩ := own_form ho6
                  have A7 : Hid (AW w Ps Ph w6 al h' ws' (.slice qa n ca) al (.slice qh m ch) (al.take h'.toNat) (.slice (some ⟨gl, ofl, none⟩) nl cl) l (setF F 1 f6)) := by
                    have e := G7.out.2.1
                    rw [List.append_nil] at e
                    rw [← e]
                    exact A6.out
                  clear ho6 hH6 hb6 hk6 hn6 ha6 x0
                  go_wp2_with (at_builtin; refine wpList_append_zero rfl _ _ 30 rfl w.heap.size 3 ii 1 Try.underlying30 HJ.out.1 (.slice qh m ch) m ((al.take h.toNat).map (Value.int .i64)) rfl OD.out q6 c6 rfl ?_)
                  go_roundw
                  case rel => exact ⟨i + 1, by omega, by go_num, h', ws', _, G7.out.1, A7.out⟩
                  case measure => simp [intOf]; omega
                · obtain ⟨ml, eml⟩ : ∃ ml, ml = (o0 :: o).length := ⟨_, rfl⟩
                  have hml : ml ≤ 30 := by rw [eml]; exact G7.out.2.2
                  have hml0 : 0 < ml := by rw [eml]; simp
                  rcases ho6.2 with ⟨rfl, e0⟩ | ⟨g6, c6, cur, rfl, hb0, hh, hcv, hmv, hsz, htk⟩
                  · simp at e0
                  · have CS : Hid (((o0 :: o).map (Value.int .i64)).length = ml * 1 ∧ ∀ j u, ((o0 :: o).map (Value.int .i64))[j]? = some u → w6.cell? ((⟨g6, 0, none⟩ : Addr).add j) = some u) := by
                      refine ⟨by rw [eml]; simp, fun j u hj => ?_⟩
                      rw [Addr.add_lit, Nat.zero_add]
                      have hl := (List.getElem?_eq_some_iff.1 hj).1
                      rw [ho6.1] at hl
                      rw [← htk, List.getElem?_take_of_lt hl] at hj
                      simp only [World.cell?, hh]
                      simpa using hj
                    have EL : Hid (m + ml = (al.take h'.toNat).length) := by
                      have e := congrArg List.length G7.out.2.1
                      rw [List.length_append, HM.out, ← eml] at e
                      exact e
                    rw [← eml]
                    clear ho6 hH6 hb6 hk6 hn6 ha6 x0 hb0 hh hcv hmv hsz htk eml
                    go_wp2_with (at_builtin; refine wpList_append_lies _ rfl _ _ 30 rfl w.heap.size 3 ii (.int .i64 0) 1 8 Try.underlying30 HJ.out.1 HJ.out.2.1 HJ.out.2.2.1 HJ.out.2.2.2 rfl (by decide) (.slice qh m ch) m ((al.take h.toNat).map (Value.int .i64)) rfl OD.out ⟨g6, 0, none⟩ ml c6 ((o0 :: o).map (Value.int .i64)) rfl CS.out.1 CS.out.2 (fun u hu => by obtain ⟨z, _, rfl⟩ := List.mem_map.1 hu; rfl) hml0 (by unfold maxLen; omega) (by omega) A6.out.bel.size w6.heap.size rfl ?_; intro gg gc w7 hown hgrow hat _; have A7 : Hid (AW w Ps Ph w7 al h' ws' (.slice qa n ca) al (.slice (some ⟨gg, 0, none⟩) (m + ml) gc) (al.take h'.toNat) (.slice (some ⟨gl, ofl, none⟩) nl cl) l (setF (setF F 1 f6) 3 (Value.slice (some ⟨gg, 0, none⟩) (m + ml) gc).ownBlock.toList)) := A6.out.rowD hgrow (Ow.of (n := m + ml) (by rw [← G7.out.2.1, List.map_append]; exact hown) EL.out.symm) (atA hat (Nat.le_refl _)); clear hown hgrow hat)
                    go_roundw
                    case rel => exact ⟨i + 1, by omega, by go_num, h', ws', _, G7.out.1, A7.out⟩
                    case measure => simp [intOf]; omega
              · have hkn : i = nl := by omega
                subst hkn
                have hd : al.take h.toNat = al := R.out.1.all fun k h1 h2 => by
                  have := HL.out.2.2 k h1 (by have := HN.out.1; omega)
                  rw [← ENL.out, seen_all]
                  simpa using this
                have HD : Hid (al.take h.toNat = al) := hd
                have OD := R.out.2.d.row HM.out
                rw [hd] at OD
                obtain ⟨qd, cd, ed, hvd⟩ := own_vw OD
                cases ed
                obtain ⟨qa', ca', ea, hva⟩ := own_vw (R.out.2.a.row HN.out.1.symm)
                cases ea
                have HVV : Hid (Vw wr qh m al ∧ Vw wr qa n al) := ⟨hvd, hva⟩
                have S6 : Hid (SS wr w.heap.size Ps al 0 (F 0) ∧ Below w.heap.size w wr) := ⟨R.out.2.s, R.out.2.bel⟩
                clear OD hvd hva R hd HM HL ENL HD
                go_wp2_with fail
                refine (ints_any qh qa m ch n ca al al wr HVV.out.1 HVV.out.2 (by unfold maxLen; omega)).mono ?_
                rintro e w7 ⟨rfl, nd, hw7⟩
                rw [decide_eq_true rfl]
                have S7 : Hid (SS w7 w.heap.size Ps al 0 (F 0) ∧ Below w.heap.size w w7) := by
                  rw [hw7]
                  have b : Below wr.heap.size wr (wr.drewN nd) := below_drewsA (Below.refl _ _) nd
                  exact ⟨S6.out.1.of_blocks b.size fun b' hb' => b.block b' (S6.out.1.fp b' hb').2, S6.out.2.trans (b.mono S6.out.2.size)⟩
                clear hw7 S6 HVV
                go_wp2_with fail
                refine (freeS w.heap.size Ps al 0 (F 0) free w7 S7.out.1 (HN.out.2.inv (by omega)) (by have := HN.out.2.1; omega) S7.out.2.size).mono ?_
                rintro e w8 ⟨f8, rfl, hS8, hb8, -, -⟩
                obtain ⟨fr, efr⟩ : ∃ fr, fr = freN al 0 free := ⟨_, rfl⟩
                rw [← efr] at hS8
                have S8 : Hid (SS w8 w.heap.size Ps al fr f8 ∧ Below w.heap.size w w8) := ⟨hS8, S7.out.2.trans hb8⟩
                clear hS8 hb8 S7
                by_cases hf0 : free < 0
                · rw [show freC al free = 1 from if_pos (.inl hf0), errF_no (by decide)]
                  have df : decide (free < 0) = true := decide_eq_true hf0
                  go_wp2
                  go_ret
                  exact ⟨rfl, S8.out.2⟩
                · have df : decide (free < 0) = false := decide_eq_false hf0
                  by_cases hfn : (n : Int) < free
                  · rw [show freC al free = 1 from if_pos (.inr (by have := HN.out.1; omega)), errF_no (by decide)]
                    have df2 : decide (free > (n : Int)) = true := decide_eq_true hfn
                    go_wp2
                    go_ret
                    exact ⟨rfl, S8.out.2⟩
                  · have ec : freC al free = 0 := if_neg (by have := HN.out.1; omega)
                    have HF : Hid ((fr : Int) = free ∧ fr ≤ al.length) := by
                      have := HN.out.1
                      rw [efr]
                      unfold freN
                      rw [ec]
                      split
                      · exact ⟨by omega, by omega⟩
                      · exact ⟨by omega, by omega⟩
                    rw [ec, errF_ok]
                    clear efr ec
                    go_wp2
                    go_loopw [30] (fun x wr => ∃ k : Nat, k ≤ n ∧ x = .int .i64 ((k : Int) + 1) ∧ Hid (SS wr w.heap.size Ps al fr f8 ∧ Below w.heap.size w wr)) (fun x _ => n + 1 - (intOf x).toNat)
                    case atStart => exact ⟨0, by omega, rfl, S8.out⟩
                    case round =>
                      clear S8
                      obtain ⟨k, hkn, rfl, hR⟩ := hrel
                      have hk0 : (0 : Int) ≤ (k : Int) := by omega
                      by_cases hlt : k < n
                      · have hlt' : (k : Int) + 1 ≤ (n : Int) := by omega
                        by_cases hkf : free < (k : Int) + 1
                        · have ea : askC al fr ((k : Int) + 1) = 0 := by
                            have := HN.out.1
                            have := HF.out.1
                            unfold askC
                            rw [if_neg (by omega), if_neg (by omega)]
                          have EA : Hid _ := ea
                          have dk : decide ((k : Int) + 1 > free) = true := decide_eq_true hkf
                          clear ea
                          go_wp2_with fail
                          refine (askS w.heap.size Ps al fr f8 ((k : Int) + 1) wr hR.out.1 (HN.out.2.inv HF.out.2) (by have := HN.out.2.1; omega)).mono ?_
                          rintro e w9 ⟨rfl, hb9⟩
                          rw [EA.out, errF_ok]
                          have S9 : Hid (SS w9 w.heap.size Ps al fr f8 ∧ Below w.heap.size w w9) := ⟨hR.out.1.of_blocks hb9.size fun b' hb' => hb9.block b' (hR.out.1.fp b' hb').2, hR.out.2.trans (hb9.mono hR.out.2.size)⟩
                          clear hb9
                          go_wp2
                          go_roundw
                          case rel => exact ⟨k + 1, by omega, by go_num, S9.out⟩
                          case measure => simp [intOf]; omega
                        · have ea : askC al fr ((k : Int) + 1) = 5 := by
                            have := HN.out.1
                            have := HF.out.1
                            unfold askC
                            rw [if_neg (by omega), if_pos (by omega)]
                          have EA : Hid _ := ea
                          have dk : decide ((k : Int) + 1 > free) = false := decide_eq_false hkf
                          clear ea
                          go_wp2_with fail
                          refine (askS w.heap.size Ps al fr f8 ((k : Int) + 1) wr hR.out.1 (HN.out.2.inv HF.out.2) (by have := HN.out.2.1; omega)).mono ?_
                          rintro e w9 ⟨rfl, hb9⟩
                          rw [EA.out, errF_no (by decide)]
                          have S9 : Hid (SS w9 w.heap.size Ps al fr f8 ∧ Below w.heap.size w w9) := ⟨hR.out.1.of_blocks hb9.size fun b' hb' => hb9.block b' (hR.out.1.fp b' hb').2, hR.out.2.trans (hb9.mono hR.out.2.size)⟩
                          clear hb9
                          go_wp2
                          go_roundw
                          case rel => exact ⟨k + 1, by omega, by go_num, S9.out⟩
                          case measure => simp [intOf]; omega
                      · have hk : k = n := by omega
                        subst hk
                        go_wp2
                        go_ret
                        exact ⟨rfl, hR.out.2⟩
      · have hl0' : ¬ (i : Int) < (len0 : Int) := by omega
        clear hlt
        obtain ⟨n, en⟩ : ∃ n, n = al.length := ⟨_, rfl⟩
        have hn30 : n ≤ 30 := by rw [en]; exact R.out.2.1.1
        obtain ⟨qa, ca, eqa⟩ := own_form R.out.2.2.a
        rw [← en] at eqa
        subst eqa
        have HN : Hid (n = al.length ∧ Ok30 al) := ⟨en, R.out.2.1⟩
        have hnI : (n : Int) ≤ 30 := by omega
        have A6 : Hid (AW w Ps Ph wr al 0 [] (.slice qa n ca) al (.slice none 0 0) (al.take (0 : Int).toNat) (.slice none 0 0) [] F) := R.out.2.2
        clear R en
        go_wp2
        go_loopw [15, 19] (fun vh x wr => ∃ i : Nat, i ≤ len1 ∧ x = .int .i64 (i : Int) ∧ Hid (∃ S h ws F, Wg al S h ws ∧ AW w Ps Ph wr al h ws (.slice qa n ca) al vh (al.take h.toNat) (.slice none 0 0) [] F)) (fun _ x _ => len1 - (intOf x).toNat)
        case atStart => exact ⟨0, by omega, rfl, fun _ => false, 0, [], F, Wg.start al, A6.out⟩
        case round =>
          clear A6
          obtain ⟨i, hil, rfl, hR⟩ := hrel
          obtain ⟨S, h, ws, F, hW, hA⟩ := hR.out
          have R : Hid (Wg al S h ws ∧ AW w Ps Ph wr al h ws (.slice qa n ca) al u15 (al.take h.toNat) (.slice none 0 0) [] F) := ⟨hW, hA⟩
          have hi0 : (0 : Int) ≤ (i : Int) := by omega
          obtain ⟨qh, ch, eqh⟩ := own_form R.out.2.d
          obtain ⟨m, em⟩ : ∃ m, m = (al.take h.toNat).length := ⟨_, rfl⟩
          rw [← em] at eqh
          subst eqh
          have HM : Hid ((al.take h.toNat).length = m) := em.symm
          have hm30 : m ≤ 30 := by rw [em, List.length_take]; have := HN.out; omega
          clear hW hA em
          by_cases hlt : i < len1
          · obtain ⟨g1, of1, rfl, hg1, hcs⟩ := HV.out.2.2 (by omega)
            have x0 := (R.out.2.bel.cell (p := ⟨g1, of1 + i, none⟩) hg1).trans (hcs i hlt)
            obtain ⟨k, ek⟩ : ∃ k, k = ys.getD i 0 := ⟨_, rfl⟩
            rw [← ek] at x0
            have hil' : (i : Int) < (len1 : Int) := by omega
            clear hcs ek
            by_cases k1 : k < 1
            · go_wp2
              go_roundw
              case rel => exact ⟨i + 1, by omega, by go_num, hR⟩
              case measure => simp [intOf]; omega
            · have e1 : decide (k < 1) = false := decide_eq_false k1
              by_cases k2 : (n : Int) < k
              · go_wp2
                go_roundw
                case rel => exact ⟨i + 1, by omega, by go_num, hR⟩
                case measure => simp [intOf]; omega
              · obtain ⟨kk, rfl⟩ : ∃ kk : Nat, k = ((kk + 1 : Nat) : Int) := ⟨k.toNat - 1, by omega⟩
                have hkn : kk < n := by omega
                have T := R.out.1.take HN.out.2 (k := ((kk + 1 : Nat) : Int)) (by omega) (by have := HN.out.1; omega)
                have ew : wd al ((kk + 1 : Nat) : Int) = al.getD kk 0 := rfl
                obtain ⟨x, ex⟩ : ∃ x, x = wd al ((kk + 1 : Nat) : Int) := ⟨_, rfl⟩
                rw [← ex] at T ew
                obtain ⟨qa', ca', eqa', hva⟩ := own_vw (R.out.2.a.row HN.out.1.symm)
                cases eqa'
                obtain ⟨ga, ofa, rfl, hga, hca⟩ := hva.2 (by omega)
                have y0 := hca kk hkn
                rw [← ew] at y0
                have hk0 : (0 : Int) ≤ (kk : Int) := by omega
                have hkn' : (kk : Int) < (n : Int) := by omega
                have es : ((kk + 1 : Nat) : Int) = (kk : Int) + 1 := by omega
                rw [es] at x0 T
                have k2' : ¬ (n : Int) < (kk : Int) + 1 := by omega
                have k1' : ¬ (kk : Int) + 1 < 1 := by omega
                have TT : Hid _ := T
                clear T ew ex hva hca hR k1 k2 e1 es
                obtain ⟨o, h', ws', er⟩ : ∃ o h' ws', hrT h ws ((kk : Int) + 1) x = (o, h', ws') := ⟨_, _, _, rfl⟩
                go_wp2_with fail
                refine (takeH w.heap.size Ph h ws (F 1) ((kk : Int) + 1) x wr R.out.2.h R.out.1.inv R.out.2.bel.size).mono ?_
                rintro e w6 ⟨v6, f6, rfl, ho6, hH6, hb6, hk6, hn6, ha6⟩
                rw [TT.out.1, errF_ok]
                rw [er] at ho6 hH6
                have G7 : Hid (Wg al (fun j => S j || decide (j = (kk : Int) + 1)) h' ws' ∧ al.take h.toNat ++ o = al.take h'.toNat ∧ o.length ≤ 30) := by
                  have t := TT.out.2
                  rw [er] at t
                  exact t
                have A6 : Hid (AW w Ps Ph w6 al h' ws' (.slice (some ⟨ga, ofa, none⟩) n ca) al (.slice qh m ch) (al.take h.toNat) (.slice none 0 0) [] (setF F 1 f6)) := R.out.2.hear hH6 hb6 hk6 hn6
                have OD : Hid (w6.ownsRow w.heap.size 3 1 (.slice qh m ch) m ((al.take h.toNat).map (Value.int .i64))) := A6.out.d.row HM.out
                clear TT
                rcases o with _ | ⟨o0, o⟩
                · obtain ⟨q6, c6, rfl⟩ := own_form ho6
                  have A7 : Hid (AW w Ps Ph w6 al h' ws' (.slice (some ⟨ga, ofa, none⟩) n ca) al (.slice qh m ch) (al.take h'.toNat) (.slice none 0 0) [] (setF F 1 f6)) := by
                    have e := G7.out.2.1
                    rw [List.append_nil] at e
                    rw [← e]
                    exact A6.out
                  clear ho6 hH6 hb6 hk6 hn6 ha6 x0
                  go_wp2_with (at_builtin; refine wpList_append_zero rfl _ _ 30 rfl w.heap.size 3 ii 1 Try.underlying30 HJ.out.1 (.slice qh m ch) m ((al.take h.toNat).map (Value.int .i64)) rfl OD.out q6 c6 rfl ?_)
                  go_roundw
                  case rel => exact ⟨i + 1, by omega, by go_num, _, h', ws', _, G7.out.1, A7.out⟩
                  case measure => simp [intOf]; omega
                · obtain ⟨ml, eml⟩ : ∃ ml, ml = (o0 :: o).length := ⟨_, rfl⟩
                  have hml : ml ≤ 30 := by rw [eml]; exact G7.out.2.2
                  have hml0 : 0 < ml := by rw [eml]; simp
                  rcases ho6.2 with ⟨rfl, e0⟩ | ⟨g6, c6, cur, rfl, hb0, hh, hcv, hmv, hsz, htk⟩
                  · simp at e0
                  · have CS : Hid (((o0 :: o).map (Value.int .i64)).length = ml * 1 ∧ ∀ j u, ((o0 :: o).map (Value.int .i64))[j]? = some u → w6.cell? ((⟨g6, 0, none⟩ : Addr).add j) = some u) := by
                      refine ⟨by rw [eml]; simp, fun j u hj => ?_⟩
                      rw [Addr.add_lit, Nat.zero_add]
                      have hl := (List.getElem?_eq_some_iff.1 hj).1
                      rw [ho6.1] at hl
                      rw [← htk, List.getElem?_take_of_lt hl] at hj
                      simp only [World.cell?, hh]
                      simpa using hj
                    have EL : Hid (m + ml = (al.take h'.toNat).length) := by
                      have e := congrArg List.length G7.out.2.1
                      rw [List.length_append, HM.out, ← eml] at e
                      exact e
                    rw [← eml]
                    clear ho6 hH6 hb6 hk6 hn6 ha6 x0 hb0 hh hcv hmv hsz htk eml
                    go_wp2_with (at_builtin; refine wpList_append_lies _ rfl _ _ 30 rfl w.heap.size 3 ii (.int .i64 0) 1 8 Try.underlying30 HJ.out.1 HJ.out.2.1 HJ.out.2.2.1 HJ.out.2.2.2 rfl (by decide) (.slice qh m ch) m ((al.take h.toNat).map (Value.int .i64)) rfl OD.out ⟨g6, 0, none⟩ ml c6 ((o0 :: o).map (Value.int .i64)) rfl CS.out.1 CS.out.2 (fun u hu => by obtain ⟨z, _, rfl⟩ := List.mem_map.1 hu; rfl) hml0 (by unfold maxLen; omega) (by omega) A6.out.bel.size w6.heap.size rfl ?_; intro gg gc w7 hown hgrow hat _; have A7 : Hid (AW w Ps Ph w7 al h' ws' (.slice (some ⟨ga, ofa, none⟩) n ca) al (.slice (some ⟨gg, 0, none⟩) (m + ml) gc) (al.take h'.toNat) (.slice none 0 0) [] (setF (setF F 1 f6) 3 (Value.slice (some ⟨gg, 0, none⟩) (m + ml) gc).ownBlock.toList)) := A6.out.rowD hgrow (Ow.of (n := m + ml) (by rw [← G7.out.2.1, List.map_append]; exact hown) EL.out.symm) (atA hat (Nat.le_refl _)); clear hown hgrow hat)
                    go_roundw
                    case rel => exact ⟨i + 1, by omega, by go_num, _, h', ws', _, G7.out.1, A7.out⟩
                    case measure => simp [intOf]; omega
          · have hkn : i = len1 := by omega
            subst hkn
            have LK := R.out.1.lacks HN.out.2.1
            rw [← HN.out.1] at LK
            have HK : Hid _ := LK
            clear LK hR
            go_wp2_with fail
            refine (lacksH w.heap.size Ph h ws (F 1) (n : Int) wr R.out.2.h R.out.1.inv).mono ?_
            rintro e w6 ⟨v6, rfl, ho6, hb6⟩
            rw [HK.out.1, errF_ok]
            obtain ⟨l, el⟩ : ∃ l, l = lkL h ws (n : Int) := ⟨_, rfl⟩
            rw [← el] at ho6
            have HL : Hid (l.length ≤ 30 ∧ (∀ k ∈ l, 1 ≤ k ∧ k ≤ (n : Int)) ∧ ∀ k, 1 ≤ k → k ≤ (n : Int) → S k = true ∨ k ∈ l) := by rw [el]; exact HK.out.2
            have A6 : Hid (AW w Ps Ph w6 al h ws (.slice qa n ca) al (.slice qh m ch) (al.take h.toNat) v6 l (setF F 4 v6.ownBlock.toList)) := R.out.2.rowX hb6 ho6
            obtain ⟨ql, cl, rfl⟩ := own_form ho6
            obtain ⟨nl, enl⟩ : ∃ nl, nl = l.length := ⟨_, rfl⟩
            have hnl : nl ≤ 30 := by rw [enl]; exact HL.out.1
            rw [← enl] at A6 ⊢
            have ENL : Hid (l.length = nl) := enl.symm
            have GW : Hid (Wg al S h ws) := R.out.1
            clear ho6 hb6 el enl HK R HM hm30 hi0 hil hlt
            go_wp2
            go_loopw [15, 25] (fun vh x wr => ∃ i : Nat, i ≤ nl ∧ x = .int .i64 (i : Int) ∧ Hid (∃ h ws F, Wg al (seen S l i) h ws ∧ AW w Ps Ph wr al h ws (.slice qa n ca) al vh (al.take h.toNat) (.slice ql nl cl) l F)) (fun _ x _ => nl - (intOf x).toNat)
            case atStart => exact ⟨0, by omega, rfl, h, ws, _, GW.out.congr (seen_zero S l), A6.out⟩
            case round =>
              clear A6 GW
              obtain ⟨i, hil, rfl, hR⟩ := hrel
              obtain ⟨h, ws, F, hW, hA⟩ := hR.out
              have R : Hid (Wg al (seen S l i) h ws ∧ AW w Ps Ph wr al h ws (.slice qa n ca) al u15 (al.take h.toNat) (.slice ql nl cl) l F) := ⟨hW, hA⟩
              have hi0 : (0 : Int) ≤ (i : Int) := by omega
              obtain ⟨qh, ch, eqh⟩ := own_form R.out.2.d
              obtain ⟨m, em⟩ : ∃ m, m = (al.take h.toNat).length := ⟨_, rfl⟩
              rw [← em] at eqh
              subst eqh
              have HM : Hid ((al.take h.toNat).length = m) := em.symm
              have hm30 : m ≤ 30 := by rw [em, List.length_take]; have := HN.out; omega
              clear hW hA em hR
              by_cases hlt : i < nl
              · obtain ⟨ql', cl', el', hvl⟩ := own_vw (R.out.2.x.row ENL.out)
                cases el'
                obtain ⟨gl, ofl, rfl, hgl, hcl⟩ := hvl.2 (by omega)
                have x0 := hcl i hlt
                obtain ⟨k, ek⟩ : ∃ k, k = l.getD i 0 := ⟨_, rfl⟩
                rw [← ek] at x0
                have hkl : k ∈ l := by
                  have hl : i < l.length := by rw [ENL.out]; exact hlt
                  rw [ek, show l.getD i 0 = l[i] by simp [List.getD, hl]]
                  exact List.getElem_mem _
                have hk := HL.out.2.1 k hkl
                have T := R.out.1.take HN.out.2 hk.1 (by have := HN.out.1; omega)
                have QA := ask_ok (said := al) hk.1 (by have := HN.out.1; omega)
                obtain ⟨x, ex⟩ : ∃ x, x = wd al k := ⟨_, rfl⟩
                rw [← ex] at T QA
                have hil' : (i : Int) < (nl : Int) := by omega
                have TT : Hid ((hrC h ws k x = 0 ∧ Wg al (seen S l (i + 1)) (hrT h ws k x).2.1 (hrT h ws k x).2.2 ∧ al.take h.toNat ++ (hrT h ws k x).1 = al.take (hrT h ws k x).2.1.toNat ∧ (hrT h ws k x).1.length ≤ 30)) := ⟨T.1, T.2.1.congr fun j => by rw [seen_succ S l (by rw [ENL.out]; exact hlt), ek], T.2.2.1, T.2.2.2⟩
                have HQ : Hid _ := QA
                have HG : Hid (gl < wr.heap.size ∧ wr.cell? ⟨gl, ofl + i, none⟩ = some (.int .i64 k)) := ⟨hgl, x0⟩
                clear hvl hcl hkl ek hk T ex QA hgl
                go_wp2_with fail
                refine (askS w.heap.size Ps al 0 (F 0) k wr R.out.2.s (HN.out.2.inv (by omega)) (by have := HN.out.2.1; omega)).mono ?_
                rintro e w5 ⟨rfl, hb5⟩
                rw [HQ.out.1, HQ.out.2, errF_ok]
                have A5 : Hid (AW w Ps Ph w5 al h ws (.slice qa n ca) al (.slice qh m ch) (al.take h.toNat) (.slice (some ⟨gl, ofl, none⟩) nl cl) l F) := R.out.2.still hb5
                have GI : Hid (HInv h ws) := R.out.1.inv
                have x5 := (hb5.cell (p := ⟨gl, ofl + i, none⟩) HG.out.1).trans HG.out.2
                clear hb5 x0 R
                obtain ⟨o, h', ws', er⟩ : ∃ o h' ws', hrT h ws k x = (o, h', ws') := ⟨_, _, _, rfl⟩
                go_wp2_with fail
                refine (takeH w.heap.size Ph h ws (F 1) k x w5 A5.out.h GI.out A5.out.bel.size).mono ?_
                rintro e w6 ⟨v6, f6, rfl, ho6, hH6, hb6, hk6, hn6, ha6⟩
                rw [TT.out.1, errF_ok]
                rw [er] at ho6 hH6
                have x0 := x5
                clear x5
                have G7 : Hid (Wg al (seen S l (i + 1)) h' ws' ∧ al.take h.toNat ++ o = al.take h'.toNat ∧ o.length ≤ 30) := by
                  have t := TT.out.2
                  rw [er] at t
                  exact t
                have A6 : Hid (AW w Ps Ph w6 al h' ws' (.slice qa n ca) al (.slice qh m ch) (al.take h.toNat) (.slice (some ⟨gl, ofl, none⟩) nl cl) l (setF F 1 f6)) := A5.out.hear hH6 hb6 hk6 hn6
                have OD : Hid (w6.ownsRow w.heap.size 3 1 (.slice qh m ch) m ((al.take h.toNat).map (Value.int .i64))) := A6.out.d.row HM.out
                clear TT
                rcases o with _ | ⟨o0, o⟩
                · obtain ⟨q6, c6, rfl⟩ := own_form ho6
                  have A7 : Hid (AW w Ps Ph w6 al h' ws' (.slice qa n ca) al (.slice qh m ch) (al.take h'.toNat) (.slice (some ⟨gl, ofl, none⟩) nl cl) l (setF F 1 f6)) := by
                    have e := G7.out.2.1
                    rw [List.append_nil] at e
                    rw [← e]
                    exact A6.out
                  clear ho6 hH6 hb6 hk6 hn6 ha6 x0
                  go_wp2_with (at_builtin; refine wpList_append_zero rfl _ _ 30 rfl w.heap.size 3 ii 1 Try.underlying30 HJ.out.1 (.slice qh m ch) m ((al.take h.toNat).map (Value.int .i64)) rfl OD.out q6 c6 rfl ?_)
                  go_roundw
                  case rel => exact ⟨i + 1, by omega, by go_num, h', ws', _, G7.out.1, A7.out⟩
                  case measure => simp [intOf]; omega
                · obtain ⟨ml, eml⟩ : ∃ ml, ml = (o0 :: o).length := ⟨_, rfl⟩
                  have hml : ml ≤ 30 := by rw [eml]; exact G7.out.2.2
                  have hml0 : 0 < ml := by rw [eml]; simp
                  rcases ho6.2 with ⟨rfl, e0⟩ | ⟨g6, c6, cur, rfl, hb0, hh, hcv, hmv, hsz, htk⟩
                  · simp at e0
                  · have CS : Hid (((o0 :: o).map (Value.int .i64)).length = ml * 1 ∧ ∀ j u, ((o0 :: o).map (Value.int .i64))[j]? = some u → w6.cell? ((⟨g6, 0, none⟩ : Addr).add j) = some u) := by
                      refine ⟨by rw [eml]; simp, fun j u hj => ?_⟩
                      rw [Addr.add_lit, Nat.zero_add]
                      have hl := (List.getElem?_eq_some_iff.1 hj).1
                      rw [ho6.1] at hl
                      rw [← htk, List.getElem?_take_of_lt hl] at hj
                      simp only [World.cell?, hh]
                      simpa using hj
                    have EL : Hid (m + ml = (al.take h'.toNat).length) := by
                      have e := congrArg List.length G7.out.2.1
                      rw [List.length_append, HM.out, ← eml] at e
                      exact e
                    rw [← eml]
                    clear ho6 hH6 hb6 hk6 hn6 ha6 x0 hb0 hh hcv hmv hsz htk eml
                    go_wp2_with (at_builtin; refine wpList_append_lies _ rfl _ _ 30 rfl w.heap.size 3 ii (.int .i64 0) 1 8 Try.underlying30 HJ.out.1 HJ.out.2.1 HJ.out.2.2.1 HJ.out.2.2.2 rfl (by decide) (.slice qh m ch) m ((al.take h.toNat).map (Value.int .i64)) rfl OD.out ⟨g6, 0, none⟩ ml c6 ((o0 :: o).map (Value.int .i64)) rfl CS.out.1 CS.out.2 (fun u hu => by obtain ⟨z, _, rfl⟩ := List.mem_map.1 hu; rfl) hml0 (by unfold maxLen; omega) (by omega) A6.out.bel.size w6.heap.size rfl ?_; intro gg gc w7 hown hgrow hat _; have A7 : Hid (AW w Ps Ph w7 al h' ws' (.slice qa n ca) al (.slice (some ⟨gg, 0, none⟩) (m + ml) gc) (al.take h'.toNat) (.slice (some ⟨gl, ofl, none⟩) nl cl) l (setF (setF F 1 f6) 3 (Value.slice (some ⟨gg, 0, none⟩) (m + ml) gc).ownBlock.toList)) := A6.out.rowD hgrow (Ow.of (n := m + ml) (by rw [← G7.out.2.1, List.map_append]; exact hown) EL.out.symm) (atA hat (Nat.le_refl _)); clear hown hgrow hat)
                    go_roundw
                    case rel => exact ⟨i + 1, by omega, by go_num, h', ws', _, G7.out.1, A7.out⟩
                    case measure => simp [intOf]; omega
              · have hkn : i = nl := by omega
                subst hkn
                have hd : al.take h.toNat = al := R.out.1.all fun k h1 h2 => by
                  have := HL.out.2.2 k h1 (by have := HN.out.1; omega)
                  rw [← ENL.out, seen_all]
                  simpa using this
                have HD : Hid (al.take h.toNat = al) := hd
                have OD := R.out.2.d.row HM.out
                rw [hd] at OD
                obtain ⟨qd, cd, ed, hvd⟩ := own_vw OD
                cases ed
                obtain ⟨qa', ca', ea, hva⟩ := own_vw (R.out.2.a.row HN.out.1.symm)
                cases ea
                have HVV : Hid (Vw wr qh m al ∧ Vw wr qa n al) := ⟨hvd, hva⟩
                have S6 : Hid (SS wr w.heap.size Ps al 0 (F 0) ∧ Below w.heap.size w wr) := ⟨R.out.2.s, R.out.2.bel⟩
                clear OD hvd hva R hd HM HL ENL HD
                go_wp2_with fail
                refine (ints_any qh qa m ch n ca al al wr HVV.out.1 HVV.out.2 (by unfold maxLen; omega)).mono ?_
                rintro e w7 ⟨rfl, nd, hw7⟩
                rw [decide_eq_true rfl]
                have S7 : Hid (SS w7 w.heap.size Ps al 0 (F 0) ∧ Below w.heap.size w w7) := by
                  rw [hw7]
                  have b : Below wr.heap.size wr (wr.drewN nd) := below_drewsA (Below.refl _ _) nd
                  exact ⟨S6.out.1.of_blocks b.size fun b' hb' => b.block b' (S6.out.1.fp b' hb').2, S6.out.2.trans (b.mono S6.out.2.size)⟩
                clear hw7 S6 HVV
                go_wp2_with fail
                refine (freeS w.heap.size Ps al 0 (F 0) free w7 S7.out.1 (HN.out.2.inv (by omega)) (by have := HN.out.2.1; omega) S7.out.2.size).mono ?_
                rintro e w8 ⟨f8, rfl, hS8, hb8, -, -⟩
                obtain ⟨fr, efr⟩ : ∃ fr, fr = freN al 0 free := ⟨_, rfl⟩
                rw [← efr] at hS8
                have S8 : Hid (SS w8 w.heap.size Ps al fr f8 ∧ Below w.heap.size w w8) := ⟨hS8, S7.out.2.trans hb8⟩
                clear hS8 hb8 S7
                by_cases hf0 : free < 0
                · rw [show freC al free = 1 from if_pos (.inl hf0), errF_no (by decide)]
                  have df : decide (free < 0) = true := decide_eq_true hf0
                  go_wp2
                  go_ret
                  exact ⟨rfl, S8.out.2⟩
                · have df : decide (free < 0) = false := decide_eq_false hf0
                  by_cases hfn : (n : Int) < free
                  · rw [show freC al free = 1 from if_pos (.inr (by have := HN.out.1; omega)), errF_no (by decide)]
                    have df2 : decide (free > (n : Int)) = true := decide_eq_true hfn
                    go_wp2
                    go_ret
                    exact ⟨rfl, S8.out.2⟩
                  · have ec : freC al free = 0 := if_neg (by have := HN.out.1; omega)
                    have HF : Hid ((fr : Int) = free ∧ fr ≤ al.length) := by
                      have := HN.out.1
                      rw [efr]
                      unfold freN
                      rw [ec]
                      split
                      · exact ⟨by omega, by omega⟩
                      · exact ⟨by omega, by omega⟩
                    rw [ec, errF_ok]
                    clear efr ec
                    go_wp2
                    go_loopw [30] (fun x wr => ∃ k : Nat, k ≤ n ∧ x = .int .i64 ((k : Int) + 1) ∧ Hid (SS wr w.heap.size Ps al fr f8 ∧ Below w.heap.size w wr)) (fun x _ => n + 1 - (intOf x).toNat)
                    case atStart => exact ⟨0, by omega, rfl, S8.out⟩
                    case round =>
                      clear S8
                      obtain ⟨k, hkn, rfl, hR⟩ := hrel
                      have hk0 : (0 : Int) ≤ (k : Int) := by omega
                      by_cases hlt : k < n
                      · have hlt' : (k : Int) + 1 ≤ (n : Int) := by omega
                        by_cases hkf : free < (k : Int) + 1
                        · have ea : askC al fr ((k : Int) + 1) = 0 := by
                            have := HN.out.1
                            have := HF.out.1
                            unfold askC
                            rw [if_neg (by omega), if_neg (by omega)]
                          have EA : Hid _ := ea
                          have dk : decide ((k : Int) + 1 > free) = true := decide_eq_true hkf
                          clear ea
                          go_wp2_with fail
                          refine (askS w.heap.size Ps al fr f8 ((k : Int) + 1) wr hR.out.1 (HN.out.2.inv HF.out.2) (by have := HN.out.2.1; omega)).mono ?_
                          rintro e w9 ⟨rfl, hb9⟩
                          rw [EA.out, errF_ok]
                          have S9 : Hid (SS w9 w.heap.size Ps al fr f8 ∧ Below w.heap.size w w9) := ⟨hR.out.1.of_blocks hb9.size fun b' hb' => hb9.block b' (hR.out.1.fp b' hb').2, hR.out.2.trans (hb9.mono hR.out.2.size)⟩
                          clear hb9
                          go_wp2
                          go_roundw
                          case rel => exact ⟨k + 1, by omega, by go_num, S9.out⟩
                          case measure => simp [intOf]; omega
                        · have ea : askC al fr ((k : Int) + 1) = 5 := by
                            have := HN.out.1
                            have := HF.out.1
                            unfold askC
                            rw [if_neg (by omega), if_pos (by omega)]
                          have EA : Hid _ := ea
                          have dk : decide ((k : Int) + 1 > free) = false := decide_eq_false hkf
                          clear ea
                          go_wp2_with fail
                          refine (askS w.heap.size Ps al fr f8 ((k : Int) + 1) wr hR.out.1 (HN.out.2.inv HF.out.2) (by have := HN.out.2.1; omega)).mono ?_
                          rintro e w9 ⟨rfl, hb9⟩
                          rw [EA.out, errF_no (by decide)]
                          have S9 : Hid (SS w9 w.heap.size Ps al fr f8 ∧ Below w.heap.size w w9) := ⟨hR.out.1.of_blocks hb9.size fun b' hb' => hb9.block b' (hR.out.1.fp b' hb').2, hR.out.2.trans (hb9.mono hR.out.2.size)⟩
                          clear hb9
                          go_wp2
                          go_roundw
                          case rel => exact ⟨k + 1, by omega, by go_num, S9.out⟩
                          case measure => simp [intOf]; omega
                      · have hk : k = n := by omega
                        subst hk
                        go_wp2
                        go_ret
                        exact ⟨rfl, hR.out.2⟩
end Go.Proofs.Ytdhlfbpflngmbae.Aga
