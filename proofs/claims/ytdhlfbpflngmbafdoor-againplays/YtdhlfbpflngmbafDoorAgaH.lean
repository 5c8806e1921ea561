/-
  The Hearer: Take, Lacks.
-/
import Derived.Test.YtdhlfbpflngmbafDoorAgaG
namespace Go.Proofs.YtdhlfbpflngmbafDoor.Aga
open Go.RowKit Go.Maps
open Go.Proofs.YtdhlfbpflngmbafDoor.Fif (Cm fnd rm Uq run tkC tkC_ok bad fnd_some fnd_rm rm_uq rm_len run_stop run_go uq_snoc fnd_snoc own_lt own_block own_form own_mono Kp ret_bool info_int lenOf new_int int_one)
open Go.Proofs.YtdhlfbpflngmbafDoor.MapI (MM putT delT turned_below g_of_turned)
open Go.Proofs.YtdhlfbpflngmbafDoor.Sep (KpL NewL)
set_option linter.unusedVariables false

theorem bad_iff {n word : Int} : bad 0 n word = true ↔ (n < 1 ∨ 1000000 < n) ∨ (word < 1 ∨ 30 < word) := by
  simp [bad]
  omega
/-- nothing turns -/
theorem still {w w' : World} {base P mb : Nat} {h : Int} {ws : List Cm} (g : HF w base P mb h ws) (hb : Below w.heap.size w w') (hbw : base ≤ w.heap.size) : Ow w' w.heap.size (.slice none 0 0) [] ∧ HS w' base P h ws [P, mb] ∧ Below base w w' ∧ KpL w w' [P, mb] ∧ NewL w [P, mb] [P, mb] ∧ ∀ k, (Value.slice none 0 0).ownBlock = some k → k ∉ [P, mb] :=
  ⟨Ow.nil _ _, ⟨mb, rfl, g.later hb⟩, hb.mono hbw, ⟨hb.size, fun b hb' _ => hb.block b hb'⟩, NewL.refl _ _, fun k e => by cases e⟩
theorem take_bad (P : Nat) (n word : Int) (w : World) (hb : bad 0 n word = true) : Calls Tryd.prog 11 #[.pointer (some ⟨P, 0, none⟩), .int .i64 n, .int .i64 word] w fun x w' => x = .returned (.tuple #[.slice none 0 0, errF 1]) ∧ w' = w := by
  rw [errF_no (by decide)]
  have hb' := bad_iff.1 hb
  clear hb
  by_cases h1 : n < 1
  · go_enter Tryd.func11, Tryd.ntmps11
    go_wp2
    go_ret2
    exact ⟨rfl, rfl⟩
  · by_cases h2 : 1000000 < n
    · go_enter Tryd.func11, Tryd.ntmps11
      go_wp2
      go_ret2
      exact ⟨rfl, rfl⟩
    · have h3 : word < 1 ∨ 30 < word := by omega
      clear hb'
      go_enter Tryd.func11, Tryd.ntmps11
      go_wp2_with fail
      refine (word_no word w h3).mono ?_
      rintro e w ⟨rfl, rfl⟩
      go_wp2
      go_ret2
      exact ⟨rfl, rfl⟩
set_option maxRecDepth 100000 in
theorem take_old {w : World} {base P mb : Nat} {h : Int} {ws : List Cm} (g : HF w base P mb h ws) (n word : Int) (hn : 1 ≤ n ∧ n ≤ 1000000) (hw : 1 ≤ word ∧ word ≤ 30) (hc : ((fnd ws 0 n).isSome || decide (n < h + 1)) = true) : Calls Tryd.prog 11 #[.pointer (some ⟨P, 0, none⟩), .int .i64 n, .int .i64 word] w fun x w' => x = .returned (.tuple #[.slice none 0 0, .nilIface]) ∧ Below w.heap.size w w' := by
  have HG : Hid (HF w base P mb h ws ∧ ((fnd ws 0 n).isSome || decide (n < h + 1)) = true) := ⟨g, hc⟩
  have HW : Hid ((Lit.int .i64 n).wf = true) := wfI (by omega) (by omega)
  have n1 := hn.1
  have n2 := hn.2
  clear g hc
  go_enter Tryd.func11, Tryd.ntmps11
  go_wp2_with fail
  refine (word_yes word w hw.1 hw.2).mono ?_
  rintro e w ⟨rfl, rfl⟩
  go_wp2_with fail
  refine (came_any HG.out.1 n HW.out).mono ?_
  rintro e w2 ⟨rfl, hb⟩
  rw [HG.out.2]
  go_wp2
  go_ret2
  exact ⟨rfl, hb⟩
set_option maxRecDepth 100000 in
theorem take_full {w : World} {base P mb : Nat} {h : Int} {ws : List Cm} (g : HF w base P mb h ws) (n word : Int) (hn : 1 ≤ n ∧ n ≤ 1000000) (hw : 1 ≤ word ∧ word ≤ 30) (hc : ((fnd ws 0 n).isSome || decide (n < h + 1)) = false) (hl : ws.length ≤ 41) (h40 : 40 ≤ ws.length) (hne : n ≠ h + 1) : Calls Tryd.prog 11 #[.pointer (some ⟨P, 0, none⟩), .int .i64 n, .int .i64 word] w fun x w' => x = .returned (.tuple #[.slice none 0 0, errF 4]) ∧ Below w.heap.size w w' := by
  rw [errF_no (by decide)]
  have HG : Hid (HF w base P mb h ws ∧ ((fnd ws 0 n).isSome || decide (n < h + 1)) = false) := ⟨g, hc⟩
  have HW : Hid ((Lit.int .i64 n).wf = true) := wfI (by omega) (by omega)
  have n1 := hn.1
  have n2 := hn.2
  have d1 : (n == h + 1) = false := by simp [hne]
  have d2 : (n != h + 1) = true := by simp [hne]
  obtain ⟨ll, el⟩ : ∃ ll, ll = ws.length := ⟨_, rfl⟩
  have hl40 : (40 : Int) ≤ (ll : Int) := by omega
  have HL : Hid (ll = ws.length) := el
  clear g hc hne h40 el
  go_enter Tryd.func11, Tryd.ntmps11
  go_wp2_with fail
  refine (word_yes word w hw.1 hw.2).mono ?_
  rintro e w ⟨rfl, rfl⟩
  go_wp2_with fail
  refine (came_any HG.out.1 n HW.out).mono ?_
  rintro e w2 ⟨rfl, hb⟩
  rw [HG.out.2]
  have B2 : Hid _ := hb
  obtain ⟨c0, z0⟩ := (HG.out.1.later hb).c0
  obtain ⟨c1, z1⟩ := (HG.out.1.later hb).c1
  have hlen : (Builtin.len_ #[52] 3 #[.map (some mb)]).run Tryd.prog w2 = .ok (.int .i64 (ll : Nat)) w2 := by rw [HL.out]; exact (HG.out.1.later hb).map.len _ w2 rfl
  clear hb
  go_wp2
  go_ret2
  exact ⟨rfl, B2.out⟩
set_option maxRecDepth 100000 in
theorem take_new (base P mb : Nat) (h : Int) (ws : List Cm) (n word : Int) (w : World) (g : HF w base P mb h ws) (hi : HInv h ws) (hbw : base ≤ w.heap.size) (hc : tkC h ws 0 n word = 0) : Calls Tryd.prog 11 #[.pointer (some ⟨P, 0, none⟩), .int .i64 n, .int .i64 word] w fun x w' => ∃ v, x = .returned (.tuple #[v, .nilIface]) ∧ Ow w' w.heap.size v (run 0 h (ws ++ [(0, n, word)])).1 ∧ HF w' base P mb (run 0 h (ws ++ [(0, n, word)])).2.1 (run 0 h (ws ++ [(0, n, word)])).2.2 ∧ Below base w w' ∧ KpL w w' [P, mb] := by
  obtain ⟨hb, hlt, hf, h40⟩ := tkC_ok hc
  have hb' : ¬ ((n < 1 ∨ 1000000 < n) ∨ (word < 1 ∨ 30 < word)) := fun q => by rw [bad_iff.2 q] at hb; cases hb
  have HG : Hid (HF w base P mb h ws ∧ HInv h ws ∧ base ≤ w.heap.size ∧ fnd ws 0 n = none ∧ ((fnd ws 0 n).isSome || decide (n < h + 1)) = false) := ⟨g, hi, hbw, hf, by rw [hf, decide_eq_false (by omega)]; rfl⟩
  have HW : Hid ((Lit.int .i64 n).wf = true) := wfI (by omega) (by omega)
  have n1 : 1 ≤ n := by omega
  have n2 : n ≤ 1000000 := by omega
  have hx : 1 ≤ word ∧ word ≤ 30 := by omega
  obtain ⟨ll, el⟩ : ∃ ll, ll = ws.length := ⟨_, rfl⟩
  have HL : Hid (ll = ws.length) := el
  have hll : ll ≤ 40 := by rw [el]; exact hi.len
  have key : ll < 40 ∨ n = h + 1 := by omega
  clear g hi hbw hc hb hf hb' el h40
  go_enter Tryd.func11, Tryd.ntmps11
  go_wp2_with fail
  refine (word_yes word w hx.1 hx.2).mono ?_
  rintro e w ⟨rfl, rfl⟩
  go_wp2_with fail
  refine (came_any HG.out.1 n HW.out).mono ?_
  rintro e w1 ⟨rfl, hb⟩
  rw [HG.out.2.2.2.2]
  have B1 : Hid (Below w.heap.size w w1) := hb
  have G1 : Hid (HF w1 base P mb h ws) := HG.out.1.later hb
  obtain ⟨c0, z0⟩ := G1.out.c0
  obtain ⟨c1, z1⟩ := G1.out.c1
  have hlen : (Builtin.len_ #[52] 3 #[.map (some mb)]).run Tryd.prog w1 = .ok (.int .i64 (ll : Nat)) w1 := by rw [HL.out]; exact G1.out.map.len _ w1 rfl
  obtain ⟨w2, e2, g2, t2⟩ := G1.out.put HW.out word (by have := HL.out; omega)
  have G2 : Hid (HF w2 base P mb h (ws ++ [(0, n, word)]) ∧ w1.mapTurned w2 mb) := by
    refine ⟨g2.congr (wt_put word HG.out.2.2.2.1) ?_, t2⟩
    have e : wt ws n = none := HG.out.2.2.2.1
    rw [e]
    simp
  clear hb g2 t2
  have KB : Hid (Below base w w2 ∧ KpL w w2 [P, mb] ∧ w.heap.size ≤ w2.heap.size ∧ Uq (ws ++ [(0, n, word)]) ∧ ∀ c ∈ ws ++ [(0, n, word)], c.2.1 ≤ 1000000) := by
    refine ⟨(B1.out.mono HG.out.2.2.1).trans (turned_below G2.out.2 G2.out.1.low.2), kp2_trans (KpL.below B1.out _) (kp2_turned G2.out.2), Nat.le_trans B1.out.size G2.out.2.grown.size, uq_snoc HG.out.2.1.uq word HG.out.2.2.2.1, fun c hc => ?_⟩
    rcases List.mem_append.1 hc with a | a
    · exact (HG.out.2.1.own c a).2.1.2
    · rw [List.mem_singleton.1 a]; exact n2
  rcases Nat.lt_or_ge ll 40 with k | k
  · have hk : ¬ (40 : Int) ≤ (ll : Int) := by omega
    clear key
    go_wp2_with fail
    refine (hear_any base P mb h (ws ++ [(0, n, word)]) w2 G2.out.1 KB.out.2.2.2.1 ⟨HG.out.2.1.low, HG.out.2.1.high⟩ KB.out.2.2.2.2 (by have := HL.out; rw [List.length_append]; simp; omega) (Nat.le_trans HG.out.2.2.1 KB.out.2.2.1)).mono ?_
    rintro e w3 ⟨vo, rfl, hF, hO, hB, hK⟩
    have R3 : Hid _ := And.intro hF (And.intro hO (And.intro hB hK))
    clear hF hO hB hK
    go_wp2
    go_ret2
    exact ⟨_, rfl, own_mono R3.out.2.1 KB.out.2.2.1, R3.out.1, KB.out.1.trans R3.out.2.2.1, kp2_trans KB.out.2.1 R3.out.2.2.2⟩
  · have hk : (40 : Int) ≤ (ll : Int) := by omega
    have d1 : (n == h + 1) = true := by simp; omega
    have d2 : (n != h + 1) = false := by simp; omega
    clear key
    go_wp2_with fail
    refine (hear_any base P mb h (ws ++ [(0, n, word)]) w2 G2.out.1 KB.out.2.2.2.1 ⟨HG.out.2.1.low, HG.out.2.1.high⟩ KB.out.2.2.2.2 (by have := HL.out; rw [List.length_append]; simp; omega) (Nat.le_trans HG.out.2.2.1 KB.out.2.2.1)).mono ?_
    rintro e w3 ⟨vo, rfl, hF, hO, hB, hK⟩
    have R3 : Hid _ := And.intro hF (And.intro hO (And.intro hB hK))
    clear hF hO hB hK
    go_wp2
    go_ret2
    exact ⟨_, rfl, own_mono R3.out.2.1 KB.out.2.2.1, R3.out.1, KB.out.1.trans R3.out.2.2.1, kp2_trans KB.out.2.1 R3.out.2.2.2⟩
theorem takeH (base P : Nat) (h : Int) (ws : List Cm) (fp : List Nat) (n word : Int) (w : World) (g : HS w base P h ws fp) (hi : HInv h ws) (hbw : base ≤ w.heap.size) : Calls Tryd.prog 11 #[.pointer (some ⟨P, 0, none⟩), .int .i64 n, .int .i64 word] w fun x w' => ∃ v fp', x = .returned (.tuple #[v, errF (hrC h ws n word)]) ∧ Ow w' w.heap.size v (hrT h ws n word).1 ∧ HS w' base P (hrT h ws n word).2.1 (hrT h ws n word).2.2 fp' ∧ Below base w w' ∧ KpL w w' fp ∧ NewL w fp fp' ∧ ∀ k, v.ownBlock = some k → k ∉ fp' := by
  obtain ⟨mb, rfl, g⟩ := g
  by_cases hc : tkC h ws 0 n word = 0
  · have e0 : hrC h ws n word = 0 := by unfold hrC; rw [hc]; rfl
    rw [hrT_ok hc, e0, errF_ok]
    refine (take_new base P mb h ws n word w g hi hbw hc).mono ?_
    rintro x w' ⟨v, rfl, ho, hf, hb, hk⟩
    refine ⟨v, _, rfl, ho, ⟨mb, rfl, hf⟩, hb, hk, NewL.refl _ _, fun k e => ?_⟩
    have := (own_lt ho k e).1
    have := g.lt
    simp only [List.mem_cons, List.not_mem_nil, or_false, not_or]
    omega
  · rw [hrT_no hc]
    by_cases hb : bad 0 n word = true
    · have e1 : hrC h ws n word = 1 := by unfold hrC tkC; rw [if_pos hb]; rfl
      rw [e1]
      refine (take_bad P n word w hb).mono ?_
      rintro x w' ⟨rfl, rfl⟩
      exact ⟨_, _, rfl, still g (Below.refl _ _) hbw⟩
    · have hb' : ¬ ((n < 1 ∨ 1000000 < n) ∨ (word < 1 ∨ 30 < word)) := fun q => hb (bad_iff.2 q)
      cases hq : ((fnd ws 0 n).isSome || decide (n < h + 1))
      · have q1 : (fnd ws 0 n).isSome = false := by
          cases q : (fnd ws 0 n).isSome
          · rfl
          · rw [q] at hq; cases hq
        have q2 : ¬ n < h + 1 := by
          intro q
          rw [decide_eq_true q] at hq
          simp at hq
        have q3 : h + 1 < n ∧ 40 ≤ ws.length := by
          refine Decidable.byContradiction fun q => hc ?_
          unfold tkC
          rw [if_neg hb, if_neg (by omega), if_neg (by rw [q1]; decide), if_neg q]
        have e4 : hrC h ws n word = 4 := by
          have e : tkC h ws 0 n word = 4 := by
            unfold tkC
            rw [if_neg hb, if_neg (by omega), if_neg (by rw [q1]; decide), if_pos q3]
          unfold hrC
          rw [e]
          rfl
        rw [e4]
        refine (take_full g n word (by omega) (by omega) hq (by have := hi.len; omega) q3.2 (by omega)).mono ?_
        rintro x w' ⟨rfl, hb2⟩
        exact ⟨_, _, rfl, still g hb2 hbw⟩
      · have e0 : hrC h ws n word = 0 := by
          have e7 : tkC h ws 0 n word = 7 := by
            unfold tkC
            rw [if_neg hb]
            by_cases q : n ≤ h
            · rw [if_pos q]
            · rw [if_neg q, if_pos]
              rw [decide_eq_false (show ¬ n < h + 1 by omega), Bool.or_false] at hq
              exact hq
          unfold hrC
          rw [if_pos e7]
        rw [e0, errF_ok]
        refine (take_old g n word (by omega) (by omega) hq).mono ?_
        rintro x w' ⟨rfl, hb2⟩
        exact ⟨_, _, rfl, still g hb2 hbw⟩
theorem own_push {w w' : World} {base : Nat} {ob : Obj} {t : TypeId} {s n : Nat} {v : Value} {xs : List Value} (o : w.ownsRow base t s v n xs) (e : w'.heap = w.heap.push ob) : w'.ownsRow base t s v n xs := own_block o fun k hk => by
  rw [e, Array.getElem?_push_lt (own_lt o k hk).2, Array.getElem?_eq_getElem (own_lt o k hk).2]
theorem lacks_no (P : Nat) (upTo : Int) (w : World) (hb : upTo < 0 ∨ 1000000 < upTo) : Calls Tryd.prog 13 #[.pointer (some ⟨P, 0, none⟩), .int .i64 upTo] w fun x w' => x = .returned (.tuple #[.slice none 0 0, errF 1]) ∧ w' = w := by
  rw [errF_no (by decide)]
  by_cases h1 : upTo < 0
  · clear hb
    go_enter Tryd.func13, Tryd.ntmps13
    go_wp2
    go_ret2
    exact ⟨rfl, rfl⟩
  · have h2 : 1000000 < upTo := by omega
    clear hb
    go_enter Tryd.func13, Tryd.ntmps13
    go_wp2
    go_ret2
    exact ⟨rfl, rfl⟩
set_option maxRecDepth 100000 in
set_option maxHeartbeats 1000000 in
theorem lacks_ok (base P mb : Nat) (h : Int) (ws : List Cm) (upTo : Int) (w : World) (g : HF w base P mb h ws) (hi : HInv h ws) (h0 : 0 ≤ upTo) (h1 : upTo ≤ 1000000) : Calls Tryd.prog 13 #[.pointer (some ⟨P, 0, none⟩), .int .i64 upTo] w fun x w' => ∃ v, x = .returned (.tuple #[v, .nilIface]) ∧ Ow w' w.heap.size v (lkL h ws upTo) ∧ Below w.heap.size w w' := by
  have HG : Hid (HF w base P mb h ws ∧ HInv h ws) := ⟨g, hi⟩
  have hh0 := hi.low
  have hh1 := hi.high
  obtain ⟨c0, z0⟩ := g.c0
  obtain ⟨ii, hii, hz0, hz1, hz2⟩ := info_int
  have HJ : Hid (Tryd.prog.info? 3 = some ii ∧ ii.zero = some (.int .i64 0) ∧ ii.size = 1 ∧ ii.bytes = 8) := ⟨hii, hz0, hz1, hz2⟩
  have hlk : lkC upTo = 0 := if_neg (by omega)
  have HK : Hid (lkC upTo = 0) := hlk
  clear g hi hii hz0 hz1 hz2 hlk
  go_enter Tryd.func13, Tryd.ntmps13
  go_wp2
  go_loopw [6, 7] (fun y x wr => ∃ k : Nat, (k : Int) ≤ 1000001 ∧ (k = 0 ∨ k ≤ (upTo - h).toNat) ∧ x = .int .i64 (h + 1 + (k : Int)) ∧ Hid (wr.ownsRow w.heap.size 3 1 y (lkN h ws k).length ((lkN h ws k).map (Value.int .i64)) ∧ (lkN h ws k).length ≤ 40 ∧ Below w.heap.size w wr)) (fun _ x _ => ((upTo + 1) - intOf x).toNat)
  case atStart => exact ⟨0, by omega, .inl rfl, by go_num, World.ownsRow_nil _ _ _ _, by simp [lkN], Below.refl _ _⟩
  case round =>
    obtain ⟨k, hkm, hk, rfl, hQ⟩ := hrel
    obtain ⟨q, cap, rfl⟩ := own_form hQ.out.1
    obtain ⟨ll, el⟩ : ∃ ll, ll = (lkN h ws k).length := ⟨_, rfl⟩
    have HL : Hid (ll = (lkN h ws k).length) := el
    have hl40 : ll ≤ 40 := by rw [el]; exact hQ.out.2.1
    have O1 : Hid (wr.ownsRow w.heap.size 3 1 (.slice q ll cap) ll ((lkN h ws k).map (Value.int .i64)) ∧ Below w.heap.size w wr) := by rw [el]; exact ⟨hQ.out.1, hQ.out.2.2⟩
    rw [← el]
    clear el hQ
    by_cases hlt : h + 1 + (k : Int) ≤ upTo
    · have hk' : k < (upTo - h).toNat := by omega
      by_cases hll : (ll : Int) < 40
      · have HW : Hid ((Lit.int .i64 (h + 1 + (k : Int))).wf = true) := wfI (by omega) (by omega)
        go_wp2_with fail
        refine (came_any (HG.out.1.later O1.out.2) (h + 1 + (k : Int)) HW.out).mono ?_
        rintro e w2 ⟨rfl, hb2⟩
        rw [decide_eq_false (show ¬ h + 1 + (k : Int) < h + 1 by omega), Bool.or_false]
        have B2 : Hid (Below w.heap.size w w2) := O1.out.2.trans (hb2.mono O1.out.2.size)
        have O2 : Hid (w2.ownsRow w.heap.size 3 1 (.slice q ll cap) ll ((lkN h ws k).map (Value.int .i64))) := own_block O1.out.1 fun b hb => hb2.block b (own_lt O1.out.1 b hb).2
        clear hb2
        cases hf : fnd ws 0 (h + 1 + (k : Int)) with
        | some x =>
          simp only [Option.isSome_some]
          have HT : Hid (fnd ws 0 (h + 1 + (k : Int)) = some x) := hf
          clear hf
          go_wp2
          go_roundw
          case rel =>
            have e : lkN h ws (k + 1) = lkN h ws k := by rw [lkN_succ, HT.out]; simp
            refine ⟨k + 1, by omega, .inr (by omega), by go_num, ?_⟩
            rw [e, ← HL.out]
            exact ⟨O2.out, hl40, B2.out⟩
          case measure => simp [intOf]; omega
        | none =>
          simp only [Option.isSome_none]
          have HT : Hid (fnd ws 0 (h + 1 + (k : Int)) = none) := hf
          clear hf
          go_wp2_with (at_builtin; refine wpList_append_lies _ rfl _ _ 28 rfl w.heap.size 3 ii (.int .i64 0) 1 8 Tryd.underlying28 HJ.out.1 HJ.out.2.1 HJ.out.2.2.1 HJ.out.2.2.2 rfl (by decide) (.slice q ll cap) ll ((lkN h ws k).map (Value.int .i64)) rfl (by exact own_push O2.out rfl) ⟨w2.heap.size, 0, none⟩ 1 1 [.int .i64 (h + 1 + (k : Int))] rfl rfl (by exact new_int w2 _ rfl _ _) (int_one _) (by omega) (by unfold maxLen; omega) (by omega) (by have := B2.out.size; simp; omega) (w2.heap.size + 1) (by simp) ?_; intro gg gc w5 hown hgrow hat _; have G5 : Hid ((w2.alloc (.cells #[.int .i64 (h + 1 + (k : Int))] 3)).grownBy w5 (Value.slice q ll cap).ownBlock) := hgrow; have O5 : Hid (w5.ownsRow w.heap.size 3 1 (.slice (some ⟨gg, 0, none⟩) (ll + 1) gc) (ll + 1) ((lkN h ws k).map (Value.int .i64) ++ [.int .i64 (h + 1 + (k : Int))])) := hown; clear hown hgrow hat)
          go_roundw
          case rel =>
            have e : lkN h ws (k + 1) = lkN h ws k ++ [h + 1 + (k : Int)] := by rw [lkN_succ, HT.out]; simp
            refine ⟨k + 1, by omega, .inr (by omega), by go_num, ?_⟩
            rw [e, List.length_append, List.map_append, ← HL.out]
            exact ⟨O5.out, by simp; omega, (B2.out.alloc B2.out.size _).grown G5.out (by have := B2.out.size; simp; omega) fun b hb => (own_lt O2.out b hb).1⟩
          case measure => simp [intOf]; omega
      · have e40 : ll = 40 := by omega
        have HE : Hid (lkL h ws upTo = lkN h ws k) := lk_end HK.out (by omega) (by rw [← HL.out]; exact hl40) (.inr (by rw [← HL.out]; exact e40))
        clear e40
        go_wp2
        go_ret2
        refine ⟨_, rfl, ?_, O1.out.2⟩
        rw [HE.out]
        show World.ownsRow _ _ _ _ _ _ _
        rw [← HL.out]
        exact O1.out.1
    · have HE : Hid (lkL h ws upTo = lkN h ws k) := by
        rcases hk with rfl | hk
        · exact lk_end HK.out (by omega) (by rw [← HL.out]; exact hl40) (.inl (by omega))
        · exact lk_end HK.out (by omega) (by rw [← HL.out]; exact hl40) (.inl (by omega))
      go_wp2
      go_ret2
      refine ⟨_, rfl, ?_, O1.out.2⟩
      rw [HE.out]
      show World.ownsRow _ _ _ _ _ _ _
      rw [← HL.out]
      exact O1.out.1
theorem lacksH (base P : Nat) (h : Int) (ws : List Cm) (fp : List Nat) (upTo : Int) (w : World) (g : HS w base P h ws fp) (hi : HInv h ws) : Calls Tryd.prog 13 #[.pointer (some ⟨P, 0, none⟩), .int .i64 upTo] w fun x w' => ∃ v, x = .returned (.tuple #[v, errF (lkC upTo)]) ∧ Ow w' w.heap.size v (lkL h ws upTo) ∧ Below w.heap.size w w' := by
  obtain ⟨mb, rfl, g⟩ := g
  by_cases hb : upTo < 0 ∨ 1000000 < upTo
  · have e1 : lkC upTo = 1 := if_pos hb
    have e2 : lkL h ws upTo = [] := by unfold lkL; rw [e1]; rfl
    rw [e1, e2]
    refine (lacks_no P upTo w hb).mono ?_
    rintro x w' ⟨rfl, rfl⟩
    exact ⟨_, rfl, Ow.nil _ _, Below.refl _ _⟩
  · have e1 : lkC upTo = 0 := if_neg hb
    rw [e1, errF_ok]
    exact lacks_ok base P mb h ws upTo w g hi (by omega) (by omega)
end Go.Proofs.YtdhlfbpflngmbafDoor.Aga
