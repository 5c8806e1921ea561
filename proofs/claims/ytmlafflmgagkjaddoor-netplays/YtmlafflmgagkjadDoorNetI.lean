/-
  Contracts of package net: Send, Drop, Twice, Give, Cut, All.
-/
import Derived.Test.YtmlafflmgagkjadDoorNetH
namespace Go.Proofs.YtmlafflmgagkjadDoor.Nw
open Go.RowKit Go.Maps
open Go.Proofs.YtmlafflmgagkjadDoor.Net
open Go.Proofs.YtmlafflmgagkjadDoor.Fif (own_lt own_block own_form own_mono Kp ret_bool row_grown)
set_option linter.unusedVariables false
variable {base P mb : Nat} {no : Int → Int → Bool} {l : List Pk} {v : Value}

theorem send_word {a b c : Int} (h : c < 1 ∨ 30 < c) : sendC l (a, b, c) = 1 := by
  unfold sendC
  rw [if_pos]
  simp [pkBad]
  omega
theorem send_two {a b c : Int} (h1 : 1 ≤ c) (h2 : c ≤ 30) (h : cutC a b ≠ 0) : sendC l (a, b, c) = cutC a b := by
  unfold sendC cutC at *
  by_cases hm : mem5 a = true ∧ mem5 b = true
  · rw [if_pos hm] at h ⊢
    have ha := mem5_num hm.1
    have hb := mem5_num hm.2
    have e : a = b := by
      by_cases e : a = b
      · exact e
      · rw [if_neg e] at h; exact absurd rfl h
    have hp : ¬ pkBad (a, b, c) = true := by simp [pkBad]; omega
    rw [if_neg hp, if_pos e, if_pos e]
  · rw [if_neg hm]
    have hp : pkBad (a, b, c) = true := by
      cases q : pkBad (a, b, c)
      · obtain ⟨p1, p2, _⟩ := pkBad_no q
        exact absurd ⟨mem5_of p1.1 p1.2, mem5_of p2.1 p2.2⟩ hm
      · rfl
    rw [if_pos hp]
theorem cut_zero {a b : Int} (h : cutC a b = 0) : mem5 a = true ∧ mem5 b = true ∧ a ≠ b := by
  unfold cutC at h
  by_cases hm : mem5 a = true ∧ mem5 b = true
  · rw [if_pos hm] at h
    by_cases e : a = b
    · rw [if_pos e] at h; omega
    · exact ⟨hm.1, hm.2, e⟩
  · rw [if_neg hm] at h; omega
theorem send_room {a b c : Int} (h1 : 1 ≤ c) (h2 : c ≤ 30) (h : cutC a b = 0) : sendC l (a, b, c) = if 40 ≤ l.length then 4 else 0 := by
  obtain ⟨ma, mb, hne⟩ := cut_zero h
  have ha := mem5_num ma
  have hb := mem5_num mb
  unfold sendC
  have hp : ¬ pkBad (a, b, c) = true := by simp [pkBad]; omega
  rw [if_neg hp, if_neg hne]
theorem sendL_no {p : Pk} (h : sendC l p ≠ 0) : sendL l p = l := if_neg h
theorem sendL_ok {p : Pk} (h : sendC l p = 0) : sendL l p = l ++ [p] := if_pos h
set_option maxRecDepth 100000 in
theorem send_any (a b c : Int) (w : World) (g : NF w base P mb no l v) (hbw : base ≤ w.heap.size) :
    Calls Tryd.prog 19 #[.pointer (some ⟨P, 0, none⟩), .agg #[.int .i64 a, .int .i64 b, .int .i64 c]] w fun x w' => ∃ v', x = .returned (errF (sendC l (a, b, c))) ∧ Res w w' base P mb no l v no (sendL l (a, b, c)) v' := by
  have BW : Hid (Below w.heap.size w (w.alloc (.cells #[.int .i64 a, .int .i64 b, .int .i64 c] 54))) := (Below.refl _ _).alloc (Nat.le_refl _) _
  have HG : Hid (NF w base P mb no l v ∧ base ≤ w.heap.size) := ⟨g, hbw⟩
  clear g hbw
  by_cases hw : 1 ≤ c ∧ c ≤ 30
  · obtain ⟨h1, h2⟩ := hw
    by_cases hc : cutC a b = 0
    · by_cases hf : 40 ≤ l.length
      · have e : sendC l (a, b, c) = 4 := by rw [send_room h1 h2 hc, if_pos hf]
        rw [sendL_no (by rw [e]; decide), e]
        have HC : Hid (cutC a b = 0 ∧ 40 ≤ l.length) := ⟨hc, hf⟩
        clear hc hf e
        go_enter Tryd.func19, Tryd.ntmps19
        go_wp2_with fail
        refine (word_yes c _ h1 h2).mono ?_
        rintro e w1 ⟨rfl, rfl⟩
        go_wp2_with fail
        refine (two_any a b _).mono ?_
        rintro e w1 ⟨rfl, rfl⟩
        rw [HC.out.1, errF_ok]
        go_wp2_with fail
        refine (add_full a b c _ (HG.out.1.later BW.out) HC.out.2).mono ?_
        rintro e w1 ⟨rfl, hb⟩
        rw [errF_no (by decide)]
        have B1 : Hid (Below w.heap.size w w1) := BW.out.trans (hb.mono BW.out.size)
        clear hb
        go_wp2
        go_ret
        exact ⟨v, rfl, Res.still HG.out.1 HG.out.2 B1.out⟩
      · have e : sendC l (a, b, c) = 0 := by rw [send_room h1 h2 hc, if_neg hf]
        rw [sendL_ok e, e]
        have HC : Hid (cutC a b = 0 ∧ l.length < 40) := ⟨hc, by omega⟩
        clear hc hf e
        go_enter Tryd.func19, Tryd.ntmps19
        go_wp2_with fail
        refine (word_yes c _ h1 h2).mono ?_
        rintro e w1 ⟨rfl, rfl⟩
        go_wp2_with fail
        refine (two_any a b _).mono ?_
        rintro e w1 ⟨rfl, rfl⟩
        rw [HC.out.1, errF_ok]
        go_wp2_with fail
        refine (add_ok a b c _ (HG.out.1.later BW.out) (Nat.le_trans HG.out.2 BW.out.size) HC.out.2).mono ?_
        rintro e w1 ⟨rfl, v', hr⟩
        have R : Hid (Res _ w1 base P mb no l v no (l ++ [(a, b, c)]) v') := hr
        clear hr
        rw [errF_ok]
        go_wp2
        go_ret
        exact ⟨v', rfl, Res.behind BW.out HG.out.2 R.out⟩
    · have e : sendC l (a, b, c) = cutC a b := send_two h1 h2 hc
      rw [sendL_no (by rw [e]; exact hc), e]
      have HC : Hid (cutC a b ≠ 0) := hc
      clear hc e
      rw [errF_no HC.out]
      go_enter Tryd.func19, Tryd.ntmps19
      go_wp2_with fail
      refine (word_yes c _ h1 h2).mono ?_
      rintro e w1 ⟨rfl, rfl⟩
      go_wp2_with fail
      refine (two_any a b _).mono ?_
      rintro e w1 ⟨rfl, rfl⟩
      rw [errF_no HC.out]
      go_wp2
      go_ret
      exact ⟨v, rfl, Res.still HG.out.1 HG.out.2 BW.out⟩
  · have hw' : c < 1 ∨ 30 < c := by omega
    have e : sendC l (a, b, c) = 1 := send_word hw'
    rw [sendL_no (by rw [e]; decide), e, errF_no (by decide)]
    clear e hw
    go_enter Tryd.func19, Tryd.ntmps19
    go_wp2_with fail
    refine (word_no c _ hw').mono ?_
    rintro e w1 ⟨rfl, rfl⟩
    go_wp2
    go_ret
    exact ⟨v, rfl, Res.still HG.out.1 HG.out.2 BW.out⟩
theorem drop_any (i : Int) (w : World) (g : NF w base P mb no l v) (hbw : base ≤ w.heap.size) (h40 : l.length ≤ 40) :
    Calls Tryd.prog 24 #[.pointer (some ⟨P, 0, none⟩), .int .i64 i] w fun x w' => ∃ v', x = .returned (errF (dropC l i)) ∧ Res w w' base P mb no l v no (dropL l i) v' := by
  have HG : Hid (NF w base P mb no l v ∧ base ≤ w.heap.size ∧ l.length ≤ 40) := ⟨g, hbw, h40⟩
  clear g hbw h40
  cases hi : isIn l i
  · have e1 : dropC l i = 1 := if_neg (by rw [hi]; decide)
    have e2 : dropL l i = l := if_neg (by rw [hi]; decide)
    rw [e1, e2, errF_no (by decide)]
    clear e1 e2
    go_enter Tryd.func24, Tryd.ntmps24
    go_wp2_with fail
    refine (has_any i w HG.out.1).mono ?_
    rintro e w1 ⟨rfl, rfl⟩
    rw [hi]
    go_wp2
    go_ret
    exact ⟨v, rfl, Res.still HG.out.1 HG.out.2.1 (Below.refl _ _)⟩
  · obtain ⟨k, rfl, hk⟩ := isIn_yes hi
    have e1 : dropC l (k : Int) = 0 := if_pos hi
    have e2 : dropL l (k : Int) = l.eraseIdx k := by unfold dropL; rw [if_pos hi, Int.toNat_natCast]
    rw [e1, e2, errF_ok]
    clear e1 e2
    go_enter Tryd.func24, Tryd.ntmps24
    go_wp2_with fail
    refine (has_any (k : Int) w HG.out.1).mono ?_
    rintro e w1 ⟨rfl, rfl⟩
    rw [hi]
    go_wp2_with fail
    refine (remove_any k _ HG.out.1 hk HG.out.2.2 HG.out.2.1).mono ?_
    rintro e w1 ⟨rfl, v', hr⟩
    have R : Hid _ := hr
    clear hr
    go_wp2
    go_ret
    exact ⟨v', rfl, R.out⟩
theorem all_any (w : World) (g : NF w base P mb no l v) (h40 : l.length ≤ 40) : Calls Tryd.prog 22 #[.pointer (some ⟨P, 0, none⟩)] w fun x w' => ∃ v', x = .returned v' ∧ Po w' w.heap.size v' l ∧ Below w.heap.size w w' := by
  obtain ⟨c0, z0⟩ := g.list
  obtain ⟨ie, hi, hz0, hz1, hz2⟩ := info_pk
  have HI : Hid (Tryd.prog.info? 54 = some ie ∧ ie.zero = some (.agg #[.int .i64 0, .int .i64 0, .int .i64 0]) ∧ ie.size = 3 ∧ ie.bytes = 24) := ⟨hi, hz0, hz1, hz2⟩
  rcases g.own.2 with ⟨rfl, h3⟩ | ⟨g0, cap, cur, rfl, hb, hh, hc, hm, hsz, ht⟩
  · have el : l = [] := List.eq_nil_of_length_eq_zero h3
    subst el
    clear g h3 h40 hi hz0 hz1 hz2
    go_enter Tryd.func22, Tryd.ntmps22
    go_wp2
    go_ret
    exact ⟨_, rfl, World.ownsRow_nil _ _ _ _, Below.refl _ _⟩
  · have HC : Hid (∀ j u, (flat l)[j]? = some u → w.cell? ((⟨g0, 0, none⟩ : Addr).add j) = some u) := by
      intro j u hj
      have hjl : j < l.length * 3 := by
        have := (List.getElem?_eq_some_iff.1 hj).1
        rwa [flat_len] at this
      rw [Addr.add_lit, Nat.zero_add]
      rw [← ht, List.getElem?_take_of_lt hjl] at hj
      simp only [World.cell?, hh]
      simpa using hj
    obtain ⟨n, en⟩ : ∃ n, n = l.length := ⟨_, rfl⟩
    have HN : Hid (n = l.length) := en
    rw [← en] at c0 h40
    clear g hb hh hc hm hsz ht hi hz0 hz1 hz2 en
    go_enter Tryd.func22, Tryd.ntmps22
    go_wp2_with (at_builtin; refine wpList_append_own _ rfl _ _ 49 rfl w.heap.size 54 ie (.agg #[.int .i64 0, .int .i64 0, .int .i64 0]) 3 24 Tryd.underlying49 HI.out.1 HI.out.2.1 HI.out.2.2.1 HI.out.2.2.2 rfl (by decide) (.slice none 0 0) 0 [] rfl (World.ownsRow_nil _ _ _ _) ⟨g0, 0, none⟩ n cap (flat l) rfl (by rw [flat_len, HN.out]) HC.out (flat_one _) (by unfold maxLen; omega) (by omega) (Nat.le_refl _) ?_; intro v' wn hown hgrow _; rw [Nat.zero_add, List.nil_append] at hown; have HO : Hid (wn.ownsRow w.heap.size 54 3 v' n (flat l)) := hown; have HGr : Hid (w.grownBy wn none) := hgrow; clear hown hgrow)
    go_ret
    refine ⟨_, rfl, ?_, (Below.refl w.heap.size w).grown HGr.out (Nat.le_refl _) (fun k e => by cases e)⟩
    have o := HO.out
    unfold Po
    rw [HN.out] at o
    exact o
end Go.Proofs.YtmlafflmgagkjadDoor.Nw
