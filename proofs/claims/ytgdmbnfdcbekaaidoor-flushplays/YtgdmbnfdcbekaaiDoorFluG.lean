/-
  Contracts of package flush's Say, Give and View.
-/
import Derived.Test.YtgdmbnfdcbekaaiDoorFluD
namespace Go.Proofs.YtgdmbnfdcbekaaiDoor.Flu
open Go.RowKit Go.Maps
open Go.Proofs.YtgdmbnfdcbekaaiDoor.Fif (own_lt own_block own_form own_mono own_vw ret_bool info_int new_int int_one)
open Go.Proofs.YtgdmbnfdcbekaaiDoor.Vec (Vw)
open Go.Proofs.YtgdmbnfdcbekaaiDoor.Sep (KpL NewL)
open Go.Proofs.YtgdmbnfdcbekaaiDoor.Ldr (errF errF_ok errF_no Sl)
open Go.Proofs.YtgdmbnfdcbekaaiDoor.MapV (turned_below g_of_turned wfI)
set_option linter.unusedVariables false
variable {w w' : World} {base P mS mH bH oH cH : Nat} {rv : Nat → Value} {f : F}

theorem zeroE (W : World) : (zeroValue 57).run Tryd.prog W = .ok (.agg #[]) W := by kernel_rfl
theorem grown_tmpG {w w5 : World} {ob : Obj} {r : Option Nat} (hg : (w.alloc ob).grownBy w5 r) : w.grownBy w5 r := by
  obtain ⟨a1, a2, a3, a4, a5⟩ := hg
  have b : Below w.heap.size w (w.alloc ob) := (Below.refl _ _).alloc (Nat.le_refl _) _
  exact ⟨a1, a2, a3, Nat.le_trans b.size a4, fun k hk hne => (a5 k (Nat.lt_of_lt_of_le hk b.size) hne).trans (b.block k hk)⟩
theorem cur30 (hi : Inv f) (m : Nat) : (cur f m).length ≤ 30 := (Okg.inv hi).len m
theorem put_len (hi : Inv f) {word : Int} (hw : 1 ≤ word ∧ word ≤ 30) (hs : f.was word = false) (m : Nat) : f.said.length + 1 ≤ 30 ∧ (cur f m).length + 1 ≤ 30 := by
  have h' := hi.put (m := m) hw hs
  have h1 := said30 h'
  have h2 := cur30 h' m
  have e1 : (put f m word).said = f.said ++ [word] := rfl
  have e2 : cur (put f m word) m = cur f m ++ [word] := up2_same _ _ _ _
  rw [e1, List.length_append] at h1
  rw [e2, List.length_append] at h2
  exact ⟨h1, h2⟩
theorem got_len (hi : Inv f) {m : Nat} {word : Int} (hs : word ∈ f.said) (hc : word ∉ cur f m) : (cur f m).length + 1 ≤ 30 := by
  have h2 := cur30 (hi.got hs hc) m
  have e2 : cur (got f m word) m = cur f m ++ [word] := up2_same _ _ _ _
  rw [e2, List.length_append] at h2
  exact h2
set_option maxRecDepth 100000 in
theorem say_fault (h : GF w base P mS mH bH oH cH rv f) (hl : f.v.has.length ≤ 5) (who word : Int) (hc : chk f who word ≠ 0) : Calls Tryd.prog 6 #[.pointer (some ⟨P, 0, none⟩), .int .i64 who, .int .i64 word] w fun x w' => x = .returned (errF (chk f who word)) ∧ w' = w := by
  have HG : Hid (GF w base P mS mH bH oH cH rv f ∧ f.v.has.length ≤ 5 ∧ errF (chk f who word) = .iface 52 (.int .i64 (chk f who word))) := ⟨h, hl, errF_no hc⟩
  rw [HG.out.2.2]
  clear h hl hc
  go_enter Tryd.func6, Tryd.ntmps6
  go_wp2_with fail
  refine (chk_any HG.out.1 HG.out.2.1 who word).mono ?_
  rintro e w ⟨rfl, rfl⟩
  rw [HG.out.2.2]
  go_wp2
  go_ret
  exact ⟨rfl, rfl⟩
set_option maxRecDepth 100000 in
theorem say_was (h : GF w base P mS mH bH oH cH rv f) (hl : f.v.has.length ≤ 5) (who word : Int) (hc : chk f who word = 0) (hs : f.was word = true) : Calls Tryd.prog 6 #[.pointer (some ⟨P, 0, none⟩), .int .i64 who, .int .i64 word] w fun x w' => x = .returned (errF 7) ∧ Below w.heap.size w w' := by
  obtain ⟨hw, hwd, -⟩ := chk_ok hc
  have HG : Hid (GF w base P mS mH bH oH cH rv f ∧ f.v.has.length ≤ 5 ∧ errF (chk f who word) = .nilIface) := ⟨h, hl, by rw [hc]; rfl⟩
  have hlk : (Instr.lookup 53 (.map (some mS)) (.int .i64 word) true).run Tryd.prog w = .ok (.tuple #[.agg #[], .bool true]) w := by
    have q := h.said.look_ok Tryd.underlying53 zeroE (wfI (i := word) (by omega) (by omega)) w rfl
    rw [SDw_some hwd, hs, SDw_getD] at q
    exact q
  have c2 := h.c2
  rw [errF_no (by decide)]
  clear h hl hc hs hw hwd
  go_enter Tryd.func6, Tryd.ntmps6
  go_wp2_with fail
  refine (chk_any HG.out.1 HG.out.2.1 who word).mono ?_
  rintro e w ⟨rfl, rfl⟩
  rw [HG.out.2.2]
  go_wp2
  go_ret
  exact ⟨rfl, (Below.refl _ _).alloc (Nat.le_refl _) _⟩
set_option maxRecDepth 100000 in
set_option maxHeartbeats 1000000 in
theorem say_okU (h : GF w base P mS mH bH oH cH rv f) (hi : Inv f) {m : Nat} {word : Int} (hc : chk f (m : Int) word = 0) (hs : f.was word = false) : Calls Tryd.prog 6 #[.pointer (some ⟨P, 0, none⟩), .int .i64 (m : Int), .int .i64 word] w fun x w' => x = .returned .nilIface ∧ ∃ rv', GF w' base P mS mH bH oH cH rv' (put f m word) ∧ St w w' base (fpG P mS mH bH (cntF f) rv) (fpG P mS mH bH (cntF f) rv') := by
  obtain ⟨hw, hwd, -⟩ := chk_ok hc
  have hm5 : m < 5 := by omega
  obtain ⟨lw, lc⟩ := put_len hi hwd hs m
  have hbw : base ≤ w.heap.size := Nat.le_trans h.low.1 (Nat.le_of_lt h.lt)
  have hlk : (Instr.lookup 53 (.map (some mS)) (.int .i64 word) true).run Tryd.prog w = .ok (.tuple #[.agg #[], .bool false]) w := by
    have q := h.said.look_ok Tryd.underlying53 zeroE (wfI (i := word) (by omega) (by omega)) w rfl
    rw [SDw_some hwd, hs, SDw_getD] at q
    exact q
  obtain ⟨W1, eW1⟩ : ∃ W1, W1 = w.alloc (.cells #[] 57) := ⟨_, rfl⟩
  have b1 : Below w.heap.size w W1 := by rw [eW1]; exact (Below.refl _ _).alloc (Nat.le_refl _) _
  have h1 := h.later b1
  obtain ⟨W2, e2, m2, t2⟩ := h1.said.put Tryd.underlying53 (i := word) (wfI (by omega) (by omega)) (.agg #[]) (by have := csw_le f.was; omega)
  obtain ⟨h2, s2⟩ := h1.putS (was := putW f.was word) (m2.congr (SDw_put hwd) (by rw [SDw_some hwd, hs, csw_put hwd hs]; rfl)) t2
  have c2 := h.c2
  have c21 := h1.c2
  obtain ⟨q1, k1, e1, -⟩ := h2.ints.see (i := 1) (by unfold cntF; omega)
  have el1 : lsP { f with was := putW f.was word } 1 = f.said := rfl
  rw [el1] at e1
  obtain ⟨l1, ell⟩ : ∃ l1, l1 = f.said.length := ⟨_, rfl⟩
  rw [← ell] at e1 lw
  have c3 := h2.c3
  rw [e1] at c3
  have z3 := h2.fr 3
  have own1 : W2.ownsRow base 3 1 (rv 1) (lsP { f with was := putW f.was word } 1).length ((lsP { f with was := putW f.was word } 1).map (Value.int .i64)) := h2.ints.own 1 (by unfold cntF; omega)
  rw [el1, e1, ← ell] at own1
  have HG : Hid (GF w base P mS mH bH oH cH rv f ∧ f.v.has.length ≤ 5 ∧ errF (chk f (m : Int) word) = .nilIface) := ⟨h, has5 hi, by rw [hc]; rfl⟩
  have nP : some P ≠ (Value.slice q1 l1 k1).ownBlock := by rw [← e1]; exact fun e => (h2.neI (i := 1) (by unfold cntF; omega) e.symm).1 rfl
  have H2 : Hid (GF W2 base P mS mH bH oH cH rv { f with was := putW f.was word } ∧ St w W2 base (fpG P mS mH bH (cntF f) rv) (fpG P mS mH bH (cntF f) rv) ∧ rv 1 = .slice q1 l1 k1 ∧ l1 = f.said.length ∧ W2.ownsRow base 3 1 (.slice q1 l1 k1) l1 (f.said.map (Value.int .i64)) ∧ base ≤ W2.heap.size ∧ some P ≠ (Value.slice q1 l1 k1).ownBlock) := ⟨h2, (St.later hbw b1 _).trans s2, e1, ell, own1, Nat.le_trans hbw (Nat.le_trans b1.size s2.bel.size), nP⟩
  have HM : Hid (m < 5 ∧ (cur f m).length + 1 ≤ 30 ∧ (num f : Int) = f.v.n ∧ f.v.n ≤ 1000000) := ⟨hm5, lc, hi.numI, hi.n0.2⟩
  obtain ⟨ii, hii, hz0, hz1, hz2⟩ := info_int
  have HJ : Hid (Tryd.prog.info? 3 = some ii ∧ ii.zero = some (.int .i64 0) ∧ ii.size = 1 ∧ ii.bytes = 8) := ⟨hii, hz0, hz1, hz2⟩
  have hPl := h2.lt
  have hPlw := h.lt
  clear h hi hc hs hw hwd hm5 lc hbw b1 h1 m2 t2 h2 s2 el1 e1 ell own1 nP hii hz0 hz1 hz2
  go_enter Tryd.func6, Tryd.ntmps6
  go_wp2_with fail
  refine (chk_any HG.out.1 HG.out.2.1 (m : Int) word).mono ?_
  rintro e w ⟨rfl, rfl⟩
  rw [HG.out.2.2]
  go_upto_region 7 with fail
  rw [← eW1]
  clear c2 hlk eW1
  go_wp2_with (at_builtin; refine wpList_append_lies _ rfl _ _ 28 rfl base 3 ii (.int .i64 0) 1 8 Tryd.underlying28 HJ.out.1 HJ.out.2.1 HJ.out.2.2.1 HJ.out.2.2.2 rfl (by decide) (.slice q1 l1 k1) l1 (f.said.map (Value.int .i64)) rfl (by exact own_block H2.out.2.2.2.2.1 fun b hb => Below.heap_alloc _ _ _ (own_lt H2.out.2.2.2.2.1 b hb).2) ⟨W2.heap.size, 0, none⟩ 1 1 [.int .i64 word] rfl rfl (by exact new_int W2 _ rfl _ 3) (int_one _) (by omega) (by unfold maxLen; omega) (by omega) (by have := H2.out.2.2.2.2.2.1; simp; omega) (W2.heap.size + 1) (by simp) ?_; intro g4 k4 w4 hown hgrow hlie hg4; have HG4 : Hid (W2.grownBy w4 (Value.slice q1 l1 k1).ownBlock) := grown_tmpG hgrow; have H4 : Hid (w4.ownsRow base 3 1 (.slice (some ⟨g4, 0, none⟩) (l1 + 1) k4) (l1 + 1) (f.said.map (Value.int .i64) ++ [.int .i64 word]) ∧ ((Value.slice q1 l1 k1).ownBlock = some g4 ∨ W2.heap.size ≤ g4)) := ⟨hown, hlie.imp id (fun e => by omega)⟩; have y3 : w4.cell? ⟨P, 3, none⟩ = some (.slice q1 l1 k1) := (HG4.out.cell_far ⟨P, 3, none⟩ hPl H2.out.2.2.2.2.2.2).trans c3; have x3 : w4.frozen? ⟨P, 3, none⟩ = false := (HG4.out.frozen_far ⟨P, 3, none⟩ hPl H2.out.2.2.2.2.2.2).trans z3; clear hown hgrow hlie hg4)
  obtain ⟨h5, s5⟩ := H2.out.1.appW (k := l1) (x := word) H2.out.2.2.2.1 (by rw [H2.out.2.2.1]; exact HG4.out) H4.out.1 (by rw [H2.out.2.2.1]; exact H4.out.2)
  obtain ⟨W5, eW5⟩ : ∃ W5, W5 = w4.setCell ⟨P, 3, none⟩ (.slice (some ⟨g4, 0, none⟩) (l1 + 1) k4) := ⟨_, rfl⟩
  rw [← eW5] at h5 s5 ⊢
  have H5 : Hid (GF W5 base P mS mH bH oH cH (upV rv 1 (.slice (some ⟨g4, 0, none⟩) (l1 + 1) k4)) { f with was := putW f.was word, said := f.said ++ [word] } ∧ St w W5 base (fpG P mS mH bH (cntF f) rv) (fpG P mS mH bH (cntF f) (upV rv 1 (.slice (some ⟨g4, 0, none⟩) (l1 + 1) k4)))) := ⟨h5, H2.out.2.1.trans s5⟩
  clear h5 s5 eW5
  refine (hear_any H5.out.1 HM.out.2.2.1 HM.out.2.2.2 HM.out.1 HM.out.2.1 word).mono ?_
  rintro e w6 ⟨rfl, rv6, h6, s6, -⟩
  have H6 : Hid (GF w6 base P mS mH bH oH cH rv6 (put f m word) ∧ St w w6 base (fpG P mS mH bH (cntF f) rv) (fpG P mS mH bH (cntF f) rv6)) := ⟨h6, H5.out.2.trans s6⟩
  clear h6 s6
  go_wp2
  go_ret
  exact ⟨rfl, rv6, H6.out⟩
theorem sayU (base P : Nat) (f : F) (fp : List Nat) (who word : Int) (w : World) (h : US w base P f fp) (hi : Inv f) (hbw : base ≤ w.heap.size) : Calls Tryd.prog 6 #[.pointer (some ⟨P, 0, none⟩), .int .i64 who, .int .i64 word] w fun x w' => ∃ fp', x = .returned (errF (sayC f who word)) ∧ US w' base P (say f who word) fp' ∧ Below base w w' ∧ KpL w w' fp ∧ NewL w fp fp' := by
  obtain ⟨mS, mH, bH, oH, cH, rv, rfl, h⟩ := h
  by_cases hc : chk f who word = 0
  · cases hs : f.was word with
    | true =>
      have e0 : sayC f who word = 7 := by unfold sayC; rw [if_pos hc, if_pos hs]
      have e2 : say f who word = f := by unfold say; rw [e0, if_neg (by decide)]
      rw [e0, e2]
      refine (say_was h (has5 hi) who word hc hs).mono ?_
      rintro x w' ⟨rfl, hb⟩
      exact ⟨_, rfl, ⟨mS, mH, bH, oH, cH, rv, rfl, h.later hb⟩, hb.mono hbw, KpL.below hb _, NewL.refl _ _⟩
    | false =>
      obtain ⟨m, rfl⟩ : ∃ m : Nat, who = (m : Int) := ⟨who.toNat, by have := (chk_ok hc).1; omega⟩
      have e0 : sayC f (m : Int) word = 0 := by unfold sayC; rw [if_pos hc, if_neg (by rw [hs]; decide)]
      have e2 : say f (m : Int) word = put f m word := by unfold say; rw [e0, if_pos rfl, Int.toNat_natCast]
      rw [e0, e2, errF_ok]
      refine (say_okU h hi hc hs).mono ?_
      rintro x w' ⟨rfl, rv', hf, hst⟩
      exact ⟨_, rfl, ⟨mS, mH, bH, oH, cH, rv', rfl, hf⟩, hst.bel, hst.kp, hst.new⟩
  · have e0 : sayC f who word = chk f who word := by unfold sayC; rw [if_neg hc]
    have e2 : say f who word = f := by unfold say; rw [e0, if_neg hc]
    rw [e0, e2]
    refine (say_fault h (has5 hi) who word hc).mono ?_
    rintro x w' ⟨rfl, rfl⟩
    exact ⟨_, rfl, ⟨mS, mH, bH, oH, cH, rv, rfl, h⟩, Below.refl _ _, KpL.below (Below.refl _ _) _, NewL.refl _ _⟩
set_option maxRecDepth 100000 in
set_option maxHeartbeats 1000000 in
theorem give_any (h : GF w base P mS mH bH oH cH rv f) (hi : Inv f) (who word : Int) : Calls Tryd.prog 7 #[.pointer (some ⟨P, 0, none⟩), .int .i64 who, .int .i64 word] w fun x w' => x = .returned (errF (giveC f who word)) ∧ ∃ rv', GF w' base P mS mH bH oH cH rv' (give f who word) ∧ St w w' base (fpG P mS mH bH (cntF f) rv) (fpG P mS mH bH (cntF f) rv') := by
  have hbw : base ≤ w.heap.size := Nat.le_trans h.low.1 (Nat.le_of_lt h.lt)
  by_cases hc : chk f who word = 0
  · obtain ⟨hw, hwd, -⟩ := chk_ok hc
    obtain ⟨m, rfl⟩ : ∃ m : Nat, who = (m : Int) := ⟨who.toNat, by omega⟩
    have hm5 : m < 5 := by omega
    have HG : Hid (GF w base P mS mH bH oH cH rv f ∧ f.v.has.length ≤ 5 ∧ errF (chk f (m : Int) word) = .nilIface ∧ base ≤ w.heap.size ∧ m < 5 ∧ (num f : Int) = f.v.n ∧ f.v.n ≤ 1000000) := ⟨h, has5 hi, by rw [hc]; rfl, hbw, hm5, hi.numI, hi.n0.2⟩
    obtain ⟨q1, k1, e1, hv1⟩ := h.ints.see (i := 1) (by unfold cntF; omega)
    have el1 : lsP f 1 = f.said := rfl
    rw [el1] at e1 hv1
    have hl1 := said30 hi
    obtain ⟨l1, ell⟩ : ∃ l1, l1 = f.said.length := ⟨_, rfl⟩
    rw [← ell] at e1 hv1 hl1
    have c3 := h.c3
    rw [e1] at c3
    have HV : Hid (Vw w q1 l1 f.said) := hv1
    have e0 : giveC f (m : Int) word = if word ∈ f.said then (if word ∈ cur f m then 7 else 0) else 5 := by unfold giveC; rw [if_pos hc, Int.toNat_natCast]
    by_cases hs : word ∈ f.said
    · have HS : Hid (f.said.contains word = true) := List.contains_iff_mem.2 hs
      by_cases hh : word ∈ cur f m
      · have HH : Hid ((cur f m).contains word = true) := List.contains_iff_mem.2 hh
        have ec : giveC f (m : Int) word = 7 := by rw [e0, if_pos hs, if_pos hh]
        have eg : give f (m : Int) word = f := by unfold give; rw [ec, if_neg (by decide)]
        rw [ec, eg, errF_no (by decide)]
        clear h hi hbw hc hw hwd hm5 e1 hv1 el1 ell e0 hs hh ec eg
        go_enter Tryd.func7, Tryd.ntmps7
        go_wp2_with fail
        refine (chk_any HG.out.1 HG.out.2.1 (m : Int) word).mono ?_
        rintro e w ⟨rfl, rfl⟩
        rw [HG.out.2.2.1]
        go_wp2_with fail
        refine (Viw.contP q1 l1 k1 f.said word _ (by unfold maxLen; omega) HV.out).mono ?_
        rintro e w ⟨rfl, rfl⟩
        rw [HS.out]
        go_wp2_with fail
        refine (hasH_any HG.out.1 HG.out.2.2.2.2.2.1 HG.out.2.2.2.2.2.2 HG.out.2.2.2.2.1 word).mono ?_
        rintro e w1 ⟨rfl, hh1, hb1⟩
        rw [HH.out]
        have B1 : Hid (Below w.heap.size w w1) := hb1
        clear hh1 hb1
        go_wp2
        go_ret
        exact ⟨rfl, rv, HG.out.1.later B1.out, St.later HG.out.2.2.2.1 B1.out _⟩
      · have HH : Hid ((cur f m).contains word = false) := by
          show _ = false
          rw [Bool.eq_false_iff]
          exact fun z => hh (List.contains_iff_mem.1 z)
        have ec : giveC f (m : Int) word = 0 := by rw [e0, if_pos hs, if_neg hh]
        have eg : give f (m : Int) word = got f m word := by unfold give; rw [ec, if_pos rfl, Int.toNat_natCast]
        have HL : Hid ((cur f m).length + 1 ≤ 30) := got_len hi hs hh
        rw [ec, eg, errF_ok]
        clear h hi hbw hc hw hwd hm5 e1 hv1 el1 ell e0 hs hh ec eg
        go_enter Tryd.func7, Tryd.ntmps7
        go_wp2_with fail
        refine (chk_any HG.out.1 HG.out.2.1 (m : Int) word).mono ?_
        rintro e w ⟨rfl, rfl⟩
        rw [HG.out.2.2.1]
        go_wp2_with fail
        refine (Viw.contP q1 l1 k1 f.said word _ (by unfold maxLen; omega) HV.out).mono ?_
        rintro e w ⟨rfl, rfl⟩
        rw [HS.out]
        go_wp2_with fail
        refine (hasH_any HG.out.1 HG.out.2.2.2.2.2.1 HG.out.2.2.2.2.2.2 HG.out.2.2.2.2.1 word).mono ?_
        rintro e w1 ⟨rfl, hh1, hb1⟩
        rw [HH.out]
        have B1 : Hid (Below w.heap.size w w1) := hb1
        clear hh1 hb1
        go_wp2_with fail
        refine (hear_any (HG.out.1.later B1.out) HG.out.2.2.2.2.2.1 HG.out.2.2.2.2.2.2 HG.out.2.2.2.2.1 HL.out word).mono ?_
        rintro e w2 ⟨rfl, rv2, h2, s2, -⟩
        have H2 : Hid (GF w2 base P mS mH bH oH cH rv2 (got f m word) ∧ St w w2 base (fpG P mS mH bH (cntF f) rv) (fpG P mS mH bH (cntF f) rv2)) := ⟨h2, (St.later HG.out.2.2.2.1 B1.out _).trans s2⟩
        clear h2 s2
        go_wp2
        go_ret
        exact ⟨rfl, rv2, H2.out⟩
    · have HS : Hid (f.said.contains word = false) := by
        show _ = false
        rw [Bool.eq_false_iff]
        exact fun z => hs (List.contains_iff_mem.1 z)
      have ec : giveC f (m : Int) word = 5 := by rw [e0, if_neg hs]
      have eg : give f (m : Int) word = f := by unfold give; rw [ec, if_neg (by decide)]
      rw [ec, eg, errF_no (by decide)]
      clear h hi hbw hc hw hwd hm5 e1 hv1 el1 ell e0 hs ec eg
      go_enter Tryd.func7, Tryd.ntmps7
      go_wp2_with fail
      refine (chk_any HG.out.1 HG.out.2.1 (m : Int) word).mono ?_
      rintro e w ⟨rfl, rfl⟩
      rw [HG.out.2.2.1]
      go_wp2_with fail
      refine (Viw.contP q1 l1 k1 f.said word _ (by unfold maxLen; omega) HV.out).mono ?_
      rintro e w ⟨rfl, rfl⟩
      rw [HS.out]
      go_wp2
      go_ret
      exact ⟨rfl, rv, HG.out.1, St.refl _ _ _⟩
  · have ec : giveC f who word = chk f who word := by unfold giveC; rw [if_neg hc]
    have eg : give f who word = f := by unfold give; rw [ec, if_neg hc]
    have HG : Hid (GF w base P mS mH bH oH cH rv f ∧ f.v.has.length ≤ 5 ∧ errF (chk f who word) = .iface 52 (.int .i64 (chk f who word))) := ⟨h, has5 hi, errF_no hc⟩
    rw [ec, eg, HG.out.2.2]
    clear h hi hc hbw ec eg
    go_enter Tryd.func7, Tryd.ntmps7
    go_wp2_with fail
    refine (chk_any HG.out.1 HG.out.2.1 who word).mono ?_
    rintro e w ⟨rfl, rfl⟩
    rw [HG.out.2.2]
    go_wp2
    go_ret
    exact ⟨rfl, rv, HG.out.1, St.refl _ _ _⟩
theorem cnt_give (f : F) (who word : Int) : cntF (give f who word) = cntF f := by unfold give; split <;> rfl
theorem giveU (base P : Nat) (f : F) (fp : List Nat) (who word : Int) (w : World) (h : US w base P f fp) (hi : Inv f) (hbw : base ≤ w.heap.size) : Calls Tryd.prog 7 #[.pointer (some ⟨P, 0, none⟩), .int .i64 who, .int .i64 word] w fun x w' => ∃ fp', x = .returned (errF (giveC f who word)) ∧ US w' base P (give f who word) fp' ∧ Below base w w' ∧ KpL w w' fp ∧ NewL w fp fp' := by
  obtain ⟨mS, mH, bH, oH, cH, rv, rfl, h⟩ := h
  refine (give_any h hi who word).mono ?_
  rintro x w' ⟨rfl, rv', hf, hst⟩
  exact ⟨_, rfl, ⟨mS, mH, bH, oH, cH, rv', by rw [cnt_give], hf⟩, hst.bel, hst.kp, hst.new⟩
theorem viewU (base P : Nat) (f : F) (fp : List Nat) (w : World) (h : US w base P f fp) (hi : Inv f) : Calls Tryd.prog 17 #[.pointer (some ⟨P, 0, none⟩)] w fun x w' => ∃ q c, x = .returned (.agg #[.int .i64 f.v.n, .slice q f.v.has.length c]) ∧ Sl w' (.slice q f.v.has.length c) f.v.has ∧ (∀ ad, q = some ad → 0 < f.v.has.length → w.heap.size ≤ ad.block) ∧ Below w.heap.size w w' := by
  obtain ⟨mS, mH, bH, oH, cH, rv, rfl, h⟩ := h
  refine (viewG h (Viw.has_ok (Viw.view_ok hi.view).2).1 (has5 hi)).mono ?_
  rintro x w' ⟨q, c, rfl, h1, h2, h3⟩
  exact ⟨q, c, rfl, h1, fun ad e _ => h2 ad e, h3⟩
end Go.Proofs.YtgdmbnfdcbekaaiDoor.Flu
