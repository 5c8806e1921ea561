/-
  Contract of package history's Past: all that are ahead of one, rising.
-/
import Derived.Test.YtcmfhlegpgmakaaDoorHisU
import Derived.Deep.AppendLies
namespace Go.Proofs.YtcmfhlegpgmakaaDoor.His
open Go.RowKit
open Go.Proofs.YtcmfhlegpgmakaaDoor.Vec

theorem own_vw {w : World} {base n : Nat} {t : TypeId} {v : Value} {xs : List Int} (h : w.ownsRow base t 1 v n (xs.map (Value.int .i64))) : ∃ a cap, v = .slice a n cap ∧ Vw w a n xs := by
  obtain ⟨h1, h2⟩ := h
  have hl : xs.length = n := by simpa using h1
  rcases h2 with ⟨h2, rfl⟩ | ⟨g, cap, cur, hv, _, hh, _, _, hsz, ht⟩
  · exact ⟨none, 0, h2, hl, fun q => absurd q (by omega)⟩
  · refine ⟨_, cap, hv, hl, fun _ => ⟨g, 0, rfl, ?_, fun k hk => ?_⟩⟩
    · rcases Nat.lt_or_ge g w.heap.size with hlt | hge
      · exact hlt
      · rw [Array.getElem?_eq_none hge] at hh; cases hh
    · rw [Nat.zero_add, World.cell?, hh]
      have : (cur.toList.take (n * 1))[k]? = (xs.map (Value.int .i64))[k]? := by rw [ht]
      rw [Nat.mul_one, List.getElem?_take_of_lt hk, List.getElem?_map] at this
      have hx : k < xs.length := by omega
      simp only [Option.isSome_none, Bool.false_eq_true, if_false]
      rw [← Array.getElem?_toList, this]
      simp [hx, List.getD]

def pastK (h : List Ev) (i k : Nat) : List Int := ((List.range k).filter fun j => bef h j i).map Int.ofNat
theorem pastK_hit {h : List Ev} {i k : Nat} (hb : bef h k i = true) : pastK h i (k + 1) = pastK h i k ++ [(k : Int)] := by
  simp [pastK, List.range_succ, List.filter_append, hb]
theorem pastK_miss {h : List Ev} {i k : Nat} (hb : bef h k i = false) : pastK h i (k + 1) = pastK h i k := by
  simp [pastK, List.range_succ, List.filter_append, hb]
theorem pastK_len (h : List Ev) (i k : Nat) : (pastK h i k).length ≤ k := by
  have := List.length_filter_le (fun j => bef h j i) (List.range k)
  simp [pastK]
  simpa using this
theorem Vw.one (w : World) (x : Int) (t : TypeId) : Vw (w.alloc (.cells #[.int .i64 x] t)) (some ⟨w.heap.size, 0, none⟩) 1 [x] := by
  refine ⟨rfl, fun _ => ⟨_, _, rfl, by simp, fun k hk => ?_⟩⟩
  rcases k with _ | k
  · simp
  · omega
theorem infoI : (Tryd.prog.info? 3).map (fun i => (i.zero, i.size, i.bytes)) = some (some (.int .i64 0), 1, 8) := by kernel_rfl
theorem info_int : ∃ i, Tryd.prog.info? 3 = some i ∧ i.zero = some (.int .i64 0) ∧ i.size = 1 ∧ i.bytes = 8 := by
  obtain ⟨i, hi, hzz⟩ := Option.map_eq_some_iff.1 infoI
  simp only [Prod.mk.injEq] at hzz
  exact ⟨i, hi, hzz.1, hzz.2.1, hzz.2.2⟩
theorem new_int (w : World) (B : Nat) (hB : B = w.heap.size) (x : Int) (t : TypeId) : ∀ j u, [Value.int .i64 x][j]? = some u → (w.alloc (.cells #[.int .i64 x] t)).cell? ((⟨B, 0, none⟩ : Addr).add j) = some u := by
  subst hB
  intro j u hj
  rw [Addr.add_lit, Nat.zero_add]
  rcases j with _ | j
  · simpa using hj
  · simp at hj
theorem int_one (x : Int) : ∀ u ∈ [Value.int .i64 x], u.oneCell' = true := by
  intro u hu
  obtain rfl := List.mem_singleton.1 hu
  rfl
theorem own_base {w : World} {base : Nat} {t : TypeId} {s : Nat} {v : Value} {n : Nat} {xs : List Value} (o : w.ownsRow base t s v n xs) : ∀ k, v.ownBlock = some k → base ≤ k := by
  intro k hk
  rcases o.2 with ⟨h2, _⟩ | ⟨g', cap', cur, hv, hbg, _⟩
  · rw [h2] at hk; cases hk
  · rw [hv] at hk
    have : g' = k := by simpa [Value.ownBlock] using hk
    omega
theorem own_later {w w' : World} {base : Nat} {t : TypeId} {s : Nat} {v : Value} {n : Nat} {xs : List Value} (o : w.ownsRow base t s v n xs) (hb : Below w.heap.size w w') : w'.ownsRow base t s v n xs := by
  obtain ⟨h1, h2⟩ := o
  refine ⟨h1, ?_⟩
  rcases h2 with h2 | ⟨g', cap', cur, hv, hbg, hh, hc, hm, hsz, ht⟩
  · exact .inl h2
  · refine .inr ⟨g', cap', cur, hv, hbg, ?_, hc, hm, hsz, ht⟩
    rw [hb.block g' ?_]
    · exact hh
    · rcases Nat.lt_or_ge g' w.heap.size with hlt | hge
      · exact hlt
      · rw [Array.getElem?_eq_none hge] at hh; cases hh

def pasC (h : List Ev) (i : Int) : Int := plC h [i]
theorem pasC_zero {h : List Ev} {i : Int} (hc : pasC h i = 0) : chkC h = 0 ∧ 0 ≤ i ∧ i < h.length := by
  unfold pasC plC at hc
  split at hc
  · rename_i h0
    split at hc
    · omega
    · rename_i hn
      simp [offP] at hn
      exact ⟨h0, by omega, by omega⟩
  · omega

set_option maxRecDepth 100000 in
theorem past_no (a : Option Addr) (len cap : Nat) (h : List Ev) (i : Int) (w : World) (hlc : len ≤ cap) (hm : cap ≤ maxLen) (hv : Ew w a len h) (hc : pasC h i ≠ 0) :
    Calls Tryd.prog 18 #[.slice a len cap, .int .i64 i] w fun e w' => e = .returned (.tuple #[.slice none 0 0, errV (pasC h i)]) ∧ Below w.heap.size w w' := by
  have b1 := (Below.refl w.heap.size w).alloc (Nat.le_refl _) (.cells #[.int .i64 i] 3)
  have B1 : Hid (Below w.heap.size w (w.alloc (.cells #[.int .i64 i] 3))) := b1
  have HC : Hid (pasC h i ≠ 0) := hc
  go_enter Tryd.func18, Tryd.ntmps18
  go_wp2_with fail
  refine (places_any a len cap h _ 1 1 [i] _ hlc hm (by unfold maxLen; omega) (hv.later B1.out) (Vw.one w i _)).mono ?_
  rintro e w1 ⟨rfl, hb⟩
  rw [errV_no (show plC h [i] ≠ 0 from hc)]
  have V1 : Hid (Below w.heap.size w w1) := below_up rfl B1.out hb
  clear hv hb b1
  go_wp2
  go_ret2
  refine ⟨?_, V1.out⟩
  rw [errV_no HC.out]
  rfl

set_option maxRecDepth 100000 in
set_option maxHeartbeats 1000000 in
theorem past_ok (a : Option Addr) (len cap : Nat) (h : List Ev) (i : Nat) (w : World) (hlc : len ≤ cap) (hm : cap ≤ maxLen) (hv : Ew w a len h) (hc : pasC h i = 0) :
    Calls Tryd.prog 18 #[.slice a len cap, .int .i64 i] w fun e w' => (∃ v, e = .returned (.tuple #[v, .nilIface]) ∧ w'.ownsRow w.heap.size 3 1 v (pastK h i i).length ((pastK h i i).map (Value.int .i64))) ∧ Below w.heap.size w w' := by
  have b1 := (Below.refl w.heap.size w).alloc (Nat.le_refl _) (.cells #[.int .i64 (i : Int)] 3)
  have B1 : Hid (Below w.heap.size w (w.alloc (.cells #[.int .i64 (i : Int)] 3))) := b1
  have HL := hv.1
  obtain ⟨z, i0, i1⟩ := pasC_zero hc
  obtain ⟨h60, hg⟩ := chk_zero z
  rw [HL] at hg h60
  have hil : i < len := by omega
  have HG : Hid (Good h len ∧ len ≤ 60 ∧ i < len) := ⟨hg, by omega, by omega⟩
  obtain ⟨ie, hi, hz0, hz1, hz2⟩ := info_int
  have HI : Hid (Tryd.prog.info? 3 = some ie ∧ ie.zero = some (.int .i64 0) ∧ ie.size = 1 ∧ ie.bytes = 8) := ⟨hi, hz0, hz1, hz2⟩
  clear hg i0 i1 z HL hi hz0 hz1 hz2
  go_enter Tryd.func18, Tryd.ntmps18
  go_wp2_with fail
  refine (places_any a len cap h _ 1 1 [(i : Int)] _ hlc hm (by unfold maxLen; omega) (hv.later B1.out) (Vw.one w i _)).mono ?_
  rintro e w1 ⟨rfl, hb⟩
  rw [show plC h [(i : Int)] = 0 from hc, errV_ok]
  have V1 : Hid (Below w.heap.size w w1) := below_up rfl B1.out hb
  have E1 : Hid (Ew w1 a len h) := hv.later V1.out
  clear hv hb b1 hc
  go_wp2_with fail
  refine (reaches_any a len cap h _ HG.out.2.1 E1.out HG.out.1).mono ?_
  rintro e w2 ⟨A, rfl, hb, L, hR⟩
  have V2 : Hid (Below w.heap.size w w2) := below_up rfl V1.out hb
  have E2 : Hid (Ew w2 a len h) := E1.out.later hb
  have R2 : Hid (Rd h w2 A len) := hR.rd
  clear hb hR
  go_wp2
  go_loopw [8, 20] (fun v x wr => ∃ k : Nat, k ≤ i ∧ x = .int .i64 k ∧ Hid (Below w2.heap.size w2 wr) ∧ Hid (wr.ownsRow w2.heap.size 3 1 v (pastK h i k).length ((pastK h i k).map (Value.int .i64)))) (fun _ x _ => i - (intOf x).toNat)
  case atStart => exact ⟨0, by omega, rfl, Below.refl _ _, World.ownsRow_nil _ _ _ _⟩
  case round =>
    obtain ⟨k, hk, rfl, hbel, hO⟩ := hrel
    by_cases hlt : k < i
    · have hk0 : (0 : Int) ≤ (k : Int) := by omega
      have hkl : (k : Int) < (i : Int) := by omega
      cases hb : bef h k i
      · go_wp2_with (go_at_call 28; refine (isBefore1 a A len cap k i h _ (E2.out.later hbel.out) HG.out.1 (R2.out.later hbel.out) (Nat.lt_trans hlt HG.out.2.2) HG.out.2.2).mono ?_; rintro e w' ⟨rfl, hb2⟩; rw [hb]; have W' : Hid (Below wr.heap.size wr w') := hb2; clear hb2)
        go_roundw
        case rel =>
          refine ⟨k + 1, by omega, by go_num, below_up rfl hbel.out W'.out, ?_⟩
          rw [pastK_miss hb]
          exact own_later hO.out W'.out
        case measure => simp [intOf]; omega
      · go_wp2_with fail
        refine (isBefore1 a A len cap k i h _ (E2.out.later hbel.out) HG.out.1 (R2.out.later hbel.out) (Nat.lt_trans hlt HG.out.2.2) HG.out.2.2).mono ?_
        rintro e w' ⟨rfl, hb2⟩
        rw [hb]
        have W' : Hid (Below w2.heap.size w2 w') := below_up rfl hbel.out hb2
        have O' : Hid (w'.ownsRow w2.heap.size 3 1 u8 (pastK h i k).length ((pastK h i k).map (Value.int .i64))) := own_later hO.out hb2
        have LK : Hid ((pastK h i k).length ≤ 60) := by have := pastK_len h i k; show (pastK h i k).length ≤ 60; omega
        have SZ : Hid (w2.heap.size ≤ w'.heap.size) := W'.out.size
        clear hb2
        go_wp2_with (at_builtin; refine wpList_append_own _ rfl _ _ 22 rfl w2.heap.size 3 ie (.int .i64 0) 1 8 Tryd.underlying22 HI.out.1 HI.out.2.1 HI.out.2.2.1 HI.out.2.2.2 rfl (by decide) _ (pastK h i k).length _ rfl (by exact own_later O'.out ((Below.refl _ _).alloc (Nat.le_refl _) _)) ⟨w'.heap.size, 0, none⟩ 1 1 [.int .i64 (k : Int)] rfl rfl (by exact new_int w' _ rfl (k : Int) 3) (int_one _) (by have := LK.out; unfold maxLen; omega) (by have := LK.out; omega) (by have := SZ.out; simp; omega) ?_; intro v' wn hown hgrow _; have HO : Hid _ := hown; have HGr : Hid _ := hgrow; clear hown hgrow)
        go_roundw
        case rel =>
          refine ⟨k + 1, by omega, by go_num, ?_, ?_⟩
          · exact (W'.out.alloc SZ.out _).grown HGr.out (by have := SZ.out; simp; omega) (own_base O'.out)
          · rw [pastK_hit hb, List.length_append, List.map_append]
            exact HO.out
        case measure => simp [intOf]; omega
    · have : k = i := by omega
      subst this
      go_wp2
      go_ret2
      refine ⟨⟨_, rfl, ?_⟩, below_up rfl V2.out hbel.out⟩
      have o := hO.out
      exact ⟨o.1, o.2.elim (fun q => .inl q) (fun ⟨g', c', cur, e1, e2, e3⟩ => .inr ⟨g', c', cur, e1, Nat.le_trans V2.out.size e2, e3⟩)⟩
end Go.Proofs.YtcmfhlegpgmakaaDoor.His
