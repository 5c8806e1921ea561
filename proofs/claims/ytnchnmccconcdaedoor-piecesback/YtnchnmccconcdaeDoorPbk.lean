/-
  PiecesBack: the walk.
-/
import Derived.Test.YtnchnmccconcdaeDoorPieP
import Derived.Test.YtnchnmccconcdaeDoorPibM
import Derived.Test.YtnchnmccconcdaeDoorVecC
namespace Go.Proofs.YtnchnmccconcdaeDoor.Pie
open Go.RowKit
open Go.Proofs.YtnchnmccconcdaeDoor.Fif (own_lt own_block own_form own_mono Kp ret_bool)
open Go.Proofs.YtnchnmccconcdaeDoor.Vec (Vw)
open Go.Proofs.YtnchnmccconcdaeDoor.As (Laid)
set_option linter.unusedVariables false

def abc : ByteArray := ⟨#[97, 98, 99, 100, 101]⟩
theorem abc_c : splitC ⟨#[97, 98, 99, 100, 101]⟩ 2 = 0 := by decide
theorem abc_l : splitL ⟨#[97, 98, 99, 100, 101]⟩ 2 = [(0, 3, ⟨#[97, 98]⟩), (1, 3, ⟨#[99, 100]⟩), (2, 3, ⟨#[101]⟩)] := by decide
def lit60 : Array Value := #[.bool false, .bool false, .bool false, .bool false, .bool false, .bool false, .bool false, .bool false, .bool false, .bool false, .bool false, .bool false, .bool false, .bool false, .bool false, .bool false, .bool false, .bool false, .bool false, .bool false, .bool false, .bool false, .bool false, .bool false, .bool false, .bool false, .bool false, .bool false, .bool false, .bool false, .bool false, .bool false, .bool false, .bool false, .bool false, .bool false, .bool false, .bool false, .bool false, .bool false, .bool false, .bool false, .bool false, .bool false, .bool false, .bool false, .bool false, .bool false, .bool false, .bool false, .bool false, .bool false, .bool false, .bool false, .bool false, .bool false, .bool false, .bool false, .bool false, .bool false]
theorem lit_get : ∀ i, i < 60 → lit60[i]? = some (.bool false) := by
  intro i hi
  rcases i with _ | _ | _ | _ | _ | _ | _ | _ | _ | _ | _ | _ | _ | _ | _ | _ | _ | _ | _ | _ | _ | _ | _ | _ | _ | _ | _ | _ | _ | _ | _ | _ | _ | _ | _ | _ | _ | _ | _ | _ | _ | _ | _ | _ | _ | _ | _ | _ | _ | _ | _ | _ | _ | _ | _ | _ | _ | _ | _ | _ | i <;> first | rfl | omega
/-- how all stands while pieces come -/
structure BW (w2 wr : World) (I P : Nat) (t : ByteArray) (size : Nat) (is : Nat → Bool) : Prop where
  row : wr.rowIs I 71 60 (fun k => .bool (is k))
  js : ∃ j fp, JS wr w2.heap.size P j fp ∧ BK t size j is ∧ JInv j ∧ I ∉ fp
  low : w2.heap.size ≤ I
  bel : Below w2.heap.size w2 wr
theorem BW.setK {w2 wr : World} {I P : Nat} {t : ByteArray} {size : Nat} {is : Nat → Bool} {w' : World} {j : J} {fp fp' : List Nat} {k : Nat} (h : BW w2 wr I P t size is) (hj : JS w' w2.heap.size P j fp') (hb : Below w2.heap.size wr w') (hk : KpL wr w' fp) (hn : NewL wr fp fp') (hI : I ∉ fp) (g : BK t size j (put is k)) (gi : JInv j) : BW w2 (w'.setCell ⟨I, k, none⟩ (.bool true)) I P t size (put is k) := by
  have hlt := World.rowIs.lt h.row
  have hI' : I ∉ fp' := fun q => (hn I q).elim hI (by omega)
  refine ⟨(World.rowIs.set (World.rowIs.of_block h.row (hk.2 I hlt hI)) k _).congr fun i hi => ?_, ⟨j, fp', hj.of_blocks (by simp [World.setCell]) fun b hb => Deep.blk_setCell_other _ _ _ _ fun e => hI' (by have e' : b = I := e; rw [← e']; exact hb), g, gi, hI'⟩, h.low, (h.bel.trans hb).setCell (p := ⟨I, k, none⟩) h.low _⟩
  unfold put
  by_cases e : i = k
  · rw [if_pos e, if_pos e]
  · rw [if_neg e, if_neg e]
set_option maxRecDepth 100000 in
set_option maxHeartbeats 2000000 in
theorem back_bad (t : ByteArray) (size : Int) (a : Option Addr) (len cap : Nat) (w : World) (h : splitC t size ≠ 0) :
    Calls Tryd.prog 5 #[.string t, .int .i64 size, .slice a len cap] w fun x w' => x = .returned (.bool true) ∧ Below w.heap.size w w' := by
  have H : Hid (splitC t size ≠ 0) := h
  clear h
  go_enter Tryd.func5, Tryd.ntmps5
  go_wp2_with fail
  refine (splitP_any _ 2 w).mono ?_
  rintro e w1 ⟨v, rfl, ho, hb⟩
  rw [abc_c, errF_ok]
  rw [abc_l] at ho
  obtain ⟨q, cq, rfl, _, hv⟩ := ho.view
  obtain ⟨b0, o0, rfl, _, hc⟩ := hv.2 (by decide)
  have c2 := (hc 2 (by decide)).2.2
  have c1 := (hc 1 (by decide)).1
  have c0 := (hc 0 (by decide)).2.1
  simp [pc] at c2 c1 c0
  have B1 : Hid (Below w.heap.size w w1) := hb
  clear ho hb hv hc
  simp only [List.length_cons, List.length_nil]
  go_wp2_with fail
  clear c0 c1 c2
  refine (splitP_any t size w1).mono ?_
  rintro e w2 ⟨v2, rfl, ho2, hb2⟩
  rw [errF_no H.out]
  have B2 : Hid (Below w.heap.size w w2) := B1.out.trans (hb2.mono B1.out.size)
  clear ho2 hb2
  go_wp2
  go_ret
  exact ⟨rfl, B2.out⟩
set_option maxRecDepth 100000 in
set_option maxHeartbeats 4000000 in
theorem back_ok (t : ByteArray) (size : Nat) (a : Option Addr) (len cap : Nat) (zs : List Int) (w : World) (hL : Laid w) (hz : Vw w a len zs) (hlm : len ≤ maxLen) (h1 : 1 ≤ size) (h12 : size ≤ 12) (h60 : t.size ≤ 60) :
    Calls Tryd.prog 5 #[.string t, .int .i64 (size : Int), .slice a len cap] w fun x w' => x = .returned (.bool true) ∧ Below w.heap.size w w' := by
  have hc : splitC t (size : Int) = 0 := by
    unfold splitC
    rw [if_neg (by omega), if_neg (by omega)]
  obtain ⟨n, en⟩ : ∃ n, n = many t.size size := ⟨_, rfl⟩
  have H : Hid (splitC t (size : Int) = 0 ∧ 1 ≤ size ∧ size ≤ 12 ∧ t.size ≤ 60 ∧ n = many t.size size ∧ Vw w a len zs ∧ Laid w) := ⟨hc, h1, h12, h60, en, hz, hL⟩
  have hn1 : 1 ≤ n := by rw [en]; exact (many_spec h1).1
  have hn60 : n ≤ 60 := by rw [en]; exact many_le h1 h60
  unfold maxLen at hlm
  clear hc h1 h12 h60 en hz hL
  go_enter Tryd.func5, Tryd.ntmps5
  go_wp2_with fail
  refine (splitP_any _ 2 w).mono ?_
  rintro e w1 ⟨v, rfl, ho, hb⟩
  rw [abc_c, errF_ok]
  rw [abc_l] at ho
  obtain ⟨q, cq, rfl, _, hv⟩ := ho.view
  obtain ⟨b0, o0, rfl, _, hc⟩ := hv.2 (by decide)
  have c2 := (hc 2 (by decide)).2.2
  have c1 := (hc 1 (by decide)).1
  have c0 := (hc 0 (by decide)).2.1
  simp [pc] at c2 c1 c0
  have B1 : Hid (Below w.heap.size w w1) := hb
  clear ho hb hv hc
  simp only [List.length_cons, List.length_nil]
  go_wp2_with fail
  clear c0 c1 c2
  refine (splitP_any t (size : Int) w1).mono ?_
  rintro e w2 ⟨v2, rfl, ho2, hb2⟩
  rw [H.out.1, errF_ok]
  rw [split_zero H.out.1, Int.toNat_natCast, ← H.out.2.2.2.2.1] at ho2
  obtain ⟨q2, cap2, rfl, _, hv2⟩ := ho2.view
  rw [pcs_len] at hv2 ⊢
  have V2 : Hid (Pw w2 q2 n (pcs t size n) ∧ Below w.heap.size w w2) := ⟨hv2, B1.out.trans (hb2.mono B1.out.size)⟩
  clear ho2 hb2 hv2
  go_wp2_with fail
  refine (newJ w2).mono ?_
  rintro e w3 ⟨P, fp, rfl, hj, hb3⟩
  have J3 : Hid (JS w3 w2.heap.size P start fp ∧ Below w2.heap.size w2 w3) := ⟨hj, hb3⟩
  clear hj hb3
  go_wp2_with fail
  obtain ⟨I, eI⟩ : ∃ I, I = w3.heap.size := ⟨_, rfl⟩
  obtain ⟨W, eW⟩ : ∃ W, W = w3.alloc (.cells lit60 71) := ⟨_, rfl⟩
  have eW' : W = w3.alloc (.cells #[.bool false, .bool false, .bool false, .bool false, .bool false, .bool false, .bool false, .bool false, .bool false, .bool false, .bool false, .bool false, .bool false, .bool false, .bool false, .bool false, .bool false, .bool false, .bool false, .bool false, .bool false, .bool false, .bool false, .bool false, .bool false, .bool false, .bool false, .bool false, .bool false, .bool false, .bool false, .bool false, .bool false, .bool false, .bool false, .bool false, .bool false, .bool false, .bool false, .bool false, .bool false, .bool false, .bool false, .bool false, .bool false, .bool false, .bool false, .bool false, .bool false, .bool false, .bool false, .bool false, .bool false, .bool false, .bool false, .bool false, .bool false, .bool false, .bool false, .bool false] 71) := eW
  rw [← eW', ← eI]
  have M0 : Hid (BW w2 W I P t size (fun _ => false)) := by
    have hr := World.rowIs_alloc w3 lit60 71 (fun _ => .bool false) (fun i hi => lit_get i hi)
    have hb := (Below.refl w3.heap.size w3).alloc (Nat.le_refl _) (.cells lit60 71)
    rw [← eW] at hr hb
    rw [eI]
    have hs3 := J3.out.2.size
    refine ⟨hr, ⟨start, fp, J3.out.1.of_blocks hb.size fun b q => hb.block b (J3.out.1.fp b q).2, BK.start t size, JInv.start, fun q => by have := (J3.out.1.fp _ q).2; omega⟩, hs3, J3.out.2.trans (hb.mono hs3)⟩
  clear eW eW' eI J3
  go_wp2_with fail
  go_loopw [13, 14] (fun y x wr => ∃ (i : Nat) (is : Nat → Bool), i ≤ len ∧ x = .int .i64 (i : Int) ∧ y = .int .i64 (cnt is n : Int) ∧ Hid (BW w2 wr I P t size is)) (fun _ x _ => len - (intOf x).toNat)
  case atStart =>
    refine ⟨0, fun _ => false, by omega, rfl, ?_, M0.out⟩
    have : cnt (fun _ => false) n = 0 := by simp [cnt]
    rw [this]
    rfl
  case round =>
    clear M0
    obtain ⟨i, is, hil, rfl, rfl, hQ⟩ := hrel
    have hcn := cnt_le is n
    obtain ⟨cn, ecn⟩ : ∃ cn, cn = cnt is n := ⟨_, rfl⟩
    have EC : Hid (cn = cnt is n) := ecn
    rw [← ecn] at hcn ⊢
    have hi0 : (0 : Int) ≤ (i : Int) := by omega
    by_cases hlt : i < len
    · have hilt : (i : Int) < (len : Int) := by omega
      obtain ⟨bz, oz, rfl, _, hcz⟩ := (H.out.2.2.2.2.2.1.later (V2.out.2.trans (hQ.out.bel.mono V2.out.2.size))).2 (by omega)
      have cz := hcz i hlt
      obtain ⟨z, ez⟩ : ∃ z, z = zs.getD i 0 := ⟨_, rfl⟩
      rw [← ez] at cz
      clear hcz ez ecn
      by_cases hz : z < 0 ∨ (n : Int) ≤ z
      · by_cases hz0 : z < 0
        · clear hz
          go_wp2
          go_roundw
          case rel => exact ⟨i + 1, is, by omega, by go_num, by rw [EC.out], hQ⟩
          case measure => simp [intOf]; omega
        · have hz1 : (n : Int) ≤ z := by omega
          clear hz
          go_wp2
          go_roundw
          case rel => exact ⟨i + 1, is, by omega, by go_num, by rw [EC.out], hQ⟩
          case measure => simp [intOf]; omega
      · obtain ⟨k, rfl⟩ : ∃ k : Nat, z = (k : Int) := ⟨z.toNat, by omega⟩
        have hk : k < n := by omega
        have hkI : (k : Int) < (n : Int) := by omega
        have hk0 : (0 : Int) ≤ (k : Int) := by omega
        have hk60 : (k : Int) < 60 := by omega
        obtain ⟨bl, ol, rfl, hbl, hcl⟩ := (V2.out.1.later hQ.out.bel).2 (by omega)
        obtain ⟨x0, x1, x2⟩ := hcl k hk
        have ep : pc (pcs t size n) k = ((k : Int), (many t.size size : Int), cut t size k) := pcs_get t size hk
        rw [ep] at x0 x1 x2
        simp only at x0 x1 x2
        obtain ⟨c, ec⟩ : ∃ c, c = cut t size k := ⟨_, rfl⟩
        have ECU : Hid (c = cut t size k ∧ k < n) := ⟨ec, hk⟩
        rw [← ec] at x2
        rw [← H.out.2.2.2.2.1] at x1
        obtain ⟨j, fj, hjs, hbk, hji, hIf⟩ := hQ.out.js
        have T1 : Hid (takeC j ((k : Int), (n : Int), c) = 0 ∧ takeN j ((k : Int), (n : Int), c) = (!is k) ∧ BK t size (takeJ j ((k : Int), (n : Int), c)) (put is k)) := by
          have e5 := H.out.2.2.2.2.1
          rw [ec, e5]
          rw [e5] at hk
          exact ⟨hbk.takeC H.out.2.1 H.out.2.2.1 H.out.2.2.2.1 hk, hbk.takeN H.out.2.1 H.out.2.2.1 H.out.2.2.2.1 hk, hbk.take H.out.2.1 H.out.2.2.1 H.out.2.2.2.1 hk⟩
        have J1 : Hid (JS wr w2.heap.size P j fj ∧ JInv j ∧ I ∉ fj ∧ w2.heap.size ≤ wr.heap.size) := ⟨hjs, hji, hIf, hQ.out.bel.size⟩
        clear hcl ep ec hjs hbk hji hIf hz
        go_wp2_with fail
        refine (takeP_any w2.heap.size P j fj ((k : Int), (n : Int), c) wr J1.out.1 J1.out.2.1 J1.out.2.2.2).mono ?_
        rintro e w5 ⟨fp5, rfl, hj5, hb5, hk5, hn5⟩
        rw [T1.out.1, T1.out.2.1, errF_ok]
        have R5 : Hid (BW w2 (w5.setCell ⟨I, k, none⟩ (.bool true)) I P t size (put is k)) := hQ.out.setK hj5 hb5 hk5 hn5 J1.out.2.2.1 T1.out.2.2 (J1.out.2.1.take _)
        have r5 := World.rowIs.of_block hQ.out.row (hk5.2 I (World.rowIs.lt hQ.out.row) J1.out.2.2.1)
        have y0 : w5.cell? ⟨I, k, none⟩ = some (.bool (is k)) := World.rowIs.cell r5 (i := k) (by omega)
        have f0 : w5.frozen? ⟨I, k, none⟩ = false := World.rowIs.frozen r5 k
        clear hj5 hb5 hk5 hn5 r5 x0 x1 x2 cz
        have HC : Hid (cnt (put is k) n = cnt is n + (if k < n ∧ is k = false then 1 else 0)) := cnt_put is k n
        cases his : is k
        · rw [his] at y0 HC
          simp only [Bool.not_false]
          go_wp2
          go_roundw
          case rel => exact ⟨i + 1, put is k, by omega, by go_num, by rw [HC.out, if_pos ⟨ECU.out.2, rfl⟩, ← EC.out]; go_num, R5⟩
          case measure => simp [intOf]; omega
        · rw [his] at y0 HC
          simp only [Bool.not_true]
          go_wp2
          go_roundw
          case rel => exact ⟨i + 1, put is k, by omega, by go_num, by rw [HC.out, if_neg (by simp), ← EC.out]; rfl, R5⟩
          case measure => simp [intOf]; omega
    · have hi : i = len := by omega
      subst hi
      obtain ⟨j, fj, hjs, hbk, hji, hIf⟩ := hQ.out.js
      have J1 : Hid (JS wr w2.heap.size P j fj ∧ JInv j ∧ BK t size j is ∧ Below w.heap.size w wr) := ⟨hjs, hji, hbk, V2.out.2.trans (hQ.out.bel.mono V2.out.2.size)⟩
      clear hjs hbk hji hIf hQ ecn
      go_wp2_with fail
      refine (textP_any w2.heap.size P j fj wr J1.out.1 J1.out.2.1).mono ?_
      rintro e w6 ⟨rfl, hb6⟩
      have B6 : Hid (Below wr.heap.size wr w6 ∧ Below w.heap.size w w6) := ⟨hb6, J1.out.2.2.2.trans (hb6.mono J1.out.2.2.2.size)⟩
      have J6 : Hid (JS w6 w2.heap.size P j fj) := J1.out.1.of_blocks hb6.size fun b q => hb6.block b (J1.out.1.fp b q).2
      clear hb6
      by_cases hc : cn < n
      · obtain ⟨p1, p2⟩ := J1.out.2.2.1.part (by rw [← H.out.2.2.2.2.1, ← EC.out]; exact hc)
        rw [p1, p2, errF_no (by decide)]
        clear p1 p2
        have hcI : (cn : Int) < (n : Int) := by omega
        go_wp2_with fail
        have q := errF_same 5 w6 (H.out.2.2.2.2.2.2.later B6.out.2)
        rw [errF_no (by decide)] at q
        refine q.mono ?_
        clear q
        rintro e w7 ⟨rfl, hb7⟩
        have B7 : Hid (Below w6.heap.size w6 w7 ∧ Below w.heap.size w w7) := ⟨hb7, B6.out.2.trans (hb7.mono B6.out.2.size)⟩
        clear hb7
        by_cases h0 : cn = 0
        · have d0 : ((cn : Int) == 0) = true := by simp; omega
          go_wp2
          go_ret
          exact ⟨rfl, B7.out.2⟩
        · have d0 : ((cn : Int) == 0) = false := by simp; omega
          have hll : (lacks j).length = n - cn := by
            have q := J1.out.2.2.1.lackLen (by rw [← H.out.2.2.2.2.1, ← EC.out]; exact h0)
            rw [← H.out.2.2.2.2.1, ← EC.out] at q
            rw [← q]
            simp [lacks]
          have HL : Hid ((lacks j).length = n - cn) := hll
          clear hll
          go_wp2_with fail
          refine (lacksP_any w2.heap.size P j fj w7 (J6.out.of_blocks B7.out.1.size fun b q => B7.out.1.block b (J6.out.fp b q).2) J1.out.2.1).mono ?_
          rintro e w8 ⟨v8, rfl, ho8, hb8⟩
          rw [HL.out] at ho8
          obtain ⟨q8, c8, rfl⟩ := own_form ho8
          have B8 : Hid (Below w.heap.size w w8) := B7.out.2.trans (hb8.mono B7.out.2.size)
          have e8 : ((n - cn : Nat) : Int) = (n : Int) - (cn : Int) := by omega
          have d8 : ((n : Int) - (cn : Int) == (n : Int) - (cn : Int)) = true := by simp
          clear ho8 hb8
          go_wp2
          go_ret
          exact ⟨rfl, B8.out⟩
      · obtain ⟨p1, p2, p3⟩ := J1.out.2.2.1.whole H.out.2.1 (by rw [← H.out.2.2.2.2.1, ← EC.out]; omega)
        rw [p1, p2, errF_ok]
        have P3 : Hid (lacks j = []) := p3
        clear p1 p2 p3
        have hcI : ¬ (cn : Int) < (n : Int) := by omega
        have dt : (t.toList == t.toList) = true := by simp
        go_wp2_with fail
        refine (lacksP_any w2.heap.size P j fj w6 J6.out J1.out.2.1).mono ?_
        rintro e w8 ⟨v8, rfl, ho8, hb8⟩
        rw [P3.out] at ho8
        obtain ⟨q8, c8, rfl⟩ := own_form ho8
        have B8 : Hid (Below w.heap.size w w8) := B6.out.2.trans (hb8.mono B6.out.2.size)
        clear ho8 hb8
        go_wp2
        go_ret
        exact ⟨rfl, B8.out⟩
theorem back_any (t : ByteArray) (size : Int) (a : Option Addr) (len cap : Nat) (zs : List Int) (w : World) (hL : Laid w) (hz : Vw w a len zs) (hlm : len ≤ maxLen) :
    Calls Tryd.prog 5 #[.string t, .int .i64 size, .slice a len cap] w fun x w' => x = .returned (.bool true) ∧ Below w.heap.size w w' := by
  by_cases h : splitC t size = 0
  · obtain ⟨h1, h2, h3⟩ := split_size h
    obtain ⟨s, rfl⟩ : ∃ s : Nat, size = (s : Int) := ⟨size.toNat, by omega⟩
    exact back_ok t s a len cap zs w hL hz hlm (by omega) (by omega) h1
  · exact back_bad t size a len cap w h
end Go.Proofs.YtnchnmccconcdaeDoor.Pie
