/-
  No gold is lost in a picture: the walk of PictureKeeps.
-/
import Derived.Test.YtgcdbcljneoifaiDoorPicS
import Derived.Test.YtgcdbcljneoifaiDoorRowsF
namespace Go.Proofs.YtgcdbcljneoifaiDoor.Pic
open Go.RowKit
open Go.Proofs.YtgcdbcljneoifaiDoor.As (Laid)
open Go.Proofs.YtgcdbcljneoifaiDoor.Fif (ret_bool)
open Go.Proofs.YtgcdbcljneoifaiDoor.Vec (Vw Rw)
open Go.Proofs.YtgcdbcljneoifaiDoor.Sep (KpL NewL)
open Go.Proofs.YtgcdbcljneoifaiDoor.Ldr (errF errF_ok errF_no errF_same Sl)
set_option linter.unusedVariables false

/-! the first fact -/
def e0 : G := start [5, 0]
def e1 : G := pay e0 0 1 2
def e2 : G := beg e1 1
def e3 : G := come e2 1 0
def e4 : G := come e3 0 1
def e5 : G := come e4 0 1
theorem e_fact : newC [5, 0] = 0 ∧ payC e0 0 1 2 = 0 ∧ begC e1 1 = 0 ∧ comeC e2 1 0 = 0 ∧ comeC e3 0 1 = 0 ∧ comeN e3 0 1 = 2 ∧ comeC e4 0 1 = 0 ∧ comeN e4 0 1 = 0 ∧ sumC e5 = 0 ∧ had e5 = 3 ∧ onw e5 = 2 := by decide
theorem e_inv : Inv (S (fun i => ([5, 0] : List Int).getD i 0) 2) e0 := Inv.start e_fact.1
set_option maxRecDepth 100000 in
/-- does it show as much as there is -/
theorem shows_any {w wr : World} {P : Nat} {g : G} {fp : List Nat} {all : Int} (h : TO w wr P g fp) (hi : Inv all g) (hL : Laid w) (ha : 0 ≤ all ∧ all ≤ 5000) : Calls Tryd.prog 25 #[.pointer (some ⟨P, 0, none⟩), .int .i64 all] wr fun e w' => e = .returned (.bool true) ∧ Below wr.heap.size wr w' := by
  by_cases hd : Dn g
  · have sd := sum_done hd
    have hk := hi.keeps hd
    obtain ⟨x, ex⟩ : ∃ x, x = had g := ⟨_, rfl⟩
    obtain ⟨y, ey⟩ : ∃ y, y = onw g := ⟨_, rfl⟩
    have hx : 0 ≤ x := by rw [ex, sd.2.2.1]; exact S_pos hi.wpos
    have hy : 0 ≤ y := by rw [ey, sd.2.2.2]; exact hi.ow0
    have hxy : x + y = all := by rw [ex, ey, sd.2.2.1, sd.2.2.2]; exact hk
    have hxg : x ≥ 0 := hx
    have hyg : y ≥ 0 := hy
    have hx2 : x ≤ 5000 := by omega
    have hy2 : y ≤ 5000 := by omega
    have HG : Hid (TO w wr P g fp ∧ Inv all g ∧ x = had g ∧ y = onw g ∧ sumC g = 0 ∧ doneB g = true) := ⟨h, hi, ex, ey, sd.2.1, sd.1⟩
    have dxy : (x + y == all) = true := by simp [hxy]
    clear h hi hL sd hk ex ey hd
    go_enter Tryd.func25, Tryd.ntmps25
    go_wp2_with fail
    refine (sumG w.heap.size P g fp all wr HG.out.1.us HG.out.2.1).mono ?_
    rintro e w1 ⟨rfl, hb1⟩
    rw [← HG.out.2.2.1, ← HG.out.2.2.2.1, HG.out.2.2.2.2.1, errF_ok]
    obtain ⟨W2, eW2⟩ : ∃ W2, W2 = w1.alloc (.cells #[.int .i64 x, .int .i64 y] 60) := ⟨_, rfl⟩
    obtain ⟨B2, eB2⟩ : ∃ B2, B2 = w1.heap.size := ⟨_, rfl⟩
    have b2 : Below w1.heap.size w1 W2 := by rw [eW2]; exact (Below.refl _ _).alloc (Nat.le_refl _) _
    have O2 : Hid (TO w W2 P g fp ∧ Below wr.heap.size wr W2 ∧ W2.cell? ⟨B2, 0, none⟩ = some (.int .i64 x) ∧ W2.cell? ⟨B2, 1, none⟩ = some (.int .i64 y) ∧ B2 < W2.heap.size) := by
      refine ⟨(HG.out.1.later hb1).later b2, hb1.trans (b2.mono hb1.size), ?_, ?_, by rw [eW2, eB2]; simp⟩
      · rw [eW2, eB2]; go_cell
      · rw [eW2, eB2]; go_cell
    clear hb1 b2
    go_upto_region 2 with fail
    rw [← eW2, ← eB2]
    clear eW2 eB2
    go_wp2_with fail
    refine (doneG w.heap.size P g fp all W2 O2.out.1.us HG.out.2.1).mono ?_
    rintro e w3 ⟨rfl, hb3⟩
    rw [HG.out.2.2.2.2.2]
    have B3 : Hid (Below wr.heap.size wr w3) := O2.out.2.1.trans (hb3.mono O2.out.2.1.size)
    have c0 := (hb3.cell (p := ⟨B2, 0, none⟩) O2.out.2.2.2.2).trans O2.out.2.2.1
    have c1 := (hb3.cell (p := ⟨B2, 1, none⟩) O2.out.2.2.2.2).trans O2.out.2.2.2.1
    clear hb3
    go_wp2
    go_ret
    exact ⟨rfl, B3.out⟩
  · have ed : doneB g = false := decide_eq_false hd
    have es : sumC g = 6 := if_neg hd
    obtain ⟨x, ex⟩ : ∃ x, x = had g := ⟨_, rfl⟩
    obtain ⟨y, ey⟩ : ∃ y, y = onw g := ⟨_, rfl⟩
    have HG : Hid (TO w wr P g fp ∧ Inv all g ∧ x = had g ∧ y = onw g ∧ sumC g = 6 ∧ doneB g = false ∧ Laid w) := ⟨h, hi, ex, ey, es, ed, hL⟩
    clear h hi hL hd ed es ex ey
    go_enter Tryd.func25, Tryd.ntmps25
    go_wp2_with fail
    refine (sumG w.heap.size P g fp all wr HG.out.1.us HG.out.2.1).mono ?_
    rintro e w1 ⟨rfl, hb1⟩
    rw [← HG.out.2.2.1, ← HG.out.2.2.2.1, HG.out.2.2.2.2.1]
    obtain ⟨W2, eW2⟩ : ∃ W2, W2 = w1.alloc (.cells #[.int .i64 x, .int .i64 y] 60) := ⟨_, rfl⟩
    have b2 : Below w1.heap.size w1 W2 := by rw [eW2]; exact (Below.refl _ _).alloc (Nat.le_refl _) _
    have O2 : Hid (TO w W2 P g fp ∧ Below wr.heap.size wr W2) := ⟨(HG.out.1.later hb1).later b2, hb1.trans (b2.mono hb1.size)⟩
    clear hb1 b2
    go_upto_region 2 with fail
    rw [← eW2]
    clear eW2
    go_wp2_with fail
    refine (doneG w.heap.size P g fp all W2 O2.out.1.us HG.out.2.1).mono ?_
    rintro e w3 ⟨rfl, hb3⟩
    rw [HG.out.2.2.2.2.2.1]
    have B3 : Hid (Below wr.heap.size wr w3 ∧ Below w.heap.size w w3) := ⟨O2.out.2.trans (hb3.mono O2.out.2.size), (O2.out.1.later hb3).bel⟩
    clear hb3
    go_wp2_with fail
    refine (errF_same 6 w3 (HG.out.2.2.2.2.2.2.later B3.out.2)).mono ?_
    rintro e w4 ⟨rfl, hb4⟩
    have B4 : Hid (Below wr.heap.size wr w4) := B3.out.1.trans (hb4.mono B3.out.1.size)
    clear hb4
    go_wp2
    go_ret
    exact ⟨rfl, B4.out⟩
/-- how it stands -/
def GQ (w wr : World) (P n : Nat) (all : Int) (bg : Bool) : Prop := ∃ g fp, TO w wr P g fp ∧ Inv all g ∧ g.n = n ∧ g.begun = bg
theorem GQ.bel {w wr : World} {P n : Nat} {all : Int} {bg : Bool} (h : GQ w wr P n all bg) : Below w.heap.size w wr := by
  obtain ⟨_, _, h, _⟩ := h
  exact h.bel
theorem GQ.later {w wr w' : World} {P n : Nat} {all : Int} {bg : Bool} (h : GQ w wr P n all bg) (hb : Below wr.heap.size wr w') : GQ w w' P n all bg := by
  obtain ⟨g, fp, h1, h2, h3⟩ := h
  exact ⟨g, fp, h1.later hb, h2, h3⟩
/-- once around, so far -/
def Rd (r f t : Nat) (g : G) : Prop := if r = 0 then D1 f t g else D2 f t g
def GR (w wr : World) (P n : Nat) (all : Int) (bg : Bool) (r f t : Nat) : Prop := ∃ g fp, TO w wr P g fp ∧ Inv all g ∧ g.n = n ∧ g.begun = bg ∧ Rd r f t g
/-- words of a way come -/
def GS (w wr : World) (P n : Nat) (all : Int) (bg : Bool) (r f t i : Nat) : Prop := ∃ g fp, TO w wr P g fp ∧ Inv all g ∧ g.n = n ∧ g.begun = bg ∧ Rd r f t g ∧ (f = t → i = 0) ∧ (f ≠ t → i + (g.way f t).length ≤ 41)
def GT (w wr : World) (P n : Nat) (all : Int) (bg : Bool) (r : Nat) : Prop := ∃ g fp, TO w wr P g fp ∧ Inv all g ∧ g.n = n ∧ g.begun = bg ∧ (1 ≤ r → Q2 g) ∧ (2 ≤ r → D2 n 0 g)
theorem GT.begin {w wr : World} {P n : Nat} {all : Int} {bg : Bool} {r : Nat} (h : GT w wr P n all bg r) : GR w wr P n all bg r 0 0 := by
  obtain ⟨g, fp, h1, h2, h3, h4, h5, h6⟩ := h
  refine ⟨g, fp, h1, h2, h3, h4, ?_⟩
  unfold Rd
  split
  · exact D1.start h2
  · exact D2.start (h5 (by omega))
theorem GR.finish {w wr : World} {P n : Nat} {all : Int} {bg : Bool} {r : Nat} (h : GR w wr P n all bg r n 0) : GT w wr P n all bg (r + 1) := by
  obtain ⟨g, fp, h1, h2, h3, h4, h5⟩ := h
  subst h3
  refine ⟨g, fp, h1, h2, rfl, h4, fun _ => ?_, fun z => ?_⟩
  · unfold Rd at h5
    split at h5
    · exact h5.q2
    · exact h5.1
  · unfold Rd at h5
    rw [if_neg (by omega)] at h5
    exact h5
theorem GR.row {w wr : World} {P n : Nat} {all : Int} {bg : Bool} {r f : Nat} (h : GR w wr P n all bg r f n) : GR w wr P n all bg r (f + 1) 0 := by
  obtain ⟨g, fp, h1, h2, h3, h4, h5⟩ := h
  subst h3
  refine ⟨g, fp, h1, h2, rfl, h4, ?_⟩
  unfold Rd at h5 ⊢
  split
  · rename_i z; rw [if_pos z] at h5; exact h5.row
  · rename_i z; rw [if_neg z] at h5; exact h5.row
theorem GR.words {w wr : World} {P n : Nat} {all : Int} {bg : Bool} {r f t : Nat} (h : GR w wr P n all bg r f t) : GS w wr P n all bg r f t 0 := by
  obtain ⟨g, fp, h1, h2, h3, h4, h5⟩ := h
  refine ⟨g, fp, h1, h2, h3, h4, h5, fun _ => rfl, fun _ => ?_⟩
  have z := h2.len f t
  have z2 : (if g.has f = true then 41 else 40) ≤ 41 := by split <;> omega
  omega
/-- one word of a way comes, or none is there -/
theorem gsCome {w wr : World} {P n : Nat} {all : Int} {bg : Bool} {r f t i : Nat} (h : GS w wr P n all bg r f t i) (hf : f < n) (ht : t < n) : Calls Tryd.prog 23 #[.pointer (some ⟨P, 0, none⟩), .int .i64 (f : Int), .int .i64 (t : Int)] wr fun e w' => ∃ x c, e = .returned (.tuple #[.int .i64 x, errF c]) ∧ ((c = 0 ∧ i < 41 ∧ GS w w' P n all bg r f t (i + 1)) ∨ (c ≠ 0 ∧ GR w w' P n all bg r f (t + 1))) := by
  obtain ⟨g, fp, h1, h2, h3, h4, h5, h6, h7⟩ := h
  subst h3
  refine (comeG w.heap.size P g fp all (f : Int) (t : Int) wr h1.us h2 h1.bel.size).mono ?_
  rintro e w' ⟨fp', rfl, hA, hb, -, -⟩
  refine ⟨_, _, rfl, ?_⟩
  have hT : TO w w' P (come g (f : Int) (t : Int)) fp' := ⟨hA, h1.bel.trans hb⟩
  by_cases hc : comeC g (f : Int) (t : Int) = 0
  · have hne : f ≠ t := fun q => by
      have z := (come_ok hc).1
      rw [q, way_same ht] at z
      cases z
    have hl := come_len hne hc
    have h7' := h7 hne
    refine .inl ⟨hc, by omega, _, fp', hT, h2.come _ _, come_n _ _ _, by rw [come_begun]; exact h4, ?_, fun q => absurd q hne, fun _ => by omega⟩
    unfold Rd at h5 ⊢
    split
    · rename_i z; rw [if_pos z] at h5; exact h5.come _ _
    · rename_i z; rw [if_neg z] at h5; exact h5.come h2 hf ht
  · have eg : come g (f : Int) (t : Int) = g := if_neg hc
    rw [eg] at hT
    have hd : f = t ∨ g.way f t = [] := by
      by_cases q : f = t
      · exact .inl q
      · refine .inr ?_
        unfold comeC at hc
        rw [if_pos (way_nat hf ht q), Int.toNat_natCast, Int.toNat_natCast] at hc
        by_cases y : (g.way f t).length = 0
        · exact List.length_eq_zero_iff.1 y
        · rw [if_neg y] at hc; exact absurd rfl hc
    refine .inr ⟨hc, g, fp', hT, h2, rfl, h4, ?_⟩
    unfold Rd at h5 ⊢
    split
    · rename_i z; rw [if_pos z] at h5; exact h5.next h2 hf hd
    · rename_i z; rw [if_neg z] at h5; exact h5.next h2 hd
def R4p (wo wz : World) : Prop := ∃ f : Nat → Int, wz.rowIs wo.heap.size 63 4 (fun t => .int .i64 (f t)) ∧ Below wo.heap.size wo wz
set_option maxRecDepth 100000 in
set_option maxHeartbeats 8000000 in
theorem keepsP_any (q : Option Addr) (len cap : Nat) (l : List Int) (a : Option Addr) (len' cap' : Nat) (ls : List (List Int)) (w : World) (hL : Laid w) (hs : Sl w (.slice q len cap) l) (hR : Rw w a len' ls) : Calls Tryd.prog 5 #[.slice q len cap, .slice a len' cap'] w fun e w' => e = .returned (.bool true) ∧ Below w.heap.size w w' := by
  obtain ⟨hl, hv, -, -⟩ := sl_vwP hs
  have hlm' : len' ≤ maxLen := hR.2.1
  have HS : Hid (Sl w (.slice q len cap) l ∧ Laid w ∧ len = l.length ∧ Vw w q len l ∧ Rw w a len' ls) := ⟨hs, hL, hl, hv, hR⟩
  have hlm : len ≤ maxLen := by have := (sl_vwP hs).2.2; omega
  clear hs hL hl hv hR
  obtain ⟨W0, eW0⟩ : ∃ W0, W0 = w.alloc (.cells #[.int .i64 5, .int .i64 0] 3) := ⟨_, rfl⟩
  have B0 : Hid (Below w.heap.size w W0 ∧ Sl W0 (.slice (some ⟨w.heap.size, 0, none⟩) 2 2) [5, 0]) := by
    have r := World.rowIs_alloc w #[.int .i64 5, .int .i64 0] 3 (fun i => .int .i64 (([5, 0] : List Int).getD i 0)) (fun i hi => by rcases i with _ | _ | i <;> first | rfl | (exfalso; have : _ < 2 := hi; omega))
    rw [eW0]
    exact ⟨(Below.refl _ _).alloc (Nat.le_refl _) _, ⟨some ⟨w.heap.size, 0, none⟩, 2, rfl, Nat.le_refl _, by decide, rfl, fun _ => ⟨w.heap.size, 0, rfl, by simp, fun k hk => by rw [Nat.zero_add]; exact World.rowIs.cell r hk⟩⟩⟩
  go_enter Tryd.func5, Tryd.ntmps5
  go_wp2_with fail
  rw [← eW0]
  clear eW0
  refine (newG_ok [5, 0] (some ⟨w.heap.size, 0, none⟩) 2 2 W0 B0.out.2 e_fact.1).mono ?_
  rintro e x1 ⟨P1, f1, rfl, hA, hb⟩
  have A1 : Hid (TO w x1 P1 e0 f1) := ⟨hA.lower B0.out.1.size, B0.out.1.trans (hb.mono B0.out.1.size)⟩
  clear hA hb
  go_wp2_with fail
  refine (payG w.heap.size P1 e0 f1 _ 0 1 2 x1 A1.out.us e_inv A1.out.bel.size).mono ?_
  rintro e x2 ⟨f2, rfl, hA, hb, -, -⟩
  rw [e_fact.2.1, errF_ok]
  have A2 : Hid (TO w x2 P1 e1 f2) := ⟨hA, A1.out.bel.trans hb⟩
  clear hA hb A1
  go_wp2_with fail
  refine (begG w.heap.size P1 e1 f2 _ 1 x2 A2.out.us (e_inv.pay 0 1 2) A2.out.bel.size).mono ?_
  rintro e x3 ⟨f3, rfl, hA, hb, -, -⟩
  rw [e_fact.2.2.1, errF_ok]
  have A3 : Hid (TO w x3 P1 e2 f3) := ⟨hA, A2.out.bel.trans hb⟩
  clear hA hb A2
  go_wp2_with fail
  refine (comeG w.heap.size P1 e2 f3 _ 1 0 x3 A3.out.us ((e_inv.pay 0 1 2).beg_ 1) A3.out.bel.size).mono ?_
  rintro e x4 ⟨f4, rfl, hA, hb, -, -⟩
  rw [e_fact.2.2.2.1, errF_ok]
  obtain ⟨z0, ez0⟩ : ∃ z0, z0 = comeN e2 1 0 := ⟨_, rfl⟩
  rw [← ez0]
  have A4 : Hid (TO w x4 P1 e3 f4) := ⟨hA, A3.out.bel.trans hb⟩
  clear hA hb A3 ez0
  go_wp2_with fail
  refine (comeG w.heap.size P1 e3 f4 _ 0 1 x4 A4.out.us (((e_inv.pay 0 1 2).beg_ 1).come 1 0) A4.out.bel.size).mono ?_
  rintro e x5 ⟨f5, rfl, hA, hb, -, -⟩
  rw [e_fact.2.2.2.2.1, e_fact.2.2.2.2.2.1, errF_ok]
  have A5 : Hid (TO w x5 P1 e4 f5) := ⟨hA, A4.out.bel.trans hb⟩
  clear hA hb A4
  go_wp2_with fail
  refine (comeG w.heap.size P1 e4 f5 _ 0 1 x5 A5.out.us ((((e_inv.pay 0 1 2).beg_ 1).come 1 0).come 0 1) A5.out.bel.size).mono ?_
  rintro e x6 ⟨f6, rfl, hA, hb, -, -⟩
  rw [e_fact.2.2.2.2.2.2.1, e_fact.2.2.2.2.2.2.2.1, errF_ok]
  have A6 : Hid (TO w x6 P1 e5 f6) := ⟨hA, A5.out.bel.trans hb⟩
  clear hA hb A5
  go_wp2_with fail
  refine (sumG w.heap.size P1 e5 f6 _ x6 A6.out.us (((((e_inv.pay 0 1 2).beg_ 1).come 1 0).come 0 1).come 0 1)).mono ?_
  rintro e x7 ⟨rfl, hb⟩
  rw [e_fact.2.2.2.2.2.2.2.2.1, e_fact.2.2.2.2.2.2.2.2.2.1, e_fact.2.2.2.2.2.2.2.2.2.2, errF_ok]
  have B7 : Hid (Below w.heap.size w x7) := A6.out.bel.trans (hb.mono A6.out.bel.size)
  clear hb A6
  go_wp2_with fail
  obtain ⟨X8, eX8⟩ : ∃ X8, X8 = x7.alloc (.cells #[.int .i64 3, .int .i64 2] 60) := ⟨_, rfl⟩
  have B8 : Hid (Below w.heap.size w X8) := by rw [eX8]; exact B7.out.alloc B7.out.size _
  rw [← eX8]
  clear eX8
  by_cases hc : newC l = 0
  · have h5 := (len_start l hc).1
    have HN : Hid (newC l = 0) := hc
    have hl5 : len ≤ 5 := by have := HS.out.2.2.1; omega
    obtain ⟨all, eall⟩ : ∃ all, all = S (fun i => l.getD i 0) l.length := ⟨_, rfl⟩
    have hall : 0 ≤ all ∧ all ≤ 5000 := by rw [eall]; exact S_bound hc (Nat.le_refl _)
    have HA : Hid (all = S (fun i => l.getD i 0) l.length) := eall
    clear hc eall h5
    refine (newG_ok l q len cap X8 (HS.out.1.later B8.out) HN.out).mono ?_
    rintro e x9 ⟨P, f9, rfl, hA, hb⟩
    have G9 : Hid (GQ w x9 P len all false) := ⟨start l, f9, ⟨hA.lower B8.out.size, B8.out.trans (hb.mono B8.out.size)⟩, by rw [HA.out]; exact Inv.start HN.out, HS.out.2.2.1.symm, rfl⟩
    clear hA hb B8 B7
    go_upto_block 0 with fail
    go_cut [17, 18] from 111 to 122 (fun x17 x18 wc => x17 = .int .i64 all ∧ wc = x9)
    case first =>
      go_wp2_with fail
      go_loopw [17, 18] (fun y x wr => ∃ i : Nat, i ≤ len ∧ x = .int .i64 (i : Int) ∧ y = .int .i64 (S (fun i => l.getD i 0) i) ∧ wr = x9) (fun _ x _ => len - (intOf x).toNat)
      case atStart => exact ⟨0, by omega, rfl, rfl, rfl⟩
      case round =>
        obtain ⟨i, hi, rfl, rfl, rfl⟩ := hrel
        by_cases hil : i < len
        · have hil' : (i : Int) < (len : Int) := by omega
          have hi0 : (0 : Int) ≤ (i : Int) := by omega
          obtain ⟨b, o, rfl, hlt, hcl⟩ := HS.out.2.2.2.1.2 (by omega)
          have c0 := (G9.out.bel.cell (p := ⟨b, o + i, none⟩) hlt).trans (hcl i hil)
          obtain ⟨x, ex⟩ : ∃ x, x = l.getD i 0 := ⟨_, rfl⟩
          obtain ⟨s, es⟩ : ∃ s, s = S (fun i => l.getD i 0) i := ⟨_, rfl⟩
          rw [← ex] at c0
          have hs := S_bound HN.out (k := i) (by rw [← HS.out.2.2.1]; exact hi)
          have hg := gold_le HN.out (i := i) (by rw [← HS.out.2.2.1]; exact hil)
          rw [← es] at hs
          rw [← ex] at hg
          rw [← es]
          have NS : Hid (S (fun i => l.getD i 0) (i + 1) = s + x) := by rw [es, ex]; rfl
          clear hcl hlt ex es
          go_wp2
          go_roundw
          case rel => exact ⟨i + 1, by omega, by go_num, by rw [NS.out], by first | rfl | trivial⟩
          case measure => simp [intOf]; omega
        · have hil' : ¬ (i : Int) < (len : Int) := by omega
          have e : i = len := by omega
          obtain ⟨s, es⟩ : ∃ s, s = S (fun i => l.getD i 0) i := ⟨_, rfl⟩
          have NS : Hid (s = all) := by show _ = _; rw [es, HA.out, e, HS.out.2.2.1]
          rw [← es]
          clear e es
          go_wp2
          go_meet
          exact ⟨by rw [NS.out], rfl⟩
    case rest =>
      obtain ⟨rfl, ewc⟩ := hcut
      subst ewc
      obtain ⟨w1, ew1⟩ : ∃ w1, w1 = wc := ⟨_, rfl⟩
      subst ew1
      go_upto_block 2 with fail
      go_cut [19, 20, 21, 22, 23] from 123 to 191 (fun x19 x20 x21 x22 x23 wd => ∃ bg : Bool, x19 = .bool bg ∧ Hid (GQ w wd P len all bg))
      case first =>
        go_wp2_with fail
        go_loopw [19, 20, 21, 22, 23] (fun z x x21 x22 x23 wr => ∃ (i : Nat) (bg : Bool), i ≤ len' ∧ i ≤ 150 ∧ z = .bool bg ∧ x = .int .i64 (i : Int) ∧ Hid (GQ w wr P len all bg)) (fun _ x _ _ _ _ => len' - (intOf x).toNat)
        case atStart => exact ⟨0, false, by omega, by omega, rfl, rfl, G9⟩
        case round =>
          obtain ⟨i, bg, hi, hi150, rfl, rfl, hC⟩ := hrel
          by_cases hgo : (i : Int) < (len' : Int) ∧ (i : Int) < 150
          · obtain ⟨hil, hil2⟩ := hgo
            obtain ⟨wo, ewo⟩ : ∃ wo, wo = wr := ⟨_, rfl⟩
            subst ewo
            have hi0 : (0 : Int) ≤ (i : Int) := by omega
            have BO : Hid (Below w.heap.size w wo) := hC.out.bel
            obtain ⟨rb, ro, rfl, hrb, hrc⟩ := (HS.out.2.2.2.2.later BO.out).2.2 (by omega)
            obtain ⟨qi, ci, g0, hvi, hmi⟩ := hrc i (by omega)
            obtain ⟨li, eli⟩ : ∃ li, li = (ls.getD i []).length := ⟨_, rfl⟩
            rw [← eli] at g0 hvi hmi
            have XV : Hid (wo.cell? ⟨rb, ro + i, none⟩ = some (.slice qi li ci) ∧ rb < wo.heap.size ∧ Vw wo qi li (ls.getD i [])) := ⟨g0, hrb, hvi⟩
            have hmi2 : (li : Int) ≤ 9223372036854775807 := by unfold maxLen at hmi; omega
            clear hrc g0 hrb hvi hmi eli
            have A1 : Hid (R4p wo (wo.alloc (.cells #[.int .i64 0, .int .i64 0, .int .i64 0, .int .i64 0] 63))) := by
              refine ⟨fun _ => 0, ?_, (Below.refl _ _).alloc (Nat.le_refl _) _⟩
              exact World.rowIs_alloc wo #[.int .i64 0, .int .i64 0, .int .i64 0, .int .i64 0] 63 _ (fun t ht => by rcases t with _ | _ | _ | _ | t <;> first | rfl | (exfalso; have : _ < 4 := ht; omega))
            go_upto_block 4 with fail
            go_cut [22] from 133 to 154 (fun x wc => Hid (R4p wo wc))
            case first =>
              go_wp2_with fail
              go_loopw [22] (fun y wz => ∃ j : Nat, j ≤ 4 ∧ y = .int .i64 (j : Int) ∧ Hid (R4p wo wz)) (fun y _ => 4 - (intOf y).toNat)
              case atStart => exact ⟨0, by omega, rfl, A1⟩
              case round =>
                obtain ⟨j, hj, rfl, hA⟩ := hrel
                have x0 : wr.cell? ⟨rb, ro + i, none⟩ = some (.slice qi li ci) := by
                  obtain ⟨f, _, hb⟩ := hA.out
                  exact (hb.cell (p := ⟨rb, ro + i, none⟩) XV.out.2.1).trans XV.out.1
                have hj0 : (0 : Int) ≤ (j : Int) := by omega
                by_cases hjl : (j : Int) < (li : Int) ∧ (j : Int) < 4
                · obtain ⟨hjl, hj3⟩ := hjl
                  obtain ⟨f, hf, hb⟩ := hA.out
                  obtain ⟨bi, oi, rfl, hlti, hci⟩ := XV.out.2.2.2 (by omega)
                  have y0 := (hb.cell (p := ⟨bi, oi + j, none⟩) hlti).trans (hci j (by omega))
                  have c0 := World.rowIs.cell hf (i := j) (by omega)
                  have z0 := World.rowIs.frozen hf j
                  obtain ⟨yv, ey⟩ : ∃ yv, yv = (ls.getD i []).getD j 0 := ⟨_, rfl⟩
                  rw [← ey] at y0
                  have FB : Hid (wr.rowIs wo.heap.size 63 4 (fun t => .int .i64 (f t)) ∧ Below wo.heap.size wo wr) := ⟨hf, hb⟩
                  clear hf hb hci hlti ey hA
                  go_wp2
                  go_roundw
                  case rel =>
                    refine ⟨j + 1, by omega, by go_num, fun t => if t = j then yv else f t, (World.rowIs.set FB.out.1 j _).congr fun t ht => ?_, FB.out.2.setCell (p := ⟨wo.heap.size, j, none⟩) (Nat.le_refl _) _⟩
                    by_cases e : t = j
                    · rw [if_pos e]; simp [e]
                    · rw [if_neg e]; simp [e]
                  case measure => simp [intOf]; omega
                · rcases (show ((j : Int) < (li : Int) ∧ ¬ (j : Int) < 4) ∨ ¬ (j : Int) < (li : Int) by omega) with ⟨e1, e2⟩ | e1
                  all_goals
                    go_wp2
                    go_meet
                    exact hA.out
            case rest =>
              obtain ⟨v, hf, hb⟩ := hcut.out
              obtain ⟨k0, ek0⟩ : ∃ k, k = v 0 := ⟨_, rfl⟩
              obtain ⟨k1, ek1⟩ : ∃ k, k = v 1 := ⟨_, rfl⟩
              obtain ⟨k2, ek2⟩ : ∃ k, k = v 2 := ⟨_, rfl⟩
              obtain ⟨k3, ek3⟩ : ∃ k, k = v 3 := ⟨_, rfl⟩
              have y0 := World.rowIs.cell hf (i := 0) (by omega)
              have y1 := World.rowIs.cell hf (i := 1) (by omega)
              have y2 := World.rowIs.cell hf (i := 2) (by omega)
              have y3 := World.rowIs.cell hf (i := 3) (by omega)
              rw [← ek0] at y0
              rw [← ek1] at y1
              rw [← ek2] at y2
              rw [← ek3] at y3
              have hAl := World.rowIs.lt hf
              have CZ : Hid (GQ w wc P len all bg) := hC.out.later hb
              obtain ⟨w6, ew6⟩ : ∃ w6, w6 = wc := ⟨_, rfl⟩
              subst ew6
              obtain ⟨A, eA⟩ : ∃ A, A = wo.heap.size := ⟨_, rfl⟩
              rw [← eA] at y0 y1 y2 y3 hAl ⊢
              clear hf hb ek0 ek1 ek2 ek3 hcut A1 XV hC BO hmi2 eA
              obtain ⟨g, fp, h1, h2, h3, h4⟩ := CZ.out
              have G6 : Hid (TO w w6 P g fp ∧ Inv all g ∧ g.n = len ∧ g.begun = bg) := ⟨h1, h2, h3, h4⟩
              clear h1 h2 h3 h4 CZ
              go_upto_block 6 with fail
              go_cut [19] from 155 to 186 (fun x19 wz => ∃ b' : Bool, x19 = .bool b' ∧ Hid (GQ w wz P len all b'))
              case first =>
                by_cases q02 : k0 = 0 ∨ k0 = 1 ∨ k0 = 2
                · rcases q02 with rfl | rfl | rfl
                  all_goals
                    go_wp2_with fail
                    refine (payG w.heap.size P g fp all k1 k2 k3 w6 G6.out.1.us G6.out.2.1 G6.out.1.bel.size).mono ?_
                    rintro e w7 ⟨fp7, rfl, hA, hb, -, -⟩
                    have C7 : Hid (GQ w w7 P len all bg) := ⟨_, fp7, ⟨hA, G6.out.1.bel.trans hb⟩, G6.out.2.1.pay k1 k2 k3, by rw [(pay_n _ _ _ _).1]; exact G6.out.2.2.1, by rw [(pay_n _ _ _ _).2]; exact G6.out.2.2.2⟩
                    clear hA hb
                    go_wp2
                    go_meet
                    exact ⟨bg, rfl, C7⟩
                · have q0 : (k0 == 0) = false := by rw [beq_eq_false_iff_ne]; omega
                  have q1 : (k0 == 1) = false := by rw [beq_eq_false_iff_ne]; omega
                  have q2 : (k0 == 2) = false := by rw [beq_eq_false_iff_ne]; omega
                  by_cases q35 : k0 = 3 ∨ k0 = 4 ∨ k0 = 5
                  · clear q02 q0 q1 q2
                    rcases q35 with rfl | rfl | rfl
                    all_goals
                      go_wp2_with fail
                      refine (comeG w.heap.size P g fp all k1 k2 w6 G6.out.1.us G6.out.2.1 G6.out.1.bel.size).mono ?_
                      rintro e w7 ⟨fp7, rfl, hA, hb, -, -⟩
                      have C7 : Hid (GQ w w7 P len all bg) := ⟨_, fp7, ⟨hA, G6.out.1.bel.trans hb⟩, G6.out.2.1.come k1 k2, by rw [come_n]; exact G6.out.2.2.1, by rw [come_begun]; exact G6.out.2.2.2⟩
                      clear hA hb
                      go_wp2
                      go_meet
                      exact ⟨bg, rfl, C7⟩
                  · have q3 : (k0 == 3) = false := by rw [beq_eq_false_iff_ne]; omega
                    have q4 : (k0 == 4) = false := by rw [beq_eq_false_iff_ne]; omega
                    have q5 : (k0 == 5) = false := by rw [beq_eq_false_iff_ne]; omega
                    clear q02 q35
                    go_wp2_with fail
                    refine (begG w.heap.size P g fp all k1 w6 G6.out.1.us G6.out.2.1 G6.out.1.bel.size).mono ?_
                    rintro e w7 ⟨fp7, rfl, hA, hb, -, -⟩
                    have C7 : Hid (GQ w w7 P len all (decide (begC g k1 = 0) || bg)) := ⟨_, fp7, ⟨hA, G6.out.1.bel.trans hb⟩, G6.out.2.1.beg_ k1, by rw [beg_n]; exact G6.out.2.2.1, by rw [beg_begun, G6.out.2.2.2]⟩
                    clear hA hb
                    by_cases hz : begC g k1 = 0
                    · have ez : Hid ((decide (begC g k1 = 0) || bg) = true) := by show _ = _; rw [decide_eq_true hz]; rfl
                      rw [hz, errF_ok]
                      rw [ez.out] at C7
                      clear hz
                      go_wp2
                      go_meet
                      exact ⟨true, rfl, C7⟩
                    · have ez : Hid ((decide (begC g k1 = 0) || bg) = bg) := by show _ = _; rw [decide_eq_false hz]; rfl
                      rw [errF_no hz]
                      rw [ez.out] at C7
                      clear hz
                      go_wp2
                      go_meet
                      exact ⟨bg, rfl, C7⟩
              case rest =>
                obtain ⟨b', rfl, hQ⟩ := hcut
                obtain ⟨w7, ew7⟩ : ∃ w7, w7 = wc := ⟨_, rfl⟩
                subst ew7
                clear y0 y1 y2 y3 hAl G6
                obtain ⟨g7, fp7, h1, h2, h3, h4⟩ := hQ.out
                have G7 : Hid (TO w w7 P g7 fp7 ∧ Inv all g7 ∧ g7.n = len ∧ g7.begun = b') := ⟨h1, h2, h3, h4⟩
                clear h1 h2 h3 h4 hQ
                go_wp2_with fail
                refine (shows_any G7.out.1 G7.out.2.1 HS.out.2.1 hall).mono ?_
                rintro e w8 ⟨rfl, hb⟩
                have C8 : Hid (GQ w w8 P len all b') := ⟨g7, fp7, G7.out.1.later hb, G7.out.2⟩
                clear hb
                go_wp2
                go_roundw
                case rel => exact ⟨i + 1, b', by omega, by omega, rfl, by go_num, C8⟩
                case measure => simp [intOf]; omega
          · have XB : Hid (GQ w wr P len all bg) := hC
            rcases (show ((i : Int) < (len' : Int) ∧ ¬ (i : Int) < 150) ∨ ¬ (i : Int) < (len' : Int) by omega) with ⟨e1, e2⟩ | e1
            all_goals
              clear hgo
              go_wp2
              go_meet
              exact ⟨bg, rfl, XB⟩
      case rest =>
        obtain ⟨bg, rfl, hQ⟩ := hcut
        obtain ⟨w2, ew2⟩ : ∃ w2, w2 = wc := ⟨_, rfl⟩
        subst ew2
        have T0 : Hid (GT w w2 P len all bg 0) := by
          obtain ⟨g, fp, h1, h2, h3, h4⟩ := hQ.out
          exact ⟨g, fp, h1, h2, h3, h4, fun z => absurd z (by decide), fun z => absurd z (by decide)⟩
        clear hQ G9
        go_upto_block 7 with fail
        go_cut [25, 26, 27, 28, 29, 30] from 194 to 228 (fun x25 x26 x27 x28 x29 x30 wd => Hid (GT w wd P len all bg 3))
        case first =>
          go_wp2_with fail
          go_loopw [25, 26, 27, 28, 29, 30] (fun x y y2 y3 y4 y5 wr => ∃ r : Nat, r ≤ 3 ∧ x = .int .i64 (r : Int) ∧ Hid (GT w wr P len all bg r)) (fun x _ _ _ _ _ _ => 3 - (intOf x).toNat)
          case atStart => exact ⟨0, by omega, rfl, T0⟩
          case round =>
            obtain ⟨r, hr, rfl, hT⟩ := hrel
            by_cases hr3 : r < 3
            · have hr3' : (r : Int) < 3 := by omega
              have R0 : Hid (GR w wr P len all bg r 0 0) := hT.out.begin
              clear hT
              go_wp2_with fail
              go_loopw [26, 27, 28, 29, 30] (fun x y2 y3 y4 y5 wr => ∃ f : Nat, f ≤ len ∧ x = .int .i64 (f : Int) ∧ Hid (GR w wr P len all bg r f 0)) (fun x _ _ _ _ _ => len - (intOf x).toNat)
              case atStart => exact ⟨0, by omega, rfl, R0⟩
              case round =>
                obtain ⟨f, hf, rfl, hF⟩ := hrel
                by_cases hfl : f < len
                · have hfl' : (f : Int) < (len : Int) := by omega
                  have hf5 : (f : Int) < 5 := by omega
                  go_wp2_with fail
                  go_loopw [27, 28, 29, 30] (fun x y3 y4 y5 wr => ∃ t : Nat, t ≤ len ∧ x = .int .i64 (t : Int) ∧ Hid (GR w wr P len all bg r f t)) (fun x _ _ _ _ => len - (intOf x).toNat)
                  case atStart => exact ⟨0, by omega, rfl, hF⟩
                  case round =>
                    obtain ⟨t, ht, rfl, hG⟩ := hrel
                    by_cases htl : t < len
                    · have htl' : (t : Int) < (len : Int) := by omega
                      have ht5 : (t : Int) < 5 := by omega
                      have W0 : Hid (GS w wr P len all bg r f t 0) := hG.out.words
                      clear hG
                      go_wp2_with fail
                      go_loopw [28, 29, 30] (fun x y4 y5 wr => ∃ i : Nat, i ≤ 60 ∧ x = .int .i64 (i : Int) ∧ Hid (GS w wr P len all bg r f t i)) (fun x _ _ _ => 60 - (intOf x).toNat)
                      case atStart => exact ⟨0, by omega, rfl, W0⟩
                      case round =>
                        obtain ⟨i, hi, rfl, hW⟩ := hrel
                        have hi60 : i < 60 := by
                          obtain ⟨g, fp, -, -, -, -, -, k1, k2⟩ := hW.out
                          by_cases e : f = t
                          · have := k1 e; omega
                          · have := k2 e; omega
                        have hi60' : (i : Int) < 60 := by omega
                        go_wp2_with fail
                        refine (gsCome hW.out hfl htl).mono ?_
                        rintro e w5 ⟨x, c, rfl, hh⟩
                        rcases hh with ⟨rfl, hi41, hS⟩ | ⟨hc, hS⟩
                        · rw [errF_ok]
                          have N5 : Hid (GS w w5 P len all bg r f t (i + 1)) := hS
                          clear hS
                          go_wp2
                          go_roundw
                          case rel => exact ⟨i + 1, by omega, by go_num, N5⟩
                          case measure => simp [intOf]; omega
                        · rw [errF_no hc]
                          have N5 : Hid (GR w w5 P len all bg r f (t + 1)) := hS
                          clear hS hc
                          go_wp2
                          go_roundw
                          case rel => exact ⟨t + 1, by omega, by go_num, N5⟩
                          case measure => simp [intOf]; omega
                    · have htl' : ¬ (t : Int) < (len : Int) := by omega
                      have e : t = len := by omega
                      have N4 : Hid (GR w wr P len all bg r (f + 1) 0) := by
                        have z := hG.out
                        rw [e] at z
                        exact z.row
                      clear hG e
                      go_wp2
                      go_roundw
                      case rel => exact ⟨f + 1, by omega, by go_num, N4⟩
                      case measure => simp [intOf]; omega
                · have hfl' : ¬ (f : Int) < (len : Int) := by omega
                  have e : f = len := by omega
                  have N3 : Hid (GT w wr P len all bg (r + 1)) := by
                    have z := hF.out
                    rw [e] at z
                    exact z.finish
                  clear hF e
                  go_wp2
                  go_roundw
                  case rel => exact ⟨r + 1, by omega, by go_num, N3⟩
                  case measure => simp [intOf]; omega
            · have hr3' : ¬ (r : Int) < 3 := by omega
              have e : r = 3 := by omega
              subst e
              go_wp2
              go_meet
              exact hT.out
        case rest =>
          obtain ⟨g, fp, h1, h2, h3, h4, h5, h6⟩ := hcut.out
          obtain ⟨w3, ew3⟩ : ∃ w3, w3 = wc := ⟨_, rfl⟩
          subst ew3
          have hd := h6 (by decide)
          rw [← h3] at hd
          obtain ⟨d1, d2⟩ := D2.done hd h2
          have G3 : Hid (TO w w3 P g fp ∧ Inv all g ∧ g.n = len ∧ S g.gold g.n = all ∧ doneB g = bg) := by
            refine ⟨h1, h2, h3, d1, ?_⟩
            unfold doneB
            cases k : bg
            · exact decide_eq_false fun z => by rw [d2.1 z] at h4; rw [k] at h4; cases h4
            · exact decide_eq_true (d2.2 (h4.trans k))
          clear hcut h1 h2 h3 h4 h5 h6 hd d1 d2 T0
          go_upto_block 15 with fail
          go_cut [31, 32, 33, 34] from 229 to 248 (fun x31 x32 x33 x34 wd => x31 = .int .i64 all ∧ Hid (TO w wd P g fp))
          case first =>
            go_wp2_with fail
            go_loopw [31, 32, 33, 34] (fun y x y3 y4 wr => ∃ i : Nat, i ≤ len ∧ x = .int .i64 (i : Int) ∧ y = .int .i64 (S g.gold i) ∧ Hid (TO w wr P g fp)) (fun _ x _ _ _ => len - (intOf x).toNat)
            case atStart => exact ⟨0, by omega, rfl, rfl, G3.out.1⟩
            case round =>
              obtain ⟨i, hi, rfl, rfl, hT⟩ := hrel
              obtain ⟨s, es⟩ : ∃ s, s = S g.gold i := ⟨_, rfl⟩
              have hs : 0 ≤ s ∧ s ≤ 5000 := by
                rw [es]
                have h1 := S_pos (f := g.gold) (n := i) fun k hk => G3.out.2.1.gold k (by rw [G3.out.2.2.1]; omega)
                have h2 := S_mono (f := g.gold) (n := g.n) (k := i) G3.out.2.1.gold (by rw [G3.out.2.2.1]; exact hi)
                rw [G3.out.2.2.2.1] at h2
                omega
              rw [← es]
              by_cases hil : i < len
              · have hil' : (i : Int) < (len : Int) := by omega
                obtain ⟨x, ex⟩ : ∃ x, x = g.gold i := ⟨_, rfl⟩
                have hin : inM g (i : Int) := ⟨by omega, by rw [G3.out.2.2.1]; omega⟩
                have e1 : goN g (i : Int) = x := by unfold goN; rw [if_pos hin, Int.toNat_natCast, ex]
                have e2 : goC g (i : Int) = 0 := if_pos hin
                have hx0 : 0 ≤ x := by rw [ex]; exact G3.out.2.1.gold i (by rw [G3.out.2.2.1]; exact hil)
                have hxn : ¬ x < 0 := by omega
                have NS : Hid (S g.gold (i + 1) = s + x ∧ goN g (i : Int) = x ∧ goC g (i : Int) = 0) := ⟨by rw [es, ex]; rfl, e1, e2⟩
                have hsx : s + x ≤ 5000 := by
                  have h2 := S_mono (f := g.gold) (n := g.n) (k := i + 1) G3.out.2.1.gold (by rw [G3.out.2.2.1]; exact hil)
                  rw [G3.out.2.2.2.1, NS.out.1] at h2
                  omega
                clear e1 e2 ex es hin
                go_wp2_with fail
                refine (goldG w.heap.size P g fp all (i : Int) wr hT.out.us G3.out.2.1).mono ?_
                rintro e w5 ⟨rfl, hb⟩
                rw [NS.out.2.1, NS.out.2.2, errF_ok]
                have T5 : Hid (TO w w5 P g fp) := hT.out.later hb
                clear hb
                go_wp2
                go_roundw
                case rel => exact ⟨i + 1, by omega, by go_num, by rw [NS.out.1], T5⟩
                case measure => simp [intOf]; omega
              · have hil' : ¬ (i : Int) < (len : Int) := by omega
                have NS : Hid (s = all) := by show _ = _; rw [es, ← G3.out.2.2.2.1, G3.out.2.2.1, show i = len by omega]
                clear es
                go_wp2
                go_meet
                exact ⟨by rw [NS.out], hT.out⟩
          case rest =>
            obtain ⟨rfl, hT⟩ := hcut
            obtain ⟨w4, ew4⟩ : ∃ w4, w4 = wc := ⟨_, rfl⟩
            subst ew4
            have da : (all == all) = true := by simp
            have db : (bg == bg) = true := by simp
            go_wp2_with fail
            refine (doneG w.heap.size P g fp all w4 hT.out.us G3.out.2.1).mono ?_
            rintro e w5 ⟨rfl, hb⟩
            rw [G3.out.2.2.2.2]
            have T5 : Hid (TO w w5 P g fp) := hT.out.later hb
            clear hb hT
            go_wp2_with fail
            refine (shows_any T5.out G3.out.2.1 HS.out.2.1 hall).mono ?_
            rintro e w6 ⟨rfl, hb⟩
            have B6 : Hid (Below w.heap.size w w6) := (T5.out.later hb).bel
            clear hb
            go_wp2
            go_ret
            exact ⟨rfl, B6.out⟩
  · have HN : Hid (newC l ≠ 0) := hc
    clear hc
    refine (newG_no l q len cap X8 (HS.out.1.later B8.out) HN.out).mono ?_
    rintro e x9 ⟨rfl, hb⟩
    rw [errF_no (by decide)]
    have B9 : Hid (Below w.heap.size w x9) := B8.out.trans (hb.mono B8.out.size)
    clear hb
    go_wp2
    go_ret
    exact ⟨rfl, B9.out⟩
end Go.Proofs.YtgcdbcljneoifaiDoor.Pic
