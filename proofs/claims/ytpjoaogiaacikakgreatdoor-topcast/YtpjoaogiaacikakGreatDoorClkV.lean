/-
  Contract of package clock's Vectors once more: with what is known of each row's capacity.
-/
import Derived.Test.YtpjoaogiaacikakGreatDoorMgH
namespace Go.Proofs.YtpjoaogiaacikakGreatDoor.His
open Go.RowKit
open Go.Proofs.YtpjoaogiaacikakGreatDoor.Vec
set_option linter.unusedVariables false

/-- a slice of slices of numbers, seen, with their capacities -/
def Lv (w : World) (a : Option Addr) (n : Nat) (ls : List (List Int)) : Prop :=
  ls.length = n ∧ (0 < n → ∃ b off, a = some ⟨b, off, none⟩ ∧ b < w.heap.size ∧ ∀ k, k < n → ∃ q c, w.cell? ⟨b, off + k, none⟩ = some (.slice q (ls.getD k []).length c) ∧ Vw w q (ls.getD k []).length (ls.getD k []) ∧ (ls.getD k []).length ≤ c ∧ c ≤ maxLen)
theorem Lv.later {w w' : World} {a : Option Addr} {n : Nat} {ls : List (List Int)} (g : Lv w a n ls) (hb : Below w.heap.size w w') : Lv w' a n ls := by
  refine ⟨g.1, fun hn => ?_⟩
  obtain ⟨b, off, e, hlt, hc⟩ := g.2 hn
  refine ⟨b, off, e, Nat.lt_of_lt_of_le hlt hb.size, fun k hk => ?_⟩
  obtain ⟨q, c, h1, h2, h3⟩ := hc k hk
  exact ⟨q, c, (hb.cell (p := ⟨b, off + k, none⟩) hlt).trans h1, h2.later hb, h3⟩
set_option maxRecDepth 100000 in
set_option maxHeartbeats 1000000 in
theorem cloneC (a : Option Addr) (cap : Nat) (xs : List Int) (w : World) (hv : Vw w a 5 xs) :
    Calls Tryz.prog 36 #[.slice a 5 cap] w fun e w' => (∃ g c, e = .returned (.slice (some ⟨g, 0, none⟩) 5 c) ∧ (w.heap.size ≤ g ∧ 5 ≤ c ∧ c ≤ maxLen) ∧ Vw w' (some ⟨g, 0, none⟩) 5 xs) ∧ Below w.heap.size w w' := by
  obtain ⟨b, off, rfl, hlt, hcs⟩ := five_cells hv
  have HL : Hid (xs.length = 5) := hv.1
  have HC : Hid (∀ j u, (xs.map (Value.int .i64))[j]? = some u → (w.alloc (.cells #[] 3)).cell? ((⟨b, off, none⟩ : Addr).add j) = some u) := by
    intro j u hu
    have := hcs j u hu
    rw [Addr.add_lit] at this ⊢
    exact (((Below.refl w.heap.size w).alloc (Nat.le_refl _) _).cell (p := ⟨b, off + j, none⟩) hlt).trans this
  obtain ⟨ie, hi, hz0, hz1, hz2⟩ := info_int
  have HI : Hid (Tryz.prog.info? 3 = some ie ∧ ie.zero = some (.int .i64 0) ∧ ie.size = 1 ∧ ie.bytes = 8) := ⟨hi, hz0, hz1, hz2⟩
  have hnil := fun W : World => Lib.run_eql_slice_nil (P := Tryz.prog) W 30 3 (some ⟨b, off, none⟩) 5 cap 0 0 Tryz.underlying30
  clear hv hlt hcs hi hz0 hz1 hz2
  go_enter Tryz.func36, Tryz.ntmps36
  go_wp2_with (at_builtin; refine wpList_append_own _ rfl _ _ 30 rfl w.heap.size 3 ie (.int .i64 0) 1 8 Tryz.underlying30 HI.out.1 HI.out.2.1 HI.out.2.2.1 HI.out.2.2.2 rfl (by decide) _ 0 _ rfl (own_none w) ⟨b, off, none⟩ 5 cap (xs.map (Value.int .i64)) rfl (by rw [List.length_map]; exact HL.out) HC.out (map_one xs) (by unfold maxLen; omega) (by omega) (by simp) ?_; intro v' wn hown hgrow _; have HO : Hid _ := hown; have HGr : Hid _ := hgrow; clear hown hgrow)
  go_ret
  refine ⟨?_, ((Below.refl w.heap.size w).alloc (Nat.le_refl _) _).grown HGr.out (by simp) (own_base (own_none w))⟩
  have o := HO.out
  rw [List.nil_append] at o
  obtain ⟨q, c, e, hq⟩ := own_vw o
  obtain ⟨g, off', rfl, _⟩ := hq.2 (by omega)
  rcases o.2 with ⟨e2, _⟩ | ⟨g', cap', cur, e2, hg, _, hcc, hcm, _⟩
  · rw [e] at e2; cases e2
  · rw [e] at e2
    cases e2
    subst e
    exact ⟨g, c, rfl, ⟨hg, by simpa using hcc, hcm⟩, hq⟩

/-- the rows that are copied so far; none of the copies lies where they lie -/
def VCap (h : List Ev) (w : World) (B len k : Nat) : Prop :=
  ∃ f, w.rowIs B 30 len f ∧ ∀ j, j < k → ∃ g o c, f j = .slice (some ⟨g, o, none⟩) 5 c ∧ (g ≠ B ∧ 5 ≤ c ∧ c ≤ maxLen) ∧ Vw w (some ⟨g, o, none⟩) 5 (row h j)
theorem VCap.later {h : List Ev} {w w' : World} {B len k : Nat} (g : VCap h w B len k) (hb : Below w.heap.size w w') : VCap h w' B len k := by
  obtain ⟨f, r, x⟩ := g
  refine ⟨f, rowIs_later r hb, fun j hj => ?_⟩
  obtain ⟨q, o, c, e, hne, v⟩ := x j hj
  exact ⟨q, o, c, e, hne, v.later hb⟩
theorem VCap.step {h : List Ev} {w : World} {B len k g o c : Nat} (x : VCap h w B len k) (hne : g ≠ B ∧ 5 ≤ c ∧ c ≤ maxLen) (hv : Vw w (some ⟨g, o, none⟩) 5 (row h k)) : VCap h (w.setCell ⟨B, k, none⟩ (.slice (some ⟨g, o, none⟩) 5 c)) B len (k + 1) := by
  obtain ⟨f, r, y⟩ := x
  refine ⟨_, r.set k _, fun j hj => ?_⟩
  rcases Nat.lt_or_ge j k with hjk | hjk
  · obtain ⟨g', o', c', e, hn, v⟩ := y j hjk
    refine ⟨g', o', c', ?_, hn, vw_setOther v hn.1 _⟩
    show (if j = k then _ else _) = _
    rw [if_neg (by omega)]
    exact e
  · obtain rfl : j = k := by omega
    exact ⟨g, o, c, if_pos rfl, hne, vw_setOther hv hne.1 _⟩
theorem VCap.lw {h : List Ev} {w : World} {B len : Nat} (x : VCap h w B len len) : Lv w (some ⟨B, 0, none⟩) len (rows h len) := by
  obtain ⟨f, r, y⟩ := x
  refine ⟨rows_length h len, fun _ => ⟨B, 0, rfl, r.lt, fun k hk => ?_⟩⟩
  obtain ⟨g, o, c, e, hcc, v⟩ := y k hk
  rw [rows_get h hk, row_len, Nat.zero_add]
  exact ⟨_, c, (r.cell hk).trans (congrArg some e), v, hcc.2.1, hcc.2.2⟩
set_option maxRecDepth 100000 in
set_option maxHeartbeats 2000000 in
theorem vectors_cap (a : Option Addr) (len cap : Nat) (h : List Ev) (w : World) (hlc : len ≤ cap) (hm : cap ≤ maxLen) (hv : Ew w a len h) (hc : chkC h = 0) :
    Calls Tryz.prog 14 #[.slice a len cap] w fun e w' => ∃ A, e = .returned (.tuple #[.slice (some ⟨A, 0, none⟩) len len, .nilIface]) ∧ Below w.heap.size w w' ∧ Lv w' (some ⟨A, 0, none⟩) len (rows h len) := by
  obtain ⟨h60, hg⟩ := chk_zero hc
  rw [hv.1] at h60 hg
  have hmk := mk_lists len h60
  go_enter Tryz.func14, Tryz.ntmps14
  go_wp2_with fail
  refine (check_any a len cap h w hlc hm hv).mono ?_
  rintro e w1 ⟨rfl, hb⟩
  rw [hc, errV_ok]
  have V1 : Hid (Below w.heap.size w w1) := hb
  have B2 : Hid (Below w1.heap.size w1 (w1.alloc (.cells (madeCells #[.slice none 0 0] len) 30))) := (Below.refl _ _).alloc (Nat.le_refl _) _
  have E1 : Hid (Ew (w1.alloc (.cells (madeCells #[.slice none 0 0] len) 30)) a len h) := (hv.later hb).later B2.out
  have D1 : Hid (VCap h (w1.alloc (.cells (madeCells #[.slice none 0 0] len) 30)) w1.heap.size len 0) := ⟨_, World.rowIs_made w1 _ len _, fun j hj => absurd hj (by omega)⟩
  have HG : Hid (Good h len) := hg
  clear hv hb hg
  go_wp2_with fail
  refine (alongV a len cap h _ h60 E1.out HG.out).mono ?_
  rintro e w2 ⟨A, rfl, hb, L, hR⟩
  have V2 : Hid (Below w.heap.size w w2) := below_up rfl V1.out (below_up rfl B2.out hb)
  have D2 : Hid (VCap h w2 w1.heap.size len 0) := D1.out.later hb
  have C2 : Hid _ := hR.cells
  have HA1 : Hid (A ≠ w1.heap.size) := by
    obtain ⟨fa, fl, ra, rl, hAL, hA, _⟩ := hR
    have : w1.heap.size + 1 ≤ A := by simpa using hA
    show A ≠ _
    omega
  clear hb hR hmk
  go_wp2
  go_loopw [23] (fun i wr => ∃ k : Nat, k ≤ len ∧ i = .int .i64 k ∧ Hid (Below w.heap.size w wr) ∧ Hid (A < wr.heap.size ∧ ∀ j, j < len → c9fact wr A j ((row h j).getD 0 0) ((row h j).getD 1 0) ((row h j).getD 2 0) ((row h j).getD 3 0) ((row h j).getD 4 0)) ∧ Hid (VCap h wr w1.heap.size len k)) (fun i _ => len - (intOf i).toNat)
  case atStart => exact ⟨0, by omega, rfl, V2.out, C2.out, D2.out⟩
  case round =>
    obtain ⟨k, hk, rfl, hbel, hC, hD⟩ := hrel
    by_cases hlt : k < len
    · obtain ⟨g0, g1, g2, g3, g4⟩ := hC.out.2 k hlt
      obtain ⟨r0, e0⟩ : ∃ x, x = (row h k).getD 0 0 := ⟨_, rfl⟩
      obtain ⟨r1, e1⟩ : ∃ x, x = (row h k).getD 1 0 := ⟨_, rfl⟩
      obtain ⟨r2, e2⟩ : ∃ x, x = (row h k).getD 2 0 := ⟨_, rfl⟩
      obtain ⟨r3, e3⟩ : ∃ x, x = (row h k).getD 3 0 := ⟨_, rfl⟩
      obtain ⟨r4, e4⟩ : ∃ x, x = (row h k).getD 4 0 := ⟨_, rfl⟩
      have hrs : Hid (row h k = [r0, r1, r2, r3, r4]) := by show _ = _; rw [e0, e1, e2, e3, e4]; exact (list5 (row_len h k)).symm
      rw [← e0] at g0
      rw [← e1] at g1
      rw [← e2] at g2
      rw [← e3] at g3
      rw [← e4] at g4
      clear e0 e1 e2 e3 e4
      have hk0 : (0 : Int) ≤ (k : Int) := by omega
      have hkl : (k : Int) < (len : Int) := by omega
      have B3 : Hid (Below wr.heap.size wr (wr.alloc (.cells #[.int .i64 r0, .int .i64 r1, .int .i64 r2, .int .i64 r3, .int .i64 r4] 88))) := (Below.refl _ _).alloc (Nat.le_refl _) _
      go_wp2_with fail
      refine (cloneC _ 5 [r0, r1, r2, r3, r4] _ (Vw.lit wr r0 r1 r2 r3 r4 _)).mono ?_
      rintro e w3 ⟨⟨g, c, rfl, ⟨hge, hcc⟩, hq⟩, hb⟩
      have H3 : Hid (Below wr.heap.size wr w3) := below_up rfl B3.out hb
      have Q3 : Hid (Vw w3 (some ⟨g, 0, none⟩) 5 (row h k)) := by show Vw _ _ _ _; rw [hrs.out]; exact hq
      have D3 : Hid (VCap h w3 w1.heap.size len k) := hD.out.later H3.out
      have hB1 : w1.heap.size < wr.heap.size := by
        obtain ⟨f, r, _⟩ := hD.out
        exact r.lt
      have hA1 : Hid (A ≠ w1.heap.size) := HA1
      have hgB : Hid (g ≠ w1.heap.size ∧ 5 ≤ c ∧ c ≤ maxLen) := by
        have : wr.heap.size + 1 ≤ g := by simpa using hge
        refine ⟨?_, hcc⟩
        omega
      have hu : ∃ y, w3.cell? ⟨w1.heap.size, k, none⟩ = some y ∧ w3.frozen? ⟨w1.heap.size, k, none⟩ = false := by
        obtain ⟨f, r, _⟩ := D3.out
        exact ⟨_, r.cell hlt, r.frozen k⟩
      obtain ⟨y, u0, z0⟩ := hu
      have C3 : Hid (A < w3.heap.size ∧ ∀ j, j < len → c9fact w3 A j ((row h j).getD 0 0) ((row h j).getD 1 0) ((row h j).getD 2 0) ((row h j).getD 3 0) ((row h j).getD 4 0)) := ⟨Nat.lt_of_lt_of_le hC.out.1 H3.out.size, fun j hj => (hC.out.2 j hj).later hC.out.1 H3.out⟩
      clear hge hcc hq hb g0 g1 g2 g3 g4
      go_wp2
      go_roundw
      case rel =>
        refine ⟨k + 1, by omega, by go_num, (below_up rfl hbel.out H3.out).setCell (p := ⟨_, _, none⟩) V1.out.size _, ⟨?_, fun j hj => ?_⟩, D3.out.step hgB.out Q3.out⟩
        · simpa [World.setCell] using C3.out.1
        · have key : ∀ i, (w3.setCell ⟨w1.heap.size, k, none⟩ (.slice (some ⟨g, 0, none⟩) 5 c)).cell? ⟨A, i, none⟩ = w3.cell? ⟨A, i, none⟩ := fun i => World.cell?_setCell_other _ _ _ _ (fun e => hA1.out (congrArg Addr.block e).symm)
          obtain ⟨g0, g1, g2, g3, g4⟩ := C3.out.2 j hj
          exact ⟨(key _).trans g0, (key _).trans g1, (key _).trans g2, (key _).trans g3, (key _).trans g4⟩
      case measure => simp [intOf]; omega
    · have hkl : k = len := by omega
      subst hkl
      go_wp2
      go_ret2
      exact ⟨_, rfl, hbel.out, hD.out.lw⟩
end Go.Proofs.YtpjoaogiaacikakGreatDoor.His
