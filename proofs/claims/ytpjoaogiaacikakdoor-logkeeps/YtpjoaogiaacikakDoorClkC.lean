/-
  Contracts of package clock's Numbers and Vectors, and of slices.Clone.
-/
import Derived.Test.YtpjoaogiaacikakDoorClkB
import Derived.Test.YtpjoaogiaacikakDoorOwnV
import Derived.WalkLawsBesides
namespace Go.Proofs.YtpjoaogiaacikakDoor.His
open Go.RowKit
open Go.Proofs.YtpjoaogiaacikakDoor.Vec

def nums (h : List Ev) (n : Nat) : List Int := (List.range n).map (num h)
theorem nums_len (h : List Ev) (n : Nat) : (nums h n).length = n := by simp [nums]
theorem nums_get (h : List Ev) {n k : Nat} (hk : k < n) : (nums h n).getD k 0 = num h k := by simp [nums, List.getD, hk]
/-- a slice of slices of numbers, seen -/
def Lw (w : World) (a : Option Addr) (n : Nat) (ls : List (List Int)) : Prop :=
  ls.length = n ∧ (0 < n → ∃ b off, a = some ⟨b, off, none⟩ ∧ b < w.heap.size ∧ ∀ k, k < n → ∃ q c, w.cell? ⟨b, off + k, none⟩ = some (.slice q (ls.getD k []).length c) ∧ Vw w q (ls.getD k []).length (ls.getD k []))
theorem Lw.later {w w' : World} {a : Option Addr} {n : Nat} {ls : List (List Int)} (g : Lw w a n ls) (hb : Below w.heap.size w w') : Lw w' a n ls := by
  refine ⟨g.1, fun hn => ?_⟩
  obtain ⟨b, off, e, hlt, hc⟩ := g.2 hn
  refine ⟨b, off, e, Nat.lt_of_lt_of_le hlt hb.size, fun k hk => ?_⟩
  obtain ⟨q, c, h1, h2⟩ := hc k hk
  exact ⟨q, c, (hb.cell (p := ⟨b, off + k, none⟩) hlt).trans h1, h2.later hb⟩

theorem five_cells {w : World} {a : Option Addr} {xs : List Int} (hv : Vw w a 5 xs) : ∃ b off, a = some ⟨b, off, none⟩ ∧ b < w.heap.size ∧ ∀ j u, (xs.map (Value.int .i64))[j]? = some u → w.cell? ((⟨b, off, none⟩ : Addr).add j) = some u := by
  obtain ⟨b, off, rfl, hlt, hc⟩ := hv.2 (by omega)
  refine ⟨b, off, rfl, hlt, fun j u hu => ?_⟩
  rw [Addr.add_lit]
  rw [List.getElem?_map] at hu
  obtain ⟨x, hx, rfl⟩ := Option.map_eq_some_iff.1 hu
  have hj : j < 5 := by
    have := (List.getElem?_eq_some_iff.1 hx).1
    have := hv.1
    omega
  rw [hc j hj]
  simp [List.getD, hx]
theorem map_one (xs : List Int) : ∀ u ∈ xs.map (Value.int .i64), u.oneCell' = true := by
  intro u hu
  obtain ⟨x, _, rfl⟩ := List.mem_map.1 hu
  rfl

theorem own_none (w : World) : (w.alloc (.cells #[] 3)).ownsRow w.heap.size 3 1 (.slice (some ⟨w.heap.size, 0, none⟩) 0 0) 0 ([] : List Value) := by
  refine ⟨rfl, .inr ⟨w.heap.size, 0, #[], rfl, Nat.le_refl _, ?_, Nat.le_refl _, by unfold maxLen; omega, rfl, rfl⟩⟩
  show (w.heap.push _)[w.heap.size]? = _
  simp

set_option maxRecDepth 100000 in
set_option maxHeartbeats 1000000 in
theorem clone5 (a : Option Addr) (cap : Nat) (xs : List Int) (w : World) (hv : Vw w a 5 xs) :
    Calls Tryd.prog 33 #[.slice a 5 cap] w fun e w' => (∃ g c, e = .returned (.slice (some ⟨g, 0, none⟩) 5 c) ∧ w.heap.size ≤ g ∧ Vw w' (some ⟨g, 0, none⟩) 5 xs) ∧ Below w.heap.size w w' := by
  obtain ⟨b, off, rfl, hlt, hcs⟩ := five_cells hv
  have HL : Hid (xs.length = 5) := hv.1
  have HC : Hid (∀ j u, (xs.map (Value.int .i64))[j]? = some u → (w.alloc (.cells #[] 3)).cell? ((⟨b, off, none⟩ : Addr).add j) = some u) := by
    intro j u hu
    have := hcs j u hu
    rw [Addr.add_lit] at this ⊢
    exact (((Below.refl w.heap.size w).alloc (Nat.le_refl _) _).cell (p := ⟨b, off + j, none⟩) hlt).trans this
  obtain ⟨ie, hi, hz0, hz1, hz2⟩ := info_int
  have HI : Hid (Tryd.prog.info? 3 = some ie ∧ ie.zero = some (.int .i64 0) ∧ ie.size = 1 ∧ ie.bytes = 8) := ⟨hi, hz0, hz1, hz2⟩
  have hnil := fun W : World => Lib.run_eql_slice_nil (P := Tryd.prog) W 32 3 (some ⟨b, off, none⟩) 5 cap 0 0 Tryd.underlying32
  clear hv hlt hcs hi hz0 hz1 hz2
  go_enter Tryd.func33, Tryd.ntmps33
  go_wp2_with (at_builtin; refine wpList_append_own _ rfl _ _ 32 rfl w.heap.size 3 ie (.int .i64 0) 1 8 Tryd.underlying32 HI.out.1 HI.out.2.1 HI.out.2.2.1 HI.out.2.2.2 rfl (by decide) _ 0 _ rfl (own_none w) ⟨b, off, none⟩ 5 cap (xs.map (Value.int .i64)) rfl (by rw [List.length_map]; exact HL.out) HC.out (map_one xs) (by unfold maxLen; omega) (by omega) (by simp) ?_; intro v' wn hown hgrow _; have HO : Hid _ := hown; have HGr : Hid _ := hgrow; clear hown hgrow)
  go_ret
  refine ⟨?_, ((Below.refl w.heap.size w).alloc (Nat.le_refl _) _).grown HGr.out (by simp) (own_base (own_none w))⟩
  have o := HO.out
  rw [List.nil_append] at o
  obtain ⟨q, c, e, hq⟩ := own_vw o
  obtain ⟨g, off', rfl, _⟩ := hq.2 (by omega)
  rcases o.2 with ⟨e2, _⟩ | ⟨g', cap', cur, e2, hg, _⟩
  · rw [e] at e2; cases e2
  · rw [e] at e2
    cases e2
    subst e
    exact ⟨g, c, rfl, hg, hq⟩

/-- vectors -/
def rows (h : List Ev) (n : Nat) : List (List Int) := (List.range n).map (row h)
theorem rows_length (h : List Ev) (n : Nat) : (rows h n).length = n := by simp [rows]
theorem rows_get (h : List Ev) {n k : Nat} (hk : k < n) : (rows h n).getD k [] = row h k := by simp [rows, List.getD, hk]

/-- the rows that are copied so far; none of the copies lies where they lie -/
def VApart (h : List Ev) (w : World) (B len k : Nat) : Prop :=
  ∃ f, w.rowIs B 32 len f ∧ ∀ j, j < k → ∃ g o c, f j = .slice (some ⟨g, o, none⟩) 5 c ∧ g ≠ B ∧ Vw w (some ⟨g, o, none⟩) 5 (row h j)
theorem VApart.later {h : List Ev} {w w' : World} {B len k : Nat} (g : VApart h w B len k) (hb : Below w.heap.size w w') : VApart h w' B len k := by
  obtain ⟨f, r, x⟩ := g
  refine ⟨f, rowIs_later r hb, fun j hj => ?_⟩
  obtain ⟨q, o, c, e, hne, v⟩ := x j hj
  exact ⟨q, o, c, e, hne, v.later hb⟩
theorem vw_setOther {w : World} {g o n : Nat} {xs : List Int} (hv : Vw w (some ⟨g, o, none⟩) n xs) {B i : Nat} (hne : g ≠ B) (v : Value) : Vw (w.setCell ⟨B, i, none⟩ v) (some ⟨g, o, none⟩) n xs := by
  refine ⟨hv.1, fun hn => ?_⟩
  obtain ⟨b, off, e, hlt, hc⟩ := hv.2 hn
  cases e
  refine ⟨g, o, rfl, by simpa [World.setCell] using hlt, fun k hk => ?_⟩
  rw [World.cell?_setCell_other _ _ _ _ (fun e => hne (congrArg Addr.block e).symm)]
  exact hc k hk
theorem VApart.step {h : List Ev} {w : World} {B len k g o c : Nat} (x : VApart h w B len k) (hne : g ≠ B) (hv : Vw w (some ⟨g, o, none⟩) 5 (row h k)) : VApart h (w.setCell ⟨B, k, none⟩ (.slice (some ⟨g, o, none⟩) 5 c)) B len (k + 1) := by
  obtain ⟨f, r, y⟩ := x
  refine ⟨_, r.set k _, fun j hj => ?_⟩
  rcases Nat.lt_or_ge j k with hjk | hjk
  · obtain ⟨g', o', c', e, hn, v⟩ := y j hjk
    refine ⟨g', o', c', ?_, hn, vw_setOther v hn _⟩
    show (if j = k then _ else _) = _
    rw [if_neg (by omega)]
    exact e
  · obtain rfl : j = k := by omega
    exact ⟨g, o, c, if_pos rfl, hne, vw_setOther hv hne _⟩
theorem VApart.lw {h : List Ev} {w : World} {B len : Nat} (x : VApart h w B len len) : Lw w (some ⟨B, 0, none⟩) len (rows h len) := by
  obtain ⟨f, r, y⟩ := x
  refine ⟨rows_length h len, fun _ => ⟨B, 0, rfl, r.lt, fun k hk => ?_⟩⟩
  obtain ⟨g, o, c, e, _, v⟩ := y k hk
  rw [rows_get h hk, row_len, Nat.zero_add]
  exact ⟨_, c, (r.cell hk).trans (congrArg some e), v⟩
theorem mkl_info : (Tryd.prog.info? 32).map (fun i => (i.zero, i.size, i.bytes)) = some (some (.slice none 0 0), 1, 24) := by kernel_rfl
theorem mk_lists (n : Nat) (hn : n ≤ 60) (w : World) :
    (Instr.makeSlice 55 (.int .i64 (n : Int)) (.int .i64 (n : Int))).run Tryd.prog w = .ok (.slice (some ⟨w.heap.size, 0, none⟩) n n) (w.alloc (.cells (madeCells #[.slice none 0 0] n) 32)) := by
  obtain ⟨i, hi, hzz⟩ := Option.map_eq_some_iff.1 mkl_info
  simp only [Prod.mk.injEq] at hzz
  obtain ⟨hz, hs, hb⟩ := hzz
  have hr := run_make (P := Tryd.prog) w 55 32 i _ (by kernel_rfl) hi hz .i64 .i64 n n (by omega) (Int.le_refl _) (by rw [hb]; omega) (by omega)
  simp only [Int.toNat_natCast, hs, Nat.mul_one] at hr
  exact hr
theorem CReached.cells {h : List Ev} {w : World} {base A L len : Nat} (g : CReached h w base A L len len) : A < w.heap.size ∧ ∀ j, j < len → c9fact w A j ((row h j).getD 0 0) ((row h j).getD 1 0) ((row h j).getD 2 0) ((row h j).getD 3 0) ((row h j).getD 4 0) := by
  obtain ⟨fa, fl, ra, rl, _, _, _, ha, _⟩ := g
  refine ⟨ra.lt, fun j hj => ?_⟩
  have q := fun i (hi : i < 5) => (ra.cell (i := j * 5 + i) (by omega)).trans (congrArg some (ha j hj i hi))
  exact ⟨q 0 (by omega), q 1 (by omega), q 2 (by omega), q 3 (by omega), q 4 (by omega)⟩

set_option maxRecDepth 100000 in
set_option maxHeartbeats 2000000 in
theorem vectors_ok (a : Option Addr) (len cap : Nat) (h : List Ev) (w : World) (hlc : len ≤ cap) (hm : cap ≤ maxLen) (hv : Ew w a len h) (hc : chkC h = 0) :
    Calls Tryd.prog 23 #[.slice a len cap] w fun e w' => ∃ A, e = .returned (.tuple #[.slice (some ⟨A, 0, none⟩) len len, .nilIface]) ∧ Below w.heap.size w w' ∧ Lw w' (some ⟨A, 0, none⟩) len (rows h len) := by
  obtain ⟨h60, hg⟩ := chk_zero hc
  rw [hv.1] at h60 hg
  have hmk := mk_lists len h60
  go_enter Tryd.func23, Tryd.ntmps23
  go_wp2_with fail
  refine (check_any a len cap h w hlc hm hv).mono ?_
  rintro e w1 ⟨rfl, hb⟩
  rw [hc, errV_ok]
  have V1 : Hid (Below w.heap.size w w1) := hb
  have B2 : Hid (Below w1.heap.size w1 (w1.alloc (.cells (madeCells #[.slice none 0 0] len) 32))) := (Below.refl _ _).alloc (Nat.le_refl _) _
  have E1 : Hid (Ew (w1.alloc (.cells (madeCells #[.slice none 0 0] len) 32)) a len h) := (hv.later hb).later B2.out
  have D1 : Hid (VApart h (w1.alloc (.cells (madeCells #[.slice none 0 0] len) 32)) w1.heap.size len 0) := ⟨_, World.rowIs_made w1 _ len _, fun j hj => absurd hj (by omega)⟩
  have HG : Hid (Good h len) := hg
  clear hv hb hg
  go_wp2_with fail
  refine (alongV a len cap h _ h60 E1.out HG.out).mono ?_
  rintro e w2 ⟨A, rfl, hb, L, hR⟩
  have V2 : Hid (Below w.heap.size w w2) := below_up rfl V1.out (below_up rfl B2.out hb)
  have D2 : Hid (VApart h w2 w1.heap.size len 0) := D1.out.later hb
  have C2 : Hid _ := hR.cells
  have HA1 : Hid (A ≠ w1.heap.size) := by
    obtain ⟨fa, fl, ra, rl, hAL, hA, _⟩ := hR
    have : w1.heap.size + 1 ≤ A := by simpa using hA
    show A ≠ _
    omega
  clear hb hR hmk
  go_wp2
  go_loopw [23] (fun i wr => ∃ k : Nat, k ≤ len ∧ i = .int .i64 k ∧ Hid (Below w.heap.size w wr) ∧ Hid (A < wr.heap.size ∧ ∀ j, j < len → c9fact wr A j ((row h j).getD 0 0) ((row h j).getD 1 0) ((row h j).getD 2 0) ((row h j).getD 3 0) ((row h j).getD 4 0)) ∧ Hid (VApart h wr w1.heap.size len k)) (fun i _ => len - (intOf i).toNat)
  case atStart => exact ⟨0, by omega, rfl, V2.out, C2.out, D2.out⟩
  case round =>
    obtain ⟨k, hk, rfl, hbel, hC, hD⟩ := hrel
    by_cases hlt : k < len
    · obtain ⟨g0, g1, g2, g3, g4⟩ := hC.out.2 k hlt
      obtain ⟨r0, e0⟩ : ∃ x, x = (row h k).getD 0 0 := ⟨_, rfl⟩
      obtain ⟨r1, e1⟩ : ∃ x, x = (row h k).getD 1 0 := ⟨_, rfl⟩
      obtain ⟨r2, e2⟩ : ∃ x, x = (row h k).getD 2 0 := ⟨_, rfl⟩
      obtain ⟨r3, e3⟩ : ∃ x, x = (row h k).getD 3 0 := ⟨_, rfl⟩
      obtain ⟨r4, e4⟩ : ∃ x, x = (row h k).getD 4 0 := ⟨_, rfl⟩
      have hrs : Hid (row h k = [r0, r1, r2, r3, r4]) := by show _ = _; rw [e0, e1, e2, e3, e4]; exact (list5 (row_len h k)).symm
      rw [← e0] at g0
      rw [← e1] at g1
      rw [← e2] at g2
      rw [← e3] at g3
      rw [← e4] at g4
      clear e0 e1 e2 e3 e4
      have hk0 : (0 : Int) ≤ (k : Int) := by omega
      have hkl : (k : Int) < (len : Int) := by omega
      have B3 : Hid (Below wr.heap.size wr (wr.alloc (.cells #[.int .i64 r0, .int .i64 r1, .int .i64 r2, .int .i64 r3, .int .i64 r4] 69))) := (Below.refl _ _).alloc (Nat.le_refl _) _
      go_wp2_with fail
      refine (clone5 _ 5 [r0, r1, r2, r3, r4] _ (Vw.lit wr r0 r1 r2 r3 r4 _)).mono ?_
      rintro e w3 ⟨⟨g, c, rfl, hge, hq⟩, hb⟩
      have H3 : Hid (Below wr.heap.size wr w3) := below_up rfl B3.out hb
      have Q3 : Hid (Vw w3 (some ⟨g, 0, none⟩) 5 (row h k)) := by show Vw _ _ _ _; rw [hrs.out]; exact hq
      have D3 : Hid (VApart h w3 w1.heap.size len k) := hD.out.later H3.out
      have hB1 : w1.heap.size < wr.heap.size := by
        obtain ⟨f, r, _⟩ := hD.out
        exact r.lt
      have hA1 : Hid (A ≠ w1.heap.size) := HA1
      have hgB : Hid (g ≠ w1.heap.size) := by
        have : wr.heap.size + 1 ≤ g := by simpa using hge
        show g ≠ _
        omega
      have hu : ∃ y, w3.cell? ⟨w1.heap.size, k, none⟩ = some y ∧ w3.frozen? ⟨w1.heap.size, k, none⟩ = false := by
        obtain ⟨f, r, _⟩ := D3.out
        exact ⟨_, r.cell hlt, r.frozen k⟩
      obtain ⟨y, u0, z0⟩ := hu
      have C3 : Hid (A < w3.heap.size ∧ ∀ j, j < len → c9fact w3 A j ((row h j).getD 0 0) ((row h j).getD 1 0) ((row h j).getD 2 0) ((row h j).getD 3 0) ((row h j).getD 4 0)) := ⟨Nat.lt_of_lt_of_le hC.out.1 H3.out.size, fun j hj => (hC.out.2 j hj).later hC.out.1 H3.out⟩
      clear hge hq hb g0 g1 g2 g3 g4
      go_wp2
      go_roundw
      case rel =>
        refine ⟨k + 1, by omega, by go_num, (below_up rfl hbel.out H3.out).setCell (p := ⟨_, _, none⟩) V1.out.size _, ⟨?_, fun j hj => ?_⟩, D3.out.step hgB.out Q3.out⟩
        · simpa [World.setCell] using C3.out.1
        · have key : ∀ i, (w3.setCell ⟨w1.heap.size, k, none⟩ (.slice (some ⟨g, 0, none⟩) 5 c)).cell? ⟨A, i, none⟩ = w3.cell? ⟨A, i, none⟩ := fun i => World.cell?_setCell_other _ _ _ _ (fun e => hA1.out (congrArg Addr.block e).symm)
          obtain ⟨g0, g1, g2, g3, g4⟩ := C3.out.2 j hj
          exact ⟨(key _).trans g0, (key _).trans g1, (key _).trans g2, (key _).trans g3, (key _).trans g4⟩
      case measure => simp [intOf]; omega
    · have hkl : k = len := by omega
      subst hkl
      go_wp2
      go_ret2
      exact ⟨_, rfl, hbel.out, hD.out.lw⟩
set_option maxRecDepth 100000 in
theorem vectors_no (a : Option Addr) (len cap : Nat) (h : List Ev) (w : World) (hlc : len ≤ cap) (hm : cap ≤ maxLen) (hv : Ew w a len h) (hc : chkC h ≠ 0) :
    Calls Tryd.prog 23 #[.slice a len cap] w fun e w' => e = .returned (.tuple #[.slice none 0 0, .iface 49 (.int .i64 (chkC h))]) ∧ Below w.heap.size w w' := by
  go_enter Tryd.func23, Tryd.ntmps23
  go_wp2_with fail
  refine (check_any a len cap h w hlc hm hv).mono ?_
  rintro e w1 ⟨rfl, hb⟩
  rw [errV_no hc]
  have V1 : Hid (Below w.heap.size w w1) := hb
  clear hv hb hc
  go_wp2
  go_ret2
  exact ⟨rfl, V1.out⟩
end Go.Proofs.YtpjoaogiaacikakDoor.His
