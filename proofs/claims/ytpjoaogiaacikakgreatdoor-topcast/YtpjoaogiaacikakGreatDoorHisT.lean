/-
  Contracts of package history's isBefore, checkPlaces and Before: is one event ahead of another one.
-/
import Derived.Test.YtpjoaogiaacikakGreatDoorHisS
import Derived.Test.YtpjoaogiaacikakGreatDoorMgA
namespace Go.Proofs.YtpjoaogiaacikakGreatDoor.His
open Go.RowKit
open Go.Proofs.YtpjoaogiaacikakGreatDoor.Vec

/-- the rows of all events, read -/
def Rd (h : List Ev) (w : World) (A len : Nat) : Prop := A < w.heap.size ∧ ∀ j, j < len → ∀ i, i < 5 → w.cell? ⟨A, j * 5 + i, none⟩ = some (.int .i64 ((row h j).getD i 0))
theorem Rd.later {h : List Ev} {w w' : World} {A len : Nat} (g : Rd h w A len) (hb : Below w.heap.size w w') : Rd h w' A len :=
  ⟨Nat.lt_of_lt_of_le g.1 hb.size, fun j hj i hi => (hb.cell (p := ⟨A, j * 5 + i, none⟩) g.1).trans (g.2 j hj i hi)⟩
theorem Reached.rd {h : List Ev} {w : World} {base A L len : Nat} (g : Reached h w base A L len len) : Rd h w A len := by
  obtain ⟨fa, fl, ra, rl, _, _, _, ha, _⟩ := g
  exact ⟨ra.lt, fun j hj i hi => (ra.cell (i := j * 5 + i) (by omega)).trans (congrArg some (ha j hj i hi))⟩

theorem isBefore1 (a : Option Addr) (A len cap i k : Nat) (h : List Ev) (w : World) (hv : Ew w a len h) (hg : Good h len) (hr : Rd h w A len) (hi : i < len) (hk : k < len) :
    Calls Tryz.prog 42 #[.slice (some ⟨A, 0, none⟩) len len, .slice a len cap, .int .i64 i, .int .i64 k] w fun x w' => x = .returned (.bool (bef h i k)) ∧ Below w.heap.size w w' := by
  obtain ⟨b, off, rfl, hpb, hcs⟩ := hv.2 (by omega)
  have c0 := (hcs i hi).1
  have hw5 := W_lt hg hi
  rw [← W_cast hg hi] at c0
  have d0 := hr.2 i hi (W h i) hw5
  have d1 := hr.2 k hk (W h i) hw5
  obtain ⟨m, em⟩ : ∃ m, m = W h i := ⟨_, rfl⟩
  obtain ⟨x, ex⟩ : ∃ x, x = (row h i).getD (W h i) 0 := ⟨_, rfl⟩
  obtain ⟨y, ey⟩ : ∃ x, x = (row h k).getD (W h i) 0 := ⟨_, rfl⟩
  rw [← ex] at d0
  rw [← ey] at d1
  rw [← em] at d0 d1 c0 hw5
  have HB : Hid (bef h i k = (decide (i ≠ k) && decide (x ≤ y))) := by rw [ex, ey]; rfl
  have hi0 : (0 : Int) ≤ (i : Int) := by omega
  have hil : (i : Int) < (len : Int) := by omega
  have hk0 : (0 : Int) ≤ (k : Int) := by omega
  have hkl : (k : Int) < (len : Int) := by omega
  have hm0 : (0 : Int) ≤ (m : Int) := by omega
  have hm5 : (m : Int) < 5 := by omega
  clear hcs hv hg hr em ex ey
  by_cases hik : i = k
  · have HE : Hid (i = k) := hik
    have hq : ((i : Int) != (k : Int)) = false := by simp [hik]
    clear hik
    go_enter Tryz.func42, Tryz.ntmps42
    go_wp2
    go_quiet (fail)
    go_wp2
    go_ret
    refine ⟨ret_bool ?_, below_drewN (Below.refl _ _) _⟩
    rw [HB.out, HE.out]
    simp
  · have HE : Hid (i ≠ k) := hik
    have hq : ((i : Int) != (k : Int)) = true := by simp; omega
    clear hik
    go_enter Tryz.func42, Tryz.ntmps42
    go_wp2
    go_quiet (fail)
    go_wp2
    go_ret
    refine ⟨ret_bool ?_, below_drewN (Below.refl _ _) _⟩
    rw [HB.out, decide_eq_true HE.out]
    simp

/-- is a place none? -/
def offP (len : Nat) (x : Int) : Bool := decide (x < 0) || decide ((len : Int) ≤ x)
theorem place1 (a : Option Addr) (len cap B : Nat) (x : Int) (w : World) (hv : w.cell? ⟨B, 0, none⟩ = some (.slice a len cap)) :
    Calls Tryz.prog 69 #[.int .i64 x, .pointer (some ⟨B, 0, none⟩)] w fun e w' => e = .returned (.bool (offP len x)) ∧ w' = w := by
  by_cases h1 : x < 0
  · go_enter Tryz.func69, Tryz.ntmps69
    go_wp2
    go_ret
    exact ⟨ret_bool (by simp [offP]; omega), rfl⟩
  · go_enter Tryz.func69, Tryz.ntmps69
    go_wp2
    go_ret
    exact ⟨ret_bool (by rw [Bool.eq_iff_iff]; simp [offP]; omega), rfl⟩

theorem placesIdx (p : Option Addr) (n pcap : Nat) (xs : List Int) (a : Option Addr) (len cap B : Nat) (w : World) (hm : n ≤ maxLen) (hx : Vw w p n xs) (hv : w.cell? ⟨B, 0, none⟩ = some (.slice a len cap)) :
    Calls Tryz.prog 99 #[.slice p n pcap, .func (.func 69) #[] #[.pointer (some ⟨B, 0, none⟩)]] w fun e w' => (∃ z : Int, e = .returned (.int .i64 z) ∧ (xs.any (offP len) = decide (0 ≤ z))) ∧ w' = w := by
  unfold maxLen at hm
  have HX : Hid (Vw w p n xs) := hx
  have HC : Hid (w.cell? ⟨B, 0, none⟩ = some (.slice a len cap)) := hv
  clear hx hv
  go_enter Tryz.func99, Tryz.ntmps99
  go_wp2
  go_loopw [8] (fun i wr => ∃ k : Nat, k ≤ n ∧ i = .int .i64 k ∧ wr = w ∧ Hid (∀ j, j < k → offP len (xs.getD j 0) = false)) (fun i _ => n - (intOf i).toNat)
  case atStart => exact ⟨0, by omega, rfl, rfl, fun j hj => absurd hj (by omega)⟩
  case round =>
    obtain ⟨k, hk, rfl, rfl, hp⟩ := hrel
    by_cases hlt : k < n
    · obtain ⟨b, off, rfl, hpb, hcs⟩ := HX.out.2 (by omega)
      have c0 := hcs k hlt
      obtain ⟨x, ex⟩ : ∃ x, x = xs.getD k 0 := ⟨_, rfl⟩
      rw [← ex] at c0
      have EX : Hid (x = xs.getD k 0) := ex
      clear hcs ex hpb
      have hk0 : (0 : Int) ≤ (k : Int) := by omega
      have hkl : (k : Int) < (n : Int) := by omega
      cases hb : offP len x
      · go_wp2_with (go_at_call 69; refine (place1 a len cap B x _ HC.out).mono ?_; rintro e w' ⟨rfl, rfl⟩; rw [hb])
        go_roundw
        case rel => exact ⟨k + 1, by omega, by go_num, by first | rfl | trivial, fun j hj => if e : j < k then hp.out j e else by rw [show j = k by omega, ← EX.out]; exact hb⟩
        case measure => simp [intOf]; omega
      · go_wp2_with (go_at_call 69; refine (place1 a len cap B x _ HC.out).mono ?_; rintro e w' ⟨rfl, rfl⟩; rw [hb])
        go_ret
        refine ⟨⟨(k : Int), rfl, ?_⟩, rfl⟩
        rw [decide_eq_true (by omega)]
        refine List.any_eq_true.2 ⟨xs[k]'(by rw [HX.out.1]; exact hlt), List.getElem_mem _, ?_⟩
        have e : xs.getD k 0 = xs[k]'(by rw [HX.out.1]; exact hlt) := by simp [List.getD, HX.out.1, hlt]
        rw [← e, ← EX.out]
        exact hb
    · go_wp2
      go_ret
      refine ⟨⟨-1, rfl, ?_⟩, rfl⟩
      rw [decide_eq_false (by omega), List.any_eq_false]
      intro y hy
      obtain ⟨j, hj, rfl⟩ := List.getElem_of_mem hy
      have := hp.out j (by have := HX.out.1; omega)
      simpa [List.getD, hj] using this

theorem placesAny (p : Option Addr) (n pcap : Nat) (xs : List Int) (a : Option Addr) (len cap B : Nat) (w : World) (hm : n ≤ maxLen) (hx : Vw w p n xs) (hv : w.cell? ⟨B, 0, none⟩ = some (.slice a len cap)) :
    Calls Tryz.prog 68 #[.slice p n pcap, .func (.func 69) #[] #[.pointer (some ⟨B, 0, none⟩)]] w fun e w' => e = .returned (.bool (xs.any (offP len))) ∧ w' = w := by
  go_enter Tryz.func68, Tryz.ntmps68
  go_wp2_with fail
  refine (placesIdx p n pcap xs a len cap B _ hm hx hv).mono ?_
  rintro e w1 ⟨⟨z, rfl, hz⟩, rfl⟩
  have HZ : Hid (xs.any (offP len) = decide (0 ≤ z)) := hz
  clear hv hx hz
  go_wp2
  go_ret
  exact ⟨ret_bool HZ.out.symm, rfl⟩

/-- what is wrong with a history, or else with places in it -/
def plC (h : List Ev) (xs : List Int) : Int := if chkC h = 0 then (if xs.any (offP h.length) = true then 1 else 0) else chkC h

theorem places_any (a : Option Addr) (len cap : Nat) (h : List Ev) (p : Option Addr) (n pcap : Nat) (xs : List Int) (w : World) (hlc : len ≤ cap) (hm : cap ≤ maxLen) (hn : n ≤ maxLen) (hv : Ew w a len h) (hx : Vw w p n xs) :
    Calls Tryz.prog 41 #[.slice a len cap, .slice p n pcap] w fun e w' => e = .returned (errV (plC h xs)) ∧ Below w.heap.size w w' := by
  have b1 := (Below.refl w.heap.size w).alloc (Nat.le_refl _) (.cells #[.slice a len cap] 34)
  have B1 : Hid (Below w.heap.size w (w.alloc (.cells #[.slice a len cap] 34))) := b1
  have HL := hv.1
  by_cases hc : chkC h = 0
  · go_enter Tryz.func41, Tryz.ntmps41
    go_wp2_with fail
    refine (check_any a len cap h _ hlc hm (hv.later B1.out)).mono ?_
    rintro e w1 ⟨rfl, hb⟩
    rw [hc, errV_ok]
    have c1 : w1.cell? ⟨w.heap.size, 0, none⟩ = some (.slice a len cap) := by
      rw [hb.cell (p := ⟨w.heap.size, 0, none⟩) (by simp)]
      simp
    have C1 : Hid (w1.cell? ⟨w.heap.size, 0, none⟩ = some (.slice a len cap)) := c1
    have V1 : Hid (Below w.heap.size w w1) := below_up rfl B1.out hb
    have HX : Hid (Vw w1 p n xs) := hx.later V1.out
    have HC : Hid (chkC h = 0) := hc
    have HL' : Hid (h.length = len) := HL
    clear hv hx hb b1 c1 hc HL
    go_wp2_with fail
    refine (placesAny p n pcap xs a len cap w.heap.size _ hn HX.out C1.out).mono ?_
    rintro e w2 ⟨rfl, rfl⟩
    cases hq : xs.any (offP len)
    · go_wp2
      go_ret
      refine ⟨?_, V1.out⟩
      rw [plC, if_pos HC.out, HL'.out, hq]
      rfl
    · go_wp2
      go_ret
      refine ⟨?_, V1.out⟩
      rw [plC, if_pos HC.out, HL'.out, hq]
      rfl
  · have HC : Hid (chkC h ≠ 0) := hc
    go_enter Tryz.func41, Tryz.ntmps41
    go_wp2_with fail
    refine (check_any a len cap h _ hlc hm (hv.later B1.out)).mono ?_
    rintro e w1 ⟨rfl, hb⟩
    rw [errV_no hc]
    have V1 : Hid (Below w.heap.size w w1) := below_up rfl B1.out hb
    clear hv hx hb b1
    go_wp2
    go_ret
    refine ⟨?_, V1.out⟩
    rw [plC, if_neg HC.out, errV_no HC.out]
    rfl

/-- a list of places as the call lays it -/
theorem Vw.two (w : World) (x y : Int) (t : TypeId) : Vw (w.alloc (.cells #[.int .i64 x, .int .i64 y] t)) (some ⟨w.heap.size, 0, none⟩) 2 [x, y] := by
  refine ⟨rfl, fun _ => ⟨_, _, rfl, by simp, fun k hk => ?_⟩⟩
  rcases k with _ | _ | k
  · simp
  · simp
  · omega

def befC (h : List Ev) (i k : Int) : Int := plC h [i, k]
theorem befC_zero {h : List Ev} {i k : Int} (hc : befC h i k = 0) : chkC h = 0 ∧ 0 ≤ i ∧ i < h.length ∧ 0 ≤ k ∧ k < h.length := by
  unfold befC plC at hc
  split at hc
  · rename_i h0
    split at hc
    · omega
    · rename_i hn
      simp [offP] at hn
      exact ⟨h0, by omega, by omega, by omega, by omega⟩
  · omega

set_option maxRecDepth 100000 in
theorem before_no (a : Option Addr) (len cap : Nat) (h : List Ev) (i k : Int) (w : World) (hlc : len ≤ cap) (hm : cap ≤ maxLen) (hv : Ew w a len h) (hc : befC h i k ≠ 0) :
    Calls Tryz.prog 20 #[.slice a len cap, .int .i64 i, .int .i64 k] w fun e w' => e = .returned (.tuple #[.bool false, errV (befC h i k)]) ∧ Below w.heap.size w w' := by
  have b1 := (Below.refl w.heap.size w).alloc (Nat.le_refl _) (.cells #[.int .i64 i, .int .i64 k] 3)
  have B1 : Hid (Below w.heap.size w (w.alloc (.cells #[.int .i64 i, .int .i64 k] 3))) := b1
  have HC : Hid (befC h i k ≠ 0) := hc
  go_enter Tryz.func20, Tryz.ntmps20
  go_wp2_with fail
  refine (places_any a len cap h _ 2 2 [i, k] _ hlc hm (by unfold maxLen; omega) (hv.later B1.out) (Vw.two w i k _)).mono ?_
  rintro e w1 ⟨rfl, hb⟩
  rw [errV_no (show plC h [i, k] ≠ 0 from hc)]
  have V1 : Hid (Below w.heap.size w w1) := below_up rfl B1.out hb
  clear hv hb b1
  go_wp2
  go_ret2
  refine ⟨?_, V1.out⟩
  rw [errV_no HC.out]
  rfl

set_option maxRecDepth 100000 in
theorem before_ok (a : Option Addr) (len cap : Nat) (h : List Ev) (i k : Nat) (w : World) (hlc : len ≤ cap) (hm : cap ≤ maxLen) (hv : Ew w a len h) (hc : befC h i k = 0) :
    Calls Tryz.prog 20 #[.slice a len cap, .int .i64 i, .int .i64 k] w fun e w' => e = .returned (.tuple #[.bool (bef h i k), .nilIface]) ∧ Below w.heap.size w w' := by
  have b1 := (Below.refl w.heap.size w).alloc (Nat.le_refl _) (.cells #[.int .i64 (i : Int), .int .i64 (k : Int)] 3)
  have B1 : Hid (Below w.heap.size w (w.alloc (.cells #[.int .i64 (i : Int), .int .i64 (k : Int)] 3))) := b1
  have HL := hv.1
  obtain ⟨z, i0, i1, k0, k1⟩ := befC_zero hc
  obtain ⟨h60, hg⟩ := chk_zero z
  rw [HL] at hg h60
  have HG : Hid (Good h len ∧ len ≤ 60 ∧ i < len ∧ k < len) := ⟨hg, by omega, by omega, by omega⟩
  clear hg h60 i0 i1 k0 k1 z HL
  go_enter Tryz.func20, Tryz.ntmps20
  go_wp2_with fail
  refine (places_any a len cap h _ 2 2 [(i : Int), (k : Int)] _ hlc hm (by unfold maxLen; omega) (hv.later B1.out) (Vw.two w i k _)).mono ?_
  rintro e w1 ⟨rfl, hb⟩
  rw [show plC h [(i : Int), (k : Int)] = 0 from hc, errV_ok]
  have V1 : Hid (Below w.heap.size w w1) := below_up rfl B1.out hb
  have E1 : Hid (Ew w1 a len h) := hv.later V1.out
  clear hv hb b1
  go_wp2_with fail
  refine (reaches_any a len cap h _ HG.out.2.1 E1.out HG.out.1).mono ?_
  rintro e w2 ⟨A, rfl, hb, L, hR⟩
  have V2 : Hid (Below w.heap.size w w2) := below_up rfl V1.out hb
  have E2 : Hid (Ew w2 a len h) := E1.out.later hb
  have R2 : Hid (Rd h w2 A len) := hR.rd
  clear hb hR
  go_wp2_with fail
  refine (isBefore1 a A len cap i k h _ E2.out HG.out.1 R2.out HG.out.2.2.1 HG.out.2.2.2).mono ?_
  rintro e w3 ⟨rfl, hb⟩
  have V3 : Hid (Below w.heap.size w w3) := below_up rfl V2.out hb
  clear hb
  go_wp2
  go_ret2
  exact ⟨rfl, V3.out⟩
end Go.Proofs.YtpjoaogiaacikakGreatDoor.His
