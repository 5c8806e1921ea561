/-
  Contract of package faces' Heard.
-/
import Derived.Test.YtmnjihkllojapabDoorFacA
namespace Go.Proofs.YtmnjihkllojapabDoor.His
open Go.RowKit
open Go.Proofs.YtmnjihkllojapabDoor.Vec

def hdC (h : List Ev) (who : Int) : Int := if chkC h = 0 then (if who < 0 ∨ 4 < who then 1 else 0) else chkC h
def hdL (h : List Ev) (who : Int) : List Int := if hdC h who = 0 then hrd h who else []
theorem hdC_no {h : List Ev} {who : Int} (hc : chkC h ≠ 0) : hdC h who = chkC h := if_neg hc
theorem hdC_out {h : List Ev} {who : Int} (hc : chkC h = 0) (hw : who < 0 ∨ 4 < who) : hdC h who = 1 := by rw [hdC, if_pos hc, if_pos hw]
theorem hdC_ok {h : List Ev} {who : Int} (hc : chkC h = 0) (hw : ¬ (who < 0 ∨ 4 < who)) : hdC h who = 0 := by rw [hdC, if_pos hc, if_neg hw]
theorem hdL_no {h : List Ev} {who : Int} (hc : hdC h who ≠ 0) : hdL h who = [] := if_neg hc
theorem hdL_ok {h : List Ev} {who : Int} (hc : hdC h who = 0) : hdL h who = hrd h who := if_pos hc
theorem Vw.none (w : World) : Vw w none 0 [] := ⟨rfl, fun h => absurd h (by omega)⟩

set_option maxRecDepth 100000 in
theorem heard_any (a : Option Addr) (len cap : Nat) (h : List Ev) (who : Int) (w : World) (hlc : len ≤ cap) (hm : cap ≤ maxLen) (hv : Ew w a len h) :
    Calls Tryd.prog 19 #[.slice a len cap, .int .i64 who] w fun e w' => (∃ q d, e = .returned (.tuple #[.slice q (hdL h who).length d, errV (hdC h who)]) ∧ Vw w' q (hdL h who).length (hdL h who)) ∧ Below w.heap.size w w' := by
  have V0 : Hid (Ew w a len h) := hv
  by_cases hc : chkC h = 0
  · have h60 : Hid (len ≤ 60) := by
      have := (chk_zero hc).1
      rw [hv.1] at this
      exact this
    by_cases hw : who < 0 ∨ 4 < who
    · have E : Hid (hdC h who = 1 ∧ hdL h who = []) := ⟨hdC_out hc hw, hdL_no (by rw [hdC_out hc hw]; decide)⟩
      rw [E.out.1, E.out.2]
      by_cases hw0 : who < 0
      · go_enter Tryd.func19, Tryd.ntmps19
        go_wp2_with fail
        refine (check_any a len cap h w hlc hm hv).mono ?_
        rintro e w1 ⟨rfl, hb⟩
        rw [hc, errV_ok]
        clear hv
        go_wp2
        go_ret2
        exact ⟨⟨none, 0, rfl, Vw.none _⟩, hb⟩
      · have hw5 : 5 ≤ who := by omega
        go_enter Tryd.func19, Tryd.ntmps19
        go_wp2_with fail
        refine (check_any a len cap h w hlc hm hv).mono ?_
        rintro e w1 ⟨rfl, hb⟩
        rw [hc, errV_ok]
        clear hv
        go_wp2
        go_ret2
        exact ⟨⟨none, 0, rfl, Vw.none _⟩, hb⟩
    · have E : Hid (hdC h who = 0 ∧ hdL h who = hrd h who) := ⟨hdC_ok hc hw, hdL_ok (hdC_ok hc hw)⟩
      rw [E.out.1, E.out.2]
      have hw0 : 0 ≤ who := by omega
      have hw5 : who < 5 := by omega
      go_enter Tryd.func19, Tryd.ntmps19
      go_wp2_with fail
      refine (check_any a len cap h w hlc hm hv).mono ?_
      rintro e w1 ⟨rfl, hb⟩
      rw [hc, errV_ok]
      have B1 : Hid (Below w.heap.size w w1) := hb
      clear hv hb
      go_wp2_with fail
      refine (heardBy_any a len cap h who _ h60.out (V0.out.later B1.out)).mono ?_
      rintro e w2 ⟨⟨v, rfl, ho⟩, hb⟩
      obtain ⟨q, d, rfl, hvw, -, -, -⟩ := own_sl ho
      have B2 : Hid (Below w.heap.size w w2) := below_up rfl B1.out hb
      have V2 : Hid (Vw w2 q (hrd h who).length (hrd h who)) := hvw
      clear ho hb hvw
      go_wp2
      go_ret2
      exact ⟨⟨q, d, rfl, V2.out⟩, B2.out⟩
  · have E : Hid (hdC h who = chkC h ∧ hdL h who = []) := ⟨hdC_no hc, hdL_no (by rw [hdC_no hc]; exact hc)⟩
    rw [E.out.1, E.out.2, errV_no hc]
    go_enter Tryd.func19, Tryd.ntmps19
    go_wp2_with fail
    refine (check_any a len cap h w hlc hm hv).mono ?_
    rintro e w1 ⟨rfl, hb⟩
    rw [errV_no hc]
    clear hv
    go_wp2
    go_ret2
    exact ⟨⟨none, 0, rfl, Vw.none _⟩, hb⟩
end Go.Proofs.YtmnjihkllojapabDoor.His
