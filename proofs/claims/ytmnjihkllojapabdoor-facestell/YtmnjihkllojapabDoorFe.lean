/-
  The walk of FacesTell: package faces tells of any history what the document tells.
-/
import Derived.Test.YtmnjihkllojapabDoorFacF
import Derived.Test.YtmnjihkllojapabDoorFacG
import Derived.Test.YtmnjihkllojapabDoorRefI
import Derived.Test.YtmnjihkllojapabDoorRefF
import Derived.Test.YtmnjihkllojapabDoorTold
namespace Go.Proofs.YtmnjihkllojapabDoor.His
open Go.RowKit
open Go.Proofs.YtmnjihkllojapabDoor.Vec
open Go.Proofs.YtmnjihkllojapabDoor.As (Laid error_errno error_nil)

theorem error_same0 (w : World) : Calls Tryd.prog 7 #[.nilIface, .int .i64 0] w fun e w' => e = .returned (.bool true) ∧ Below w.heap.size w w' := by
  refine (error_nil 0 w).mono ?_
  rintro e w' ⟨rfl, hb⟩
  exact ⟨ret_bool (by simp), hb⟩
theorem error_same1 (c : Int) (w : World) (hL : Laid w) : Calls Tryd.prog 7 #[.iface 51 (.int .i64 c), .int .i64 c] w fun e w' => e = .returned (.bool true) ∧ Below w.heap.size w w' := by
  refine (error_errno c c w hL).mono ?_
  rintro e w' ⟨rfl, hb⟩
  exact ⟨ret_bool (by simp), hb⟩
theorem right_any (a : Option Addr) (len cap : Nat) (h : List Ev) (w : World) (hv : Ew w a len h) :
    Calls Tryd.prog 8 #[.slice a len cap] w fun x w' => x = .returned (.int .i64 (chkC h)) ∧ Below w.heap.size w w' := by
  go_enter Tryd.func8, Tryd.ntmps8
  go_wp2_with fail
  refine (refHistory a len cap h _ hv).mono ?_
  rintro e w1 ⟨rfl, hb⟩
  clear hv
  go_wp2
  go_ret
  exact ⟨rfl, hb⟩
theorem ints_same (a b : Option Addr) (len cap len' cap' : Nat) (xs ys : List Int) (w : World) (hv : Vw w a len xs) (hv' : Vw w b len' ys) (hm : len ≤ maxLen) (he : xs = ys) :
    Calls Tryd.prog 14 #[.slice a len cap, .slice b len' cap'] w fun e w' => e = .returned (.bool true) ∧ Below w.heap.size w w' := by
  refine (ints_any a b len cap len' cap' xs ys w hv hv' hm).mono ?_
  rintro e w' ⟨rfl, n, rfl⟩
  exact ⟨ret_bool (decide_eq_true he), below_drewN (Below.refl _ _) _⟩
theorem eqFg : Tryd.prog.eqGuardType Tryd.prog.depth 44 = false := by kernel_rfl
theorem eqFc (a b c : Bool) (w : World) : (Op.equalIn 10000 44 (.agg #[.bool a, .bool b, .bool c]) (.agg #[.bool a, .bool b, .bool c])).run Tryd.prog w = .ok true w := by
  have u3 := Tryd.underlying4
  have a3 := Tryd.isAgg4
  have z3 := Tryd.sizeOf4
  have hS : Tryd.prog.underlying 44 = some (.struct (Tryd.prog.fieldsOf 44)) := by kernel_rfl
  have hp : Tryd.prog.stoodInHeld 44 = false := by kernel_rfl
  rw [show (10000 : Nat) = 9999 + 1 from rfl, run_equalIn_agg w 9999 44 _ _ hS hp]
  simp only [Program.fieldsOf, Tryd.underlying44]
  go_simp
/-- three flags in a place -/
def P3 (w : World) (P : Nat) (F C T : Bool) : Prop := w.rowIs P 44 3 (fv F C T)
theorem P3.new (w : World) (F C T : Bool) : P3 (w.alloc (.cells #[.bool F, .bool C, .bool T] 44)) w.heap.size F C T :=
  World.rowIs_alloc w #[.bool F, .bool C, .bool T] 44 (fv F C T) fun i hi => by
    have hi' : i < 3 := hi
    rcases i with _ | _ | _ | i <;> first | rfl | omega
theorem P3.later {w w' : World} {P : Nat} {F C T : Bool} (g : P3 w P F C T) (hb : Below w.heap.size w w') : P3 w' P F C T := rowIs_later g hb
theorem P3.set {w : World} {P : Nat} {F C T : Bool} (g : P3 w P F C T) (F' C' T' : Bool) : P3 (((w.setCell ⟨P, 0, none⟩ (.bool F')).setCell ⟨P, 1, none⟩ (.bool C')).setCell ⟨P, 2, none⟩ (.bool T')) P F' C' T' :=
  (((World.rowIs.set g 0 _).set 1 _).set 2 _).congr fun j hj => by
    rcases j with _ | _ | _ | j <;> first | rfl | omega
theorem P3.cells {w : World} {P : Nat} {F C T : Bool} (g : P3 w P F C T) : (w.cell? ⟨P, 0, none⟩ = some (.bool F) ∧ w.cell? ⟨P, 1, none⟩ = some (.bool C) ∧ w.cell? ⟨P, 2, none⟩ = some (.bool T)) ∧ w.frozen? ⟨P, 0, none⟩ = false ∧ w.frozen? ⟨P, 1, none⟩ = false ∧ w.frozen? ⟨P, 2, none⟩ = false :=
  ⟨⟨World.rowIs.cell g (i := 0) (by omega), World.rowIs.cell g (i := 1) (by omega), World.rowIs.cell g (i := 2) (by omega)⟩, World.rowIs.frozen g 0, World.rowIs.frozen g 1, World.rowIs.frozen g 2⟩
theorem hd_len (h : List Ev) (who : Int) : (hdL h who).length ≤ h.length := by
  unfold hdL
  split
  · exact hrd_len h who
  · exact Nat.zero_le _

set_option maxRecDepth 100000 in
set_option maxHeartbeats 4000000 in
theorem fe_no (a : Option Addr) (len cap : Nat) (h : List Ev) (who : Int) (w : World) (hlc : len ≤ cap) (hm : cap ≤ maxLen) (hv : Ew w a len h) (hL : Laid w) (hc : chkC h ≠ 0) :
    Calls Tryd.prog 5 #[.slice a len cap, .int .i64 who] w fun e w' => e = .returned (.bool true) ∧ Below w.heap.size w w' := by
  have H : Hid (len ≤ cap ∧ cap ≤ maxLen ∧ Ew w a len h ∧ Laid w) := ⟨hlc, hm, hv, hL⟩
  have HD : Hid (hdC h who = chkC h ∧ hdL h who = []) := ⟨hdC_no hc, hdL_no (by rw [hdC_no hc]; exact hc)⟩
  have HC : Hid (chkC h ≠ 0) := hc
  obtain ⟨c, ec⟩ : ∃ c, c = chkC h := ⟨_, rfl⟩
  have EC : Hid (chkC h = c) := ec.symm
  have hc0 : (c == 0) = false := by rw [ec]; simp [hc]
  clear ec hc hv hlc hm hL
  have hgd := eqFg
  have hev := eqFc false false false
  go_enter Tryd.func5, Tryd.ntmps5
  go_wp2_with fail
  refine (right_any a len cap h _ H.out.2.2.1).mono ?_
  rintro e w1 ⟨rfl, hb⟩
  rw [EC.out]
  have V1 : Hid (Below w.heap.size w (w1.alloc (.cells #[.bool false, .bool false, .bool false] 44))) := hb.alloc hb.size _
  have PW : Hid (w.heap.size ≤ w1.heap.size ∧ P3 (w1.alloc (.cells #[.bool false, .bool false, .bool false] 44)) w1.heap.size false false false) := ⟨hb.size, P3.new w1 false false false⟩
  clear hb
  go_wp2_with fail
  refine (of_no a len cap h _ H.out.1 H.out.2.1 (H.out.2.2.1.later V1.out) HC.out).mono ?_
  rintro e w3 ⟨rfl, hb⟩
  rw [EC.out]
  have V3 : Hid (Below w.heap.size w (w3.alloc (.cells #[.bool false, .bool false, .bool false] 44))) := (below_up rfl V1.out hb).alloc (below_up rfl V1.out hb).size _
  have P6 : Hid (P3 (w3.alloc (.cells #[.bool false, .bool false, .bool false] 44)) w1.heap.size false false false) := World.rowIs.alloc (P3.later PW.out.2 hb) _
  have P8 : Hid (P3 (w3.alloc (.cells #[.bool false, .bool false, .bool false] 44)) w3.heap.size false false false) := P3.new w3 false false false
  clear hb
  go_wp2_with fail
  refine (error_same1 c _ (H.out.2.2.2.later V3.out)).mono ?_
  rintro e w4 ⟨rfl, hb⟩
  obtain ⟨⟨x0, x1, x2⟩, -⟩ := (P6.out.later hb).cells
  obtain ⟨⟨y0, y1, y2⟩, -⟩ := (P8.out.later hb).cells
  have V4 : Hid (Below w.heap.size w w4) := below_up rfl V3.out hb
  clear hb
  go_wp2_with fail
  refine (heard_any a len cap h who _ H.out.1 H.out.2.1 (H.out.2.2.1.later V4.out)).mono ?_
  rintro e w6 ⟨⟨ql, dl, rfl, hvl⟩, hb⟩
  rw [HD.out.2] at hvl
  rw [HD.out.1, HD.out.2, EC.out, errV_no (by have := HC.out; rwa [EC.out] at this)]
  have V6 : Hid (Below w.heap.size w w6) := below_up rfl V4.out hb
  have VL : Hid (Vw w6 ql ([] : List Int).length []) := hvl
  clear hb hvl
  go_wp2_with fail
  refine (error_same1 c _ (H.out.2.2.2.later V6.out)).mono ?_
  rintro e w7 ⟨rfl, hb⟩
  have V7 : Hid (Below w.heap.size w w7) := below_up rfl V6.out hb
  have VL7 : Hid (Vw w7 ql ([] : List Int).length []) := Vw.later VL.out hb
  clear hb
  go_wp2_with fail
  refine (ints_same ql none 0 dl 0 0 [] [] _ VL7.out (Vw.none _) (by unfold maxLen; omega) rfl).mono ?_
  rintro e w8 ⟨rfl, hb⟩
  have V8 : Hid (Below w.heap.size w w8) := below_up rfl V7.out hb
  clear hb
  go_wp2
  go_ret
  exact ⟨rfl, V8.out⟩

set_option maxRecDepth 100000 in
set_option maxHeartbeats 4000000 in
theorem fe_out (a : Option Addr) (len cap : Nat) (h : List Ev) (who : Int) (w : World) (hlc : len ≤ cap) (hm : cap ≤ maxLen) (hv : Ew w a len h) (hL : Laid w) (hc : chkC h = 0) (hw : who < 0 ∨ 4 < who) :
    Calls Tryd.prog 5 #[.slice a len cap, .int .i64 who] w fun e w' => e = .returned (.bool true) ∧ Below w.heap.size w w' := by
  have H : Hid (len ≤ cap ∧ cap ≤ maxLen ∧ Ew w a len h ∧ Laid w) := ⟨hlc, hm, hv, hL⟩
  have HH : Hid (h.length = len ∧ len ≤ 60 ∧ Good h len) := by
    obtain ⟨x, y⟩ := chk_zero hc
    rw [hv.1] at x y
    exact ⟨hv.1, x, y⟩
  have EQ : Hid (fifoB h = fI h len len ∧ causB h = cI h len len ∧ totB h = tA h 5) := by
    have g : Good h h.length := by rw [hv.1]; exact HH.out.2.2
    have e1 := fifo_eq g
    have e2 := caus_eq g
    rw [hv.1] at e1 e2
    exact ⟨e1, e2, tot_eq g⟩
  have HC : Hid (chkC h = 0) := hc
  have HD : Hid (hdC h who = 1 ∧ hdL h who = []) := ⟨hdC_out hc hw, hdL_no (by rw [hdC_out hc hw]; decide)⟩
  clear hc hv hlc hm hL
  have hgd := eqFg
  go_enter Tryd.func5, Tryd.ntmps5
  go_wp2_with fail
  refine (right_any a len cap h _ H.out.2.2.1).mono ?_
  rintro e w1 ⟨rfl, hb⟩
  rw [HC.out]
  have V1 : Hid (Below w.heap.size w (w1.alloc (.cells #[.bool false, .bool false, .bool false] 44))) := hb.alloc hb.size _
  have PW : Hid (w.heap.size ≤ w1.heap.size ∧ P3 (w1.alloc (.cells #[.bool false, .bool false, .bool false] 44)) w1.heap.size false false false) := ⟨hb.size, P3.new w1 false false false⟩
  clear hb
  go_wp2_with fail
  refine (refFaces a len cap h _ HH.out.2.1 (H.out.2.2.1.later V1.out) HH.out.2.2).mono ?_
  rintro e w2 ⟨rfl, hb⟩
  rw [← EQ.out.1, ← EQ.out.2.1, ← EQ.out.2.2]
  obtain ⟨F, eF⟩ : ∃ b, b = fifoB h := ⟨_, rfl⟩
  obtain ⟨C, eC⟩ : ∃ b, b = causB h := ⟨_, rfl⟩
  obtain ⟨T, eT⟩ : ∃ b, b = totB h := ⟨_, rfl⟩
  rw [← eF, ← eC, ← eT]
  have EF : Hid (fifoB h = F ∧ causB h = C ∧ totB h = T) := ⟨eF.symm, eC.symm, eT.symm⟩
  have hev := eqFc F C T
  have P2 : Hid (P3 w2 w1.heap.size false false false) := P3.later PW.out.2 hb
  have V2 : Hid (Below w.heap.size w w2) := below_up rfl V1.out hb
  obtain ⟨⟨p0, p1, p2⟩, f0, f1, f2⟩ := P2.out.cells
  clear hb eF eC eT
  go_wp2_with fail
  obtain ⟨W2, eW2⟩ : ∃ W, W = ((w2.setCell ⟨w1.heap.size, 0, none⟩ (.bool F)).setCell ⟨w1.heap.size, 1, none⟩ (.bool C)).setCell ⟨w1.heap.size, 2, none⟩ (.bool T) := ⟨_, rfl⟩
  rw [← eW2]
  have P2' : Hid (P3 W2 w1.heap.size F C T) := by rw [eW2]; exact P2.out.set F C T
  have V2' : Hid (Below w.heap.size w W2) := by
    rw [eW2]
    exact ((V2.out.setCell (p := ⟨_, _, none⟩) PW.out.1 _).setCell (p := ⟨_, _, none⟩) PW.out.1 _).setCell (p := ⟨_, _, none⟩) PW.out.1 _
  clear eW2 p0 p1 p2 f0 f1 f2
  refine (of_ok a len cap h _ H.out.1 H.out.2.1 (H.out.2.2.1.later V2'.out) HC.out).mono ?_
  rintro e w3 ⟨rfl, hb⟩
  rw [EF.out.1, EF.out.2.1, EF.out.2.2]
  have V3 : Hid (Below w.heap.size w (w3.alloc (.cells #[.bool F, .bool C, .bool T] 44))) := (below_up rfl V2'.out hb).alloc (below_up rfl V2'.out hb).size _
  have P6 : Hid (P3 (w3.alloc (.cells #[.bool F, .bool C, .bool T] 44)) w1.heap.size F C T) := World.rowIs.alloc (P3.later P2'.out hb) _
  have P8 : Hid (P3 (w3.alloc (.cells #[.bool F, .bool C, .bool T] 44)) w3.heap.size F C T) := P3.new w3 F C T
  clear hb
  go_wp2_with fail
  refine (error_same0 _).mono ?_
  rintro e w4 ⟨rfl, hb⟩
  obtain ⟨⟨x0, x1, x2⟩, -⟩ := (P6.out.later hb).cells
  obtain ⟨⟨y0, y1, y2⟩, -⟩ := (P8.out.later hb).cells
  have V4 : Hid (Below w.heap.size w w4) := below_up rfl V3.out hb
  clear hb
  rcases Int.lt_or_le who 0 with hw0 | hw0
  · go_wp2_with fail
    refine (heard_any a len cap h who _ H.out.1 H.out.2.1 (H.out.2.2.1.later V4.out)).mono ?_
    rintro e w6 ⟨⟨ql, dl, rfl, hvl⟩, hb⟩
    rw [HD.out.2] at hvl
    rw [HD.out.1, HD.out.2, errV_no (by decide)]
    have V6 : Hid (Below w.heap.size w w6) := below_up rfl V4.out hb
    have VL : Hid (Vw w6 ql ([] : List Int).length []) := hvl
    clear hb hvl
    go_wp2_with fail
    refine (error_same1 1 _ (H.out.2.2.2.later V6.out)).mono ?_
    rintro e w7 ⟨rfl, hb⟩
    have V7 : Hid (Below w.heap.size w w7) := below_up rfl V6.out hb
    have VL7 : Hid (Vw w7 ql ([] : List Int).length []) := Vw.later VL.out hb
    clear hb
    go_wp2_with fail
    refine (ints_same ql none 0 dl 0 0 [] [] _ VL7.out (Vw.none _) (by unfold maxLen; omega) rfl).mono ?_
    rintro e w8 ⟨rfl, hb⟩
    have V8 : Hid (Below w.heap.size w w8) := below_up rfl V7.out hb
    clear hb
    go_wp2
    go_ret
    exact ⟨rfl, V8.out⟩
  · have hw4 : 4 < who := by omega
    go_wp2_with fail
    refine (heard_any a len cap h who _ H.out.1 H.out.2.1 (H.out.2.2.1.later V4.out)).mono ?_
    rintro e w6 ⟨⟨ql, dl, rfl, hvl⟩, hb⟩
    rw [HD.out.2] at hvl
    rw [HD.out.1, HD.out.2, errV_no (by decide)]
    have V6 : Hid (Below w.heap.size w w6) := below_up rfl V4.out hb
    have VL : Hid (Vw w6 ql ([] : List Int).length []) := hvl
    clear hb hvl
    go_wp2_with fail
    refine (error_same1 1 _ (H.out.2.2.2.later V6.out)).mono ?_
    rintro e w7 ⟨rfl, hb⟩
    have V7 : Hid (Below w.heap.size w w7) := below_up rfl V6.out hb
    have VL7 : Hid (Vw w7 ql ([] : List Int).length []) := Vw.later VL.out hb
    clear hb
    go_wp2_with fail
    refine (ints_same ql none 0 dl 0 0 [] [] _ VL7.out (Vw.none _) (by unfold maxLen; omega) rfl).mono ?_
    rintro e w8 ⟨rfl, hb⟩
    have V8 : Hid (Below w.heap.size w w8) := below_up rfl V7.out hb
    clear hb
    go_wp2
    go_ret
    exact ⟨rfl, V8.out⟩

set_option maxRecDepth 100000 in
set_option maxHeartbeats 4000000 in
theorem fe_in (a : Option Addr) (len cap : Nat) (h : List Ev) (who : Int) (w : World) (hlc : len ≤ cap) (hm : cap ≤ maxLen) (hv : Ew w a len h) (hL : Laid w) (hc : chkC h = 0) (hw : ¬ (who < 0 ∨ 4 < who)) :
    Calls Tryd.prog 5 #[.slice a len cap, .int .i64 who] w fun e w' => e = .returned (.bool true) ∧ Below w.heap.size w w' := by
  have H : Hid (len ≤ cap ∧ cap ≤ maxLen ∧ Ew w a len h ∧ Laid w) := ⟨hlc, hm, hv, hL⟩
  have HH : Hid (h.length = len ∧ len ≤ 60 ∧ Good h len) := by
    obtain ⟨x, y⟩ := chk_zero hc
    rw [hv.1] at x y
    exact ⟨hv.1, x, y⟩
  have EQ : Hid (fifoB h = fI h len len ∧ causB h = cI h len len ∧ totB h = tA h 5) := by
    have g : Good h h.length := by rw [hv.1]; exact HH.out.2.2
    have e1 := fifo_eq g
    have e2 := caus_eq g
    rw [hv.1] at e1 e2
    exact ⟨e1, e2, tot_eq g⟩
  have HC : Hid (chkC h = 0) := hc
  have HD : Hid (hdC h who = 0 ∧ hdL h who = hrd h who) := ⟨hdC_ok hc hw, hdL_ok (hdC_ok hc hw)⟩
  have hw0 : 0 ≤ who := by omega
  have hw4 : who ≤ 4 := by omega
  clear hc hv hlc hm hL
  have hgd := eqFg
  go_enter Tryd.func5, Tryd.ntmps5
  go_wp2_with fail
  refine (right_any a len cap h _ H.out.2.2.1).mono ?_
  rintro e w1 ⟨rfl, hb⟩
  rw [HC.out]
  have V1 : Hid (Below w.heap.size w (w1.alloc (.cells #[.bool false, .bool false, .bool false] 44))) := hb.alloc hb.size _
  have PW : Hid (w.heap.size ≤ w1.heap.size ∧ P3 (w1.alloc (.cells #[.bool false, .bool false, .bool false] 44)) w1.heap.size false false false) := ⟨hb.size, P3.new w1 false false false⟩
  clear hb
  go_wp2_with fail
  refine (refFaces a len cap h _ HH.out.2.1 (H.out.2.2.1.later V1.out) HH.out.2.2).mono ?_
  rintro e w2 ⟨rfl, hb⟩
  rw [← EQ.out.1, ← EQ.out.2.1, ← EQ.out.2.2]
  obtain ⟨F, eF⟩ : ∃ b, b = fifoB h := ⟨_, rfl⟩
  obtain ⟨C, eC⟩ : ∃ b, b = causB h := ⟨_, rfl⟩
  obtain ⟨T, eT⟩ : ∃ b, b = totB h := ⟨_, rfl⟩
  rw [← eF, ← eC, ← eT]
  have EF : Hid (fifoB h = F ∧ causB h = C ∧ totB h = T) := ⟨eF.symm, eC.symm, eT.symm⟩
  have hev := eqFc F C T
  have P2 : Hid (P3 w2 w1.heap.size false false false) := P3.later PW.out.2 hb
  have V2 : Hid (Below w.heap.size w w2) := below_up rfl V1.out hb
  obtain ⟨⟨p0, p1, p2⟩, f0, f1, f2⟩ := P2.out.cells
  clear hb eF eC eT
  go_wp2_with fail
  obtain ⟨W2, eW2⟩ : ∃ W, W = ((w2.setCell ⟨w1.heap.size, 0, none⟩ (.bool F)).setCell ⟨w1.heap.size, 1, none⟩ (.bool C)).setCell ⟨w1.heap.size, 2, none⟩ (.bool T) := ⟨_, rfl⟩
  rw [← eW2]
  have P2' : Hid (P3 W2 w1.heap.size F C T) := by rw [eW2]; exact P2.out.set F C T
  have V2' : Hid (Below w.heap.size w W2) := by
    rw [eW2]
    exact ((V2.out.setCell (p := ⟨_, _, none⟩) PW.out.1 _).setCell (p := ⟨_, _, none⟩) PW.out.1 _).setCell (p := ⟨_, _, none⟩) PW.out.1 _
  clear eW2 p0 p1 p2 f0 f1 f2
  refine (of_ok a len cap h _ H.out.1 H.out.2.1 (H.out.2.2.1.later V2'.out) HC.out).mono ?_
  rintro e w3 ⟨rfl, hb⟩
  rw [EF.out.1, EF.out.2.1, EF.out.2.2]
  have V3 : Hid (Below w.heap.size w (w3.alloc (.cells #[.bool F, .bool C, .bool T] 44))) := (below_up rfl V2'.out hb).alloc (below_up rfl V2'.out hb).size _
  have P6 : Hid (P3 (w3.alloc (.cells #[.bool F, .bool C, .bool T] 44)) w1.heap.size F C T) := World.rowIs.alloc (P3.later P2'.out hb) _
  have P8 : Hid (P3 (w3.alloc (.cells #[.bool F, .bool C, .bool T] 44)) w3.heap.size F C T) := P3.new w3 F C T
  clear hb
  go_wp2_with fail
  refine (error_same0 _).mono ?_
  rintro e w4 ⟨rfl, hb⟩
  obtain ⟨⟨x0, x1, x2⟩, -⟩ := (P6.out.later hb).cells
  obtain ⟨⟨y0, y1, y2⟩, -⟩ := (P8.out.later hb).cells
  have V4 : Hid (Below w.heap.size w w4) := below_up rfl V3.out hb
  clear hb
  go_wp2_with fail
  refine (refHeard a len cap h who _ HH.out.2.1 (H.out.2.2.1.later V4.out)).mono ?_
  rintro e w5 ⟨⟨v, rfl, ho⟩, hb⟩
  obtain ⟨qr, dr, rfl, hvr, -, -, -⟩ := own_sl ho
  have V5 : Hid (Below w.heap.size w w5) := below_up rfl V4.out hb
  have VR : Hid (Vw w5 qr (hrd h who).length (hrd h who)) := hvr
  clear ho hb hvr
  go_wp2_with fail
  refine (heard_any a len cap h who _ H.out.1 H.out.2.1 (H.out.2.2.1.later V5.out)).mono ?_
  rintro e w6 ⟨⟨ql, dl, rfl, hvl⟩, hb⟩
  rw [HD.out.2] at hvl
  rw [HD.out.1, HD.out.2, errV_ok]
  have V6 : Hid (Below w.heap.size w w6) := below_up rfl V5.out hb
  have VL : Hid (Vw w6 ql ((hrd h who) : List Int).length (hrd h who)) := hvl
  have VR6 : Hid (Vw w6 qr (hrd h who).length (hrd h who)) := Vw.later VR.out hb
  have LM : Hid ((hrd h who).length ≤ maxLen) := Nat.le_trans (hrd_len h who) (by rw [HH.out.1]; exact Nat.le_trans H.out.1 H.out.2.1)
  clear hb hvl
  go_wp2_with fail
  refine (error_same0 _).mono ?_
  rintro e w7 ⟨rfl, hb⟩
  have V7 : Hid (Below w.heap.size w w7) := below_up rfl V6.out hb
  have VL7 : Hid (Vw w7 ql ((hrd h who) : List Int).length (hrd h who)) := Vw.later VL.out hb
  have VR7 : Hid (Vw w7 qr (hrd h who).length (hrd h who)) := Vw.later VR6.out hb
  clear hb
  go_wp2_with fail
  refine (ints_same ql qr (hrd h who).length dl (hrd h who).length dr (hrd h who) (hrd h who) _ VL7.out VR7.out LM.out rfl).mono ?_
  rintro e w8 ⟨rfl, hb⟩
  have V8 : Hid (Below w.heap.size w w8) := below_up rfl V7.out hb
  clear hb
  go_wp2
  go_ret
  exact ⟨rfl, V8.out⟩
theorem fe_walk (a : Option Addr) (len cap : Nat) (h : List Ev) (who : Int) (w : World) (hlc : len ≤ cap) (hm : cap ≤ maxLen) (hv : Ew w a len h) (hL : Laid w) :
    Calls Tryd.prog 5 #[.slice a len cap, .int .i64 who] w fun e w' => e = .returned (.bool true) ∧ Below w.heap.size w w' := by
  by_cases hc : chkC h = 0
  · by_cases hw : who < 0 ∨ 4 < who
    · exact fe_out a len cap h who w hlc hm hv hL hc hw
    · exact fe_in a len cap h who w hlc hm hv hL hc hw
  · exact fe_no a len cap h who w hlc hm hv hL hc
end Go.Proofs.YtmnjihkllojapabDoor.His
