/-
  Texts put together: RefVe.
-/
import Derived.Test.YtdmniblonikjlakGreatDoorPrA


namespace Go.Proofs.YtdmniblonikjlakGreatDoor.Vec
open Go.RowKit
theorem ret_i {a b:Int} (h:a = b):Ending.returned (.int .i64 a) = .returned (.int .i64 b) := by rw [h]
theorem code_one {xs:List Int} (hl:xs.length = 5) {k:Nat} (hk:k < 5) (h:out (xs.getD k 0) = true):code xs = 1 := by
 have hb:bad xs = true := anyP_true (p := fun k => out (xs.getD k 0)) hk h
 simp [code,hl,hb]
theorem refVector (a:Option Addr) (len cap:Nat) (xs:List Int) (w:World) (hv:Vw w a len xs) :
  Calls Tryz.prog 154 #[.slice a len cap] w fun e w' => e = .returned (.int .i64 (code xs)) ∧ w' = w := by
 by_cases h5:len = 5
 ·subst h5
  obtain ⟨p,off,rfl,hpb,hc⟩ := hv.2 (by omega)
  have HC:Hid _ := hc
  have HL:Hid (xs.length = 5) := hv.1
  clear hc hv
  go_enter Tryz.func154,Tryz.ntmps154
  go_wp2
  go_loopw [3] (fun i wr => ∃ k:Nat,k ≤ 5 ∧ i = .int .i64 k ∧ w = wr ∧ Hid (∀ j,j < k → out (xs.getD j 0) = false)) (fun i _ => 5 - (intOf i).toNat)
  case atStart => exact ⟨0,by omega,rfl,rfl,fun j hj => absurd hj (by omega)⟩
  case round =>
   obtain ⟨k,hk,rfl,rfl,hp⟩ := hrel
   by_cases hlt:k < 5
   ·have hx := HC.out k hlt
    obtain ⟨x,ex⟩:∃ x,x = xs.getD k 0 := ⟨_,rfl⟩
    rw [← ex] at hx
    have EX:Hid _ := ex
    clear ex
    by_cases h1:x < 0
    ·go_wp2
     go_ret
     exact ⟨ret_i (code_one HL.out hlt (by rw [← EX.out]; simp [out,h1])).symm,rfl⟩
    ·by_cases h2:1000000 < x
     ·go_wp2
      go_ret
      exact ⟨ret_i (code_one HL.out hlt (by rw [← EX.out]; simp [out,h2])).symm,rfl⟩
     ·go_wp2
      go_round
      case rel => exact ⟨k + 1,by omega,by go_num,trivial,fun j hj => if e:j < k then hp.out j e else by rw [show j = k by omega,← EX.out]; simp only [out,Bool.or_eq_false_iff,decide_eq_false_iff_not]; omega⟩
      case measure => simp [intOf]; omega
   ·go_wp2
    go_ret
    have hb:bad xs = false := anyP_false fun j hj => hp.out j (by omega)
    exact ⟨ret_i (by simp [code,HL.out,hb]),rfl⟩
 ·have h5':((len:Int) != 5) = true := by rw [bne_iff_ne]; omega
  have e:code xs = 3 := by have := hv.1; simp [code]; omega
  have E:Hid _ := e
  clear e hv
  go_enter Tryz.func154,Tryz.ntmps154
  go_wp2
  go_ret
  exact ⟨ret_i E.out.symm,rfl⟩
end Go.Proofs.YtdmniblonikjlakGreatDoor.Vec
