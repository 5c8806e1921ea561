/-
  Texts put together: CagX.
-/
import Derived.Test.YtdmniblonikjlakGreatDoorPsE


namespace Go.Proofs.YtdmniblonikjlakGreatDoor.Cau
open Go.RowKit
open Vec (Vw code)
open Fif (Kp set_getD)
theorem sdBad_no {s:Sd} (h:sdBad s = false):(0 ≤ s.1 ∧ s.1 ≤ 4) ∧ 1 ≤ s.2.1 ∧ s.2.1 ≤ 30 := by
 simp only [sdBad,Bool.or_eq_false_iff,decide_eq_false_iff_not] at h
 omega
theorem refTakeC (base:Nat) (F:Nat → Prop) (P:Nat) (me:Int) (K:List Int) (es:List Es) (v:Value) (who word:Int) (q:Option Addr) (len c:Nat) (clk:List Int) (w:World) (g:RC w base F P me K es v) (hi:CInv me K (es.map toSd)) (hbw:base ≤ w.heap.size) (hv:Vw w q len clk) (hold:len = 5 → Old w F q clk) :
  Calls Tryz.prog 105 #[.pointer (some ⟨P,0,none⟩),.agg #[.int .i64 who,.int .i64 word,.slice q len c]] w fun x w' => ∃ vo v' es',x = .returned (.tuple #[vo,.int .i64 (ckC me K (es.map toSd) (who,word,clk))]) ∧
   RC w' base F P me (ctk me K (es.map toSd) (who,word,clk)).2.1 es' v' ∧ es'.map toSd = (ctk me K (es.map toSd) (who,word,clk)).2.2 ∧ w'.ownsRow w.heap.size 3 1 vo (ctk me K (es.map toSd) (who,word,clk)).1.length ((ctk me K (es.map toSd) (who,word,clk)).1.map (Value.int .i64)) ∧ Below base w w' ∧ Kp w w' P v.ownBlock ∧ ∀ k,v'.ownBlock = some k → v.ownBlock = some k ∨ w.heap.size ≤ k := by
 have no:∀ k:Int,k ≠ 0 → ckC me K (es.map toSd) (who,word,clk) = k → ∀ x w',(x = Ending.returned (.tuple #[.slice none 0 0,.int .i64 k]) ∧ Below w.heap.size w w') → ∃ vo v' es',x = .returned (.tuple #[vo,.int .i64 (ckC me K (es.map toSd) (who,word,clk))]) ∧
   RC w' base F P me (ctk me K (es.map toSd) (who,word,clk)).2.1 es' v' ∧ es'.map toSd = (ctk me K (es.map toSd) (who,word,clk)).2.2 ∧ w'.ownsRow w.heap.size 3 1 vo (ctk me K (es.map toSd) (who,word,clk)).1.length ((ctk me K (es.map toSd) (who,word,clk)).1.map (Value.int .i64)) ∧ Below base w w' ∧ Kp w w' P v.ownBlock ∧ ∀ k,v'.ownBlock = some k → v.ownBlock = some k ∨ w.heap.size ≤ k := by
  rintro k hk0 hk x w' ⟨rfl,hb⟩
  have e:ctk me K (es.map toSd) (who,word,clk) = ([],K,es.map toSd) := if_neg (by rw [hk]; exact hk0)
  rw [e,hk]
  exact ⟨_,v,es,rfl,g.later hb,rfl,World.ownsRow_nil _ _ _ _,hb.mono hbw,Kp.below hb _,fun k hk => .inl hk⟩
 cases hb:sdBad (who,word,clk) with
 | true => exact (takeC_bad base F P me K es v who word q len c clk w hb).mono (no 1 (by decide) (by unfold ckC; rw [if_pos hb]))
 | false =>
  by_cases hc:code clk = 0
  ·have hl:clk.length = 5 := (clk_num hc (show 0 < 5 by omega)).1
   have hl5:len = 5 := by have := hv.1; omega
   subst hl5
   obtain ⟨hw,h1,h2⟩ := sdBad_no hb
   simp only at hw h1 h2
   obtain ⟨m,rfl⟩:∃ m:Nat,who = (m:Int) := ⟨who.toNat,by omega⟩
   have hm:m < 5 := by omega
   have k1:¬ sdBad ((m:Int),word,clk) = true := by rw [hb]; decide
   by_cases a1:(m:Int) = me
   ·exact (takeC_own base F P m me K es v word q c clk w hm g hi hbw hv h1 h2 hc a1).mono (no 3 (by decide) (by unfold ckC; rw [if_neg k1,if_neg (by simp [hc]),if_pos a1]))
   ·by_cases a2:clk.getD m 0 = 0
    ·exact (takeC_zero base F P m me K es v word q c clk w hm g hi hbw hv h1 h2 hc a1 a2).mono (no 1 (by decide) (by unfold ckC; rw [if_neg k1,if_neg (by simp [hc]),if_neg a1,Int.toNat_natCast,if_pos a2]))
    ·by_cases a3:clk.getD m 0 ≤ K.getD m 0
     ·exact (takeC_old base F P m me K es v word q c clk w hm g hi hbw hv h1 h2 hc a1 a2 a3).mono (no 7 (by decide) (by unfold ckC; rw [if_neg k1,if_neg (by simp [hc]),if_neg a1,Int.toNat_natCast,if_neg a2,if_pos a3]))
     ·cases a4:(es.map toSd).any (same ((m:Int),word,clk)) with
      | true => exact (takeC_clash base F P m me K es v word q c clk w hm g hi hbw hv h1 h2 hc a1 a2 a3 a4).mono (no 7 (by decide) (by unfold ckC; rw [if_neg k1,if_neg (by simp [hc]),if_neg a1,Int.toNat_natCast,if_neg a2,if_neg a3,if_pos a4]))
      | false =>
       have k4:¬ (es.map toSd).any (same ((m:Int),word,clk)) = true := by rw [a4]; decide
       cases a5:rdy K ((m:Int),word,clk) with
       | false =>
        by_cases a6:40 ≤ es.length
        ·exact (takeC_full base F P m me K es v word q c clk w hm g hi hbw hv h1 h2 hc a1 a2 a3 a4 a5 a6).mono (no 4 (by decide) (by unfold ckC; rw [if_neg k1,if_neg (by simp [hc]),if_neg a1,Int.toNat_natCast,if_neg a2,if_neg a3,if_neg k4,if_pos ⟨a5,by rw [List.length_map]; exact a6⟩]))
        ·have e0:ckC me K (es.map toSd) ((m:Int),word,clk) = 0 := by unfold ckC; rw [if_neg k1,if_neg (by simp [hc]),if_neg a1,Int.toNat_natCast,if_neg a2,if_neg a3,if_neg k4,if_neg (by rw [List.length_map]; omega)]
         have e:ctk me K (es.map toSd) ((m:Int),word,clk) = ([],K,es.map toSd ++ [((m:Int),word,clk)]) := by unfold ctk; rw [if_pos e0,if_neg (by rw [a5]; decide)]
         rw [e0,e]
         refine (takeC_wait base F P m me K es v word q c clk w hm g hi hbw hv h1 h2 hc a1 a2 a3 a4 a5 (by omega) (hold rfl)).mono ?_
         rintro x w' ⟨v',rfl,r,b,k⟩
         exact ⟨_,v',_,rfl,r,by rw [List.map_append]; rfl,World.ownsRow_nil _ _ _ _,b,k⟩
       | true =>
        have e0:ckC me K (es.map toSd) ((m:Int),word,clk) = 0 := by unfold ckC; rw [if_neg k1,if_neg (by simp [hc]),if_neg a1,Int.toNat_natCast,if_neg a2,if_neg a3,if_neg k4,if_neg (by rw [a5]; simp)]
        have e:ctk me K (es.map toSd) ((m:Int),word,clk) = (word :: (run (inc K (m:Int)) (es.map toSd)).1,(run (inc K (m:Int)) (es.map toSd)).2) := by unfold ctk; rw [if_pos e0,if_pos a5]
        rw [e0,e]
        exact takeC_hear base F P m me K es v word q c clk w hm g hi hbw hv h1 h2 hc a1 a2 a3 a4 a5
  ·exact (takeC_vec base F P me K es v who word q len c clk w hv hb hc).mono (no (code clk) hc (by unfold ckC; rw [if_neg (by rw [hb]; decide),if_pos hc]))
end Go.Proofs.YtdmniblonikjlakGreatDoor.Cau
