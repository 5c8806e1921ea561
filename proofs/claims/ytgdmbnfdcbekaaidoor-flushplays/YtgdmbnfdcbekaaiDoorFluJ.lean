/-
  Contract of package flush's level: those who stay hear what any of them heard.
-/
import Derived.Test.YtgdmbnfdcbekaaiDoorFluD
import Derived.Deep.CutBlock
import Derived.Deep.CutRange
namespace Go.Proofs.YtgdmbnfdcbekaaiDoor.Flu
open Go.RowKit Go.Maps
open Go.Proofs.YtgdmbnfdcbekaaiDoor.Fif (own_lt own_block own_form own_mono own_vw ret_bool info_int new_int int_one)
open Go.Proofs.YtgdmbnfdcbekaaiDoor.Vec (Vw)
open Go.Proofs.YtgdmbnfdcbekaaiDoor.Sep (KpL NewL)
open Go.Proofs.YtgdmbnfdcbekaaiDoor.Ldr (errF errF_ok errF_no Sl)
open Go.Proofs.YtgdmbnfdcbekaaiDoor.MapV (turned_below g_of_turned wfI)
set_option linter.unusedVariables false
variable {w wr w' : World} {base P mS mH bH oH cH : Nat} {rv rvc : Nat → Value} {f : F}

/-- what some heard of this view is so -/
def lv (f : F) (gc : Nat → List Int) : F := { f with hd := up1 f.hd (num f) gc }
theorem lv_cur (f : F) (gc : Nat → List Int) (m : Nat) : cur (lv f gc) m = gc m := up1_same _ _ _ _
theorem lv_start (f : F) : lv f (cur f) = f := by
  unfold lv
  have : up1 f.hd (num f) (cur f) = f.hd := by
    funext a b
    by_cases e : a = num f
    · rw [e, up1_same]; rfl
    · rw [up1_other _ _ _ e]
  rw [this]
theorem lv_got (f : F) (gc : Nat → List Int) (s : Nat) (x : Int) : got (lv f gc) s x = lv f (fun m => if m = s then gc s ++ [x] else gc m) := by
  have : up2 (up1 f.hd (num f) gc) (num f) s (gc s ++ [x]) = up1 f.hd (num f) (fun m => if m = s then gc s ++ [x] else gc m) := by
    funext a b
    by_cases e : a = num f
    · rw [e, up1_same]
      by_cases q : b = s
      · rw [if_pos q, q, up2_same]
      · rw [if_neg q, up2_other _ _ (fun z => q z.2), up1_same]
    · rw [up1_other _ _ _ e, up2_other _ _ (fun z => e z.1), up1_other _ _ _ e]
  show F.mk f.v f.was f.said (up2 (up1 f.hd (num f) gc) (num f) s (cur (lv f gc) s ++ [x])) = _
  rw [lv_cur, this]
  rfl
/-- a block aside of these -/
def Asd (w : World) (fp : List Nat) (b : Nat) : Prop := b < w.heap.size ∧ b ∉ fp
theorem Asd.step {fp fp' : List Nat} {b : Nat} (h : Asd w fp b) (hs : St w w' base fp fp') : Asd w' fp' b ∧ w'.heap[b]? = w.heap[b]? := by
  refine ⟨⟨Nat.lt_of_lt_of_le h.1 hs.kp.1, fun q => ?_⟩, hs.kp.2 b h.1 h.2⟩
  rcases hs.new b q with a | a
  · exact h.2 a
  · have := h.1; omega
theorem vw_blk {w w' : World} {b o n : Nat} {l : List Int} (h : Vw w (some ⟨b, o, none⟩) n l) (hs : b < w'.heap.size) (hk : w'.heap[b]? = w.heap[b]?) : Vw w' (some ⟨b, o, none⟩) n l := by
  refine ⟨h.1, fun z => ?_⟩
  obtain ⟨b', off, e, hlt, hc⟩ := h.2 z
  cases e
  exact ⟨b, o, rfl, hs, fun k q => (World.cell?_of_block (a := ⟨b, o + k, none⟩) hk).trans (hc k q)⟩
/-- how it stands while those who stay hear -/
structure LX (w wr : World) (base P mS mH bH oH cH : Nat) (rv rvc : Nat → Value) (f : F) (gc : Nat → List Int) (BF bs os lst : Nat) (st : List Int) : Prop where
  gf : GF wr base P mS mH bH oH cH rvc (lv f gc)
  stp : St w wr base (fpG P mS mH bH (cntF f) rv) (fpG P mS mH bH (cntF f) rvc)
  one : rvc 1 = rv 1
  af : Asd wr (fpG P mS mH bH (cntF f) rvc) BF
  cf : wr.cell? ⟨BF, 0, none⟩ = some (.pointer (some ⟨P, 0, none⟩))
  ac : Asd wr (fpG P mS mH bH (cntF f) rvc) bs
  sv : Vw wr (some ⟨bs, os, none⟩) lst st
variable {gc gc' : Nat → List Int} {BF bs os lst : Nat} {st : List Int} {rvd : Nat → Value}
theorem LX.step (h : LX w wr base P mS mH bH oH cH rv rvc f gc BF bs os lst st) (hg : GF w' base P mS mH bH oH cH rvd (lv f gc')) (hs : St wr w' base (fpG P mS mH bH (cntF f) rvc) (fpG P mS mH bH (cntF f) rvd)) (h1 : rvd 1 = rvc 1) : LX w w' base P mS mH bH oH cH rv rvd f gc' BF bs os lst st := by
  obtain ⟨a1, a2⟩ := h.af.step hs
  obtain ⟨b1, b2⟩ := h.ac.step hs
  exact ⟨hg, h.stp.trans hs, h1.trans h.one, a1, (World.cell?_of_block (a := ⟨BF, 0, none⟩) a2).trans h.cf, b1, vw_blk h.sv b1.1 b2⟩
theorem LX.low (h : LX w wr base P mS mH bH oH cH rv rvc f gc BF bs os lst st) : base ≤ wr.heap.size := Nat.le_trans h.gf.low.1 (Nat.le_of_lt h.gf.lt)
theorem LX.later (h : LX w wr base P mS mH bH oH cH rv rvc f gc BF bs os lst st) (hb : Below wr.heap.size wr w') : LX w w' base P mS mH bH oH cH rv rvc f gc BF bs os lst st := h.step (h.gf.later hb) (St.later h.low hb _) rfl
theorem Asd.later {fp : List Nat} {b : Nat} (h : Asd w fp b) (hb : Below w.heap.size w w') : Asd w' fp b := ⟨Nat.lt_of_lt_of_le h.1 hb.size, h.2⟩
/-- a new block is aside -/
theorem GF.asd (h : GF w base P mS mH bH oH cH rv f) (hb : Below w.heap.size w w') {b : Nat} (h1 : w.heap.size ≤ b) (h2 : b < w'.heap.size) : Asd w' (fpG P mS mH bH (cntF f) rv) b := ⟨h2, fun q => by have := (h.fp b q).2; omega⟩
/-! the closure -/
set_option maxRecDepth 100000 in
theorem lv1_any (h : GF w base P mS mH bH oH cH rv f) (hn : (num f : Int) = f.v.n) (hN : f.v.n ≤ 1000000) {m BF BW : Nat} {x : Int} (hm : m < 5) (c1 : w.cell? ⟨BF, 0, none⟩ = some (.pointer (some ⟨P, 0, none⟩))) (c2 : w.cell? ⟨BW, 0, none⟩ = some (.int .i64 x)) : Calls Tryd.prog 37 #[.int .i64 (m : Int), .pointer (some ⟨BF, 0, none⟩), .pointer (some ⟨BW, 0, none⟩)] w fun e w' => e = .returned (.bool ((cur f m).contains x)) ∧ w'.heap = w.heap ∧ Below w.heap.size w w' := by
  have HG : Hid (GF w base P mS mH bH oH cH rv f ∧ (num f : Int) = f.v.n ∧ f.v.n ≤ 1000000 ∧ m < 5) := ⟨h, hn, hN, hm⟩
  clear h hn hN hm
  go_enter Tryd.func37, Tryd.ntmps37
  go_wp2_with fail
  refine (hasH_any HG.out.1 HG.out.2.1 HG.out.2.2.1 HG.out.2.2.2 x).mono ?_
  rintro e w1 ⟨rfl, hh, hb⟩
  have B1 : Hid (w1.heap = w.heap ∧ Below w.heap.size w w1) := ⟨hh, hb⟩
  clear hh hb
  go_wp2
  go_ret
  exact ⟨by first | rfl | exact ret_bool (by simp), B1.out⟩
set_option maxRecDepth 100000 in
theorem lvIdx (h : GF w base P mS mH bH oH cH rv f) (hn : (num f : Int) = f.v.n) (hN : f.v.n ≤ 1000000) {BF BW bs os lst cst : Nat} {x : Int} {st : List Int} (c1 : w.cell? ⟨BF, 0, none⟩ = some (.pointer (some ⟨P, 0, none⟩))) (c2 : w.cell? ⟨BW, 0, none⟩ = some (.int .i64 x)) (hs : Vw w (some ⟨bs, os, none⟩) lst st) (h5 : ∀ k, k < lst → ∃ s : Nat, st.getD k 0 = (s : Int) ∧ s < 5) (hl : lst ≤ 1000) :
    Calls Tryd.prog 41 #[.slice (some ⟨bs, os, none⟩) lst cst, .func (.func 37) #[] #[.pointer (some ⟨BF, 0, none⟩), .pointer (some ⟨BW, 0, none⟩)]] w fun e w' => (∃ z : Int, e = .returned (.int .i64 z) ∧ anyH st (cur f) x = decide (0 ≤ z)) ∧ w'.heap = w.heap ∧ Below w.heap.size w w' := by
  have HG : Hid (GF w base P mS mH bH oH cH rv f ∧ (num f : Int) = f.v.n ∧ f.v.n ≤ 1000000 ∧ w.cell? ⟨BF, 0, none⟩ = some (.pointer (some ⟨P, 0, none⟩)) ∧ w.cell? ⟨BW, 0, none⟩ = some (.int .i64 x) ∧ Vw w (some ⟨bs, os, none⟩) lst st ∧ (∀ k, k < lst → ∃ s : Nat, st.getD k 0 = (s : Int) ∧ s < 5)) := ⟨h, hn, hN, c1, c2, hs, h5⟩
  clear h hn hN c1 c2 hs h5
  go_enter Tryd.func41, Tryd.ntmps41
  go_wp2
  go_loopw [8] (fun i wr => ∃ k : Nat, k ≤ lst ∧ i = .int .i64 k ∧ Hid (wr.heap = w.heap ∧ Below w.heap.size w wr ∧ anyK st (cur f) x k = false)) (fun i _ => lst - (intOf i).toNat)
  case atStart => exact ⟨0, by omega, rfl, rfl, Below.refl _ _, anyK_zero⟩
  case round =>
    obtain ⟨k, hk, rfl, hp⟩ := hrel
    obtain ⟨wo, ewo⟩ : ∃ wo, wo = wr := ⟨_, rfl⟩
    subst ewo
    by_cases hlt : k < lst
    · obtain ⟨s, es, hs5⟩ := HG.out.2.2.2.2.2.2 k hlt
      obtain ⟨b', o', e', _, hcs⟩ := HG.out.2.2.2.2.2.1.2 (by omega)
      cases e'
      have c0 : wo.cell? ⟨bs, os + k, none⟩ = some (.int .i64 (s : Int)) := by
        rw [← es]
        exact (World.cell?_of_block (a := ⟨bs, os + k, none⟩) (by rw [hp.out.1])).trans (hcs k hlt)
      have HC : Hid (GF wo base P mS mH bH oH cH rv f ∧ wo.cell? ⟨BF, 0, none⟩ = some (.pointer (some ⟨P, 0, none⟩)) ∧ wo.cell? ⟨BW, 0, none⟩ = some (.int .i64 x) ∧ s < 5) := ⟨HG.out.1.heap hp.out.1, (World.cell?_of_block (a := ⟨BF, 0, none⟩) (by rw [hp.out.1])).trans HG.out.2.2.2.1, (World.cell?_of_block (a := ⟨BW, 0, none⟩) (by rw [hp.out.1])).trans HG.out.2.2.2.2.1, hs5⟩
      have hk0 : (0 : Int) ≤ (k : Int) := by omega
      have hkl : (k : Int) < (lst : Int) := by omega
      have ST : Hid (anyK st (cur f) x (k + 1) = (cur f s).contains x) := by
        show _ = _
        rw [anyK_step (by rw [HG.out.2.2.2.2.2.1.1]; exact hlt), hp.out.2.2, es, Int.toNat_natCast, Bool.false_or, Bool.eq_iff_iff, decide_eq_true_eq, List.contains_iff_mem]
      obtain ⟨bx, ebx⟩ : ∃ bx, bx = (cur f s).contains x := ⟨_, rfl⟩
      have EX : Hid (bx = (cur f s).contains x) := ebx
      clear hcs es hs5 ebx
      cases bx
      · go_wp2_with (go_at_call 37; refine (lv1_any HC.out.1 HG.out.2.1 HG.out.2.2.1 HC.out.2.2.2 HC.out.2.1 HC.out.2.2.1).mono ?_; rintro e w5 ⟨rfl, hh5, hb5⟩; rw [← EX.out]; have H5 : Hid (w5.heap = w.heap ∧ Below w.heap.size w w5) := ⟨hh5.trans hp.out.1, hp.out.2.1.trans (hb5.mono hp.out.2.1.size)⟩; clear hh5 hb5)
        go_roundw
        case rel => exact ⟨k + 1, by omega, by go_num, H5.out.1, H5.out.2, by rw [ST.out, ← EX.out]⟩
        case measure => simp [intOf]; omega
      · go_wp2_with (go_at_call 37; refine (lv1_any HC.out.1 HG.out.2.1 HG.out.2.2.1 HC.out.2.2.2 HC.out.2.1 HC.out.2.2.1).mono ?_; rintro e w5 ⟨rfl, hh5, hb5⟩; rw [← EX.out]; have H5 : Hid (w5.heap = w.heap ∧ Below w.heap.size w w5) := ⟨hh5.trans hp.out.1, hp.out.2.1.trans (hb5.mono hp.out.2.1.size)⟩; clear hh5 hb5)
        go_ret
        refine ⟨⟨(k : Int), rfl, ?_⟩, H5.out⟩
        rw [decide_eq_true (by omega)]
        have z : anyK st (cur f) x (k + 1) = true := by rw [ST.out, ← EX.out]
        unfold anyK at z
        unfold anyH
        rw [List.any_eq_true] at z ⊢
        obtain ⟨y, hy, hy2⟩ := z
        exact ⟨y, List.mem_of_mem_take hy, hy2⟩
    · have hkl : ¬ (k : Int) < (lst : Int) := by omega
      go_wp2
      go_ret
      refine ⟨⟨-1, rfl, ?_⟩, hp.out.1, hp.out.2.1⟩
      rw [decide_eq_false (by omega), ← anyK_all, HG.out.2.2.2.2.2.1.1, show lst = k by omega]
      exact hp.out.2.2
theorem lvAny (h : GF w base P mS mH bH oH cH rv f) (hn : (num f : Int) = f.v.n) (hN : f.v.n ≤ 1000000) {BF BW bs os lst cst : Nat} {x : Int} {st : List Int} (c1 : w.cell? ⟨BF, 0, none⟩ = some (.pointer (some ⟨P, 0, none⟩))) (c2 : w.cell? ⟨BW, 0, none⟩ = some (.int .i64 x)) (hs : Vw w (some ⟨bs, os, none⟩) lst st) (h5 : ∀ k, k < lst → ∃ s : Nat, st.getD k 0 = (s : Int) ∧ s < 5) (hl : lst ≤ 1000) :
    Calls Tryd.prog 38 #[.slice (some ⟨bs, os, none⟩) lst cst, .func (.func 37) #[] #[.pointer (some ⟨BF, 0, none⟩), .pointer (some ⟨BW, 0, none⟩)]] w fun e w' => e = .returned (.bool (anyH st (cur f) x)) ∧ w'.heap = w.heap ∧ Below w.heap.size w w' := by
  have HG : Hid (Calls Tryd.prog 41 #[.slice (some ⟨bs, os, none⟩) lst cst, .func (.func 37) #[] #[.pointer (some ⟨BF, 0, none⟩), .pointer (some ⟨BW, 0, none⟩)]] w fun e w' => (∃ z : Int, e = .returned (.int .i64 z) ∧ anyH st (cur f) x = decide (0 ≤ z)) ∧ w'.heap = w.heap ∧ Below w.heap.size w w') := lvIdx h hn hN c1 c2 hs h5 hl
  clear h hn hN c1 c2 hs h5
  go_enter Tryd.func38, Tryd.ntmps38
  go_wp2_with fail
  refine HG.out.mono ?_
  rintro e w1 ⟨⟨z, rfl, hz⟩, hh, hb⟩
  have HZ : Hid (anyH st (cur f) x = decide (0 ≤ z) ∧ w1.heap = w.heap ∧ Below w.heap.size w w1) := ⟨hz, hh, hb⟩
  clear hz hh hb
  go_wp2
  go_ret
  exact ⟨ret_bool HZ.out.1.symm, HZ.out.2⟩
end Go.Proofs.YtgdmbnfdcbekaaiDoor.Flu
