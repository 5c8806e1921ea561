/-
  The document's own picture: Write.
-/
import Derived.Test.YtgcdbcljneoifajDoorPiqX
namespace Go.Proofs.YtgcdbcljneoifajDoor.Pic
open Go.RowKit
open Go.Proofs.YtgcdbcljneoifajDoor.Fif (own_lt own_block own_form own_vw ret_bool info_int new_int int_one)
open Go.Proofs.YtgcdbcljneoifajDoor.Vec (Vw)
open Go.Proofs.YtgcdbcljneoifajDoor.Off (OR step_append_off)
set_option linter.unusedVariables false
variable {w w' wr : World} {base R gb gc : Nat} {g : G} {ov : Nat → Value}

theorem or_pushP {w X : World} {base : Nat} {ob : Obj} {v : Value} {l : List Int} (o : OR w base v l) (e : X.heap = w.heap.push ob) : OR X base v l := o.of_block fun k hk => by
  rw [e, Array.getElem?_push_lt (o.lt k hk).2, Array.getElem?_eq_getElem (o.lt k hk).2]
theorem new_pushP {w X : World} {x : Int} {t : TypeId} (e : X.heap = w.heap.push (.cells #[.int .i64 x] t)) : ∀ j u, [Value.int .i64 x][j]? = some u → X.cell? ((⟨w.heap.size, 0, none⟩ : Addr).add j) = some u := by
  intro j u hj
  refine Eq.trans (World.cell?_of_block ?_) (new_int w _ rfl x t j u hj)
  rw [e]
  rfl
theorem grown_tmpP {w X w5 : World} {ob : Obj} {r : Option Nat} (hg : X.grownBy w5 r) (e : X.heap = w.heap.push ob) (e1 : X.os = w.os) (e2 : X.tape = w.tape) (e3 : X.output = w.output) : w.grownBy w5 r := by
  obtain ⟨a1, a2, a3, a4, a5⟩ := hg
  refine ⟨a1.trans e1, a2.trans e2, a3.trans e3, ?_, fun k hk hne => ?_⟩
  · rw [e, Array.size_push] at a4
    omega
  · rw [a5 k (by rw [e, Array.size_push]; omega) hne, e, Array.getElem?_push_lt hk, Array.getElem?_eq_getElem hk]
/-- as far as marks are sent -/
def WR (w wr : World) (base R : Nat) (g : G) (gb gc : Nat) (ov : Nat → Value) (m k : Nat) : Prop := ∃ ov', RX w wr base R (wrK g m k) gb gc ov ov'
set_option maxRecDepth 100000 in
set_option maxHeartbeats 1000000 in
theorem refWrite (h : RP w base R g gb gc ov) {m : Nat} (hm : m < g.n) (h5 : g.n ≤ 5) (hl : ∀ j, (g.way m j).length ≤ 1000) : Calls Tryd.prog 10 #[.pointer (some ⟨R, 0, none⟩), .int .i64 (m : Int)] w fun e w' => e = .returned (.tuple #[]) ∧ ∃ ov', RX w w' base R (write g m) gb gc ov ov' := by
  have hm5 : m < 5 := by omega
  obtain ⟨W1, e1⟩ : ∃ W1, W1 = w.setCell ⟨R, 27 + m, none⟩ (.bool true) := ⟨_, rfl⟩
  have x1 : RX w W1 base R { g with has := up g.has m true } gb gc ov ov := by rw [e1]; exact (RX.refl h).setHas hm5 true
  obtain ⟨x, ex⟩ : ∃ x, x = g.gold m := ⟨_, rfl⟩
  obtain ⟨n, en⟩ : ∃ n, n = g.n := ⟨_, rfl⟩
  have HH : Hid (n = g.n ∧ m < g.n ∧ g.n ≤ 5 ∧ (∀ j, (g.way m j).length ≤ 1000) ∧ RX w W1 base R { g with has := up g.has m true } gb gc ov ov ∧ x = g.gold m) := ⟨en, hm, h5, hl, x1, ex⟩
  obtain ⟨ii, hii, hz0, hz1, hz2⟩ := info_int
  have HJ : Hid (Tryd.prog.info? 3 = some ii ∧ ii.zero = some (.int .i64 0) ∧ ii.size = 1 ∧ ii.bytes = 8) := ⟨hii, hz0, hz1, hz2⟩
  have ch := h.ch hm5
  have z0 := h.fr (27 + m)
  have hRl := h.lt
  have c0 : W1.cell? ⟨R, 0, none⟩ = some (.slice (some ⟨gb, 0, none⟩) n gc) := by rw [en]; exact x1.rp.c0
  have cg : W1.cell? ⟨gb, m, none⟩ = some (.int .i64 x) := by rw [ex]; exact x1.rp.cg hm
  have cr := x1.rp.cr hm5
  have z1 := x1.rp.fr (32 + m)
  have hRl1 := x1.rp.lt
  have hgl1 := x1.rp.ltg
  have hm0 : (0 : Int) ≤ (m : Int) := by omega
  have hm5' : (m : Int) < 5 := by omega
  have hmn : (m : Int) < (n : Int) := by omega
  have hn5 : n ≤ 5 := by omega
  have hnc : n ≤ gc := by have := h.room.1; omega
  clear h hm h5 hl x1 ex en hii hz0 hz1 hz2
  go_enter Tryd.func10, Tryd.ntmps10
  go_upto_region 1 with fail
  rw [← e1]
  clear e1 ch z0 hRl
  go_region
  obtain ⟨W2, e2⟩ : ∃ W2, W2 = (W1.setCell ⟨R, 32 + m, none⟩ (.int .i64 x)).drew := ⟨_, rfl⟩
  rw [← e2]
  have X2 : Hid (WR w W2 base R g gb gc ov m 0) := by
    refine ⟨ov, ?_⟩
    rw [wrK_zero, e2]
    have q := (HH.out.2.2.2.2.1.setWr (m := m) (by have := HH.out; omega) x).drew
    rw [HH.out.2.2.2.2.2] at q ⊢
    exact q
  clear e2 c0 cg cr z1 hRl1 hgl1
  go_wp2_with fail
  go_loopw [4] (fun x4 wr => ∃ k : Nat, k ≤ n ∧ x4 = .int .i64 (k : Int) ∧ Hid (WR w wr base R g gb gc ov m k)) (fun x4 _ => n - (intOf x4).toNat)
  case atStart => exact ⟨0, by omega, rfl, X2⟩
  case round =>
    obtain ⟨k, hk, rfl, hK⟩ := hrel
    obtain ⟨ov1, hX⟩ := hK.out
    have c0 : wr.cell? ⟨R, 0, none⟩ = some (.slice (some ⟨gb, 0, none⟩) n gc) := by rw [HH.out.1]; exact hX.rp.c0
    by_cases hlt : k < n
    · have hlt' : (k : Int) < (n : Int) := by omega
      have hk0 : (0 : Int) ≤ (k : Int) := by omega
      have hk5 : (k : Int) < 5 := by omega
      by_cases hkm : k = m
      · have dm : ((k : Int) != (m : Int)) = false := by simp [hkm]
        have N1 : Hid (WR w wr base R g gb gc ov m (k + 1)) := ⟨ov1, hX.eq (wrK_skip g hkm)⟩
        clear hkm hX hK
        go_wp2
        go_roundw
        case rel => exact ⟨k + 1, by omega, by go_num, N1⟩
        case measure => simp [intOf]; omega
      · have dm : ((k : Int) != (m : Int)) = true := by rw [bne_iff_ne]; omega
        have cw := hX.rp.cw (k := m * 5 + k) (by omega)
        have hOR := hX.rp.ways (m * 5 + k) (by omega)
        rw [show (m * 5 + k) / 5 = m by omega, show (m * 5 + k) % 5 = k by omega, wrK_way g hkm] at hOR
        obtain ⟨xs, exs⟩ : ∃ xs, xs = g.way m k := ⟨_, rfl⟩
        rw [← exs] at hOR
        obtain ⟨qa, ca, eva⟩ := hOR.form
        obtain ⟨lw, elw⟩ : ∃ lw, lw = xs.length := ⟨_, rfl⟩
        rw [← elw] at eva
        rw [eva] at cw hOR
        have cw' : wr.cell? ⟨R, 1 + m * 5 + k, none⟩ = some (.slice qa lw ca) := by rw [show 1 + m * 5 + k = 1 + (m * 5 + k) by omega]; exact cw
        have nR : some R ≠ (Value.slice qa lw ca).ownBlock := by rw [← eva]; exact fun e => (hX.rp.neW (by omega) e.symm).1 rfl
        have z0 := hX.rp.fr (1 + m * 5 + k)
        have hRl := hX.rp.lt
        have HX : Hid (RX w wr base R (wrK g m k) gb gc ov ov1 ∧ OR wr base (.slice qa lw ca) xs ∧ ov1 (m * 5 + k) = .slice qa lw ca ∧ lw = xs.length ∧ xs = g.way m k ∧ some R ≠ (Value.slice qa lw ca).ownBlock ∧ ¬ k = m ∧ m < 5 ∧ k < 5 ∧ lw ≤ 1000 ∧ base ≤ wr.heap.size) := ⟨hX, hOR, eva, elw, exs, nR, hkm, by omega, by omega, by rw [elw, exs]; exact HH.out.2.2.2.1 k, hX.rp.bw⟩
        clear hX hOR eva elw exs nR hkm cw hK
        go_upto_region 6 with fail
        go_region_law ((refine step_append_off (by rfl) _ _ _ (by rfl) base ii Tryd.underlying22 HJ.out.1 HJ.out.2.1 HJ.out.2.2.1 HJ.out.2.2.2 (.slice qa lw ca) xs (by rfl) (by exact or_pushP HX.out.2.1 rfl) ⟨wr.heap.size, 0, none⟩ 1 0 (by rfl) (by exact new_pushP rfl) (by have := HX.out; omega) (by have := HX.out.2.2.2.2.2.2.2.2.2.2; simp; omega) ?_; intro gg go gcc w8 hown hgrow hat; have HG8 : Hid (wr.grownBy w8 (Value.slice qa lw ca).ownBlock) := grown_tmpP hgrow rfl rfl rfl rfl; have HO8 : Hid (OR w8 base (.slice (some ⟨gg, go, none⟩) (xs.length + 1) gcc) (xs ++ [0]) ∧ ((Value.slice qa lw ca).ownBlock = some gg ∨ wr.heap.size ≤ gg)) := ⟨hown, hat.imp id (fun e => by simp at e; omega)⟩; have l8 : w8.cell? ⟨R, 1 + m * 5 + k, none⟩ = some (.slice qa lw ca) := (HG8.out.cell_far ⟨R, 1 + m * 5 + k, none⟩ hRl HX.out.2.2.2.2.2.1).trans cw'; have m8 : w8.frozen? ⟨R, 1 + m * 5 + k, none⟩ = false := (HG8.out.frozen_far ⟨R, 1 + m * 5 + k, none⟩ hRl HX.out.2.2.2.2.2.1).trans z0; clear hown hgrow hat))
        all_goals
          obtain ⟨WW, eW⟩ : ∃ WW, WW = w8.setCell ⟨R, 1 + m * 5 + k, none⟩ (.slice (some ⟨gg, go, none⟩) (xs.length + 1) gcc) := ⟨_, rfl⟩
          rw [← eW]
          have X8 : Hid (∃ ov2, RX w WW base R { wrK g m k with way := up2 (wrK g m k).way m k (g.way m k ++ [0]) } gb gc ov ov2) := by
            have q := HX.out.1.app (a := m) (c := k) HX.out.2.2.2.2.2.2.2.1 HX.out.2.2.2.2.2.2.2.2.1 (w5 := w8) (by rw [HX.out.2.2.1]; exact HG8.out) HO8.out.1 (fun b e => by
              have eb : gg = b := by simpa [Value.ownBlock] using e
              subst eb
              rw [HX.out.2.2.1]
              exact HO8.out.2)
            rw [HX.out.2.2.2.2.1] at q
            refine ⟨upI ov1 (m * 5 + k) (.slice (some ⟨gg, go, none⟩) ((g.way m k).length + 1) gcc), ?_⟩
            rw [eW, show 1 + m * 5 + k = 1 + (m * 5 + k) by omega, HX.out.2.2.2.2.1]
            exact q
          obtain ⟨ov2, q8⟩ := X8.out
          have co := q8.rp.co (a := k) (c := m) (by have := HX.out; omega) (by have := HX.out; omega)
          have z8 := q8.rp.fr (37 + k * 5 + m)
          have hRl8 := q8.rp.lt
          have N1 : Hid (WR w (WW.setCell ⟨R, 37 + k * 5 + m, none⟩ (.bool true)) base R g gb gc ov m (k + 1)) := by
            refine ⟨ov2, (q8.setOp (a := k) (c := m) (by have := HX.out; omega) (by have := HX.out; omega) true).eq ?_⟩
            rw [wrK_step g HX.out.2.2.2.2.2.2.1]
          clear q8 l8 m8 cw' z0 eW c0 hRl X8
          go_wp2
          go_roundw
          case rel => exact ⟨k + 1, by omega, by go_num, N1⟩
          case measure => simp [intOf]; omega
    · have hlt' : ¬ (k : Int) < (n : Int) := by omega
      have hkn : k = n := by omega
      go_wp2
      go_end0
      rw [hkn, HH.out.1, wrK_all] at hX
      exact ⟨rfl, ov1, hX⟩
end Go.Proofs.YtgcdbcljneoifajDoor.Pic
