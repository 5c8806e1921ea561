/-
  What all have heard rises: the walk of StableRises where there is no such number of members.
-/
import Derived.Test.YtcmiihdbkdcfgagStrM
import Derived.Test.YtcmiihdbkdcfgagStbO
import Derived.Test.YtcmiihdbkdcfgagRowsF
namespace Go.Proofs.Ytcmiihdbkdcfgag.Stb
open Go.RowKit
open Go.Proofs.Ytcmiihdbkdcfgag.Fif (ret_bool)
open Go.Proofs.Ytcmiihdbkdcfgag.Vec (Vw leq_ok Rw)
open Go.Proofs.Ytcmiihdbkdcfgag.Sep (KpL NewL)
open Go.Proofs.Ytcmiihdbkdcfgag.Ldr (errF errF_ok errF_no Sl same_any)
open Go.Proofs.Ytcmiihdbkdcfgag.His (zero5 leR)
set_option linter.unusedVariables false

theorem OS.lit {w x : World} {P : Nat} {t : T} {fp : List Nat} (h : OS w x P t fp) (ob : Obj) : OS w (x.alloc ob) P t fp := h.later ((Below.refl _ _).alloc (Nat.le_refl _) _)
theorem OS.lies {w x : World} {P : Nat} {t : T} {fp : List Nat} (h : OS w x P t fp) {n c : Nat} : ∀ ad, (some ⟨x.heap.size, 0, none⟩ : Option Addr) = some ad → 0 < n → ad.block ∉ fp := fun ad e _ z => by
  cases e
  have := (h.bs.fp _ z).2
  simp at this
set_option maxRecDepth 100000 in
theorem rises_bad (n many : Int) (a : Option Addr) (len cap : Nat) (b : Option Addr) (len' cap' : Nat) (w : World) (hn : n < 2 ∨ 5 < n) : Calls Try.prog 6 #[.int .i64 n, .slice a len cap, .slice b len' cap', .int .i64 many] w fun x w' => x = .returned (.bool true) ∧ Below w.heap.size w w' := by
  have HN : Hid (n < 2 ∨ 5 < n) := hn
  clear hn
  go_enter Try.func6, Try.ntmps6
  go_wp2_with fail
  refine (newB_ok 2 (by omega) (by omega) w).mono ?_
  rintro e x1 ⟨P1, fp1, rfl, hA, hb⟩
  have O1 : Hid (OS w x1 P1 (start 2) fp1) := ⟨hA, Inv.start (by omega) (by omega), hb⟩
  clear hA hb
  obtain ⟨X1, eX1⟩ : ∃ X1, X1 = x1.alloc (.cells #[.int .i64 3, .int .i64 1, .int .i64 0, .int .i64 0, .int .i64 0] 3) := ⟨_, rfl⟩
  have O2 : Hid (OS w X1 P1 (start 2) fp1 ∧ Vw X1 (some ⟨x1.heap.size, 0, none⟩) 5 [3, 1, 0, 0, 0]) := ⟨by rw [eX1]; exact O1.out.lit _, by rw [eX1]; exact Vw.lit x1 3 1 0 0 0 _⟩
  go_wp2_with fail
  rw [← eX1]
  clear eX1
  refine (toldB w.heap.size P1 (start 2) fp1 0 (some ⟨x1.heap.size, 0, none⟩) 5 5 [3, 1, 0, 0, 0] X1 O2.out.1.bs O2.out.1.inv O2.out.1.bel.size O2.out.2 (by decide) (O1.out.lies (c := 5))).mono ?_
  rintro e x2 ⟨fp2, rfl, hA, hb, _, _⟩
  rw [q1_c, errF_ok]
  have O3 : Hid (OS w x2 P1 q1 fp2) := ⟨hA, q1_inv, O2.out.1.bel.trans hb⟩
  clear hA hb
  obtain ⟨X2, eX2⟩ : ∃ X2, X2 = x2.alloc (.cells #[.int .i64 2, .int .i64 5, .int .i64 0, .int .i64 0, .int .i64 0] 3) := ⟨_, rfl⟩
  have O4 : Hid (OS w X2 P1 q1 fp2 ∧ Vw X2 (some ⟨x2.heap.size, 0, none⟩) 5 [2, 5, 0, 0, 0]) := ⟨by rw [eX2]; exact O3.out.lit _, by rw [eX2]; exact Vw.lit x2 2 5 0 0 0 _⟩
  go_wp2_with fail
  rw [← eX2]
  clear eX2
  refine (toldB w.heap.size P1 q1 fp2 1 (some ⟨x2.heap.size, 0, none⟩) 5 5 [2, 5, 0, 0, 0] X2 O4.out.1.bs O4.out.1.inv O4.out.1.bel.size O4.out.2 (by decide) (O3.out.lies (c := 5))).mono ?_
  rintro e x3 ⟨fp3, rfl, hA, hb, _, _⟩
  rw [q2_c, errF_ok]
  have O5 : Hid (OS w x3 P1 q2 fp3) := ⟨hA, q2_inv, O4.out.1.bel.trans hb⟩
  clear hA hb
  go_wp2_with fail
  refine (leastB w.heap.size P1 q2 fp3 x3 O5.out.bs O5.out.inv).mono ?_
  rintro e x4 ⟨a4, c4, rfl, hs4, _, hb4⟩
  rw [q2_least] at hs4
  obtain ⟨b4, o4, rfl, _, hc4⟩ := (Sl.vw hs4).2.2 (by decide)
  have g0 : x4.cell? ⟨b4, o4, none⟩ = some (.int .i64 2) := hc4 0 (by decide)
  have g1 : x4.cell? ⟨b4, o4 + 1, none⟩ = some (.int .i64 1) := hc4 1 (by decide)
  have B4 : Hid (Below w.heap.size w x4) := O5.out.bel.trans (hb4.mono O5.out.bel.size)
  clear hs4 hb4 hc4 O1 O2 O3 O4 O5
  go_wp2_with fail
  refine (newB_no n HN.out x4).mono ?_
  rintro e x5 ⟨rfl, hb⟩
  rw [errF_no (by decide)]
  have B5 : Hid (Below w.heap.size w x5) := B4.out.trans (hb.mono B4.out.size)
  clear hb
  go_wp2
  go_ret
  exact ⟨rfl, B5.out⟩
end Go.Proofs.Ytcmiihdbkdcfgag.Stb
