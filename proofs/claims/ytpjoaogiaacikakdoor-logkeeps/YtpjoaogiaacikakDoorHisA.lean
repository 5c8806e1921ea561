/-
  Contracts of package history's says and isOne, and of the searches of package slices over events.
-/
import Derived.Test.YtpjoaogiaacikakDoorRows
import Derived.Test.YtpjoaogiaacikakDoorHisM
import Derived.WalkKit
import Derived.WalkSmall
import Derived.Deep.QuietTactic
import Derived.BigQuiet
namespace Go.Proofs.YtpjoaogiaacikakDoor.His
open Go.RowKit

theorem ret_bool {a b : Bool} (h : a = b) : Ending.returned (.bool a) = .returned (.bool b) := by rw [h]
theorem below_up {w w1 w2 : World} {B : Nat} (hB : B = w.heap.size) (h : Below B w w1) (h' : Below w1.heap.size w1 w2) : Below B w w2 := by
  subst hB
  exact h.trans (h'.mono h.size)

theorem says1 (who what wd : Int) (word : Int) (B : Nat) (w : World) (hv : w.cell? ⟨B, 0, none⟩ = some (.int .i64 word)) :
    Calls Tryd.prog 53 #[.agg #[.int .i64 who, .int .i64 what, .int .i64 wd], .pointer (some ⟨B, 0, none⟩)] w fun x w' => x = .returned (.bool (says word (who, what, wd))) ∧ Below w.heap.size w w' := by
  have hB := block_lt_of_cell hv
  by_cases h2 : what = 2
  · subst h2
    go_enter Tryd.func53, Tryd.ntmps53
    go_wp2
    go_ret
    exact ⟨ret_bool (by rw [Bool.eq_iff_iff]; simp [says]), (Below.refl _ _).alloc (Nat.le_refl _) _⟩
  · have h2' : (what == 2) = false := by simp [h2]
    go_enter Tryd.func53, Tryd.ntmps53
    go_wp2
    go_ret
    exact ⟨ret_bool (by simp [says, h2]), (Below.refl _ _).alloc (Nat.le_refl _) _⟩

theorem one1 (who what wd : Int) (w : World) :
    Calls Tryd.prog 40 #[.agg #[.int .i64 who, .int .i64 what, .int .i64 wd]] w fun x w' => x = .returned (.bool (isOne (who, what, wd))) ∧ Below w.heap.size w w' := by
  by_cases h0 : who < 0
  · go_enter Tryd.func40, Tryd.ntmps40
    go_wp2
    go_ret
    exact ⟨ret_bool (by simp [isOne]; omega), (Below.refl _ _).alloc (Nat.le_refl _) _⟩
  by_cases h5 : 5 ≤ who
  · go_enter Tryd.func40, Tryd.ntmps40
    go_wp2
    go_ret
    exact ⟨ret_bool (by simp [isOne]; omega), (Below.refl _ _).alloc (Nat.le_refl _) _⟩
  by_cases h1 : what = 1
  · subst h1
    go_enter Tryd.func40, Tryd.ntmps40
    go_wp2
    go_ret
    exact ⟨ret_bool (by rw [Bool.eq_iff_iff]; simp [isOne]; omega), (Below.refl _ _).alloc (Nat.le_refl _) _⟩
  have h1' : (what == 1) = false := by simp [h1]
  by_cases h23 : what = 2 ∨ what = 3
  · by_cases hw : 1 ≤ wd
    · rcases h23 with rfl | rfl
      · go_enter Tryd.func40, Tryd.ntmps40
        go_wp2
        go_ret
        exact ⟨ret_bool (by rw [Bool.eq_iff_iff]; simp [isOne]; omega), (Below.refl _ _).alloc (Nat.le_refl _) _⟩
      · go_enter Tryd.func40, Tryd.ntmps40
        go_wp2
        go_ret
        exact ⟨ret_bool (by rw [Bool.eq_iff_iff]; simp [isOne]; omega), (Below.refl _ _).alloc (Nat.le_refl _) _⟩
    · have hw' : wd < 1 := by omega
      rcases h23 with rfl | rfl
      · go_enter Tryd.func40, Tryd.ntmps40
        go_wp2
        go_ret
        exact ⟨ret_bool (by simp [isOne]; omega), (Below.refl _ _).alloc (Nat.le_refl _) _⟩
      · go_enter Tryd.func40, Tryd.ntmps40
        go_wp2
        go_ret
        exact ⟨ret_bool (by simp [isOne]; omega), (Below.refl _ _).alloc (Nat.le_refl _) _⟩
  · have h2' : (what == 2) = false := by simp; omega
    have h3' : (what == 3) = false := by simp; omega
    go_enter Tryd.func40, Tryd.ntmps40
    go_wp2
    go_ret
    exact ⟨ret_bool (by simp [isOne]; omega), (Below.refl _ _).alloc (Nat.le_refl _) _⟩

/-- A slice of events, seen by what they are. -/
def Ew (w : World) (a : Option Addr) (len : Nat) (h : List Ev) : Prop :=
  h.length = len ∧ (0 < len → ∃ b off, a = some ⟨b, off, none⟩ ∧ b < w.heap.size ∧ ∀ k, k < len → w.cell? ⟨b, off + k * 3, none⟩ = some (.int .i64 (ev h k).1) ∧ w.cell? ⟨b, off + k * 3 + 1, none⟩ = some (.int .i64 (ev h k).2.1) ∧ w.cell? ⟨b, off + k * 3 + 2, none⟩ = some (.int .i64 (ev h k).2.2))

theorem Ew.later {w w' : World} {a : Option Addr} {len : Nat} {h : List Ev} (g : Ew w a len h) (hb : Below w.heap.size w w') : Ew w' a len h := by
  refine ⟨g.1, fun hl => ?_⟩
  obtain ⟨b, off, e, hlt, hc⟩ := g.2 hl
  exact ⟨b, off, e, Nat.lt_of_lt_of_le hlt hb.size, fun k hk => ⟨(hb.cell (p := ⟨b, off + k * 3, none⟩) hlt).trans (hc k hk).1, (hb.cell (p := ⟨b, off + k * 3 + 1, none⟩) hlt).trans (hc k hk).2.1, (hb.cell (p := ⟨b, off + k * 3 + 2, none⟩) hlt).trans (hc k hk).2.2⟩⟩

def idxI (p : Ev → Bool) (h : List Ev) : Int := if h.any p = true then (h.findIdx p : Nat) else -1

theorem idx_hit {p : Ev → Bool} {h : List Ev} {k : Nat} (hk : k < h.length) (hp : p (ev h k) = true) (hb : ∀ j, j < k → p (ev h j) = false) : idxI p h = (k : Int) := by
  have e : ∀ j (hj : j < h.length), ev h j = h[j] := by
    intro j hj
    show h.getD j _ = _
    rw [List.getD, List.getElem?_eq_getElem hj]
    rfl
  have ha : h.any p = true := List.any_eq_true.2 ⟨h[k], List.getElem_mem hk, by rw [← e k hk]; exact hp⟩
  have hf : h.findIdx p = k := by
    rw [List.findIdx_eq hk]
    exact ⟨by rw [← e k hk]; exact hp, fun j hj => by rw [← e j (by omega)]; simpa using hb j hj⟩
  rw [idxI, if_pos ha, hf]
theorem idx_miss {p : Ev → Bool} {h : List Ev} (hb : ∀ j, j < h.length → p (ev h j) = false) : h.any p = false := by
  rw [List.any_eq_false]
  intro x hx
  obtain ⟨j, hj, rfl⟩ := List.getElem_of_mem hx
  have := hb j hj
  have e : ev h j = h[j] := by
    show h.getD j _ = _
    rw [List.getD, List.getElem?_eq_getElem hj]
    rfl
  rw [e] at this
  simp [this]
theorem ret_int {a b : Int} (h : a = b) : Ending.returned (.int .i64 a) = .returned (.int .i64 b) := by rw [h]

theorem idxFunc (a : Option Addr) (len cap : Nat) (h : List Ev) (word : Int) (B : Nat) (w : World) (hm : len ≤ maxLen) (hv : Ew w a len h) (hB : B < w.heap.size) (hc : w.cell? ⟨B, 0, none⟩ = some (.int .i64 word)) :
    Calls Tryd.prog 52 #[.slice a len cap, .func (.func 53) #[] #[.pointer (some ⟨B, 0, none⟩)]] w fun x w' => x = .returned (.int .i64 (idxI (says word) h)) ∧ Below w.heap.size w w' := by
  unfold maxLen at hm
  have H1 : Hid (h.length = len) := hv.1
  have G : Hid (Ew w a len h) := hv
  have HC : Hid (B < w.heap.size ∧ w.cell? ⟨B, 0, none⟩ = some (.int .i64 word)) := ⟨hB, hc⟩
  clear hv hB hc
  go_enter Tryd.func52, Tryd.ntmps52
  go_wp2
  go_loopw [8] (fun i wr => ∃ k : Nat, k ≤ len ∧ i = .int .i64 k ∧ Hid (Below w.heap.size w wr) ∧ Hid (∀ j, j < k → says word (ev h j) = false)) (fun i _ => len - (intOf i).toNat)
  case atStart => exact ⟨0, by omega, rfl, Below.refl _ _, fun j hj => absurd hj (by omega)⟩
  case round =>
    obtain ⟨k, hk, rfl, hbel, hp⟩ := hrel
    by_cases hlt : k < len
    · obtain ⟨b, off, rfl, hpb, hcs⟩ := (G.out.later hbel.out).2 (by omega)
      obtain ⟨c0, c1, c2⟩ := hcs k hlt
      have hBw : wr.cell? ⟨B, 0, none⟩ = some (.int .i64 word) := (hbel.out.cell (p := ⟨B, 0, none⟩) HC.out.1).trans HC.out.2
      obtain ⟨q, eq⟩ : ∃ q, q = ev h k := ⟨_, rfl⟩
      rw [← eq] at c0 c1 c2
      obtain ⟨q0, q1, q2⟩ := q
      have EQ : Hid _ := eq
      have HBW : Hid _ := hBw
      clear hcs eq hBw hpb
      have hk0 : (0 : Int) ≤ (k : Int) := by omega
      have hkl : (k : Int) < (len : Int) := by omega
      cases hb : says word (ev h k)
      · go_wp2_with (go_at_call 53; refine (says1 q0 q1 q2 word B _ HBW.out).mono ?_; rintro e w' ⟨rfl, hb2⟩; rw [EQ.out, hb])
        go_roundw
        case rel => exact ⟨k + 1, by omega, by go_num, below_up rfl hbel.out hb2, fun j hj => if e : j < k then hp.out j e else by rw [show j = k by omega]; exact hb⟩
        case measure => simp [intOf]; omega
      · go_wp2_with (go_at_call 53; refine (says1 q0 q1 q2 word B _ HBW.out).mono ?_; rintro e w' ⟨rfl, hb2⟩; rw [EQ.out, hb])
        go_ret
        exact ⟨ret_int (idx_hit (by rw [H1.out]; exact hlt) hb hp.out).symm, below_up rfl hbel.out hb2⟩
    · go_wp2
      go_ret
      refine ⟨ret_int ?_, hbel.out⟩
      rw [idxI, if_neg]
      rw [idx_miss fun j hj => hp.out j (by have := H1.out; omega)]
      decide

theorem contFunc (a : Option Addr) (len cap : Nat) (h : List Ev) (word : Int) (B : Nat) (w : World) (hm : len ≤ maxLen) (hv : Ew w a len h) (hB : B < w.heap.size) (hc : w.cell? ⟨B, 0, none⟩ = some (.int .i64 word)) :
    Calls Tryd.prog 41 #[.slice a len cap, .func (.func 53) #[] #[.pointer (some ⟨B, 0, none⟩)]] w fun x w' => x = .returned (.bool (h.any (says word))) ∧ Below w.heap.size w w' := by
  go_enter Tryd.func41, Tryd.ntmps41
  go_wp2_with fail
  refine (idxFunc a len cap h word B _ hm hv hB hc).mono ?_
  rintro e w1 ⟨rfl, hb⟩
  clear hv hc
  go_wp2
  go_ret
  refine ⟨ret_bool ?_, hb⟩
  rw [idxI]
  cases h.any (says word) <;> simp

theorem says0 (word : Int) (w : World) :
    Calls Tryd.prog 42 #[.int .i64 word] w fun x w' => x = .returned (.func (.func 53) #[] #[.pointer (some ⟨w.heap.size, 0, none⟩)]) ∧ w' = w.alloc (.cells #[.int .i64 word] 3) := by
  go_enter Tryd.func42, Tryd.ntmps42
  go_wp2
  go_ret
  exact ⟨rfl, rfl⟩

theorem eqGd : Tryd.prog.eqGuardType Tryd.prog.depth 28 = false := by kernel_rfl
theorem eqEv (a b c d e f : Int) (w : World) : (Op.equalIn 10000 28 (.agg #[.int .i64 a, .int .i64 b, .int .i64 c]) (.agg #[.int .i64 d, .int .i64 e, .int .i64 f])).run Tryd.prog w = .ok (((d, e, f) : Ev) == (a, b, c)) w := by
  have u3 := Tryd.underlying3
  have a3 := Tryd.isAgg3
  have z3 := Tryd.sizeOf3
  have hS : Tryd.prog.underlying 28 = some (.struct (Tryd.prog.fieldsOf 28)) := by kernel_rfl
  have hp : Tryd.prog.stoodInHeld 28 = false := by kernel_rfl
  rw [show (10000 : Nat) = 9999 + 1 from rfl, run_equalIn_agg w 9999 28 _ _ hS hp]
  simp only [Program.fieldsOf, Tryd.underlying28]
  go_simp
  have e1 : (d = a) = (a = d) := propext eq_comm
  have e2 : (e = b) = (b = e) := propext eq_comm
  have e3 : (f = c) = (c = f) := propext eq_comm
  have h0 : (((d, e, f) : Ev) == (a, b, c)) = (decide (a = d) && (decide (b = e) && decide (c = f))) := by
    rw [Bool.eq_iff_iff]
    simp [e1, e2, e3]
  rw [h0]
  by_cases h1 : a = d <;> by_cases h2 : b = e <;> by_cases h3 : c = f <;> simp [h1, h2, h3]

theorem idxEv (a : Option Addr) (len cap : Nat) (h : List Ev) (x0 x1 x2 : Int) (w : World) (hm : len ≤ maxLen) (hv : Ew w a len h) :
    Calls Tryd.prog 54 #[.slice a len cap, .agg #[.int .i64 x0, .int .i64 x1, .int .i64 x2]] w fun x w' => x = .returned (.int .i64 (idxI (fun y => y == (x0, x1, x2)) h)) ∧ Below w.heap.size w w' := by
  unfold maxLen at hm
  have H1 : Hid (h.length = len) := hv.1
  have G : Hid (Ew w a len h) := hv
  clear hv
  go_enter Tryd.func54, Tryd.ntmps54
  go_wp2
  go_loopw [8] (fun i wr => ∃ k : Nat, k ≤ len ∧ i = .int .i64 k ∧ (∃ n, wr = (w.alloc (.cells #[.int .i64 x0, .int .i64 x1, .int .i64 x2] 28)).drewN n) ∧ Hid (∀ j, j < k → (ev h j == (x0, x1, x2)) = false)) (fun i _ => len - (intOf i).toNat)
  case atStart => exact ⟨0, by omega, rfl, ⟨0, rfl⟩, fun j hj => absurd hj (by omega)⟩
  case round =>
    obtain ⟨k, hk, rfl, ⟨n, rfl⟩, hp⟩ := hrel
    by_cases hlt : k < len
    · obtain ⟨b, off, rfl, hpb, hcs⟩ := (G.out.later ((Below.refl _ _).alloc (Nat.le_refl _) (.cells #[.int .i64 x0, .int .i64 x1, .int .i64 x2] 28))).2 (by omega)
      obtain ⟨c0, c1, c2⟩ := hcs k hlt
      obtain ⟨q, eq⟩ : ∃ q, q = ev h k := ⟨_, rfl⟩
      rw [← eq] at c0 c1 c2
      obtain ⟨q0, q1, q2⟩ := q
      have EQ : Hid _ := eq
      clear hcs eq hpb
      have hk0 : (0 : Int) ≤ (k : Int) := by omega
      have hkl : (k : Int) < (len : Int) := by omega
      obtain ⟨r, er⟩ : ∃ r : Bool, r = (((q0, q1, q2) : Ev) == (x0, x1, x2)) := ⟨_, rfl⟩
      have hgd := eqGd
      have hev := eqEv x0 x1 x2 q0 q1 q2
      rw [← er] at hev
      have ER : Hid (r = (ev h k == (x0, x1, x2))) := by rw [← EQ.out]; exact er
      clear er
      cases r
      · go_wp2
        go_quiet (fail)
        go_wp2
        go_roundw
        case rel => exact ⟨k + 1, by omega, by go_num, ⟨_, rfl⟩, fun j hj => if e : j < k then hp.out j e else by rw [show j = k by omega]; exact ER.out.symm⟩
        case measure => simp [intOf]; omega
      · go_wp2
        go_quiet (fail)
        go_wp2
        go_ret
        refine ⟨ret_int (idx_hit (by rw [H1.out]; exact hlt) ER.out.symm hp.out).symm, ?_⟩
        exact below_drewN (below_drewN ((Below.refl _ _).alloc (Nat.le_refl _) _) _) _
    · go_wp2
      go_ret
      refine ⟨ret_int ?_, below_drewN ((Below.refl _ _).alloc (Nat.le_refl _) _) _⟩
      rw [idxI, if_neg]
      rw [idx_miss fun j hj => hp.out j (by have := H1.out; omega)]
      decide

theorem contEv (a : Option Addr) (len cap : Nat) (h : List Ev) (x0 x1 x2 : Int) (w : World) (hm : len ≤ maxLen) (hv : Ew w a len h) :
    Calls Tryd.prog 43 #[.slice a len cap, .agg #[.int .i64 x0, .int .i64 x1, .int .i64 x2]] w fun x w' => x = .returned (.bool (h.any (fun y => y == (x0, x1, x2)))) ∧ Below w.heap.size w w' := by
  go_enter Tryd.func43, Tryd.ntmps43
  go_wp2_with fail
  refine (idxEv a len cap h x0 x1 x2 _ hm (hv.later ((Below.refl _ _).alloc (Nat.le_refl _) _))).mono ?_
  rintro e w1 ⟨rfl, hb⟩
  clear hv
  go_wp2
  go_ret
  refine ⟨ret_bool ?_, below_up rfl ((Below.refl _ _).alloc (Nat.le_refl _) _) hb⟩
  rw [idxI]
  cases h.any (fun y => y == (x0, x1, x2)) <;> simp

/-- an error by its number; none is nil -/
def errV (c : Int) : Value := if c = 0 then .nilIface else .iface 49 (.int .i64 c)
theorem ret_err {c : Int} {v : Value} (h : v = errV c) : Ending.returned v = .returned (errV c) := by rw [h]

theorem Ew.alloc {w : World} {a : Option Addr} {len : Nat} {h : List Ev} (g : Ew w a len h) (o : Obj) : Ew (w.alloc o) a len h := g.later ((Below.refl _ _).alloc (Nat.le_refl _) _)
end Go.Proofs.YtpjoaogiaacikakDoor.His
