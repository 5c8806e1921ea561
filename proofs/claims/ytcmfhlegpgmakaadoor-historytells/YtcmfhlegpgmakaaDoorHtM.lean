/-
  Contracts of package history's Before, Past and Cut, and of mootsame.Error, each in one form for whatever it is handed.
-/
import Derived.Test.YtcmfhlegpgmakaaDoorHisQ
import Derived.Test.YtcmfhlegpgmakaaDoorRefI
import Derived.Test.YtcmfhlegpgmakaaDoorRefD
import Derived.Test.YtcmfhlegpgmakaaDoorTold
namespace Go.Proofs.YtcmfhlegpgmakaaDoor.His
open Go.RowKit
open Go.Proofs.YtcmfhlegpgmakaaDoor.Vec
open Go.Proofs.YtcmfhlegpgmakaaDoor.As (Laid error_errno error_nil)

def befB (h : List Ev) (i k : Int) : Bool := decide (befC h i k = 0) && bef h i.toNat k.toNat
theorem before_any (a : Option Addr) (len cap : Nat) (h : List Ev) (i k : Int) (w : World) (hlc : len ≤ cap) (hm : cap ≤ maxLen) (hv : Ew w a len h) :
    Calls Tryd.prog 17 #[.slice a len cap, .int .i64 i, .int .i64 k] w fun e w' => e = .returned (.tuple #[.bool (befB h i k), errV (befC h i k)]) ∧ Below w.heap.size w w' := by
  by_cases hc : befC h i k = 0
  · obtain ⟨_, i0, _, k0, _⟩ := befC_zero hc
    obtain ⟨x, rfl⟩ := Int.eq_ofNat_of_zero_le i0
    obtain ⟨y, rfl⟩ := Int.eq_ofNat_of_zero_le k0
    refine (before_ok a len cap h x y w hlc hm hv hc).mono ?_
    rintro e w' ⟨rfl, hb⟩
    refine ⟨?_, hb⟩
    rw [befB, decide_eq_true hc, hc]
    rfl
  · refine (before_no a len cap h i k w hlc hm hv hc).mono ?_
    rintro e w' ⟨rfl, hb⟩
    refine ⟨?_, hb⟩
    rw [befB, decide_eq_false hc]
    rfl
theorem error_errV (c k : Int) (w : World) (hL : Laid w) : Calls Tryd.prog 6 #[errV c, .int .i64 k] w fun e w' => e = .returned (.bool (c == k)) ∧ Below w.heap.size w w' := by
  by_cases hc : c = 0
  · subst hc
    rw [errV_ok]
    exact error_nil k w
  · rw [errV_no hc]
    exact error_errno c k w hL
theorem error_same (c : Int) (w : World) (hL : Laid w) : Calls Tryd.prog 6 #[errV c, .int .i64 c] w fun e w' => e = .returned (.bool true) ∧ Below w.heap.size w w' := by
  refine (error_errV c c w hL).mono ?_
  rintro e w' ⟨rfl, hb⟩
  exact ⟨ret_bool (by simp), hb⟩

def pasL (h : List Ev) (i : Int) : List Int := if pasC h i = 0 then pastK h i.toNat i.toNat else []
theorem past_any (a : Option Addr) (len cap : Nat) (h : List Ev) (i : Int) (w : World) (hlc : len ≤ cap) (hm : cap ≤ maxLen) (hv : Ew w a len h) :
    Calls Tryd.prog 18 #[.slice a len cap, .int .i64 i] w fun e w' => (∃ p n pc, e = .returned (.tuple #[.slice p n pc, errV (pasC h i)]) ∧ Vw w' p n (pasL h i) ∧ n ≤ maxLen) ∧ Below w.heap.size w w' := by
  by_cases hc : pasC h i = 0
  · obtain ⟨z, i0, i1⟩ := pasC_zero hc
    obtain ⟨h60, _⟩ := chk_zero z
    obtain ⟨x, rfl⟩ := Int.eq_ofNat_of_zero_le i0
    refine (past_ok a len cap h x w hlc hm hv hc).mono ?_
    rintro e w' ⟨⟨v, rfl, ho⟩, hb⟩
    refine ⟨?_, hb⟩
    obtain ⟨p, pc, rfl, hvw⟩ := own_vw ho
    refine ⟨p, _, pc, by rw [hc]; rfl, ?_, ?_⟩
    · rw [pasL, if_pos hc]
      exact hvw
    · have := pastK_len h x x
      unfold maxLen
      omega
  · refine (past_no a len cap h i w hlc hm hv hc).mono ?_
    rintro e w' ⟨rfl, hb⟩
    refine ⟨⟨none, 0, 0, rfl, ?_, by unfold maxLen; omega⟩, hb⟩
    rw [pasL, if_neg hc]
    exact ⟨rfl, fun q => absurd q (by omega)⟩
def cutBB (h : List Ev) (many : List Int) : Bool := decide (cutC h many = 0) && cutB h many
theorem cut_any (a : Option Addr) (len cap : Nat) (h : List Ev) (p : Option Addr) (n pcap : Nat) (many : List Int) (w : World) (hlc : len ≤ cap) (hm : cap ≤ maxLen) (hv : Ew w a len h) (hx : Vw w p n many) :
    Calls Tryd.prog 20 #[.slice a len cap, .slice p n pcap] w fun e w' => e = .returned (.tuple #[.bool (cutBB h many), errV (cutC h many)]) ∧ Below w.heap.size w w' := by
  by_cases hc : cutC h many = 0
  · refine (cut_ok a len cap h p n pcap many w hlc hm hv hx hc).mono ?_
    rintro e w' ⟨rfl, hb⟩
    refine ⟨?_, hb⟩
    rw [cutBB, decide_eq_true hc, hc]
    rfl
  · refine (cut_no a len cap h p n pcap many w hlc hm hv hx hc).mono ?_
    rintro e w' ⟨rfl, hb⟩
    refine ⟨?_, hb⟩
    rw [cutBB, decide_eq_false hc]
    rfl

/-! what holds in each way -/
theorem way_bad {h : List Ev} {i k : Int} {many : List Int} (hc : chkC h ≠ 0) : befC h i k = chkC h ∧ befB h i k = false ∧ pasC h i = chkC h ∧ pasL h i = [] ∧ cutC h many = chkC h ∧ cutBB h many = false ∧ 0 < h.length := by
  have e1 : befC h i k = chkC h := by unfold befC plC; rw [if_neg hc]
  have e2 : pasC h i = chkC h := by unfold pasC plC; rw [if_neg hc]
  have e3 : cutC h many = chkC h := by unfold cutC; rw [if_neg hc]
  refine ⟨e1, ?_, e2, ?_, e3, ?_, ?_⟩
  · rw [befB, e1, decide_eq_false hc]; rfl
  · rw [pasL, e2, if_neg hc]
  · rw [cutBB, e3, decide_eq_false hc]; rfl
  · cases h with
    | nil => exact absurd (by decide) hc
    | cons x t => simp
theorem way_cut {h : List Ev} {many : List Int} (hc : chkC h = 0) : cutC h many = manyC h many ∧ cutBB h many = rcB h many := by
  have e3 : cutC h many = manyC h many := by unfold cutC; rw [if_pos hc]
  exact ⟨e3, by rw [cutBB, e3, rcB]⟩
theorem way_i {h : List Ev} {i k : Int} (hc : chkC h = 0) (hi : i < 0 ∨ (h.length : Int) ≤ i) : befC h i k = 1 ∧ befB h i k = false ∧ pasC h i = 1 ∧ pasL h i = [] := by
  have o : offP h.length i = true := by simp [offP]; omega
  have e1 : befC h i k = 1 := by unfold befC plC; rw [if_pos hc, if_pos (by simp [o])]
  have e2 : pasC h i = 1 := by unfold pasC plC; rw [if_pos hc, if_pos (by simp [o])]
  refine ⟨e1, ?_, e2, ?_⟩
  · rw [befB, e1, decide_eq_false (by decide)]; rfl
  · rw [pasL, e2, if_neg (by decide)]
theorem way_k {h : List Ev} {i k : Int} (hc : chkC h = 0) (hk : k < 0 ∨ (h.length : Int) ≤ k) : befC h i k = 1 ∧ befB h i k = false := by
  have o : offP h.length k = true := by simp [offP]; omega
  have e1 : befC h i k = 1 := by unfold befC plC; rw [if_pos hc, if_pos (by simp [o])]
  exact ⟨e1, by rw [befB, e1, decide_eq_false (by decide)]; rfl⟩
theorem way_past {h : List Ev} {x : Nat} (hc : chkC h = 0) (hx : x < h.length) : pasC h (x : Int) = 0 ∧ pasL h (x : Int) = pastK h x h.length := by
  obtain ⟨_, hg⟩ := chk_zero hc
  have e : pasC h (x : Int) = 0 := by
    unfold pasC plC
    rw [if_pos hc, if_neg]
    simp [offP]
    omega
  refine ⟨e, ?_⟩
  rw [pasL, if_pos e]
  show pastK h x x = _
  have key : ∀ n, x + n ≤ h.length → pastK h x (x + n) = pastK h x x := by
    intro n
    induction n with
    | zero => intro _; rfl
    | succ n ih =>
      intro hn
      rw [← ih (by omega)]
      refine pastK_miss ?_
      cases hb : bef h (x + n) x with
      | false => rfl
      | true =>
        have := bef_lt hg (by omega) hx hb
        omega
  have := key (h.length - x) (by omega)
  rw [show x + (h.length - x) = h.length by omega] at this
  exact this.symm
theorem way_bef {h : List Ev} {x y : Nat} (hc : chkC h = 0) (hx : x < h.length) (hy : y < h.length) : befC h (x : Int) (y : Int) = 0 ∧ befB h (x : Int) (y : Int) = bef h x y := by
  have e : befC h (x : Int) (y : Int) = 0 := by
    unfold befC plC
    rw [if_pos hc, if_neg]
    simp [offP]
    omega
  exact ⟨e, by rw [befB, decide_eq_true e]; rfl⟩
theorem SqV.get {c : Array Value} {f : Nat → Nat → Bool} (h : SqV c f) {x y : Nat} (hx : x < 60) (hy : y < 60) : c[x * 60 + y]? = some (.bool (f x y)) := by
  have := h.2 (x * 60 + y) (by omega)
  rwa [show (x * 60 + y) / 60 = x by omega, show (x * 60 + y) % 60 = y by omega] at this
end Go.Proofs.YtcmfhlegpgmakaaDoor.His
