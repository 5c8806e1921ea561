/-
  Errors as the program tells them; a list of numbers that is seen.
-/
import Derived.Test.YtcccheeeagphpafLdrM
import Derived.Test.YtcccheeeagphpafSepA
import Derived.Test.YtcccheeeagphpafVecC
namespace Go.Proofs.Ytcccheeeagphpaf.Ldr
open Go.RowKit
open Go.Proofs.Ytcccheeeagphpaf.Fif (own_lt own_block own_form own_mono own_vw ret_bool)
open Go.Proofs.Ytcccheeeagphpaf.Vec (Vw)
open Go.Proofs.Ytcccheeeagphpaf.Vec (ints_any)
open Go.Proofs.Ytcccheeeagphpaf.Sep (KpL NewL)
set_option linter.unusedVariables false

def errF (c : Int) : Value := if c = 0 then .nilIface else .iface 48 (.int .i64 c)
theorem errF_ok : errF 0 = .nilIface := rfl
theorem errF_no {c : Int} (h : c ≠ 0) : errF c = .iface 48 (.int .i64 c) := if_neg h
/-- a list of numbers that is seen -/
def Sl (w : World) (v : Value) (l : List Int) : Prop := ∃ a cap, v = .slice a l.length cap ∧ l.length ≤ cap ∧ cap ≤ maxLen ∧ Vw w a l.length l
theorem Sl.later {w w' : World} {v : Value} {l : List Int} (h : Sl w v l) (hb : Below w.heap.size w w') : Sl w' v l := by
  obtain ⟨a, cap, e, h1, h2, h3⟩ := h
  exact ⟨a, cap, e, h1, h2, h3.later hb⟩
theorem Sl.nil (w : World) : Sl w (.slice none 0 0) [] := ⟨none, 0, rfl, Nat.le_refl _, Nat.zero_le _, rfl, fun q => absurd q (by decide)⟩
theorem Sl.of_own {w : World} {base : Nat} {v : Value} {l : List Int} {t : TypeId} (o : w.ownsRow base t 1 v l.length (l.map (Value.int .i64))) : Sl w v l := by
  obtain ⟨a, cap, e, hv⟩ := own_vw o
  refine ⟨a, cap, e, ?_, ?_, hv⟩
  · rcases o.2 with ⟨h2, h3⟩ | ⟨g, cap', cur, hv', _, _, hc, hm, _, _⟩
    · rw [e] at h2
      injection h2 with _ _ h4
      omega
    · rw [e] at hv'
      injection hv' with _ _ h4
      omega
  · rcases o.2 with ⟨h2, h3⟩ | ⟨g, cap', cur, hv', _, _, hc, hm, _, _⟩
    · rw [e] at h2
      injection h2 with _ _ h4
      unfold maxLen
      omega
    · rw [e] at hv'
      injection hv' with _ _ h4
      rw [h4]
      exact hm
theorem same_any {w : World} {v v' : Value} {l l' : List Int} (h : Sl w v l) (h' : Sl w v' l') : Calls Try.prog 11 #[v, v'] w fun e w' => e = .returned (.bool (decide (l = l'))) ∧ Below w.heap.size w w' := by
  obtain ⟨a, cap, rfl, h1, h2, h3⟩ := h
  obtain ⟨a', cap', rfl, h1', h2', h3'⟩ := h'
  refine (ints_any a a' l.length cap l'.length cap' l l' w h3 h3' (Nat.le_trans h1 h2)).mono ?_
  rintro e w' ⟨rfl, n, rfl⟩
  exact ⟨rfl, ⟨rfl, rfl, rfl, Nat.le_refl _, fun _ _ => rfl⟩⟩
theorem vw_take {w : World} {a : Option Addr} {len n : Nat} {xs : List Int} (h : Vw w a len xs) (hn : n ≤ len) : Vw w a n (xs.take n) := by
  refine ⟨by rw [List.length_take, h.1]; omega, fun q => ?_⟩
  obtain ⟨b, off, e, hb, hc⟩ := h.2 (by omega)
  refine ⟨b, off, e, hb, fun k hk => ?_⟩
  have e : (xs.take n).getD k 0 = xs.getD k 0 := by simp [List.getD, List.getElem?_take_of_lt hk]
  rw [hc k (by omega), e]
set_option maxRecDepth 100000 in
theorem begins_any {w : World} {v v' : Value} {l l' : List Int} (h : Sl w v l) (h' : Sl w v' l') : Calls Try.prog 16 #[v, v'] w fun e w' => e = .returned (.bool (decide (l <+: l'))) ∧ Below w.heap.size w w' := by
  obtain ⟨a, cap, rfl, h1, h2, h3⟩ := h
  obtain ⟨a', cap', rfl, h1', h2', h3'⟩ := h'
  unfold maxLen at h2 h2'
  by_cases hl : l.length ≤ l'.length
  · have HV : Hid (Vw w a l.length l ∧ Vw w a' l.length (l'.take l.length)) := ⟨h3, vw_take h3' hl⟩
    have HD : Hid (decide (l = l'.take l.length) = decide (l <+: l')) := decide_eq_decide.2 List.prefix_iff_eq_take.symm
    obtain ⟨n, en⟩ : ∃ n, n = l.length := ⟨_, rfl⟩
    obtain ⟨n', en'⟩ : ∃ n', n' = l'.length := ⟨_, rfl⟩
    have EN : Hid (n = l.length) := en
    rw [← en] at hl h1 ⊢
    rw [← en'] at hl h1' ⊢
    have q : (n : Int) ≤ (n' : Int) := by omega
    have q0 : (0 : Int) ≤ (n : Int) := by omega
    have q1 : (n : Int) ≤ (cap' : Int) := by omega
    clear h3 h3' en en'
    go_enter Try.func16, Try.ntmps16
    go_wp2_with fail
    refine (ints_any a a' n cap n cap' l (l'.take l.length) w (by rw [EN.out]; exact HV.out.1) (by rw [EN.out]; exact HV.out.2) (by unfold maxLen; omega)).mono ?_
    rintro e w' ⟨rfl, k, rfl⟩
    rw [HD.out]
    go_wp2
    go_ret
    exact ⟨rfl, ⟨rfl, rfl, rfl, Nat.le_refl _, fun _ _ => rfl⟩⟩
  · have e : decide (l <+: l') = false := by
      rw [decide_eq_false_iff_not]
      intro q
      exact hl q.length_le
    rw [e]
    obtain ⟨n, en⟩ : ∃ n, n = l.length := ⟨_, rfl⟩
    obtain ⟨n', en'⟩ : ∃ n', n' = l'.length := ⟨_, rfl⟩
    rw [← en] at hl h1 ⊢
    rw [← en'] at hl h1' ⊢
    have q : ¬ (n : Int) ≤ (n' : Int) := by omega
    clear h3 h3' en en' e
    go_enter Try.func16, Try.ntmps16
    go_wp2
    go_ret
    exact ⟨rfl, Below.refl _ _⟩
end Go.Proofs.Ytcccheeeagphpaf.Ldr
