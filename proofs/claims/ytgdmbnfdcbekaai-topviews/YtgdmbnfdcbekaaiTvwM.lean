/-
  Plain facts for TopViews: where in each view only the first of it speaks, who stays heard one list, and the views are a chain.
-/
import Derived.Test.YtgdmbnfdcbekaaiFluM
namespace Go.Proofs.Ytgdmbnfdcbekaai.Flu
open Go.Proofs.Ytgdmbnfdcbekaai.Viw (Vi viewC hasC nextC nextV shared chAt chC vw noV scan few few_no next_ok next_is next_view view_ok has_ok)
set_option linter.unusedVariables false

variable {f : F}
/-- the first of a view -/
def fst (f : F) : Nat := (f.v.has.getD 0 0).toNat
/-- only the first speaks, so all others heard nothing -/
def Solo (f : F) : Prop := ∀ m, cur f m = if m = fst f then f.said else []
theorem fst_in (h : Inv f) : ((fst f : Nat) : Int) ∈ f.v.has := by
  have hp := (has_ok (view_ok h.view).2).1
  have e : f.v.has.getD 0 0 ∈ f.v.has := by
    have : f.v.has.getD 0 0 = f.v.has[0] := by simp [List.getD, hp]
    rw [this]
    exact List.getElem_mem hp
  have := (h.has _ e).1
  unfold fst
  rw [Int.toNat_of_nonneg this]
  exact e
theorem Solo.start (n : Nat) : Solo (start n) := fun m => by
  show ([] : List Int) = if m = fst (Flu.start n) then [] else []
  split <;> rfl
theorem Solo.put (h : Solo f) {word : Int} : Solo (put f (fst f) word) := by
  intro m
  show up2 f.hd (num f) (fst f) (cur f (fst f) ++ [word]) (num f) m = if m = fst f then f.said ++ [word] else []
  by_cases e : m = fst f
  · rw [e, up2_same, if_pos rfl, h (fst f), if_pos rfl]
  · rw [up2_other _ _ (fun q => e q.2), if_neg e]
    have := h m
    rw [if_neg e] at this
    exact this
theorem Solo.say (h : Solo f) (word : Int) : Solo (say f ((fst f : Nat) : Int) word) := by
  unfold Flu.say
  split
  · rw [Int.toNat_natCast]
    exact h.put
  · exact h
theorem Solo.turn (h : Inv f) (has : List Int) : Solo (Flu.turn f has) := by
  intro m
  have e : cur (Flu.turn f has) m = [] := by
    show up1 f.hd (num f) _ (num (Flu.turn f has)) m = []
    rw [num_turn h, up1_other _ _ _ (by omega)]
    exact h.new _ (by omega) m
  rw [e]
  show [] = if m = fst (Flu.turn f has) then [] else []
  split <;> rfl
/-- of words that one heard, in order, all who stay hear all, if it stays -/
theorem fl_all {st : List Int} {p : Nat} (hp : (p : Int) ∈ st) {S : List Int} (hS : S.Nodup) : ∀ (l pre : List Int) (g : Nat → List Int), S = pre ++ l → (∀ m : Nat, (m : Int) ∈ st → g m = if m = p then S else pre) → ∀ m : Nat, (m : Int) ∈ st → fl st g l m = S := by
  intro l
  induction l with
  | nil =>
    intro pre g e hg m hm
    show g m = S
    rw [hg m hm, e]
    simp
  | cons x l ih =>
    intro pre g e hg m hm
    show fl st (hearW st g x) l m = S
    have hx : anyH st g x = true := anyH_iff.2 ⟨p, hp, by rw [Int.toNat_natCast, hg p hp, if_pos rfl, e]; simp⟩
    have hnp : x ∉ pre := by
      rw [e] at hS
      exact fun q => (List.nodup_append.1 hS).2.2 x q x List.mem_cons_self rfl
    refine ih (pre ++ [x]) (hearW st g x) (by rw [e]; simp) (fun k hk => ?_) m hm
    unfold hearW
    by_cases ek : k = p
    · rw [if_neg (fun q => q.2.1 (by rw [hg k hk, if_pos ek, e]; simp)), hg k hk, if_pos ek, if_pos ek]
    · have e2 : g k = pre := by rw [hg k hk, if_neg ek]
      rw [e2, if_pos ⟨hk, hnp, hx⟩, if_neg ek]
/-- and none, if it goes -/
theorem fl_none {st : List Int} : ∀ (l : List Int) (g : Nat → List Int), (∀ k ∈ st, g k.toNat = []) → ∀ m : Nat, (m : Int) ∈ st → fl st g l m = g m := by
  intro l
  induction l with
  | nil => intro g _ m _; rfl
  | cons x l ih =>
    intro g hg m hm
    have hx : anyH st g x = false := by
      rw [Bool.eq_false_iff]
      intro q
      obtain ⟨k, hk, hy⟩ := anyH_iff.1 q
      rw [hg k hk] at hy
      exact absurd hy List.not_mem_nil
    have e : hearW st g x = g := funext fun k => if_neg (fun q => by rw [hx] at q; exact absurd q.2.2 (by decide))
    show fl st (hearW st g x) l m = g m
    rw [e]
    exact ih g hg m hm
/-- who stays heard one list -/
theorem Solo.one (hs : Solo f) (h : Inv f) {has : List Int} {a b : Nat} (ha : (a : Int) ∈ stay f has) (hb : (b : Int) ∈ stay f has) : (Flu.turn f has).hd (num f) a = (Flu.turn f has).hd (num f) b := by
  show up1 f.hd (num f) (fl (stay f has) (cur f) f.said) (num f) a = up1 f.hd (num f) (fl (stay f has) (cur f) f.said) (num f) b
  rw [up1_same, up1_same]
  by_cases e : ((fst f : Nat) : Int) ∈ stay f has
  · have key := fl_all e h.saidN f.said [] (cur f) rfl fun m _ => hs m
    rw [key a ha, key b hb]
  · have hz : ∀ k ∈ stay f has, cur f k.toNat = [] := by
      intro k hk
      have h0 := h.stay0 has k hk
      rw [hs k.toNat, if_neg (fun q => e (by rw [← q, Int.toNat_of_nonneg h0]; exact hk))]
    rw [fl_none f.said (cur f) hz a ha, fl_none f.said (cur f) hz b hb]
    have z1 := hz a ha
    have z2 := hz b hb
    rw [Int.toNat_natCast] at z1 z2
    rw [z1, z2]
/-- views, one behind the other -/
structure Chn (f : F) (l : List Vi) : Prop where
  all : ∀ i, i < l.length → chAt l i = 0
  pos : 0 < l.length
  last : vw l (l.length - 1) = f.v
theorem vw_old {l : List Vi} {x : Vi} {i : Nat} (h : i < l.length) : vw (l ++ [x]) i = vw l i := by
  unfold vw List.getD
  rw [List.getElem?_append_left h]
theorem vw_last {l : List Vi} {x : Vi} : vw (l ++ [x]) l.length = x := by
  simp [vw, List.getD]
theorem Chn.start {n : Nat} (h2 : 2 ≤ n) (h5 : n ≤ 5) : Chn (start n) [(start n).v] := by
  refine ⟨fun i hi => ?_, by simp, rfl⟩
  have e : i = 0 := by simpa using hi
  subst e
  show (if viewC (Flu.start n).v = 0 then (if (0 : Nat) = 0 then (0 : Int) else _) else _) = 0
  rw [if_pos (Inv.start h2 h5).view, if_pos rfl]
theorem Chn.congr {l : List Vi} (h : Chn f l) {f' : F} (e : f'.v = f.v) : Chn f' l := ⟨h.all, h.pos, by rw [e]; exact h.last⟩
theorem Chn.turn {l : List Vi} (h : Chn f l) {has : List Int} (hc : Flu.chC f has = 0) : Chn (Flu.turn f has) (l ++ [nextV f.v has]) := by
  have hl : (l ++ [nextV f.v has]).length = l.length + 1 := by simp
  obtain ⟨h1, h2, h3, h4⟩ := next_ok hc
  have hv : viewC (nextV f.v has) = 0 := next_view hc
  have en : nextV f.v has = ⟨f.v.n + 1, has⟩ := next_is hc
  refine ⟨fun i hi => ?_, by rw [hl]; omega, ?_⟩
  · rw [hl] at hi
    by_cases e : i < l.length
    · have z := h.all i e
      unfold chAt at z ⊢
      by_cases e0 : i = 0
      · subst e0
        rw [vw_old e]
        rw [if_pos rfl] at z ⊢
        exact z
      · rw [vw_old e, vw_old (show i - 1 < l.length by omega)]
        exact z
    · have ei : i = l.length := by omega
      have hp := h.pos
      unfold chAt
      rw [ei, vw_last, if_pos hv, if_neg (by omega), vw_old (by omega), h.last, en, if_pos rfl, h4]
      rfl
  · rw [hl, show l.length + 1 - 1 = l.length by omega, vw_last, en]
    rfl
theorem Chn.code {l : List Vi} (h : Chn f l) (hl : l.length ≤ 60) : Viw.chC l = 0 := by
  unfold Viw.chC
  rw [if_neg (by omega)]
  exact Viw.scan_ok.2 h.all
end Go.Proofs.Ytgdmbnfdcbekaai.Flu
