/-
  Plain facts for PictureStill: where nothing moves a picture shows what there is.
-/
import Derived.Test.YtgcdbcljneoifaiDoorPicQ
namespace Go.Proofs.YtgcdbcljneoifaiDoor.Pic
set_option linter.unusedVariables false
variable {g : G} {all : Int} {w t f : Nat}

/-- the first marks: those of who began -/
structure K1 (w t : Nat) (all : Int) (g : G) : Prop where
  inv : Inv all g
  bg : g.begun = true
  wn : w < g.n
  pt : ∀ i j, g.part i j = 0
  hw : g.has w = true
  done : ∀ j, j < g.n → j ≠ w → j < t → g.has j = true ∧ g.way w j = []
  todo : ∀ j, j < g.n → j ≠ w → t ≤ j → g.has j = false ∧ g.way w j = [0]
  sent : ∀ i j, i < g.n → j < g.n → i ≠ j → i ≠ w → g.has i = true → g.way i j = [0]
  rest : ∀ i j, g.has i = false → g.way i j = []
theorem begC_start {l : List Int} {m : Nat} (hm : m < l.length) : begC (start l) (m : Int) = 0 := by
  unfold begC
  rw [if_pos (show inM (start l) (m : Int) from ⟨by omega, by show (m : Int) < (l.length : Int); omega⟩)]
  rfl
theorem K1.start {l : List Int} (h : newC l = 0) (hw : w < l.length) : K1 w 0 (S (fun i => l.getD i 0) l.length) (Pic.beg (Pic.start l) (w : Int)) := by
  have hb := begC_start (l := l) hw
  have e : Pic.beg (Pic.start l) (w : Int) = Pic.write { Pic.start l with begun := true } w := by
    unfold Pic.beg
    rw [if_pos hb, Int.toNat_natCast]
  have hi := (Inv.start h).beg_ (w : Int)
  rw [e] at hi ⊢
  refine ⟨hi, rfl, hw, fun _ _ => rfl, up_same _ _ _, fun j _ _ z => absurd z (Nat.not_lt_zero _), fun j hj hne _ => ⟨up_other _ _ hne, ?_⟩, fun i j hi' hj hij hiw z => ?_, fun i j z => ?_⟩
  · show (if w = w ∧ j ≠ w ∧ j < l.length then [] ++ [0] else []) = [0]
    rw [if_pos ⟨rfl, hne, hj⟩]
    rfl
  · have z2 : up (fun _ => false) w true i = true := z
    rw [up_other _ _ hiw] at z2
    cases z2
  · show (if i = w ∧ j ≠ w ∧ j < l.length then [] ++ [0] else []) = []
    refine if_neg (fun q => ?_)
    have z2 : up (fun _ => false) w true i = false := z
    rw [q.1, up_same] at z2
    cases z2
theorem K1.skip (h : K1 w t all g) (e : t = w) : K1 w (t + 1) all g := ⟨h.inv, h.bg, h.wn, h.pt, h.hw, fun j hj hne z => h.done j hj hne (by omega), fun j hj hne z => h.todo j hj hne (by omega), h.sent, h.rest⟩
theorem K1.come (h : K1 w t all g) (ht : t < g.n) (hne : t ≠ w) : comeC g (w : Int) (t : Int) = 0 ∧ comeN g (w : Int) (t : Int) = 0 ∧ K1 w (t + 1) all (Pic.come g (w : Int) (t : Int)) := by
  obtain ⟨h1, h2⟩ := h.todo t ht hne (Nat.le_refl _)
  have hwt : w ≠ t := Ne.symm hne
  have e1 : comeC g (w : Int) (t : Int) = 0 := by
    unfold comeC
    rw [if_pos (way_nat h.wn ht hwt), Int.toNat_natCast, Int.toNat_natCast, h2]
    rfl
  have e2 : comeN g (w : Int) (t : Int) = 0 := by
    unfold comeN
    rw [if_pos e1, Int.toNat_natCast, Int.toNat_natCast, h2]
    rfl
  refine ⟨e1, e2, ?_⟩
  have hi := h.inv.come (w : Int) (t : Int)
  have eg : Pic.come g (w : Int) (t : Int) = closed (taken (Pic.write g t) w t) w t := by
    unfold Pic.come
    rw [if_pos e1, e2, if_neg (by decide), Int.toNat_natCast, Int.toNat_natCast, wrt_taken hwt]
    unfold wrt
    rw [h1, iF]
  rw [eg] at hi ⊢
  have ehas : ∀ i, (closed (taken (Pic.write g t) w t) w t).has i = up g.has t true i := fun _ => rfl
  have ewy : ∀ i j, (Pic.write g t).way i j = if i = t ∧ j ≠ t ∧ j < g.n then g.way i j ++ [0] else g.way i j := fun _ _ => rfl
  have ew : ∀ i j, ¬ (i = w ∧ j = t) → (closed (taken (Pic.write g t) w t) w t).way i j = (Pic.write g t).way i j := fun i j q => up2_other _ _ q
  have ewt : (closed (taken (Pic.write g t) w t) w t).way w t = [] := by
    show up2 (Pic.write g t).way w t ((Pic.write g t).way w t).tail w t = []
    rw [up2_same, ewy, if_neg (fun z => hwt z.1), h2]
    rfl
  refine ⟨hi, h.bg, h.wn, h.pt, by rw [ehas, up_other _ _ hwt]; exact h.hw, fun j hj hjw z => ?_, fun j hj hjw z => ?_, fun i j hi' hj hij hiw z => ?_, fun i j z => ?_⟩
  · by_cases e : j = t
    · subst e
      exact ⟨by rw [ehas, up_same], ewt⟩
    · obtain ⟨q1, q2⟩ := h.done j hj hjw (by omega)
      exact ⟨by rw [ehas, up_other _ _ e]; exact q1, by rw [ew w j (fun y => e y.2), ewy, if_neg (fun y => hwt y.1)]; exact q2⟩
  · obtain ⟨q1, q2⟩ := h.todo j hj hjw (by omega)
    have e : j ≠ t := by omega
    exact ⟨by rw [ehas, up_other _ _ e]; exact q1, by rw [ew w j (fun y => e y.2), ewy, if_neg (fun y => hwt y.1)]; exact q2⟩
  · rw [ew i j (fun y => hiw y.1), ewy]
    have hj' : j < g.n := hj
    by_cases e : i = t
    · subst e
      rw [if_pos ⟨rfl, Ne.symm hij, hj'⟩, h.rest i j h1]
      rfl
    · rw [if_neg (fun y => e y.1)]
      rw [ehas, up_other _ _ e] at z
      exact h.sent i j hi' hj' hij hiw z
  · have hit : i ≠ t := fun y => by rw [ehas, y, up_same] at z; cases z
    rw [ehas, up_other _ _ hit] at z
    have hiw : ¬ (i = w ∧ j = t) := fun y => by rw [y.1, h.hw] at z; cases z
    rw [ew i j hiw, ewy, if_neg (fun y => hit y.1)]
    exact h.rest i j z
/-- the marks of all others -/
structure K2 (w f t : Nat) (all : Int) (g : G) : Prop where
  inv : Inv all g
  bg : g.begun = true
  pt : ∀ i j, g.part i j = 0
  has : ∀ i, i < g.n → g.has i = true
  own : ∀ j, j < g.n → g.way w j = []
  gone : ∀ i j, i < g.n → j < g.n → (i < f ∨ (i = f ∧ j < t)) → g.way i j = []
  todo : ∀ i j, i < g.n → j < g.n → i ≠ w → i ≠ j → ¬ (i < f ∨ (i = f ∧ j < t)) → g.way i j = [0]
theorem K1.next (h : K1 w g.n all g) : K2 w 0 0 all g := by
  have hs : ∀ i, i < g.n → g.has i = true := fun i hi => by
    by_cases e : i = w
    · rw [e]; exact h.hw
    · exact (h.done i hi e hi).1
  refine ⟨h.inv, h.bg, h.pt, hs, fun j hj => ?_, fun i j _ _ z => by omega, fun i j hi hj hiw hij _ => h.sent i j hi hj hij hiw (hs i hi)⟩
  by_cases e : j = w
  · rw [e]; exact (h.inv.diag w).1
  · exact (h.done j hj e hj).2
theorem K2.skip (h : K2 w f t all g) (e : f = w ∨ t = f) : K2 w f (t + 1) all g := by
  refine ⟨h.inv, h.bg, h.pt, h.has, h.own, fun i j hi hj z => ?_, fun i j hi hj hiw hij z => h.todo i j hi hj hiw hij (by omega)⟩
  by_cases q : i = f ∧ j = t
  · rcases e with y | y
    · rw [q.1, y]; exact h.own j hj
    · rw [q.1, q.2, y]; exact (h.inv.diag f).1
  · exact h.gone i j hi hj (by omega)
theorem K2.row (h : K2 w f g.n all g) : K2 w (f + 1) 0 all g := ⟨h.inv, h.bg, h.pt, h.has, h.own, fun i j hi hj z => h.gone i j hi hj (by omega), fun i j hi hj hiw hij z => h.todo i j hi hj hiw hij (by omega)⟩
theorem K2.come (h : K2 w f t all g) (hf : f < g.n) (ht : t < g.n) (hfw : f ≠ w) (hft : f ≠ t) : comeC g (f : Int) (t : Int) = 0 ∧ comeN g (f : Int) (t : Int) = 0 ∧ K2 w f (t + 1) all (Pic.come g (f : Int) (t : Int)) := by
  have h2 := h.todo f t hf ht hfw hft (by omega)
  have e1 : comeC g (f : Int) (t : Int) = 0 := by
    unfold comeC
    rw [if_pos (way_nat hf ht hft), Int.toNat_natCast, Int.toNat_natCast, h2]
    rfl
  have e2 : comeN g (f : Int) (t : Int) = 0 := by
    unfold comeN
    rw [if_pos e1, Int.toNat_natCast, Int.toNat_natCast, h2]
    rfl
  refine ⟨e1, e2, ?_⟩
  have hi := h.inv.come (f : Int) (t : Int)
  have eg : Pic.come g (f : Int) (t : Int) = closed (taken g f t) f t := by
    unfold Pic.come
    rw [if_pos e1, e2, if_neg (by decide), Int.toNat_natCast, Int.toNat_natCast, wrt_taken hft]
    unfold wrt
    rw [h.has t ht, iT]
  rw [eg] at hi ⊢
  have ew : ∀ i j, ¬ (i = f ∧ j = t) → (closed (taken g f t) f t).way i j = g.way i j := fun i j q => up2_other _ _ q
  have ewt : (closed (taken g f t) f t).way f t = [] := by
    show up2 g.way f t (g.way f t).tail f t = []
    rw [up2_same, h2]
    rfl
  refine ⟨hi, h.bg, h.pt, h.has, fun j hj => ?_, fun i j hi' hj z => ?_, fun i j hi' hj hiw hij z => ?_⟩
  · rw [ew w j (fun y => hfw y.1.symm)]; exact h.own j hj
  · by_cases q : i = f ∧ j = t
    · rw [q.1, q.2]; exact ewt
    · rw [ew i j q]; exact h.gone i j hi' hj (by omega)
  · rw [ew i j (by omega)]; exact h.todo i j hi' hj hiw hij (by omega)
theorem K2.done (h : K2 w g.n 0 all g) : Dn g ∧ S g.wrote g.n = all ∧ g.ow = 0 := by
  have hd : Dn g := (D2.done (g := g) ⟨.inl h.has, fun i j hi hj z => h.gone i j hi hj z⟩ h.inv).2.2 h.bg
  have ho : g.ow = 0 := by
    rw [h.inv.gone]
    exact S2_none fun i j _ _ => by rw [h.pt]; split <;> rfl
  refine ⟨hd, ?_, ho⟩
  have := h.inv.keeps hd
  omega
end Go.Proofs.YtgcdbcljneoifaiDoor.Pic
