/-
  Words that wait, seen in a map: whatever a place is written as, if no two places are written alike.
-/
import Derived.Test.YtgcdbcljneoifacDoorFifM
import Derived.Maps.OwnSet
namespace Go.Proofs.YtgcdbcljneoifacDoor.Fif
open Go.Maps

/-- a map holds just the words that wait -/
structure MV {H : Type} (ok : Int → Int → Prop) (kl : Int → Int → Lit) (D : DataW H) (ws : List Cm) : Prop where
  tidy : Tidy D
  has : ∀ a b, ok a b → Maps.has D (kl a b) = (fnd ws a b).isSome
  at_ : ∀ a b x, ok a b → fnd ws a b = some x → ∀ z, D.atKey (kl a b) z = .lit (.int .i64 x)
  size : Maps.size D = ws.length
theorem MV.start {H : Type} (ok : Int → Int → Prop) (kl : Int → Int → Lit) : MV ok kl (.map [] : DataW H) [] :=
  ⟨tidy_empty, fun _ _ _ => rfl, fun a b x _ h => (by cases h), rfl⟩
theorem MV.put {H : Type} {ok : Int → Int → Prop} {kl : Int → Int → Lit} (hinj : ∀ a b c d, ok a b → ok c d → kl a b = kl c d → a = c ∧ b = d) (hk : ∀ a b, ok a b → WideAt.IsKeyLit (kl a b)) {D : DataW H} {ws : List Cm} (g : MV ok kl D ws) {who n : Int} (ho : ok who n) (x : Int) (hn : fnd ws who n = none) :
    MV ok kl (D.put (kl who n) (.lit (.int .i64 x))) (ws ++ [(who, n, x)]) := by
  refine ⟨g.tidy.put (hk _ _ ho) _, fun a b hab => ?_, fun a b y hab hy z => ?_, ?_⟩
  · rw [fnd_snoc hn]
    by_cases e : a = who ∧ b = n
    · obtain ⟨rfl, rfl⟩ := e
      rw [if_pos ⟨rfl, rfl⟩, has_put_same g.tidy.isMap (hk _ _ ho)]
      rfl
    · rw [if_neg e, has_put_other (fun q => e (hinj _ _ _ _ hab ho q)), g.has _ _ hab]
  · rw [fnd_snoc hn] at hy
    by_cases e : a = who ∧ b = n
    · obtain ⟨rfl, rfl⟩ := e
      rw [if_pos ⟨rfl, rfl⟩] at hy
      rw [atKey_put_same g.tidy.isMap (hk _ _ ho), Option.some.inj hy]
    · rw [if_neg e] at hy
      rw [atKey_put_other (fun q => e (hinj _ _ _ _ hab ho q)), g.at_ a b y hab hy]
  · rw [size_put g.tidy, g.has _ _ ho, hn, List.length_append, g.size]
    rfl
theorem MV.del {H : Type} {ok : Int → Int → Prop} {kl : Int → Int → Lit} (hinj : ∀ a b c d, ok a b → ok c d → kl a b = kl c d → a = c ∧ b = d) {D : DataW H} {ws : List Cm} (g : MV ok kl D ws) (hu : Uq ws) {who n : Int} (ho : ok who n) :
    MV ok kl (D.del (kl who n)) (rm ws who n) := by
  refine ⟨g.tidy.del _, fun a b hab => ?_, fun a b y hab hy z => ?_, ?_⟩
  · rw [fnd_rm]
    by_cases e : a = who ∧ b = n
    · obtain ⟨rfl, rfl⟩ := e
      rw [if_pos ⟨rfl, rfl⟩, has_del_same]
      rfl
    · rw [if_neg e, has_del_other (fun q => e (hinj _ _ _ _ hab ho q)), g.has _ _ hab]
  · rw [fnd_rm] at hy
    by_cases e : a = who ∧ b = n
    · rw [if_pos e] at hy
      cases hy
    · rw [if_neg e] at hy
      rw [atKey_del_other (fun q => e (hinj _ _ _ _ hab ho q)), g.at_ a b y hab hy]
  · have h1 := size_del (k := kl who n) g.tidy
    rw [g.has _ _ ho, g.size] at h1
    cases hf : fnd ws who n with
    | none =>
      rw [hf] at h1
      rw [rm_none hf]
      simpa using h1
    | some x =>
      rw [hf] at h1
      have := rm_len hu hf
      simp at h1
      omega
end Go.Proofs.YtgcdbcljneoifacDoor.Fif
