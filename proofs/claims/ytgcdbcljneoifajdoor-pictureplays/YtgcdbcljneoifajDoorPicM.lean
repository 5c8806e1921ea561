/-
  Plain facts on pictures: gold that is paid and comes while a picture is taken of all; no gold is lost in one.
-/
import Derived.Test.YtgcdbcljneoifajDoorRows
namespace Go.Proofs.YtgcdbcljneoifajDoor.Pic
set_option linter.unusedVariables false

/-! sums -/
def S (f : Nat → Int) : Nat → Int
  | 0 => 0
  | n + 1 => S f n + f n
theorem S_congr {f h : Nat → Int} {n : Nat} (e : ∀ i, i < n → h i = f i) : S h n = S f n := by
  induction n with
  | zero => rfl
  | succ n ih =>
    show S h n + h n = S f n + f n
    rw [ih fun i hi => e i (by omega), e n (by omega)]
theorem S_zero (n : Nat) : S (fun _ => 0) n = 0 := by
  induction n with
  | zero => rfl
  | succ n ih =>
    show S (fun _ => 0) n + 0 = 0
    rw [ih]
    rfl
theorem S_none {f : Nat → Int} {n : Nat} (e : ∀ i, i < n → f i = 0) : S f n = 0 := (S_congr (f := fun _ => 0) e).trans (S_zero n)
/-- one of them is another one -/
theorem S_one {f h : Nat → Int} {n i : Nat} (hi : i < n) (e : ∀ k, k < n → k ≠ i → h k = f k) : S h n = S f n + (h i - f i) := by
  induction n with
  | zero => omega
  | succ n ih =>
    show S h n + h n = S f n + f n + (h i - f i)
    by_cases q : i = n
    · subst q
      rw [S_congr (f := f) fun k hk => e k (by omega) (by omega)]
      omega
    · rw [ih (by omega) fun k hk hne => e k (by omega) hne, e n (by omega) (fun z => q z.symm)]
      omega
theorem S_pos {f : Nat → Int} {n : Nat} (h : ∀ i, i < n → 0 ≤ f i) : 0 ≤ S f n := by
  induction n with
  | zero => exact Int.le_refl _
  | succ n ih =>
    show 0 ≤ S f n + f n
    have h1 := ih fun i hi => h i (by omega)
    have h2 := h n (by omega)
    omega
def S2 (f : Nat → Nat → Int) (n : Nat) : Int := S (fun i => S (f i) n) n
theorem S2_congr {f h : Nat → Nat → Int} {n : Nat} (e : ∀ i j, i < n → j < n → h i j = f i j) : S2 h n = S2 f n := S_congr fun i hi => S_congr fun j hj => e i j hi hj
theorem S2_none {f : Nat → Nat → Int} {n : Nat} (e : ∀ i j, i < n → j < n → f i j = 0) : S2 f n = 0 := S_none fun i hi => S_none fun j hj => e i j hi hj
theorem S2_one {f h : Nat → Nat → Int} {n a b : Nat} (ha : a < n) (hb : b < n) (e : ∀ i j, i < n → j < n → ¬ (i = a ∧ j = b) → h i j = f i j) : S2 h n = S2 f n + (h a b - f a b) := by
  unfold S2
  rw [S_one (f := fun i => S (f i) n) (h := fun i => S (h i) n) ha fun k hk hne => S_congr fun j hj => e k j hk hj (fun z => hne z.1)]
  rw [S_one (f := f a) (h := h a) hb fun k hk hne => e a k ha hk (fun z => hne z.2)]
  omega
/-! lists -/
/-- all of it -/
def tot : List Int → Int
  | [] => 0
  | x :: l => x + tot l
/-- what is ahead of a mark -/
def ps : List Int → Int
  | [] => 0
  | x :: l => if x = 0 then 0 else x + ps l
theorem tot_snoc (l : List Int) (x : Int) : tot (l ++ [x]) = tot l + x := by
  induction l with
  | nil => show x + 0 = 0 + x; omega
  | cons y l ih =>
    show y + tot (l ++ [x]) = y + tot l + x
    rw [ih]
    omega
theorem ps_none {l : List Int} (h : (0 : Int) ∉ l) : ps l = tot l := by
  induction l with
  | nil => rfl
  | cons y l ih =>
    have h1 : y ≠ 0 := fun e => h (by rw [e]; exact List.mem_cons_self)
    show (if y = 0 then 0 else y + ps l) = y + tot l
    rw [if_neg h1, ih fun q => h (List.mem_cons_of_mem _ q)]
theorem ps_has {l : List Int} (h : (0 : Int) ∈ l) (m : List Int) : ps (l ++ m) = ps l := by
  induction l with
  | nil => exact absurd h List.not_mem_nil
  | cons y l ih =>
    show (if y = 0 then 0 else y + ps (l ++ m)) = if y = 0 then 0 else y + ps l
    by_cases e : y = 0
    · rw [if_pos e, if_pos e]
    · rw [if_neg e, if_neg e]
      rcases List.mem_cons.1 h with q | q
      · exact absurd q.symm e
      · rw [ih q]
theorem ps_mark (l : List Int) : ps (l ++ [0]) = ps l := by
  induction l with
  | nil => rfl
  | cons y l ih =>
    show (if y = 0 then 0 else y + ps (l ++ [0])) = if y = 0 then 0 else y + ps l
    rw [ih]
theorem ps_snoc {l : List Int} (h : (0 : Int) ∉ l) (x : Int) : ps (l ++ [x]) = ps l + x := by
  by_cases e : x = 0
  · rw [e, ps_mark]; omega
  · rw [ps_none h, ps_none (fun q => by
      rcases List.mem_append.1 q with a | a
      · exact h a
      · exact e (List.mem_singleton.1 a).symm), tot_snoc]
def up {α : Type} (f : Nat → α) (i : Nat) (x : α) : Nat → α := fun k => if k = i then x else f k
def up2 {α : Type} (f : Nat → Nat → α) (a b : Nat) (x : α) : Nat → Nat → α := fun i j => if i = a ∧ j = b then x else f i j
theorem up_same {α : Type} (f : Nat → α) (i : Nat) (x : α) : up f i x i = x := if_pos rfl
theorem up_other {α : Type} (f : Nat → α) {i k : Nat} (x : α) (h : k ≠ i) : up f i x k = f k := if_neg h
theorem up2_same {α : Type} (f : Nat → Nat → α) (a b : Nat) (x : α) : up2 f a b x a b = x := if_pos ⟨rfl, rfl⟩
theorem up2_other {α : Type} (f : Nat → Nat → α) {a b i j : Nat} (x : α) (h : ¬ (i = a ∧ j = b)) : up2 f a b x i j = f i j := if_neg h
/-! members, their gold, and a picture -/
structure G where
  n : Nat
  gold : Nat → Int
  way : Nat → Nat → List Int
  begun : Bool
  has : Nat → Bool
  wrote : Nat → Int
  opn : Nat → Nat → Bool
  ow : Int
  part : Nat → Nat → Int
variable {g : G}
def newC (l : List Int) : Int := if l.length < 2 ∨ 5 < l.length then 1 else if ∀ x ∈ l, 0 ≤ x ∧ x ≤ 1000 then 0 else 1
def start (l : List Int) : G := ⟨l.length, fun i => l.getD i 0, fun _ _ => [], false, fun _ => false, fun _ => 0, fun _ _ => false, 0, fun _ _ => 0⟩
abbrev inM (g : G) (x : Int) : Prop := 0 ≤ x ∧ x < (g.n : Int)
def wayC (g : G) (a b : Int) : Int := if inM g a ∧ inM g b then (if a = b then 3 else 0) else 1
def payC (g : G) (a b x : Int) : Int := if wayC g a b = 0 then (if x < 1 ∨ 1000 < x then 1 else if g.gold a.toNat < x then 5 else if 40 ≤ (g.way a.toNat b.toNat).length then 4 else 0) else wayC g a b
def paid (g : G) (a b : Nat) (x : Int) : G := { g with gold := up g.gold a (g.gold a - x), way := up2 g.way a b (g.way a b ++ [x]) }
def pay (g : G) (a b x : Int) : G := if payC g a b x = 0 then paid g a.toNat b.toNat x else g
/-- one writes down its gold, and sends marks -/
def write (g : G) (m : Nat) : G := { g with has := up g.has m true, wrote := up g.wrote m (g.gold m), way := fun i j => if i = m ∧ j ≠ m ∧ j < g.n then g.way i j ++ [0] else g.way i j, opn := fun i j => if j = m ∧ i ≠ m ∧ i < g.n then true else g.opn i j }
def comeC (g : G) (a b : Int) : Int := if wayC g a b = 0 then (if (g.way a.toNat b.toNat).length = 0 then 5 else 0) else wayC g a b
def comeN (g : G) (a b : Int) : Int := if comeC g a b = 0 then (g.way a.toNat b.toNat).getD 0 0 else 0
def taken (g : G) (a b : Nat) : G := { g with way := up2 g.way a b (g.way a b).tail }
def gain (g : G) (a b : Nat) (x : Int) : G := { g with gold := up g.gold b (g.gold b + x), part := up2 g.part a b (if g.opn a b = true then g.part a b + x else g.part a b) }
def wrt (g : G) (b : Nat) : G := if g.has b = true then g else write g b
def closed (g : G) (a b : Nat) : G := { g with opn := up2 g.opn a b false, ow := g.ow + g.part a b }
def come (g : G) (a b : Int) : G := if comeC g a b = 0 then (if 0 < comeN g a b then gain (taken g a.toNat b.toNat) a.toNat b.toNat (comeN g a b) else closed (wrt (taken g a.toNat b.toNat) b.toNat) a.toNat b.toNat) else g
def begC (g : G) (m : Int) : Int := if inM g m then (if g.begun = true then 6 else 0) else 1
def beg (g : G) (m : Int) : G := if begC g m = 0 then write { g with begun := true } m.toNat else g
def goC (g : G) (m : Int) : Int := if inM g m then 0 else 1
def goN (g : G) (m : Int) : Int := if inM g m then g.gold m.toNat else 0
def onL (g : G) (a b : Int) : List Int := if wayC g a b = 0 then g.way a.toNat b.toNat else []
abbrev Dn (g : G) : Prop := ∀ i, i < g.n → g.has i = true ∧ ∀ k, k < g.n → g.opn i k = false
def doneB (g : G) : Bool := decide (Dn g)
def sumC (g : G) : Int := if Dn g then 0 else 6
def had (g : G) : Int := if Dn g then S g.wrote g.n else 0
def onw (g : G) : Int := if Dn g then g.ow else 0
/-! what always holds -/
/-- has its mark come -/
def cl (g : G) (i j : Nat) : Bool := g.has i && g.has j && !g.opn i j
/-- what a picture shows, or will, of a way -/
def C (g : G) (i j : Nat) : Int := g.part i j + if cl g i j = true then 0 else ps (g.way i j)
def A (g : G) (i : Nat) : Int := if g.has i = true then g.wrote i else g.gold i
/-- how a way stands -/
def Wy (g : G) (i j : Nat) : Prop :=
  (g.has i = false ∧ (0 : Int) ∉ g.way i j ∧ g.opn i j = g.has j) ∨
  (g.has i = true ∧ (∃ p q, g.way i j = p ++ 0 :: q ∧ (0 : Int) ∉ p ∧ (0 : Int) ∉ q) ∧ g.opn i j = g.has j) ∨
  (g.has i = true ∧ g.has j = true ∧ (0 : Int) ∉ g.way i j ∧ g.opn i j = false)
structure Inv (all : Int) (g : G) : Prop where
  two : 2 ≤ g.n ∧ g.n ≤ 5
  gold : ∀ i, i < g.n → 0 ≤ g.gold i
  pos : ∀ i j x, x ∈ g.way i j → 0 ≤ x ∧ x ≤ 1000
  len : ∀ i j, (g.way i j).length ≤ if g.has i = true then 41 else 40
  wy : ∀ i j, i < g.n → j < g.n → i ≠ j → Wy g i j
  diag : ∀ i, g.way i i = [] ∧ g.opn i i = false ∧ g.part i i = 0
  none : ∀ i j, g.has j = false → g.part i j = 0
  ppos : ∀ i j, 0 ≤ g.part i j
  wpos : ∀ i, i < g.n → 0 ≤ g.wrote i
  gone : g.ow = S2 (fun i j => if cl g i j = true then g.part i j else 0) g.n
  shown : S (A g) g.n + S2 (C g) g.n = all
  cons : S g.gold g.n + S2 (fun i j => tot (g.way i j)) g.n = all
  beg : g.begun = true → ∃ b, b < g.n ∧ g.has b = true
  not : g.begun = false → ∀ i, g.has i = false
/-- no gold is lost in a picture -/
theorem Inv.keeps {all : Int} (h : Inv all g) (hd : Dn g) : S g.wrote g.n + g.ow = all := by
  have e1 : S (A g) g.n = S g.wrote g.n := S_congr fun i hi => if_pos (hd i hi).1
  have e2 : S2 (C g) g.n = g.ow := by
    rw [h.gone]
    refine S2_congr fun i j hi hj => ?_
    have hc : cl g i j = true := by
      unfold cl
      rw [(hd i hi).1, (hd j hj).1, (hd i hi).2 j hj]
      rfl
    unfold C
    rw [if_pos hc, if_pos hc]
    omega
  rw [← h.shown, e1, e2]
end Go.Proofs.YtgcdbcljneoifajDoor.Pic
