/-
  The document's own Befores: a square of bools in memory, and what its loops make of it; plain facts.
-/
import Derived.Test.YtmnjihkllojapabDoorHisN
import Derived.Test.YtmnjihkllojapabDoorRowG
import Derived.Deep.WholeRow
namespace Go.Proofs.YtmnjihkllojapabDoor.His
open Go.RowKit

/-- the square in a block: at row i, column k what f says -/
def Sq (w : World) (B : Nat) (f : Nat → Nat → Bool) : Prop := w.rowIs B 57 3600 (fun x => .bool (f (x / 60) (x % 60)))
theorem Sq.cell {w : World} {B : Nat} {f : Nat → Nat → Bool} (h : Sq w B f) {i k : Nat} (hi : i < 60) (hk : k < 60) : w.cell? ⟨B, i * 60 + k, none⟩ = some (.bool (f i k)) := by
  have := World.rowIs.cell h (i := i * 60 + k) (by omega)
  rwa [show (i * 60 + k) / 60 = i by omega, show (i * 60 + k) % 60 = k by omega] at this
theorem Sq.set {w : World} {B : Nat} {f g : Nat → Nat → Bool} (h : Sq w B f) {i k : Nat} (hk : k < 60) (hg : ∀ x y, x < 60 → y < 60 → g x y = if x = i ∧ y = k then true else f x y) : Sq (w.setCell ⟨B, i * 60 + k, none⟩ (.bool true)) B g := by
  refine (World.rowIs.set h _ _).congr fun x hx => ?_
  rw [hg _ _ (by omega) (by omega)]
  by_cases e : x = i * 60 + k
  · subst e
    rw [if_pos rfl, if_pos ⟨by omega, by omega⟩]
  · rw [if_neg e, if_neg (by omega)]
theorem Sq.congr {w : World} {B : Nat} {f g : Nat → Nat → Bool} (h : Sq w B f) (hg : ∀ x y, x < 60 → y < 60 → f x y = g x y) : Sq w B g :=
  World.rowIs.congr h fun x hx => by rw [hg _ _ (by omega) (by omega)]
theorem Sq.frozen {w : World} {B : Nat} {f : Nat → Nat → Bool} (h : Sq w B f) (i : Nat) : w.frozen? ⟨B, i, none⟩ = false := World.rowIs.frozen h i
theorem Sq.lt {w : World} {B : Nat} {f : Nat → Nat → Bool} (h : Sq w B f) : B < w.heap.size := World.rowIs.lt h
theorem Sq.later {w w' : World} {B : Nat} {f : Nat → Nat → Bool} (h : Sq w B f) (hb : Below w.heap.size w w') : Sq w' B f := rowIs_later h hb

/-- behind the first loops' round (i, k): all of the rows ahead, and of row i the columns ahead of k -/
def sq1 (h : List Ev) (n i k : Nat) (x y : Nat) : Bool := edge h x y && decide (y < n) && (decide (x < i) || (decide (x = i) && decide (y < k)))
/-- behind the second loops' round (m, i, k) -/
def sq2 (h : List Ev) (n m i k : Nat) (x y : Nat) : Bool := wa h n m x y || ((decide (x < i) || (decide (x = i) && decide (y < k))) && (wa h n m x m && wa h n m m y))

theorem sq1_start (h : List Ev) (n : Nat) (x y : Nat) : sq1 h n 0 0 x y = false := by simp [sq1]
theorem sq1_row (h : List Ev) (n i : Nat) (x y : Nat) : sq1 h n i (i + 1) x y = sq1 h n i 0 x y := by
  unfold sq1
  by_cases e : x = i
  · subst e
    by_cases hy : y < x + 1
    · have : edge h x y = false := by
        unfold edge
        rw [decide_eq_false (by omega)]
        rfl
      simp [this]
    · simp [hy]
  · simp [e]
theorem sq1_next (h : List Ev) (n i : Nat) (x y : Nat) : sq1 h n i n x y = sq1 h n (i + 1) 0 x y := by
  rw [Bool.eq_iff_iff]
  simp only [sq1, Bool.and_eq_true, Bool.or_eq_true, decide_eq_true_eq]
  constructor <;> (rintro ⟨⟨q, r⟩, t⟩; exact ⟨⟨q, r⟩, by omega⟩)
theorem sq1_end (h : List Ev) (n : Nat) (x y : Nat) : sq1 h n n 0 x y = wa h n 0 x y := by
  show _ = (edge h x y && decide (y < n))
  rw [Bool.eq_iff_iff]
  simp only [sq1, Bool.and_eq_true, Bool.or_eq_true, decide_eq_true_eq]
  constructor
  · rintro ⟨q, _⟩
    exact q
  · intro q
    refine ⟨q, .inl ?_⟩
    have := q.1
    simp only [edge, Bool.and_eq_true, decide_eq_true_eq] at this
    omega
theorem sq1_hit {h : List Ev} {n i k : Nat} (hk : k < n) (he : edge h i k = true) (x y : Nat) : sq1 h n i (k + 1) x y = if x = i ∧ y = k then true else sq1 h n i k x y := by
  by_cases e : x = i ∧ y = k
  · obtain ⟨rfl, rfl⟩ := e
    simp [sq1, he, hk]
  · rw [if_neg e, Bool.eq_iff_iff]
    simp only [sq1, Bool.and_eq_true, Bool.or_eq_true, decide_eq_true_eq]
    constructor <;> (rintro ⟨⟨q, r⟩, t⟩; exact ⟨⟨q, r⟩, by omega⟩)
theorem sq1_miss {h : List Ev} {n i k : Nat} (he : edge h i k = false) (x y : Nat) : sq1 h n i (k + 1) x y = sq1 h n i k x y := by
  by_cases e : x = i ∧ y = k
  · obtain ⟨rfl, rfl⟩ := e
    simp [sq1, he]
  · rw [Bool.eq_iff_iff]
    simp only [sq1, Bool.and_eq_true, Bool.or_eq_true, decide_eq_true_eq]
    constructor <;> (rintro ⟨⟨q, r⟩, t⟩; exact ⟨⟨q, r⟩, by omega⟩)

theorem sq2_start (h : List Ev) (n m : Nat) (x y : Nat) : sq2 h n m 0 0 x y = wa h n m x y := by simp [sq2]
theorem sq2_next (h : List Ev) (n m i : Nat) (x y : Nat) : sq2 h n m i n x y = sq2 h n m (i + 1) 0 x y := by
  rw [Bool.eq_iff_iff]
  simp only [sq2, Bool.and_eq_true, Bool.or_eq_true, decide_eq_true_eq]
  constructor
  · rintro (q | ⟨q, r⟩)
    · exact .inl q
    · exact .inr ⟨.inl (by omega), r⟩
  · rintro (q | ⟨q, r⟩)
    · exact .inl q
    · have := (wa_lt h n m m y r.2).2
      exact .inr ⟨by omega, r⟩
theorem sq2_skip {h : List Ev} {n m i k : Nat} (hb : wa h n m i m = false) (x y : Nat) : sq2 h n m i k x y = sq2 h n m (i + 1) 0 x y := by
  rw [Bool.eq_iff_iff]
  simp only [sq2, Bool.and_eq_true, Bool.or_eq_true, decide_eq_true_eq]
  constructor
  · rintro (q | ⟨q, r⟩)
    · exact .inl q
    · exact .inr ⟨.inl (by omega), r⟩
  · rintro (q | ⟨q, r⟩)
    · exact .inl q
    · by_cases e : x = i
      · subst e
        rw [hb] at r
        exact absurd r.1 (by decide)
      · exact .inr ⟨.inl (by omega), r⟩
theorem sq2_row (h : List Ev) (n m i : Nat) (x y : Nat) : sq2 h n m i (m + 1) x y = sq2 h n m i 0 x y := by
  rw [Bool.eq_iff_iff]
  simp only [sq2, Bool.and_eq_true, Bool.or_eq_true, decide_eq_true_eq]
  constructor
  · rintro (q | ⟨q, r⟩)
    · exact .inl q
    · have := (wa_lt h n m m y r.2).1
      exact .inr ⟨by omega, r⟩
  · rintro (q | ⟨q, r⟩)
    · exact .inl q
    · exact .inr ⟨by omega, r⟩
theorem sq2_hit {h : List Ev} {n m i k : Nat} (h1 : wa h n m i m = true) (h2 : wa h n m m k = true) (x y : Nat) : sq2 h n m i (k + 1) x y = if x = i ∧ y = k then true else sq2 h n m i k x y := by
  by_cases e : x = i ∧ y = k
  · obtain ⟨rfl, rfl⟩ := e
    simp [sq2, h1, h2]
  · rw [if_neg e, Bool.eq_iff_iff]
    simp only [sq2, Bool.and_eq_true, Bool.or_eq_true, decide_eq_true_eq]
    constructor
    · rintro (q | ⟨q, r⟩)
      · exact .inl q
      · exact .inr ⟨by omega, r⟩
    · rintro (q | ⟨q, r⟩)
      · exact .inl q
      · exact .inr ⟨by omega, r⟩
theorem sq2_miss {h : List Ev} {n m i k : Nat} (h2 : wa h n m m k = false) (x y : Nat) : sq2 h n m i (k + 1) x y = sq2 h n m i k x y := by
  rw [Bool.eq_iff_iff]
  simp only [sq2, Bool.and_eq_true, Bool.or_eq_true, decide_eq_true_eq]
  constructor
  · rintro (q | ⟨q, r⟩)
    · exact .inl q
    · by_cases e : y = k
      · subst e
        rw [h2] at r
        exact absurd r.2 (by decide)
      · exact .inr ⟨by omega, r⟩
  · rintro (q | ⟨q, r⟩)
    · exact .inl q
    · exact .inr ⟨by omega, r⟩
/-- what the loops read of the square while they write it -/
theorem sq2_col (h : List Ev) (n m i k x : Nat) : sq2 h n m i k x m = wa h n m x m := by
  have : wa h n m m m = false := by
    cases e : wa h n m m m with
    | false => rfl
    | true => have := wa_lt h n m m m e; omega
  simp [sq2, this]
theorem sq2_rowm {h : List Ev} {n m i k y : Nat} : sq2 h n m i k m y = wa h n m m y := by
  have : wa h n m m m = false := by
    cases e : wa h n m m m with
    | false => rfl
    | true => have := wa_lt h n m m m e; omega
  simp [sq2, this]
theorem sq2_end (h : List Ev) (n m : Nat) (x y : Nat) : sq2 h n m m 0 x y = wa h n (m + 1) x y := by
  show _ = (wa h n m x y || (wa h n m x m && wa h n m m y))
  rw [Bool.eq_iff_iff]
  simp only [sq2, Bool.and_eq_true, Bool.or_eq_true, decide_eq_true_eq]
  constructor
  · rintro (q | ⟨q, r⟩)
    · exact .inl q
    · exact .inr r
  · rintro (q | r)
    · exact .inl q
    · have := (wa_lt h n m x m r.1).1
      exact .inr ⟨by omega, r⟩
theorem sqInfo : (Tryd.prog.info? 57).map (fun i => (i.zero, i.size)) = some (some (.agg (Array.replicate 3600 (.bool false))), 3600) := by kernel_rfl
theorem sqSize : (Tryd.prog.info? 57).map (·.size) = some 3600 := (zero_of_info sqInfo).2
theorem loadAt_row (w : World) (g : Nat) (fr : Nat × Nat) (c : Array Value) (hg : w.heap[g]? = some (.cells c 57 fr)) (hi : (Tryd.prog.info? 57).map (·.size) = some c.size) :
    (Instr.loadAt 57 (.pointer (some ⟨g, 0, none⟩))).run Tryd.prog w = .ok (.agg c) w := by
  simp only [Instr.loadAt, Instr.sureAddr, Sem.run_bind, Sem.run_pure, Result.andThen]
  exact run_loadVar_row w g _ _ c fr (.array 60 56) hg (by kernel_rfl) rfl hi
theorem storeAt_row (w : World) (g : Nat) (t : TypeId) (old c : Array Value) (hg : w.heap[g]? = some (.cells old t (0, 0))) (hi : (Tryd.prog.info? 57).map (·.size) = some c.size) (ho : old.size = c.size) (h1 : c.all (·.oneCell') = true) :
    (Instr.storeAt 57 (.pointer (some ⟨g, 0, none⟩)) (.agg c)).run Tryd.prog w = .ok () (w.setRow g c) := by
  simp only [Instr.storeAt, Instr.sureAddr, Sem.run_bind, Sem.run_pure, Result.andThen]
  exact run_storeVar_row w g t _ old c hg hi ho h1
theorem setRow_same {w : World} {g : Nat} {t : TypeId} {old : Array Value} (hg : w.heap[g]? = some (.cells old t (0, 0))) (c : Array Value) : (w.setRow g c).heap[g]? = some (.cells c t (0, 0)) := by
  simp [World.setRow, Array.getElem?_modify, hg]
theorem below_setRow {B : Nat} {a w : World} (h : Below B a w) {g : Nat} (hg : B ≤ g) (c : Array Value) : Below B a (w.setRow g c) :=
  h.trans ⟨rfl, rfl, rfl, by simp [World.setRow], fun k hk => by
    simp only [World.setRow, Array.getElem?_modify]
    rw [if_neg (by omega)]⟩
theorem wp_load_row {P : Program} {o : Oper} {a : Act} {K : Act → World → Prop} {Q : Exit → Act → World → Prop} {w : World} {v : Value} {t : TypeId} {p : Operand} (ho : o.op = .load t p) (h : (Instr.loadAt t (a.eval p)).run P w = .ok v w) (hk : K (a.put o.dst v) w) : o.wp P a w K Q := by
  unfold Oper.wp execOp
  simp only [ho, Sem.run_bind, h, Result.andThen_ok, Sem.run_pure]
  exact hk
theorem wp_store_row {P : Program} {o : Oper} {a : Act} {K : Act → World → Prop} {Q : Exit → Act → World → Prop} {w w' : World} {t : TypeId} {p x : Operand} (ho : o.op = .store t p x) (h : (Instr.storeAt t (a.eval p) (a.eval x)).run P w = .ok () w') (hk : K (a.put o.dst undef) w') : o.wp P a w K Q := by
  unfold Oper.wp execOp
  simp only [ho, Sem.run_bind, h, Result.andThen_ok, Sem.run_pure]
  exact hk
theorem wpList_load_row {P : Program} {ops : Array Oper} {rest : List Oper} {o : Oper} {a : Act} {Q : Exit → Act → World → Prop} {w : World} {v : Value} (hgd : o.guard = none) (t : TypeId) (p : Operand) (ho : o.op = .load t p) (h : (Instr.loadAt t (a.eval p)).run P w = .ok v w) (hk : wpList P ops Q rest (a.put o.dst v) w) : wpList P ops Q (o :: rest) a w :=
  wpList_plain hgd fun _ hK => wp_load_row ho h (hK _ _ hk)
theorem wpList_store_row {P : Program} {ops : Array Oper} {rest : List Oper} {o : Oper} {a : Act} {Q : Exit → Act → World → Prop} {w w' : World} (hgd : o.guard = none) (t : TypeId) (p x : Operand) (ho : o.op = .store t p x) (h : (Instr.storeAt t (a.eval p) (a.eval x)).run P w = .ok () w') (hk : wpList P ops Q rest (a.put o.dst undef) w') : wpList P ops Q (o :: rest) a w :=
  wpList_plain hgd fun _ hK => wp_store_row ho h (hK _ _ hk)
theorem results_cell {fn : Func} {p : Tmp} {ty : TypeId} (h : fn.results = #[.cell p ty]) (tmps : Array Value) (P : Program) (w : World) :
    (results fn tmps).run P w = ((asAddr (tmps.getD p undef)).run P w).andThen fun a w₁ => (loadVar ty a).run P w₁ := by
  simp only [results, h]
  simp [Sem.run_bind]
/-- the square by value -/
def SqV (c : Array Value) (f : Nat → Nat → Bool) : Prop := c.size = 3600 ∧ ∀ x, x < 3600 → c[x]? = some (.bool (f (x / 60) (x % 60)))
theorem sq_one {c : Array Value} {f : Nat → Nat → Bool} (h : SqV c f) : c.all (·.oneCell') = true := by
  rw [Array.all_eq_true]
  intro i hi
  have := h.2 i (by rw [← h.1]; exact hi)
  rw [Array.getElem?_eq_getElem hi] at this
  injection this with this
  rw [this]
  rfl
end Go.Proofs.YtmnjihkllojapabDoor.His
