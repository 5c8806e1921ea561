/-
  What the program keeps of a group that flushes, in memory: its view, the words that were said as a set, those of this view as a row, what each heard in each view as rows of a map.
-/
import Derived.Test.YtgdmbnfdcbekaaiDoorFluI
import Derived.Test.YtgdmbnfdcbekaaiDoorMapV
import Derived.Test.YtgdmbnfdcbekaaiDoorMapS
namespace Go.Proofs.YtgdmbnfdcbekaaiDoor.Flu
open Go.RowKit Go.Maps
open Go.Proofs.YtgdmbnfdcbekaaiDoor.Fif (own_lt own_block own_form own_mono own_vw ret_bool info_int new_int int_one)
open Go.Proofs.YtgdmbnfdcbekaaiDoor.Vec (Vw)
open Go.Proofs.YtgdmbnfdcbekaaiDoor.Sep (KpL NewL)
open Go.Proofs.YtgdmbnfdcbekaaiDoor.Ldr (errF errF_ok errF_no Sl)
open Go.Proofs.YtgdmbnfdcbekaaiDoor.MapV (turned_below g_of_turned)
set_option linter.unusedVariables false

/-! how many -/
def cnK (p : Nat → Bool) : Nat → Nat
  | 0 => 0
  | n + 1 => cnK p n + (p n).toNat
theorem cnK_le (p : Nat → Bool) (n : Nat) : cnK p n ≤ n := by
  induction n with
  | zero => exact Nat.le_refl _
  | succ n ih =>
    have : (p n).toNat ≤ 1 := by cases p n <;> decide
    show cnK p n + (p n).toNat ≤ _
    omega
theorem cnK_congr {p q : Nat → Bool} {n : Nat} (h : ∀ i, i < n → q i = p i) : cnK q n = cnK p n := by
  induction n with
  | zero => rfl
  | succ n ih =>
    show cnK q n + (q n).toNat = cnK p n + (p n).toNat
    rw [ih fun i hi => h i (by omega), h n (by omega)]
theorem cnK_one {p q : Nat → Bool} {n j : Nat} (hj : j < n) (h : ∀ i, i < n → i ≠ j → q i = p i) (h0 : p j = false) (h1 : q j = true) : cnK q n = cnK p n + 1 := by
  induction n with
  | zero => omega
  | succ n ih =>
    show cnK q n + (q n).toNat = cnK p n + (p n).toNat + 1
    by_cases e : j = n
    · subst e
      rw [cnK_congr fun i hi => h i (by omega) (by omega), h0, h1]
      rfl
    · rw [ih (by omega) fun i hi hne => h i (by omega) hne, h n (by omega) (fun q => e q.symm)]
      omega
theorem cnK_more {p : Nat → Bool} {n m : Nat} (h : ∀ i, n ≤ i → i < n + m → p i = false) : cnK p (n + m) = cnK p n := by
  induction m with
  | zero => rfl
  | succ m ih =>
    show cnK p (n + m) + (p (n + m)).toNat = _
    rw [ih fun i h1 h2 => h i h1 (by omega), h (n + m) (by omega) (by omega)]
    rfl
/-! what was said -/
def SDw (was : Int → Bool) : Int → Option Value := fun i => if (1 ≤ i ∧ i ≤ 30) ∧ was i = true then some (.agg #[]) else none
def csw (was : Int → Bool) : Nat := cnK (fun i => was ((i : Int) + 1)) 30
theorem csw_le (was : Int → Bool) : csw was ≤ 30 := cnK_le _ _
def putW (was : Int → Bool) (word : Int) : Int → Bool := fun x => if x = word then true else was x
variable {was : Int → Bool}
theorem SDw_put {word : Int} (hw : 1 ≤ word ∧ word ≤ 30) : ∀ i, SDw (putW was word) i = MapV.putT (SDw was) word (.agg #[]) i := by
  intro i
  unfold SDw MapV.putT putW
  by_cases e : i = word
  · subst e
    simp [hw]
  · rw [if_neg e, if_neg e]
theorem SDw_some {word : Int} (hw : 1 ≤ word ∧ word ≤ 30) : (SDw was word).isSome = was word := by
  unfold SDw
  cases q : was word
  · rw [if_neg (by simp)]; rfl
  · rw [if_pos ⟨hw, rfl⟩]; rfl
theorem SDw_getD (word : Int) : (SDw was word).getD (.agg #[]) = .agg #[] := by
  unfold SDw
  split <;> rfl
theorem csw_put {word : Int} (hw : 1 ≤ word ∧ word ≤ 30) (hs : was word = false) : csw (putW was word) = csw was + 1 := by
  unfold csw
  refine cnK_one (j := word.toNat - 1) (by omega) (fun i hi hne => ?_) ?_ ?_
  · show (if (i : Int) + 1 = word then true else _) = _
    rw [if_neg (by omega)]
  · show was (((word.toNat - 1 : Nat) : Int) + 1) = false
    rw [show (((word.toNat - 1 : Nat) : Int) + 1) = word by omega]
    exact hs
  · show (if (((word.toNat - 1 : Nat) : Int) + 1) = word then true else _) = true
    rw [if_pos (by omega)]
/-! what was heard -/
variable {f : F} {rv : Nat → Value}
def THg (n : Nat) (hd : Nat → Nat → List Int) (rv : Nat → Value) (a b : Int) : Option Value := if ((0 ≤ a ∧ a ≤ 4) ∧ 0 ≤ b ∧ b ≤ (n : Int)) ∧ hd b.toNat a.toNat ≠ [] then some (rv (ix b.toNat a.toNat)) else none
def TH (f : F) (rv : Nat → Value) : Int → Int → Option Value := THg (num f) f.hd rv
def lsP (f : F) (i : Nat) : List Int := if i = 0 then [] else lsF f i
theorem lsP_ix (f : F) {k m : Nat} (hm : m < 5) : lsP f (ix k m) = f.hd k m := by
  unfold lsP
  rw [if_neg (by unfold ix; omega), lsF_ix f hm]
theorem lsP_one (f : F) : lsP f 1 = f.said := rfl
def hasB (f : F) (i : Nat) : Bool := decide (2 ≤ i) && !(lsP f i).isEmpty
def cHf (f : F) : Nat := cnK (hasB f) (cntF f)
theorem hasB_ix (f : F) {k m : Nat} (hm : m < 5) : hasB f (ix k m) = !(f.hd k m).isEmpty := by
  unfold hasB
  rw [lsP_ix f hm, decide_eq_true (ix_two k m)]
  rfl
/-- what is found at a seat -/
theorem TH_at (hnil : ∀ i, 2 ≤ i → lsP f i = [] → rv i = nilV) {k m : Nat} (hk : k ≤ num f) (hm : m < 5) : (TH f rv (m : Int) (k : Int)).getD nilV = rv (ix k m) := by
  unfold TH THg
  rw [Int.toNat_natCast, Int.toNat_natCast]
  by_cases e : f.hd k m = []
  · rw [if_neg (fun q => q.2 e)]
    exact (hnil _ (ix_two k m) (by rw [lsP_ix f hm]; exact e)).symm
  · rw [if_pos ⟨by omega, e⟩]
    rfl
theorem TH_is {k m : Nat} (hk : k ≤ num f) (hm : m < 5) : (TH f rv (m : Int) (k : Int)).isSome = !(f.hd k m).isEmpty := by
  unfold TH THg
  rw [Int.toNat_natCast, Int.toNat_natCast]
  by_cases e : f.hd k m = []
  · rw [if_neg (fun q => q.2 e), e]
    rfl
  · rw [if_pos ⟨by omega, e⟩]
    cases h : f.hd k m with
    | nil => exact absurd h e
    | cons a l => rfl
theorem TH_got {m : Nat} (hm : m < 5) (x : Int) (v : Value) : ∀ a b, TH (got f m x) (upV rv (ix (num f) m) v) a b = MapS.putT (TH f rv) (m : Int) (num f : Int) v a b := by
  intro a b
  unfold MapS.putT
  show THg (num f) (up2 f.hd (num f) m (cur f m ++ [x])) (upV rv (ix (num f) m) v) a b = if a = (m : Int) ∧ b = (num f : Int) then some v else THg (num f) f.hd rv a b
  unfold THg
  by_cases e : a = (m : Int) ∧ b = (num f : Int)
  · rw [if_pos e, e.1, e.2, Int.toNat_natCast, Int.toNat_natCast, up2_same, upV_same, if_pos ⟨by omega, by simp⟩]
  · rw [if_neg e]
    by_cases q : (0 ≤ a ∧ a ≤ 4) ∧ 0 ≤ b ∧ b ≤ (num f : Int)
    · rw [up2_other _ _ (by omega), upV_other _ _ (fun z => e (by have := (ix_inj (by omega) hm).1 z; omega))]
    · rw [if_neg (fun z => q z.1), if_neg (fun z => q z.1)]
theorem lsP_got {m : Nat} (hm : m < 5) (x : Int) : ∀ i, lsP (got f m x) i = upV (lsP f) (ix (num f) m) (cur f m ++ [x]) i := by
  intro i
  by_cases e : i = ix (num f) m
  · rw [e, upV_same, lsP_ix _ hm]
    exact up2_same _ _ _ _
  · rw [upV_other _ _ e]
    unfold lsP
    by_cases h0 : i = 0
    · rw [if_pos h0, if_pos h0]
    · rw [if_neg h0, if_neg h0]
      unfold lsF
      rw [if_neg h0, if_neg h0]
      by_cases h1 : i = 1
      · rw [if_pos h1, if_pos h1]; rfl
      · rw [if_neg h1, if_neg h1]
        exact up2_other _ _ (fun z => e (by unfold ix; omega))
theorem cHf_got {m : Nat} (hm : m < 5) (x : Int) : cHf (got f m x) = if (TH f rv (m : Int) (num f : Int)).isSome = true then cHf f else cHf f + 1 := by
  rw [TH_is (Nat.le_refl _) hm]
  have other : ∀ i, i ≠ ix (num f) m → hasB (got f m x) i = hasB f i := by
    intro i hne
    unfold hasB
    rw [lsP_got hm, upV_other _ _ hne]
  have new : hasB (got f m x) (ix (num f) m) = true := by
    rw [hasB_ix _ hm]
    show (!(up2 f.hd (num f) m (cur f m ++ [x]) (num f) m).isEmpty) = true
    rw [up2_same]
    simp
  have ec : cntF (got f m x) = cntF f := rfl
  unfold cHf
  rw [ec]
  cases h : (f.hd (num f) m).isEmpty with
  | true =>
    rw [if_neg (by decide)]
    exact cnK_one (ix_lt (Nat.le_refl _) hm) (fun i _ hne => other i hne) (by rw [hasB_ix _ hm, h]; rfl) new
  | false =>
    rw [if_pos (by decide)]
    refine cnK_congr fun i _ => ?_
    by_cases e : i = ix (num f) m
    · rw [e, new, hasB_ix _ hm, h]; rfl
    · exact other i e
/-! in memory -/
def gv (n : Int) (vH : Value) (mS : Nat) (vW : Value) (mH : Nat) (j : Nat) : Value := if j = 0 then .int .i64 n else if j = 1 then vH else if j = 2 then .map (some mS) else if j = 3 then vW else .map (some mH)
structure GF (w : World) (base P mS mH bH oH cH : Nat) (rv : Nat → Value) (f : F) : Prop where
  row : w.rowIs P 56 5 (gv f.v.n (.slice (some ⟨bH, oH, none⟩) f.v.has.length cH) mS (rv 1) mH)
  said : MapV.MM w mS (SDw f.was) (csw f.was)
  heard : MapS.MM w mH (TH f rv) (cHf f)
  ints : RI w base (cntF f) (lsP f) rv
  has : Sl w (.slice (some ⟨bH, oH, none⟩) f.v.has.length cH) f.v.has
  nil : ∀ i, 2 ≤ i → lsP f i = [] → rv i = nilV
  low : base ≤ P ∧ base ≤ mS ∧ base ≤ mH ∧ base ≤ bH
  ltH : bH < w.heap.size
  ne : mS ≠ mH ∧ bH ≠ P ∧ bH ≠ mS ∧ bH ≠ mH
  nr : ∀ i, i < cntF f → (rv i).ownBlock ≠ some bH
  sm : ∀ k m, (f.hd k m).length ≤ 30
def fpG (P mS mH bH N : Nat) (rv : Nat → Value) : List Nat := P :: mS :: mH :: bH :: (List.range N).filterMap fun i => (rv i).ownBlock
theorem fpG_iff {P mS mH bH N b : Nat} : b ∈ fpG P mS mH bH N rv ↔ b = P ∨ b = mS ∨ b = mH ∨ b = bH ∨ ∃ i, i < N ∧ (rv i).ownBlock = some b := by
  simp [fpG]
/-- what a step leaves alone -/
structure St (w w' : World) (base : Nat) (fp fp' : List Nat) : Prop where
  bel : Below base w w'
  kp : KpL w w' fp
  new : NewL w fp fp'
variable {w w' w1 w2 w5 : World} {base P mS mH bH oH cH : Nat} {fa fb fc : List Nat}
theorem St.refl (w : World) (base : Nat) (fp : List Nat) : St w w base fp fp := ⟨Below.refl _ _, ⟨Nat.le_refl _, fun _ _ _ => rfl⟩, fun _ h => .inl h⟩
theorem St.trans (h : St w w1 base fa fb) (h' : St w1 w2 base fb fc) : St w w2 base fa fc := by
  refine ⟨h.bel.trans h'.bel, ⟨Nat.le_trans h.kp.1 h'.kp.1, fun b hb hn => ?_⟩, fun b hb => ?_⟩
  · rw [h'.kp.2 b (Nat.lt_of_lt_of_le hb h.kp.1) (fun q => ?_), h.kp.2 b hb hn]
    rcases h.new b q with a | a
    · exact hn a
    · omega
  · rcases h'.new b hb with a | a
    · exact h.new b a
    · exact .inr (Nat.le_trans h.kp.1 a)
theorem St.later (hbw : base ≤ w.heap.size) (hb : Below w.heap.size w w') (fp : List Nat) : St w w' base fp fp := ⟨hb.mono hbw, KpL.below hb _, fun _ h => .inl h⟩
theorem GF.c0 (h : GF w base P mS mH bH oH cH rv f) : w.cell? ⟨P, 0, none⟩ = some (.int .i64 f.v.n) := World.rowIs.cell h.row (i := 0) (by omega)
theorem GF.c1 (h : GF w base P mS mH bH oH cH rv f) : w.cell? ⟨P, 1, none⟩ = some (.slice (some ⟨bH, oH, none⟩) f.v.has.length cH) := World.rowIs.cell h.row (i := 1) (by omega)
theorem GF.c2 (h : GF w base P mS mH bH oH cH rv f) : w.cell? ⟨P, 2, none⟩ = some (.map (some mS)) := World.rowIs.cell h.row (i := 2) (by omega)
theorem GF.c3 (h : GF w base P mS mH bH oH cH rv f) : w.cell? ⟨P, 3, none⟩ = some (rv 1) := World.rowIs.cell h.row (i := 3) (by omega)
theorem GF.c4 (h : GF w base P mS mH bH oH cH rv f) : w.cell? ⟨P, 4, none⟩ = some (.map (some mH)) := World.rowIs.cell h.row (i := 4) (by omega)
theorem GF.fr (h : GF w base P mS mH bH oH cH rv f) (j : Nat) : w.frozen? ⟨P, j, none⟩ = false := World.rowIs.frozen h.row j
theorem GF.lt (h : GF w base P mS mH bH oH cH rv f) : P < w.heap.size := World.rowIs.lt h.row
theorem GF.fp (h : GF w base P mS mH bH oH cH rv f) : ∀ b ∈ fpG P mS mH bH (cntF f) rv, base ≤ b ∧ b < w.heap.size := by
  intro b hb
  rcases fpG_iff.1 hb with rfl | rfl | rfl | rfl | ⟨i, hi, q⟩
  · exact ⟨h.low.1, h.lt⟩
  · exact ⟨h.low.2.1, h.said.lt⟩
  · exact ⟨h.low.2.2.1, h.heard.lt⟩
  · exact ⟨h.low.2.2.2, h.ltH⟩
  · exact own_lt (h.ints.own i hi) b q
theorem sl_blockK {w w' : World} {b o n c : Nat} {l : List Int} (h : Sl w (.slice (some ⟨b, o, none⟩) n c) l) (hs : b < w'.heap.size) (hk : w'.heap[b]? = w.heap[b]?) : Sl w' (.slice (some ⟨b, o, none⟩) n c) l := by
  obtain ⟨a, cap, e, h1, h2, h3⟩ := h
  injection e with e1 e2 e3
  subst e1 e2 e3
  refine ⟨_, c, rfl, h1, h2, h3.1, fun z => ?_⟩
  obtain ⟨b', off, e, hlt, hc⟩ := h3.2 z
  cases e
  exact ⟨b, o, rfl, hs, fun k q => (World.cell?_of_block (a := ⟨b, o + k, none⟩) hk).trans (hc k q)⟩
theorem GF.of_blocks (h : GF w base P mS mH bH oH cH rv f) (hk : ∀ b ∈ fpG P mS mH bH (cntF f) rv, w'.heap[b]? = w.heap[b]?) : GF w' base P mS mH bH oH cH rv f := by
  have kH := hk bH (fpG_iff.2 (.inr (.inr (.inr (.inl rfl)))))
  have lH : bH < w'.heap.size := by
    rw [Array.getElem?_eq_getElem h.ltH] at kH
    exact (Array.getElem?_eq_some_iff.1 kH).1
  exact
  { row := World.rowIs.of_block h.row (hk P (fpG_iff.2 (.inl rfl)))
    said := h.said.of_block (hk mS (fpG_iff.2 (.inr (.inl rfl))))
    heard := h.heard.of_block (hk mH (fpG_iff.2 (.inr (.inr (.inl rfl)))))
    ints := h.ints.of_blocks fun i b hi hb => hk b (fpG_iff.2 (.inr (.inr (.inr (.inr ⟨i, hi, hb⟩)))))
    has := sl_blockK h.has lH kH
    nil := h.nil, low := h.low, ltH := lH, ne := h.ne, nr := h.nr, sm := h.sm }
theorem GF.later (h : GF w base P mS mH bH oH cH rv f) (hb : Below w.heap.size w w') : GF w' base P mS mH bH oH cH rv f := h.of_blocks fun b q => hb.block b (h.fp b q).2
theorem GF.heap (h : GF w base P mS mH bH oH cH rv f) (e : w'.heap = w.heap) : GF w' base P mS mH bH oH cH rv f := h.of_blocks fun b _ => by rw [e]
theorem GF.lower (h : GF w base P mS mH bH oH cH rv f) {base' : Nat} (hb : base' ≤ base) : GF w base' P mS mH bH oH cH rv f :=
  { row := h.row, said := h.said, heard := h.heard, ints := ⟨fun i hi => own_mono (h.ints.own i hi) hb, h.ints.sep⟩, has := h.has, nil := h.nil
    low := ⟨Nat.le_trans hb h.low.1, Nat.le_trans hb h.low.2.1, Nat.le_trans hb h.low.2.2.1, Nat.le_trans hb h.low.2.2.2⟩, ltH := h.ltH, ne := h.ne, nr := h.nr, sm := h.sm }
/-- a row of it is none of its other blocks -/
theorem GF.neI (h : GF w base P mS mH bH oH cH rv f) {i b : Nat} (hi : i < cntF f) (hb : (rv i).ownBlock = some b) : b ≠ P ∧ b ≠ mS ∧ b ≠ mH ∧ b ≠ bH := ⟨tyB_ne (tyB_own (h.ints.own i hi) hb) (tyB_row h.row) (by decide), fun e => h.said.own (h.ints.own i hi) (by rw [← e]; exact hb), fun e => h.heard.own (h.ints.own i hi) (by rw [← e]; exact hb), fun e => h.nr i hi (by rw [← e]; exact hb)⟩
/-- a word was said -/
theorem GF.putS (h : GF w base P mS mH bH oH cH rv f) {was : Int → Bool} (hm : MapV.MM w' mS (SDw was) (csw was)) (ht : w.mapTurned w' mS) : GF w' base P mS mH bH oH cH rv { f with was := was } ∧ St w w' base (fpG P mS mH bH (cntF f) rv) (fpG P mS mH bH (cntF f) rv) := by
  have hk : ∀ b, b < w.heap.size → b ≠ mS → w'.heap[b]? = w.heap[b]? := fun b hb hne => g_of_turned ht hb hne
  have kH := hk bH h.ltH h.ne.2.2.1
  refine ⟨
  { row := World.rowIs.of_block h.row (hk P h.lt (h.said.row h.row))
    said := hm
    heard := h.heard.of_block (hk mH h.heard.lt h.ne.1.symm)
    ints := h.ints.of_blocks fun i b hi hb => hk b (own_lt (h.ints.own i hi) b hb).2 (h.neI hi hb).2.1
    has := sl_blockK h.has (Nat.lt_of_lt_of_le h.ltH ht.grown.size) kH
    nil := h.nil, low := h.low, ltH := Nat.lt_of_lt_of_le h.ltH ht.grown.size, ne := h.ne, nr := h.nr, sm := h.sm }, ⟨turned_below ht h.low.2.1, ⟨ht.grown.size, fun b hb hn => hk b hb fun e => hn (fpG_iff.2 (.inr (.inl e)))⟩, fun b hb => .inl hb⟩⟩
/-- it is among those of this view -/
theorem GF.appW (h : GF w base P mS mH bH oH cH rv f) {k g gc : Nat} {x : Int} (hn : k = f.said.length) (hg : w.grownBy w5 (rv 1).ownBlock) (ho : w5.ownsRow base 3 1 (.slice (some ⟨g, 0, none⟩) (k + 1) gc) (k + 1) (f.said.map (Value.int .i64) ++ [.int .i64 x])) (hat : (rv 1).ownBlock = some g ∨ w.heap.size ≤ g) :
    GF (w5.setCell ⟨P, 3, none⟩ (.slice (some ⟨g, 0, none⟩) (k + 1) gc)) base P mS mH bH oH cH (upV rv 1 (.slice (some ⟨g, 0, none⟩) (k + 1) gc)) { f with said := f.said ++ [x] } ∧ St w (w5.setCell ⟨P, 3, none⟩ (.slice (some ⟨g, 0, none⟩) (k + 1) gc)) base (fpG P mS mH bH (cntF f) rv) (fpG P mS mH bH (cntF f) (upV rv 1 (.slice (some ⟨g, 0, none⟩) (k + 1) gc))) := by
  have h1 : 1 < cntF f := by unfold cntF; omega
  have hbw : base ≤ w.heap.size := Nat.le_trans h.low.1 (Nat.le_of_lt h.lt)
  have hk5 : ∀ b, b < w.heap.size → (∀ c, (rv 1).ownBlock = some c → b ≠ c) → w5.heap[b]? = w.heap[b]? := fun b hb hne => hg.block b hb fun e => hne b e.symm rfl
  have hkP : ∀ b, b ≠ P → (w5.setCell ⟨P, 3, none⟩ (.slice (some ⟨g, 0, none⟩) (k + 1) gc)).heap[b]? = w5.heap[b]? := fun b q => Deep.blk_setCell_other _ _ _ _ q
  have hgne : ∀ b, b < w.heap.size → (∀ c, (rv 1).ownBlock = some c → b ≠ c) → g ≠ b := by
    intro b hb hne e
    rcases hat with q | q
    · exact hne g q e.symm
    · omega
  have r5 : w5.rowIs P 56 5 (gv f.v.n (.slice (some ⟨bH, oH, none⟩) f.v.has.length cH) mS (rv 1) mH) := World.rowIs.of_block h.row (hk5 P h.lt fun c hc => (h.neI h1 hc).1.symm)
  have i5 := h.ints.app (n := k) (gg := g) (gc := gc) (x := x) h1 hn hg ho hat
  have kall : ∀ b, b < w.heap.size → b ≠ P → (∀ c, (rv 1).ownBlock = some c → b ≠ c) → (w5.setCell ⟨P, 3, none⟩ (.slice (some ⟨g, 0, none⟩) (k + 1) gc)).heap[b]? = w.heap[b]? := fun b hb hP hne => (hkP b hP).trans (hk5 b hb hne)
  have hsz : w.heap.size ≤ (w5.setCell ⟨P, 3, none⟩ (.slice (some ⟨g, 0, none⟩) (k + 1) gc)).heap.size := by simp [World.setCell]; exact hg.size
  have ePn : ∀ i, i < cntF f → ∀ b, (upV rv 1 (.slice (some ⟨g, 0, none⟩) (k + 1) gc) i).ownBlock = some b → b ≠ P := fun i hi b hb => tyB_ne (tyB_own (i5.own i hi) hb) (tyB_row r5) (by decide)
  refine ⟨
  { row := (World.rowIs.set r5 3 _).congr fun j hj => ?_
    said := h.said.of_block (kall mS h.said.lt (h.said.row h.row).symm fun c hc => (h.neI h1 hc).2.1.symm)
    heard := (h.heard.of_block (kall mH h.heard.lt (h.heard.row h.row).symm fun c hc => (h.neI h1 hc).2.2.1.symm)).congr (fun a b => ?_) ?_
    ints := (i5.of_blocks fun i b hi hb => hkP b (ePn i hi b hb)).congr (fun i hi => ?_) fun _ _ => rfl
    has := sl_blockK h.has (Nat.lt_of_lt_of_le h.ltH hsz) (kall bH h.ltH h.ne.2.1 fun c hc => (h.neI h1 hc).2.2.2.symm)
    nil := fun i hi e => ?_
    low := h.low, ltH := Nat.lt_of_lt_of_le h.ltH hsz, ne := h.ne, sm := h.sm
    nr := fun i hi => ?_ }, ⟨((Below.refl base w).grown hg hbw fun b hb => (own_lt (h.ints.own 1 h1) b hb).1).setCell (p := ⟨P, 3, none⟩) h.low.1 _, ⟨hsz, fun b hb hn => kall b hb (fun e => hn (fpG_iff.2 (.inl e))) fun c hc e => hn (fpG_iff.2 (.inr (.inr (.inr (.inr ⟨1, h1, by rw [e]; exact hc⟩)))))⟩, fun b hb => ?_⟩⟩
  · unfold gv
    rw [upV_same]
    by_cases e : j = 3
    · rw [if_pos e, if_neg (by omega), if_neg (by omega), if_neg (by omega), if_pos e]
    · rw [if_neg e, if_neg e, if_neg e]
  · show THg (num f) f.hd (upV rv 1 _) a b = THg (num f) f.hd rv a b
    unfold THg
    rw [upV_other _ _ (by have := ix_two b.toNat a.toNat; omega)]
  · unfold cHf
    refine cnK_congr fun i hi => ?_
    unfold hasB
    by_cases q : 2 ≤ i
    · unfold lsP lsF
      rw [if_neg (by omega), if_neg (by omega), if_neg (by omega), if_neg (by omega), if_neg (by omega), if_neg (by omega)]
    · rw [decide_eq_false q]; rfl
  · by_cases q : i = 1
    · rw [q, upV_same]; rfl
    · rw [upV_other _ _ q]
      unfold lsP lsF
      by_cases q0 : i = 0
      · rw [if_pos q0, if_pos q0]
      · rw [if_neg q0, if_neg q0, if_neg q0, if_neg q0, if_neg q, if_neg q]
  · rw [upV_other _ _ (by omega)]
    refine h.nil i hi ?_
    unfold lsP lsF at e ⊢
    rw [if_neg (by omega), if_neg (by omega), if_neg (by omega)] at e ⊢
    exact e
  · by_cases q : i = 1
    · rw [q, upV_same]
      intro z
      have z' : g = bH := by simpa [Value.ownBlock] using z
      exact hgne bH h.ltH (fun c hc => (h.neI h1 hc).2.2.2.symm) z'
    · rw [upV_other _ _ q]
      exact h.nr i hi
  · rcases fpG_iff.1 hb with e | e | e | e | ⟨i, hi, e⟩
    · exact .inl (fpG_iff.2 (.inl e))
    · exact .inl (fpG_iff.2 (.inr (.inl e)))
    · exact .inl (fpG_iff.2 (.inr (.inr (.inl e))))
    · exact .inl (fpG_iff.2 (.inr (.inr (.inr (.inl e)))))
    · by_cases q : i = 1
      · rw [q, upV_same] at e
        have e' : g = b := by simpa [Value.ownBlock] using e
        rcases hat with z | z
        · exact .inl (fpG_iff.2 (.inr (.inr (.inr (.inr ⟨1, h1, by rw [← e']; exact z⟩)))))
        · exact .inr (by rw [← e']; exact z)
      · rw [upV_other _ _ q] at e
        exact .inl (fpG_iff.2 (.inr (.inr (.inr (.inr ⟨i, hi, e⟩)))))
/-- one hears a word -/
theorem sm_got (h : ∀ k m, (f.hd k m).length ≤ 30) {m : Nat} {x : Int} (hs : (cur f m).length + 1 ≤ 30) : ∀ a b, ((got f m x).hd a b).length ≤ 30 := by
  intro a b
  show (up2 f.hd (num f) m (cur f m ++ [x]) a b).length ≤ 30
  by_cases e : a = num f ∧ b = m
  · rw [e.1, e.2, up2_same, List.length_append]
    exact hs
  · rw [up2_other _ _ e]
    exact h a b
theorem GF.hear (h : GF w base P mS mH bH oH cH rv f) {m k g gc : Nat} {x : Int} (hs : (cur f m).length + 1 ≤ 30) (hm5 : m < 5) (hn : k = (cur f m).length) (hm : MapS.MM w' mH (MapS.putT (TH f rv) (m : Int) (num f : Int) (.slice (some ⟨g, 0, none⟩) (k + 1) gc)) (if (TH f rv (m : Int) (num f : Int)).isSome = true then cHf f else cHf f + 1))
    (hb : Below base w w') (hk : ∀ b, b < w.heap.size → b ≠ mH → some b ≠ (rv (ix (num f) m)).ownBlock → w'.heap[b]? = w.heap[b]?)
    (ho : w'.ownsRow base 3 1 (.slice (some ⟨g, 0, none⟩) (k + 1) gc) (k + 1) ((cur f m).map (Value.int .i64) ++ [.int .i64 x])) (hat : (rv (ix (num f) m)).ownBlock = some g ∨ w.heap.size ≤ g) :
    GF w' base P mS mH bH oH cH (upV rv (ix (num f) m) (.slice (some ⟨g, 0, none⟩) (k + 1) gc)) (got f m x) ∧ St w w' base (fpG P mS mH bH (cntF f) rv) (fpG P mS mH bH (cntF f) (upV rv (ix (num f) m) (.slice (some ⟨g, 0, none⟩) (k + 1) gc))) := by
  have hj : ix (num f) m < cntF f := ix_lt (Nat.le_refl _) hm5
  have h1 : (1 : Nat) ≠ ix (num f) m := by have := ix_two (num f) m; omega
  have neq : ∀ b, (∀ c, (rv (ix (num f) m)).ownBlock = some c → b ≠ c) → some b ≠ (rv (ix (num f) m)).ownBlock := fun b hne e => hne b e.symm rfl
  have kS := hk mS h.said.lt h.ne.1 (neq _ fun c hc => (h.neI hj hc).2.1.symm)
  have kP := hk P h.lt (h.heard.row h.row) (neq _ fun c hc => (h.neI hj hc).1.symm)
  have kH := hk bH h.ltH h.ne.2.2.2 (neq _ fun c hc => (h.neI hj hc).2.2.2.symm)
  have hsz := hb.size
  refine ⟨
  { row := by
      have r := World.rowIs.of_block h.row kP
      rw [upV_other _ _ h1]
      exact r
    said := h.said.of_block kS
    heard := hm.congr (TH_got hm5 x _) (cHf_got hm5 x)
    ints := (h.ints.set (i := ix (num f) m) hj (v := .slice (some ⟨g, 0, none⟩) (k + 1) gc) (l := cur f m ++ [x]) (w' := w') (fun j b hj' hne hb' => hk b (own_lt (h.ints.own j hj') b hb').2 (h.neI hj' hb').2.2.1 (neq b fun c hc e => h.ints.sep j _ hj' hj hne b hb' (by rw [e]; exact hc))) ?_ ?_).congr (fun i hi => lsP_got hm5 x i) fun _ _ => rfl
    has := sl_blockK h.has (Nat.lt_of_lt_of_le h.ltH hsz) kH
    nil := fun i hi e => ?_
    low := h.low, ltH := Nat.lt_of_lt_of_le h.ltH hsz, ne := h.ne, sm := sm_got h.sm hs
    nr := fun i hi => ?_ }, ⟨hb, ⟨hsz, fun b hb' hn' => hk b hb' (fun e => hn' (fpG_iff.2 (.inr (.inr (.inl e))))) fun e => hn' (fpG_iff.2 (.inr (.inr (.inr (.inr ⟨_, hj, e.symm⟩)))))⟩, fun b hb' => ?_⟩⟩
  · show World.ownsRow _ _ _ _ _ _ _
    rw [List.length_append, List.map_append, ← hn]
    exact ho
  · intro b hb'
    have e : g = b := by simpa [Value.ownBlock] using hb'
    rw [← e]
    exact hat
  · rw [lsP_got hm5 x i] at e
    by_cases q : i = ix (num f) m
    · rw [q, upV_same] at e
      exact absurd e (by simp)
    · rw [upV_other _ _ q] at e ⊢
      exact h.nil i hi e
  · by_cases q : i = ix (num f) m
    · rw [q, upV_same]
      intro z
      have z' : g = bH := by simpa [Value.ownBlock] using z
      rcases hat with y | y
      · exact h.nr _ hj (by rw [← z']; exact y)
      · have := h.ltH; omega
    · rw [upV_other _ _ q]
      exact h.nr i hi
  · rcases fpG_iff.1 hb' with e | e | e | e | ⟨i, hi, e⟩
    · exact .inl (fpG_iff.2 (.inl e))
    · exact .inl (fpG_iff.2 (.inr (.inl e)))
    · exact .inl (fpG_iff.2 (.inr (.inr (.inl e))))
    · exact .inl (fpG_iff.2 (.inr (.inr (.inr (.inl e)))))
    · by_cases q : i = ix (num f) m
      · rw [q, upV_same] at e
        have e' : g = b := by simpa [Value.ownBlock] using e
        rcases hat with z | z
        · exact .inl (fpG_iff.2 (.inr (.inr (.inr (.inr ⟨_, hj, by rw [← e']; exact z⟩)))))
        · exact .inr (by rw [← e']; exact z)
      · rw [upV_other _ _ q] at e
        exact .inl (fpG_iff.2 (.inr (.inr (.inr (.inr ⟨i, hi, e⟩)))))
/-- the group, whatever lies where -/
def US (w : World) (base P : Nat) (f : F) (fp : List Nat) : Prop := ∃ mS mH bH oH cH rv, fp = fpG P mS mH bH (cntF f) rv ∧ GF w base P mS mH bH oH cH rv f
theorem US.of_blocks {f : F} {fp : List Nat} (h : US w base P f fp) (hs : w.heap.size ≤ w'.heap.size) (hk : ∀ b ∈ fp, w'.heap[b]? = w.heap[b]?) : US w' base P f fp := by
  obtain ⟨mS, mH, bH, oH, cH, rv, rfl, h⟩ := h
  exact ⟨mS, mH, bH, oH, cH, rv, rfl, h.of_blocks hk⟩
theorem US.fp {f : F} {fp : List Nat} (h : US w base P f fp) : ∀ b ∈ fp, base ≤ b ∧ b < w.heap.size := by
  obtain ⟨mS, mH, bH, oH, cH, rv, rfl, h⟩ := h
  exact h.fp
theorem US.lower {base' : Nat} {f : F} {fp : List Nat} (h : US w base P f fp) (hb : base' ≤ base) : US w base' P f fp := by
  obtain ⟨mS, mH, bH, oH, cH, rv, rfl, h⟩ := h
  exact ⟨mS, mH, bH, oH, cH, rv, rfl, h.lower hb⟩
end Go.Proofs.YtgdmbnfdcbekaaiDoor.Flu
