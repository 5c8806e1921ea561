/-
  The document's own picture, as it is made; small facts for the walk of PicturePlays.
-/
import Derived.Test.YtgcdbcljneoifajDoorPipS
namespace Go.Proofs.YtgcdbcljneoifajDoor.Pic
open Go.RowKit
open Go.Proofs.YtgcdbcljneoifajDoor.Fif (own_lt own_block own_form own_vw ret_bool info_int new_int int_one)
open Go.Proofs.YtgcdbcljneoifajDoor.Vec (Vw)
open Go.Proofs.YtgcdbcljneoifajDoor.Sep (KpL NewL)
open Go.Proofs.YtgcdbcljneoifajDoor.Ldr (errF errF_ok errF_no Sl)
open Go.Proofs.YtgcdbcljneoifajDoor.Off (OR)
set_option linter.unusedVariables false

def zPp : Array Value := Array.ofFn fun i : Fin 88 => pvv nilP (fun _ => nilP) false (fun _ => false) (fun _ => 0) (fun _ _ => false) 0 (fun _ _ => 0) i.val
set_option maxRecDepth 100000 in
theorem zero_pp (W : World) : (zeroValue 38).run Tryd.prog W = .ok (.agg zPp) W := by kernel_rfl
theorem zPp_size : zPp.size = 88 := by unfold zPp; simp
theorem zPp_ne : (zPp = #[]) = False := by
  apply propext
  constructor
  · intro h
    have := zPp_size
    rw [h] at this
    cases this
  · exact False.elim
theorem zPp_row (w : World) : (w.alloc (.cells zPp 38)).rowIs w.heap.size 38 88 (pvv nilP (fun _ => nilP) false (fun _ => false) (fun _ => 0) (fun _ _ => false) 0 (fun _ _ => 0)) := by
  have h := World.rowIs_alloc w zPp 38 (pvv nilP (fun _ => nilP) false (fun _ => false) (fun _ => 0) (fun _ _ => false) 0 (fun _ _ => 0)) (fun i hi => by
    have hi' : i < 88 := by rw [zPp_size] at hi; exact hi
    unfold zPp
    rw [Array.getElem?_ofFn, dif_pos hi'])
  rw [zPp_size] at h
  exact h
theorem pv_vg {ov : Nat → Value} {bg : Bool} {hs : Nat → Bool} {wr : Nat → Int} {op : Nat → Nat → Bool} {ow : Int} {pt : Nat → Nat → Int} (v0 v : Value) (j : Nat) : (if j = 0 then v else pvv v0 ov bg hs wr op ow pt j) = pvv v ov bg hs wr op ow pt j := by
  unfold pvv
  by_cases e : j = 0
  · rw [if_pos e, if_pos e]
  · rw [if_neg e, if_neg e, if_neg e]
/-- with gold -/
theorem RP.made {wa w5 : World} {base R : Nat} {l : List Int} {v : Value} (hr : wa.rowIs R 38 88 (pvv nilP (fun _ => nilP) false (fun _ => false) (fun _ => 0) (fun _ _ => false) 0 (fun _ _ => 0))) (hR : base ≤ R) (hg : wa.grownBy w5 none) (ho : OwC w5 base v l) (h2 : 2 ≤ l.length) :
    ∃ gb gc, v = .slice (some ⟨gb, 0, none⟩) l.length gc ∧ RP (w5.setCell ⟨R, 0, none⟩ v) base R (start l) gb gc (fun _ => .slice none 0 0) ∧ base ≤ gb := by
  rcases ho.2 with ⟨-, e⟩ | ⟨gb, gc, cur, ev, hb, hh, hn, hcm, hsc, hpre⟩
  · omega
  · rw [Nat.mul_one] at hsc hpre
    subst ev
    have r5 := World.rowIs.of_block hr (hg.block R (World.rowIs.lt hr) (fun e => by cases e))
    have ne : gb ≠ R := by
      intro e
      obtain ⟨c', hc', -⟩ := r5
      rw [e, hc'] at hh
      injection hh with hh
      injection hh with _ ht _
      exact absurd ht (by decide)
    refine ⟨gb, gc, rfl, ⟨(World.rowIs.set r5 0 _).congr fun j _ => pv_vg _ _ j, ⟨fun j => cur.getD j .nilIface, ?_⟩, ⟨hn, hcm⟩, fun k _ => OR.nil _ _, fun k k' _ _ _ b e => (by cases e), fun k _ e => (by cases e), hR, hb⟩, hb⟩
    refine ⟨cur, by rw [Deep.blk_setCell_other _ _ _ _ ne]; exact hh, hsc, fun i hi => ?_⟩
    dsimp only
    by_cases e : i < l.length
    · rw [if_pos (show i < (start l).n from e)]
      have z : (cur.toList.take l.length)[i]? = (l.map (Value.int .i64))[i]? := by rw [hpre]
      rw [List.getElem?_take_of_lt e, Array.getElem?_toList] at z
      rw [z, List.getElem?_map, List.getElem?_eq_getElem e]
      show some (Value.int .i64 l[i]) = some (Value.int .i64 (l.getD i 0))
      rw [getDC e]
    · rw [if_neg (show ¬ i < (start l).n from e)]
      simp [Array.getD, hsc, hi]
/-- the walk's state: both alike, four numbers aside -/
def FQ (w wr : World) (P R gb gc : Nat) (all : Int) (n : Nat) : Prop := ∃ g fp ov, PF w wr P R all g fp gb gc ov ∧ g.n = n
def FA (w wr : World) (P R gb gc : Nat) (all : Int) (n A : Nat) (k : Nat → Int) : Prop := ∃ g fp ov, PF w wr P R all g fp gb gc ov ∧ g.n = n ∧ AR wr A k fp R gb ov
theorem FQ.bel {w wr : World} {P R gb gc n : Nat} {all : Int} (h : FQ w wr P R gb gc all n) : Below w.heap.size w wr := by
  obtain ⟨_, _, _, h, -⟩ := h
  exact h.bel
theorem FA.bel {w wr : World} {P R gb gc n A : Nat} {all : Int} {k : Nat → Int} (h : FA w wr P R gb gc all n A k) : Below w.heap.size w wr := by
  obtain ⟨_, _, _, h, -, -⟩ := h
  exact h.bel
theorem FA.later {w wr w' : World} {P R gb gc n A : Nat} {all : Int} {k : Nat → Int} (h : FA w wr P R gb gc all n A k) (hb : Below wr.heap.size wr w') : FA w w' P R gb gc all n A k := by
  obtain ⟨g, fp, ov, h1, h2, h3⟩ := h
  exact ⟨g, fp, ov, h1.later hb, h2, h3.later hb⟩
def R4p (wo wz : World) : Prop := ∃ f : Nat → Int, wz.rowIs wo.heap.size 39 4 (fun t => .int .i64 (f t)) ∧ Below wo.heap.size wo wz
theorem newC_one {l : List Int} (h : newC l ≠ 0) : newC l = 1 := by
  unfold newC at h ⊢
  split
  · rfl
  · rename_i q
    rw [if_neg q] at h
    split
    · rename_i q2
      rw [if_pos q2] at h
      exact absurd rfl h
    · rfl
/-- as far as gold was looked at -/
def lookC (l : List Int) (i : Nat) (e : Int) : Prop := (e = 0 ∧ ∀ j, j < i → 0 ≤ l.getD j 0 ∧ l.getD j 0 ≤ 1000) ∨ (e = 1 ∧ ∃ j, j < l.length ∧ (l.getD j 0 < 0 ∨ 1000 < l.getD j 0))
theorem lookC_end {l : List Int} {i : Nat} {e : Int} (h25 : 2 ≤ l.length ∧ l.length ≤ 5) (h : lookC l i e) (hi : i = l.length ∨ e = 1) : e = newC l := by
  unfold newC
  rw [if_neg (by omega)]
  rcases h with ⟨h1, h2⟩ | ⟨h1, j, hj, h2⟩
  · rw [if_pos, h1]
    intro x hx
    obtain ⟨j, hj, rfl⟩ := List.getElem_of_mem hx
    have := h2 j (by omega)
    rw [getDC hj] at this
    exact this
  · rw [if_neg, h1]
    intro z
    have := z _ (List.getElem_mem hj)
    rw [getDC hj] at h2
    omega
end Go.Proofs.YtgcdbcljneoifajDoor.Pic
