/-
  Plain facts that the ways of AgainPlays lean on.
-/
import Derived.Test.YtdhlfbpflngmbafDoorAgpS
namespace Go.Proofs.YtdhlfbpflngmbafDoor.Aga
open Go.RowKit
open Go.Proofs.YtdhlfbpflngmbafDoor.As (Laid)
open Go.Proofs.YtdhlfbpflngmbafDoor.Fif (Cm Inv RS rsv tk tkC tk_no tk_ok run own_lt own_block own_form own_mono own_vw Kp ret_bool)
open Go.Proofs.YtdhlfbpflngmbafDoor.Sep (KpL NewL setF set_same set_other)
open Go.Proofs.YtdhlfbpflngmbafDoor.Vec (Vw Rw ints_any)
set_option linter.unusedVariables false
theorem say_bad {said : List Int} {free : Nat} {word : Int} (h : word < 1 ∨ 30 < word) : sayC said free word = 1 ∧ sayN said free word = 0 ∧ sayL said free word = said := by
  have hc : sayC said free word = 1 := if_pos h
  exact ⟨hc, if_neg (by rw [hc]; decide), if_neg (by rw [hc]; decide)⟩
theorem say_full {said : List Int} {free : Nat} {word : Int} (h1 : ¬ word < 1) (h2 : ¬ 30 < word) (h : 40 ≤ said.length - free) : sayC said free word = 4 ∧ sayN said free word = 0 ∧ sayL said free word = said := by
  have hc : sayC said free word = 4 := by unfold sayC; rw [if_neg (by omega), if_pos h]
  exact ⟨hc, if_neg (by rw [hc]; decide), if_neg (by rw [hc]; decide)⟩
theorem say_yes {said : List Int} {free : Nat} {word : Int} (h1 : ¬ word < 1) (h2 : ¬ 30 < word) (h : ¬ 40 ≤ said.length - free) : sayC said free word = 0 ∧ sayN said free word = (said.length : Int) + 1 ∧ sayL said free word = said ++ [word] := by
  have hc : sayC said free word = 0 := by unfold sayC; rw [if_neg (by omega), if_neg h]
  exact ⟨hc, if_pos hc, if_pos hc⟩
theorem newXh (w X : World) (B : Nat) (hB : B = w.heap.size) (x : Value) (t : TypeId) (e : X.heap = (w.alloc (.cells #[x] t)).heap) : ∀ j u, [x][j]? = some u → X.cell? ((⟨B, 0, none⟩ : Addr).add j) = some u := fun j u h => by
  rw [← newX w B hB x t j u h]
  simp only [World.cell?, e]
theorem grown_tmp {w X w' : World} {o : Obj} {r : Option Nat} (h : X.grownBy w' r) (e : X.heap = (w.alloc o).heap) (e1 : X.os = w.os) (e2 : X.tape = w.tape) (e3 : X.output = w.output) : w.grownBy w' r := by
  have b : Below w.heap.size w (w.alloc o) := (Below.refl _ _).alloc (Nat.le_refl _) _
  exact ⟨h.os.trans e1, h.tape.trans e2, h.output.trans e3, Nat.le_trans b.size (by rw [← e]; exact h.size), fun k hk hne => (h.block k (by rw [e]; exact Nat.lt_of_lt_of_le hk b.size) hne).trans (by rw [e]; exact b.block k hk)⟩
theorem below_base {B : Nat} {w w1 w2 : World} (h : Below B w1 w2) (e : w1.heap = w.heap) (e1 : w1.os = w.os) (e2 : w1.tape = w.tape) (e3 : w1.output = w.output) : Below B w w2 :=
  ⟨h.os.trans e1, h.tape.trans e2, h.output.trans e3, by have := h.size; rw [e] at this; exact this, fun k hk => by rw [h.block k hk, e]⟩
theorem ask_bad {said : List Int} {free : Nat} {n : Int} (h : n < 1 ∨ (said.length : Int) < n) : askW said free n = 0 ∧ askC said free n = 1 := by
  have hc : askC said free n = 1 := if_pos h
  exact ⟨if_neg (by rw [hc]; decide), hc⟩
theorem ask_free {said : List Int} {free : Nat} {n : Int} (h1 : ¬ n < 1) (h2 : ¬ (said.length : Int) < n) (h : n ≤ (free : Int)) : askW said free n = 0 ∧ askC said free n = 5 := by
  have hc : askC said free n = 5 := by unfold askC; rw [if_neg (by omega), if_pos h]
  exact ⟨if_neg (by rw [hc]; decide), hc⟩
theorem ask_yes {said : List Int} {free : Nat} {k : Nat} (h1 : k < said.length) (h : ¬ (k : Int) + 1 ≤ (free : Int)) : askW said free ((k : Int) + 1) = said.getD k 0 ∧ askC said free ((k : Int) + 1) = 0 := by
  have hc : askC said free ((k : Int) + 1) = 0 := by unfold askC; rw [if_neg (by omega), if_neg h]
  refine ⟨?_, hc⟩
  unfold askW
  rw [if_pos hc, show ((k : Int) + 1).toNat - 1 = k by omega]
theorem fre_bad {said : List Int} {free : Nat} {n : Int} (h : n < 0 ∨ (said.length : Int) < n) : freC said n = 1 ∧ freN said free n = free := by
  have hc : freC said n = 1 := if_pos h
  exact ⟨hc, if_neg (by rw [hc]; omega)⟩
theorem fre_old {said : List Int} {free : Nat} {n : Int} (h1 : ¬ n < 0) (h2 : ¬ (said.length : Int) < n) (h : ¬ (free : Int) < n) : freC said n = 0 ∧ freN said free n = free := by
  have hc : freC said n = 0 := if_neg (by omega)
  exact ⟨hc, if_neg (by omega)⟩
theorem fre_new {said : List Int} {free k : Nat} (h2 : k ≤ said.length) (h : free < k) : freC said (k : Int) = 0 ∧ freN said free (k : Int) = k := by
  have hc : freC said (k : Int) = 0 := if_neg (by omega)
  refine ⟨hc, ?_⟩
  unfold freN
  rw [if_pos ⟨hc, by omega⟩]
  omega
variable {w wr w5 : World} {Ps Ph M Q V n cs gg gc : Nat} {qs : Option Addr} {said : List Int} {free : Nat} {h : Int} {ws : List Cm} {H : List Int} {vS vW : Value} {F : Nat → List Nat} {k0 k1 k2 : Int}
theorem ref_said (g : PG w Ps Ph M Q wr said free h ws said free H ws vS vW F) (v : V3 wr V k0 k1 k2) (h4 : F 4 = [V]) (ev : vS = .slice qs n cs) (en : n = said.length) (hg : wr.grownBy w5 (Value.slice qs n cs).ownBlock) (ho : w5.ownsRow w.heap.size 3 1 (.slice (some ⟨gg, 0, none⟩) (n + 1) gc) (n + 1) (said.map (Value.int .i64) ++ [.int .i64 k1])) (hat : (Value.slice qs n cs).ownBlock = some gg ∨ gg = wr.heap.size + 1) :
    ∃ F', PG w Ps Ph M Q (w5.setCell ⟨M, 0, none⟩ (.slice (some ⟨gg, 0, none⟩) (n + 1) gc)) said free h ws (said ++ [k1]) free H ws (.slice (some ⟨gg, 0, none⟩) (n + 1) gc) vW F' ∧ V3 (w5.setCell ⟨M, 0, none⟩ (.slice (some ⟨gg, 0, none⟩) (n + 1) gc)) V k0 k1 k2 ∧ F' 0 = F 0 ∧ F' 4 = [V] := by
  subst ev
  have ho' : Ow w5 w.heap.size (.slice (some ⟨gg, 0, none⟩) (n + 1) gc) (said ++ [k1]) := by
    have e : (said ++ [k1]).length = n + 1 := by rw [en]; simp
    show w5.ownsRow w.heap.size 3 1 _ (said ++ [k1]).length ((said ++ [k1]).map (Value.int .i64))
    rw [e, List.map_append]
    exact ho
  obtain ⟨g1, kp⟩ := g.refSay hg ho' (fun k hk => by
    have e : gg = k := by simpa [Value.ownBlock] using hk
    subst e
    rcases hat with a | a
    · exact .inl a
    · exact .inr (by omega))
  exact ⟨_, g1, g.keepV v (by rw [h4]; simp) (by omega) (by omega) kp, set_other _ _ (by omega), by rw [set_other _ _ (by omega)]; exact h4⟩
theorem ref_block (g : PG w Ps Ph M Q wr said free h ws said free H ws vS vW F) (ev : vS = .slice qs n cs) (hg : wr.grownBy w5 (Value.slice qs n cs).ownBlock) : w5.rowIs M 30 2 (mv vS free) := World.rowIs.of_block g.m (hg.block M (World.rowIs.lt g.m) fun e => mS_apart g.m g.o (by rw [ev]; exact e.symm))
theorem ref_cell (g : PG w Ps Ph M Q wr said free h ws said free H ws vS vW F) (ev : vS = .slice qs n cs) (hg : wr.grownBy w5 (Value.slice qs n cs).ownBlock) : w5.cell? ⟨M, 0, none⟩ = some (.slice qs n cs) := by
  rw [← ev]
  exact World.rowIs.cell (ref_block g ev hg) (i := 0) (by omega)
theorem ref_frozen (g : PG w Ps Ph M Q wr said free h ws said free H ws vS vW F) (ev : vS = .slice qs n cs) (hg : wr.grownBy w5 (Value.slice qs n cs).ownBlock) : w5.frozen? ⟨M, 0, none⟩ = false := World.rowIs.frozen (ref_block g ev hg) 0
end Go.Proofs.YtdhlfbpflngmbafDoor.Aga
