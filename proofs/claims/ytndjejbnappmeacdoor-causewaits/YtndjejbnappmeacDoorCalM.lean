/-
  One that speaks alone, by plain Lean: its words are heard as it spoke.
-/
import Derived.Test.YtndjejbnappmeacDoorCauE
namespace Go.Proofs.YtndjejbnappmeacDoor.Cau
open Go.Proofs.YtndjejbnappmeacDoor.Vec (code)

/-- the clock of one who alone has spoken so often -/
def Ka (a : Nat) (i : Int) : List Int := ([0, 0, 0, 0, 0] : List Int).set a i
theorem Ka_len (a : Nat) (i : Int) : (Ka a i).length = 5 := by simp [Ka]
theorem Ka_get {a : Nat} (ha : a < 5) (i : Int) (j : Nat) : (Ka a i).getD j 0 = if j = a then i else 0 := by
  by_cases e : j = a
  · subst e
    rw [if_pos rfl]
    simp [Ka, List.getD, ha]
  · rw [if_neg e]
    unfold Ka
    rw [List.getD, List.getElem?_set_ne (fun q => e q.symm)]
    rcases j with _ | _ | _ | _ | _ | j <;> rfl
theorem Ka_inc {a : Nat} (ha : a < 5) (i : Int) : inc (Ka a i) (a : Int) = Ka a (i + 1) := by
  rw [inc, Int.toNat_natCast, Ka_get ha, if_pos rfl, Ka, Ka, List.set_set]
theorem Ka_start (a : Nat) (ha : a < 5) : Ka a 0 = [0, 0, 0, 0, 0] := by
  rcases a with _ | _ | _ | _ | _ | a <;> first | rfl | omega
theorem Ka_code {a : Nat} (ha : a < 5) {i : Int} (h0 : 0 ≤ i) (h1 : i ≤ 1000000) : code (Ka a i) = 0 := by
  have hb : Vec.bad (Ka a i) = false := Vec.anyP_false fun j hj => by
    show Vec.out ((Ka a i).getD j 0) = false
    rw [Ka_get ha]
    simp only [Vec.out, Bool.or_eq_false_iff, decide_eq_false_iff_not]
    split <;> omega
  simp [code, Ka_len, hb]
theorem Ka_rdy {a : Nat} (ha : a < 5) (i : Int) (word : Int) : rdy (Ka a i) ((a : Int), word, Ka a (i + 1)) = true := by
  rw [rdy_iff]
  intro j hj
  by_cases e : j = a
  · subst e
    rw [rdyAt_own rfl]
    show decide ((Ka j (i + 1)).getD j 0 = (Ka j i).getD j 0 + 1) = true
    rw [Ka_get ha, Ka_get ha, if_pos rfl, if_pos rfl]
    simp
  · rw [rdyAt_other (by show ¬ (j : Int) = (a : Int); omega)]
    show decide ((Ka a (i + 1)).getD j 0 ≤ (Ka a i).getD j 0) = true
    rw [Ka_get ha, Ka_get ha, if_neg e, if_neg e]
    simp
theorem Ka_say {a : Nat} (ha : a < 5) {i : Int} (h0 : 0 ≤ i) (h1 : i < 30) : sayC (a : Int) (Ka a i) (i + 1) = 0 := by
  rw [sayC, if_neg (by omega), Int.toNat_natCast, Ka_get ha, if_pos rfl, if_neg (by omega)]
theorem Ka_take {a : Nat} (ha : a < 5) {b i : Int} (hb : ¬ (a : Int) = b) (h0 : 0 ≤ i) (h1 : i < 30) : ckC b (Ka a i) [] ((a : Int), i + 1, Ka a (i + 1)) = 0 ∧ ctk b (Ka a i) [] ((a : Int), i + 1, Ka a (i + 1)) = ([i + 1], Ka a (i + 1), []) := by
  have hbad : sdBad ((a : Int), i + 1, Ka a (i + 1)) = false := by
    simp only [sdBad, Bool.or_eq_false_iff, decide_eq_false_iff_not]
    omega
  have hc : code (Ka a (i + 1)) = 0 := Ka_code ha (by omega) (by omega)
  have hr := Ka_rdy ha i (i + 1)
  have e1 : (Ka a (i + 1)).getD a 0 = i + 1 := by rw [Ka_get ha, if_pos rfl]
  have e2 : (Ka a i).getD a 0 = i := by rw [Ka_get ha, if_pos rfl]
  have hk : ckC b (Ka a i) [] ((a : Int), i + 1, Ka a (i + 1)) = 0 := by
    unfold ckC
    simp only [Int.toNat_natCast]
    rw [if_neg (by rw [hbad]; decide), if_neg (by rw [hc]; simp), if_neg hb, if_neg (by rw [e1]; omega), if_neg (by rw [e1, e2]; omega), if_neg (by simp), if_neg (by rw [hr]; simp)]
  refine ⟨hk, ?_⟩
  unfold ctk
  rw [if_pos hk, if_pos hr, Ka_inc ha, run_stop (by rfl)]
theorem Ka_inv {a : Nat} (ha : a < 5) {me i : Int} (hm : 0 ≤ me ∧ me ≤ 4) (h0 : 0 ≤ i) (h1 : i ≤ 30) : CInv me (Ka a i) [] :=
  ⟨hm, Ka_len a i, fun j _ => by rw [Ka_get ha]; split <;> omega, fun c hc => absurd hc List.not_mem_nil, by simp⟩
end Go.Proofs.YtndjejbnappmeacDoor.Cau
