/-
  A question, and an answer of who heard it, by plain Lean; three members side by side in memory.
-/
import Derived.Test.YtndjejbnappmeacDoorCauP
import Derived.Test.YtndjejbnappmeacDoorCalM
namespace Go.Proofs.YtndjejbnappmeacDoor.Cau
open Go.RowKit
open Go.Proofs.YtndjejbnappmeacDoor.Vec (Vw code)
open Go.Proofs.YtndjejbnappmeacDoor.Fif (own_lt own_block own_form own_vw)
set_option linter.unusedVariables false

/-- the clock of the answer -/
def Kb (a b : Nat) : List Int := (Ka a 1).set b 1
theorem Kb_len (a b : Nat) : (Kb a b).length = 5 := by simp [Kb, Ka]
theorem Kb_get {a b : Nat} (ha : a < 5) (hb : b < 5) (j : Nat) : (Kb a b).getD j 0 = if j = b then 1 else if j = a then 1 else 0 := by
  by_cases e : j = b
  · subst e
    rw [if_pos rfl]
    simp [Kb, List.getD, Ka_len, hb]
  · rw [if_neg e, ← Ka_get ha 1 j]
    unfold Kb
    rw [List.getD, List.getElem?_set_ne (fun q => e q.symm)]
    rfl
theorem Kb_inc {a b : Nat} (ha : a < 5) (hab : a ≠ b) : inc (Ka a 1) (b : Int) = Kb a b := by
  rw [inc, Int.toNat_natCast, Ka_get ha, if_neg (Ne.symm hab)]
  rfl
theorem Kb_code {a b : Nat} (ha : a < 5) (hb : b < 5) : code (Kb a b) = 0 := by
  have hbad : Vec.bad (Kb a b) = false := Vec.anyP_false fun j hj => by
    show Vec.out ((Kb a b).getD j 0) = false
    rw [Kb_get ha hb]
    simp only [Vec.out, Bool.or_eq_false_iff, decide_eq_false_iff_not]
    split
    · omega
    · split <;> omega
  simp [code, Kb_len, hbad]
theorem ck_new {me : Int} {K : List Int} {ws : List Sd} {m : Nat} {word : Int} {clk : List Int} (hm : m < 5) (h1 : 1 ≤ word) (h2 : word ≤ 30) (hc : code clk = 0) (hw : ¬ (m : Int) = me) (hz : ¬ clk.getD m 0 = 0) (ho : ¬ clk.getD m 0 ≤ K.getD m 0) (ha : ws.any (same ((m : Int), word, clk)) = false) (hl : ws.length < 40) : ckC me K ws ((m : Int), word, clk) = 0 := by
  have hbad : sdBad ((m : Int), word, clk) = false := by
    simp only [sdBad, Bool.or_eq_false_iff, decide_eq_false_iff_not]
    omega
  unfold ckC
  simp only [Int.toNat_natCast]
  rw [if_neg (by rw [hbad]; decide), if_neg (by rw [hc]; simp), if_neg hw, if_neg hz, if_neg ho, if_neg (by rw [ha]; decide), if_neg (by omega)]
theorem ck_old {me : Int} {K : List Int} {ws : List Sd} {m : Nat} {word : Int} {clk : List Int} (hm : m < 5) (h1 : 1 ≤ word) (h2 : word ≤ 30) (hc : code clk = 0) (hw : ¬ (m : Int) = me) (hz : ¬ clk.getD m 0 = 0) (ho : clk.getD m 0 ≤ K.getD m 0) : ckC me K ws ((m : Int), word, clk) = 7 := by
  have hbad : sdBad ((m : Int), word, clk) = false := by
    simp only [sdBad, Bool.or_eq_false_iff, decide_eq_false_iff_not]
    omega
  unfold ckC
  simp only [Int.toNat_natCast]
  rw [if_neg (by rw [hbad]; decide), if_neg (by rw [hc]; simp), if_neg hw, if_neg hz, if_pos ho]
theorem z5 (j : Nat) : ([0, 0, 0, 0, 0] : List Int).getD j 0 = 0 := by
  rcases j with _ | _ | _ | _ | _ | j <;> rfl
/-- the question is heard at once -/
theorem q_take {a b c : Nat} {w v : Int} (ha : a < 5) (hb : b < 5) (hc : c < 5) (hab : a ≠ b) (hbc : b ≠ c) (hac : a ≠ c) (w1 : 1 ≤ w) (w2 : w ≤ 30) (v1 : 1 ≤ v) (v2 : v ≤ 30) : ckC (b : Int) [0, 0, 0, 0, 0] [] ((a : Int), w, Ka a 1) = 0 ∧ ctk (b : Int) [0, 0, 0, 0, 0] [] ((a : Int), w, Ka a 1) = ([w], Ka a 1, []) := by
  have hk : ckC (b : Int) [0, 0, 0, 0, 0] [] ((a : Int), w, Ka a 1) = 0 := ck_new ha w1 w2 (Ka_code ha (by omega) (by omega)) (by omega) (by rw [Ka_get ha, if_pos rfl]; decide) (by rw [Ka_get ha, if_pos rfl, z5]; decide) rfl (by simp)
  have hr : rdy [0, 0, 0, 0, 0] ((a : Int), w, Ka a 1) = true := by have := Ka_rdy ha 0 w; rw [Ka_start a ha] at this; exact this
  refine ⟨hk, ?_⟩
  unfold ctk
  rw [if_pos hk, if_pos hr, show inc [0, 0, 0, 0, 0] ((a : Int), w, Ka a 1).1 = Ka a 1 by rw [← Ka_start a ha]; exact Ka_inc ha 0, run_stop (by rfl)]
/-- the answer waits -/
theorem t_waits {a b c : Nat} {w v : Int} (ha : a < 5) (hb : b < 5) (hc : c < 5) (hab : a ≠ b) (hbc : b ≠ c) (hac : a ≠ c) (w1 : 1 ≤ w) (w2 : w ≤ 30) (v1 : 1 ≤ v) (v2 : v ≤ 30) : ckC (c : Int) [0, 0, 0, 0, 0] [] ((b : Int), v, Kb a b) = 0 ∧ ctk (c : Int) [0, 0, 0, 0, 0] [] ((b : Int), v, Kb a b) = ([], [0, 0, 0, 0, 0], [((b : Int), v, Kb a b)]) := by
  have hk : ckC (c : Int) [0, 0, 0, 0, 0] [] ((b : Int), v, Kb a b) = 0 := ck_new hb v1 v2 (Kb_code ha hb) (by omega) (by rw [Kb_get ha hb, if_pos rfl]; decide) (by rw [Kb_get ha hb, if_pos rfl, z5]; decide) rfl (by simp)
  have hr : rdy [0, 0, 0, 0, 0] ((b : Int), v, Kb a b) = false := by
    refine rdy_no ha ?_
    rw [rdyAt_other (by show ¬ (a : Int) = (b : Int); omega)]
    show decide ((Kb a b).getD a 0 ≤ ([0, 0, 0, 0, 0] : List Int).getD a 0) = false
    rw [Kb_get ha hb, if_neg hab, if_pos rfl, z5]
    decide
  refine ⟨hk, ?_⟩
  unfold ctk
  rw [if_pos hk, if_neg (by rw [hr]; decide)]
  rfl
/-- with the question both are heard -/
theorem q_both {a b c : Nat} {w v : Int} (ha : a < 5) (hb : b < 5) (hc : c < 5) (hab : a ≠ b) (hbc : b ≠ c) (hac : a ≠ c) (w1 : 1 ≤ w) (w2 : w ≤ 30) (v1 : 1 ≤ v) (v2 : v ≤ 30) : ckC (c : Int) [0, 0, 0, 0, 0] [((b : Int), v, Kb a b)] ((a : Int), w, Ka a 1) = 0 ∧ ctk (c : Int) [0, 0, 0, 0, 0] [((b : Int), v, Kb a b)] ((a : Int), w, Ka a 1) = ([w, v], Kb a b, []) := by
  have hs : same ((a : Int), w, Ka a 1) ((b : Int), v, Kb a b) = false := by
    show (decide ((b : Int) = (a : Int)) && _) = false
    have : decide ((b : Int) = (a : Int)) = false := by simp; omega
    rw [this, Bool.false_and]
  have hk : ckC (c : Int) [0, 0, 0, 0, 0] [((b : Int), v, Kb a b)] ((a : Int), w, Ka a 1) = 0 := ck_new ha w1 w2 (Ka_code ha (by omega) (by omega)) (by omega) (by rw [Ka_get ha, if_pos rfl]; decide) (by rw [Ka_get ha, if_pos rfl, z5]; decide) (by simp [hs]) (by simp)
  have hr : rdy [0, 0, 0, 0, 0] ((a : Int), w, Ka a 1) = true := by have := Ka_rdy ha 0 w; rw [Ka_start a ha] at this; exact this
  have ht : rdy (Ka a 1) ((b : Int), v, Kb a b) = true := by
    rw [rdy_iff]
    intro j hj
    by_cases e : j = b
    · subst e
      rw [rdyAt_own rfl]
      show decide ((Kb a j).getD j 0 = (Ka a 1).getD j 0 + 1) = true
      rw [Kb_get ha hb, if_pos rfl, Ka_get ha, if_neg (Ne.symm hab)]
      decide
    · rw [rdyAt_other (by show ¬ (j : Int) = (b : Int); omega)]
      show decide ((Kb a b).getD j 0 ≤ (Ka a 1).getD j 0) = true
      rw [Kb_get ha hb, if_neg e, Ka_get ha]
      simp
  refine ⟨hk, ?_⟩
  unfold ctk
  rw [if_pos hk, if_pos hr, show inc [0, 0, 0, 0, 0] ((a : Int), w, Ka a 1).1 = Ka a 1 by rw [← Ka_start a ha]; exact Ka_inc ha 0, run_go (i := 0) (idx_some (by simp) ht (fun j hj => absurd hj (by omega)))]
  show (w :: v :: (run (inc (Ka a 1) (b : Int)) []).1, (run (inc (Ka a 1) (b : Int)) []).2) = _
  rw [Kb_inc ha hab, run_stop (by rfl)]
theorem q_old {a b c : Nat} {w v : Int} (ha : a < 5) (hb : b < 5) (hc : c < 5) (hab : a ≠ b) (hbc : b ≠ c) (hac : a ≠ c) (w1 : 1 ≤ w) (w2 : w ≤ 30) (v1 : 1 ≤ v) (v2 : v ≤ 30) : ckC (c : Int) (Kb a b) [] ((a : Int), w, Ka a 1) = 7 := ck_old ha w1 w2 (Ka_code ha (by omega) (by omega)) (by omega) (by rw [Ka_get ha, if_pos rfl]; decide) (by rw [Ka_get ha, if_pos rfl, Kb_get ha hb, if_neg hab, if_pos rfl]; decide)
theorem t_old {a b c : Nat} {w v : Int} (ha : a < 5) (hb : b < 5) (hc : c < 5) (hab : a ≠ b) (hbc : b ≠ c) (hac : a ≠ c) (w1 : 1 ≤ w) (w2 : w ≤ 30) (v1 : 1 ≤ v) (v2 : v ≤ 30) : ckC (c : Int) (Kb a b) [] ((b : Int), v, Kb a b) = 7 := ck_old hb v1 v2 (Kb_code ha hb) (by omega) (by rw [Kb_get ha hb, if_pos rfl]; decide) (Int.le_refl _)
theorem c_inv1 {a b c : Nat} {w v : Int} (ha : a < 5) (hb : b < 5) (hc : c < 5) (hab : a ≠ b) (hbc : b ≠ c) (hac : a ≠ c) (w1 : 1 ≤ w) (w2 : w ≤ 30) (v1 : 1 ≤ v) (v2 : v ≤ 30) : CInv (c : Int) [0, 0, 0, 0, 0] [((b : Int), v, Kb a b)] :=
  ⟨by omega, rfl, fun j _ => by rw [z5]; omega, fun s hs => by rw [List.mem_singleton.1 hs]; exact ⟨by show 0 ≤ (b : Int) ∧ (b : Int) ≤ 4; omega, ⟨v1, v2⟩, Kb_code ha hb⟩, by simp⟩
theorem c_inv2 {a b c : Nat} {w v : Int} (ha : a < 5) (hb : b < 5) (hc : c < 5) (hab : a ≠ b) (hbc : b ≠ c) (hac : a ≠ c) (w1 : 1 ≤ w) (w2 : w ≤ 30) (v1 : 1 ≤ v) (v2 : v ≤ 30) : CInv (c : Int) (Kb a b) [] :=
  ⟨by omega, Kb_len a b, fun j _ => by rw [Kb_get ha hb]; split <;> (try split) <;> omega, fun s hs => absurd hs List.not_mem_nil, by simp⟩
/-- three members side by side, and blocks that are none of theirs -/
structure T3 (w : World) (PX PY PZ : Nat) (a b c : Int) (Kx : List Int) (Lx : List Sd) (Ky : List Int) (Ly : List Sd) (Kz : List Int) (Lz : List Sd) (pr : List Nat) (wr : World) (fx fy fz : List Nat) : Prop where
  x : CS wr w.heap.size PX a Kx Lx fx
  y : CS wr w.heap.size PY b Ky Ly fy
  z : CS wr w.heap.size PZ c Kz Lz fz
  xy : ∀ k ∈ fx, k ∉ fy
  xz : ∀ k ∈ fx, k ∉ fz
  yz : ∀ k ∈ fy, k ∉ fz
  pr : ∀ p ∈ pr, p < wr.heap.size ∧ p ∉ fx ∧ p ∉ fy ∧ p ∉ fz
  be : Below w.heap.size w wr
section
variable {w : World} {PX PY PZ : Nat} {a b c : Int} {Kx : List Int} {Lx : List Sd} {Ky : List Int} {Ly : List Sd} {Kz : List Int} {Lz : List Sd} {pr : List Nat} {wr w' : World} {fx fy fz : List Nat}
theorem cs_kplW {w w' : World} {base P : Nat} {me : Int} {K : List Int} {ws : List Sd} {fp fp' : List Nat} (g : CS w base P me K ws fp) (hk : KpL w w' fp') (sep : ∀ b ∈ fp, b ∉ fp') : CS w' base P me K ws fp := g.of_blocks hk.1 (fun b h => hk.2 b (g.fp b h).2 (sep b h))
theorem T3.later (g : T3 w PX PY PZ a b c Kx Lx Ky Ly Kz Lz pr wr fx fy fz) (hb : Below wr.heap.size wr w') : T3 w PX PY PZ a b c Kx Lx Ky Ly Kz Lz pr w' fx fy fz ∧ ∀ p ∈ pr, w'.heap[p]? = wr.heap[p]? :=
  ⟨⟨g.x.of_blocks hb.size (fun k h => hb.block k (g.x.fp k h).2), g.y.of_blocks hb.size (fun k h => hb.block k (g.y.fp k h).2), g.z.of_blocks hb.size (fun k h => hb.block k (g.z.fp k h).2), g.xy, g.xz, g.yz, fun p hp => ⟨Nat.lt_of_lt_of_le (g.pr p hp).1 hb.size, (g.pr p hp).2⟩, g.be.trans (hb.mono g.be.size)⟩, fun p hp => hb.block p (g.pr p hp).1⟩
theorem T3.opX (g : T3 w PX PY PZ a b c Kx Lx Ky Ly Kz Lz pr wr fx fy fz) {K : List Int} {L : List Sd} {f : List Nat} (hC : CS w' w.heap.size PX a K L f) (hk : KpL wr w' fx) (hn : NewL wr fx f) (hb : Below w.heap.size wr w') : T3 w PX PY PZ a b c K L Ky Ly Kz Lz pr w' f fy fz ∧ ∀ p ∈ pr, w'.heap[p]? = wr.heap[p]? :=
  ⟨⟨hC, cs_kplW g.y hk (fun k h q => g.xy k q h), cs_kplW g.z hk (fun k h q => g.xz k q h), fun k h q => (hn k h).elim (fun z => g.xy k z q) (fun z => by have := (g.y.fp k q).2; omega), fun k h q => (hn k h).elim (fun z => g.xz k z q) (fun z => by have := (g.z.fp k q).2; omega), g.yz, fun p hp => ⟨Nat.lt_of_lt_of_le (g.pr p hp).1 hk.1, fun q => (hn p q).elim (g.pr p hp).2.1 (fun z => by have := (g.pr p hp).1; omega), (g.pr p hp).2.2.1, (g.pr p hp).2.2.2⟩, g.be.trans hb⟩, fun p hp => hk.2 p (g.pr p hp).1 (g.pr p hp).2.1⟩
theorem T3.opY (g : T3 w PX PY PZ a b c Kx Lx Ky Ly Kz Lz pr wr fx fy fz) {K : List Int} {L : List Sd} {f : List Nat} (hC : CS w' w.heap.size PY b K L f) (hk : KpL wr w' fy) (hn : NewL wr fy f) (hb : Below w.heap.size wr w') : T3 w PX PY PZ a b c Kx Lx K L Kz Lz pr w' fx f fz ∧ ∀ p ∈ pr, w'.heap[p]? = wr.heap[p]? :=
  ⟨⟨cs_kplW g.x hk g.xy, hC, cs_kplW g.z hk (fun k h q => g.yz k q h), fun k h q => (hn k q).elim (fun z => g.xy k h z) (fun z => by have := (g.x.fp k h).2; omega), g.xz, fun k h q => (hn k h).elim (fun z => g.yz k z q) (fun z => by have := (g.z.fp k q).2; omega), fun p hp => ⟨Nat.lt_of_lt_of_le (g.pr p hp).1 hk.1, (g.pr p hp).2.1, fun q => (hn p q).elim (g.pr p hp).2.2.1 (fun z => by have := (g.pr p hp).1; omega), (g.pr p hp).2.2.2⟩, g.be.trans hb⟩, fun p hp => hk.2 p (g.pr p hp).1 (g.pr p hp).2.2.1⟩
theorem T3.opZ (g : T3 w PX PY PZ a b c Kx Lx Ky Ly Kz Lz pr wr fx fy fz) {K : List Int} {L : List Sd} {f : List Nat} (hC : CS w' w.heap.size PZ c K L f) (hk : KpL wr w' fz) (hn : NewL wr fz f) (hb : Below w.heap.size wr w') : T3 w PX PY PZ a b c Kx Lx Ky Ly K L pr w' fx fy f ∧ ∀ p ∈ pr, w'.heap[p]? = wr.heap[p]? :=
  ⟨⟨cs_kplW g.x hk g.xz, cs_kplW g.y hk g.yz, hC, g.xy, fun k h q => (hn k q).elim (fun z => g.xz k h z) (fun z => by have := (g.x.fp k h).2; omega), fun k h q => (hn k q).elim (fun z => g.yz k h z) (fun z => by have := (g.y.fp k h).2; omega), fun p hp => ⟨Nat.lt_of_lt_of_le (g.pr p hp).1 hk.1, (g.pr p hp).2.1, (g.pr p hp).2.2.1, fun q => (hn p q).elim (g.pr p hp).2.2.2 (fun z => by have := (g.pr p hp).1; omega)⟩, g.be.trans hb⟩, fun p hp => hk.2 p (g.pr p hp).1 (g.pr p hp).2.2.2⟩
/-- one block more that is none of theirs -/
theorem T3.add (g : T3 w PX PY PZ a b c Kx Lx Ky Ly Kz Lz pr wr fx fy fz) {p : Nat} (h0 : p < wr.heap.size) (h1 : p ∉ fx) (h2 : p ∉ fy) (h3 : p ∉ fz) : T3 w PX PY PZ a b c Kx Lx Ky Ly Kz Lz (p :: pr) wr fx fy fz :=
  ⟨g.x, g.y, g.z, g.xy, g.xz, g.yz, fun q hq => by
    rcases List.mem_cons.1 hq with rfl | hq
    · exact ⟨h0, h1, h2, h3⟩
    · exact g.pr q hq, g.be⟩
end
end Go.Proofs.YtndjejbnappmeacDoor.Cau
