/-
  Words of one member that come the wrong way round, by plain Lean.
-/
import Derived.Test.YtgcdbcljneoifacDoorFifM
namespace Go.Proofs.YtgcdbcljneoifacDoor.Fif

theorem Wh.congr {who n : Int} {S S' : Int → Bool} {m : Int} {ws : List Cm} (g : Wh who n S m ws) (h : ∀ j, S' j = S j) : Wh who n S' m ws := by
  have : S' = S := funext h
  rw [this]
  exact g
/-- those behind k have come, and wait -/
structure Bk (m : Nat) (n k : Int) (H : List Int) (ws : List Cm) : Prop where
  inv : Inv H ws
  none : H.getD m 0 = 0
  wh : Wh (m : Int) n (fun j => decide (k < j ∧ j ≤ n)) 0 ws
  len : (ws.length : Int) = n - k
theorem Bk.start (m : Nat) {n : Int} (hn : 1 ≤ n) (hm : m < 5) : Bk m n n [0, 0, 0, 0, 0] [] := by
  refine ⟨Inv.start, ?_, (Wh.start (m : Int) (by omega)).congr fun j => ?_, by simp⟩
  · rcases m with _ | _ | _ | _ | _ | m <;> first | rfl | omega
  · simp
theorem Bk.facts {m : Nat} {n k : Int} {H : List Int} {ws : List Cm} (g : Bk m n k H ws) (hm : m < 5) (hn : n ≤ 30) (h1 : 1 ≤ k) (h2 : k ≤ n) :
    tkC (H.getD ((m : Int)).toNat 0) ws (m : Int) k k = 0 ∧ Wh (m : Int) n (fun j => decide (k - 1 < j ∧ j ≤ n)) ((tk H ws (m : Int) k k).2.1.getD m 0) (tk H ws (m : Int) k k).2.2 ∧ ((tk H ws (m : Int) k k).1.length : Int) = (tk H ws (m : Int) k k).2.1.getD m 0 ∧
    (tk H ws (m : Int) k k).2.2.length + (tk H ws (m : Int) k k).1.length = ws.length + 1 := by
  have hb : bad (m : Int) k k = false := by simp [bad]; omega
  obtain ⟨a, b, c⟩ := g.wh.new hn (k := k) (by simp) h1 h2 hb
  have e0 : H.getD ((m : Int)).toNat 0 = 0 := by rw [Int.toNat_natCast]; exact g.none
  have hc : tkC (H.getD ((m : Int)).toNat 0) ws (m : Int) k k = 0 := by rw [e0]; exact a
  have hf := (tkC_ok a).2.2.1
  have hu := uq_snoc g.wh.uq k hf
  obtain ⟨r1, r2, r3, r4, r5, r6, r7⟩ := run_spec (who := (m : Int)) _ 0 (ws ++ [((m : Int), k, k)]) (Nat.le_refl _) hu
  rw [tk_ok hc, e0, Int.toNat_natCast]
  have e5 := g.inv.five
  refine ⟨a, ?_, ?_, ?_⟩
  · show Wh _ _ _ ((H.set m _).getD m 0) _
    rw [set_getD (by omega), if_pos rfl]
    refine b.congr fun j => ?_
    by_cases q : j = k
    · subst q; simp; omega
    · have : (k - 1 < j ∧ j ≤ n) ↔ (k < j ∧ j ≤ n) := by omega
      simp [q, this]
  · show ((run (m : Int) 0 (ws ++ [((m : Int), k, k)])).1.length : Int) = (H.set m _).getD m 0
    rw [set_getD (by omega), if_pos rfl, r2]
    omega
  · exact r7.trans (by rw [List.length_append]; rfl)
theorem Bk.step {m : Nat} {n k : Int} {H : List Int} {ws : List Cm} (g : Bk m n k H ws) (hm : m < 5) (hn : n ≤ 30) (h1 : 1 < k) (h2 : k ≤ n) :
    tkC (H.getD ((m : Int)).toNat 0) ws (m : Int) k k = 0 ∧ (tk H ws (m : Int) k k).1 = [] ∧ Bk m n (k - 1) (tk H ws (m : Int) k k).2.1 (tk H ws (m : Int) k k).2.2 := by
  obtain ⟨a, b, c, d⟩ := g.facts hm hn (by omega) h2
  have h0 := b.notYet (by simp; omega)
  rw [h0] at b c
  have e : (tk H ws (m : Int) k k).1 = [] := List.eq_nil_of_length_eq_zero (by omega)
  refine ⟨a, e, g.inv.take _ _ _, h0, b, ?_⟩
  have := g.len
  omega
theorem Bk.last {m : Nat} {n : Int} {H : List Int} {ws : List Cm} (g : Bk m n 1 H ws) (hm : m < 5) (hn : n ≤ 30) (h2 : 1 ≤ n) :
    tkC (H.getD ((m : Int)).toNat 0) ws (m : Int) 1 1 = 0 ∧ ((tk H ws (m : Int) 1 1).1.length : Int) = n ∧ (tk H ws (m : Int) 1 1).2.2 = [] ∧ (tk H ws (m : Int) 1 1).2.1.getD m 0 = n := by
  obtain ⟨a, b, c, d⟩ := g.facts hm hn (by omega) h2
  obtain ⟨e1, e2⟩ := b.all (fun j h3 h4 => by simp; omega)
  exact ⟨a, by rw [c, e1], e2, e1⟩
end Go.Proofs.YtgcdbcljneoifacDoor.Fif
