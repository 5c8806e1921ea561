/-
  The document's own Take of a member that hears by cause in one form; what holds at any time.
-/
import Derived.Test.YtgnffanlgmbieaeDoorCagH
namespace Go.Proofs.YtgnffanlgmbieaeDoor.Cau
open Go.RowKit
open Go.Proofs.YtgnffanlgmbieaeDoor.Vec (Vw code)
open Go.Proofs.YtgnffanlgmbieaeDoor.Fif (Kp set_getD)

theorem sdBad_no {s : Sd} (h : sdBad s = false) : (0 ≤ s.1 ∧ s.1 ≤ 4) ∧ 1 ≤ s.2.1 ∧ s.2.1 ≤ 30 := by
  simp only [sdBad, Bool.or_eq_false_iff, decide_eq_false_iff_not] at h
  omega
/-- what is told where nothing is wrong -/
theorem ckC_ok {me : Int} {K : List Int} {ws : List Sd} {s : Sd} (h : ckC me K ws s = 0) : SdOk s ∧ ¬ s.1 = me ∧ ¬ s.2.2.getD s.1.toNat 0 = 0 ∧ ¬ s.2.2.getD s.1.toNat 0 ≤ K.getD s.1.toNat 0 ∧ ws.any (same s) = false ∧ ¬ (rdy K s = false ∧ 40 ≤ ws.length) := by
  unfold ckC at h
  split at h
  · omega
  · rename_i h1
    split at h
    · rename_i h2
      exact absurd h h2
    · rename_i h2
      split at h
      · omega
      · split at h
        · omega
        · split at h
          · omega
          · split at h
            · omega
            · rename_i h6
              split at h
              · omega
              · rename_i h3 h4 h5 h7
                have hb := sdBad_no (by simpa using h1)
                exact ⟨⟨hb.1, hb.2, by omega⟩, h3, h4, h5, by simpa using h6, h7⟩
theorem run_inv {me : Int} : ∀ (n : Nat) (K : List Int) (ws : List Sd), ws.length ≤ n → CInv me K ws → CInv me (run K ws).2.1 (run K ws).2.2 := by
  intro n
  induction n with
  | zero =>
    intro K ws hl g
    have : ws = [] := List.eq_nil_of_length_eq_zero (by omega)
    subst this
    rw [run_stop (by simp)]
    exact g
  | succ n ih =>
    intro K ws hl g
    cases hs : ws.findIdx? (rdy K) with
    | none =>
      rw [run_stop hs]
      exact g
    | some i =>
      have hi := idx_lt hs
      rw [run_go hs]
      have hr : rdy K (sd ws i) = true := by
        rw [List.findIdx?_eq_some_iff_getElem] at hs
        simpa [sd, List.getD, hi] using hs.2.1
      exact ih _ _ (by have := erase_len hi; omega) (g.hear hi hr)
theorem CInv.take {me : Int} {K : List Int} {ws : List Sd} (g : CInv me K ws) (s : Sd) : CInv me (ctk me K ws s).2.1 (ctk me K ws s).2.2 := by
  unfold ctk
  by_cases h : ckC me K ws s = 0
  · rw [if_pos h]
    obtain ⟨ok, h1, h2, h3, h4, h5⟩ := ckC_ok h
    by_cases hr : rdy K s = true
    · rw [if_pos hr]
      obtain ⟨a, b⟩ := g.incd ok hr
      exact run_inv _ _ _ (Nat.le_refl _) ⟨g.me, b, a, g.ok, g.len⟩
    · rw [if_neg hr]
      refine ⟨g.me, g.five, g.num, fun c hc => ?_, ?_⟩
      · rcases List.mem_append.1 hc with a | a
        · exact g.ok c a
        · rw [List.mem_singleton.1 a]; exact ok
      · have : ¬ 40 ≤ ws.length := fun q => h5 ⟨by simpa using hr, q⟩
        rw [List.length_append]
        simp
        omega
  · rw [if_neg h]
    exact g
theorem CInv.say {me : Int} {K : List Int} {ws : List Sd} (g : CInv me K ws) (h : K.getD me.toNat 0 ≠ 1000000) : CInv me (inc K me) ws := by
  have hm : me.toNat < 5 := by have := g.me; omega
  have h5 := g.five
  refine ⟨g.me, by unfold inc; rw [List.length_set]; exact h5, fun j hj => ?_, g.ok, g.len⟩
  unfold inc
  rw [set_getD (by omega)]
  split
  · have := g.num _ hm
    omega
  · exact g.num j hj

theorem refTakeC (base : Nat) (F : Nat → Prop) (P : Nat) (me : Int) (K : List Int) (es : List Es) (v : Value) (who word : Int) (q : Option Addr) (len c : Nat) (clk : List Int) (w : World) (g : RC w base F P me K es v) (hi : CInv me K (es.map toSd)) (hbw : base ≤ w.heap.size) (hv : Vw w q len clk) (hold : len = 5 → Old w F q clk) :
    Calls Tryd.prog 31 #[.pointer (some ⟨P, 0, none⟩), .agg #[.int .i64 who, .int .i64 word, .slice q len c]] w fun x w' => ∃ vo v' es', x = .returned (.tuple #[vo, .int .i64 (ckC me K (es.map toSd) (who, word, clk))]) ∧
      RC w' base F P me (ctk me K (es.map toSd) (who, word, clk)).2.1 es' v' ∧ es'.map toSd = (ctk me K (es.map toSd) (who, word, clk)).2.2 ∧ w'.ownsRow w.heap.size 3 1 vo (ctk me K (es.map toSd) (who, word, clk)).1.length ((ctk me K (es.map toSd) (who, word, clk)).1.map (Value.int .i64)) ∧ Below base w w' ∧ Kp w w' P v.ownBlock ∧ ∀ k, v'.ownBlock = some k → v.ownBlock = some k ∨ w.heap.size ≤ k := by
  have no : ∀ k : Int, k ≠ 0 → ckC me K (es.map toSd) (who, word, clk) = k → ∀ x w', (x = Ending.returned (.tuple #[.slice none 0 0, .int .i64 k]) ∧ Below w.heap.size w w') → ∃ vo v' es', x = .returned (.tuple #[vo, .int .i64 (ckC me K (es.map toSd) (who, word, clk))]) ∧
      RC w' base F P me (ctk me K (es.map toSd) (who, word, clk)).2.1 es' v' ∧ es'.map toSd = (ctk me K (es.map toSd) (who, word, clk)).2.2 ∧ w'.ownsRow w.heap.size 3 1 vo (ctk me K (es.map toSd) (who, word, clk)).1.length ((ctk me K (es.map toSd) (who, word, clk)).1.map (Value.int .i64)) ∧ Below base w w' ∧ Kp w w' P v.ownBlock ∧ ∀ k, v'.ownBlock = some k → v.ownBlock = some k ∨ w.heap.size ≤ k := by
    rintro k hk0 hk x w' ⟨rfl, hb⟩
    have e : ctk me K (es.map toSd) (who, word, clk) = ([], K, es.map toSd) := if_neg (by rw [hk]; exact hk0)
    rw [e, hk]
    exact ⟨_, v, es, rfl, g.later hb, rfl, World.ownsRow_nil _ _ _ _, hb.mono hbw, Kp.below hb _, fun k hk => .inl hk⟩
  cases hb : sdBad (who, word, clk) with
  | true => exact (takeC_bad base F P me K es v who word q len c clk w hb).mono (no 1 (by decide) (by unfold ckC; rw [if_pos hb]))
  | false =>
    by_cases hc : code clk = 0
    · have hl : clk.length = 5 := (clk_num hc (show 0 < 5 by omega)).1
      have hl5 : len = 5 := by have := hv.1; omega
      subst hl5
      obtain ⟨hw, h1, h2⟩ := sdBad_no hb
      simp only at hw h1 h2
      obtain ⟨m, rfl⟩ : ∃ m : Nat, who = (m : Int) := ⟨who.toNat, by omega⟩
      have hm : m < 5 := by omega
      have k1 : ¬ sdBad ((m : Int), word, clk) = true := by rw [hb]; decide
      by_cases a1 : (m : Int) = me
      · exact (takeC_own base F P m me K es v word q c clk w hm g hi hbw hv h1 h2 hc a1).mono (no 3 (by decide) (by unfold ckC; rw [if_neg k1, if_neg (by simp [hc]), if_pos a1]))
      · by_cases a2 : clk.getD m 0 = 0
        · exact (takeC_zero base F P m me K es v word q c clk w hm g hi hbw hv h1 h2 hc a1 a2).mono (no 1 (by decide) (by unfold ckC; rw [if_neg k1, if_neg (by simp [hc]), if_neg a1, Int.toNat_natCast, if_pos a2]))
        · by_cases a3 : clk.getD m 0 ≤ K.getD m 0
          · exact (takeC_old base F P m me K es v word q c clk w hm g hi hbw hv h1 h2 hc a1 a2 a3).mono (no 7 (by decide) (by unfold ckC; rw [if_neg k1, if_neg (by simp [hc]), if_neg a1, Int.toNat_natCast, if_neg a2, if_pos a3]))
          · cases a4 : (es.map toSd).any (same ((m : Int), word, clk)) with
            | true => exact (takeC_clash base F P m me K es v word q c clk w hm g hi hbw hv h1 h2 hc a1 a2 a3 a4).mono (no 7 (by decide) (by unfold ckC; rw [if_neg k1, if_neg (by simp [hc]), if_neg a1, Int.toNat_natCast, if_neg a2, if_neg a3, if_pos a4]))
            | false =>
              have k4 : ¬ (es.map toSd).any (same ((m : Int), word, clk)) = true := by rw [a4]; decide
              cases a5 : rdy K ((m : Int), word, clk) with
              | false =>
                by_cases a6 : 40 ≤ es.length
                · exact (takeC_full base F P m me K es v word q c clk w hm g hi hbw hv h1 h2 hc a1 a2 a3 a4 a5 a6).mono (no 4 (by decide) (by unfold ckC; rw [if_neg k1, if_neg (by simp [hc]), if_neg a1, Int.toNat_natCast, if_neg a2, if_neg a3, if_neg k4, if_pos ⟨a5, by rw [List.length_map]; exact a6⟩]))
                · have e0 : ckC me K (es.map toSd) ((m : Int), word, clk) = 0 := by unfold ckC; rw [if_neg k1, if_neg (by simp [hc]), if_neg a1, Int.toNat_natCast, if_neg a2, if_neg a3, if_neg k4, if_neg (by rw [List.length_map]; omega)]
                  have e : ctk me K (es.map toSd) ((m : Int), word, clk) = ([], K, es.map toSd ++ [((m : Int), word, clk)]) := by unfold ctk; rw [if_pos e0, if_neg (by rw [a5]; decide)]
                  rw [e0, e]
                  refine (takeC_wait base F P m me K es v word q c clk w hm g hi hbw hv h1 h2 hc a1 a2 a3 a4 a5 (by omega) (hold rfl)).mono ?_
                  rintro x w' ⟨v', rfl, r, b, k⟩
                  exact ⟨_, v', _, rfl, r, by rw [List.map_append]; rfl, World.ownsRow_nil _ _ _ _, b, k⟩
              | true =>
                have e0 : ckC me K (es.map toSd) ((m : Int), word, clk) = 0 := by unfold ckC; rw [if_neg k1, if_neg (by simp [hc]), if_neg a1, Int.toNat_natCast, if_neg a2, if_neg a3, if_neg k4, if_neg (by rw [a5]; simp)]
                have e : ctk me K (es.map toSd) ((m : Int), word, clk) = (word :: (run (inc K (m : Int)) (es.map toSd)).1, (run (inc K (m : Int)) (es.map toSd)).2) := by unfold ctk; rw [if_pos e0, if_pos a5]
                rw [e0, e]
                exact takeC_hear base F P m me K es v word q c clk w hm g hi hbw hv h1 h2 hc a1 a2 a3 a4 a5
    · exact (takeC_vec base F P me K es v who word q len c clk w hv hb hc).mono (no (code clk) hc (by unfold ckC; rw [if_neg (by rw [hb]; decide), if_pos hc]))
end Go.Proofs.YtgnffanlgmbieaeDoor.Cau
