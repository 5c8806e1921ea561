/-
  Contracts of package cause: New, Say, Take, Clock, Waits, with the blocks that a member's own memory takes.
-/
import Derived.Test.YtndjejbnappmeadDoorCapU
import Derived.Test.YtndjejbnappmeadDoorCapV
namespace Go.Proofs.YtndjejbnappmeadDoor.Cau
open Go.RowKit
open Go.Proofs.YtndjejbnappmeadDoor.Vec (Vw code)
open Go.Proofs.YtndjejbnappmeadDoor.Fif (own_lt own_block own_mono Kp)
open Go.Proofs.YtndjejbnappmeadDoor.Cap (En CF Cn fpOf)
set_option linter.unusedVariables false

/-- a member of the program in memory, and its blocks -/
def CS (w : World) (base P : Nat) (me : Int) (K : List Int) (ws : List Sd) (fp : List Nat) : Prop :=
  ∃ mb cn es, CF w base P mb me K cn es ∧ Cn K cn es ∧ ws = es.map En.s ∧ fp = fpOf P mb es
theorem CS.of_blocks {w w' : World} {base P : Nat} {me : Int} {K : List Int} {ws : List Sd} {fp : List Nat} (g : CS w base P me K ws fp) (hs : w.heap.size ≤ w'.heap.size) (h : ∀ b ∈ fp, w'.heap[b]? = w.heap[b]?) : CS w' base P me K ws fp := by
  obtain ⟨mb, cn, es, g, hc, rfl, rfl⟩ := g
  exact ⟨mb, cn, es, g.of_blocks h, hc, rfl, rfl⟩
theorem CS.fp {w : World} {base P : Nat} {me : Int} {K : List Int} {ws : List Sd} {fp : List Nat} (g : CS w base P me K ws fp) : ∀ b ∈ fp, base ≤ b ∧ b < w.heap.size := by
  obtain ⟨mb, cn, es, g, hc, rfl, rfl⟩ := g
  exact g.fp
theorem CS.low {w : World} {base base' P : Nat} {me : Int} {K : List Int} {ws : List Sd} {fp : List Nat} (g : CS w base P me K ws fp) (h : base' ≤ base) : CS w base' P me K ws fp := by
  obtain ⟨mb, cn, es, g, hc, rfl, rfl⟩ := g
  exact ⟨mb, cn, es, g.lower h, hc, rfl, rfl⟩
theorem newC_ok (me : Int) (w : World) (h : 0 ≤ me ∧ me ≤ 4) : Calls Tryd.prog 4 #[.int .i64 me] w fun x w' => ∃ P fp, x = .returned (.tuple #[.pointer (some ⟨P, 0, none⟩), .nilIface]) ∧ CS w' w.heap.size P me [0, 0, 0, 0, 0] [] fp ∧ Below w.heap.size w w' := by
  refine (Cap.new_ok me w h).mono ?_
  rintro x w' ⟨rfl, g, hb⟩
  exact ⟨_, _, rfl, ⟨_, 0, [], g, ⟨Int.le_refl _, by simp [Cap.sumK]⟩, rfl, rfl⟩, hb⟩
theorem newC_no (me : Int) (w : World) (h : me < 0 ∨ 4 < me) : Calls Tryd.prog 4 #[.int .i64 me] w fun x w' => ∃ v, x = .returned (.tuple #[v, errF 1]) ∧ Below w.heap.size w w' := by
  refine (Cap.new_no me w h).mono ?_
  rintro x w' ⟨rfl, rfl⟩
  exact ⟨_, by rw [errF_no (by decide)], Below.refl _ _⟩
theorem kpl_of {w w' : World} {P mb : Nat} {es : List En} (h : Kp w w' P (some mb)) : KpL w w' (fpOf P mb es) := ⟨h.1, fun b hb hn => h.2 b hb (fun e => hn (by rw [e]; simp [fpOf])) (fun e => hn (by cases e; simp [fpOf]))⟩
theorem clockP_any (base P : Nat) (me : Int) (K : List Int) (ws : List Sd) (fp : List Nat) (w : World) (g : CS w base P me K ws fp) : Calls Tryd.prog 12 #[.pointer (some ⟨P, 0, none⟩)] w fun x w' => ∃ v, x = .returned v ∧ w'.ownsRow w.heap.size 3 1 v 5 (K.map (Value.int .i64)) ∧ Below w.heap.size w w' := by
  obtain ⟨mb, cn, es, g, hc, rfl, rfl⟩ := g
  exact Cap.clock_any g
theorem waitsP_any (base P : Nat) (me : Int) (K : List Int) (ws : List Sd) (fp : List Nat) (w : World) (g : CS w base P me K ws fp) : Calls Tryd.prog 14 #[.pointer (some ⟨P, 0, none⟩)] w fun x w' => x = .returned (.int .i64 ws.length) ∧ ∃ n, w' = w.drewN n := by
  obtain ⟨mb, cn, es, g, hc, rfl, rfl⟩ := g
  refine (Cap.waits_any g).mono ?_
  rintro x w' ⟨rfl, rfl⟩
  exact ⟨by rw [List.length_map], 0, rfl⟩
theorem newl_refl (w : World) (fp : List Nat) : NewL w fp fp := fun b hb => .inl hb
theorem sayP_any (base P : Nat) (me : Int) (K : List Int) (ws : List Sd) (fp : List Nat) (word : Int) (w : World) (g : CS w base P me K ws fp) (hi : CInv me K ws) (hbw : base ≤ w.heap.size) : Calls Tryd.prog 7 #[.pointer (some ⟨P, 0, none⟩), .int .i64 word] w fun x w' => ∃ s0 s1 vc fp', x = .returned (.tuple #[.agg #[.int .i64 s0, .int .i64 s1, vc], errF (sayC me K word)]) ∧
    CS w' base P me (sayK me K word) ws fp' ∧ SayR w' w.heap.size me K word s0 s1 vc ∧ Below base w w' ∧ KpL w w' fp ∧ NewL w fp fp' ∧ ∀ b, vc.ownBlock = some b → b ∉ fp' := by
  obtain ⟨mb, cn, es, g, hc, rfl, rfl⟩ := g
  obtain ⟨m, rfl⟩ : ∃ m : Nat, me = (m : Int) := ⟨me.toNat, by have := hi.me; omega⟩
  have hm : m < 5 := by have := hi.me; omega
  have no : ∀ k : Int, k ≠ 0 → sayC (m : Int) K word = k → ∀ x w', (x = Ending.returned (.tuple #[.agg #[.int .i64 0, .int .i64 0, .slice none 0 0], .iface 50 (.int .i64 k)]) ∧ Below w.heap.size w w') → ∃ s0 s1 vc fp', x = .returned (.tuple #[.agg #[.int .i64 s0, .int .i64 s1, vc], errF (sayC (m : Int) K word)]) ∧
      CS w' base P (m : Int) (sayK (m : Int) K word) (es.map En.s) fp' ∧ SayR w' w.heap.size (m : Int) K word s0 s1 vc ∧ Below base w w' ∧ KpL w w' (fpOf P mb es) ∧ NewL w (fpOf P mb es) fp' ∧ ∀ b, vc.ownBlock = some b → b ∉ fp' := by
    rintro k hk0 hk x w' ⟨rfl, hb⟩
    have h0 : ¬ sayC (m : Int) K word = 0 := by rw [hk]; exact hk0
    refine ⟨0, 0, .slice none 0 0, _, by rw [hk, errF_no hk0], ⟨mb, cn, es, ?_, ?_, rfl, rfl⟩, ⟨(if_neg h0).symm, (if_neg h0).symm, ?_⟩, hb.mono hbw, kpl_of (Kp.below hb _), newl_refl _ _, fun b hb => by cases hb⟩
    · rw [sayK, if_neg h0]; exact g.later hb
    · rw [sayK, if_neg h0]; exact hc
    · rw [sayL, if_neg h0]; exact World.ownsRow_nil _ _ _ _
  by_cases h1 : word < 1 ∨ 30 < word
  · exact (Cap.say_bad P word w h1).mono (no 1 (by decide) (if_pos h1))
  · by_cases h2 : K.getD m 0 = 1000000
    · exact (Cap.say_full m word w hm g (by omega) (by omega) h2).mono (no 4 (by decide) (by rw [sayC, if_neg h1, Int.toNat_natCast, if_pos h2]))
    · have h0 : sayC (m : Int) K word = 0 := by rw [sayC, if_neg h1, Int.toNat_natCast, if_neg h2]
      have hn := hi.num m hm
      refine (Cap.say_ok m word w hm g hbw (by omega) (by omega) (by omega)).mono ?_
      rintro x w' ⟨vc, rfl, g', ho, hb, hk⟩
      refine ⟨(m : Int), word, vc, _, by rw [h0, errF_ok], ⟨mb, cn, es, ?_, ?_, rfl, rfl⟩, ⟨(if_pos h0).symm, (if_pos h0).symm, ?_⟩, hb, kpl_of ⟨hk.1, fun b hb hP _ => hk.2 b hb hP (by simp)⟩, newl_refl _ _, fun b hb hf => ?_⟩
      · rw [sayK, if_pos h0]; exact g'
      · rw [sayK, if_pos h0]; exact hc.incK g.five hm
      · rw [sayL, if_pos h0, Cap.inc_len, g.five]; exact ho
      · have h3 := (own_lt ho b hb).1
        have h4 := (g.fp b hf).2
        omega
theorem go1_last {K : List Int} {ws : List Sd} {s : Sd} : Cap.go1 K (ws ++ [s]) ws.length = (s.2.1 :: (run (inc K s.1) ws).1, (run (inc K s.1) ws).2) := by
  have e1 : sd (ws ++ [s]) ws.length = s := by simp [sd, List.getD]
  have e2 : (ws ++ [s]).eraseIdx ws.length = ws := by
    rw [List.eraseIdx_append_of_length_le (Nat.le_refl _)]
    simp
  unfold Cap.go1
  rw [e1, e2]
theorem takeP_any (base P : Nat) (me : Int) (K : List Int) (ws : List Sd) (fp : List Nat) (who word : Int) (q : Option Addr) (len c : Nat) (clk : List Int) (w : World) (g : CS w base P me K ws fp) (hi : CInv me K ws) (hbw : base ≤ w.heap.size) (hv : Vw w q len clk) : Calls Tryd.prog 10 #[.pointer (some ⟨P, 0, none⟩), .agg #[.int .i64 who, .int .i64 word, .slice q len c]] w fun x w' => ∃ vo fp', x = .returned (.tuple #[vo, errF (ckC me K ws (who, word, clk))]) ∧
    CS w' base P me (ctk me K ws (who, word, clk)).2.1 (ctk me K ws (who, word, clk)).2.2 fp' ∧ w'.ownsRow w.heap.size 3 1 vo (ctk me K ws (who, word, clk)).1.length ((ctk me K ws (who, word, clk)).1.map (Value.int .i64)) ∧ Below base w w' ∧ KpL w w' fp ∧ NewL w fp fp' ∧ ∀ b, vo.ownBlock = some b → b ∉ fp' := by
  obtain ⟨mb, cn, es, g, hc, rfl, rfl⟩ := g
  by_cases hck : ckC me K (es.map En.s) (who, word, clk) = 0
  · obtain ⟨hw, hwd, hcd, hsm, hroom⟩ := Cap.ck_ok hck
    obtain ⟨m, rfl⟩ : ∃ m : Nat, who = (m : Int) := ⟨who.toNat, by omega⟩
    have hm : m < 5 := by omega
    have h5 : len = 5 := by rw [← hv.1]; exact (Cap.code_num hcd).1
    subst h5
    obtain ⟨b, off, rfl, _⟩ := hv.2 (by omega)
    have hl : es.length ≤ 40 := by have := hi.len; rw [List.length_map] at this; exact this
    refine (Cap.take_ok m b off c word clk w hm g hc hv hck hl hbw).mono ?_
    rintro x w' ⟨g6, c6, w6, ⟨g6f, g6c, _, b6, k6, hg6⟩, hway⟩
    have hnew : ∀ es', (∀ e ∈ es', e ∈ es ++ [(⟨cn + 1, ((m : Int), word, clk), g6, c6⟩ : En)]) → NewL w (fpOf P mb es) (fpOf P mb es') := by
      intro es' hs d hd
      rcases List.mem_cons.1 hd with rfl | hd
      · exact .inl (by simp [fpOf])
      · rcases List.mem_cons.1 hd with rfl | hd
        · exact .inl (by simp [fpOf])
        · obtain ⟨e, he, rfl⟩ := List.mem_map.1 hd
          rcases List.mem_append.1 (hs e he) with a | a
          · exact .inl (by simp [fpOf]; exact .inr (.inr ⟨e, a, rfl⟩))
          · rw [List.mem_singleton.1 a]
            exact .inr hg6
    rcases hway with ⟨hr, rfl, h7⟩ | ⟨hr, vo, es', w8, rfl, h8, g9, c9, e9, s9, o9, b9, k9⟩
    · have et : ctk me K (es.map En.s) ((m : Int), word, clk) = ([], K, es.map En.s ++ [((m : Int), word, clk)]) := by rw [ctk, if_pos hck, if_neg (by rw [hr]; decide)]
      rw [et, hck, errF_ok]
      refine ⟨_, _, rfl, ⟨mb, cn + 1, _, g6f.later h7, g6c, by simp, rfl⟩, World.ownsRow_nil _ _ _ _, b6.trans (h7.mono (Nat.le_trans hbw b6.size)), kpl_of (k6.trans (r' := none) (Kp.below h7 none) (by simp)), hnew _ (fun e he => he), fun d hd => by cases hd⟩
    · have et : ctk me K (es.map En.s) ((m : Int), word, clk) = (word :: (run (inc K (m : Int)) (es.map En.s)).1, (run (inc K (m : Int)) (es.map En.s)).2) := by rw [ctk, if_pos hck, if_pos hr]
      have eg : Cap.go1 K ((es ++ [(⟨cn + 1, ((m : Int), word, clk), g6, c6⟩ : En)]).map En.s) es.length = (word :: (run (inc K (m : Int)) (es.map En.s)).1, (run (inc K (m : Int)) (es.map En.s)).2) := by
        have q := go1_last (K := K) (ws := es.map En.s) (s := ((m : Int), word, clk))
        rw [List.length_map] at q
        rw [List.map_append]
        exact q
      rw [eg] at g9 c9 e9 o9
      rw [et, hck, errF_ok]
      have hw8 : w.heap.size ≤ w8.heap.size := Nat.le_trans b6.size h8.size
      have b8 : Below base w w8 := b6.trans (h8.mono (Nat.le_trans hbw b6.size))
      have k8 : Kp w w8 P (some mb) := k6.trans (r' := none) (Kp.below h8 none) (by simp)
      refine ⟨vo, _, rfl, ⟨mb, cn + 1, es', g9, c9, e9.symm, rfl⟩, own_mono o9 hw8, b8.trans b9, kpl_of (k8.trans k9 (fun k e => .inr (.inl e))), hnew _ s9, fun d hd hf => ?_⟩
      have h3 := (own_lt o9 d hd).1
      have g8 := g6f.later h8
      have h4 : d < w8.heap.size := by
        rcases List.mem_cons.1 hf with rfl | hf
        · exact g8.lt.1
        · rcases List.mem_cons.1 hf with rfl | hf
          · exact g8.lt.2
          · obtain ⟨e, he, rfl⟩ := List.mem_map.1 hf
            exact (g8.glt (s9 e he)).2
      omega
  · refine (Cap.take_no who word q len c clk w g hv hck).mono ?_
    rintro x w' ⟨rfl, hb⟩
    have et : ctk me K (es.map En.s) (who, word, clk) = ([], K, es.map En.s) := by rw [ctk, if_neg hck]
    rw [et]
    exact ⟨_, _, rfl, ⟨mb, cn, es, g.later hb, hc, rfl, rfl⟩, World.ownsRow_nil _ _ _ _, hb.mono hbw, kpl_of (Kp.below hb _), newl_refl _ _, fun d hd => by cases hd⟩
end Go.Proofs.YtndjejbnappmeadDoor.Cau
