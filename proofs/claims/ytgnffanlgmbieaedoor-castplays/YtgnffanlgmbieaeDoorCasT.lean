/-
  The document's own group: a word that one says.
-/
import Derived.Test.YtgnffanlgmbieaeDoorCasR
import Derived.Test.YtgnffanlgmbieaeDoorMgB
import Derived.Laws.ResultCell
import Derived.WalkLawsBesides
import Derived.Deep.RegionLaw
namespace Go.Proofs.YtgnffanlgmbieaeDoor.Cas
open Go.RowKit
open Go.Proofs.YtgnffanlgmbieaeDoor.Net (Pk pk RN Po NInv)
open Go.Proofs.YtgnffanlgmbieaeDoor.Cau (Sd Es toSd RC Old Keep flatE inc)
open Go.Proofs.YtgnffanlgmbieaeDoor.Fif (own_lt own_block own_form own_mono Kp)
open Go.Proofs.YtgnffanlgmbieaeDoor.His (Ev)
set_option linter.unusedVariables false
variable {w w' : World} {base C : Nat} {g : G} {d : Loc}

theorem rc_more {F F' : Nat → Prop} {P : Nat} {me : Int} {K : List Int} {es : List Es} {v : Value} (h : RC w base F P me K es v) (hm : ∀ x, F x → F' x) (hP : ¬ F' P) (hV : ∀ k, v.ownBlock = some k → ¬ F' k) (hl : ∀ x, F' x → x < w.heap.size) : RC w base F' P me K es v := by
  refine ⟨h.row, h.own, fun e he => ?_, h.five, h.low, hP, hV, hl⟩
  obtain ⟨b, off, e1, e2, e3⟩ := h.old e he
  exact ⟨b, off, e1, hm b e2, e3⟩
/-- where a word was said stands what it was -/
theorem RG.said0 (h : RG w base C g d) {x r : Nat} (hx : x ≤ 30) (hr : r < 3) : w.cell? ⟨C, 2 + x * 3 + r, none⟩ = some (saidV g d (x : Int) r) ∧ w.frozen? ⟨C, 2 + x * 3 + r, none⟩ = false := by
  have q := World.rowIs.cell h.row (i := 2 + x * 3 + r) (by omega)
  rw [cgv, if_neg (by omega), if_neg (by omega), if_neg (by omega), if_neg (by omega), show (2 + x * 3 + r - 2) / 3 = x by omega, show (2 + x * 3 + r - 2) % 3 = r by omega] at q
  exact ⟨q, World.rowIs.frozen h.row _⟩
theorem RG.c0 (h : RG w base C g d) : w.cell? ⟨C, 0, none⟩ = some d.vm ∧ w.frozen? ⟨C, 0, none⟩ = false := ⟨World.rowIs.cell h.row (i := 0) (by omega), World.rowIs.frozen h.row 0⟩
theorem RG.c1 (h : RG w base C g d) : w.cell? ⟨C, 1, none⟩ = some (.pointer (some ⟨d.Q, 0, none⟩)) ∧ w.frozen? ⟨C, 1, none⟩ = false := ⟨World.rowIs.cell h.row (i := 1) (by omega), World.rowIs.frozen h.row 1⟩
theorem RG.c95 (h : RG w base C g d) : w.cell? ⟨C, 95, none⟩ = some (.int .i64 (g.many : Int)) ∧ w.frozen? ⟨C, 95, none⟩ = false := ⟨World.rowIs.cell h.row (i := 95) (by omega), World.rowIs.frozen h.row 95⟩
theorem RG.c96 (h : RG w base C g d) : w.cell? ⟨C, 96, none⟩ = some d.vH ∧ w.frozen? ⟨C, 96, none⟩ = false := ⟨World.rowIs.cell h.row (i := 96) (by omega), World.rowIs.frozen h.row 96⟩
/-- a word was said -/
theorem CRes.word {w0 : World} {g0 : G} {d0 : Loc} (h0 : CRes w0 w base C g0 d0 g d) {x : Nat} (hx : x ≤ 30) {b cap : Nat} {who : Int} {clk : List Int} (hcl : w.ownsRow base 3 1 (.slice (some ⟨b, 0, none⟩) 5 cap) 5 (clk.map (Value.int .i64))) (hb : b ∉ d.cl) (hb0 : w0.heap.size ≤ b) :
    CRes w0 (((w.setCell ⟨C, 2 + x * 3, none⟩ (.int .i64 who)).setCell ⟨C, 2 + x * 3 + 1, none⟩ (.int .i64 (x : Int))).setCell ⟨C, 2 + x * 3 + 2, none⟩ (.slice (some ⟨b, 0, none⟩) 5 cap)) base C g0 d0
      { g with said := fun y => if y = (x : Int) then some (who, (x : Int), clk) else g.said y } { d with at_ := fun y => if y = (x : Int) then (b, 0, cap) else d.at_ y, cl := b :: d.cl } := by
  have h := h0.rg
  obtain ⟨w3, ew3⟩ : ∃ w3, w3 = ((w.setCell ⟨C, 2 + x * 3, none⟩ (.int .i64 who)).setCell ⟨C, 2 + x * 3 + 1, none⟩ (.int .i64 (x : Int))).setCell ⟨C, 2 + x * 3 + 2, none⟩ (.slice (some ⟨b, 0, none⟩) 5 cap) := ⟨_, rfl⟩
  have r3 := ((World.rowIs.set h.row (2 + x * 3) (.int .i64 who)).set (2 + x * 3 + 1) (.int .i64 (x : Int))).set (2 + x * 3 + 2) (.slice (some ⟨b, 0, none⟩) 5 cap)
  have hne : ∀ k, k ≠ C → w3.heap[k]? = w.heap[k]? := fun k q => by
    rw [ew3]
    exact ((Deep.blk_setCell_other _ _ _ _ q).trans (Deep.blk_setCell_other _ _ _ _ q)).trans (Deep.blk_setCell_other _ _ _ _ q)
  have hs : w3.heap.size = w.heap.size := by rw [ew3]; simp [World.setCell]
  have hbw : Below base w w3 := by
    rw [ew3]
    exact (((Below.refl base w).setCell (p := ⟨C, 2 + x * 3, none⟩) h.low _).setCell (p := ⟨C, 2 + x * 3 + 1, none⟩) h.low _).setCell (p := ⟨C, 2 + x * 3 + 2, none⟩) h.low _
  rw [← ew3] at r3 ⊢
  have tyb : tyOf w b = some 3 := ty_own hcl rfl
  have hbl := own_lt hcl b rfl
  have tyc : ∀ y ∈ b :: d.cl, tyOf w y = some 3 ∧ base ≤ y ∧ y < w.heap.size := by
    intro y hy
    rcases List.mem_cons.1 hy with rfl | hy
    · exact ⟨tyb, hbl⟩
    · exact h.cty y hy
  have kc : Keep (· ∈ b :: d.cl) w w3 := fun y hy => hne y (ty_ne (tyc y hy).1 h.tyC (by decide))
  refine ⟨⟨r3.congr fun j hj => ?_, own_block h.mem fun k q => hne k (ty_ne (h.tyM q) h.tyC (by decide)), fun i hi => ⟨?_, (h.rc i hi).2⟩, h.rn.of_blocks (hne _ (ty_ne h.tyQ h.tyC (by decide))) fun k q => hne k (ty_ne (h.tyN q) h.tyC (by decide)), own_block h.evs fun k q => hne k (ty_ne (h.tyH q) h.tyC (by decide)), fun y s q => ?_, fun y hy => ?_, h.sep, h.low⟩, h0.bel.trans hbw, fun y hy hn => ?_, fun y hy => ?_⟩
  · unfold cgv saidV
    by_cases e2 : j = 2 + x * 3 + 2
    · subst e2
      rw [if_pos rfl, if_neg (by omega), if_neg (by omega), if_neg (by omega), if_neg (by omega), show (2 + x * 3 + 2 - 2) / 3 = x by omega, show (2 + x * 3 + 2 - 2) % 3 = 2 by omega]
      simp
    · rw [if_neg e2]
      by_cases e1 : j = 2 + x * 3 + 1
      · subst e1
        rw [if_pos rfl, if_neg (by omega), if_neg (by omega), if_neg (by omega), if_neg (by omega), show (2 + x * 3 + 1 - 2) / 3 = x by omega, show (2 + x * 3 + 1 - 2) % 3 = 1 by omega]
        simp
      · rw [if_neg e1]
        by_cases e0 : j = 2 + x * 3
        · subst e0
          rw [if_pos rfl, if_neg (by omega), if_neg (by omega), if_neg (by omega), if_neg (by omega), show (2 + x * 3 - 2) / 3 = x by omega, show (2 + x * 3 - 2) % 3 = 0 by omega]
          simp
        · rw [if_neg e0]
          by_cases z0 : j = 0
          · rw [if_pos z0, if_pos z0]
          · rw [if_neg z0, if_neg z0]
            by_cases z1 : j = 1
            · rw [if_pos z1, if_pos z1]
            · rw [if_neg z1, if_neg z1]
              by_cases z2 : j = 95
              · rw [if_pos z2, if_pos z2]
              · rw [if_neg z2, if_neg z2]
                by_cases z3 : j = 96
                · rw [if_pos z3, if_pos z3]
                · rw [if_neg z3, if_neg z3]
                  have hn : ¬ ((((j - 2) / 3 : Nat) : Int) = (x : Int)) := by omega
                  show (match g.said (((j - 2) / 3 : Nat) : Int) with | none => _ | some s => _) = (match (if (((j - 2) / 3 : Nat) : Int) = (x : Int) then some (who, (x : Int), clk) else g.said (((j - 2) / 3 : Nat) : Int)) with | none => _ | some s => _)
                  rw [if_neg hn]
                  simp only [if_neg hn]
                  rfl
  · have hc := (h.rc i hi).1.of_blocks (w' := w3) (by omega) (fun y hy => kc y (List.mem_cons_of_mem _ hy)) (hne _ (ty_ne (h.tyP hi) h.tyC (by decide))) fun k q => hne k (ty_ne (h.tyS hi q) h.tyC (by decide))
    exact rc_more hc (fun y hy => List.mem_cons_of_mem _ hy) (fun q => ty_ne (tyc _ q).1 (h.tyP hi) (by decide) rfl) (fun k q q2 => ty_ne (tyc k q2).1 (h.tyS hi q) (by decide) rfl) (fun y hy => by rw [hs]; exact (tyc y hy).2.2)
  · have q' : (if y = (x : Int) then some (who, (x : Int), clk) else g.said y) = some s := q
    show Old w3 (· ∈ b :: d.cl) (some ⟨(if y = (x : Int) then (b, 0, cap) else d.at_ y).1, (if y = (x : Int) then (b, 0, cap) else d.at_ y).2.1, none⟩) s.2.2
    by_cases e : y = (x : Int)
    · rw [if_pos e] at q'
      rw [if_pos e]
      have es := (Option.some.inj q').symm
      subst es
      refine ⟨b, 0, rfl, List.mem_cons_self .., ?_, fun k hk => ?_⟩
      · have := hcl.1
        simpa using this
      · obtain ⟨a, c, e1, e2⟩ := Fif.own_vw hcl
        cases e1
        obtain ⟨b', o', e3, _, hcc⟩ := e2.2 (by omega)
        cases e3
        exact (World.cell?_of_block (a := ⟨b, 0 + k, none⟩) (hne b (ty_ne tyb h.tyC (by decide)))).trans (hcc k hk)
    · rw [if_neg e] at q'
      rw [if_neg e]
      obtain ⟨b', off, e1, e2, e3⟩ := (h.clk y s q').later (w' := w3) fun z hz => kc z (List.mem_cons_of_mem _ hz)
      exact ⟨b', off, e1, List.mem_cons_of_mem _ e2, e3⟩
  · rw [ty_same (kc y hy), hs]
    exact tyc y hy
  · have hyw : y < w.heap.size := Nat.lt_of_lt_of_le hy h0.bel.size
    rw [hne y, h0.kp y hy hn]
    intro e
    have := h0.new C (.inl rfl)
    rcases this with a | a
    · exact hn (by rw [e]; exact a)
    · omega
  · rcases hy with a | a | a | a | a | a | a
    · exact h0.new y (.inl a)
    · exact h0.new y (.inr (.inl a))
    · exact h0.new y (.inr (.inr (.inl a)))
    · exact h0.new y (.inr (.inr (.inr (.inl a))))
    · exact h0.new y (.inr (.inr (.inr (.inr (.inl a)))))
    · exact h0.new y (.inr (.inr (.inr (.inr (.inr (.inl a))))))
    · rcases List.mem_cons.1 a with rfl | a
      · exact .inr hb0
      · exact h0.new y (.inr (.inr (.inr (.inr (.inr (.inr a))))))
end Go.Proofs.YtgnffanlgmbieaeDoor.Cas
