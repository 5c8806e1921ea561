/-
  The document's own Pass.
-/
import Derived.Test.YtfjhjjikaodadagDoorTkqF
import Derived.Test.YtfjhjjikaodadagDoorTokF
import Derived.Deep.QuietTactic
import Derived.BigQuiet
import Derived.Deep.RegionHeld3
import Derived.Deep.CutBlock
import Derived.Deep.AppendLies
import Derived.Deep.RegionLaw
import Derived.Maps.RangeWalk
import Derived.Deep.CutRange
import Derived.WalkLawsBesides
import Derived.Handy
namespace Go.Proofs.YtfjhjjikaodadagDoor.Tok
open Go.RowKit
open Go.Proofs.YtfjhjjikaodadagDoor.Fif (own_lt own_block own_form own_mono)
open Go.Proofs.YtfjhjjikaodadagDoor.Off (OR)
open Go.Proofs.YtfjhjjikaodadagDoor.Sep (KpL NewL)
set_option linter.unusedVariables false

/-- as far as it goes -/
def kI (k : K) (i : Nat) : K := { k with pl := k.pl + i, wt := up k.wt k.hold ((k.wt k.hold).drop i) }
structure PM (w wr : World) (base Q : Nat) (k : K) (v : Nat → Value) (y : Value) (i : Nat) (v' : Nat → Value) : Prop where
  le1 : i ≤ k.most
  le2 : i ≤ (k.wt k.hold).length
  out : Po wr w.heap.size y (plN k.pl ((k.wt k.hold).take i))
  mem : RT wr base Q (kI k i) v'
  low : Below base w wr
  kp : KpL w wr (rfp Q v)
  nw : ∀ b ∈ rfp Q v', b ∈ rfp Q v
theorem kI_zero (k : K) : kI k 0 = k := by
  unfold kI
  have : up k.wt k.hold ((k.wt k.hold).drop 0) = k.wt := by
    funext i
    unfold up
    split
    · rename_i e; rw [e]; rfl
    · rfl
  rw [this]
  rfl
variable {w w' : World} {base Q : Nat} {k : K} {v : Nat → Value}
theorem kp_transT {w1 w2 w3 : World} {fp : List Nat} (h : KpL w1 w2 fp) (h' : KpL w2 w3 fp) : KpL w1 w3 fp := ⟨Nat.le_trans h.1 h'.1, fun b hb hn => (h'.2 b (Nat.lt_of_lt_of_le hb h.1) hn).trans (h.2 b hb hn)⟩
set_option maxRecDepth 100000 in
set_option maxHeartbeats 4000000 in
theorem refPass (h : RT w base Q k v) (hi : Inv k) (hbw : base ≤ w.heap.size) : Calls Tryd.prog 18 #[.pointer (some ⟨Q, 0, none⟩)] w fun x w' => ∃ y v', x = .returned y ∧ Po w' w.heap.size y (passL k) ∧ RT w' base Q (pass k) v' ∧ Below base w w' ∧ KpL w w' (rfp Q v) ∧ NewL w (rfp Q v) (rfp Q v') := by
  have M0 : Hid (PM w w base Q k v (.slice none 0 0) 0 v) := ⟨Nat.zero_le _, Nat.zero_le _, World.ownsRow_nil _ _ _ _, by rw [kI_zero]; exact h, Below.refl _ _, ⟨Nat.le_refl _, fun _ _ _ => rfl⟩, fun _ q => q⟩
  have HG : Hid (RT w base Q k v ∧ Inv k ∧ base ≤ w.heap.size) := ⟨h, hi, hbw⟩
  obtain ⟨ip, hip, hz0, hz1, hz2⟩ := info_pl
  have HP : Hid (Tryd.prog.info? 37 = some ip ∧ ip.zero = some (.agg #[.int .i64 0, .int .i64 0]) ∧ ip.size = 2 ∧ ip.bytes = 16) := ⟨hip, hz0, hz1, hz2⟩
  obtain ⟨m, em⟩ : ∃ m, m = k.hold := ⟨_, rfl⟩
  obtain ⟨mo, emo⟩ : ∃ mo, mo = k.most := ⟨_, rfl⟩
  have EM : Hid (m = k.hold ∧ mo = k.most ∧ m < 5 ∧ m < k.n) := ⟨em, emo, by have := hi.hold; have := hi.five; omega, by rw [em]; exact hi.hold⟩
  have hm5 : m < 5 := EM.out.2.2.1
  have hm0 : (0 : Int) ≤ (m : Int) := by omega
  have hm5' : (m : Int) < 5 := by omega
  have hmo : mo ≤ 10 := by rw [emo]; exact hi.m10
  clear h hi hbw hip hz0 hz1 hz2 em emo
  go_enter Tryd.func18, Tryd.ntmps18
  go_upto_block 0 with fail
  go_cut [3, 4] from 5 to 69 (fun x3 x4 wc => ∃ y v' i, y = x3 ∧ Hid (PM w wc base Q k v y i v' ∧ (i = k.most ∨ i = (k.wt k.hold).length)))
  case first =>
    go_wp2_with fail
    go_loopw [3, 4] (fun x3 x4 wr => ∃ (i : Nat) (y : Value) (v' : Nat → Value), y = x3 ∧ x4 = .int .i64 (i : Int) ∧ i ≤ 10 ∧ Hid (PM w wr base Q k v y i v')) (fun _ x _ => 11 - (intOf x).toNat)
    case atStart => exact ⟨0, _, v, rfl, rfl, by omega, M0⟩
    case round =>
      obtain ⟨i, y, v', rfl, rfl, hi10, hM⟩ := hrel
      have c1 : wr.cell? ⟨Q, 1, none⟩ = some (.int .i64 (mo : Int)) := by rw [EM.out.2.1]; exact hM.out.mem.c1
      have c2 : wr.cell? ⟨Q, 2, none⟩ = some (.int .i64 (m : Int)) := by rw [EM.out.1]; exact hM.out.mem.c2
      have c3 : wr.cell? ⟨Q, 3, none⟩ = some (.int .i64 ((k.pl + i : Nat) : Int)) := hM.out.mem.c3
      have c4 : wr.cell? ⟨Q, 4 + m, none⟩ = some (v' m) := hM.out.mem.cw hm5
      have hOR : OR wr base (v' m) ((k.wt m).drop i) := by
        have q := hM.out.mem.wt m hm5
        have e : (kI k i).wt m = (k.wt m).drop i := by
          show up k.wt k.hold _ m = _
          rw [← EM.out.1, up_same]
        rw [e] at q
        exact q
      by_cases hlt : i < mo
      · have hlt' : (i : Int) < (mo : Int) := by omega
        cases hd : (k.wt m).drop i with
        | nil =>
          rw [hd] at hOR
          obtain ⟨a, cap, ev⟩ := hOR.form
          rw [ev] at c4
          have HE : Hid (i = (k.wt k.hold).length) := by
            have q := congrArg List.length hd
            rw [List.length_drop] at q
            have := hM.out.le2
            rw [← EM.out.1] at this ⊢
            simp at q
            show _ = _
            omega
          have l0 : ([] : List Int).length = 0 := rfl
          rw [l0] at c4
          clear hOR hd ev l0
          go_wp2_with fail
          go_quiet (fail)
          go_wp2
          go_meet
          exact ⟨_, v', i, rfl, ⟨hM.out.le1, hM.out.le2, own_block hM.out.out fun _ _ => rfl, hM.out.mem.of_blocks fun _ _ => rfl, ⟨hM.out.low.os, hM.out.low.tape, hM.out.low.output, hM.out.low.size, hM.out.low.block⟩, hM.out.kp, hM.out.nw⟩, .inr HE.out⟩
        | cons x l =>
          rw [hd] at hOR
          obtain ⟨g, off, cap, ev, hcl, hcm, hx, ht1, ht2⟩ := hOR.tail
          obtain ⟨n1, en1⟩ : ∃ n1, n1 = l.length + 1 := ⟨_, rfl⟩
          rw [← en1] at ev hcl
          rw [ev] at c4
          have hL : l.length + i + 1 = (k.wt m).length := by
            have q := congrArg List.length hd
            rw [List.length_drop, List.length_cons] at q
            omega
          have h30 := HG.out.2.1.len m
          have hn1 : n1 ≤ 30 := by omega
          have hpl : k.pl + i ≤ 30 := by omega
          obtain ⟨pj, epj⟩ : ∃ pj : Int, pj = ((k.pl + i : Nat) : Int) := ⟨_, rfl⟩
          have hpj : 0 ≤ pj ∧ pj ≤ 30 := by rw [epj]; omega
          rw [← epj] at c3
          have ED : Hid ((k.wt m).drop i = x :: l ∧ n1 = l.length + 1 ∧ v' m = .slice (some ⟨g, off, none⟩) n1 cap ∧ pj = ((k.pl + i : Nat) : Int) ∧ l.length + i + 1 = (k.wt m).length ∧ (cap ≠ 1 → OR wr base (.slice (some ⟨g, off + 1, none⟩) l.length (cap - 1)) l) ∧ (cap = 1 → OR wr base (.slice (some ⟨g, off, none⟩) l.length (cap - 1)) l)) := ⟨hd, en1, ev, epj, hL, ht1, ht2⟩
          obtain ⟨qo, co, eo⟩ := own_form hM.out.out
          have elo : (plN k.pl ((k.wt k.hold).take i)).length = i := by
            rw [plN_len, List.length_take]
            have := hM.out.le2
            omega
          rw [elo] at eo
          subst eo
          have OO : Hid (wr.ownsRow w.heap.size 37 2 (.slice qo i co) i (flatP (plN k.pl ((k.wt k.hold).take i)))) := by
            have o := hM.out.out
            unfold Po at o
            rw [elo] at o
            exact o
          have hn0 : (0 : Int) < (n1 : Int) := by omega
          have hQl := hM.out.mem.lt
          have hgl : g < wr.heap.size := (hOR.lt g (by rw [ev]; rfl)).2
          have SZ : Hid (w.heap.size ≤ wr.heap.size) := hM.out.low.size
          clear hOR hd ev en1 epj hL h30 ht1 ht2 elo
          go_wp2_with fail
          go_quiet (fail)
          obtain ⟨W4, eW4⟩ : ∃ W4, W4 = wr.drewN nq := ⟨_, rfl⟩
          rw [← eW4]
          have K4 : Hid (W4.heap = wr.heap ∧ W4.os = wr.os ∧ W4.tape = wr.tape ∧ W4.output = wr.output) := by rw [eW4]; exact ⟨rfl, rfl, rfl, rfl⟩
          have c2 : W4.cell? ⟨Q, 2, none⟩ = some (.int .i64 (m : Int)) := (World.cell?_of_block (by rw [K4.out.1])).trans c2
          have c3 : W4.cell? ⟨Q, 3, none⟩ = some (.int .i64 pj) := (World.cell?_of_block (by rw [K4.out.1])).trans c3
          have c4 : W4.cell? ⟨Q, 4 + m, none⟩ = some (.slice (some ⟨g, off, none⟩) n1 cap) := (World.cell?_of_block (by rw [K4.out.1])).trans c4
          have hx4 : W4.cell? ⟨g, off, none⟩ = some (.int .i64 x) := (World.cell?_of_block (by rw [K4.out.1])).trans hx
          have hQ4 : Q < W4.heap.size := by rw [K4.out.1]; exact hQl
          have hg4 : g < W4.heap.size := by rw [K4.out.1]; exact hgl
          have O4 : Hid (W4.ownsRow w.heap.size 37 2 (.slice qo i co) i (flatP (plN k.pl ((k.wt k.hold).take i))) ∧ w.heap.size ≤ W4.heap.size) := ⟨own_block OO.out fun b _ => by rw [K4.out.1], by rw [K4.out.1]; exact SZ.out⟩
          clear eW4 hx c1 hQl hgl
          go_wp2_with fail
          go_region_law ((refine step_append_lies _ (by rfl) _ _ _ (by rfl) w.heap.size 37 ip (.agg #[.int .i64 0, .int .i64 0]) 2 16 Tryd.underlying56 HP.out.1 HP.out.2.1 HP.out.2.2.1 HP.out.2.2.2 rfl (by omega) (.slice qo i co) i (flatP (plN k.pl ((k.wt k.hold).take i))) (by rfl) (by exact own_pushT O4.out.1 rfl) ⟨W4.heap.size, 0, none⟩ 1 1 (flatP [(pj, x)]) (by rfl) (by rfl) (by exact new_pushP rfl) (flatP_one _) (by omega) (by unfold maxLen; omega) (by omega) (by have := O4.out.2; simp; omega) (W4.heap.size + 1) (by simp) ?_; intro gg gc w8 hown hgrow hat hlt8; have HG8 : Hid (W4.grownBy w8 (Value.slice qo i co).ownBlock) := grown_tmpT hgrow rfl rfl rfl rfl; have HO8 : Hid (w8.ownsRow w.heap.size 37 2 (.slice (some ⟨gg, 0, none⟩) (i + 1) gc) (i + 1) (flatP (plN k.pl ((k.wt k.hold).take i)) ++ flatP [(pj, x)]) ∧ w.heap.size ≤ gg) := ⟨hown, (own_lt hown gg (by simp [Value.ownBlock])).1⟩; clear hown hgrow hat hlt8))
          all_goals
            have G8 : Hid (RT w8 base Q (kI k i) v') := by
              refine hM.out.mem.of_blocks fun b hb => ?_
              have hb2 := HG.out.1.fp b (hM.out.nw b hb)
              rw [HG8.out.block b (by have := O4.out.2; omega) (fun e => by have := (own_lt O4.out.1 b e.symm).1; omega), K4.out.1]
            have d2 : w8.cell? ⟨Q, 2, none⟩ = some (.int .i64 (m : Int)) := by rw [EM.out.1]; exact G8.out.c2
            have d3 : w8.cell? ⟨Q, 3, none⟩ = some (.int .i64 pj) := by rw [ED.out.2.2.2.1]; exact G8.out.c3
            have d4 : w8.cell? ⟨Q, 4 + m, none⟩ = some (.slice (some ⟨g, off, none⟩) n1 cap) := by rw [← ED.out.2.2.1]; exact G8.out.cw hm5
            have z3 := G8.out.fr 3
            have z4 := G8.out.fr (4 + m)
            have hQ8 := G8.out.lt
            have s1 : (1 : Int) ≤ (n1 : Int) := by omega
            have s2 : (n1 : Int) ≤ (cap : Int) := by omega
            have s3 : (1 : Int) ≤ (cap : Int) := by omega
            have U : Hid (∃ u, (cap = 1 → u = Value.slice (some ⟨g, off, none⟩) 0 0) ∧ (cap ≠ 1 → u = Value.slice (some ⟨g, off + 1, none⟩) (n1 - 1) (cap - 1)) ∧ OR wr base u l ∧ u.ownBlock = some g) := by
              by_cases hcap : cap = 1
              · have q := ED.out.2.2.2.2.2.2 hcap
                refine ⟨.slice (some ⟨g, off, none⟩) 0 0, fun _ => rfl, fun z => absurd hcap z, ?_, rfl⟩
                have e : l.length = 0 := by have := ED.out.2.1; omega
                rw [e, hcap] at q
                exact q
              · have q := ED.out.2.2.2.2.2.1 hcap
                refine ⟨.slice (some ⟨g, off + 1, none⟩) (n1 - 1) (cap - 1), fun z => absurd z hcap, fun _ => rfl, ?_, rfl⟩
                rw [ED.out.2.1]
                exact q
            obtain ⟨u, hu1, hu2, hu3, hu4⟩ := U.out
            have UU : Hid (OR wr base u l ∧ u.ownBlock = some g) := ⟨hu3, hu4⟩
            clear c2 c3 c4 hx4 hQ4 hg4 U hu3 hu4
            have fin : Hid (∀ X : World, X.heap = (w8.setCell ⟨Q, 4 + m, none⟩ u).heap → X.os = w8.os → X.tape = w8.tape → X.output = w8.output → RT X base Q { kI k (i + 1) with pl := k.pl + i } (up v' m u) ∧ Below base w X ∧ KpL w X (rfp Q v) ∧ (∀ b ∈ rfp Q (up v' m u), b ∈ rfp Q v) ∧ Po X w.heap.size (.slice (some ⟨gg, 0, none⟩) (i + 1) gc) (plN k.pl ((k.wt k.hold).take (i + 1)))) := by
              intro X e0 e1 e2 e3
              have hbl : ∀ b, b < W4.heap.size → (Value.slice qo i co).ownBlock ≠ some b → w8.heap[b]? = wr.heap[b]? := fun b hb hn => by rw [HG8.out.block b hb (fun e => hn e.symm), K4.out.1]
              have hvg : (v' m).ownBlock = some g := by rw [ED.out.2.2.1]; rfl
              have hgv : g ∈ rfp Q v := hM.out.nw g (mem_rfp.2 (.inr ⟨m, hm5, hvg⟩))
              have hg8 := HG.out.1.fp g hgv
              have hout : ∀ b, (Value.slice qo i co).ownBlock = some b → w.heap.size ≤ b := fun b q => (own_lt O4.out.1 b q).1
              have hor : OR w8 base u l := UU.out.1.of_block fun b q => by
                rw [UU.out.2] at q
                cases q
                exact hbl _ (by have := O4.out.2; omega) (fun z => by have := hout _ z; omega)
              have hr := G8.out.setWt hm5 (u := u) (l := l) (w' := w8) (fun _ _ _ => rfl) hor (fun b q => .inl (by rw [UU.out.2] at q; rw [hvg]; exact q))
              have ek : ({ kI k i with wt := up (kI k i).wt m l } : K) = { kI k (i + 1) with pl := k.pl + i } := by
                have e : up (kI k i).wt m l = (kI k (i + 1)).wt := by
                  show up (up k.wt k.hold ((k.wt k.hold).drop i)) m l = up k.wt k.hold ((k.wt k.hold).drop (i + 1))
                  rw [← EM.out.1]
                  funext j
                  unfold up
                  by_cases e : j = m
                  · rw [if_pos e, if_pos e]
                    have := ED.out.1
                    rw [← List.drop_drop, this]
                    rfl
                  · rw [if_neg e, if_neg e, if_neg e]
                rw [e]
                rfl
              rw [ek] at hr
              have b8 : Below base w w8 := by
                have b4 : Below base w W4 := ⟨K4.out.2.1.trans hM.out.low.os, K4.out.2.2.1.trans hM.out.low.tape, K4.out.2.2.2.trans hM.out.low.output, by rw [K4.out.1]; exact hM.out.low.size, fun b hb => by rw [K4.out.1]; exact hM.out.low.block b hb⟩
                exact b4.grown HG8.out (by have := O4.out.2; have := HG.out.2.2; omega) (fun b q => by have := hout b q; have := HG.out.2.2; omega)
              have b9 : Below base w (w8.setCell ⟨Q, 4 + m, none⟩ u) := b8.setCell (p := ⟨Q, 4 + m, none⟩) HG.out.1.low _
              have hnw : ∀ b ∈ rfp Q (up v' m u), b ∈ rfp Q v := fun b hb => by
                rcases mem_rfp.1 hb with rfl | ⟨j, hj, q⟩
                · exact mem_rfp.2 (.inl rfl)
                · by_cases e : j = m
                  · rw [e, up_same, UU.out.2] at q
                    cases q
                    exact hgv
                  · rw [up_other _ _ e] at q
                    exact hM.out.nw b (mem_rfp.2 (.inr ⟨j, hj, q⟩))
              refine ⟨hr.of_blocks fun b _ => by rw [e0], ⟨by rw [e1]; exact b8.os, by rw [e2]; exact b8.tape, by rw [e3]; exact b8.output, by rw [e0]; exact b9.size, fun b hb => by rw [e0]; exact b9.block b hb⟩, ⟨by rw [e0]; exact b9.size, fun b hb hn => ?_⟩, hnw, ?_⟩
              · rw [e0, Deep.blk_setCell_other _ _ _ _ (fun z => hn (mem_rfp.2 (.inl z))), hbl b (by have := O4.out.2; omega) (fun z => by have := hout b z; omega)]
                exact hM.out.kp.2 b hb hn
              · have e4 : (k.wt k.hold).take (i + 1) = (k.wt k.hold).take i ++ [x] := by
                  have hlt : i < (k.wt m).length := by have := ED.out.2.2.2.2.1; omega
                  rw [← EM.out.1, List.take_succ_eq_append_getElem hlt]
                  congr 2
                  have := ED.out.1
                  rw [List.drop_eq_getElem_cons hlt] at this
                  exact (List.cons.inj this).1
                have e5 : ((k.wt k.hold).take i).length = i := by rw [List.length_take]; have := hM.out.le2; omega
                have e6 : plN k.pl ((k.wt k.hold).take (i + 1)) = plN k.pl ((k.wt k.hold).take i) ++ [(pj, x)] := by rw [e4, plN_snoc, e5, ED.out.2.2.2.1]
                have e7 : (plN k.pl ((k.wt k.hold).take (i + 1))).length = i + 1 := by rw [e6, List.length_append, plN_len, e5]; rfl
                show World.ownsRow _ _ _ _ _ _ _
                rw [e7, e6, flatP_append]
                refine own_block HO8.out.1 fun b q => ?_
                rw [e0, Deep.blk_setCell_other _ _ _ _ (fun z => by have z' : b = Q := z; have := (own_lt HO8.out.1 b q).1; have := HG.out.1.lt; omega)]
            have hle : i + 1 ≤ k.most ∧ i + 1 ≤ (k.wt k.hold).length := by
              have h1 := EM.out.2.1
              have h2 := ED.out.2.2.2.2.1
              rw [EM.out.1] at h2
              omega
            have LE : Hid (i + 1 ≤ k.most ∧ i + 1 ≤ (k.wt k.hold).length) := hle
            clear hle
            by_cases hcap : cap = 1
            · have eu := hu1 hcap
              subst hcap
              subst eu
              go_wp2_with fail
              go_region
              all_goals
                obtain ⟨X6, e6⟩ : ∃ X6, X6 = (w8.setCell ⟨Q, 4 + m, none⟩ (.slice (some ⟨g, off, none⟩) 0 0)).drew := ⟨_, rfl⟩
                rw [← e6]
                have F6 : Hid _ := fin.out X6 (by rw [e6]; rfl) (by rw [e6]; rfl) (by rw [e6]; rfl) (by rw [e6]; rfl)
                have g3 : X6.cell? ⟨Q, 3, none⟩ = some (.int .i64 pj) := by rw [ED.out.2.2.2.1]; exact F6.out.1.c3
                have y3 := F6.out.1.fr 3
                have hQ6 := F6.out.1.lt
                clear e6 d2 d3 d4 z3 z4 hQ8
                go_wp2
                go_roundw
                case rel =>
                  have q := F6.out.1.setPl (k.pl + i + 1)
                  rw [show ((k.pl + i + 1 : Nat) : Int) = pj + 1 by rw [ED.out.2.2.2.1]; omega] at q
                  refine ⟨i + 1, _, _, rfl, by go_num, by omega, LE.out.1, LE.out.2, own_block F6.out.2.2.2.2 fun b z => Deep.blk_setCell_other _ _ _ _ (fun e => ?_), q, F6.out.2.1.setCell (p := ⟨Q, 3, none⟩) HG.out.1.low _, ⟨by have := F6.out.2.2.1.1; simpa [World.setCell] using this, fun b hb hn => ?_⟩, F6.out.2.2.2.1⟩
                  · have e' : b = Q := e
                    have := (own_lt F6.out.2.2.2.2 b z).1
                    have := HG.out.1.lt
                    omega
                  · rw [Deep.blk_setCell_other _ _ _ _ (fun z => hn (mem_rfp.2 (.inl z)))]
                    exact F6.out.2.2.1.2 b hb hn
                case measure => simp [intOf]; omega
            · have eu := hu2 hcap
              subst eu
              have hcap' : ¬ (cap : Int) = 1 := by omega
              go_wp2_with fail
              go_region
              all_goals
                obtain ⟨X6, e6⟩ : ∃ X6, X6 = (w8.setCell ⟨Q, 4 + m, none⟩ (.slice (some ⟨g, off + 1, none⟩) (n1 - 1) (cap - 1))).drew := ⟨_, rfl⟩
                rw [← e6]
                have F6 : Hid _ := fin.out X6 (by rw [e6]; rfl) (by rw [e6]; rfl) (by rw [e6]; rfl) (by rw [e6]; rfl)
                have g3 : X6.cell? ⟨Q, 3, none⟩ = some (.int .i64 pj) := by rw [ED.out.2.2.2.1]; exact F6.out.1.c3
                have y3 := F6.out.1.fr 3
                have hQ6 := F6.out.1.lt
                clear e6 d2 d3 d4 z3 z4 hQ8
                go_wp2
                go_roundw
                case rel =>
                  have q := F6.out.1.setPl (k.pl + i + 1)
                  rw [show ((k.pl + i + 1 : Nat) : Int) = pj + 1 by rw [ED.out.2.2.2.1]; omega] at q
                  refine ⟨i + 1, _, _, rfl, by go_num, by omega, LE.out.1, LE.out.2, own_block F6.out.2.2.2.2 fun b z => Deep.blk_setCell_other _ _ _ _ (fun e => ?_), q, F6.out.2.1.setCell (p := ⟨Q, 3, none⟩) HG.out.1.low _, ⟨by have := F6.out.2.2.1.1; simpa [World.setCell] using this, fun b hb hn => ?_⟩, F6.out.2.2.2.1⟩
                  · have e' : b = Q := e
                    have := (own_lt F6.out.2.2.2.2 b z).1
                    have := HG.out.1.lt
                    omega
                  · rw [Deep.blk_setCell_other _ _ _ _ (fun z => hn (mem_rfp.2 (.inl z)))]
                    exact F6.out.2.2.1.2 b hb hn
                case measure => simp [intOf]; omega
      · have hlt' : ¬ (i : Int) < (mo : Int) := by omega
        have HE : Hid (i = k.most) := by have := hM.out.le1; have := EM.out.2.1; show _ = _; omega
        go_wp2_with fail
        go_quiet (fail)
        go_wp2
        go_meet
        exact ⟨_, v', i, rfl, ⟨hM.out.le1, hM.out.le2, own_block hM.out.out fun _ _ => rfl, hM.out.mem.of_blocks fun _ _ => rfl, ⟨hM.out.low.os, hM.out.low.tape, hM.out.low.output, hM.out.low.size, hM.out.low.block⟩, hM.out.kp, hM.out.nw⟩, .inl HE.out⟩
  case rest =>
    obtain ⟨y, v', i, rfl, hM⟩ := hcut
    obtain ⟨w9, ew9⟩ : ∃ w9, w9 = wc := ⟨_, rfl⟩
    subst ew9
    have HE : Hid ((k.wt k.hold).take i = out k ∧ (k.wt k.hold).drop i = (k.wt k.hold).drop k.most ∧ i = (out k).length) := by
      unfold out
      have h1 := hM.out.1.le1
      have h2 := hM.out.1.le2
      rcases hM.out.2 with e | e
      · rw [e, List.length_take]
        refine ⟨rfl, rfl, ?_⟩
        omega
      · rw [e, List.length_take, List.take_length, List.drop_length, List.take_of_length_le (by omega), List.drop_eq_nil_of_le (by omega)]
        refine ⟨rfl, rfl, ?_⟩
        omega
    obtain ⟨qo, co, eo⟩ := own_form hM.out.1.out
    have elo : (plN k.pl ((k.wt k.hold).take i)).length = i := by
      rw [plN_len, List.length_take]
      have := hM.out.1.le2
      omega
    rw [elo] at eo
    subst eo
    obtain ⟨n, en⟩ : ∃ n, n = k.n := ⟨_, rfl⟩
    have hmn : m < n := by rw [en]; exact EM.out.2.2.2
    have hn5 : n ≤ 5 := by rw [en]; exact HG.out.2.1.five
    have EN : Hid (n = k.n) := en
    have c2 : w9.cell? ⟨Q, 2, none⟩ = some (.int .i64 (m : Int)) := by rw [EM.out.1]; exact hM.out.1.mem.c2
    have c0 : w9.cell? ⟨Q, 0, none⟩ = some (.int .i64 (n : Int)) := by rw [en]; exact hM.out.1.mem.c0
    have z2 := hM.out.1.mem.fr 2
    have hQ9 := hM.out.1.mem.lt
    obtain ⟨W1, e1⟩ : ∃ W1, W1 = w9.setCell ⟨Q, 2, none⟩ (.int .i64 ((m : Int) + 1)) := ⟨_, rfl⟩
    have R1 : Hid (RT W1 base Q { kI k i with hold := m + 1 } v') := by
      have q := hM.out.1.mem.setHold (m + 1)
      rw [show ((m + 1 : Nat) : Int) = (m : Int) + 1 by omega] at q
      rw [e1]
      exact q
    have ek : ∀ X : Nat, X = nxt k → ({ kI k i with hold := X } : K) = pass k := fun X eX => by
      unfold pass kI
      rw [HE.out.2.1, eX, ← HE.out.2.2]
    have EK : Hid (∀ X : Nat, X = nxt k → ({ kI k i with hold := X } : K) = pass k) := ek
    have fin : Hid (∀ X : World, ∀ hX : ∀ b, b ≠ Q → X.heap[b]? = w9.heap[b]?, X.heap.size = w9.heap.size → X.os = w9.os → X.tape = w9.tape → X.output = w9.output → Po X w.heap.size (.slice qo i co) (passL k) ∧ Below base w X ∧ KpL w X (rfp Q v) ∧ NewL w (rfp Q v) (rfp Q v')) := by
      intro X hX hs a1 a2 a3
      refine ⟨?_, ⟨a1.trans hM.out.1.low.os, a2.trans hM.out.1.low.tape, a3.trans hM.out.1.low.output, by rw [hs]; exact hM.out.1.low.size, fun b hb => ?_⟩, ⟨by rw [hs]; exact hM.out.1.low.size, fun b hb hn => ?_⟩, fun b hb => .inl (hM.out.1.nw b hb)⟩
      · have o : Po w9 w.heap.size (.slice qo i co) (plN k.pl ((k.wt k.hold).take i)) := hM.out.1.out
        have e : passL k = plN k.pl ((k.wt k.hold).take i) := by unfold passL; rw [HE.out.1]
        rw [e]
        refine own_block o fun b q => hX b fun z => ?_
        have z' : b = Q := z
        have := (own_lt o b q).1
        have := HG.out.1.lt
        omega
      · rw [hX b (fun z => by have := HG.out.1.low; omega)]
        exact hM.out.1.low.block b hb
      · rw [hX b (fun z => hn (mem_rfp.2 (.inl z)))]
        exact hM.out.1.kp.2 b hb hn
    have f2 : W1.cell? ⟨Q, 2, none⟩ = some (.int .i64 ((m : Int) + 1)) := by
      have q := R1.out.c2
      have q' : W1.cell? ⟨Q, 2, none⟩ = some (.int .i64 ((m + 1 : Nat) : Int)) := q
      rw [show ((m + 1 : Nat) : Int) = (m : Int) + 1 by omega] at q'
      exact q'
    have f0 : W1.cell? ⟨Q, 0, none⟩ = some (.int .i64 (n : Int)) := by rw [en]; exact R1.out.c0
    have y2 := R1.out.fr 2
    have hQ1 := R1.out.lt
    have E1 : Hid (W1 = w9.setCell ⟨Q, 2, none⟩ (.int .i64 ((m : Int) + 1))) := e1
    clear elo en ek
    go_upto_region 9 with fail
    rw [← e1]
    clear e1 c2 c0 z2 hQ9
    by_cases hw : m + 1 = n
    · have hw' : ((m : Int) + 1 == (n : Int)) = true := by simp; omega
      have HN : Hid (0 = nxt k) := by
        show 0 = (if k.hold + 1 = k.n then 0 else k.hold + 1)
        rw [← EM.out.1, ← EN.out, if_pos hw]
      go_wp2_with fail
      go_quiet (fail)
      go_wp2
      go_ret
      have hX : ∀ b, b ≠ Q → ((W1.drewN nq).setCell ⟨Q, 2, none⟩ (.int .i64 0)).heap[b]? = w9.heap[b]? := fun b hb => by
        rw [Deep.blk_setCell_other _ _ _ _ hb]
        show W1.heap[b]? = _
        rw [E1.out, Deep.blk_setCell_other _ _ _ _ hb]
      obtain ⟨a1, a2, a3, a4⟩ := fin.out _ hX (by rw [E1.out]; simp [World.setCell]) (by rw [E1.out]; rfl) (by rw [E1.out]; rfl) (by rw [E1.out]; rfl)
      have r2 := (R1.out.of_blocks (w' := W1.drewN nq) fun _ _ => rfl).setHold 0
      have e2 := EK.out 0 HN.out
      refine ⟨_, v', rfl, a1, ?_, a2, a3, a4⟩
      rw [← e2]
      exact r2
    · have hw' : ((m : Int) + 1 == (n : Int)) = false := by simp; omega
      have HN : Hid (m + 1 = nxt k) := by
        show m + 1 = (if k.hold + 1 = k.n then 0 else k.hold + 1)
        rw [← EM.out.1, ← EN.out, if_neg hw]
      go_wp2_with fail
      go_quiet (fail)
      go_wp2
      go_ret
      have hX : ∀ b, b ≠ Q → (W1.drewN nq).heap[b]? = w9.heap[b]? := fun b hb => by
        show W1.heap[b]? = _
        rw [E1.out, Deep.blk_setCell_other _ _ _ _ hb]
      obtain ⟨a1, a2, a3, a4⟩ := fin.out _ hX (by rw [E1.out]; simp [World.setCell]) (by rw [E1.out]; rfl) (by rw [E1.out]; rfl) (by rw [E1.out]; rfl)
      have r2 := R1.out.of_blocks (w' := W1.drewN nq) fun _ _ => rfl
      have e2 := EK.out (m + 1) HN.out
      refine ⟨_, v', rfl, a1, ?_, a2, a3, a4⟩
      rw [← e2]
      exact r2
end Go.Proofs.YtfjhjjikaodadagDoor.Tok
