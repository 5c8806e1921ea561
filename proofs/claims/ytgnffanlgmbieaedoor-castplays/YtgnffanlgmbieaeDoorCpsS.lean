/-
  CastPlays: how both groups stand at any time.
-/
import Derived.Test.YtgnffanlgmbieaeDoorMgQ
import Derived.Test.YtgnffanlgmbieaeDoorCasW
import Derived.Test.YtgnffanlgmbieaeDoorCasE
import Derived.Test.YtgnffanlgmbieaeDoorNetS
import Derived.Test.YtgnffanlgmbieaeDoorNetO
import Derived.Test.YtgnffanlgmbieaeDoorRowsF
import Derived.Deep.CutBlock
import Derived.Deep.CutRange
namespace Go.Proofs.YtgnffanlgmbieaeDoor.Cas
open Go.RowKit
open Go.Proofs.YtgnffanlgmbieaeDoor.Net (Pk pk Po RN errF errF_ok errF_no errF_same KpL NewL dropC dropL twC twL sendC sendL C3 c3_of isIn isIn_yes NInv refOut refSend packets_same below_same below_drews)
open Go.Proofs.YtgnffanlgmbieaeDoor.As (Laid)
open Go.Proofs.YtgnffanlgmbieaeDoor.Vec (Vw Rw ints_any)
open Go.Proofs.YtgnffanlgmbieaeDoor.His (Ev)
open Go.Proofs.YtgnffanlgmbieaeDoor.Fif (own_lt own_block own_form own_mono Kp ret_bool)
set_option linter.unusedVariables false

theorem ca_lat2 {w w' : World} {base P : Nat} {g : G} {fp : List Nat} (h : CA w base P g fp) (hb : Below w.heap.size w w') : CA w' base P g fp := h.of_blocks hb.size fun b q => hb.block b (h.fp b q).2
/-- how both stand at any time -/
def PC (w : World) (P C : Nat) (g : G) (d : Loc) (fp : List Nat) (wr : World) : Prop :=
  CA wr w.heap.size P g fp ∧ RG wr w.heap.size C g d ∧ GI g ∧ (∀ b ∈ fp, ¬ Fp C g.n d b) ∧ Below w.heap.size w wr
theorem PC.later {w : World} {P C : Nat} {g : G} {d : Loc} {fp : List Nat} {wr w' : World} (h : PC w P C g d fp wr) (hb : Below wr.heap.size wr w') : PC w P C g d fp w' :=
  ⟨ca_lat2 h.1 hb, h.2.1.later hb, h.2.2.1, h.2.2.2.1, h.2.2.2.2.trans (hb.mono h.2.2.2.2.size)⟩
/-- the document's own group has turned, the program's not yet -/
def PM (w : World) (P C : Nat) (g g' : G) (d' : Loc) (fp : List Nat) (wr : World) : Prop :=
  CA wr w.heap.size P g fp ∧ RG wr w.heap.size C g' d' ∧ (∀ b ∈ fp, ¬ Fp C g'.n d' b) ∧ Below w.heap.size w wr
theorem PC.ref {w : World} {P C : Nat} {g g' : G} {d d' : Loc} {fp : List Nat} {w4 w5 : World} (h : PC w P C g d fp w4) (r : CRes w4 w5 w.heap.size C g d g' d') : PM w P C g g' d' fp w5 :=
  ⟨h.1.of_blocks r.bel.size (fun b hb => r.kp b (h.1.fp b hb).2 (h.2.2.2.1 b hb)), r.rg, fun b hb q => (r.new b q).elim (h.2.2.2.1 b hb) (fun z => by have := (h.1.fp b hb).2; omega), h.2.2.2.2.trans r.bel⟩
theorem PM.prog {w : World} {P C : Nat} {g g' : G} {d' : Loc} {fp fp' : List Nat} {w5 w6 : World} (h : PM w P C g g' d' fp w5) (hi : GI g') (hN : CA w6 w.heap.size P g' fp') (hB : Below w.heap.size w5 w6) (hk : KpL w5 w6 fp) (hn : NewL w5 fp fp') : PC w P C g' d' fp' w6 := by
  refine ⟨hN, h.2.1.of_blocks hk.1 (fun b q => hk.2 b (h.2.1.fp q).2 (fun z => h.2.2.1 b z q)), hi, fun b hb q => ?_, h.2.2.2.trans hB⟩
  rcases hn b hb with a | a
  · exact h.2.2.1 b a q
  · have := (h.2.1.fp q).2
    omega
def PA (w : World) (P C : Nat) (wr : World) : Prop := ∃ g d fp, PC w P C g d fp wr
/-- the three numbers of a step, in a variable of the round's own -/
def V3 (wr : World) (V : Nat) (k0 k1 k2 : Int) : Prop := V < wr.heap.size ∧ wr.cell? ⟨V, 0, none⟩ = some (.int .i64 k0) ∧ wr.cell? ⟨V, 1, none⟩ = some (.int .i64 k1) ∧ wr.cell? ⟨V, 2, none⟩ = some (.int .i64 k2)
theorem V3.block {w w' : World} {V : Nat} {k0 k1 k2 : Int} (h : V3 w V k0 k1 k2) (hs : w.heap.size ≤ w'.heap.size) (e : w'.heap[V]? = w.heap[V]?) : V3 w' V k0 k1 k2 :=
  ⟨Nat.lt_of_lt_of_le h.1 hs, (World.cell?_of_block (a := ⟨V, 0, none⟩) e).trans h.2.1, (World.cell?_of_block (a := ⟨V, 1, none⟩) e).trans h.2.2.1, (World.cell?_of_block (a := ⟨V, 2, none⟩) e).trans h.2.2.2⟩
theorem V3.later {w w' : World} {V : Nat} {k0 k1 k2 : Int} (h : V3 w V k0 k1 k2) (hb : Below w.heap.size w w') : V3 w' V k0 k1 k2 := h.block hb.size (hb.block V h.1)
/-- it lies apart from both -/
def Vap (V C : Nat) (g : G) (d : Loc) (fp : List Nat) : Prop := ¬ Fp C g.n d V ∧ V ∉ fp
theorem RG.mono {w : World} {base base' C : Nat} {g : G} {d : Loc} (h : RG w base C g d) (hb : base' ≤ base) : RG w base' C g d :=
  ⟨h.row, own_mono h.mem hb, fun i hi => ⟨⟨(h.rc i hi).1.row, own_mono (h.rc i hi).1.own hb, (h.rc i hi).1.old, (h.rc i hi).1.five, Nat.le_trans hb (h.rc i hi).1.low, (h.rc i hi).1.sepP, (h.rc i hi).1.sepV, (h.rc i hi).1.flt⟩, (h.rc i hi).2⟩, ⟨h.rn.row, own_mono h.rn.own hb, Nat.le_trans hb h.rn.low⟩, own_mono h.evs hb, h.clk, fun b q => ⟨(h.cty b q).1, Nat.le_trans hb (h.cty b q).2.1, (h.cty b q).2.2⟩, h.sep, Nat.le_trans hb h.low⟩
/-- what the walk reads of the document's own group -/
theorem RG.view {w : World} {base C : Nat} {g : G} {d : Loc} (h : RG w base C g d) : w.cell? ⟨C, 1, none⟩ = some (.pointer (some ⟨d.Q, 0, none⟩)) ∧ w.cell? ⟨d.Q, 0, none⟩ = some d.vN ∧ w.cell? ⟨C, 96, none⟩ = some d.vH :=
  ⟨World.rowIs.cell h.row (i := 1) (by omega), h.rn.all.1, World.rowIs.cell h.row (i := 96) (by omega)⟩
theorem below_base2 {B : Nat} {w w1 w2 : World} (h : Below B w1 w2) (e : w1.heap = w.heap) (e1 : w1.os = w.os) (e2 : w1.tape = w.tape) (e3 : w1.output = w.output) : Below B w w2 :=
  ⟨h.os.trans e1, h.tape.trans e2, h.output.trans e3, by have := h.size; rw [e] at this; exact this, fun k hk => by rw [h.block k hk, e]⟩
theorem drop_out {g : G} {k : Int} (h : isIn g.l k = false) : drop g k = g ∧ dropC g.l k = 1 := by
  refine ⟨?_, if_neg (by rw [h]; decide)⟩
  show setL g (dropL g.l k) = g
  rw [dropL, if_neg (by rw [h]; decide)]
  rfl
theorem drop_in {g : G} {k : Nat} (h : isIn g.l (k : Int) = true) : drop g (k : Int) = setL g (g.l.eraseIdx k) ∧ dropC g.l (k : Int) = 0 := by
  refine ⟨?_, if_pos h⟩
  show setL g (dropL g.l (k : Int)) = _
  rw [dropL, if_pos h, Int.toNat_natCast]
theorem twice_out {g : G} {k : Int} (h : isIn g.l k = false) : twice g k = g ∧ twC g.l k = 1 := by
  refine ⟨?_, if_neg (by rw [h]; decide)⟩
  show setL g (twL g.l k) = g
  rw [twL, if_neg (by rw [h]; decide)]
  rfl
theorem twice_in {g : G} {k : Nat} (h : isIn g.l (k : Int) = true) : twice g (k : Int) = setL g (sendL g.l (pk g.l k)) ∧ twC g.l (k : Int) = sendC g.l (pk g.l k) := by
  refine ⟨?_, ?_⟩
  · show setL g (twL g.l (k : Int)) = _
    rw [twL, if_pos h, Int.toNat_natCast]
  · rw [twC, if_pos h, Int.toNat_natCast]
theorem own_ints {w : World} {base n : Nat} {t : TypeId} {v : Value} {xs : List Int} (h : w.ownsRow base t 1 v n (xs.map (Value.int .i64))) : ∃ a cap, v = .slice a n cap ∧ Vw w a n xs ∧ n ≤ maxLen := by
  obtain ⟨a, cap, e, hv⟩ := Fif.own_vw h
  refine ⟨a, cap, e, hv, ?_⟩
  rcases h.2 with ⟨_, h3⟩ | ⟨g', cap', cur, hv, _, _, h1, h2, _⟩
  · rw [h3]; exact Nat.zero_le _
  · omega
theorem ints_eq (a b : Option Addr) (len cap len' cap' : Nat) (xs : List Int) (w : World) (hv : Vw w a len xs) (hv' : Vw w b len' xs) (hm : len ≤ maxLen) :
    Calls Tryd.prog 15 #[.slice a len cap, .slice b len' cap'] w fun e w' => e = .returned (.bool true) ∧ ∃ n, w' = w.drewN n := by
  refine (ints_any a b len cap len' cap' xs xs w hv hv' hm).mono ?_
  rintro e w' ⟨rfl, hb⟩
  exact ⟨ret_bool (by simp), hb⟩
/-- three numbers in a variable of the round's own -/
def R3n (wo wz : World) : Prop := ∃ f : Nat → Int, wz.rowIs wo.heap.size 31 3 (fun t => .int .i64 (f t)) ∧ Below wo.heap.size wo wz
/-- the block of that number -/
def blockAt (n : Nat) : Code → Option Code
  | .block m c => if m = n then some (.block m c) else blockAt n c
  | .seq a b => match blockAt n a with
    | some c => some c
    | none => blockAt n b
  | .loop c => blockAt n c
  | .cond _ a b => match blockAt n a with
    | some c => some c
    | none => blockAt n b
  | _ => none
end Go.Proofs.YtgnffanlgmbieaeDoor.Cas
