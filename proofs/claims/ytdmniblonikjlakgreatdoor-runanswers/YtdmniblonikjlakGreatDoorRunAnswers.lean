import Derived.Test.YtdmniblonikjlakGreatDoorPsZ
import Derived.Test.YtdmniblonikjlakGreatDoorTie
import Derived.Test.YtdmniblonikjlakGreatDoorCards
import Derived.ProofKit
import Derived.OpenShut
import Derived.ChangeOld
import Derived.ChangeSame
import Derived.ChangeVars
import Derived.JoinedOf
import Derived.LaidLaws
import Derived.LaidHandle
import Derived.Stop.Joined
import Derived.SevenTiedAt
import Derived.Lay
import Derived.Test.YtdmniblonikjlakGreatDoorPrT
import Derived.Test.YtdmniblonikjlakGreatDoorPrX
import Derived.HandedShaped
import Derived.ChangeMaps5
import Derived.ShutString
namespace Go.Proofs.YtdmniblonikjlakGreatDoor.runAnswers
open Go.ChangeShapes Go.WideShapes Go.RowKit
open Go.ChangeMaps (open_string shut_string)
open Run (answers_any Mx.of_shape Fit.of facts lst)
open As (Laid)
set_option linter.unusedVariables false
theorem own:ownKnob Tryz.prog.godebug = none := by kernel_rfl
theorem et:Tryz.prog.globalNamed "errors.errorType" = some 0 := by kernel_rfl
theorem rt:(Tryz.prog.cutTypes.find? (·.1 == "internal/reflectlite.rtype")).map (·.2) = some 250 := by kernel_rfl
theorem oneRow:((List.range 348).filter fun t => Tryz.prog.rowNamed t [101,114,114,111,114]) = [26] := by kernel_rfl
theorem size:Tryz.prog.types.size = 348 := by kernel_rfl
theorem handle_of_laid {W:World} (h:laidMetH Tryz.prog Rows.runAnswersRow.laid W):Laid W := by
 have hf:(Rows.runAnswersRow.laid.filter fun x => x.2.handleName?.isSome) = [("errors.errorType",Rows.laid_errors_errorType)] := by kernel_rfl
 have h':handlesMet Tryz.prog [("errors.errorType",Rows.laid_errors_errorType)] W := by
  unfold laidMetH at h
  rw [hf] at h
  exact h.2
 obtain ⟨name,u,ty,e1,e2,e3,e4,e5⟩ := h' _ (List.mem_singleton.2 rfl)
 have en:name = [101,114,114,111,114] := (Option.some.inj e1).symm
 subst en
 obtain rfl := Option.some.inj (rt.symm.trans e2)
 have hm:ty ∈ (List.range 348).filter fun t => Tryz.prog.rowNamed t [101,114,114,111,114] := List.mem_filter.2 ⟨List.mem_range.2 (by rw [← size]; exact e3),e4⟩
 rw [oneRow] at hm
 obtain rfl := List.mem_singleton.1 hm
 have hh:typeHandle Tryz.prog 26 = .pointer (some ⟨14,26,none⟩) := by kernel_rfl
 rw [hh] at e5
 simpa [Laid] using World.var?_cell et e5 0
theorem handles:(Rows.runAnswersRow.laid.filter fun x => x.2.handleName?.isSome) = [("errors.errorType",Rows.laid_errors_errorType)] := by kernel_rfl
theorem listed:(Rows.runAnswersRow.laid.filter fun x => x.2.handleName?.isNone) = lst := by kernel_rfl
theorem fits0 (os:Os):({ World.holding Tryz.prog os ⟨#[],#[],[]⟩ with heap := (World.holding Tryz.prog os ⟨#[],#[],[]⟩).heap.modify 0 fun
   | .cells _ t frozen => .cells #[.iface 250 (.agg #[.pointer (some ⟨14,26,none⟩)])] t frozen
   | o => o }).layFits Tryz.prog (Rows.runAnswersRow.laid.filter fun x => x.2.handleName?.isNone) [] = true := by kernel_rfl
theorem ifaces0 (os:Os):({ World.holding Tryz.prog os ⟨#[],#[],[]⟩ with heap := (World.holding Tryz.prog os ⟨#[],#[],[]⟩).heap.modify 0 fun
   | .cells _ t frozen => .cells #[.iface 250 (.agg #[.pointer (some ⟨14,26,none⟩)])] t frozen
   | o => o }).layIfaces Tryz.prog (Rows.runAnswersRow.laid.filter fun x => x.2.handleName?.isNone) (World.layVars Tryz.prog ({ World.holding Tryz.prog os ⟨#[],#[],[]⟩ with heap := (World.holding Tryz.prog os ⟨#[],#[],[]⟩).heap.modify 0 fun
   | .cells _ t frozen => .cells #[.iface 250 (.agg #[.pointer (some ⟨14,26,none⟩)])] t frozen
   | o => o }) (Rows.runAnswersRow.laid.filter fun x => x.2.handleName?.isNone)) = true := by kernel_rfl
theorem lay_met {P:Program} (s:World) (l:List (String × DataW Unit)) (hf:s.layFits P l [] = true) (hi:s.layIfaces P l (s.layVars P l) = true) (args:Array Value) :
  laidMet P l ((s.layVars P l).forCall (fun _ _ => 0) ⟨#[],args,[]⟩).memory := by
 have e1:(l.filter fun x => (l.map (·.1)).contains x.1) = l := List.filter_eq_self.2 fun x hx => List.contains_iff_mem.2 (List.mem_map.2 ⟨x,hx,rfl⟩)
 have e2:(l.filter fun x => !(l.map (·.1)).contains x.1) = [] := List.filter_eq_nil_iff.2 fun x hx => by rw [List.contains_iff_mem.2 (List.mem_map.2 ⟨x,hx,rfl⟩)]; simp
 have h:laidMet P l (s.layVars P l) := laidMet_layVars (w0 := s) (l.map (·.1)) [] (by rw [e1]) (by rw [e1]; exact hf) (by rw [e1]; exact hi) (by rw [e2]; exact LaidIn.none)
 exact h.of_heap (by simp [World.memory,World.forCall,Input.heap])
theorem laidWorld_met (os:Os) (args:Array Value):laidMetH Tryz.prog Rows.runAnswersRow.laid ((World.layVars Tryz.prog ({ World.holding Tryz.prog os ⟨#[],#[],[]⟩ with heap := (World.holding Tryz.prog os ⟨#[],#[],[]⟩).heap.modify 0 fun
   | .cells _ t frozen => .cells #[.iface 250 (.agg #[.pointer (some ⟨14,26,none⟩)])] t frozen
   | o => o }) (Rows.runAnswersRow.laid.filter fun x => x.2.handleName?.isNone)).forCall (fun _ _ => 0) ⟨#[],args,[]⟩).memory :=
 laidMetH_of_parts (lay_met _ _ (fits0 os) (ifaces0 os) args) (by kernel_rfl)
set_option maxRecDepth 100000 in
theorem handed {os:Os} {f:FuncId} {fn:Func} {s:ChangeSpec} {X:World → Prop} {H:Type} {enc:TypeId × Value → H} (hX:∀ w w':World,w.heap = w'.heap → X w → X w')
  (hown:ownKnob Tryz.checked.prog.godebug = none) (started:os.Started) (noInit:Tryz.checked.prog.inits.idxOf? f = none) (hfn:Tryz.checked.prog.funcs[f]? = some fn)
  (start:∃ (w:World) (tape:Tape) (i:Input),w.os = os ∧ (w.forCall tape i).Shaped Tryz.checked.prog ∧ i.vars = [] ∧ Input.okWide Tryz.checked.prog (w.forCall tape i) .any w.heap.size f i ∧
   ((s.pre enc Tryz.checked.prog fn [] false (w.forCall tape i).memory i.args ∧ X (w.forCall tape i).memory) ∧ sizedMet enc Tryz.checked.prog fn (OpenSpec.ofChange s) false (w.forCall tape i).memory i.args) ∧
   ({}:Assume).holds Tryz.checked.prog (lone (Frame.enter Tryz.checked.prog f i.args .normal) [] (w.forCall tape i)))
  (walk:∀ (W:World) (base:Nat) (args:Array Value) (ds gs:List (DataW H)) (before:List MemPlace),
   (∀ (j:Nat) t v,fn.params[j]? = some t → args[j]? = some v → Value.okWide Tryz.checked.prog W .any base t v) →
   DataW.Whole enc Tryz.checked.prog fn.params.toList s.vars false W args.toList ds gs before → X W → W.ShapedOpen Tryz.checked.prog →
   Calls Tryz.checked.prog f args W fun e W' => ∃ v,e = .returned v ∧ s.post enc Tryz.checked.prog fn false true false false W args v W') :
  ReturnsInHanded {} Tryz.checked os f .any (fun w args => (s.pre enc Tryz.checked.prog fn [] false w args ∧ X w) ∧ sizedMet enc Tryz.checked.prog fn (OpenSpec.ofChange s) false w args)
   (s.post enc Tryz.checked.prog fn false true false false) := by
 refine returnsInHanded_of_calls hown started noInit start ?_
 rintro w tape i - hsh - ⟨_,_,_,fn2,hfn2,_,_,_,_,hval⟩ ⟨⟨⟨ds,gs,before,hw,-⟩,hx⟩,-⟩ -
 obtain rfl:fn = fn2 := Option.some.inj (hfn.symm.trans hfn2)
 refine (walk (w.forCall tape i) w.heap.size i.args ds gs before hval (DataW.Whole.of_heap (w' := w.forCall tape i) (by rfl) hw) (hX (w.forCall tape i).memory _ (by rfl) hx) hsh).mono ?_
 rintro e W' ⟨v,rfl,hp⟩
 exact ChangeSpec.post_blind hp
set_option maxRecDepth 100000 in
theorem lifted (os:Os) (started:os.Started) (H:Type) (enc:TypeId × Value → H) :
  ReturnsInHanded {} Tryz.checked os 4 .any (fun w args => (Rows.runAnswersSpec.pre enc Tryz.prog Tryz.f4 [] false w args ∧ laidMetH Tryz.prog Rows.runAnswersRow.laid w) ∧ sizedMet enc Tryz.prog Tryz.f4 (OpenSpec.ofChange Rows.runAnswersSpec) false w args)
   (Rows.runAnswersSpec.post enc Tryz.prog Tryz.f4 false true false false) := by
 refine handed (X := fun w => laidMetH Tryz.prog Rows.runAnswersRow.laid w) (fun _ _ hh h => h.of_heap hh) own started (by kernel_rfl) Tryz.func4
  (ChangeSpec.witness_shaped (enc := enc) (C := Tryz.checked) (os := os) (X := fun w _ => laidMetH Tryz.prog Rows.runAnswersRow.laid w) false (World.layVars Tryz.prog ({ World.holding Tryz.prog os ⟨#[],#[],[]⟩ with heap := (World.holding Tryz.prog os ⟨#[],#[],[]⟩).heap.modify 0 fun
   | .cells _ t frozen => .cells #[.iface 250 (.agg #[.pointer (some ⟨14,26,none⟩)])] t frozen
   | o => o }) (Rows.runAnswersRow.laid.filter fun x => x.2.handleName?.isNone)) #[.string .empty] 8 (World.layVars_os _ _ _) (World.shaped_of_ZipB (by kernel_rfl) (by kernel_rfl)) (by kernel_rfl) (by kernel_rfl) (by kernel_rfl) (laidWorld_met os _)) ?_
 intro W base args ds gs before hval0 hW hL hsh
 have hM := Mx.of_shape hsh
 have hval:∀ (j:Nat) t v,Tryz.f4.params[j]? = some t → args[j]? = some v → Value.okWide Tryz.prog W .any base t v := hval0
 have hW' := hW
 obtain ⟨p,q,hA0,hV0,rfl,hfz,hnd⟩ := hW
 have hA:DataW.TrodAll enc Tryz.prog W 0 (fun _ => true) true Tryz.f4.params.toList args.toList ds p := hA0
 have hV:DataW.TrodVars enc Tryz.prog W (fun _ => true) [] gs q := hV0
 rw [Tryz.params4] at hA hval
 obtain ⟨v0,vs0,d0,ds0,p0,q0,hargs,rfl,rfl,h0,r0⟩ := trodAll_cons hA
 obtain ⟨rfl,rfl,rfl⟩ := trodAll_nil r0
 obtain rfl:args = #[v0] := by cases args; simp_all
 have hg := handle_of_laid hL
 obtain ⟨rfl,rfl⟩:gs = [] ∧ q = [] := by
  cases gs with
  | nil => exact ⟨rfl,hV⟩
  | cons g r => exact absurd hV (by intro h; cases h)
 obtain ⟨s0,rfl,rfl,rfl,w0⟩ := open_string Tryz.underlying9 (hval 0 9 v0 rfl rfl) h0
 refine (answers_any s0 W (Fit.of hg hM (facts (handles) (listed) hL).1 (facts (handles) (listed) hL).2)).mono fun e W' ⟨he,bel⟩ => ?_
 subst he
 exact ⟨_,rfl,_,_,_,[],_,[],hW',trodAll_mk1 (shut_bool Tryz.underlying4 _),(trodAll_cons_mk (shut_string Tryz.underlying9 w0) trodAll_mk0),rfl,bel.frame _,fun h => by cases h⟩
theorem row_holds:Rows.RunAnswersSaid :=
 OpenClaim.holds_of_wide 4 Tryz.f4 rfl rfl rfl rfl rfl rfl rfl ⟨rfl,rfl,rfl,rfl,rfl⟩ rfl rfl rfl rfl rfl (by kernel_rfl) Tryz.func4 (by kernel_rfl)
  (of_decide_eq_true (by kernel_rfl)) (by unfold Func.isWrapper; rw [if_neg (of_decide_eq_false (by kernel_rfl))]; exact ⟨rfl,rfl⟩)
  (fun os started H enc _ => lifted os started H enc)
end Go.Proofs.YtdmniblonikjlakGreatDoor.runAnswers
namespace Go.Proofs.YtdmniblonikjlakGreatDoor
open Go
theorem runAnswers_card:Rows.RunAnswersCardSaid :=
 Claim7.holds_tied_plain_at .later [] _ _ _ _
  runAnswers.row_holds (fun _ h => by cases h) (by kernel_rfl) (fun _ h => by cases h) runAnswers_row_tie rfl ⟨rfl,rfl⟩ (by kernel_rfl) rfl
  (fun f fn hf hfn => by
   obtain rfl:f = 4 := Option.some.inj ((show Tryz.prog.funcNamed "mootbell/mootlaw3.RunAnswers" = some 4 by kernel_rfl).symm.trans hf) |>.symm
   obtain rfl:fn = Tryz.f4 := (Option.some.inj (Tryz.func4.symm.trans hfn)).symm
   exact ⟨by kernel_rfl,fun j t ht => by
    rw [Tryz.params4] at ht
    have h3:t = 9 := by
     rcases j with _ | j
     ·simpa using ht.symm
     ·simp at ht
    rcases h3 with rfl
    ·exact (show Tryz.prog.wantsStandIn 9 = false by kernel_rfl)⟩)
  (by kernel_rfl)
#print axioms runAnswers_card
end Go.Proofs.YtdmniblonikjlakGreatDoor
