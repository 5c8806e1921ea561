/-
  Together, from view to view: the walk of TopViews.
-/
import Derived.Test.YtgdmbnfdcbekaaiTvwS
import Derived.Test.YtgdmbnfdcbekaaiFlsM
import Derived.Test.YtgdmbnfdcbekaaiViwC
import Derived.Test.YtgdmbnfdcbekaaiVwtI
import Derived.Test.YtgdmbnfdcbekaaiRowsS
import Derived.Test.YtgdmbnfdcbekaaiTopO
import Derived.Deep.CutBlock
import Derived.Deep.CutRange
namespace Go.Proofs.Ytgdmbnfdcbekaai.Flu
open Go.RowKit
open Go.Proofs.Ytgdmbnfdcbekaai.Fif (ret_bool own_lt own_block own_form)
open Go.Proofs.Ytgdmbnfdcbekaai.Vec (Vw Rs)
open Go.Proofs.Ytgdmbnfdcbekaai.Sep (KpL NewL)
open Go.Proofs.Ytgdmbnfdcbekaai.Ldr (errF errF_ok errF_no Sl same_any)
open Go.Proofs.Ytgdmbnfdcbekaai.Viw (Vi nextV bothAt chainV drewsV vw)
open Go.Proofs.Ytgdmbnfdcbekaai.His (one_any)
set_option linter.unusedVariables false

/-- how it stands: the group, and the row of its views -/
structure TV (w wr : World) (P B : Nat) (f : F) (fp : List Nat) (y : Value) (es : List Et) (l : List Vi) : Prop where
  us : US wr w.heap.size P f fp
  inv : Inv f
  rng : Rng f
  solo : Solo f
  chn : Chn f l
  few : f.v.n ≤ (B : Int)
  lst : l.length ≤ B + 1
  vl : VL w wr y es l fp
  bel : Below w.heap.size w wr
variable {w wr w' : World} {P B : Nat} {f : F} {fp fp' : List Nat} {y : Value} {es : List Et} {l : List Vi}
theorem TV.later (h : TV w wr P B f fp y es l) (hb : Below wr.heap.size wr w') : TV w w' P B f fp y es l := ⟨h.us.later hb, h.inv, h.rng, h.solo, h.chn, h.few, h.lst, h.vl.later hb, h.bel.trans (hb.mono h.bel.size)⟩
theorem TV.mono (h : TV w wr P B f fp y es l) {B' : Nat} (hb : B ≤ B') : TV w wr P B' f fp y es l := ⟨h.us, h.inv, h.rng, h.solo, h.chn, by have := h.few; omega, by have := h.lst; omega, h.vl, h.bel⟩
theorem TV.say (h : TV w wr P B f fp y es l) {who word : Int} (hw : who = ((fst f : Nat) : Int)) (hA : US w' w.heap.size P (say f who word) fp') (hb : Below w.heap.size wr w') (hk : KpL wr w' fp) (hn : NewL wr fp fp') : TV w w' P B (say f who word) fp' y es l := by
  subst hw
  exact ⟨hA, h.inv.say _ _, h.rng.say _ _, h.solo.say word, h.chn.congr (say_v f _ _), by rw [say_v]; exact h.few, h.lst, h.vl.keep hk hn, h.bel.trans hb⟩
theorem TV.far (h : TV w wr P B f fp y es l) {a : Option Addr} {len : Nat} {v : List Int} (hv : Vw w a len v) : ∀ ad, a = some ad → 0 < len → ad.block ∉ fp := fun ad e q z => by
  obtain ⟨b, off, e', hlt, _⟩ := hv.2 q
  rw [e'] at e
  cases e
  have h1 := (h.us.fp _ z).1
  have h' : b < w.heap.size := hlt
  have h'' : w.heap.size ≤ b := h1
  omega
theorem fst_first (h : Inv f) : f.v.has.getD 0 0 = ((fst f : Nat) : Int) := by
  have hp := (Viw.has_ok (Viw.view_ok h.view).2).1
  have e : f.v.has.getD 0 0 ∈ f.v.has := by
    have : f.v.has.getD 0 0 = f.v.has[0] := by simp [List.getD, hp]
    rw [this]
    exact List.getElem_mem hp
  have := (h.has _ e).1
  unfold fst
  omega
/-- the view in its variable, apart -/
structure VO (wr : World) (O : Nat) (nv : Int) (q : Option Addr) (n c : Nat) (v : List Int) (fp : List Nat) : Prop where
  c0 : wr.cell? ⟨O, 0, none⟩ = some (.int .i64 nv)
  c1 : wr.cell? ⟨O, 1, none⟩ = some (.slice q n c)
  lt : O < wr.heap.size
  out : O ∉ fp
  sl : Sl wr (.slice q n c) v
  far : ∀ ad, q = some ad → 0 < n → ad.block ∉ fp
theorem VO.keep {O : Nat} {nv : Int} {q : Option Addr} {n c : Nat} {v : List Int} (h : VO wr O nv q n c v fp) (hk : KpL wr w' fp) (hn : NewL wr fp fp') : VO w' O nv q n c v fp' := by
  have eb := hk.2 O h.lt h.out
  refine ⟨(World.cell?_of_block (a := ⟨O, 0, none⟩) eb).trans h.c0, (World.cell?_of_block (a := ⟨O, 1, none⟩) eb).trans h.c1, Nat.lt_of_lt_of_le h.lt hk.1, fun z => ?_, sl_block h.sl hk.1 fun ad e q => hk.2 _ (sl_in h.sl e q) (h.far ad e q), fun ad e q z => ?_⟩
  · rcases hn _ z with a | a
    · exact h.out a
    · have := h.lt
      omega
  · rcases hn _ z with a | a
    · exact h.far ad e q a
    · have := sl_in h.sl e q
      omega
theorem VO.later {O : Nat} {nv : Int} {q : Option Addr} {n c : Nat} {v : List Int} (h : VO wr O nv q n c v fp) (hb : Below wr.heap.size wr w') : VO w' O nv q n c v fp := h.keep (Sep.KpL.below hb fp) (Sep.NewL.refl _ _)
theorem VO.made {nv : Int} {q : Option Addr} {n c : Nat} {v : List Int} (hs : Sl wr (.slice q n c) v) (hq : ∀ ad, q = some ad → 0 < n → ad.block ∉ fp) (hf : ∀ b ∈ fp, b < wr.heap.size) : VO (wr.alloc (.cells #[.int .i64 nv, .slice q n c] 31)) wr.heap.size nv q n c v fp := by
  refine ⟨(view_cells _ _ _).1, (view_cells _ _ _).2, by simp, fun z => ?_, hs.later (below_alu _ _), hq⟩
  have := hf _ z
  omega
theorem VO.grown {O : Nat} {nv : Int} {q : Option Addr} {n c : Nat} {v : List Int} {own : Option Nat} (h : VO wr O nv q n c v fp) (hk : ∀ b, b < wr.heap.size → own ≠ some b → w'.heap[b]? = wr.heap[b]?) (hs : wr.heap.size ≤ w'.heap.size) (hO : own ≠ some O) (hq : ∀ ad, q = some ad → 0 < n → own ≠ some ad.block) : VO w' O nv q n c v fp := by
  have eb := hk O h.lt hO
  exact ⟨(World.cell?_of_block (a := ⟨O, 0, none⟩) eb).trans h.c0, (World.cell?_of_block (a := ⟨O, 1, none⟩) eb).trans h.c1, Nat.lt_of_lt_of_le h.lt hs, h.out, sl_block h.sl hs fun ad e z => hk _ (sl_in h.sl e z) (hq ad e z), h.far⟩
theorem TV.same (h : TV w wr P B f fp y es l) (hA : US w' w.heap.size P f fp') (hb : Below w.heap.size wr w') (hk : KpL wr w' fp) (hn : NewL wr fp fp') : TV w w' P B f fp' y es l := ⟨hA, h.inv, h.rng, h.solo, h.chn, h.few, h.lst, h.vl.keep hk hn, h.bel.trans hb⟩
/-- what two who stay heard -/
theorem solo_two (hs : Solo f) (hi : Inv f) {has : List Int} {x z : Int} (hx : x ∈ stay f has) (hz : z ∈ stay f has) : hdL (turn f has) x f.v.n = hdL (turn f has) z f.v.n := by
  rw [(heard_stay hi hx).2, (heard_stay hi hz).2]
  exact hs.one hi (stay_nat hi hx) (stay_nat hi hz)
theorem push_all {w4 : World} {qy q7 q9 : Option Addr} {ny cy g cap l7 c7 l9 c9 O O2 : Nat} {nv n9 : Int} {v v1 : Vi} {ob : Obj} {P : Nat} {f2 : F} (h : VL w wr (.slice qy ny cy) es l fp) (ey : ny = es.length) (hu : US wr w.heap.size P f2 fp) (hx : n9 = v1.n) (hO : VO wr O nv q7 l7 c7 v.has fp) (hO2 : VO wr O2 n9 q9 l9 c9 v1.has fp) (hb : Below w.heap.size w wr)
    (far : (Value.slice qy ny cy).ownBlock ≠ some O ∧ (Value.slice qy ny cy).ownBlock ≠ some O2 ∧ (∀ ad, q7 = some ad → 0 < l7 → (Value.slice qy ny cy).ownBlock ≠ some ad.block) ∧ ∀ ad, q9 = some ad → 0 < l9 → (Value.slice qy ny cy).ownBlock ≠ some ad.block)
    (ho : w4.ownsRow w.heap.size 31 2 (.slice (some ⟨g, 0, none⟩) (ny + 1) cap) (ny + 1) (flatT es ++ flatT [(n9, q9, l9, c9)])) (hg : (wr.alloc ob).grownBy w4 (Value.slice qy ny cy).ownBlock) (hl : (Value.slice qy ny cy).ownBlock = some g ∨ g = wr.heap.size + 1) :
    VL w w4 (.slice (some ⟨g, 0, none⟩) (ny + 1) cap) (es ++ [(n9, q9, l9, c9)]) (l ++ [v1]) fp ∧ US w4 w.heap.size P f2 fp ∧ VO w4 O nv q7 l7 c7 v.has fp ∧ VO w4 O2 n9 q9 l9 c9 v1.has fp ∧ Below w.heap.size w w4 := by
  obtain ⟨p1, p2, p3⟩ := h.push ey hx hO2.sl (fun ad e q => ⟨hO2.far ad e q, far.2.2.2 ad e q⟩) (fun b hb' => (hu.fp b hb').2) ho hg hl
  refine ⟨p1, hu.of_blocks p3 fun b hb' => p2 b (hu.fp b hb').2 fun z => h.apart b z hb', hO.grown p2 p3 far.1 far.2.2.1, hO2.grown p2 p3 far.2.1 far.2.2.2, (hb.alloc hb.size ob).grown hg (by have := hb.size; simp; omega) fun b hb' => ?_⟩
  have o := h.own
  rw [← ey] at o
  exact (own_lt o b hb').1
set_option maxRecDepth 100000 in
theorem views_bad (n : Int) (a : Option Addr) (len cap : Nat) (b : Option Addr) (len' cap' : Nat) (w : World) (h : n < 2 ∨ 5 < n) : Calls Try.prog 4 #[.int .i64 n, .slice a len cap, .slice b len' cap'] w fun e w' => e = .returned (.bool true) ∧ Below w.heap.size w w' := by
  have HN : Hid (n < 2 ∨ 5 < n) := h
  clear h
  go_enter Try.func4, Try.ntmps4
  go_wp2_with fail
  refine (one_any w).mono ?_
  rintro e x1 ⟨rfl, hb⟩
  have B1 : Hid (Below w.heap.size w x1) := hb
  clear hb
  go_wp2_with fail
  refine (newU_no n HN.out x1).mono ?_
  rintro e x2 ⟨rfl, hb⟩
  rw [errF_no (by decide)]
  have B2 : Hid (Below w.heap.size w x2) := B1.out.trans (hb.mono B1.out.size)
  clear hb
  go_wp2
  go_ret
  exact ⟨rfl, B2.out⟩
set_option maxRecDepth 100000 in
set_option maxHeartbeats 4000000 in
theorem views_ok (n : Nat) (a : Option Addr) (len cap : Nat) (ms : List (List Int)) (b : Option Addr) (len' cap' : Nat) (ws : List Int) (w : World) (hR : Rs w a len ms) (hW : Vw w b len' ws) (hm : len' ≤ maxLen) (h2 : 2 ≤ n) (h5 : n ≤ 5) : Calls Try.prog 4 #[.int .i64 (n : Int), .slice a len cap, .slice b len' cap'] w fun e w' => e = .returned (.bool true) ∧ Below w.heap.size w w' := by
  have HL : Hid (Rs w a len ms ∧ Vw w b len' ws) := ⟨hR, hW⟩
  have hlm : len ≤ maxLen := hR.2.1
  obtain ⟨iv, hiv, hz0, hz1, hz2⟩ := info_vt
  have HJ : Hid (Try.prog.info? 31 = some iv ∧ iv.zero = some (.agg #[.int .i64 0, .slice none 0 0]) ∧ iv.size = 2 ∧ iv.bytes = 32) := ⟨hiv, hz0, hz1, hz2⟩
  clear hR hW hiv hz0 hz1 hz2
  go_enter Try.func4, Try.ntmps4
  go_wp2_with fail
  refine (one_any w).mono ?_
  rintro e x1 ⟨rfl, hb⟩
  have B1 : Hid (Below w.heap.size w x1) := hb
  clear hb
  go_wp2_with fail
  refine (newU_ok n h2 h5 x1).mono ?_
  rintro e x2 ⟨P, fp2, rfl, hA, hb⟩
  have U2 : Hid (US x2 w.heap.size P (start n) fp2 ∧ Below w.heap.size w x2) := ⟨hA.lower B1.out.size, B1.out.trans (hb.mono B1.out.size)⟩
  clear hA hb B1
  go_wp2_with fail
  refine (viewU w.heap.size P (start n) fp2 x2 U2.out.1 (Inv.start h2 h5)).mono ?_
  rintro e x3 ⟨q3, c3, rfl, hs3, hn3, hb3⟩
  have e3 : (start n).v.n = 0 := rfl
  rw [e3]
  obtain ⟨l3, el3⟩ : ∃ l3, l3 = (start n).v.has.length := ⟨_, rfl⟩
  rw [← el3] at hs3 hn3 ⊢
  have T3 : Hid (TV w (x3.alloc (.cells #[.int .i64 0, .slice q3 l3 c3] 31)) P 0 (start n) fp2 (.slice (some ⟨x3.heap.size, 0, none⟩) 1 1) [(0, q3, l3, c3)] [(start n).v]) := by
    have ba := below_alu x3 (.cells #[.int .i64 0, .slice q3 l3 c3] 31)
    have b3 : Below w.heap.size w x3 := U2.out.2.trans (hb3.mono U2.out.2.size)
    refine ⟨(U2.out.1.later hb3).later ba, Inv.start h2 h5, Rng.start n, Solo.start n, Chn.start h2 h5, Int.le_refl _, Nat.le_refl _, VL.first b3.size rfl hs3 (fun ad e q z => ?_) (fun b hb => Nat.lt_of_lt_of_le (U2.out.1.fp b hb).2 hb3.size), b3.trans (ba.mono b3.size)⟩
    have h1 := (U2.out.1.fp _ z).2
    have h2 := hn3 ad e q
    omega
  clear hs3 hn3 hb3 el3 e3 U2
  go_upto_block 0 with fail
  go_cut [10, 11, 12, 13, 14, 15, 16, 17, 18, 19] from 35 to 129 (fun y x11 x12 x13 x14 x15 x16 x17 x18 x19 wc => Hid (∃ f fp es l, TV w wc P 30 f fp y es l))
  case first =>
    go_wp2_with fail
    go_loopw [10, 11] (fun y x wr => ∃ i : Nat, i ≤ len ∧ i ≤ 30 ∧ x = .int .i64 (i : Int) ∧ Hid (∃ f fp es l, TV w wr P i f fp y es l)) (fun _ x _ => len - (intOf x).toNat)
    case atStart => exact ⟨0, by omega, by omega, rfl, _, _, _, _, T3.out⟩
    case round =>
      obtain ⟨i, hi, hi30, rfl, hC⟩ := hrel
      obtain ⟨f, fp, es, l, hC⟩ := hC.out
      have C0 : Hid (TV w wr P i f fp u10 es l) := hC
      clear hC
      by_cases hgo : (i : Int) < (len : Int) ∧ (i : Int) < 30
      · skip
        obtain ⟨hil, hil2⟩ := hgo
        have hi0 : (0 : Int) ≤ (i : Int) := by omega
        obtain ⟨wo, ewo⟩ : ∃ wo, wo = wr := ⟨_, rfl⟩
        subst ewo
        obtain ⟨qy, cy, rfl⟩ := own_form C0.out.vl.own
        obtain ⟨ny, eny⟩ : ∃ ny, ny = es.length := ⟨_, rfl⟩
        have EN : Hid (ny = es.length) := eny
        rw [← eny] at C0 ⊢
        have hny : ny ≤ 31 := by rw [eny, C0.out.vl.len]; have := C0.out.lst; omega
        clear eny
        have IF : Hid (Inv f) := C0.out.inv
        obtain ⟨sb, so, rfl, hsb, hsc⟩ := HL.out.1.2.2 (by omega)
        obtain ⟨qt, ct, gt, hst⟩ := hsc i (by omega)
        obtain ⟨has, ehas⟩ : ∃ has, has = ms.getD i [] := ⟨_, rfl⟩
        rw [← ehas] at gt hst
        obtain ⟨lt, elt⟩ : ∃ lt, lt = has.length := ⟨_, rfl⟩
        rw [← elt] at gt hst
        have HT : Hid (w.cell? ⟨sb, so + i, none⟩ = some (.slice qt lt ct) ∧ sb < w.heap.size ∧ Sl w (.slice qt lt ct) has) := ⟨gt, hsb, hst⟩
        clear hsc hsb gt hst ehas elt
        go_wp2_with fail
        refine (viewU w.heap.size P f fp wo C0.out.us C0.out.inv).mono ?_
        rintro e w7 ⟨q7, c7, rfl, hs7, hn7, hb7⟩
        obtain ⟨nv, env⟩ : ∃ nv, nv = f.v.n := ⟨_, rfl⟩
        obtain ⟨l7, el7⟩ : ∃ l7, l7 = f.v.has.length := ⟨_, rfl⟩
        rw [← el7] at hs7 hn7
        rw [← env, ← el7]
        have hnv : 0 ≤ nv ∧ nv ≤ 30 := by have := C0.out.inv.n0; have := C0.out.few; rw [env]; omega
        have hl7 : (l7 : Int) > 0 := by have := (Viw.has_ok (Viw.view_ok C0.out.inv.view).2).1; rw [el7]; omega
        have hl7' : 0 < l7 := by omega
        have hl7i : (0 : Int) < (l7 : Int) := by omega
        have EV : Hid (nv = f.v.n ∧ l7 = f.v.has.length) := ⟨env, el7⟩
        obtain ⟨W8, eW8⟩ : ∃ W8, W8 = w7.alloc (.cells #[.int .i64 nv, .slice q7 l7 c7] 31) := ⟨_, rfl⟩
        obtain ⟨O, eO⟩ : ∃ O, O = w7.heap.size := ⟨_, rfl⟩
        have T8 : Hid (TV w W8 P i f fp (.slice qy ny cy) es l ∧ VO W8 O nv q7 l7 c7 f.v.has fp ∧ f.v = f.v) := by
          have b8 : Below w7.heap.size w7 W8 := by rw [eW8]; exact below_alu _ _
          refine ⟨(C0.out.later hb7).later b8, ?_, rfl⟩
          rw [eW8, eO]
          refine VO.made hs7 (fun ad e q z => ?_) fun b hb => Nat.lt_of_lt_of_le (C0.out.us.fp b hb).2 hb7.size
          have h1 := (C0.out.us.fp _ z).2
          have h2 := hn7 ad e q
          omega
        have LO : Hid (wo.heap.size ≤ O ∧ (∀ ad, q7 = some ad → 0 < l7 → wo.heap.size ≤ ad.block) ∧ ∀ b, (Value.slice qy ny cy).ownBlock = some b → b < wo.heap.size) := ⟨by rw [eO]; exact hb7.size, hn7, fun b hb => (own_lt C0.out.vl.own b hb).2⟩
        clear hs7 hn7 hb7 env el7
        obtain ⟨bw, ebw⟩ : ∃ bw, bw = decide ((i : Int) < (len' : Int)) := ⟨_, rfl⟩
        have HB : Hid (bw = decide ((i : Int) < (len' : Int))) := ebw
        clear ebw
        go_upto_region 12 with fail
        rw [← eW8, ← eO]
        clear eW8 eO C0
        have o1 := T8.out.2.1.c1
        go_cut [56] from 35 to 129 (fun x wz => x = .bool bw ∧ wz = W8)
        case first =>
          by_cases hw : (i : Int) < (len' : Int)
          · have e : bw = true := by rw [HB.out]; exact decide_eq_true hw
            go_wp2
            go_meet
            exact ⟨by first | rw [e] | rw [e, decide_eq_true hl7'], rfl⟩
          · have e : bw = false := by rw [HB.out]; exact decide_eq_false hw
            go_wp2
            go_meet
            exact ⟨by rw [e], rfl⟩
        case rest =>
          obtain ⟨rfl, rfl⟩ := hcut
          obtain ⟨w8, ew8⟩ : ∃ w8, w8 = wc := ⟨_, rfl⟩
          subst ew8
          go_upto_if 56 with fail
          go_cut [11] from 35 to 129 (fun x wz => x = .int .i64 (i : Int) ∧ Hid (∃ f1 fp1, TV w wz P i f1 fp1 (.slice qy ny cy) es l ∧ VO wz O nv q7 l7 c7 f.v.has fp1 ∧ f1.v = f.v ∧ wo.heap.size ≤ wz.heap.size))
          case first =>
            have hsz8 : Hid (wo.heap.size ≤ w8.heap.size) := by have h1 := LO.out.1; have h2 := T8.out.2.1.lt; show wo.heap.size ≤ w8.heap.size; omega
            cases bw
            · go_wp2
              go_meet
              exact ⟨rfl, f, fp, T8.out.1, T8.out.2.1, rfl, hsz8.out⟩
            · have hw : (i : Int) < (len' : Int) := of_decide_eq_true HB.out.symm
              obtain ⟨b7, o7, rfl, hb7, hc7⟩ := (sl_vw T8.out.2.1.sl).2.1.2 (by omega)
              obtain ⟨wb, wf, rfl, hwb, hwc⟩ := HL.out.2.2 (by omega)
              obtain ⟨word, eword⟩ : ∃ word, word = ws.getD i 0 := ⟨_, rfl⟩
              have u0 : w8.cell? ⟨b7, o7, none⟩ = some (.int .i64 ((fst f : Nat) : Int)) := by rw [← fst_first IF.out]; exact hc7 0 (by omega)
              have u1 : w8.cell? ⟨wb, wf + i, none⟩ = some (.int .i64 word) := by rw [eword]; exact (T8.out.1.bel.cell (p := ⟨wb, wf + i, none⟩) hwb).trans (hwc i (by omega))
              have hwb8 : wb < w8.heap.size := Nat.lt_of_lt_of_le hwb T8.out.1.bel.size
              have hO8 := T8.out.2.1.lt
              obtain ⟨x0, ex0⟩ : ∃ x0 : Int, x0 = ((fst f : Nat) : Int) := ⟨_, rfl⟩
              rw [← ex0] at u0
              have EX : Hid (x0 = ((fst f : Nat) : Int)) := ex0
              have nO := T8.out.2.1.out
              have n7 := T8.out.2.1.far _ rfl hl7'
              have nW : wb ∉ fp := fun z => by have h1 := (T8.out.1.us.fp _ z).1; omega
              have HS : Hid (∀ X : World, (∀ k, k < w8.heap.size → k ∉ fp → X.heap[k]? = w8.heap[k]?) → X.cell? ⟨O, 1, none⟩ = some (.slice (some ⟨b7, o7, none⟩) l7 c7) ∧ X.cell? ⟨b7, o7, none⟩ = some (.int .i64 x0) ∧ X.cell? ⟨wb, wf + i, none⟩ = some (.int .i64 word)) := fun X hX => ⟨(World.cell?_of_block (a := ⟨O, 1, none⟩) (hX O hO8 nO)).trans o1, (World.cell?_of_block (a := ⟨b7, o7, none⟩) (hX b7 hb7 n7)).trans u0, (World.cell?_of_block (a := ⟨wb, wf + i, none⟩) (hX wb hwb8 nW)).trans u1⟩
              clear hc7 hwc eword ex0 hwb hwb8 hO8 o1 u0 u1 nO n7 nW
              go_wp2_with fail
              go_region_held3 (fun X => X.cell? ⟨O, 1, none⟩ = some (.slice (some ⟨b7, o7, none⟩) l7 c7) ∧ X.cell? ⟨b7, o7, none⟩ = some (.int .i64 x0) ∧ X.cell? ⟨wb, wf + i, none⟩ = some (.int .i64 word)) (first | exact HS.out _ (fun _ _ _ => rfl) | exact HS.out _ (fun k hk hn => K9.out.2 k hk hn)) (first
                | (go_at_call 6; refine (sayU w.heap.size P f fp x0 word _ (by exact T8.out.1.us.of_blocks (Nat.le_refl _) fun _ _ => rfl) IF.out (by exact T8.out.1.bel.size)).mono ?_; rintro e9 w9 ⟨f9, rfl, hA9, hb9, hk9, hw9⟩; have K9 : Hid (KpL w8 w9 fp) := hk9; have N9 : Hid (TV w w9 P i (say f x0 word) f9 (.slice qy ny cy) es l ∧ VO w9 O nv (some ⟨b7, o7, none⟩) l7 c7 f.v.has f9 ∧ (say f x0 word).v = f.v ∧ wo.heap.size ≤ w9.heap.size) := ⟨T8.out.1.say EX.out hA9 (below_from hb9 rfl rfl rfl rfl) hk9 hw9, T8.out.2.1.keep hk9 hw9, say_v f x0 word, Nat.le_trans hsz8.out hk9.1⟩; clear hA9 hb9 hk9 hw9))
              go_wp2
              go_meet
              exact ⟨rfl, _, _, N9.out⟩
          case rest =>
            obtain ⟨rfl, hx⟩ := hcut
            obtain ⟨f1, fp1, h1, h2, h3, h4⟩ := hx.out
            obtain ⟨w9, ew9⟩ : ∃ w9, w9 = wc := ⟨_, rfl⟩
            subst ew9
            have C1 : Hid (TV w w9 P i f1 fp1 (.slice qy ny cy) es l ∧ VO w9 O nv q7 l7 c7 f1.v.has fp1 ∧ nv = f1.v.n ∧ wo.heap.size ≤ w9.heap.size) := ⟨h1, by rw [h3]; exact h2, by rw [h3]; exact EV.out.1, h4⟩
            clear hx h1 h2 h3 h4 T8 o1 EV IF f
            have gt9 : w9.cell? ⟨sb, so + i, none⟩ = some (.slice qt lt ct) := (C1.out.1.bel.cell (p := ⟨sb, so + i, none⟩) HT.out.2.1).trans HT.out.1
            go_wp2_with fail
            refine (changeU w.heap.size P f1 fp1 has qt lt ct w9 C1.out.1.us C1.out.1.inv C1.out.1.bel.size (HT.out.2.2.later C1.out.1.bel) (C1.out.1.far (sl_vw HT.out.2.2).2.1) (by rw [← C1.out.2.2.1]; omega)).mono ?_
            rintro e w10 ⟨q9, c9, f9, rfl, hs9, hn9, hA9, hb9, hk9, hw9⟩
            obtain ⟨n9, en9⟩ : ∃ n9, n9 = (nextV f1.v has).n := ⟨_, rfl⟩
            obtain ⟨l9, el9⟩ : ∃ l9, l9 = (nextV f1.v has).has.length := ⟨_, rfl⟩
            rw [← el9] at hs9 hn9
            rw [← en9, ← el9]
            obtain ⟨W11, eW11⟩ : ∃ W11, W11 = w10.alloc (.cells #[.int .i64 n9, .slice q9 l9 c9] 31) := ⟨_, rfl⟩
            obtain ⟨O2, eO2⟩ : ∃ O2, O2 = w10.heap.size := ⟨_, rfl⟩
            have b11 : Below w10.heap.size w10 W11 := by rw [eW11]; exact below_alu _ _
            have V11 : Hid (US W11 w.heap.size P (change f1 has) f9 ∧ VL w W11 (.slice qy ny cy) es l f9 ∧ VO W11 O nv q7 l7 c7 f1.v.has f9 ∧ VO W11 O2 n9 q9 l9 c9 (nextV f1.v has).has f9 ∧ Below w.heap.size w W11 ∧ wo.heap.size ≤ O2 ∧ (∀ ad, q9 = some ad → 0 < l9 → wo.heap.size ≤ ad.block)) := by
              refine ⟨hA9.later b11, (C1.out.1.vl.keep hk9 hw9).later b11, (C1.out.2.1.keep hk9 hw9).later b11, ?_, (C1.out.1.bel.trans hb9).trans (b11.mono (C1.out.1.bel.trans hb9).size), ?_, fun ad e q => ?_⟩
              · rw [eW11, eO2]
                exact VO.made hs9 (fun ad e q => (hn9 ad e q).2) fun b hb => (hA9.fp b hb).2
              · rw [eO2]; exact Nat.le_trans C1.out.2.2.2 hk9.1
              · exact Nat.le_trans C1.out.2.2.2 (hn9 ad e q).1
            have NX : Hid (n9 = (nextV f1.v has).n) := en9
            clear hs9 hn9 hA9 hb9 hk9 hw9 gt9 en9 el9 b11
            by_cases hc : chC f1 has = 0
            · rw [hc, errF_ok]
              obtain ⟨f2, ef2⟩ : ∃ f2, f2 = turn f1 has := ⟨_, rfl⟩
              obtain ⟨z1, z2, z3, z4⟩ := both_stay C1.out.1.inv hc
              obtain ⟨lb, elb⟩ : ∃ lb, lb = (stay f1 has).length := ⟨_, rfl⟩
              rw [← elb] at z3 z4
              have BS : Hid (Viw.bothC f1.v (nextV f1.v has) = 0 ∧ Viw.bothL f1.v (nextV f1.v has) = stay f1 has ∧ lb = (stay f1 has).length) := ⟨z1, z2, elb⟩
              have F2 : Hid (Inv f2 ∧ Rng f2 ∧ Solo f2 ∧ Chn f2 (l ++ [nextV f1.v has]) ∧ f2.v.n = nv + 1 ∧ (∀ x, x ∈ stay f1 has → hdC f2 x nv = 0) ∧ ∀ x z, x ∈ stay f1 has → z ∈ stay f1 has → hdL f2 x nv = hdL f2 z nv) := by
                have hRg := C1.out.1.rng.change C1.out.1.inv has
                rw [change_ok hc] at hRg
                rw [ef2, C1.out.2.2.1]
                exact ⟨C1.out.1.inv.turn hc, hRg, Solo.turn C1.out.1.inv has, C1.out.1.chn.turn hc, rfl, fun x hx => (heard_stay C1.out.1.inv hx).1, fun x z hx hz => solo_two C1.out.1.solo C1.out.1.inv hx hz⟩
              have V2 : Hid (US W11 w.heap.size P f2 f9 ∧ VL w W11 (.slice qy ny cy) es l f9 ∧ VO W11 O nv q7 l7 c7 f1.v.has f9 ∧ VO W11 O2 n9 q9 l9 c9 (nextV f1.v has).has f9 ∧ Below w.heap.size w W11) := by
                have z := V11.out
                rw [change_ok hc, ← ef2] at z
                exact ⟨z.1, z.2.1, z.2.2.1, z.2.2.2.1, z.2.2.2.2.1⟩
              have FAR : Hid ((Value.slice qy ny cy).ownBlock ≠ some O ∧ (Value.slice qy ny cy).ownBlock ≠ some O2 ∧ (∀ ad, q7 = some ad → 0 < l7 → (Value.slice qy ny cy).ownBlock ≠ some ad.block) ∧ ∀ ad, q9 = some ad → 0 < l9 → (Value.slice qy ny cy).ownBlock ≠ some ad.block) := by
                refine ⟨fun z => ?_, fun z => ?_, fun ad e q z => ?_, fun ad e q z => ?_⟩
                · have h1 := LO.out.2.2 _ z; have h2 := LO.out.1; omega
                · have h1 := LO.out.2.2 _ z; have h2 := V11.out.2.2.2.2.2.1; omega
                · have h1 := LO.out.2.2 _ z; have h2 := LO.out.2.1 ad e q; omega
                · have h1 := LO.out.2.2 _ z; have h2 := V11.out.2.2.2.2.2.2 ad e q; omega
              have FB : Hid (f1.v.n = nv ∧ f1.v.n ≤ (i : Int) ∧ l.length ≤ i + 1) := ⟨C1.out.2.2.1.symm, C1.out.1.few, C1.out.1.lst⟩
              clear hc ef2 z1 z2 elb V11 C1
              go_upto_region 16 with fail
              rw [← eW11, ← eO2]
              clear eW11 eO2
              have k0 := V2.out.2.2.2.1.c0
              have k1 := V2.out.2.2.2.1.c1
              go_upto_region 17 with (at_builtin; refine wpList_append_lies _ rfl _ _ 43 rfl w.heap.size 31 iv (.agg #[.int .i64 0, .slice none 0 0]) 2 32 Try.underlying43 HJ.out.1 HJ.out.2.1 HJ.out.2.2.1 HJ.out.2.2.2 rfl (by decide) (.slice qy ny cy) ny (flatT es) rfl (by have o := V2.out.2.1.own; rw [← EN.out] at o; exact own_block o fun b hb => Below.heap_alloc _ _ _ (own_lt o b hb).2) ⟨W11.heap.size, 0, none⟩ 1 1 (flatT [(n9, q9, l9, c9)]) rfl rfl (by exact new_vt rfl) (flatT_one _) (by decide) (by unfold maxLen; omega) (by omega) (by have := V2.out.2.2.2.2.size; simp; omega) (W11.heap.size + 1) (by simp) ?_; intro g4 cap4 w12 hown hgrow hat hlt; have A4 : Hid (VL w w12 (.slice (some ⟨g4, 0, none⟩) (ny + 1) cap4) (es ++ [(n9, q9, l9, c9)]) (l ++ [nextV f1.v has]) f9 ∧ US w12 w.heap.size P f2 f9 ∧ VO w12 O nv q7 l7 c7 f1.v.has f9 ∧ VO w12 O2 n9 q9 l9 c9 (nextV f1.v has).has f9 ∧ Below w.heap.size w w12) := push_all V2.out.2.1 EN.out V2.out.1 NX.out V2.out.2.2.1 V2.out.2.2.2.1 V2.out.2.2.2.2 FAR.out hown hgrow hat; clear hown hgrow hat hlt)
              have m0 := A4.out.2.2.1.c0
              have m1 := A4.out.2.2.1.c1
              have m2 := A4.out.2.2.2.1.c0
              have m3 := A4.out.2.2.2.1.c1
              clear k0 k1 V2
              go_wp2_with fail
              refine (bothAt (v := f1.v) (v' := nextV f1.v has) FB.out.1.symm NX.out A4.out.2.2.1.sl A4.out.2.2.2.1.sl).mono ?_
              rintro e w13 ⟨lb', qb, cb, rfl, hlb, hsb, hb13⟩
              rw [BS.out.1, errF_ok]
              have elb : lb' = lb := by rw [hlb.out, BS.out.2.1, ← BS.out.2.2]
              rw [elb] at hsb ⊢
              rw [BS.out.2.1] at hsb
              have G13 : Hid (VL w w13 (.slice (some ⟨g4, 0, none⟩) (ny + 1) cap4) (es ++ [(n9, q9, l9, c9)]) (l ++ [nextV f1.v has]) f9 ∧ US w13 w.heap.size P f2 f9 ∧ Vw w13 qb lb (stay f1 has) ∧ Below w.heap.size w w13) := ⟨A4.out.1.later hb13, A4.out.2.1.later hb13, (sl_vw hsb).2.1, A4.out.2.2.2.2.trans (hb13.mono A4.out.2.2.2.2.size)⟩
              have r0 : w13.cell? ⟨O, 0, none⟩ = some (.int .i64 nv) := (hb13.cell (p := ⟨O, 0, none⟩) A4.out.2.2.1.lt).trans m0
              have hO : O < w13.heap.size := Nat.lt_of_lt_of_le A4.out.2.2.1.lt hb13.size
              have d2 : ((lb : Int) == 0) = false := by rw [beq_eq_false_iff_ne]; omega
              clear hlb hsb hb13 elb m0 m1 m2 m3 A4 lb'
              obtain ⟨bb, bo, rfl, hbb, hbc⟩ := G13.out.2.2.1.2 (by omega)
              obtain ⟨x0, ex0⟩ : ∃ x0, x0 = (stay f1 has).getD 0 0 := ⟨_, rfl⟩
              obtain ⟨x1, ex1⟩ : ∃ x1, x1 = (stay f1 has).getD (lb - 1) 0 := ⟨_, rfl⟩
              have HX : Hid (x0 ∈ stay f1 has ∧ x1 ∈ stay f1 has) := by
                have hl : 0 < (stay f1 has).length := by rw [← BS.out.2.2]; exact z3
                have hl2 : lb - 1 < (stay f1 has).length := by rw [← BS.out.2.2]; omega
                refine ⟨?_, ?_⟩
                · rw [ex0, List.getD, List.getElem?_eq_getElem hl]
                  exact List.getElem_mem hl
                · rw [ex1, List.getD, List.getElem?_eq_getElem hl2]
                  exact List.getElem_mem hl2
              have s0 : w13.cell? ⟨bb, bo, none⟩ = some (.int .i64 x0) := by rw [ex0]; exact hbc 0 z3
              have s1 : w13.cell? ⟨bb, bo + (lb - 1), none⟩ = some (.int .i64 x1) := by rw [ex1]; exact hbc (lb - 1) (by omega)
              have HS : Hid (∀ X : World, (∀ k, k < w13.heap.size → X.heap[k]? = w13.heap[k]?) → X.cell? ⟨O, 0, none⟩ = some (.int .i64 nv) ∧ X.cell? ⟨bb, bo, none⟩ = some (.int .i64 x0) ∧ X.cell? ⟨bb, bo + (lb - 1), none⟩ = some (.int .i64 x1)) := fun X hX => ⟨(World.cell?_of_block (a := ⟨O, 0, none⟩) (hX O hO)).trans r0, (World.cell?_of_block (a := ⟨bb, bo, none⟩) (hX bb hbb)).trans s0, (World.cell?_of_block (a := ⟨bb, bo + (lb - 1), none⟩) (hX bb hbb)).trans s1⟩
              clear hbc ex0 ex1
              go_upto_region 20 with fail
              clear d2 r0 s0 s1
              go_region_held3 (fun X => X.cell? ⟨O, 0, none⟩ = some (.int .i64 nv) ∧ X.cell? ⟨bb, bo, none⟩ = some (.int .i64 x0)) (first | exact ⟨(HS.out _ (fun _ _ => rfl)).1, (HS.out _ (fun _ _ => rfl)).2.1⟩ | exact ⟨(HS.out _ (fun k hk => H14.out.2.1.block k hk)).1, (HS.out _ (fun k hk => H14.out.2.1.block k hk)).2.1⟩) (first
                | (go_at_call 8; refine (heardU w.heap.size P f2 f9 x0 nv _ (by exact G13.out.2.1.of_blocks (Nat.le_refl _) fun _ _ => rfl) F2.out.1 (by rw [F2.out.2.2.2.2.1]; omega)).mono ?_; rintro e14 w14 ⟨q14, c14, rfl, hs14, _, hb14⟩; rw [F2.out.2.2.2.2.2.1 x0 HX.out.1, errF_ok]; obtain ⟨lx, elx⟩ : ∃ lx, lx = (hdL f2 x0 nv).length := ⟨_, rfl⟩; rw [← elx] at hs14; rw [← elx]; have H14 : Hid (Sl w14 (.slice q14 lx c14) (hdL f2 x0 nv) ∧ Below w13.heap.size w13 w14 ∧ lx = (hdL f2 x0 nv).length) := ⟨hs14, below_same hb14 rfl rfl rfl rfl, elx⟩; clear hs14 hb14 elx))
              have G14 : Hid (US w14 w.heap.size P f2 f9) := G13.out.2.1.later H14.out.2.1
              have hlb1 : IntKind.i64.wrap ((lb : Int) - 1) = ((lb - 1 : Nat) : Int) := by rw [IntWalk.i64_in _ (by omega)]; omega
              have hlb2 : (0 : Int) ≤ ((lb - 1 : Nat) : Int) := by omega
              have hlb3 : ((lb - 1 : Nat) : Int) < (lb : Int) := by omega
              go_upto_region 21 with fail
              go_region_held3 (fun X => X.cell? ⟨O, 0, none⟩ = some (.int .i64 nv) ∧ X.cell? ⟨bb, bo + (lb - 1), none⟩ = some (.int .i64 x1)) (first | exact ⟨(HS.out _ (fun k hk => H14.out.2.1.block k hk)).1, (HS.out _ (fun k hk => H14.out.2.1.block k hk)).2.2⟩ | exact ⟨(HS.out _ (fun k hk => H15.out.2.1.block k hk)).1, (HS.out _ (fun k hk => H15.out.2.1.block k hk)).2.2⟩) (first
                | (go_at_call 8; refine (heardU w.heap.size P f2 f9 x1 nv _ (by exact G14.out.of_blocks (Nat.le_refl _) fun _ _ => rfl) F2.out.1 (by rw [F2.out.2.2.2.2.1]; omega)).mono ?_; rintro e15 w15 ⟨q15, c15, rfl, hs15, _, hb15⟩; rw [F2.out.2.2.2.2.2.1 x1 HX.out.2, errF_ok]; rw [← F2.out.2.2.2.2.2.2 x0 x1 HX.out.1 HX.out.2] at hs15; rw [← F2.out.2.2.2.2.2.2 x0 x1 HX.out.1 HX.out.2]; rw [← H14.out.2.2] at hs15; rw [← H14.out.2.2]; have H15 : Hid (Sl w15 (.slice q15 lx c15) (hdL f2 x0 nv) ∧ Below w13.heap.size w13 w15 ∧ Sl w15 (.slice q14 lx c14) (hdL f2 x0 nv)) := ⟨hs15, H14.out.2.1.trans ((below_same (a := w14) hb15 rfl rfl rfl rfl).mono H14.out.2.1.size), H14.out.1.later (below_same (a := w14) hb15 rfl rfl rfl rfl)⟩; clear hs15 hb15))
              go_wp2_with fail
              refine (same_any H15.out.2.2 H15.out.1).mono ?_
              rintro e w16 ⟨rfl, hb16⟩
              rw [decide_eq_true (rfl : hdL f2 x0 nv = hdL f2 x0 nv)]
              have TE : Hid (TV w w16 P (i + 1) f2 f9 (.slice (some ⟨g4, 0, none⟩) (ny + 1) cap4) (es ++ [(n9, q9, l9, c9)]) (l ++ [nextV f1.v has])) := by
                have bb16 : Below w13.heap.size w13 w16 := H15.out.2.1.trans (hb16.mono H15.out.2.1.size)
                exact ⟨G13.out.2.1.later bb16, F2.out.1, F2.out.2.1, F2.out.2.2.1, F2.out.2.2.2.1, by rw [F2.out.2.2.2.2.1]; have h1 := FB.out.1; have h2 := FB.out.2.1; omega, by rw [List.length_append]; have := FB.out.2.2; simp; omega, G13.out.1.later bb16, G13.out.2.2.2.trans (bb16.mono G13.out.2.2.2.size)⟩
              clear hb16
              go_wp2
              go_roundw
              case rel => exact ⟨i + 1, by omega, by omega, by go_num, f2, f9, _, _, TE.out⟩
              case measure => simp [intOf]; omega
            · rw [errF_no hc]
              have TN : Hid (TV w W11 P i f1 f9 (.slice qy ny cy) es l) := by
                have z := V11.out
                rw [change_no hc] at z
                exact ⟨z.1, C1.out.1.inv, C1.out.1.rng, C1.out.1.solo, C1.out.1.chn, C1.out.1.few, C1.out.1.lst, z.2.1, z.2.2.2.2.1⟩
              clear hc
              go_upto_region 15 with fail
              rw [← eW11]
              clear eW11 eO2
              go_wp2
              go_roundw
              case rel => exact ⟨i + 1, by omega, by omega, by go_num, f1, f9, es, l, by have z := TN.out.mono (Nat.le_succ i); exact z⟩
              case measure => simp [intOf]; omega
      · rcases (show ((i : Int) < (len : Int) ∧ ¬ (i : Int) < 30) ∨ ¬ (i : Int) < (len : Int) by omega) with ⟨e1, e2⟩ | e1
        all_goals
          clear hgo
          go_wp2
          go_meet
          exact ⟨f, fp, es, l, C0.out.mono hi30⟩
  case rest =>
    obtain ⟨f, fp, es, l, hC⟩ := hcut.out
    obtain ⟨qy, cy, rfl, hvs, hc1, hc2⟩ := hC.vl.vs (by rw [hC.vl.len]; exact hC.chn.pos)
    obtain ⟨ny, eny⟩ : ∃ ny, ny = es.length := ⟨_, rfl⟩
    rw [← eny] at hvs hc1 ⊢
    obtain ⟨w7, ew7⟩ : ∃ w7, w7 = wc := ⟨_, rfl⟩
    subst ew7
    have EC : Hid (Viw.chC l = 0 ∧ Viw.Vs w7 qy ny l ∧ ny ≤ cy ∧ cy ≤ maxLen ∧ Below w.heap.size w w7) := ⟨hC.chn.code (by have := hC.lst; omega), hvs, hc1, hc2, hC.bel⟩
    clear hcut hC hvs hc1 hc2 eny T3
    go_wp2_with fail
    refine (chainV l qy ny cy w7 EC.out.2.1 EC.out.2.2.1 EC.out.2.2.2.1).mono ?_
    rintro e w8 ⟨rfl, hb⟩
    rw [EC.out.1, errF_ok]
    have B8 : Hid (Below w.heap.size w w8) := EC.out.2.2.2.2.trans (hb.mono EC.out.2.2.2.2.size)
    obtain ⟨cn, ecn⟩ : ∃ cn : Int, cn = (Viw.chN l : Int) := ⟨_, rfl⟩
    rw [← ecn]
    clear hb ecn
    go_wp2
    go_ret
    exact ⟨rfl, B8.out⟩
theorem views_any (n : Int) (a : Option Addr) (len cap : Nat) (ms : List (List Int)) (b : Option Addr) (len' cap' : Nat) (ws : List Int) (w : World) (hR : Rs w a len ms) (hW : Vw w b len' ws) (hm : len' ≤ maxLen) : Calls Try.prog 4 #[.int .i64 n, .slice a len cap, .slice b len' cap'] w fun e w' => e = .returned (.bool true) ∧ Below w.heap.size w w' := by
  by_cases h : n < 2 ∨ 5 < n
  · exact views_bad n a len cap b len' cap' w h
  · obtain ⟨x, rfl⟩ : ∃ x : Nat, n = (x : Int) := ⟨n.toNat, by omega⟩
    exact views_ok x a len cap ms b len' cap' ws w hR hW hm (by omega) (by omega)
end Go.Proofs.Ytgdmbnfdcbekaai.Flu
