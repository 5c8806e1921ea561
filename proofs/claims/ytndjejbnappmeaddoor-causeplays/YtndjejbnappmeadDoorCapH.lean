/-
  Contract of package cause's hear: one that is ready is heard, and then what follows it.
-/
import Derived.Test.YtndjejbnappmeadDoorCapF
import Derived.Deep.AppendLies
namespace Go.Proofs.YtndjejbnappmeadDoor.Cap
open Go.RowKit Go.Maps
open Go.Proofs.YtndjejbnappmeadDoor.Cau
open Go.Proofs.YtndjejbnappmeadDoor.Vec (code Vw anyP ret_bool)
open Go.Proofs.YtndjejbnappmeadDoor.Fif (own_lt own_block own_mono own_vw own_form Kp info_int new_int int_one lenOf)
set_option linter.unusedVariables false
variable {base P mb : Nat} {me : Int} {K : List Int} {cn : Int} {es : List En}

theorem blk_push {w w' : World} {ob : Obj} (e : w'.heap = w.heap.push ob) {k : Nat} (hk : k < w.heap.size) : w'.heap[k]? = w.heap[k]? := by
  rw [e, Array.getElem?_push_lt hk, Array.getElem?_eq_getElem hk]
theorem own_push {w w' : World} {ob : Obj} {base : Nat} {t : TypeId} {s n : Nat} {v : Value} {xs : List Value} (o : w.ownsRow base t s v n xs) (e : w'.heap = w.heap.push ob) : w'.ownsRow base t s v n xs := own_block o fun k hk => blk_push e (own_lt o k hk).2
theorem int_push {w w' : World} {x : Int} {t : TypeId} (e : w'.heap = w.heap.push (.cells #[.int .i64 x] t)) : ∀ j u, [Value.int .i64 x][j]? = some u → w'.cell? ((⟨w.heap.size, 0, none⟩ : Addr).add j) = some u := by
  intro j u hj
  refine Eq.trans (World.cell?_of_block ?_) (new_int w _ rfl x t j u hj)
  rw [e]
  rfl
theorem grown_push {w2 X w3 : World} {ob : Obj} {r : Option Nat} (hg : X.grownBy w3 r) (e : X.heap = w2.heap.push ob) (e1 : X.os = w2.os) (e2 : X.tape = w2.tape) (e3 : X.output = w2.output) : (w2.alloc ob).grownBy w3 r := by
  obtain ⟨a1, a2, a3, a4, a5⟩ := hg
  exact ⟨a1.trans e1, a2.trans e2, a3.trans e3, by rw [e] at a4; exact a4, fun k hk hne => (a5 k (by rw [e]; exact hk) hne).trans (by rw [e]; rfl)⟩
theorem rdy_own {K : List Int} {s : Sd} (h : rdy K s = true) {m : Nat} (hm : m < 5) (e : s.1 = (m : Int)) : s.2.2.getD m 0 = K.getD m 0 + 1 := by
  have := rdy_iff.1 h m hm
  rw [rdyAt_own e.symm] at this
  exact of_decide_eq_true this
/-- as far as it goes -/
structure HM (w : World) (base P mb : Nat) (me cn : Int) (es0 : List En) (fin : List Int × List Int × List Sd) (wr : World) (vo : Value) (more : Bool) (K : List Int) (es : List En) (out : List Int) (a b : Int) : Prop where
  cf : CF wr base P mb me K cn es
  cnt : Cn K cn es
  own : wr.ownsRow (w.heap.size + 1) 3 1 vo out.length (out.map (Value.int .i64))
  len : es.length + out.length = es0.length
  sub : ∀ e ∈ es, e ∈ es0
  bel : Below base w wr
  kp : Kp w wr P (some mb)
  row : wr.rowIs w.heap.size 62 2 (pv a b)
  way : (more = true ∧ ∃ i, ∃ hi : i < es.length, .agg #[.int .i64 a, .int .i64 b] = es[i].at ∧ rdy K es[i].s = true ∧ (out ++ (go1 K (es.map En.s) i).1, (go1 K (es.map En.s) i).2) = fin) ∨ (more = false ∧ (out, K, es.map En.s) = fin)

set_option maxRecDepth 100000 in
set_option maxHeartbeats 1000000 in
theorem hear_any (i : Nat) (a b : Int) (w : World) (hi : i < es.length) (hat : .agg #[.int .i64 a, .int .i64 b] = es[i].at) (g : CF w base P mb me K cn es) (hc : Cn K cn es) (hr : rdy K es[i].s = true) (hl : es.length ≤ 41) (hbw : base ≤ w.heap.size) :
    Calls Tryd.prog 24 #[.pointer (some ⟨P, 0, none⟩), .agg #[.int .i64 a, .int .i64 b]] w fun x w' => ∃ vo es', x = .returned vo ∧
      CF w' base P mb me (go1 K (es.map En.s) i).2.1 cn es' ∧ Cn (go1 K (es.map En.s) i).2.1 cn es' ∧ es'.map En.s = (go1 K (es.map En.s) i).2.2 ∧ (∀ e ∈ es', e ∈ es) ∧
      w'.ownsRow w.heap.size 3 1 vo (go1 K (es.map En.s) i).1.length ((go1 K (es.map En.s) i).1.map (Value.int .i64)) ∧ Below base w w' ∧ Kp w w' P (some mb) := by
  obtain ⟨fin, efin⟩ : ∃ fin, fin = go1 K (es.map En.s) i := ⟨_, rfl⟩
  rw [← efin]
  obtain ⟨W, eW⟩ : ∃ W, W = w.alloc (.cells #[.int .i64 a, .int .i64 b] 62) := ⟨_, rfl⟩
  have BW : Hid (Below w.heap.size w W) := by rw [eW]; exact (Below.refl _ _).alloc (Nat.le_refl _) _
  have M0 : Hid (HM w base P mb me cn es fin W (.slice none 0 0) true K es [] a b) := by
    refine ⟨g.later BW.out, hc, World.ownsRow_nil _ _ _ _, rfl, fun _ h => h, BW.out.mono hbw, Kp.below BW.out _, ?_, .inl ⟨rfl, i, hi, hat, hr, by rw [efin]; rfl⟩⟩
    rw [eW]
    exact pv_new w a b
  have HG0 : Hid (CF w base P mb me K cn es) := g
  obtain ⟨ii, hii, hz0, hz1, hz2⟩ := info_int
  have HJ : Hid (Tryd.prog.info? 3 = some ii ∧ ii.zero = some (.int .i64 0) ∧ ii.size = 1 ∧ ii.bytes = 8) := ⟨hii, hz0, hz1, hz2⟩
  have HB0 : Hid (base ≤ w.heap.size ∧ es.length ≤ 41) := ⟨hbw, hl⟩
  clear g hc hr hat hbw hl hii hz0 hz1 hz2 efin hi
  go_enter Tryd.func24, Tryd.ntmps24
  go_wp2
  rw [← eW]
  clear eW
  go_loopw [5, 6] (fun x y wr => ∃ (more : Bool) (K' : List Int) (es' : List En) (out : List Int) (a' b' : Int), y = .bool more ∧ Hid (HM w base P mb me cn es fin wr x more K' es' out a' b')) (fun x _ _ => 42 - lenOf x)
  case atStart => exact ⟨true, K, es, [], a, b, rfl, M0⟩
  case round =>
    obtain ⟨more, K', es', out, a', b', rfl, hM⟩ := hrel
    cases more
    · obtain ⟨qo, co, rfl⟩ := own_form hM.out.own
      go_wp2
      go_ret
      have h := hM.out
      rcases h.way with ⟨q, _⟩ | ⟨_, e⟩
      · cases q
      · rw [← e]
        exact ⟨_, es', rfl, h.cf, h.cnt, rfl, h.sub, own_mono h.own (Nat.le_succ _), h.bel, h.kp⟩
    · obtain ⟨qo, co, rfl⟩ := own_form hM.out.own
      obtain ⟨j, hj, hat, hrd, hfin⟩ : ∃ i, ∃ hi : i < es'.length, .agg #[.int .i64 a', .int .i64 b'] = es'[i].at ∧ rdy K' es'[i].s = true ∧ (out ++ (go1 K' (es'.map En.s) i).1, (go1 K' (es'.map En.s) i).2) = fin := by
        rcases hM.out.way with ⟨_, q⟩ | ⟨q, _⟩
        · exact q
        · cases q
      have he : es'[j] ∈ es' := List.getElem_mem hj
      obtain ⟨m, em, hm⟩ := who_nat (hM.out.cf.ok _ he)
      have hab : a' = (m : Int) ∧ b' = es'[j].n := by
        rw [En.at, em] at hat
        simpa using hat
      obtain ⟨rfl, eb⟩ := hab
      obtain ⟨x, ex⟩ : ∃ x, x = es'[j].s.2.1 := ⟨_, rfl⟩
      obtain ⟨t, et⟩ : ∃ t, t = es'[j].t := ⟨_, rfl⟩
      obtain ⟨gg, egg⟩ : ∃ gg, gg = es'[j].g := ⟨_, rfl⟩
      obtain ⟨cc, ecc⟩ : ∃ cc, cc = es'[j].c := ⟨_, rfl⟩
      have eval : es'[j].val = .agg #[.int .i64 t, .int .i64 (m : Int), .int .i64 x, .slice (some ⟨gg, 0, none⟩) 5 cc] := by rw [En.val, em, et, ex, egg, ecc]
      have hKm : K'.getD m 0 < 1000000 ∧ 0 ≤ K'.getD m 0 := by
        have h1 := rdy_own hrd hm em
        have h2 := (code_num (hM.out.cf.ok _ he).clk).2 m hm
        have h3 := hM.out.cf.num m hm
        omega
      obtain ⟨y, ey⟩ : ∃ y, y = K'.getD m 0 := ⟨_, rfl⟩
      obtain ⟨lo, elo⟩ : ∃ lo, lo = out.length := ⟨_, rfl⟩
      have hlo : lo ≤ 40 := by have := hM.out.len; have := HB0.out.2; omega
      have OO : Hid (wr.ownsRow (w.heap.size + 1) 3 1 (.slice qo lo co) lo (out.map (Value.int .i64)) ∧ w.heap.size + 1 ≤ wr.heap.size ∧ ∀ k, (Value.slice qo lo co).ownBlock = some k → w.heap.size + 1 ≤ k ∧ k < wr.heap.size) := by
        have o := hM.out.own
        rw [← elo] at o
        have := World.rowIs.lt hM.out.row
        exact ⟨o, this, own_lt o⟩
      have NE : Hid (∀ k, k ≤ w.heap.size → some k ≠ (Value.slice qo lo co).ownBlock) := fun k hk q => by have := (OO.out.2.2 k q.symm).1; omega
      have HF : Hid (∀ w' : World, (∀ k, k < wr.heap.size → some k ≠ (Value.slice qo lo co).ownBlock → w'.heap[k]? = wr.heap[k]?) → w'.cell? ⟨P, 7, none⟩ = some (.map (some mb)) ∧ w'.cell? ⟨w.heap.size, 0, none⟩ = some (.int .i64 (m : Int)) ∧ w'.cell? ⟨w.heap.size, 1, none⟩ = some (.int .i64 b') ∧ (Instr.lookup 51 (.map (some mb)) (.agg #[.int .i64 (m : Int), .int .i64 b']) false).run Tryd.prog w' = .ok (.agg #[.int .i64 t, .int .i64 (m : Int), .int .i64 x, .slice (some ⟨gg, 0, none⟩) 5 cc]) w') := by
        intro w' h
        have bP := h P hM.out.cf.lt.1 (NE.out P (Nat.le_of_lt HG0.out.lt.1))
        have bM := h mb hM.out.cf.lt.2 (NE.out mb (Nat.le_of_lt HG0.out.lt.2))
        have bR := h w.heap.size (World.rowIs.lt hM.out.row) (NE.out _ (Nat.le_refl _))
        have l := hM.out.cf.look he w' bM
        rw [← hat, eval] at l
        exact ⟨(World.cell?_of_block (a := ⟨P, 7, none⟩) bP).trans hM.out.cf.wait.1, (World.cell?_of_block (a := ⟨w.heap.size, 0, none⟩) bR).trans (World.rowIs.cell hM.out.row (i := 0) (by omega)), (World.cell?_of_block (a := ⟨w.heap.size, 1, none⟩) bR).trans (World.rowIs.cell hM.out.row (i := 1) (by omega)), l⟩
      have hf1 := fld_s t (m : Int) x (.slice (some ⟨gg, 0, none⟩) 5 cc)
      have hf2 := fld_w (m : Int) x (.slice (some ⟨gg, 0, none⟩) 5 cc)
      have HE : Hid (em = em ∧ .agg #[.int .i64 (m : Int), .int .i64 b'] = es'[j].at ∧ x = es'[j].s.2.1 ∧ es'[j].s.1 = (m : Int) ∧ (out ++ (go1 K' (es'.map En.s) j).1, (go1 K' (es'.map En.s) j).2) = fin ∧ y = K'.getD m 0 ∧ lo = out.length ∧ y < 1000000 ∧ 0 ≤ y) := ⟨rfl, hat, ex, em, hfin, ey, elo, by rw [ey]; exact hKm.1, by rw [ey]; exact hKm.2⟩
      have hm0 : (0 : Int) ≤ (m : Int) := by omega
      have hm5 : (m : Int) < 5 := by omega
      have h8 : (lo + 1) * 8 ≤ 140737488355328 := by omega
      rw [← elo]
      clear hat hrd hfin eb ex et egg ecc eval hKm ey elo
      go_wp2_with fail
      go_region_held3 (fun w' => w'.cell? ⟨P, 7, none⟩ = some (.map (some mb)) ∧ w'.cell? ⟨w.heap.size, 0, none⟩ = some (.int .i64 (m : Int)) ∧ w'.cell? ⟨w.heap.size, 1, none⟩ = some (.int .i64 b') ∧ (Instr.lookup 51 (.map (some mb)) (.agg #[.int .i64 (m : Int), .int .i64 b']) false).run Tryd.prog w' = .ok (.agg #[.int .i64 t, .int .i64 (m : Int), .int .i64 x, .slice (some ⟨gg, 0, none⟩) 5 cc]) w') (first | exact HF.out _ (fun _ _ _ => rfl) | exact HF.out _ K5.out | exact HF.out _ (fun _ hk _ => blk_push rfl hk)) (first
        | (refine step_append_lies _ (by rfl) _ _ _ (by rfl) (w.heap.size + 1) 3 ii (.int .i64 0) 1 8 Tryd.underlying22 HJ.out.1 HJ.out.2.1 HJ.out.2.2.1 HJ.out.2.2.2 rfl (by omega) (.slice qo lo co) lo (out.map (Value.int .i64)) (by rfl) (by exact own_push OO.out.1 rfl) ⟨wr.heap.size, 0, none⟩ 1 1 [.int .i64 x] (by rfl) (by rfl) (by exact int_push rfl) (int_one _) (by omega) (by unfold maxLen; omega) h8 (by have := OO.out.2.1; simp; omega) (wr.heap.size + 1) (by simp) ?_; intro g5 c5 w5 hown hgrow hat hlt5; have G5 : Hid ((wr.alloc (.cells #[.int .i64 x] 3)).grownBy w5 (Value.slice qo lo co).ownBlock) := grown_push hgrow rfl rfl rfl rfl; have O5 : Hid (w5.ownsRow (w.heap.size + 1) 3 1 (.slice (some ⟨g5, 0, none⟩) (lo + 1) c5) (lo + 1) (out.map (Value.int .i64) ++ [.int .i64 x])) := hown; have K5 : Hid (∀ k, k < wr.heap.size → some k ≠ (Value.slice qo lo co).ownBlock → w5.heap[k]? = wr.heap[k]?) := fun k hk hne => (G5.out.block k (by simp; omega) hne).trans (blk_push rfl hk); clear hown hgrow hat hlt5))
      have F5 : Hid (CF w5 base P mb me K' cn es') := hM.out.cf.of_blocks fun k hk => K5.out k (hM.out.cf.fp k hk).2 (NE.out k (by
        rcases List.mem_cons.1 hk with rfl | hk
        · exact Nat.le_of_lt HG0.out.lt.1
        · rcases List.mem_cons.1 hk with rfl | hk
          · exact Nat.le_of_lt HG0.out.lt.2
          · obtain ⟨e1, he1, rfl⟩ := List.mem_map.1 hk
            exact Nat.le_of_lt (HG0.out.glt (hM.out.sub e1 he1)).2))
      have R5 : Hid (w5.rowIs w.heap.size 62 2 (pv (m : Int) b')) := World.rowIs.of_block hM.out.row (K5.out _ (World.rowIs.lt hM.out.row) (NE.out _ (Nat.le_refl _)))
      obtain ⟨W6, hdel, hF6, hT6⟩ := CF.del (w := w5.drew) (F5.out.of_blocks fun _ _ => rfl) hj 0
      rw [← HE.out.2.1] at hdel
      have F6 : Hid (CF W6 base P mb me K' cn (es'.eraseIdx j) ∧ w5.drew.mapTurned W6 mb) := ⟨hF6, hT6⟩
      obtain ⟨b7, _⟩ := F5.out.wait
      have b0 : w5.cell? ⟨w.heap.size, 0, none⟩ = some (.int .i64 (m : Int)) := World.rowIs.cell R5.out (i := 0) (by omega)
      have b1 : w5.cell? ⟨w.heap.size, 1, none⟩ = some (.int .i64 b') := World.rowIs.cell R5.out (i := 1) (by omega)
      clear hF6 hT6 hf1 hf2
      go_wp2_with fail
      go_region
      have R6 : Hid (W6.rowIs w.heap.size 62 2 (pv (m : Int) b')) := World.rowIs.of_block (w := w5.drew) (World.rowIs.of_block R5.out rfl) (g_of_turned F6.out.2 (World.rowIs.lt R5.out) (by have := HG0.out.lt.2; show w.heap.size ≠ mb; omega))
      have c0 : W6.cell? ⟨w.heap.size, 0, none⟩ = some (.int .i64 (m : Int)) := World.rowIs.cell R6.out (i := 0) (by omega)
      obtain ⟨cm, zm⟩ := F6.out.1.clock hm
      rw [← HE.out.2.2.2.2.2.1] at cm
      have hy : y + 1 ≤ 1000000 := by have := HE.out.2.2.2.2.2.2.2.1; omega
      have hy0 : 0 ≤ y := HE.out.2.2.2.2.2.2.2.2
      clear hdel b7 b0 b1
      go_wp2_with fail
      go_region
      obtain ⟨W7, eW7⟩ : ∃ W7, W7 = (W6.setCell ⟨P, 1 + m, none⟩ (.int .i64 (y + 1))).drew := ⟨_, rfl⟩
      rw [← eW7]
      have F7 : Hid (CF W7 base P mb me (inc K' (m : Int)) cn (es'.eraseIdx j) ∧ W7.rowIs w.heap.size 62 2 (pv (m : Int) b') ∧ Below base wr W7 ∧ Kp w W7 P (some mb) ∧ W7.ownsRow (w.heap.size + 1) 3 1 (.slice (some ⟨g5, 0, none⟩) (lo + 1) c5) (lo + 1) (out.map (Value.int .i64) ++ [.int .i64 x])) := by
        have q := F6.out.1.incK hm (by rw [← HE.out.2.2.2.2.2.1]; exact HE.out.2.2.2.2.2.2.2.1)
        rw [← HE.out.2.2.2.2.2.1] at q
        have hPw : P ≠ w.heap.size := by have := HG0.out.lt.1; omega
        have hMw : mb < w.heap.size := HG0.out.lt.2
        have hbw : base ≤ wr.heap.size := by have := OO.out.2.1; have := HB0.out.1; omega
        have b5 : Below base wr w5 := ((Below.refl base wr).alloc hbw _).grown G5.out (by simp; omega) (fun k e => by have := (OO.out.2.2 k e).1; have := HB0.out.1; omega)
        have b6 : Below base wr W6 := (b5.drew).trans (turned_below F6.out.2 F6.out.1.low.2)
        have k2 : Kp w (wr.alloc (.cells #[.int .i64 x] 3)) P (some mb) := hM.out.kp.trans (r' := none) (Kp.alloc wr _ P none) (by simp)
        have k3 : Kp w w5 P (some mb) := k2.trans (Kp.grown G5.out P) (fun k e => .inl (by have := (OO.out.2.2 k e).1; omega))
        have k4 : Kp w w5.drew P (some mb) := k3
        have k6 : Kp w W6 P (some mb) := k4.trans (turned_kp F6.out.2 P) (fun k e => .inr (.inl e))
        rw [eW7]
        refine ⟨q.of_blocks fun _ _ => rfl, World.rowIs.of_block (World.rowIs.setOther R6.out (a := ⟨P, 1 + m, none⟩) (Ne.symm hPw) _) rfl, (b6.setCell (p := ⟨P, 1 + m, none⟩) F6.out.1.low.1 _).drew, ?_, ?_⟩
        · exact k6.trans (r' := none) (Kp.setCell W6 P (1 + m) _ none) (by simp)
        · refine own_block O5.out fun k hk => ?_
          have hk1 := own_lt O5.out k hk
          show (W6.setCell ⟨P, 1 + m, none⟩ (.int .i64 (y + 1))).heap[k]? = _
          rw [Deep.blk_setCell_other _ _ _ _ (by show k ≠ P; have := HG0.out.lt.1; omega)]
          exact g_of_turned (w := w5.drew) F6.out.2 hk1.2 (by omega)
      clear eW7 c0 cm zm
      go_wp2_with fail
      refine (first_any W7 F7.out.1).mono ?_
      rintro e8 w8 ⟨a8, b8, more8, rfl, hB8, hW8⟩
      have B8 : Hid (Below W7.heap.size W7 w8 ∧ ((more8 = true ∧ ∃ i, ∃ hi : i < (es'.eraseIdx j).length, .agg #[.int .i64 a8, .int .i64 b8] = (es'.eraseIdx j)[i].at ∧ rdy (inc K' (m : Int)) (es'.eraseIdx j)[i].s = true ∧ ((es'.eraseIdx j).map En.s).findIdx? (rdy (inc K' (m : Int))) = some i) ∨ (more8 = false ∧ ((es'.eraseIdx j).map En.s).findIdx? (rdy (inc K' (m : Int))) = none))) := ⟨hB8, hW8⟩
      have R8 : Hid (w8.rowIs w.heap.size 62 2 (pv (m : Int) b')) := World.rowIs.of_block F7.out.2.1 (B8.out.1.block _ (World.rowIs.lt F7.out.2.1))
      have d0 : w8.cell? ⟨w.heap.size, 0, none⟩ = some (.int .i64 (m : Int)) := World.rowIs.cell R8.out (i := 0) (by omega)
      have d1 : w8.cell? ⟨w.heap.size, 1, none⟩ = some (.int .i64 b') := World.rowIs.cell R8.out (i := 1) (by omega)
      have f0 := World.rowIs.frozen R8.out 0
      have f1 := World.rowIs.frozen R8.out 1
      clear hB8 hW8
      go_wp2
      go_roundw
      case rel =>
        have bl : ∀ k, k ≠ w.heap.size → ((w8.setCell ⟨w.heap.size, 0, none⟩ (.int .i64 a8)).setCell ⟨w.heap.size, 1, none⟩ (.int .i64 b8)).heap[k]? = w8.heap[k]? := by
          intro k hk
          rw [Deep.blk_setCell_other _ _ _ _ hk, Deep.blk_setCell_other _ _ _ _ hk]
        have hsub := List.eraseIdx_sublist es' j
        have hbw : base ≤ w.heap.size := HB0.out.1
        have h7 : w.heap.size ≤ W7.heap.size := Nat.le_of_lt (World.rowIs.lt F7.out.2.1)
        have b8' : Below base w w8 := (hM.out.bel.trans F7.out.2.2.1).trans (B8.out.1.mono (by omega))
        have eg : go1 K' (es'.map En.s) j = (x :: (run (inc K' (m : Int)) ((es'.eraseIdx j).map En.s)).1, (run (inc K' (m : Int)) ((es'.eraseIdx j).map En.s)).2) := by
          unfold go1
          rw [sd_map hj, HE.out.2.2.2.1, ← HE.out.2.2.1, erase_map]
        have hf := HE.out.2.2.2.2.1
        rw [eg] at hf
        refine ⟨more8, inc K' (m : Int), es'.eraseIdx j, out ++ [x], a8, b8, rfl, (F7.out.1.later B8.out.1).of_blocks fun k hk => bl k ?_, hM.out.cnt.del hM.out.cf.five hm hj, ?_, ?_, fun e he => hM.out.sub e (hsub.subset he), (b8'.setCell (p := ⟨w.heap.size, 0, none⟩) hbw _).setCell (p := ⟨w.heap.size, 1, none⟩) hbw _, ⟨?_, fun k hk hP hne => ?_⟩, ((World.rowIs.set R8.out 0 _).set 1 _).congr fun q hq => ?_, ?_⟩
        · rcases List.mem_cons.1 hk with rfl | hk
          · exact Nat.ne_of_lt HG0.out.lt.1
          · rcases List.mem_cons.1 hk with rfl | hk
            · exact Nat.ne_of_lt HG0.out.lt.2
            · obtain ⟨e1, he1, rfl⟩ := List.mem_map.1 hk
              exact Nat.ne_of_lt (HG0.out.glt (hM.out.sub e1 (hsub.subset he1))).2
        · have o := F7.out.2.2.2.2
          rw [List.length_append, List.map_append, ← HE.out.2.2.2.2.2.2.1]
          refine own_block o fun k hk => ?_
          have hk1 := own_lt o k hk
          rw [bl k (by omega)]
          exact B8.out.1.block k hk1.2
        · have := hM.out.len
          rw [List.length_append, List.length_eraseIdx, if_pos hj]
          simp
          omega
        · exact ((b8'.setCell (p := ⟨w.heap.size, 0, none⟩) hbw (.int .i64 a8)).setCell (p := ⟨w.heap.size, 1, none⟩) hbw (.int .i64 b8)).size
        · rw [bl k (by omega), B8.out.1.block k (by omega)]
          exact F7.out.2.2.2.1.2 k hk hP hne
        · rcases q with _ | _ | q
          · rfl
          · rfl
          · omega
        · rcases B8.out.2 with ⟨h1, i8, hi8, hat8, hr8, hx8⟩ | ⟨h1, hx8⟩
          · refine .inl ⟨h1, i8, hi8, hat8, hr8, ?_⟩
            rw [← hf, run_go hx8]
            unfold go1
            simp
          · refine .inr ⟨h1, ?_⟩
            rw [← hf, run_stop hx8]
      case measure => simp [lenOf]; omega
end Go.Proofs.YtndjejbnappmeadDoor.Cap
