/-
  Contract of package cause's Take.
-/
import Derived.Test.YtndjejbnappmeadDoorCapD
import Derived.Test.YtndjejbnappmeadDoorCapH
namespace Go.Proofs.YtndjejbnappmeadDoor.Cap
open Go.RowKit Go.Maps
open Go.Proofs.YtndjejbnappmeadDoor.Cau
open Go.Proofs.YtndjejbnappmeadDoor.Vec (code Vw anyP ret_bool)
open Go.Proofs.YtndjejbnappmeadDoor.Fif (own_lt own_block own_mono own_vw own_form Kp info_int)
set_option linter.unusedVariables false
variable {base P mb : Nat} {me : Int} {K : List Int} {cn : Int} {es : List En}

set_option maxRecDepth 100000 in
theorem take_no (who word : Int) (q : Option Addr) (len cap : Nat) (clk : List Int) (w : World) (g : CF w base P mb me K cn es) (hv : Vw w q len clk) (hc : ckC me K (es.map En.s) (who, word, clk) ≠ 0) :
    Calls Tryd.prog 10 #[.pointer (some ⟨P, 0, none⟩), .agg #[.int .i64 who, .int .i64 word, .slice q len cap]] w fun x w' => x = .returned (.tuple #[.slice none 0 0, errF (ckC me K (es.map En.s) (who, word, clk))]) ∧ Below w.heap.size w w' := by
  obtain ⟨W, eW⟩ : ∃ W, W = w.alloc (.cells #[.int .i64 who, .int .i64 word, .slice q len cap] 35) := ⟨_, rfl⟩
  have BW : Hid (Below w.heap.size w W) := by rw [eW]; exact (Below.refl _ _).alloc (Nat.le_refl _) _
  have GW : Hid (CF W base P mb me K cn es ∧ Vw W q len clk) := ⟨g.later BW.out, hv.later BW.out⟩
  have HC : Hid (ckC me K (es.map En.s) (who, word, clk) ≠ 0) := hc
  rw [errF_no hc]
  clear g hv hc
  go_enter Tryd.func10, Tryd.ntmps10
  go_wp2_with fail
  rw [← eW]
  refine (check_any who word q len cap clk W GW.out.1 GW.out.2).mono ?_
  rintro e w1 ⟨rfl, hb⟩
  have B1 : Hid (Below w.heap.size w w1) := BW.out.trans (hb.mono BW.out.size)
  rw [errF_no HC.out]
  clear hb eW
  go_wp2
  go_ret2
  exact ⟨rfl, B1.out⟩
theorem ck_ok {ws : List Sd} {who word : Int} {clk : List Int} (h : ckC me K ws (who, word, clk) = 0) : (0 ≤ who ∧ who ≤ 4) ∧ (1 ≤ word ∧ word ≤ 30) ∧ code clk = 0 ∧ (¬ ws.any (same (who, word, clk)) = true) ∧ (rdy K (who, word, clk) = false → ws.length < 40) := by
  unfold ckC at h
  by_cases h1 : sdBad (who, word, clk) = true
  · rw [if_pos h1] at h; omega
  rw [if_neg h1] at h
  have h1' : ¬ (who < 0) ∧ ¬ (4 < who) ∧ ¬ (word < 1) ∧ ¬ (30 < word) := by
    simp [sdBad] at h1
    omega
  by_cases h2 : code (who, word, clk).2.2 ≠ 0
  · rw [if_pos h2] at h; exact absurd h h2
  rw [if_neg h2] at h
  have h2' : code clk = 0 := by
    rcases Classical.em (code clk = 0) with q | q
    · exact q
    · exact absurd q h2
  by_cases h3 : (who, word, clk).1 = me
  · rw [if_pos h3] at h; omega
  rw [if_neg h3] at h
  by_cases h4 : (who, word, clk).2.2.getD (who, word, clk).1.toNat 0 = 0
  · rw [if_pos h4] at h; omega
  rw [if_neg h4] at h
  by_cases h5 : (who, word, clk).2.2.getD (who, word, clk).1.toNat 0 ≤ K.getD (who, word, clk).1.toNat 0
  · rw [if_pos h5] at h; omega
  rw [if_neg h5] at h
  by_cases h6 : ws.any (same (who, word, clk)) = true
  · rw [if_pos h6] at h; omega
  rw [if_neg h6] at h
  by_cases h7 : rdy K (who, word, clk) = false ∧ 40 ≤ ws.length
  · rw [if_pos h7] at h; omega
  refine ⟨by omega, by omega, h2', h6, fun q => ?_⟩
  rcases Nat.lt_or_ge ws.length 40 with a | a
  · exact a
  · exact absurd ⟨q, a⟩ h7
/-- a word that has come and waits, whatever follows -/
def TkW (w w6 : World) (base P mb m : Nat) (me cn : Int) (K clk : List Int) (word : Int) (es : List En) (B g c : Nat) : Prop :=
  CF w6 base P mb me K (cn + 1) (es ++ [⟨cn + 1, ((m : Int), word, clk), g, c⟩]) ∧ Cn K (cn + 1) (es ++ [⟨cn + 1, ((m : Int), word, clk), g, c⟩]) ∧ SB w6 B (m : Int) word (.slice (some ⟨g, 0, none⟩) 5 c) ∧ Below base w w6 ∧ Kp w w6 P (some mb) ∧ w.heap.size ≤ g

/-- what comes of hearing -/
def HearP (w w' : World) (base P mb : Nat) (me : Int) (K : List Int) (cn : Int) (es : List En) (i : Nat) (vo : Value) (es' : List En) : Prop :=
  CF w' base P mb me (go1 K (es.map En.s) i).2.1 cn es' ∧ Cn (go1 K (es.map En.s) i).2.1 cn es' ∧ es'.map En.s = (go1 K (es.map En.s) i).2.2 ∧ (∀ e ∈ es', e ∈ es) ∧
      w'.ownsRow w.heap.size 3 1 vo (go1 K (es.map En.s) i).1.length ((go1 K (es.map En.s) i).1.map (Value.int .i64)) ∧ Below base w w' ∧ Kp w w' P (some mb)
theorem put4 {m g2 c2 : Nat} {word n : Int} {clk : List Int} {W3 w4 : World} (hm : m < 5) (hn : n = clk.getD m 0) (g : CF W3 base P mb me K (cn + 1) es) (htop : ∀ e ∈ es, e.t ≤ cn) (ho : W3.ownsRow base 3 1 (.slice (some ⟨g2, 0, none⟩) 5 c2) 5 (clk.map (Value.int .i64))) (hok : SdOk ((m : Int), word, clk)) (hno : ∀ e ∈ es, e.key ≠ kl (m : Int) (clk.getD m 0)) (hl : es.length ≤ 40) (h4 : Below W3.heap.size W3 w4) :
    ∃ w6, (Instr.mapUpdate 51 (.map (some mb)) (.agg #[.int .i64 (m : Int), .int .i64 n]) (.agg #[.int .i64 (cn + 1), .int .i64 (m : Int), .int .i64 word, .slice (some ⟨g2, 0, none⟩) 5 c2])).run Tryd.prog w4 = .ok () w6 ∧
      CF w6 base P mb me K (cn + 1) (es ++ [⟨cn + 1, ((m : Int), word, clk), g2, c2⟩]) ∧ w4.mapTurned w6 mb := by
  have q := (g.later h4).put ⟨cn + 1, ((m : Int), word, clk), g2, c2⟩ (own_block ho fun k hk => h4.block k (own_lt ho k hk).2) hok hno (fun x hx => by have := htop x hx; show x.t < cn + 1; omega) (Int.le_refl _) (by unfold maxLen; omega)
  rw [hn]
  exact q
set_option maxRecDepth 100000 in
set_option maxHeartbeats 1000000 in
theorem take_ok (m b off cap : Nat) (word : Int) (clk : List Int) (w : World) (hm : m < 5) (g : CF w base P mb me K cn es) (hcn : Cn K cn es) (hv : Vw w (some ⟨b, off, none⟩) 5 clk) (hc : ckC me K (es.map En.s) ((m : Int), word, clk) = 0) (hl : es.length ≤ 40) (hbw : base ≤ w.heap.size) :
    Calls Tryd.prog 10 #[.pointer (some ⟨P, 0, none⟩), .agg #[.int .i64 (m : Int), .int .i64 word, .slice (some ⟨b, off, none⟩) 5 cap]] w fun x w' => ∃ g6 c6 w6, TkW w w6 base P mb m me cn K clk word es w.heap.size g6 c6 ∧
      ((rdy K ((m : Int), word, clk) = false ∧ x = .returned (.tuple #[.slice none 0 0, .nilIface]) ∧ Below w6.heap.size w6 w') ∨
       (rdy K ((m : Int), word, clk) = true ∧ ∃ vo es' w8, x = .returned (.tuple #[vo, .nilIface]) ∧ Below w6.heap.size w6 w8 ∧ HearP w8 w' base P mb me K (cn + 1) (es ++ [⟨cn + 1, ((m : Int), word, clk), g6, c6⟩]) es.length vo es')) := by
  obtain ⟨_, hwd, hcd, hsm, _⟩ := ck_ok hc
  obtain ⟨W, eW⟩ : ∃ W, W = w.alloc (.cells #[.int .i64 (m : Int), .int .i64 word, .slice (some ⟨b, off, none⟩) 5 cap] 35) := ⟨_, rfl⟩
  have BW : Hid (Below w.heap.size w W) := by rw [eW]; exact (Below.refl _ _).alloc (Nat.le_refl _) _
  have GW : Hid (CF W base P mb me K cn es ∧ Vw W (some ⟨b, off, none⟩) 5 clk) := ⟨g.later BW.out, hv.later BW.out⟩
  have RW : Hid (W.rowIs w.heap.size 35 3 (fun j => if j = 0 then .int .i64 (m : Int) else if j = 1 then .int .i64 word else .slice (some ⟨b, off, none⟩) 5 cap)) := by
    rw [eW]
    exact World.rowIs_alloc w _ 35 _ (fun i hi => by rcases i with _ | _ | _ | i <;> first | rfl | (exfalso; have : _ < 3 := hi; omega))
  have HC : Hid (ckC me K (es.map En.s) ((m : Int), word, clk) = 0 ∧ code clk = 0 ∧ (1 ≤ word ∧ word ≤ 30) ∧ (∀ e ∈ es, e.key ≠ kl (m : Int) (clk.getD m 0)) ∧ Cn K cn es ∧ base ≤ w.heap.size ∧ es.length ≤ 40) := by
    refine ⟨hc, hcd, hwd, fun e he q => hsm ?_, hcn, hbw, hl⟩
    exact (same_key hm hcd g.ok).2 ⟨e, he, (key_iff hm ((code_num hcd).2 m hm) (g.ok e he)).1 q.symm⟩
  have HG : Hid (CF w base P mb me K cn es) := g
  have hcn5 := g.cn_le hcn
  have hcn0 := hcn.1
  clear g hv hc hwd hcd hsm hcn hbw
  go_enter Tryd.func10, Tryd.ntmps10
  go_wp2_with fail
  rw [← eW]
  refine (check_any (m : Int) word (some ⟨b, off, none⟩) 5 cap clk W GW.out.1 GW.out.2).mono ?_
  rintro e w1 ⟨rfl, hb⟩
  rw [HC.out.1, errF_ok]
  have B1 : Hid (Below w.heap.size w w1) := BW.out.trans (hb.mono BW.out.size)
  have R1 : Hid (w1.rowIs w.heap.size 35 3 (fun j => if j = 0 then .int .i64 (m : Int) else if j = 1 then .int .i64 word else .slice (some ⟨b, off, none⟩) 5 cap)) := World.rowIs.of_block RW.out (hb.block _ (World.rowIs.lt RW.out))
  have V1 : Hid (Vw w1 (some ⟨b, off, none⟩) 5 clk) := GW.out.2.later hb
  have s2 : w1.cell? ⟨w.heap.size, 2, none⟩ = some (.slice (some ⟨b, off, none⟩) 5 cap) := World.rowIs.cell R1.out (i := 2) (by omega)
  clear hb eW
  go_wp2_with fail
  refine (clone_vw b off cap clk w1 V1.out).mono ?_
  rintro e w2 ⟨v, rfl, hO, hB⟩
  obtain ⟨g2, c2, rfl, hg2⟩ : ∃ g2 c2, v = .slice (some ⟨g2, 0, none⟩) 5 c2 ∧ w1.heap.size ≤ g2 := by
    rcases hO.2 with ⟨h2, _⟩ | ⟨g', cap', cur, hv, hbg, _⟩
    · obtain ⟨q, c, e, _⟩ := own_vw hO
      rw [e] at h2
      cases h2
    · exact ⟨g', cap', hv, hbg⟩
  have B2 : Hid (Below w1.heap.size w1 w2 ∧ Below w.heap.size w w2) := ⟨hB, B1.out.trans (hB.mono B1.out.size)⟩
  have O2 : Hid (w2.ownsRow w1.heap.size 3 1 (.slice (some ⟨g2, 0, none⟩) 5 c2) 5 (clk.map (Value.int .i64)) ∧ w1.heap.size ≤ g2) := ⟨hO, hg2⟩
  have R2 : Hid (w2.rowIs w.heap.size 35 3 (fun j => if j = 0 then .int .i64 (m : Int) else if j = 1 then .int .i64 word else .slice (some ⟨b, off, none⟩) 5 cap)) := World.rowIs.of_block R1.out (hB.block _ (World.rowIs.lt R1.out))
  have t2 : w2.cell? ⟨w.heap.size, 2, none⟩ = some (.slice (some ⟨b, off, none⟩) 5 cap) := World.rowIs.cell R2.out (i := 2) (by omega)
  have f2 := World.rowIs.frozen R2.out 2
  have G2 : Hid (CF w2 base P mb me K cn es) := HG.out.later B2.out.2
  obtain ⟨p6, z6⟩ := G2.out.came
  have hne : w.heap.size ≠ P := by have := HG.out.lt.1; omega
  clear hO hB hg2 s2
  go_wp2_with fail
  obtain ⟨W3, eW3⟩ : ∃ W3, W3 = (w2.setCell ⟨w.heap.size, 2, none⟩ (.slice (some ⟨g2, 0, none⟩) 5 c2)).setCell ⟨P, 6, none⟩ (.int .i64 (cn + 1)) := ⟨_, rfl⟩
  rw [← eW3]
  have C3 : Hid (CF W3 base P mb me K (cn + 1) es ∧ W3.rowIs w.heap.size 35 3 (fun j => if j = 0 then .int .i64 (m : Int) else if j = 1 then .int .i64 word else .slice (some ⟨g2, 0, none⟩) 5 c2) ∧ W3.ownsRow base 3 1 (.slice (some ⟨g2, 0, none⟩) 5 c2) 5 (clk.map (Value.int .i64)) ∧ Below base w W3 ∧ Kp w W3 P (some mb) ∧ w.heap.size < W3.heap.size) := by
    have hbw : base ≤ w.heap.size := HC.out.2.2.2.2.2.1
    have hg2 : w.heap.size < g2 := Nat.lt_of_lt_of_le (World.rowIs.lt R1.out) O2.out.2
    have ga : CF (w2.setCell ⟨w.heap.size, 2, none⟩ (.slice (some ⟨g2, 0, none⟩) 5 c2)) base P mb me K cn es := G2.out.of_blocks fun k hk => Deep.blk_setCell_other _ _ _ _ (Nat.ne_of_lt (HG.out.fp k hk).2)
    have b2 : Below base w w2 := B2.out.2.mono hbw
    rw [eW3]
    refine ⟨ga.setCn, (World.rowIs.setOther (World.rowIs.set R2.out 2 _) (a := ⟨P, 6, none⟩) hne _).congr fun j hj => ?_, own_block (own_mono O2.out.1 (by have := B1.out.size; omega)) fun k hk => ?_, (b2.setCell (p := ⟨w.heap.size, 2, none⟩) hbw _).setCell (p := ⟨P, 6, none⟩) HG.out.low.1 _, ⟨?_, fun k hk hP _ => ?_⟩, ?_⟩
    · rcases j with _ | _ | _ | j
      · rfl
      · rfl
      · rfl
      · omega
    · have : g2 = k := by simpa [Value.ownBlock] using hk
      subst this
      rw [Deep.blk_setCell_other _ _ _ _ (by show g2 ≠ P; have := HG.out.lt.1; omega), Deep.blk_setCell_other _ _ _ _ (by show g2 ≠ w.heap.size; omega)]
    · exact ((b2.setCell (p := ⟨w.heap.size, 2, none⟩) hbw (.slice (some ⟨g2, 0, none⟩) 5 c2)).setCell (p := ⟨P, 6, none⟩) HG.out.low.1 (.int .i64 (cn + 1))).size
    · rw [Deep.blk_setCell_other _ _ _ _ hP, Deep.blk_setCell_other _ _ _ _ (Nat.ne_of_lt hk)]
      exact B2.out.2.block k hk
    · have := World.rowIs.lt R2.out
      simpa [World.setCell] using this
  have V3 : Hid (Vw W3 (some ⟨g2, 0, none⟩) 5 clk) := by
    obtain ⟨q, c, e, hv⟩ := own_vw C3.out.2.2.1
    cases e
    exact hv
  have HS : Hid (∀ w' : World, (∀ k, k < W3.heap.size → k ≠ mb → w'.heap[k]? = W3.heap[k]?) → w'.cell? ⟨P, 7, none⟩ = some (.map (some mb)) ∧ w'.cell? ⟨P, 6, none⟩ = some (.int .i64 (cn + 1)) ∧ w'.cell? ⟨w.heap.size, 0, none⟩ = some (.int .i64 (m : Int)) ∧ w'.cell? ⟨w.heap.size, 1, none⟩ = some (.int .i64 word) ∧ w'.cell? ⟨w.heap.size, 2, none⟩ = some (.slice (some ⟨g2, 0, none⟩) 5 c2)) := by
    intro w' h
    have bP := h P C3.out.1.lt.1 C3.out.1.apart
    have bB := h w.heap.size C3.out.2.2.2.2.2 (by have := HG.out.lt.2; omega)
    exact ⟨(World.cell?_of_block (a := ⟨P, 7, none⟩) bP).trans C3.out.1.wait.1, (World.cell?_of_block (a := ⟨P, 6, none⟩) bP).trans C3.out.1.came.1, (World.cell?_of_block (a := ⟨w.heap.size, 0, none⟩) bB).trans (World.rowIs.cell C3.out.2.1 (i := 0) (by omega)), (World.cell?_of_block (a := ⟨w.heap.size, 1, none⟩) bB).trans (World.rowIs.cell C3.out.2.1 (i := 1) (by omega)), (World.cell?_of_block (a := ⟨w.heap.size, 2, none⟩) bB).trans (World.rowIs.cell C3.out.2.1 (i := 2) (by omega))⟩
  obtain ⟨n, en⟩ : ∃ n, n = clk.getD m 0 := ⟨_, rfl⟩
  have EN : Hid (n = clk.getD m 0) := en
  have OK : Hid (SdOk ((m : Int), word, clk)) := ⟨by show 0 ≤ (m : Int) ∧ (m : Int) ≤ 4; omega, HC.out.2.2.1, HC.out.2.1⟩
  clear eW3 en p6 z6 t2 f2 RW R1 R2
  go_region_held3 (fun w' => w'.cell? ⟨P, 7, none⟩ = some (.map (some mb)) ∧ w'.cell? ⟨P, 6, none⟩ = some (.int .i64 (cn + 1)) ∧ w'.cell? ⟨w.heap.size, 0, none⟩ = some (.int .i64 (m : Int)) ∧ w'.cell? ⟨w.heap.size, 1, none⟩ = some (.int .i64 word) ∧ w'.cell? ⟨w.heap.size, 2, none⟩ = some (.slice (some ⟨g2, 0, none⟩) 5 c2)) (first | exact HS.out _ (fun _ _ _ => rfl) | exact HS.out _ K6.out | exact HS.out _ K4.out) (first
    | (go_at_call 22; refine (place_any m g2 0 c2 word clk _ hm (by exact V3.out)).mono ?_; rintro e4 w4 ⟨rfl, hb⟩; rw [← EN.out]; have B4 : Hid (Below W3.heap.size W3 w4) := below_same hb rfl rfl rfl rfl; obtain ⟨w6, hup, hF6, hT6⟩ := put4 hm EN.out C3.out.1 HG.out.top C3.out.2.2.1 OK.out HC.out.2.2.2.1 HC.out.2.2.2.2.2.2 B4.out; have K4 : Hid (∀ k, k < W3.heap.size → k ≠ mb → w4.heap[k]? = W3.heap[k]?) := fun k hk _ => B4.out.block k hk; have F6 : Hid (CF w6 base P mb me K (cn + 1) (es ++ [⟨cn + 1, ((m : Int), word, clk), g2, c2⟩]) ∧ w4.mapTurned w6 mb) := ⟨hF6, hT6⟩; have K6 : Hid (∀ k, k < W3.heap.size → k ≠ mb → w6.heap[k]? = W3.heap[k]?) := fun k hk hne => (g_of_turned F6.out.2 (Nat.lt_of_lt_of_le hk B4.out.size) hne).trans (K4.out k hk hne); clear hb hF6 hT6))
  have T6 : Hid (TkW w w6 base P mb m me cn K clk word es w.heap.size g2 c2 ∧ Vw w6 (some ⟨g2, 0, none⟩) 5 clk) := by
    have hg2 : w.heap.size ≤ g2 := Nat.le_trans B1.out.size O2.out.2
    have hbw : base ≤ w.heap.size := HC.out.2.2.2.2.2.1
    have b4 : Below base w w4 := C3.out.2.2.2.1.trans (B4.out.mono (by have := C3.out.2.2.2.2.2; omega))
    have b6 : Below base w w6 := b4.trans (turned_below F6.out.2 F6.out.1.low.2)
    obtain ⟨_, _, h0, h1, h2⟩ := HS.out w6 K6.out
    refine ⟨⟨F6.out.1, HC.out.2.2.2.2.1.put _, ⟨?_, h0, h1, h2⟩, b6, ⟨b6.size, fun k hk hP hne => ?_⟩, hg2⟩, F6.out.1.vw (e := ⟨cn + 1, ((m : Int), word, clk), g2, c2⟩) (by simp)⟩
    · exact Nat.lt_of_lt_of_le C3.out.2.2.2.2.2 (Nat.le_trans B4.out.size F6.out.2.grown.size)
    · rw [K6.out k (Nat.lt_trans hk C3.out.2.2.2.2.2) (fun e => hne (by rw [e]))]
      exact C3.out.2.2.2.2.1.2 k hk hP hne
  obtain ⟨_, i0, i1, i2⟩ := T6.out.1.2.2.1
  cases hr : rdy K ((m : Int), word, clk)
  · go_wp2_with fail
    refine (ready_any P m g2 0 c2 K clk word w6 hm T6.out.1.1.k5 T6.out.2).mono ?_
    rintro e w7 ⟨rfl, hb⟩
    rw [hr]
    have B7 : Hid (Below w6.heap.size w6 w7) := hb
    clear hb
    go_wp2
    go_ret2
    exact ⟨g2, c2, w6, T6.out.1, .inl ⟨hr, rfl, B7.out⟩⟩
  · go_wp2_with fail
    refine (ready_any P m g2 0 c2 K clk word w6 hm T6.out.1.1.k5 T6.out.2).mono ?_
    rintro e w7 ⟨rfl, hb⟩
    rw [hr]
    have B7 : Hid (Below w6.heap.size w6 w7) := hb
    obtain ⟨_, j0, j1, j2⟩ := T6.out.1.2.2.1.later hb
    have V7 : Hid (Vw w7 (some ⟨g2, 0, none⟩) 5 clk) := T6.out.2.later hb
    clear hb i0 i1 i2
    go_wp2_with fail
    refine (place_any m g2 0 c2 word clk w7 hm V7.out).mono ?_
    rintro e w8 ⟨rfl, hb⟩
    have B8 : Hid (Below w6.heap.size w6 w8) := B7.out.trans (hb.mono B7.out.size)
    have C8 : Hid (CF w8 base P mb me K (cn + 1) (es ++ [⟨cn + 1, ((m : Int), word, clk), g2, c2⟩])) := T6.out.1.1.later B8.out
    clear hb
    go_wp2_with fail
    refine (hear_any es.length (m : Int) (clk.getD m 0) w8 (by simp) (by simp [En.at, En.n]) C8.out T6.out.1.2.1 (by simpa using hr) (by have := HC.out.2.2.2.2.2.2; simp; omega) (by have := B8.out.size; have := T6.out.1.2.2.2.1.size; have := HC.out.2.2.2.2.2.1; omega)).mono ?_
    rintro e w9 ⟨vo, es', rfl, h9⟩
    have H9 : Hid (HearP w8 w9 base P mb me K (cn + 1) (es ++ [⟨cn + 1, ((m : Int), word, clk), g2, c2⟩]) es.length vo es') := h9
    clear h9
    go_wp2
    go_ret2
    exact ⟨g2, c2, w6, T6.out.1, .inr ⟨hr, vo, es', w8, rfl, B8.out, H9.out⟩⟩
end Go.Proofs.YtndjejbnappmeadDoor.Cap
