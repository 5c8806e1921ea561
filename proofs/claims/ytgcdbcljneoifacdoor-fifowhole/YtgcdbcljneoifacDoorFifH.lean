/-
  Contract of package fifo's hear: what waits of a member is heard for as long as it is the next one.
-/
import Derived.Test.YtgcdbcljneoifacDoorFifG
import Derived.WalkLawsBesides
namespace Go.Proofs.YtgcdbcljneoifacDoor.Fif
open Go.RowKit Go.Maps
set_option linter.unusedVariables false

/-- as far as it goes: what is heard, how far, what waits -/
def HMid (w : World) (base P mb m : Nat) (H : List Int) (fin : List Int × Int × List Cm) (wr : World) (vo : Value) (ws' : List Cm) : Prop :=
  ∃ h out, FoM wr base P mb (H.set m h) ws' ∧ wr.ownsRow w.heap.size 3 1 vo out.length (out.map (Value.int .i64)) ∧ Uq ws' ∧ (0 ≤ h ∧ h ≤ 1000000) ∧ (∀ c ∈ ws', c.2.1 ≤ 1000000) ∧ ws'.length + out.length ≤ 41 ∧ Below base w wr ∧ Kp w wr P (some mb) ∧
    (out ++ (run (m : Int) h ws').1, (run (m : Int) h ws').2) = fin
theorem set_same {H : List Int} {m : Nat} : H.set m (H.getD m 0) = H := by
  apply List.ext_getElem?
  intro i
  by_cases e : i = m
  · subst e
    by_cases h : i < H.length
    · simp [h, List.getD]
    · simp [h]
  · rw [List.getElem?_set_ne (fun q => e q.symm)]

theorem own_later0 {w w' : World} {base : Nat} {t : TypeId} {s : Nat} {v : Value} {n : Nat} {xs : List Value} (o : w.ownsRow base t s v n xs) (hb : Below w.heap.size w w') : w'.ownsRow base t s v n xs := own_block o fun k hk => hb.block k (own_lt o k hk).2
theorem below_plus {w w1 w2 : World} {B : Nat} (h : Below B w w1) (h' : Below w1.heap.size w1 w2) (hB : B ≤ w1.heap.size) : Below B w w2 := h.trans (h'.mono hB)

set_option maxRecDepth 100000 in
set_option maxHeartbeats 1000000 in
theorem hear_any (base P mb m : Nat) (H : List Int) (ws : List Cm) (w : World) (hm : m < 5) (g : FoM w base P mb H ws) (hu : Uq ws) (hH : 0 ≤ H.getD m 0 ∧ H.getD m 0 ≤ 1000000) (hk : ∀ c ∈ ws, c.2.1 ≤ 1000000) (hl : ws.length ≤ 41) (hbw : base ≤ w.heap.size) :
    Calls Tryd.prog 19 #[.pointer (some ⟨P, 0, none⟩), .int .i64 (m : Int)] w fun e w' => ∃ vo, e = .returned vo ∧
      FoM w' base P mb (H.set m (run (m : Int) (H.getD m 0) ws).2.1) (run (m : Int) (H.getD m 0) ws).2.2 ∧
      w'.ownsRow w.heap.size 3 1 vo (run (m : Int) (H.getD m 0) ws).1.length ((run (m : Int) (H.getD m 0) ws).1.map (Value.int .i64)) ∧ Below base w w' ∧ Kp w w' P (some mb) := by
  obtain ⟨fin, efin⟩ : ∃ fin, fin = run (m : Int) (H.getD m 0) ws := ⟨_, rfl⟩
  rw [← efin]
  have M0 : Hid (HMid w base P mb m H fin w (.slice none 0 0) ws) := by
    refine ⟨H.getD m 0, [], by rw [set_same]; exact g, World.ownsRow_nil _ _ _ _, hu, hH, hk, by simpa using hl, Below.refl _ _, Kp.refl _ _ _, ?_⟩
    rw [efin]
    rfl
  have HG0 : Hid (FoM w base P mb H ws) := g
  have hm0 : (0 : Int) ≤ (m : Int) := by omega
  have hm5 : (m : Int) < 5 := by omega
  obtain ⟨ii, hi, hz0, hz1, hz2⟩ := info_int
  have HJ : Hid (Tryd.prog.info? 3 = some ii ∧ ii.zero = some (.int .i64 0) ∧ ii.size = 1 ∧ ii.bytes = 8) := ⟨hi, hz0, hz1, hz2⟩
  have HBW : Hid (base ≤ w.heap.size) := hbw
  clear g hu hH hk hi hz0 hz1 hz2 efin hbw
  go_enter Tryd.func19, Tryd.ntmps19
  go_wp2
  go_loopw [5] (fun x wr => ∃ ws', Hid (HMid w base P mb m H fin wr x ws')) (fun x _ => 42 - lenOf x)
  case atStart => exact ⟨ws, M0⟩
  case round =>
    obtain ⟨ws', hM⟩ := hrel
    obtain ⟨h, out, hF, hO, hU, hh, hK, hL, hB, hKp, hfin⟩ := hM.out
    obtain ⟨qo, co, rfl⟩ := own_form hO
    obtain ⟨lo, elo⟩ : ∃ lo, lo = out.length := ⟨_, rfl⟩
    obtain ⟨c0, z0⟩ := hF.num hm
    have hmH : m < H.length := by rw [HG0.out.five]; exact hm
    rw [set_getD hmH, if_pos rfl] at c0
    obtain ⟨c5, z5⟩ := hF.wait
    have FM : Hid (FoM wr base P mb (H.set m h) ws') := hF
    have FR : Hid (Uq ws' ∧ (∀ c ∈ ws', c.2.1 ≤ 1000000) ∧ Below base w wr ∧ Kp w wr P (some mb) ∧ (out ++ (run (m : Int) h ws').1, (run (m : Int) h ws').2) = fin ∧ m < H.length) := ⟨hU, hK, hB, hKp, hfin, hmH⟩
    have OO : Hid (wr.ownsRow w.heap.size 3 1 (.slice qo out.length co) out.length (out.map (Value.int .i64))) := hO
    have hPl := hF.lt.1
    clear hM hF hO hU hK hB hKp hfin hmH
    obtain ⟨W, eW⟩ : ∃ W, W = wr.alloc (.cells #[.int .i64 (m : Int), .int .i64 (h + 1)] 61) := ⟨_, rfl⟩
    have BW : Hid (Below wr.heap.size wr W ∧ W.heap.size = wr.heap.size + 1) := ⟨by rw [eW]; exact (Below.refl _ _).alloc (Nat.le_refl _) _, by rw [eW]; simp⟩
    have FW : Hid (FoM W base P mb (H.set m h) ws') := FM.out.later BW.out.1
    have a0 : W.cell? ⟨wr.heap.size, 0, none⟩ = some (.int .i64 (m : Int)) := by rw [eW]; go_cell
    have a1 : W.cell? ⟨wr.heap.size, 1, none⟩ = some (.int .i64 (h + 1)) := by rw [eW]; go_cell
    obtain ⟨d0, y0⟩ := FW.out.num hm
    rw [set_getD FR.out.2.2.2.2.2, if_pos rfl] at d0
    obtain ⟨d5, y5⟩ := FW.out.wait
    cases hf : fnd ws' (m : Int) (h + 1) with
    | none =>
      have hlk : ∀ k, (Instr.lookup 56 (.map (some mb)) (.agg #[.int .i64 (m : Int), .int .i64 (h + 1)]) true).run Tryd.prog (W.drewN k) = .ok (.tuple #[.int .i64 0, .bool false]) (W.drewN k) := fun k => look_none FW.out (okK_of (by omega) (by omega)) hf _ rfl
      go_wp2_with fail
      rw [← eW]
      clear eW
      go_quiet (fail)
      go_wp2
      go_ret
      have e := FR.out.2.2.2.2.1
      rw [run_stop hf, List.append_nil] at e
      rw [← e]
      exact ⟨_, rfl, FW.out.of_blocks rfl rfl, own_later0 OO.out (below_drews BW.out.1 _), below_drews (below_plus FR.out.2.2.1 BW.out.1 (by have := FM.out.lowP; have := FM.out.lt.1; omega)) _, Kp.trans FR.out.2.2.2.1 (Kp.below (below_drews BW.out.1 _) none) (by simp)⟩
    | some x =>
      have hlk : ∀ k, (Instr.lookup 56 (.map (some mb)) (.agg #[.int .i64 (m : Int), .int .i64 (h + 1)]) true).run Tryd.prog (W.drewN k) = .ok (.tuple #[.int .i64 x, .bool true]) (W.drewN k) := fun k => look_some FW.out (okK_of (by omega) (by omega)) hf _ rfl
      have hdel : ∀ k, ∃ w', (Builtin.delete_ #[56, 61] 0 #[.map (some mb), .agg #[.int .i64 (m : Int), .int .i64 (h + 1)]]).run Tryd.prog (W.drewN k) = .ok (.tuple #[]) w' ∧ FoM w' base P mb (H.set m h) (rm ws' (m : Int) (h + 1)) ∧ (W.drewN k).mapTurned w' mb := fun k => FoM.del (w := W.drewN k) (FW.out.of_blocks rfl rfl) FR.out.1 (okK_of (by omega) (by omega)) 0
      obtain ⟨f, hf2⟩ := Classical.skolem.1 hdel
      have hdel1 := fun k => (hf2 k).1
      have HD : Hid (∀ k, FoM (f k) base P mb (H.set m h) (rm ws' (m : Int) (h + 1)) ∧ (W.drewN k).mapTurned (f k) mb) := fun k => (hf2 k).2
      go_wp2_with fail
      rw [← eW]
      clear eW hdel hf2
      go_quiet (fail)
      go_wp2_with fail
      go_region
      obtain ⟨W2, eW2⟩ : ∃ W2, W2 = f (nq + 1) := ⟨_, rfl⟩
      rw [← eW2]
      have F2 : Hid (FoM W2 base P mb (H.set m h) (rm ws' (m : Int) (h + 1)) ∧ (W.drewN (nq + 1)).mapTurned W2 mb) := by rw [eW2]; exact HD.out (nq + 1)
      obtain ⟨b0, x0⟩ := F2.out.1.num hm
      rw [set_getD FR.out.2.2.2.2.2, if_pos rfl] at b0
      obtain ⟨b5, x5⟩ := F2.out.1.wait
      have HX : Hid (fnd ws' (m : Int) (h + 1) = some x) := hf
      clear eW2 HD hdel1 hlk hf a0 a1 d0 y0 d5 y5 c0 z0 c5 z5
      go_wp2_with fail
      go_region
      obtain ⟨W3, eW3⟩ : ∃ W3, W3 = (W2.setCell ⟨P, m, none⟩ (.int .i64 (h + 1 + 1))).drew := ⟨_, rfl⟩
      rw [← eW3]
      have PL : Hid (P < w.heap.size ∧ mb < w.heap.size) := HG0.out.lt
      have F3 : Hid (FoM W3 base P mb (H.set m (h + 1)) (rm ws' (m : Int) (h + 1))) := by
        have q := F2.out.1.setH hm (h + 1)
        rw [List.set_set] at q
        rw [eW3]
        exact q.of_blocks rfl rfl
      have K3 : Hid (Below base wr W3 ∧ Kp wr W3 P (some mb)) := by
        have hbw : base ≤ wr.heap.size := by have := HBW.out; have := FR.out.2.2.1.size; omega
        have b1 : Below base wr (W.drewN (nq + 1)) := below_drews (BW.out.1.mono hbw) _
        have b2 : Below base wr W2 := b1.trans (turned_below F2.out.2 F2.out.1.lowM)
        have k1 : Kp wr (W.drewN (nq + 1)) P (some mb) := Kp.below (below_drews BW.out.1 _) _
        have k2 : Kp wr W2 P (some mb) := k1.trans (turned_kp F2.out.2 P) (fun k e => by cases e; exact .inr (.inl rfl))
        rw [eW3]
        exact ⟨(b2.setCell (p := ⟨P, m, none⟩) F2.out.1.lowP _).drew, k2.trans (r' := none) (Kp.setCell W2 P m _ none) (by simp)⟩
      have O3 : Hid (W3.ownsRow w.heap.size 3 1 (.slice qo lo co) lo (out.map (Value.int .i64)) ∧ ∀ k, (Value.slice qo lo co).ownBlock = some k → w.heap.size ≤ k ∧ k < wr.heap.size) := by
        have o := OO.out
        rw [← elo] at o
        have hlt := own_lt o
        refine ⟨own_block o fun k hk => K3.out.2.2 k (hlt k hk).2 ?_ ?_, hlt⟩
        · have := (hlt k hk).1; have := PL.out.1; omega
        · intro e; have := (hlt k hk).1; have := PL.out.2; cases e; omega
      have hlo : lo ≤ 41 := by omega
      rw [← elo]
      have SZ : Hid (w.heap.size ≤ W3.heap.size) := Nat.le_trans FR.out.2.2.1.size K3.out.1.size
      have LO : Hid (lo = out.length) := elo
      have HH : Hid (0 ≤ h ∧ h ≤ 1000000) := hh
      clear eW3 elo b0 x0 b5 x5 hPl hh
      go_wp2_with (at_builtin; refine wpList_append_own _ rfl _ _ 22 rfl w.heap.size 3 ii (.int .i64 0) 1 8 Tryd.underlying22 HJ.out.1 HJ.out.2.1 HJ.out.2.2.1 HJ.out.2.2.2 rfl (by decide) (.slice qo lo co) lo (out.map (Value.int .i64)) rfl (by exact own_later0 O3.out.1 ((Below.refl W3.heap.size W3).alloc (Nat.le_refl _) _)) ⟨W3.heap.size, 0, none⟩ 1 1 [.int .i64 x] rfl rfl (by exact new_int W3 _ rfl x 3) (int_one _) (by unfold maxLen; omega) (by omega) (by have := SZ.out; simp; omega) ?_; intro v1 w1 hown hgrow _; obtain ⟨q1, k1, rfl⟩ := own_form hown; have HO1 : Hid (w1.ownsRow w.heap.size 3 1 (.slice q1 (lo + 1) k1) (lo + 1) (out.map (Value.int .i64) ++ [.int .i64 x])) := hown; have HG1 : Hid _ := hgrow; clear hown hgrow)
      go_roundw
      case rel =>
        have o := O3.out
        have hne : some P ≠ (Value.slice qo lo co).ownBlock ∧ some mb ≠ (Value.slice qo lo co).ownBlock := ⟨fun e => by have := (o.2 P e.symm).1; have := PL.out.1; omega, fun e => by have := (o.2 mb e.symm).1; have := PL.out.2; omega⟩
        have b3 : Below base w W3 := FR.out.2.2.1.trans K3.out.1
        have k3 : Kp w W3 P (some mb) := FR.out.2.2.2.1.trans K3.out.2 (fun k e => .inr (.inl e))
        have hx := (fnd_some FR.out.1).1 HX.out
        have hlen := rm_len FR.out.1 HX.out
        have hbw : base ≤ W3.heap.size := Nat.le_trans HBW.out SZ.out
        refine ⟨_, h + 1, out ++ [x], (F3.out.later ((Below.refl _ _).alloc (Nat.le_refl _) _)).grown HG1.out hne.1 hne.2, ?_, rm_uq FR.out.1 _ _, ?_, fun c hc => FR.out.2.1 c (List.mem_filter.1 hc).1, ?_, ?_, ?_, ?_⟩
        · have e := HO1.out
          rw [List.length_append, List.map_append, ← LO.out]
          exact e
        · have := FR.out.2.1 _ hx
          exact ⟨by have := HH.out.1; omega, this⟩
        · rw [List.length_append]
          simp
          omega
        · exact (b3.alloc hbw _).grown HG1.out (by simp; omega) (fun k e => by have := (o.2 k e).1; have := HBW.out; omega)
        · exact (k3.trans (r' := none) (Kp.alloc W3 _ P none) (by simp)).trans (Kp.grown HG1.out P) (fun k e => .inl (o.2 k e).1)
        · have e := FR.out.2.2.2.2.1
          rw [run_go FR.out.1 HX.out] at e
          rw [← e]
          simp
      case measure => have := LO.out; simp [lenOf]; omega

theorem take_any (base P mb : Nat) (H : List Int) (ws : List Cm) (who n word : Int) (w : World) (g : FoM w base P mb H ws) (hi : Inv H ws) (hbw : base ≤ w.heap.size) :
    Calls Tryd.prog 7 #[.pointer (some ⟨P, 0, none⟩), .int .i64 who, .int .i64 n, .int .i64 word] w fun x w' => ∃ vo, x = .returned (.tuple #[vo, errF (tkC (H.getD who.toNat 0) ws who n word)]) ∧
      FoM w' base P mb (tk H ws who n word).2.1 (tk H ws who n word).2.2 ∧ w'.ownsRow w.heap.size 3 1 vo (tk H ws who n word).1.length ((tk H ws who n word).1.map (Value.int .i64)) ∧ Below base w w' ∧ Kp w w' P (some mb) := by
  have HG : Hid (FoM w base P mb H ws ∧ Inv H ws ∧ base ≤ w.heap.size) := ⟨g, hi, hbw⟩
  have hl := hi.len
  clear g hi hbw
  by_cases hc : tkC (H.getD who.toNat 0) ws who n word = 0
  · rw [tk_ok hc, hc, errF_ok]
    obtain ⟨hb, hlt, hf, h40⟩ := tkC_ok hc
    obtain ⟨hw, hn, hx⟩ := bad_who hb
    obtain ⟨m, rfl⟩ : ∃ m : Nat, who = (m : Int) := ⟨who.toNat, by omega⟩
    simp only [Int.toNat_natCast] at hc hlt h40 ⊢
    have hm : m < 5 := by omega
    have HC : Hid (tkC (H.getD m 0) ws (m : Int) n word = 0 ∧ fnd ws (m : Int) n = none) := ⟨hc, hf⟩
    clear hc hb hlt hf h40
    go_enter Tryd.func7, Tryd.ntmps7
    go_wp2_with fail
    refine (check_any base P mb H ws (m : Int) n word w HG.out.1 (by omega) HG.out.2.1.num).mono ?_
    rintro e w1 ⟨rfl, hb⟩
    rw [Int.toNat_natCast, HC.out.1, errF_ok]
    have B1 : Hid (Below w.heap.size w w1) := hb
    have G1 : Hid (FoM w1 base P mb H ws) := HG.out.1.later hb
    obtain ⟨c5, z5⟩ := G1.out.wait
    obtain ⟨w2, e2, g2, t2⟩ := G1.out.put (okK_of (by omega) (by omega)) HC.out.2 (x := word) (by simp [Lit.wf, IntKind.min, IntKind.max, IntKind.bits, IntKind.signed]; omega) (by unfold maxLen; omega)
    have G2 : Hid (FoM w2 base P mb H (ws ++ [((m : Int), n, word)]) ∧ w1.mapTurned w2 mb) := ⟨g2, t2⟩
    clear hb g2 t2
    have KB : Hid (Below base w w2 ∧ Kp w w2 P (some mb) ∧ w.heap.size ≤ w2.heap.size ∧ Uq (ws ++ [((m : Int), n, word)]) ∧ ∀ c ∈ ws ++ [((m : Int), n, word)], c.2.1 ≤ 1000000) := by
      refine ⟨(B1.out.mono HG.out.2.2).trans (turned_below G2.out.2 G2.out.1.lowM), (Kp.below (P := P) B1.out (some mb)).trans (turned_kp G2.out.2 P) (fun k e => .inr (.inl e)), Nat.le_trans B1.out.size G2.out.2.grown.size, uq_snoc HG.out.2.1.uq word HC.out.2, fun c hc => ?_⟩
      rcases List.mem_append.1 hc with a | a
      · exact HG.out.2.1.keys c a
      · rw [List.mem_singleton.1 a]; exact hn.2
    go_wp2_with fail
    refine (hear_any base P mb m H (ws ++ [((m : Int), n, word)]) w2 hm G2.out.1 KB.out.2.2.2.1 (HG.out.2.1.num m hm) KB.out.2.2.2.2 (by rw [List.length_append]; simp; omega) (Nat.le_trans HG.out.2.2 KB.out.2.2.1)).mono ?_
    rintro e w3 ⟨vo, rfl, hF, hO, hB, hK⟩
    have R3 : Hid _ := And.intro hF (And.intro hO (And.intro hB hK))
    clear hF hO hB hK
    go_wp2
    go_ret2
    exact ⟨_, rfl, R3.out.1, own_mono R3.out.2.1 KB.out.2.2.1, KB.out.1.trans R3.out.2.2.1, KB.out.2.1.trans R3.out.2.2.2 (fun k e => .inr (.inl e))⟩
  · rw [tk_no hc, errF_no hc]
    have HC : Hid (tkC (H.getD who.toNat 0) ws who n word ≠ 0) := hc
    clear hc
    go_enter Tryd.func7, Tryd.ntmps7
    go_wp2_with fail
    refine (check_any base P mb H ws who n word w HG.out.1 (by omega) HG.out.2.1.num).mono ?_
    rintro e w1 ⟨rfl, hb⟩
    rw [errF_no HC.out]
    have B1 : Hid (Below w.heap.size w w1) := hb
    clear hb
    go_wp2
    go_ret2
    exact ⟨_, rfl, HG.out.1.later B1.out, World.ownsRow_nil _ _ _ _, B1.out.mono HG.out.2.2, Kp.below B1.out _⟩

theorem waits_any (base P mb : Nat) (H : List Int) (ws : List Cm) (w : World) (g : FoM w base P mb H ws) :
    Calls Tryd.prog 9 #[.pointer (some ⟨P, 0, none⟩)] w fun x w' => x = .returned (.int .i64 ws.length) ∧ w' = w := by
  obtain ⟨c5, z5⟩ := g.wait
  have hlen := fun ty => g.len ty w rfl
  clear g
  go_enter Tryd.func9, Tryd.ntmps9
  go_wp2
  go_ret
  exact ⟨rfl, rfl⟩
theorem own_nil (w : World) (t : TypeId) : (w.alloc (.cells #[] t)).ownsRow w.heap.size t 1 (.slice (some ⟨w.heap.size, 0, none⟩) 0 0) 0 [] := by
  refine ⟨rfl, .inr ⟨w.heap.size, 0, #[], rfl, Nat.le_refl _, ?_, Nat.le_refl _, by unfold maxLen; omega, rfl, rfl⟩⟩
  show (w.heap.push _)[w.heap.size]? = _
  simp
set_option maxRecDepth 100000 in
theorem clone5 (b off cap : Nat) (xs : List Int) (w : World) (hl : xs.length = 5) (hb : b < w.heap.size) (hcs : ∀ j u, (xs.map (Value.int .i64))[j]? = some u → w.cell? ((⟨b, off, none⟩ : Addr).add j) = some u) :
    Calls Tryd.prog 21 #[.slice (some ⟨b, off, none⟩) 5 cap] w fun e w' => ∃ v, e = .returned v ∧ w'.ownsRow w.heap.size 3 1 v 5 (xs.map (Value.int .i64)) ∧ Below w.heap.size w w' := by
  have HL : Hid (xs.length = 5) := hl
  have HC : Hid (∀ j u, (xs.map (Value.int .i64))[j]? = some u → (w.alloc (.cells #[] 3)).cell? ((⟨b, off, none⟩ : Addr).add j) = some u) := by
    intro j u hu
    have := hcs j u hu
    rw [Addr.add_lit] at this ⊢
    exact (((Below.refl w.heap.size w).alloc (Nat.le_refl _) _).cell (p := ⟨b, off + j, none⟩) hb).trans this
  obtain ⟨ie, hi, hz0, hz1, hz2⟩ := info_int
  have HI : Hid (Tryd.prog.info? 3 = some ie ∧ ie.zero = some (.int .i64 0) ∧ ie.size = 1 ∧ ie.bytes = 8) := ⟨hi, hz0, hz1, hz2⟩
  have hnil := fun W : World => Lib.run_eql_slice_nil (P := Tryd.prog) W 22 3 (some ⟨b, off, none⟩) 5 cap 0 0 Tryd.underlying22
  clear hl hb hcs hi hz0 hz1 hz2
  go_enter Tryd.func21, Tryd.ntmps21
  go_wp2_with (at_builtin; refine wpList_append_own _ rfl _ _ 22 rfl w.heap.size 3 ie (.int .i64 0) 1 8 Tryd.underlying22 HI.out.1 HI.out.2.1 HI.out.2.2.1 HI.out.2.2.2 rfl (by decide) _ 0 _ rfl (own_nil w 3) ⟨b, off, none⟩ 5 cap (xs.map (Value.int .i64)) rfl (by rw [List.length_map]; exact HL.out) HC.out (fun u hu => by obtain ⟨x, _, rfl⟩ := List.mem_map.1 hu; rfl) (by unfold maxLen; omega) (by omega) (by simp) ?_; intro v' wn hown hgrow _; have HO : Hid _ := hown; have HGr : Hid _ := hgrow; clear hown hgrow)
  go_ret
  exact ⟨_, rfl, HO.out, ((Below.refl w.heap.size w).alloc (Nat.le_refl _) _).grown HGr.out (by simp) (fun k e => (own_lt (own_nil w 3) k e).1)⟩
def up (H : List Int) : List Int := (List.range 5).map fun j => H.getD j 0 + 1
theorem next_any (base P mb : Nat) (H : List Int) (ws : List Cm) (w : World) (g : FoM w base P mb H ws) :
    Calls Tryd.prog 12 #[.pointer (some ⟨P, 0, none⟩)] w fun x w' => ∃ v, x = .returned v ∧ w'.ownsRow w.heap.size 3 1 v 5 ((up H).map (Value.int .i64)) ∧ Below w.heap.size w w' := by
  have hP := g.lt.1
  have HC : Hid (∀ j u, ((up H).map (Value.int .i64))[j]? = some u → w.cell? ((⟨P, 0, none⟩ : Addr).add j) = some u) := by
    intro j u hu
    rw [Addr.add_lit, Nat.zero_add]
    have hj : j < 5 := by
      have := (List.getElem?_eq_some_iff.1 hu).1
      simpa [up] using this
    rw [(g.num hj).1]
    simp [up, hj] at hu
    rw [← hu]
    rfl
  clear g
  go_enter Tryd.func12, Tryd.ntmps12
  go_wp2_with fail
  refine (clone5 P 0 5 (up H) w (by simp [up]) hP HC.out).mono ?_
  rintro e w1 ⟨v, rfl, hO, hB⟩
  have R : Hid _ := And.intro hO hB
  clear hO hB
  go_wp2
  go_ret
  exact ⟨_, rfl, R.out.1, R.out.2⟩

def nwv (M i : Nat) (j : Nat) : Value := if j = 5 then .map (some M) else if j < i then .int .i64 1 else .int .i64 0
set_option maxRecDepth 100000 in
theorem new_any (w : World) :
    Calls Tryd.prog 6 #[] w fun x w' => ∃ P mb, x = .returned (.pointer (some ⟨P, 0, none⟩)) ∧ FoM w' w.heap.size P mb [0, 0, 0, 0, 0] [] ∧ Below w.heap.size w w' := by
  have A0 : Hid (((w.alloc (.map #[] 0)).alloc (.cells #[.int .i64 0, .int .i64 0, .int .i64 0, .int .i64 0, .int .i64 0, .map (some w.heap.size)] 58)).rowIs (w.heap.size + 1) 58 6 (nwv w.heap.size 0)) := by
    have q := World.rowIs_alloc (w.alloc (.map #[] 0)) #[.int .i64 0, .int .i64 0, .int .i64 0, .int .i64 0, .int .i64 0, .map (some w.heap.size)] 58 (nwv w.heap.size 0) (fun i hi => by
      rcases i with _ | _ | _ | _ | _ | _ | i <;> first | rfl | (exfalso; have : _ < 6 := hi; omega))
    show World.rowIs _ _ _ _ _
    simpa using q
  have hmk : ∀ W : World, (Instr.makeMap 56 none).run Tryd.prog W = .ok (.map (some W.heap.size)) (W.alloc (.map #[] 0)) := fun _ => rfl
  go_enter Tryd.func6, Tryd.ntmps6
  go_wp2
  go_loopw [6] (fun x wr => ∃ i : Nat, i ≤ 5 ∧ x = .int .i64 (i : Int) ∧ Hid (wr.rowIs (w.heap.size + 1) 58 6 (nwv w.heap.size i) ∧ wr.heap[w.heap.size]? = some (.map #[] 0) ∧ Below w.heap.size w wr)) (fun x _ => 5 - (intOf x).toNat)
  case atStart =>
    refine ⟨0, by omega, rfl, A0.out, ?_, ((Below.refl _ _).alloc (Nat.le_refl _) _).alloc (by simp) _⟩
    rw [Below.heap_alloc _ _ _ (by simp)]
    show (w.heap.push _)[w.heap.size]? = _
    simp
  case round =>
    obtain ⟨i, hi, rfl, hR⟩ := hrel
    by_cases hlt : i < 5
    · have c0 := World.rowIs.cell hR.out.1 (i := i) (by omega)
      have z0 := World.rowIs.frozen hR.out.1 i
      obtain ⟨y, ey⟩ : ∃ y, y = nwv w.heap.size i i := ⟨_, rfl⟩
      rw [← ey] at c0
      have hi0 : (0 : Int) ≤ (i : Int) := by omega
      have hi5 : (i : Int) < 5 := by omega
      clear ey
      go_wp2
      go_roundw
      case rel =>
        refine ⟨i + 1, by omega, by go_num, (World.rowIs.set hR.out.1 i _).congr fun j hj => ?_, ?_, hR.out.2.2.setCell (p := ⟨w.heap.size + 1, i, none⟩) (Nat.le_succ _) _⟩
        · unfold nwv
          by_cases e : j = i
          · subst e
            rw [if_pos rfl, if_neg (by omega), if_pos (by omega)]
          · rw [if_neg e]
            by_cases e5 : j = 5
            · rw [if_pos e5, if_pos e5]
            · rw [if_neg e5, if_neg e5]
              by_cases q : j < i
              · rw [if_pos q, if_pos (by omega)]
              · rw [if_neg q, if_neg (by omega)]
        · rw [Deep.blk_setCell_other _ _ _ _ (by show w.heap.size ≠ w.heap.size + 1; omega)]
          exact hR.out.2.1
      case measure => simp [intOf]; omega
    · have hi5 : i = 5 := by omega
      subst hi5
      go_wp2
      go_ret
      refine ⟨w.heap.size + 1, w.heap.size, rfl, ⟨hR.out.1.congr fun j hj => ?_, ⟨.map [], own_heap (World.ownsMap_made w _ _ _) ?_, MV.start _ _⟩, rfl, Nat.le_succ _, Nat.le_refl _⟩, hR.out.2.2⟩
      · unfold nwv fsv
        by_cases e5 : j = 5
        · rw [if_pos e5, if_pos e5]
        · rw [if_neg e5, if_neg e5, if_pos (by omega)]
          rcases j with _ | _ | _ | _ | _ | j <;> first | rfl | omega
      · rw [hR.out.2.1]
        show _ = (w.heap.push _)[w.heap.size]?
        simp
end Go.Proofs.YtgcdbcljneoifacDoor.Fif
