/-
  The walk of FifoWhole: of words that come in any order all are heard, each once, in the order of their numbers.
-/
import Derived.Test.YtgcdbcljneoifacDoorFifH
import Derived.Test.YtgcdbcljneoifacDoorFbM
import Derived.Test.YtgcdbcljneoifacDoorTold
import Derived.Laws.AppendOwnNone
namespace Go.Proofs.YtgcdbcljneoifacDoor.Fif
open Go.RowKit
open Go.Proofs.YtgcdbcljneoifacDoor.Vec (Vw)
open Go.Proofs.YtgcdbcljneoifacDoor.As (Laid error_errno error_nil)
set_option linter.unusedVariables false

theorem errF_same (c : Int) (w : World) (hL : Laid w) : Calls Tryd.prog 8 #[errF c, .int .i64 c] w fun e w' => e = .returned (.bool true) ∧ Below w.heap.size w w' := by
  by_cases h : c = 0
  · subst h
    rw [errF_ok]
    refine (error_nil 0 w).mono ?_
    rintro e w' ⟨rfl, hb⟩
    exact ⟨ret_bool (by simp), hb⟩
  · rw [errF_no h]
    refine (error_errno c c w hL).mono ?_
    rintro e w' ⟨rfl, hb⟩
    exact ⟨ret_bool (by simp), hb⟩
/-- the first so many -/
def fst (m : Int) : List Int := (List.range m.toNat).map fun i : Nat => 1 + (i : Int)
theorem fst_len (m : Int) : (fst m).length = m.toNat := by simp [fst]
theorem fst_get (m : Int) {i : Nat} (hi : i < m.toNat) : (fst m).getD i 0 = 1 + (i : Int) := by simp [fst, List.getD, hi]
theorem fst_more {m m' : Int} (h0 : 0 ≤ m) (h : m ≤ m') : fst m ++ (List.range (m' - m).toNat).map (fun i : Nat => m + 1 + (i : Int)) = fst m' := by
  unfold fst
  rw [show m'.toNat = m.toNat + (m' - m).toNat by omega, List.range_add, List.map_append, List.map_map]
  congr 1
  apply List.map_congr_left
  intro i _
  simp
  omega
/-- how it stands when some have come -/
def WI (w : World) (P mb m I : Nat) (n : Int) (wr : World) (vh : Value) (S : Int → Bool) (mm : Int) : Prop :=
  ∃ H ws, FoM wr w.heap.size P mb H ws ∧ Inv H ws ∧ H.getD m 0 = mm ∧ Wh (m : Int) n S mm ws ∧ wr.rowIs I 31 31 (fun j => .bool (S (j : Int))) ∧
    wr.ownsRow w.heap.size 3 1 vh mm.toNat ((fst mm).map (Value.int .i64)) ∧ Below w.heap.size w wr ∧ w.heap.size ≤ I
/-- a number that has come already is refused -/
theorem WI.twice {w : World} {P mb m I : Nat} {n : Int} {wr : World} {vh : Value} {S : Int → Bool} {mm : Int} {H : List Int} {ws : List Cm} (hm : m < 5) (g1 : H.getD m 0 = mm) (g2 : Wh (m : Int) n S mm ws) {k : Int} (h1 : 1 ≤ k) (h2 : k ≤ 30) (hs : S k = true) :
    tkC (H.getD ((m : Int)).toNat 0) ws (m : Int) k k = 7 := by
  rw [Int.toNat_natCast, g1]
  exact g2.twice hs (by simp [bad]; omega)
theorem wh_step {m : Nat} {n mm k : Int} {S : Int → Bool} {H : List Int} {ws : List Cm} (hm : m < 5) (hi : Inv H ws) (g1 : H.getD m 0 = mm) (g2 : Wh (m : Int) n S mm ws) (hn : n ≤ 30) (h1 : 1 ≤ k) (h2 : k ≤ n) (hs : S k = false) :
    tkC (H.getD ((m : Int)).toNat 0) ws (m : Int) k k = 0 ∧ ∃ mm', mm ≤ mm' ∧ (tk H ws (m : Int) k k).2.1.getD m 0 = mm' ∧ Wh (m : Int) n (fun j => S j || decide (j = k)) mm' (tk H ws (m : Int) k k).2.2 ∧ (tk H ws (m : Int) k k).1 = (List.range (mm' - mm).toNat).map (fun i : Nat => mm + 1 + (i : Int)) := by
  obtain ⟨a, b, c⟩ := g2.new hn hs h1 h2 (by simp [bad]; omega)
  have hc : tkC (H.getD ((m : Int)).toNat 0) ws (m : Int) k k = 0 := by rw [Int.toNat_natCast, g1]; exact a
  have hf := (tkC_ok a).2.2.1
  obtain ⟨r1, -⟩ := run_spec (who := (m : Int)) _ mm (ws ++ [((m : Int), k, k)]) (Nat.le_refl _) (uq_snoc g2.uq k hf)
  refine ⟨hc, (run (m : Int) mm (ws ++ [((m : Int), k, k)])).2.1, r1, ?_, ?_, ?_⟩
  all_goals rw [tk_ok hc, Int.toNat_natCast, g1]
  · show (H.set m _).getD m 0 = _
    rw [set_getD (by rw [hi.five]; exact hm), if_pos rfl]
  · exact b
  · exact c
theorem row_other {wr w' : World} {I Q : Nat} {t : TypeId} {n : Nat} {f : Nat → Value} (h : wr.rowIs I t n f) {r : Option Nat} (hk : Kp wr w' Q r) (h1 : I ≠ Q) (h2 : some I ≠ r) : w'.rowIs I t n f := h.of_block (hk.2 I h.lt h1 h2)
theorem FoM.row_apart {w : World} {base P mb : Nat} {H : List Int} {ws : List Cm} (g : FoM w base P mb H ws) {I : Nat} {t : TypeId} {n : Nat} {f : Nat → Value} (h : w.rowIs I t n f) (ht : t ≠ 58) : I ≠ P ∧ some I ≠ some mb := by
  obtain ⟨D, ⟨es, clock, hb, _⟩, _⟩ := g.map
  obtain ⟨c, hc, _⟩ := g.row
  obtain ⟨c', hc', _⟩ := h
  refine ⟨fun e => ?_, fun e => ?_⟩
  · rw [e, hc] at hc'
    injection hc' with q
    injection q with _ q _
    exact ht q.symm
  · rw [Option.some.inj e, hb] at hc'
    cases hc'
theorem own_at {w : World} {base : Nat} {t : TypeId} {s : Nat} {v : Value} {n : Nat} {xs : List Value} (o : w.ownsRow base t s v n xs) {k : Nat} (hk : v.ownBlock = some k) : ∃ c, w.heap[k]? = some (.cells c t (0, 0)) := by
  rcases o.2 with ⟨h2, _⟩ | ⟨g', cap', cur, hv, hbg, hh, _⟩
  · rw [h2] at hk; cases hk
  · rw [hv] at hk
    have : g' = k := by simpa [Value.ownBlock] using hk
    subst this
    exact ⟨_, hh⟩
theorem FoM.own_apart {w : World} {base P mb : Nat} {H : List Int} {ws : List Cm} (g : FoM w base P mb H ws) {b t s n : Nat} {v : Value} {xs : List Value} (o : w.ownsRow b t s v n xs) (ht : t ≠ 58) : some P ≠ v.ownBlock ∧ some mb ≠ v.ownBlock := by
  obtain ⟨D, ⟨es, clock, hb, _⟩, _⟩ := g.map
  obtain ⟨c, hc, _⟩ := g.row
  refine ⟨fun e => ?_, fun e => ?_⟩
  · obtain ⟨c', hc'⟩ := own_at o e.symm
    rw [hc] at hc'
    injection hc' with q
    injection q with _ q _
    exact ht q.symm
  · obtain ⟨c', hc'⟩ := own_at o e.symm
    rw [hb] at hc'
    cases hc'
theorem row_own_apart {w : World} {I : Nat} {t : TypeId} {n : Nat} {f : Nat → Value} (h : w.rowIs I t n f) {b t' s n' : Nat} {v : Value} {xs : List Value} (o : w.ownsRow b t' s v n' xs) (ht : t' ≠ t) : some I ≠ v.ownBlock := by
  intro e
  obtain ⟨c', hc'⟩ := own_at o e.symm
  obtain ⟨c, hc, _⟩ := h
  rw [hc] at hc'
  injection hc' with q
  injection q with _ q _
  exact ht q.symm
theorem row31 (w : World) : (w.alloc (.cells #[.bool false, .bool false, .bool false, .bool false, .bool false, .bool false, .bool false, .bool false, .bool false, .bool false, .bool false, .bool false, .bool false, .bool false, .bool false, .bool false, .bool false, .bool false, .bool false, .bool false, .bool false, .bool false, .bool false, .bool false, .bool false, .bool false, .bool false, .bool false, .bool false, .bool false, .bool false] 31)).rowIs w.heap.size 31 31 (fun _ => .bool false) := by
  refine World.rowIs_alloc w #[.bool false, .bool false, .bool false, .bool false, .bool false, .bool false, .bool false, .bool false, .bool false, .bool false, .bool false, .bool false, .bool false, .bool false, .bool false, .bool false, .bool false, .bool false, .bool false, .bool false, .bool false, .bool false, .bool false, .bool false, .bool false, .bool false, .bool false, .bool false, .bool false, .bool false, .bool false] 31 (fun _ => .bool false) fun i hi => ?_
  have e : (#[.bool false, .bool false, .bool false, .bool false, .bool false, .bool false, .bool false, .bool false, .bool false, .bool false, .bool false, .bool false, .bool false, .bool false, .bool false, .bool false, .bool false, .bool false, .bool false, .bool false, .bool false, .bool false, .bool false, .bool false, .bool false, .bool false, .bool false, .bool false, .bool false, .bool false, .bool false] : Array Value) = Array.replicate 31 (.bool false) := rfl
  rw [e, Array.getElem?_replicate, if_pos (show i < 31 from hi)]
set_option maxRecDepth 100000 in
theorem whole_bad (n who : Int) (a : Option Addr) (len cap : Nat) (w : World) (hL : Laid w) (h : n < 1 ∨ (1 ≤ n ∧ 30 < n) ∨ (1 ≤ n ∧ n ≤ 30 ∧ who < 0) ∨ (1 ≤ n ∧ n ≤ 30 ∧ 0 ≤ who ∧ 4 < who)) :
    Calls Tryd.prog 3 #[.int .i64 n, .slice a len cap, .int .i64 who] w fun e w' => e = .returned (.bool true) ∧ Below w.heap.size w w' := by
  have HL : Hid (Laid w) := hL
  clear hL
  have c1 : Hid (tkC (([0, 0, 0, 0, 0] : List Int).getD (5 : Int).toNat 0) [] 5 1 1 = 1 ∧ tk [0, 0, 0, 0, 0] [] 5 1 1 = ([], [0, 0, 0, 0, 0], [])) := ⟨by decide, by decide⟩
  rcases h with h1 | ⟨h1, h2⟩ | ⟨h1, h2, h3⟩ | ⟨h1, h2, h3, h4⟩
  all_goals
    go_enter Tryd.func3, Tryd.ntmps3
    go_wp2_with fail
    refine (new_any w).mono ?_
    rintro e w1 ⟨P, mb, rfl, hF, hB⟩
    have S1 : Hid (FoM w1 w.heap.size P mb [0, 0, 0, 0, 0] [] ∧ Below w.heap.size w w1) := ⟨hF, hB⟩
    clear hF hB
    go_wp2_with fail
    refine (take_any w.heap.size P mb _ _ 5 1 1 w1 S1.out.1 Inv.start S1.out.2.size).mono ?_
    rintro e w2 ⟨vo, rfl, hF, hO, hB, hKp⟩
    rw [c1.out.2] at hF
    rw [c1.out.1]
    have S2 : Hid (FoM w2 w.heap.size P mb [0, 0, 0, 0, 0] [] ∧ Below w.heap.size w w2) := ⟨hF, S1.out.2.trans hB⟩
    clear hF hO hB hKp
    go_wp2_with fail
    refine (errF_same 1 w2 (HL.out.later S2.out.2)).mono ?_
    rintro e w3 ⟨rfl, hB⟩
    have S3 : Hid (FoM w3 w.heap.size P mb [0, 0, 0, 0, 0] [] ∧ Below w.heap.size w w3) := ⟨S2.out.1.later hB, S2.out.2.trans (hB.mono S2.out.2.size)⟩
    clear hB
    go_wp2_with fail
    refine (waits_any w.heap.size P mb _ _ w3 S3.out.1).mono ?_
    rintro e w4 ⟨rfl, rfl⟩
    go_wp2
    go_ret
    exact ⟨rfl, S3.out.2⟩

set_option maxRecDepth 100000 in
set_option maxHeartbeats 2000000 in
theorem whole_yes (n : Int) (m : Nat) (a : Option Addr) (len cap : Nat) (xs : List Int) (w : World) (hL : Laid w) (hv : Vw w a len xs) (hmx : len ≤ maxLen) (h1 : 1 ≤ n) (h2 : n ≤ 30) (hm : m < 5) :
    Calls Tryd.prog 3 #[.int .i64 n, .slice a len cap, .int .i64 (m : Int)] w fun e w' => e = .returned (.bool true) ∧ Below w.heap.size w w' := by
  have HL : Hid (Laid w ∧ Vw w a len xs) := ⟨hL, hv⟩
  unfold maxLen at hmx
  have hm0 : (0 : Int) ≤ (m : Int) := by omega
  have hm4 : (m : Int) ≤ 4 := by omega
  have hm5 : (m : Int) < 5 := by omega
  have d1 : decide (n < 1) = false := by simp; omega
  have d2 : decide (30 < n) = false := by simp; omega
  have d3 : decide ((m : Int) < 0) = false := by simp
  have d4 : decide (4 < (m : Int)) = false := by simp; omega
  clear hL hv
  go_enter Tryd.func3, Tryd.ntmps3
  go_wp2_with fail
  refine (new_any w).mono ?_
  rintro e w1 ⟨P, mb, rfl, hF, hB⟩
  have S1 : Hid (FoM w1 w.heap.size P mb [0, 0, 0, 0, 0] [] ∧ Below w.heap.size w w1) := ⟨hF, hB⟩
  clear hF hB
  go_wp2
  obtain ⟨W1, eW1⟩ : ∃ W1, W1 = w1.alloc (.cells #[.bool false, .bool false, .bool false, .bool false, .bool false, .bool false, .bool false, .bool false, .bool false, .bool false, .bool false, .bool false, .bool false, .bool false, .bool false, .bool false, .bool false, .bool false, .bool false, .bool false, .bool false, .bool false, .bool false, .bool false, .bool false, .bool false, .bool false, .bool false, .bool false, .bool false, .bool false] 31) := ⟨_, rfl⟩
  rw [← eW1]
  have I1 : Hid (∃ S mm, WI w P mb m w1.heap.size n W1 (.slice none 0 0) S mm) := by
    refine ⟨fun _ => false, 0, [0, 0, 0, 0, 0], [], ?_, Inv.start, ?_, Wh.start _ (by omega), ?_, World.ownsRow_nil _ _ _ _, ?_, S1.out.2.size⟩
    · rw [eW1]; exact S1.out.1.later ((Below.refl _ _).alloc (Nat.le_refl _) _)
    · rcases m with _ | _ | _ | _ | _ | m <;> first | rfl | omega
    · rw [eW1]; exact row31 w1
    · rw [eW1]; exact S1.out.2.alloc S1.out.2.size _
  clear eW1
  go_loopw [11, 13] (fun vh x wr => ∃ i : Nat, i ≤ len ∧ x = .int .i64 (i : Int) ∧ Hid (∃ S mm, WI w P mb m w1.heap.size n wr vh S mm)) (fun vh x _ => len - (intOf x).toNat)
  case atStart => exact ⟨0, by omega, rfl, I1⟩
  case round =>
    obtain ⟨i, hi, rfl, hR⟩ := hrel
    by_cases hlt : i < len
    · have hB : Below w.heap.size w wr := by
        obtain ⟨S, mm, H, ws, q⟩ := hR.out
        exact q.2.2.2.2.2.2.1
      have HB : Hid (Below w.heap.size w wr) := hB
      obtain ⟨b, off, rfl, -, hcs⟩ := (HL.out.2.later hB).2 (by omega)
      have x0 := hcs i hlt
      obtain ⟨k, ek⟩ : ∃ k, k = xs.getD i 0 := ⟨_, rfl⟩
      rw [← ek] at x0
      have hi0 : (0 : Int) ≤ (i : Int) := by omega
      have hil : (i : Int) < (len : Int) := by omega
      clear hcs ek hB
      by_cases k1 : k < 1
      · go_wp2
        go_roundw
        case rel => exact ⟨i + 1, by omega, by go_num, hR⟩
        case measure => simp [intOf]; omega
      · have k1' : 1 ≤ k := by omega
        have e1 : decide (k < 1) = false := by simp; omega
        by_cases k2 : n < k
        · go_wp2
          go_roundw
          case rel => exact ⟨i + 1, by omega, by go_num, hR⟩
          case measure => simp [intOf]; omega
        · have k2' : k ≤ n := by omega
          have e2 : decide (n < k) = false := by simp; omega
          obtain ⟨kk, rfl⟩ : ∃ kk : Nat, k = (kk : Int) := ⟨k.toNat, by omega⟩
          have hk0 : (0 : Int) ≤ (kk : Int) := by omega
          have hk31 : (kk : Int) < 31 := by omega
          obtain ⟨S, mm, H, ws, q1, q2, q3, q4, q5, q6, q7, q8⟩ := hR.out
          have R : Hid (FoM wr w.heap.size P mb H ws ∧ Inv H ws ∧ H.getD m 0 = mm ∧ Wh (m : Int) n S mm ws ∧ wr.rowIs w1.heap.size 31 31 (fun j => .bool (S (j : Int))) ∧ wr.ownsRow w.heap.size 3 1 u11 mm.toNat ((fst mm).map (Value.int .i64)) ∧ w.heap.size ≤ w1.heap.size) := ⟨q1, q2, q3, q4, q5, q6, q8⟩
          have hap := q1.row_apart q5 (by decide)
          clear q1 q2 q3 q4 q5 q6 q7 q8 hR k1 k2
          cases hs : S (kk : Int) with
          | true =>
            have T : Hid _ := R.out.2.2.2.1.twice hs (show bad (m : Int) (kk : Int) (kk : Int) = false by simp [bad]; omega)
            go_wp2_with fail
            refine (take_any w.heap.size P mb H ws (m : Int) (kk : Int) (kk : Int) wr R.out.1 R.out.2.1 HB.out.size).mono ?_
            rintro e w2 ⟨vo, rfl, hF, hO, hB2, hKp⟩
            have hc : tkC (H.getD ((m : Int)).toNat 0) ws (m : Int) (kk : Int) (kk : Int) = 7 := by rw [Int.toNat_natCast, R.out.2.2.1]; exact T.out
            rw [tk_no (by rw [hc]; decide)] at hF hO
            rw [hc]
            obtain ⟨qv, cv, rfl⟩ := own_form hO
            have r2 := row_other R.out.2.2.2.2.1 hKp hap.1 hap.2
            have c2 := World.rowIs.cell r2 (i := kk) (by omega)
            have ce := congrArg some (congrArg Value.bool hs)
            have c2 := c2.trans ce
            have S2 : Hid (FoM w2 w.heap.size P mb H ws ∧ w2.rowIs w1.heap.size 31 31 (fun j => .bool (S (j : Int))) ∧ w2.ownsRow w.heap.size 3 1 u11 mm.toNat ((fst mm).map (Value.int .i64)) ∧ Below w.heap.size w w2) := by
              have ap := R.out.1.own_apart R.out.2.2.2.2.2.1 (by decide)
              exact ⟨hF, r2, own_block R.out.2.2.2.2.2.1 (fun j hj => hKp.2 j (own_lt R.out.2.2.2.2.2.1 j hj).2 (fun e => ap.1 (by rw [hj, e])) (fun e => ap.2 (by rw [hj, e]))), HB.out.trans hB2⟩
            clear hF hO hB2 hKp r2 ce hc x0
            go_wp2_with fail
            refine (errF_same 7 w2 (HL.out.1.later S2.out.2.2.2)).mono ?_
            rintro e w3 ⟨rfl, hB3⟩
            have I3 : Hid (WI w P mb m w1.heap.size n w3 u11 S mm) := ⟨H, ws, S2.out.1.later hB3, R.out.2.1, R.out.2.2.1, R.out.2.2.2.1, S2.out.2.1.of_block (hB3.block _ S2.out.2.1.lt), own_later0 S2.out.2.2.1 hB3, S2.out.2.2.2.trans (hB3.mono S2.out.2.2.2.size), R.out.2.2.2.2.2.2⟩
            clear hB3
            go_wp2
            go_roundw
            case rel => exact ⟨i + 1, by omega, by go_num, S, mm, I3.out⟩
            case measure => simp [intOf]; omega
          | false =>
            obtain ⟨hc, mm', hle, g1, g2, g3⟩ := wh_step hm R.out.2.1 R.out.2.2.1 R.out.2.2.2.1 h2 k1' k2' hs
            have T : Hid (tkC (H.getD ((m : Int)).toNat 0) ws (m : Int) (kk : Int) (kk : Int) = 0 ∧ mm ≤ mm' ∧ (tk H ws (m : Int) (kk : Int) (kk : Int)).2.1.getD m 0 = mm' ∧ Wh (m : Int) n (fun j => S j || decide (j = (kk : Int))) mm' (tk H ws (m : Int) (kk : Int) (kk : Int)).2.2 ∧ (tk H ws (m : Int) (kk : Int) (kk : Int)).1 = (List.range (mm' - mm).toNat).map (fun i : Nat => mm + 1 + (i : Int)) ∧ 0 ≤ mm ∧ mm' ≤ n) := ⟨hc, hle, g1, g2, g3, R.out.2.2.2.1.low, g2.high⟩
            clear hc hle g1 g2 g3
            go_wp2_with fail
            refine (take_any w.heap.size P mb H ws (m : Int) (kk : Int) (kk : Int) wr R.out.1 R.out.2.1 HB.out.size).mono ?_
            rintro e w2 ⟨vo, rfl, hF, hO, hB2, hKp⟩
            rw [T.out.2.2.2.2.1] at hO
            rw [T.out.1, errF_ok]
            have r2 := row_other R.out.2.2.2.2.1 hKp hap.1 hap.2
            have c2 := World.rowIs.cell r2 (i := kk) (by omega)
            have z2 := World.rowIs.frozen r2 kk
            have c2 := c2.trans (congrArg some (congrArg Value.bool hs))
            have ap := R.out.1.own_apart R.out.2.2.2.2.2.1 (by decide)
            have oh := own_block R.out.2.2.2.2.2.1 (fun j hj => hKp.2 j (own_lt R.out.2.2.2.2.2.1 j hj).2 (fun e => ap.1 (by rw [hj, e])) (fun e => ap.2 (by rw [hj, e])))
            obtain ⟨lh, elh⟩ : ∃ lh, lh = mm.toNat := ⟨_, rfl⟩
            obtain ⟨cnt, ecnt⟩ : ∃ cnt, cnt = ((List.range (mm' - mm).toNat).map (fun i : Nat => mm + 1 + (i : Int))).length := ⟨_, rfl⟩
            have hcnt : cnt = (mm' - mm).toNat := by rw [ecnt]; simp
            have hlh : lh ≤ 30 := by have := T.out.2.1; have := T.out.2.2.2.2.2; omega
            have hct : cnt ≤ 30 := by have := T.out.2.1; have := T.out.2.2.2.2.2; omega
            rw [← elh] at oh
            rw [← ecnt] at hO
            obtain ⟨qh, ch, rfl⟩ := own_form oh
            obtain ⟨W3, eW3⟩ : ∃ W3, W3 = w2.setCell ⟨w1.heap.size, kk, none⟩ (.bool true) := ⟨_, rfl⟩
            have k3 : Kp w2 W3 w1.heap.size none := by rw [eW3]; exact Kp.setCell w2 w1.heap.size kk _ none
            have apI := hF.row_apart r2 (by decide)
            have S3 : Hid (FoM W3 w.heap.size P mb (tk H ws (m : Int) (kk : Int) (kk : Int)).2.1 (tk H ws (m : Int) (kk : Int) (kk : Int)).2.2 ∧ W3.rowIs w1.heap.size 31 31 (fun j => .bool (S (j : Int) || decide ((j : Int) = (kk : Int)))) ∧ W3.ownsRow w.heap.size 3 1 (.slice qh lh ch) lh ((fst mm).map (Value.int .i64)) ∧ Below w.heap.size w W3 ∧ W3.ownsRow wr.heap.size 3 1 vo cnt (((List.range (mm' - mm).toNat).map (fun i : Nat => mm + 1 + (i : Int))).map (Value.int .i64))) := by
              refine ⟨hF.kp k3 (Ne.symm apI.1) (fun e => apI.2 (by rw [e])) (by simp) (by simp), ?_, own_block oh (fun j hj => k3.2 j (own_lt oh j hj).2 (fun e => row_own_apart r2 oh (by decide) (by rw [hj, e])) (by simp)), ?_, own_block hO (fun j hj => k3.2 j (own_lt hO j hj).2 (fun e => row_own_apart r2 hO (by decide) (by rw [hj, e])) (by simp))⟩
              · rw [eW3]
                refine (World.rowIs.set r2 kk _).congr fun j hj => ?_
                by_cases e : j = kk
                · subst e; simp
                · rw [if_neg e]
                  have : decide ((j : Int) = (kk : Int)) = false := by simp; omega
                  rw [this, Bool.or_false]
              · rw [eW3]; exact (HB.out.trans hB2).setCell (p := ⟨w1.heap.size, kk, none⟩) R.out.2.2.2.2.2.2 _
            have LH : Hid (lh = mm.toNat ∧ cnt = (mm' - mm).toNat ∧ Inv (tk H ws (m : Int) (kk : Int) (kk : Int)).2.1 (tk H ws (m : Int) (kk : Int) (kk : Int)).2.2) := ⟨elh, hcnt, R.out.2.1.take _ _ _⟩
            have ND : Hid (∀ (vN : Value) (w4 : World), w4.ownsRow w.heap.size 3 1 vN (lh + cnt) ((fst mm).map (Value.int .i64) ++ ((List.range (mm' - mm).toNat).map (fun i : Nat => mm + 1 + (i : Int))).map (Value.int .i64)) → W3.grownBy w4 (Value.slice qh lh ch).ownBlock → WI w P mb m w1.heap.size n w4 vN (fun j => S j || decide (j = (kk : Int))) mm') := by
              intro vN w4 ho hg
              have a1 := S3.out.1.own_apart S3.out.2.2.1 (by decide)
              refine ⟨_, _, S3.out.1.grown hg a1.1 a1.2, LH.out.2.2, T.out.2.2.1, T.out.2.2.2.1, row_grown S3.out.2.1 hg (row_own_apart S3.out.2.1 S3.out.2.2.1 (by decide)), ?_, S3.out.2.2.2.1.grown hg S3.out.2.2.2.1.size (fun j hj => (own_lt S3.out.2.2.1 j hj).1), R.out.2.2.2.2.2.2⟩
              rw [← List.map_append, fst_more T.out.2.2.2.2.2.1 T.out.2.1, show lh + cnt = mm'.toNat by have := LH.out; have := T.out.2.1; have := T.out.2.2.2.2.2.1; omega] at ho
              exact ho
            obtain ⟨ii, hi', hz0, hz1, hz2⟩ := info_int
            have HJ : Hid (Tryd.prog.info? 3 = some ii ∧ ii.zero = some (.int .i64 0) ∧ ii.size = 1 ∧ ii.bytes = 8) := ⟨hi', hz0, hz1, hz2⟩
            clear hF hO hB2 hKp r2 x0 hi' hz0 hz1 hz2 oh ap apI k3 elh ecnt hcnt hap
            subst eW3
            rcases S3.out.2.2.2.2.2 with ⟨rfl, e0⟩ | ⟨g, cv, cur, rfl, hb0, hh, hcv, hmv, hsz, htk⟩
            · subst e0
              have IN : Hid (WI w P mb m w1.heap.size n (w2.setCell ⟨w1.heap.size, kk, none⟩ (.bool true)) (.slice qh lh ch) (fun j => S j || decide (j = (kk : Int))) mm') := ND.out _ _ (by rw [← LH.out.2.1]; simpa using S3.out.2.2.1) ⟨rfl, rfl, rfl, Nat.le_refl _, fun _ _ _ => rfl⟩
              clear hct
              go_wp2_with (at_builtin; refine wpList_append_own_none rfl _ _ 22 rfl w.heap.size 3 ii 1 Tryd.underlying22 HJ.out.1 (.slice qh lh ch) lh ((fst mm).map (Value.int .i64)) rfl S3.out.2.2.1 rfl ?_)
              go_roundw
              case rel => exact ⟨i + 1, by omega, by go_num, _, _, IN.out⟩
              case measure => simp [intOf]; omega
            · have CS : Hid (((List.range (mm' - mm).toNat).map (fun i : Nat => mm + 1 + (i : Int))).length = cnt ∧ ∀ j u, (((List.range (mm' - mm).toNat).map (fun i : Nat => mm + 1 + (i : Int))).map (Value.int .i64))[j]? = some u → (w2.setCell ⟨w1.heap.size, kk, none⟩ (.bool true)).cell? ((⟨g, 0, none⟩ : Addr).add j) = some u) := by
                have o := S3.out.2.2.2.2
                refine ⟨by have := o.1; simpa using this, fun j u hj => ?_⟩
                rw [Addr.add_lit, Nat.zero_add]
                have hl := (List.getElem?_eq_some_iff.1 hj).1
                rw [o.1] at hl
                rw [← htk, List.getElem?_take_of_lt hl] at hj
                simp only [World.cell?, hh]
                simpa using hj
              clear hb0 hh hcv hmv hsz htk
              go_wp2_with (at_builtin; refine wpList_append_own _ rfl _ _ 22 rfl w.heap.size 3 ii (.int .i64 0) 1 8 Tryd.underlying22 HJ.out.1 HJ.out.2.1 HJ.out.2.2.1 HJ.out.2.2.2 rfl (by decide) (.slice qh lh ch) lh ((fst mm).map (Value.int .i64)) rfl S3.out.2.2.1 ⟨g, 0, none⟩ cnt cv (((List.range (mm' - mm).toNat).map (fun i : Nat => mm + 1 + (i : Int))).map (Value.int .i64)) rfl (by rw [List.length_map, Nat.mul_one]; exact CS.out.1) CS.out.2 (fun u hu => by obtain ⟨x, _, rfl⟩ := List.mem_map.1 hu; rfl) (by unfold maxLen; omega) (by omega) (S3.out.2.2.2.1.size) ?_; intro v1 w4 hown hgrow _; obtain ⟨q1, k1, rfl⟩ := own_form hown; have IN : Hid (WI w P mb m w1.heap.size n w4 (.slice q1 (lh + cnt) k1) (fun j => S j || decide (j = (kk : Int))) mm') := ND.out _ _ hown hgrow; clear hown hgrow)
              go_roundw
              case rel => exact ⟨i + 1, by omega, by go_num, _, _, IN.out⟩
              case measure => simp [intOf]; omega
    · obtain ⟨S, mm, H, ws, q1, q2, q3, q4, q5, q6, q7, q8⟩ := hR.out
      have R : Hid (Wh (m : Int) n S mm ws ∧ wr.rowIs w1.heap.size 31 31 (fun j => .bool (S (j : Int))) ∧ wr.ownsRow w.heap.size 3 1 u11 mm.toNat ((fst mm).map (Value.int .i64)) ∧ Below w.heap.size w wr) := ⟨q4, q5, q6, q7⟩
      have hl0 := q4.low
      have hhi := q4.high
      clear q1 q2 q3 q4 q5 q6 q7 q8 hR
      have hil : i = len := by omega
      subst hil
      clear hlt
      obtain ⟨mn, rfl⟩ : ∃ mn : Nat, mm = (mn : Int) := ⟨mm.toNat, by omega⟩
      obtain ⟨a11, c11, rfl, hv11⟩ := own_vw R.out.2.2.1
      rw [Int.toNat_natCast] at hv11
      have V11 : Hid (Vw wr a11 mn (fst (mn : Int))) := hv11
      rw [Int.toNat_natCast]
      clear hv11
      obtain ⟨wq, ewq⟩ : ∃ wq, wq = wr := ⟨_, rfl⟩
      subst ewq
      go_wp2
      go_loopw [17] (fun x wi => ∃ c : Nat, c ≤ mn ∧ x = .int .i64 (c : Int) ∧ wi = wq) (fun x _ => mn - (intOf x).toNat)
      case atStart => exact ⟨0, by omega, rfl, rfl⟩
      case round =>
        obtain ⟨c, hc, rfl, ew⟩ := hrel
        have ew := ew.symm
        subst ew
        by_cases hcl : c < mn
        · have x1 : wq.cell? ⟨w1.heap.size, c + 1, none⟩ = some (.bool true) := (World.rowIs.cell R.out.2.1 (i := c + 1) (by omega)).trans (congrArg some (congrArg Value.bool ((R.out.1.come _).2 (.inl ⟨by omega, by omega⟩))))
          have hc0 : (0 : Int) ≤ (c : Int) := by omega
          have hcn : (c : Int) < n := by omega
          have hc31 : (c : Int) + 1 < 31 := by omega
          go_wp2
          go_roundw
          case rel => exact ⟨c + 1, by omega, by go_num, by first | rfl | trivial⟩
          case measure => simp [intOf]; omega
        · have hcm : c = mn := by omega
          subst hcm
          have hmm : ((c : Int) != (c : Int)) = false := by simp
          have EX : Hid (∀ Q : Prop, (n = (c : Int) → Q) → ((c : Int) < n → wq.cell? ⟨w1.heap.size, c + 1, none⟩ = some (.bool false) → Q) → Q) := by
            intro Q f1 f2
            by_cases q : (c : Int) < n
            · refine f2 q ?_
              have x1 := World.rowIs.cell R.out.2.1 (i := c + 1) (by omega)
              exact x1.trans (congrArg some (congrArg Value.bool R.out.1.next))
            · exact f1 (by omega)
          apply EX.out
          · intro hnc
            have hd : decide ((c : Int) < n) = false := by simp; omega
            go_wp2
            go_loopw [18] (fun x wi => ∃ j : Nat, j ≤ c ∧ x = .int .i64 (j : Int) ∧ wi = wq) (fun x _ => c - (intOf x).toNat)
            case atStart => exact ⟨0, by omega, rfl, rfl⟩
            case round =>
              obtain ⟨j, hj, rfl, ew⟩ := hrel
              have ew := ew.symm
              subst ew
              by_cases hjl : j < c
              · obtain ⟨b11, o11, rfl, -, hcs⟩ := V11.out.2 (by omega)
                have y1 := hcs j hjl
                rw [fst_get _ (by omega)] at y1
                have hj0 : (0 : Int) ≤ (j : Int) := by omega
                have hjc : (j : Int) < (c : Int) := by omega
                have hne : (1 + (j : Int) != (j : Int) + 1) = false := by simp; omega
                clear hcs
                go_wp2
                go_roundw
                case rel => exact ⟨j + 1, by omega, by go_num, by first | rfl | trivial⟩
                case measure => simp [intOf]; omega
              · go_wp2
                go_ret
                exact ⟨rfl, R.out.2.2.2⟩
          · intro hcn x1
            have hc0 : (0 : Int) ≤ (c : Int) := by omega
            have hc31 : (c : Int) + 1 < 31 := by omega
            go_wp2
            go_loopw [18] (fun x wi => ∃ j : Nat, j ≤ c ∧ x = .int .i64 (j : Int) ∧ wi = wq) (fun x _ => c - (intOf x).toNat)
            case atStart => exact ⟨0, by omega, rfl, rfl⟩
            case round =>
              obtain ⟨j, hj, rfl, ew⟩ := hrel
              have ew := ew.symm
              subst ew
              by_cases hjl : j < c
              · obtain ⟨b11, o11, rfl, -, hcs⟩ := V11.out.2 (by omega)
                have y1 := hcs j hjl
                rw [fst_get _ (by omega)] at y1
                have hj0 : (0 : Int) ≤ (j : Int) := by omega
                have hjc : (j : Int) < (c : Int) := by omega
                have hne : (1 + (j : Int) != (j : Int) + 1) = false := by simp; omega
                clear hcs
                go_wp2
                go_roundw
                case rel => exact ⟨j + 1, by omega, by go_num, by first | rfl | trivial⟩
                case measure => simp [intOf]; omega
              · go_wp2
                go_ret
                exact ⟨rfl, R.out.2.2.2⟩
theorem whole_walk (n : Int) (a : Option Addr) (len cap : Nat) (xs : List Int) (who : Int) (w : World) (hL : Laid w) (hv : Vw w a len xs) (hmx : len ≤ maxLen) :
    Calls Tryd.prog 3 #[.int .i64 n, .slice a len cap, .int .i64 who] w fun e w' => e = .returned (.bool true) ∧ Below w.heap.size w w' := by
  by_cases h : 1 ≤ n ∧ n ≤ 30 ∧ 0 ≤ who ∧ who ≤ 4
  · obtain ⟨m, rfl⟩ : ∃ m : Nat, who = (m : Int) := ⟨who.toNat, by omega⟩
    exact whole_yes n m a len cap xs w hL hv hmx h.1 h.2.1 (by omega)
  · exact whole_bad n who a len cap w hL (by omega)
end Go.Proofs.YtgcdbcljneoifacDoor.Fif
