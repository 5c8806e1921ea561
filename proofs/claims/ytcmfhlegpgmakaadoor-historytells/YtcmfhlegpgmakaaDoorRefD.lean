/-
  Contract of the document's own Cut: is a cut one that could have been.
-/
import Derived.Test.YtcmfhlegpgmakaaDoorRefC
import Derived.Test.YtcmfhlegpgmakaaDoorHisU
namespace Go.Proofs.YtcmfhlegpgmakaaDoor.His
open Go.RowKit
open Go.Proofs.YtcmfhlegpgmakaaDoor.Vec

/-- which events are taken behind the rounds of the members ahead of m, and of m the events ahead of i -/
def tk (h : List Ev) (many : List Int) (len m i x : Nat) : Bool := (decide (x < len) && taken h many x) && (decide (W h x < m) || (decide (W h x = m) && decide (x < i)))
theorem tk_start (h : List Ev) (many : List Int) (len x : Nat) : tk h many len 0 0 x = false := by simp [tk]
theorem tk_hit {h : List Ev} {many : List Int} {len m i : Nat} (hi : i < len) (hw : W h i = m) (ht : taken h many i = true) (x : Nat) : tk h many len m (i + 1) x = if x = i then true else tk h many len m i x := by
  by_cases e : x = i
  · subst e
    simp [tk, hi, hw, ht]
  · rw [if_neg e, Bool.eq_iff_iff]
    simp only [tk, Bool.and_eq_true, Bool.or_eq_true, decide_eq_true_eq]
    constructor <;> (rintro ⟨q, t⟩; exact ⟨q, by omega⟩)
theorem tk_miss {h : List Ev} {many : List Int} {len m i : Nat} (hn : W h i ≠ m ∨ taken h many i = false) (x : Nat) : tk h many len m (i + 1) x = tk h many len m i x := by
  by_cases e : x = i
  · subst e
    rcases hn with hn | hn
    · simp [tk, hn]
    · simp [tk, hn]
  · rw [Bool.eq_iff_iff]
    simp only [tk, Bool.and_eq_true, Bool.or_eq_true, decide_eq_true_eq]
    constructor <;> (rintro ⟨q, t⟩; exact ⟨q, by omega⟩)
theorem tk_next (h : List Ev) (many : List Int) (len m x : Nat) : tk h many len m len x = tk h many len (m + 1) 0 x := by
  rw [Bool.eq_iff_iff]
  simp only [tk, Bool.and_eq_true, Bool.or_eq_true, decide_eq_true_eq]
  constructor <;> (rintro ⟨q, t⟩; have := q.1; exact ⟨q, by omega⟩)
theorem tk_end {h : List Ev} {many : List Int} {len : Nat} (hg : Good h len) {x : Nat} (hx : x < len) : tk h many len 5 0 x = taken h many x := by
  have := W_lt hg hx
  simp [tk, hx, this]
theorem manyC_one {h : List Ev} {many : List Int} {m : Nat} (hl : many.length = 5) (hm : m < 5) (hb : many.getD m 0 < 0 ∨ cnt h m h.length < many.getD m 0) : manyC h many = 1 := by
  unfold manyC
  by_cases hc : code many = 0
  · rw [if_pos hc, if_pos]
    rcases hb with hb | hb
    · exfalso
      unfold code at hc
      rw [if_pos hl] at hc
      have : bad many = true := anyP_true (p := fun k => out (many.getD k 0)) hm (by simp only [out, decide_eq_true hb, Bool.true_or])
      rw [this] at hc
      exact absurd hc (by decide)
    · refine anyP_true (p := fun k => decide ((cnts h).getD k 0 < many.getD k 0)) hm ?_
      rw [cnts_get h m hm]
      exact decide_eq_true hb
  · rw [if_neg hc]
    unfold code at hc ⊢
    rw [if_pos hl] at hc ⊢
    split
    · rfl
    · rename_i q; simp [q] at hc
theorem manyC_three {h : List Ev} {many : List Int} (hl : many.length ≠ 5) : manyC h many = 3 := by
  have : code many = 3 := by unfold code; rw [if_neg hl]
  unfold manyC
  rw [this, if_neg (by decide)]
theorem manyC_ok {h : List Ev} {many : List Int} (h60 : h.length ≤ 60) (hl : many.length = 5) (hb : ∀ m, m < 5 → 0 ≤ many.getD m 0 ∧ many.getD m 0 ≤ cnt h m h.length) : manyC h many = 0 := by
  have hc : code many = 0 := code_ok hl fun i hi => by
    have := hb i hi
    have := cnt_le h i h.length
    omega
  rw [manyC, if_pos hc, if_neg]
  rw [gt_of]
  · decide
  · intro j hj
    rw [cnts_get h j hj]
    exact (hb j hj).2
theorem cutB_true {h : List Ev} {many : List Int} (hg : Good h h.length) (hm : ∀ m, m < 5 → 0 ≤ many.getD m 0) (hc : ∀ i k, i < k → k < h.length → bef h i k = true → taken h many k = true → taken h many i = true) : cutB h many = true := by
  rw [cutB, List.all_eq_true]
  intro n hn
  exact (cut_iff hg many hm).2 hc n (List.mem_range.1 hn)
theorem cutB_false {h : List Ev} {many : List Int} {i k : Nat} (hg : Good h h.length) (hm : ∀ m, m < 5 → 0 ≤ many.getD m 0) (hik : i < k) (hk : k < h.length) (hb : bef h i k = true) (h1 : taken h many k = true) (h2 : taken h many i = false) : cutB h many = false := by
  cases hc : cutB h many with
  | false => rfl
  | true =>
    rw [cutB, List.all_eq_true] at hc
    have := (cut_iff hg many hm).1 (fun n hn => hc n (List.mem_range.2 hn)) i k hik hk hb h1
    rw [h2] at this
    cases this

def rcB (h : List Ev) (many : List Int) : Bool := decide (manyC h many = 0) && cutB h many

set_option maxRecDepth 100000 in
set_option maxHeartbeats 8000000 in
theorem refCut (a : Option Addr) (len cap : Nat) (h : List Ev) (p : Option Addr) (n pcap : Nat) (many : List Int) (w : World) (h60 : len ≤ 60) (hv : Ew w a len h) (hg : Good h len) (hx : Vw w p n many) :
    Calls Tryd.prog 19 #[.slice a len cap, .slice p n pcap] w fun e w' => e = .returned (.tuple #[.bool (rcB h many), .int .i64 (manyC h many)]) ∧ Below w.heap.size w w' := by
  have HL : Hid (h.length = len) := hv.1
  by_cases hn : n = 5
  · subst hn
    have G : Hid (Ew w a len h) := hv
    have HG : Hid (Good h len) := hg
    have X : Hid (Vw w p 5 many) := hx
    obtain ⟨Z, hZ⟩ : ∃ Z, Z = Array.replicate 3600 (Value.bool false) := ⟨_, rfl⟩
    have hz := (zero_of_info sqInfo).1
    rw [← hZ] at hz
    have ZS : Hid (Z.size = 3600) := by rw [hZ]; exact Array.size_replicate
    clear hv hg hx hZ
    go_enter Tryd.func19, Tryd.ntmps19
    go_wp2
    go_loopw [7] (fun x wr => ∃ m : Nat, m ≤ 5 ∧ x = .int .i64 m ∧ Hid (Below w.heap.size w wr) ∧ Hid (wr.rowIs w.heap.size 40 60 (fun x => .bool (tk h many len m 0 x))) ∧ Hid (∀ j, j < m → 0 ≤ many.getD j 0 ∧ many.getD j 0 ≤ cnt h j len)) (fun x _ => 5 - (intOf x).toNat)
    case atStart =>
      refine ⟨0, by omega, rfl, (Below.refl _ _).alloc (Nat.le_refl _) _, ?_, fun j hj => absurd hj (by omega)⟩
      have q := World.rowIs_alloc w (Array.replicate 60 (Value.bool false)) 40 (fun x => .bool (tk h many len 0 0 x)) (fun i hi => by
        rw [tk_start]
        simp at hi
        simp [hi])
      simp only [Array.size_replicate] at q
      exact q
    case round =>
      obtain ⟨m, hm, rfl, hbel, hT, hmn⟩ := hrel
      by_cases hm5 : m < 5
      · obtain ⟨b', off', rfl, hpb', hcs'⟩ := (X.out.later hbel.out).2 (by omega)
        have XC : Hid (b' < wr.heap.size ∧ wr.cell? ⟨b', off' + m, none⟩ = some (.int .i64 (many.getD m 0))) := ⟨hpb', hcs' m hm5⟩
        have hm0 : (0 : Int) ≤ (m : Int) := by omega
        have hm5' : (m : Int) < 5 := by omega
        obtain ⟨y, ey⟩ : ∃ y, y = many.getD m 0 := ⟨_, rfl⟩
        have EY : Hid (y = many.getD m 0) := ey
        clear hpb' hcs' ey hz
        go_wp2
        go_loopw [8, 9] (fun u x wi => ∃ i : Nat, i ≤ len ∧ x = .int .i64 i ∧ u = .int .i64 (cnt h m i) ∧ Hid (Below w.heap.size w wi) ∧ Hid (wi.rowIs w.heap.size 40 60 (fun x => .bool (tk h many len m i x)))) (fun _ x _ => len - (intOf x).toNat)
        case atStart => exact ⟨0, by omega, rfl, rfl, hbel.out, hT.out⟩
        case round =>
          obtain ⟨i, hi, rfl, rfl, hbel', hT'⟩ := hrel
          obtain ⟨b2, off2, eb, hpb2, hcs2⟩ := (X.out.later hbel'.out).2 (by omega)
          injection eb with eb
          injection eb with eb1 eb2 _
          subst eb1 eb2
          have yc := hcs2 m hm5
          rw [← EY.out] at yc
          obtain ⟨u, eu⟩ : ∃ u, u = cnt h m i := ⟨_, rfl⟩
          have bu : 0 ≤ u ∧ u ≤ 60 := by
            have := cnt_nonneg h m i
            have := cnt_le h m i
            omega
          have EU : Hid (u = cnt h m i) := eu
          rw [← eu]
          clear eu hpb2 hcs2
          by_cases hlt : i < len
          · obtain ⟨b, off, rfl, hpb, hcs⟩ := (G.out.later hbel'.out).2 (by omega)
            obtain ⟨c0, -, -⟩ := hcs i hlt
            rw [← W_cast HG.out hlt] at c0
            obtain ⟨v, evv⟩ : ∃ v, v = W h i := ⟨_, rfl⟩
            have EV : Hid (v = W h i) := evv
            rw [← evv] at c0
            have hi0 : (0 : Int) ≤ (i : Int) := by omega
            have hil : (i : Int) < (len : Int) := by omega
            have hi60 : (i : Int) < 60 := by omega
            have tc := hT'.out.cell (i := i) (by omega)
            have fz := hT'.out.frozen i
            clear hcs hpb evv
            by_cases hvm : v = m
            · have CS : Hid (cnt h m (i + 1) = u + 1) := by show cnt h m (i + 1) = u + 1; rw [cnt_step, ← EV.out, if_pos hvm, EU.out]
              have TT : Hid (taken h many i = decide (u < y)) := by show taken h many i = decide (u < y); rw [taken, ← EV.out, hvm, ← EY.out, ← EU.out]
              subst hvm
              by_cases huy : u < y
              · go_wp2
                go_roundw
                case rel =>
                  refine ⟨i + 1, by omega, by go_num, by rw [CS.out], hbel'.out.setCell (p := ⟨w.heap.size, i, none⟩) (Nat.le_refl _) _, (hT'.out.set i _).congr fun x hx => ?_⟩
                  rw [tk_hit hlt EV.out.symm (by rw [TT.out]; exact decide_eq_true huy) x]
                  by_cases e : x = i
                  · simp [e]
                  · simp [e]
                case measure => simp [intOf]; omega
              · go_wp2
                go_roundw
                case rel =>
                  refine ⟨i + 1, by omega, by go_num, by rw [CS.out], hbel'.out, hT'.out.congr fun x hx => ?_⟩
                  rw [tk_miss (.inr (by rw [TT.out]; exact decide_eq_false (by omega))) x]
                case measure => simp [intOf]; omega
            · have hvm' : ((v : Int) == (m : Int)) = false := by simp; omega
              have CS : Hid (cnt h m (i + 1) = u) := by show cnt h m (i + 1) = u; rw [cnt_step, ← EV.out, if_neg hvm, EU.out]; omega
              have NE : Hid (W h i ≠ m) := by rw [← EV.out]; exact hvm
              clear hvm
              go_wp2
              go_roundw
              case rel =>
                refine ⟨i + 1, by omega, by go_num, by rw [CS.out], hbel'.out, hT'.out.congr fun x hx => ?_⟩
                rw [tk_miss (.inl NE.out) x]
              case measure => simp [intOf]; omega
          · have : i = len := by omega
            subst this
            by_cases hy0 : y < 0
            · have MC : Hid (manyC h many = 1) := manyC_one (X.out.1) hm5 (.inl (by rw [← EY.out]; exact hy0))
              go_wp2
              go_ret2
              refine ⟨?_, hbel'.out⟩
              rw [rcB, MC.out]
              rfl
            · by_cases hyu : u < y
              · have MC : Hid (manyC h many = 1) := manyC_one (X.out.1) hm5 (.inr (by rw [← EY.out, HL.out, ← EU.out]; exact hyu))
                go_wp2
                go_ret2
                refine ⟨?_, hbel'.out⟩
                rw [rcB, MC.out]
                rfl
              · go_wp2
                go_roundw
                case rel =>
                  refine ⟨m + 1, by omega, by go_num, hbel'.out, hT'.out.congr fun x hx => ?_, ?_⟩
                  · rw [tk_next]
                  · intro j hj
                    rcases Nat.lt_succ_iff_lt_or_eq.1 hj with q | rfl
                    · exact hmn.out j q
                    · rw [← EY.out, ← EU.out]; omega
                case measure => simp [intOf]; omega
      · have : m = 5 := by omega
        subst this
        have MC : Hid (manyC h many = 0) := manyC_ok (by rw [HL.out]; exact h60) X.out.1 (fun j hj => by rw [HL.out]; exact hmn.out j hj)
        have CT : Hid (∀ i k, i < k → k < len → bef h i k = true → taken h many k = true → taken h many i = false → rcB h many = false) := by
          intro i k hik hk hb h1 h2
          rw [rcB, cutB_false (by rw [HL.out]; exact HG.out) (fun j hj => (hmn.out j hj).1) hik (by rw [HL.out]; exact hk) hb h1 h2]
          simp
        have CT1 : Hid ((∀ i k, i < k → k < len → bef h i k = true → taken h many k = true → taken h many i = true) → rcB h many = true) := by
          intro hc
          rw [rcB, MC.out, cutB_true (by rw [HL.out]; exact HG.out) (fun j hj => (hmn.out j hj).1) (by rw [HL.out]; exact hc)]
          rfl
        have T' : Hid (wr.rowIs w.heap.size 40 60 (fun x => .bool (tk h many len 5 0 x))) := hT.out
        clear hmn hT hm5
        go_wp2_with fail
        refine (refBefores a len cap h _ h60 (G.out.later hbel.out)).mono ?_
        rintro e w1 ⟨⟨c, rfl, hc⟩, hb1⟩
        have C : Hid (SqV c (wa h len len)) := hc
        have B1 : Hid (Below w.heap.size w w1) := below_up rfl hbel.out hb1
        have T1 : Hid (w1.rowIs w.heap.size 40 60 (fun x => .bool (tk h many len 5 0 x))) := rowIs_later T'.out hb1
        have HST : Hid ((Instr.storeAt 41 (.pointer (some ⟨w1.heap.size, 0, none⟩)) (.agg c)).run Tryd.prog (w1.alloc (.cells Z 41)) = .ok () (w1.alloc (.cells c 41))) := run_storeAt_new w1 _ Z c (by rw [sqSize, hc.1]) (by rw [ZS.out, hc.1]) (sq_one hc)
        clear hc hb1 T' hbel
        go_wp2_with (refine wpList_store_row rfl 41 (.tmp 10) (.tmp 57) rfl HST.out ?_)
        have B2 : Hid (Below w.heap.size w (w1.alloc (.cells c 41))) := B1.out.alloc B1.out.size _
        have S2 : Hid (Sq (w1.alloc (.cells c 41)) w1.heap.size (wa h len len)) := by
          have q := World.rowIs_alloc w1 c 41 (fun x => .bool (wa h len len (x / 60) (x % 60))) (fun i hi => C.out.2 i (by rw [← C.out.1]; exact hi))
          rw [C.out.1] at q
          exact q
        have T2 : Hid ((w1.alloc (.cells c 41)).rowIs w.heap.size 40 60 (fun x => .bool (tk h many len 5 0 x))) := T1.out.alloc _
        obtain ⟨Q, eQ⟩ : ∃ Q, Q = w1.heap.size := ⟨_, rfl⟩
        rw [← eQ] at S2 ⊢
        have S2' : Hid (Sq (w1.alloc (.cells c 41)) Q (wa h len len)) := S2
        clear eQ HST C T1 S2 hz
        go_loopw [11] (fun x wr => ∃ i : Nat, i ≤ len ∧ x = .int .i64 i ∧ Hid (Below w.heap.size w wr) ∧ Hid (Sq wr Q (wa h len len)) ∧ Hid (wr.rowIs w.heap.size 40 60 (fun x => .bool (tk h many len 5 0 x))) ∧ Hid (∀ i' k, i' < i → i' < k → k < len → bef h i' k = true → taken h many k = true → taken h many i' = true)) (fun x _ => len - (intOf x).toNat)
        case atStart => exact ⟨0, by omega, rfl, B2.out, S2'.out, T2.out, fun i' k q => absurd q (by omega)⟩
        case round =>
          clear B2 S2' T2
          obtain ⟨i, hi, rfl, hB, hS, hT, hc⟩ := hrel
          by_cases hlt : i < len
          · have hi0 : (0 : Int) ≤ (i : Int) := by omega
            have hil : (i : Int) < (len : Int) := by omega
            have hi60 : (i : Int) < 60 := by omega
            go_wp2
            go_loopw [12] (fun x wr => ∃ k : Nat, i + 1 ≤ k ∧ k ≤ len ∧ x = .int .i64 k ∧ Hid (Below w.heap.size w wr) ∧ Hid (Sq wr Q (wa h len len)) ∧ Hid (wr.rowIs w.heap.size 40 60 (fun x => .bool (tk h many len 5 0 x))) ∧ Hid (∀ k', i < k' → k' < k → bef h i k' = true → taken h many k' = true → taken h many i = true)) (fun x _ => len - (intOf x).toNat)
            case atStart => exact ⟨i + 1, by omega, by omega, by go_num, hB.out, hS.out, hT.out, fun k' q1 q2 => absurd q1 (by omega)⟩
            case round =>
              clear hB hS hT
              obtain ⟨k, hk1, hk, rfl, hB, hS, hT, hd⟩ := hrel
              by_cases hkl : k < len
              · have hk0 : (0 : Int) ≤ (k : Int) := by omega
                have hkl' : (k : Int) < (len : Int) := by omega
                have hk60 : (k : Int) < 60 := by omega
                have v1 := hS.out.cell (i := i) (k := k) (by omega) (by omega)
                have v2 := hT.out.cell (i := k) (by omega)
                have v3 := hT.out.cell (i := i) (by omega)
                rw [wa_eq HG.out hlt hkl] at v1
                rw [tk_end HG.out hkl] at v2
                rw [tk_end HG.out hlt] at v3
                cases g1 : bef h i k
                · rw [g1] at v1
                  go_wp2
                  go_roundw
                  case rel =>
                    refine ⟨k + 1, by omega, by omega, by go_num, hB.out, hS.out, hT.out, ?_⟩
                    intro k' q1 q2 q3 q4
                    rcases Nat.lt_succ_iff_lt_or_eq.1 q2 with q | rfl
                    · first | exact hd.out k' q1 q q3 q4 | trivial
                    · simp_all
                  case measure => simp [intOf]; omega
                · rw [g1] at v1
                  cases g2 : taken h many k
                  · rw [g2] at v2
                    go_wp2
                    go_roundw
                    case rel =>
                      refine ⟨k + 1, by omega, by omega, by go_num, hB.out, hS.out, hT.out, ?_⟩
                      intro k' q1 q2 q3 q4
                      rcases Nat.lt_succ_iff_lt_or_eq.1 q2 with q | rfl
                      · first | exact hd.out k' q1 q q3 q4 | trivial
                      · simp_all
                    case measure => simp [intOf]; omega
                  · rw [g2] at v2
                    cases g3 : taken h many i
                    · rw [g3] at v3
                      have E : Hid (rcB h many = false) := CT.out i k (by omega) hkl g1 g2 g3
                      go_wp2
                      go_ret2
                      refine ⟨?_, hB.out⟩
                      rw [E.out, MC.out]
                      rfl
                    · rw [g3] at v3
                      go_wp2
                      go_roundw
                      case rel =>
                        refine ⟨k + 1, by omega, by omega, by go_num, hB.out, hS.out, hT.out, ?_⟩
                        intro k' q1 q2 q3 q4
                        rcases Nat.lt_succ_iff_lt_or_eq.1 q2 with q | rfl
                        · first | exact hd.out k' q1 q q3 q4 | trivial
                        · simp_all
                      case measure => simp [intOf]; omega
              · have : k = len := by omega
                subst this
                go_wp2
                go_roundw
                case rel =>
                  refine ⟨i + 1, by omega, by go_num, hB.out, hS.out, hT.out, ?_⟩
                  intro i' k' q1 q2 q3 q4 q5
                  rcases Nat.lt_succ_iff_lt_or_eq.1 q1 with q | rfl
                  · exact hc.out i' k' q q2 q3 q4 q5
                  · exact hd.out k' q2 q3 q4 q5
                case measure => simp [intOf]; omega
          · have : i = len := by omega
            subst this
            have E : Hid (rcB h many = true) := CT1.out (fun i' k q1 q2 => hc.out i' k (by omega) q1 q2)
            go_wp2
            go_ret2
            refine ⟨?_, hB.out⟩
            rw [E.out, MC.out]
            rfl
  · have hn' : ((n : Int) != 5) = true := by simp; omega
    have MC : Hid (manyC h many = 3) := manyC_three (by rw [hx.1]; exact hn)
    clear hv hg hx hn
    go_enter Tryd.func19, Tryd.ntmps19
    go_wp2
    go_ret2
    refine ⟨?_, Below.refl _ _⟩
    rw [rcB, MC.out]
    rfl
end Go.Proofs.YtcmfhlegpgmakaaDoor.His
