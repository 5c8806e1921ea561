/-
  Contract of the document's own Befores: one over the other until nothing more comes of it.
-/
import Derived.Test.YtmnjihkllojapabDoorRefB
import Derived.Deep.QuietTactic
import Derived.BigQuiet
namespace Go.Proofs.YtmnjihkllojapabDoor.His
open Go.RowKit

set_option maxRecDepth 100000 in
set_option maxHeartbeats 8000000 in
theorem refBefores (a : Option Addr) (len cap : Nat) (h : List Ev) (w : World) (h60 : len ≤ 60) (hv : Ew w a len h) :
    Calls Tryd.prog 23 #[.slice a len cap] w fun x w' => (∃ c, x = .returned (.agg c) ∧ SqV c (wa h len len)) ∧ Below w.heap.size w w' := by
  have G : Hid (Ew w a len h) := hv
  obtain ⟨Z, hZ⟩ : ∃ Z, Z = Array.replicate 3600 (Value.bool false) := ⟨_, rfl⟩
  have hz := (zero_of_info sqInfo).1
  rw [← hZ] at hz
  have HZ : Hid (Z = Array.replicate 3600 (Value.bool false)) := hZ
  have ZR : Hid (∀ x, x < Z.size → Z[x]? = some (.bool (sq1 h len 0 0 (x / 60) (x % 60)))) := by
    intro x hx
    rw [hZ] at hx ⊢
    rw [sq1_start]
    simp at hx
    simp [hx]
  have ZS : Hid (Z.size = 3600) := by rw [hZ]; exact Array.size_replicate
  clear hv hZ
  go_enter Tryd.func23, Tryd.ntmps23
  go_wp2
  go_loopw [4] (fun x wr => ∃ i : Nat, i ≤ len ∧ x = .int .i64 i ∧ Hid (Below w.heap.size w wr) ∧ Hid (Sq wr (w.heap.size + 1) (sq1 h len i 0)) ∧ Hid (wr.rowIs w.heap.size 57 3600 (fun x => .bool false))) (fun x _ => len - (intOf x).toNat)
  case atStart =>
    refine ⟨0, by omega, rfl, ((Below.refl _ _).alloc (Nat.le_refl _) _).alloc (by simp) _, ?_, ?_⟩
    · have q := World.rowIs_alloc (w.alloc (.cells Z 57)) Z 57 (fun x => .bool (sq1 h len 0 0 (x / 60) (x % 60))) ZR.out
      rw [ZS.out] at q
      simp only [World.size_alloc] at q
      exact q
    · have q := World.rowIs_alloc w Z 57 (fun x => .bool (sq1 h len 0 0 (x / 60) (x % 60))) ZR.out
      rw [ZS.out] at q
      exact (q.congr fun x hx => by rw [sq1_start]).alloc _
  case round =>
    obtain ⟨i, hi, rfl, hbel, hS, hR⟩ := hrel
    by_cases hlt : i < len
    · obtain ⟨b, off, rfl, hpb, hcs⟩ := (G.out.later hbel.out).2 (by omega)
      have hi0 : (0 : Int) ≤ (i : Int) := by omega
      have hil : (i : Int) < (len : Int) := by omega
      have hi60 : (i : Int) < 60 := by omega
      clear hpb hcs hz
      go_wp2
      go_loopw [5] (fun x wi => ∃ k : Nat, i + 1 ≤ k ∧ k ≤ len ∧ x = .int .i64 k ∧ Hid (Below w.heap.size w wi) ∧ Hid (Sq wi (w.heap.size + 1) (sq1 h len i k)) ∧ Hid (wi.rowIs w.heap.size 57 3600 (fun x => .bool false))) (fun x _ => len - (intOf x).toNat)
      case atStart => exact ⟨i + 1, by omega, by omega, by go_num, hbel.out, hS.out.congr (fun x y _ _ => (sq1_row h len i x y).symm), hR.out⟩
      case round =>
        obtain ⟨k, hk1, hk, rfl, hbel', hS', hR'⟩ := hrel
        by_cases hkl : k < len
        · obtain ⟨b', off', eb, hpb, hcs⟩ := (G.out.later hbel'.out).2 (by omega)
          injection eb with eb
          injection eb with eb1 eb2 _
          subst eb1 eb2
          have hk0 : (0 : Int) ≤ (k : Int) := by omega
          have hkl' : (k : Int) < (len : Int) := by omega
          have hk60 : (k : Int) < 60 := by omega
          obtain ⟨c0, c1, c2⟩ := hcs i hlt
          obtain ⟨x0, x1, x2⟩ := hcs k hkl
          have v := hS'.out.cell (i := i) (k := k) (by omega) (by omega)
          have fz := hS'.out.frozen (i * 60 + k)
          obtain ⟨q, eq⟩ : ∃ q, q = ev h i := ⟨_, rfl⟩
          obtain ⟨s, es⟩ : ∃ s, s = ev h k := ⟨_, rfl⟩
          rw [← eq] at c0 c1 c2
          rw [← es] at x0 x1 x2
          obtain ⟨q0, q1, q2⟩ := q
          obtain ⟨s0, s1, s2⟩ := s
          have ED : Hid (edge h i k = (decide (q0 = s0) || (decide (q1 = 2) && decide (s1 = 3) && decide (q2 = s2)))) := by
            show edge h i k = _
            unfold edge
            rw [← eq, ← es, decide_eq_true (show i < k by omega)]
            rfl
          clear hcs hpb eq es
          by_cases g0 : q0 = s0
          · have E1 : Hid (edge h i k = true) := by show edge h i k = true; rw [ED.out]; simp [g0]
            subst g0
            go_wp2
            go_quiet (fail)
            go_wp2
            go_roundw
            case rel =>
              refine ⟨k + 1, by omega, by omega, by go_num, ?_, ?_, ?_⟩
              · exact (below_drewN hbel'.out _).setCell (p := ⟨w.heap.size + 1, _, none⟩) (Nat.le_succ _) _
              · exact (hS'.out.later (below_drewN (Below.refl _ _) _)).set (by omega) (fun x y _ _ => sq1_hit hkl E1.out x y)
              · exact (rowIs_later hR'.out (below_drewN (Below.refl _ _) _)).setOther (a := ⟨w.heap.size + 1, _, none⟩) (Nat.ne_of_lt (Nat.lt_succ_self _)) _
            case measure => simp [intOf]; omega
          · have g0' : (q0 == s0) = false := by simp [g0]
            by_cases g1 : q1 = 2
            · subst g1
              by_cases g2 : s1 = 3
              · subst g2
                by_cases g3 : q2 = s2
                · have E1 : Hid (edge h i k = true) := by show edge h i k = true; rw [ED.out]; simp [g3]
                  subst g3
                  go_wp2
                  go_quiet (fail)
                  go_wp2
                  go_roundw
                  case rel =>
                    refine ⟨k + 1, by omega, by omega, by go_num, ?_, ?_, ?_⟩
                    · exact (below_drewN hbel'.out _).setCell (p := ⟨w.heap.size + 1, _, none⟩) (Nat.le_succ _) _
                    · exact (hS'.out.later (below_drewN (Below.refl _ _) _)).set (by omega) (fun x y _ _ => sq1_hit hkl E1.out x y)
                    · exact (rowIs_later hR'.out (below_drewN (Below.refl _ _) _)).setOther (a := ⟨w.heap.size + 1, _, none⟩) (Nat.ne_of_lt (Nat.lt_succ_self _)) _
                  case measure => simp [intOf]; omega
                · have g3' : (q2 == s2) = false := by simp [g3]
                  have E1 : Hid (edge h i k = false) := by show edge h i k = false; rw [ED.out]; simp [g0, g3]
                  go_wp2
                  go_quiet (fail)
                  go_wp2
                  go_roundw
                  case rel =>
                    refine ⟨k + 1, by omega, by omega, by go_num, ?_, ?_, ?_⟩
                    · exact below_drewN hbel'.out _
                    · exact (hS'.out.later (below_drewN (Below.refl _ _) _)).congr (fun x y _ _ => (sq1_miss E1.out x y).symm)
                    · exact rowIs_later hR'.out (below_drewN (Below.refl _ _) _)
                  case measure => simp [intOf]; omega
              · have g2' : (s1 == 3) = false := by simp [g2]
                have E1 : Hid (edge h i k = false) := by show edge h i k = false; rw [ED.out]; simp [g0, g2]
                go_wp2
                go_quiet (fail)
                go_wp2
                go_roundw
                case rel =>
                  refine ⟨k + 1, by omega, by omega, by go_num, ?_, ?_, ?_⟩
                  · exact below_drewN hbel'.out _
                  · exact (hS'.out.later (below_drewN (Below.refl _ _) _)).congr (fun x y _ _ => (sq1_miss E1.out x y).symm)
                  · exact rowIs_later hR'.out (below_drewN (Below.refl _ _) _)
                case measure => simp [intOf]; omega
            · have g1' : (q1 == 2) = false := by simp [g1]
              have E1 : Hid (edge h i k = false) := by show edge h i k = false; rw [ED.out]; simp [g0, g1]
              go_wp2
              go_quiet (fail)
              go_wp2
              go_roundw
              case rel =>
                refine ⟨k + 1, by omega, by omega, by go_num, ?_, ?_, ?_⟩
                · exact below_drewN hbel'.out _
                · exact (hS'.out.later (below_drewN (Below.refl _ _) _)).congr (fun x y _ _ => (sq1_miss E1.out x y).symm)
                · exact rowIs_later hR'.out (below_drewN (Below.refl _ _) _)
              case measure => simp [intOf]; omega
        · have : k = len := by omega
          subst this
          go_wp2
          go_roundw
          case rel => exact ⟨i + 1, by omega, by go_num, hbel'.out, hS'.out.congr (fun x y _ _ => sq1_next h k i x y), hR'.out⟩
          case measure => simp [intOf]; omega
    · have : i = len := by omega
      subst this
      clear hz
      go_wp2
      go_loopw [6] (fun x wr => ∃ m : Nat, m ≤ i ∧ x = .int .i64 m ∧ Hid (Below w.heap.size w wr) ∧ Hid (Sq wr (w.heap.size + 1) (wa h i m)) ∧ Hid (wr.rowIs w.heap.size 57 3600 (fun x => .bool false))) (fun x _ => i - (intOf x).toNat)
      case atStart => exact ⟨0, by omega, rfl, hbel.out, hS.out.congr (fun x y _ _ => sq1_end h i x y), hR.out⟩
      case round =>
        clear hbel hS hR
        obtain ⟨m, hm, rfl, hbel, hS, hR⟩ := hrel
        by_cases hml : m < i
        · have hm0 : (0 : Int) ≤ (m : Int) := by omega
          have hml' : (m : Int) < (i : Int) := by omega
          have hm60 : (m : Int) < 60 := by omega
          go_wp2
          go_loopw [7] (fun x wr => ∃ j : Nat, j ≤ m ∧ x = .int .i64 j ∧ Hid (Below w.heap.size w wr) ∧ Hid (Sq wr (w.heap.size + 1) (sq2 h i m j 0)) ∧ Hid (wr.rowIs w.heap.size 57 3600 (fun x => .bool false))) (fun x _ => m - (intOf x).toNat)
          case atStart => exact ⟨0, by omega, rfl, hbel.out, hS.out.congr (fun x y _ _ => (sq2_start h i m x y).symm), hR.out⟩
          case round =>
            clear hbel hS hR
            obtain ⟨j, hj, rfl, hbel, hS, hR⟩ := hrel
            by_cases hjm : j < m
            · have hj0 : (0 : Int) ≤ (j : Int) := by omega
              have hjm' : (j : Int) < (m : Int) := by omega
              have hj60 : (j : Int) < 60 := by omega
              go_wp2
              go_loopw [8] (fun x wr => ∃ k : Nat, m + 1 ≤ k ∧ k ≤ i ∧ x = .int .i64 k ∧ Hid (Below w.heap.size w wr) ∧ Hid (Sq wr (w.heap.size + 1) (sq2 h i m j k)) ∧ Hid (wr.rowIs w.heap.size 57 3600 (fun x => .bool false))) (fun x _ => i - (intOf x).toNat)
              case atStart => exact ⟨m + 1, by omega, by omega, by go_num, hbel.out, hS.out.congr (fun x y _ _ => (sq2_row h i m j x y).symm), hR.out⟩
              case round =>
                clear hbel hS hR
                obtain ⟨k, hk1, hk, rfl, hbel, hS, hR⟩ := hrel
                by_cases hki : k < i
                · have hk0 : (0 : Int) ≤ (k : Int) := by omega
                  have hki' : (k : Int) < (i : Int) := by omega
                  have hk60 : (k : Int) < 60 := by omega
                  have v1 := hS.out.cell (i := j) (k := m) (by omega) (by omega)
                  have v2 := hS.out.cell (i := m) (k := k) (by omega) (by omega)
                  have v3 := hS.out.cell (i := j) (k := k) (by omega) (by omega)
                  have fz := hS.out.frozen (j * 60 + k)
                  rw [sq2_col] at v1
                  rw [sq2_rowm] at v2
                  cases g1 : wa h i m j m
                  · rw [g1] at v1
                    go_wp2
                    go_roundw
                    case rel => exact ⟨j + 1, by omega, by go_num, hbel.out, hS.out.congr (fun x y _ _ => sq2_skip g1 x y), hR.out⟩
                    case measure => simp [intOf]; omega
                  · rw [g1] at v1
                    cases g2 : wa h i m m k
                    · rw [g2] at v2
                      go_wp2
                      go_roundw
                      case rel => exact ⟨k + 1, by omega, by omega, by go_num, hbel.out, hS.out.congr (fun x y _ _ => (sq2_miss g2 x y).symm), hR.out⟩
                      case measure => simp [intOf]; omega
                    · rw [g2] at v2
                      go_wp2
                      go_roundw
                      case rel => exact ⟨k + 1, by omega, by omega, by go_num, hbel.out.setCell (p := ⟨w.heap.size + 1, _, none⟩) (Nat.le_succ _) _, hS.out.set (by omega) (fun x y _ _ => sq2_hit g1 g2 x y), hR.out.setOther (a := ⟨w.heap.size + 1, _, none⟩) (Nat.ne_of_lt (Nat.lt_succ_self _)) _⟩
                      case measure => simp [intOf]; omega
                · have : k = i := by omega
                  subst this
                  go_wp2
                  go_roundw
                  case rel => exact ⟨j + 1, by omega, by go_num, hbel.out, hS.out.congr (fun x y _ _ => sq2_next h k m j x y), hR.out⟩
                  case measure => simp [intOf]; omega
            · have : j = m := by omega
              subst this
              go_wp2
              go_roundw
              case rel => exact ⟨j + 1, by omega, by go_num, hbel.out, hS.out.congr (fun x y _ _ => sq2_end h i j x y), hR.out⟩
              case measure => simp [intOf]; omega
        · have : m = i := by omega
          subst this
          obtain ⟨c, hc1, hc2, hc3⟩ := hS.out
          obtain ⟨d, hd1, hd2, hd3⟩ := hR.out
          have C : Hid (SqV c (wa h m m)) := ⟨hc2, hc3⟩
          have hld : (Instr.loadAt 57 (.pointer (some ⟨w.heap.size + 1, 0, none⟩))).run Tryd.prog wr = .ok (.agg c) wr := loadAt_row _ _ _ c hc1 (by rw [sqSize, hc2])
          have hst : (Instr.storeAt 57 (.pointer (some ⟨w.heap.size, 0, none⟩)) (.agg c)).run Tryd.prog wr = .ok () (wr.setRow w.heap.size c) := storeAt_row _ _ _ d c hd1 (by rw [sqSize, hc2]) (hd2.trans hc2.symm) (sq_one C.out)
          have HR' : Hid ((wr.setRow w.heap.size c).heap[w.heap.size]? = some (.cells c 57 (0, 0))) := setRow_same hd1 c
          have HB' : Hid (Below w.heap.size w (wr.setRow w.heap.size c)) := below_setRow hbel.out (Nat.le_refl _) c
          clear hc1 hc2 hc3 hd1 hd2 hd3
          have HLD : Hid _ := hld
          have HST : Hid _ := hst
          clear hld hst
          go_wp2_with (first | refine wpList_load_row rfl 57 (.tmp 3) rfl HLD.out ?_ | refine wpList_store_row rfl 57 (.tmp 2) (.tmp 102) rfl HST.out ?_)
          refine bodyPost_ret (v := .agg c) ?_ rfl ⟨⟨c, rfl, C.out⟩, HB'.out⟩
          have hl2 := run_loadVar_row (P := Tryd.prog) (wr.setRow w.heap.size c) w.heap.size _ 57 c (0, 0) (.array 60 56) HR'.out (by kernel_rfl) rfl (by rw [sqSize, C.out.1])
          refine (results_cell rfl _ _ _).trans ?_
          show ((asAddr (.pointer (some ⟨w.heap.size, 0, none⟩))).run Tryd.prog (wr.setRow w.heap.size c)).andThen _ = _
          simp [asAddr, hl2]
end Go.Proofs.YtmnjihkllojapabDoor.His
