/-
  Contracts of package cause's hasCome and check: what is wrong with a word that comes.
-/
import Derived.Test.YtndjejbnappmeadDoorCapT
namespace Go.Proofs.YtndjejbnappmeadDoor.Cap
open Go.RowKit Go.Maps
open Go.Proofs.YtndjejbnappmeadDoor.Cau
open Go.Proofs.YtndjejbnappmeadDoor.Vec (code Vw anyP ret_bool)
open Go.Proofs.YtndjejbnappmeadDoor.Fif (own_lt own_block own_mono own_vw own_form Kp info_int)
set_option linter.unusedVariables false
variable {base P mb : Nat} {me : Int} {K : List Int} {cn : Int} {es : List En}

set_option maxRecDepth 100000 in
theorem come_no (m : Nat) (n : Int) (w : World) (g : CF w base P mb me K cn es) (hm : m < 5) (hn : 0 ≤ n ∧ n ≤ 1000000) (h1 : ∀ e ∈ es, kl (m : Int) n ≠ e.key) (h2 : K.getD m 0 < n) :
    Calls Tryd.prog 27 #[.pointer (some ⟨P, 0, none⟩), .agg #[.int .i64 (m : Int), .int .i64 n]] w fun e w' => e = .returned (.bool false) ∧ Below w.heap.size w w' := by
  obtain ⟨W, eW⟩ : ∃ W, W = w.alloc (.cells #[.int .i64 (m : Int), .int .i64 n] 62) := ⟨_, rfl⟩
  have BW : Hid (Below w.heap.size w W) := by rw [eW]; exact (Below.refl _ _).alloc (Nat.le_refl _) _
  have GW : Hid (CF W base P mb me K cn es) := g.later BW.out
  have s0 : W.cell? ⟨w.heap.size, 0, none⟩ = some (.int .i64 (m : Int)) := by rw [eW]; go_cell
  have s1 : W.cell? ⟨w.heap.size, 1, none⟩ = some (.int .i64 n) := by rw [eW]; go_cell
  have hlk := GW.out.look_none (a := (m : Int)) (b := n) (okK_of (by omega) (by omega)) h1
  have hlk1 := hlk W.drew rfl
  have hlk2 := hlk (W.alloc (.cells #[.int .i64 0, .int .i64 0, .int .i64 0, .slice none 0 0] 60)).drew (((Below.refl W.heap.size W).alloc (Nat.le_refl _) _).block mb GW.out.lt.2)
  obtain ⟨c7, z7⟩ := GW.out.wait
  have BA : Hid (Below W.heap.size W (W.alloc (.cells #[.int .i64 0, .int .i64 0, .int .i64 0, .slice none 0 0] 60))) := (Below.refl W.heap.size W).alloc (Nat.le_refl _) _
  have hws : w.heap.size < W.heap.size := by rw [eW]; simp
  have d7 := (BA.out.cell (p := ⟨P, 7, none⟩) GW.out.lt.1).trans c7
  have t0 := (BA.out.cell (p := ⟨w.heap.size, 0, none⟩) hws).trans s0
  have t1 := (BA.out.cell (p := ⟨w.heap.size, 1, none⟩) hws).trans s1
  obtain ⟨cm, zm⟩ := GW.out.clock hm
  obtain ⟨y, ey⟩ : ∃ y, y = K.getD m 0 := ⟨_, rfl⟩
  rw [← ey] at cm h2
  have hd : decide (n ≤ y) = false := by simp; omega
  have hm0 : (0 : Int) ≤ (m : Int) := by omega
  have hm5 : (m : Int) < 5 := by omega
  clear g ey h1 hlk
  go_enter Tryd.func27, Tryd.ntmps27
  go_wp2_with fail
  rw [← eW]
  clear eW
  go_region
  all_goals
    go_wp2_with fail
    obtain ⟨W3, eW3⟩ : ∃ W3, W3 = (W.alloc (.cells #[.int .i64 0, .int .i64 0, .int .i64 0, .slice none 0 0] 60)).drew := ⟨_, rfl⟩
    rw [← eW3]
    have B3 : Hid (Below W.heap.size W W3) := by rw [eW3]; exact BA.out.drew
    have x0 := (B3.out.cell (p := ⟨w.heap.size, 0, none⟩) hws).trans s0
    have x1 := (B3.out.cell (p := ⟨w.heap.size, 1, none⟩) hws).trans s1
    have xm := (B3.out.cell (p := ⟨P, 1 + m, none⟩) GW.out.lt.1).trans cm
    have HB : Hid (Below w.heap.size w W3) := BW.out.trans (B3.out.mono BW.out.size)
    clear eW3 hlk1 hlk2 d7 t0 t1 c7 z7 BA cm zm s0 s1
    go_quiet (fail)
    go_wp2
    go_ret
    exact ⟨rfl, below_drews HB.out _⟩
set_option maxRecDepth 100000 in
theorem come_yes1 (m : Nat) (n : Int) (w : World) (g : CF w base P mb me K cn es) (hm : m < 5) (h1 : ∀ e ∈ es, kl (m : Int) n ≠ e.key) (hn : 0 ≤ n ∧ n ≤ 1000000) (h2 : n ≤ K.getD m 0) :
    Calls Tryd.prog 27 #[.pointer (some ⟨P, 0, none⟩), .agg #[.int .i64 (m : Int), .int .i64 n]] w fun e w' => e = .returned (.bool true) ∧ Below w.heap.size w w' := by
  obtain ⟨W, eW⟩ : ∃ W, W = w.alloc (.cells #[.int .i64 (m : Int), .int .i64 n] 62) := ⟨_, rfl⟩
  have BW : Hid (Below w.heap.size w W) := by rw [eW]; exact (Below.refl _ _).alloc (Nat.le_refl _) _
  have GW : Hid (CF W base P mb me K cn es) := g.later BW.out
  have s0 : W.cell? ⟨w.heap.size, 0, none⟩ = some (.int .i64 (m : Int)) := by rw [eW]; go_cell
  have s1 : W.cell? ⟨w.heap.size, 1, none⟩ = some (.int .i64 n) := by rw [eW]; go_cell
  have hlk := GW.out.look_none (a := (m : Int)) (b := n) (okK_of (by omega) (by omega)) h1
  have hlk1 := hlk W.drew rfl
  have hlk2 := hlk (W.alloc (.cells #[.int .i64 0, .int .i64 0, .int .i64 0, .slice none 0 0] 60)).drew (((Below.refl W.heap.size W).alloc (Nat.le_refl _) _).block mb GW.out.lt.2)
  obtain ⟨c7, z7⟩ := GW.out.wait
  have BA : Hid (Below W.heap.size W (W.alloc (.cells #[.int .i64 0, .int .i64 0, .int .i64 0, .slice none 0 0] 60))) := (Below.refl W.heap.size W).alloc (Nat.le_refl _) _
  have hws : w.heap.size < W.heap.size := by rw [eW]; simp
  have d7 := (BA.out.cell (p := ⟨P, 7, none⟩) GW.out.lt.1).trans c7
  have t0 := (BA.out.cell (p := ⟨w.heap.size, 0, none⟩) hws).trans s0
  have t1 := (BA.out.cell (p := ⟨w.heap.size, 1, none⟩) hws).trans s1
  obtain ⟨cm, zm⟩ := GW.out.clock hm
  obtain ⟨y, ey⟩ : ∃ y, y = K.getD m 0 := ⟨_, rfl⟩
  rw [← ey] at cm h2
  have hd : decide (n ≤ y) = true := by simp; omega
  have hm0 : (0 : Int) ≤ (m : Int) := by omega
  have hm5 : (m : Int) < 5 := by omega
  clear g ey h1 hlk
  go_enter Tryd.func27, Tryd.ntmps27
  go_wp2_with fail
  rw [← eW]
  clear eW
  go_region
  all_goals
    go_wp2_with fail
    obtain ⟨W3, eW3⟩ : ∃ W3, W3 = (W.alloc (.cells #[.int .i64 0, .int .i64 0, .int .i64 0, .slice none 0 0] 60)).drew := ⟨_, rfl⟩
    rw [← eW3]
    have B3 : Hid (Below W.heap.size W W3) := by rw [eW3]; exact BA.out.drew
    have x0 := (B3.out.cell (p := ⟨w.heap.size, 0, none⟩) hws).trans s0
    have x1 := (B3.out.cell (p := ⟨w.heap.size, 1, none⟩) hws).trans s1
    have xm := (B3.out.cell (p := ⟨P, 1 + m, none⟩) GW.out.lt.1).trans cm
    have HB : Hid (Below w.heap.size w W3) := BW.out.trans (B3.out.mono BW.out.size)
    clear eW3 hlk1 hlk2 d7 t0 t1 c7 z7 BA cm zm s0 s1
    go_quiet (fail)
    go_wp2
    go_ret
    exact ⟨rfl, below_drews HB.out _⟩
set_option maxRecDepth 100000 in
theorem come_yes2 (e : En) (w : World) (g : CF w base P mb me K cn es) (he : e ∈ es) :
    Calls Tryd.prog 27 #[.pointer (some ⟨P, 0, none⟩), .agg #[.int .i64 e.s.1, .int .i64 e.n]] w fun e w' => e = .returned (.bool true) ∧ Below w.heap.size w w' := by
  obtain ⟨a, ea⟩ : ∃ a, a = e.s.1 := ⟨_, rfl⟩
  obtain ⟨n, en⟩ : ∃ n, n = e.n := ⟨_, rfl⟩
  rw [← ea, ← en]
  obtain ⟨W, eW⟩ : ∃ W, W = w.alloc (.cells #[.int .i64 a, .int .i64 n] 62) := ⟨_, rfl⟩
  have BW : Hid (Below w.heap.size w W) := by rw [eW]; exact (Below.refl _ _).alloc (Nat.le_refl _) _
  have GW : Hid (CF W base P mb me K cn es) := g.later BW.out
  have s0 : W.cell? ⟨w.heap.size, 0, none⟩ = some (.int .i64 a) := by rw [eW]; go_cell
  have s1 : W.cell? ⟨w.heap.size, 1, none⟩ = some (.int .i64 n) := by rw [eW]; go_cell
  obtain ⟨v0, v1, v2, v3, v4, hlk⟩ : ∃ (v0 v1 v2 : Int) (v3 v4 : Nat), ∀ X : World, X.heap[mb]? = W.heap[mb]? → (Instr.lookup 51 (.map (some mb)) (.agg #[.int .i64 a, .int .i64 n]) true).run Tryd.prog X = .ok (.tuple #[.agg #[.int .i64 v0, .int .i64 v1, .int .i64 v2, .slice (some ⟨v3, 0, none⟩) 5 v4], .bool true]) X :=
    ⟨e.t, e.s.1, e.s.2.1, e.g, e.c, fun X hX => by have := GW.out.look_ok he X hX; rw [ea, en]; exact this⟩
  have hlk1 := hlk W.drew rfl
  have hlk2 := hlk (W.alloc (.cells #[.int .i64 0, .int .i64 0, .int .i64 0, .slice none 0 0] 60)).drew (((Below.refl W.heap.size W).alloc (Nat.le_refl _) _).block mb GW.out.lt.2)
  obtain ⟨c7, z7⟩ := GW.out.wait
  have BA : Hid (Below W.heap.size W (W.alloc (.cells #[.int .i64 0, .int .i64 0, .int .i64 0, .slice none 0 0] 60))) := (Below.refl W.heap.size W).alloc (Nat.le_refl _) _
  have hws : w.heap.size < W.heap.size := by rw [eW]; simp
  have d7 := (BA.out.cell (p := ⟨P, 7, none⟩) GW.out.lt.1).trans c7
  have t0 := (BA.out.cell (p := ⟨w.heap.size, 0, none⟩) hws).trans s0
  have t1 := (BA.out.cell (p := ⟨w.heap.size, 1, none⟩) hws).trans s1
  clear g ea en hlk he
  go_enter Tryd.func27, Tryd.ntmps27
  go_wp2_with fail
  rw [← eW]
  clear eW
  go_region
  all_goals
    go_wp2_with fail
    go_quiet (fail)
    go_wp2
    go_ret
    exact ⟨rfl, below_drews (BW.out.alloc BW.out.size _).drew _⟩
end Go.Proofs.YtndjejbnappmeadDoor.Cap
