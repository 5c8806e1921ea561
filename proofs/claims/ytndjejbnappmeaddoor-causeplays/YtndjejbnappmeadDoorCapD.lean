/-
  Contract of package cause's check: what is wrong with a word that comes.
-/
import Derived.Test.YtndjejbnappmeadDoorCapC
namespace Go.Proofs.YtndjejbnappmeadDoor.Cap
open Go.RowKit Go.Maps
open Go.Proofs.YtndjejbnappmeadDoor.Cau
open Go.Proofs.YtndjejbnappmeadDoor.Vec (code Vw anyP ret_bool)
open Go.Proofs.YtndjejbnappmeadDoor.Fif (own_lt own_block own_mono own_vw own_form Kp info_int)
set_option linter.unusedVariables false
variable {base P mb : Nat} {me : Int} {K : List Int} {cn : Int} {es : List En}

/-- a word in a variable of the call's own -/
def SB (w : World) (B : Nat) (who word : Int) (v : Value) : Prop := B < w.heap.size ∧ w.cell? ⟨B, 0, none⟩ = some (.int .i64 who) ∧ w.cell? ⟨B, 1, none⟩ = some (.int .i64 word) ∧ w.cell? ⟨B, 2, none⟩ = some v
theorem SB.later {w w' : World} {B : Nat} {who word : Int} {v : Value} (h : SB w B who word v) (hb : Below w.heap.size w w') : SB w' B who word v :=
  ⟨Nat.lt_of_lt_of_le h.1 hb.size, (hb.cell (p := ⟨B, 0, none⟩) h.1).trans h.2.1, (hb.cell (p := ⟨B, 1, none⟩) h.1).trans h.2.2.1, (hb.cell (p := ⟨B, 2, none⟩) h.1).trans h.2.2.2⟩
theorem SB.new (w : World) (who word : Int) (v : Value) : SB (w.alloc (.cells #[.int .i64 who, .int .i64 word, v] 35)) w.heap.size who word v := ⟨by simp, by go_cell, by go_cell, by go_cell⟩

set_option maxRecDepth 100000 in
theorem check_mem (who word : Int) (q : Option Addr) (len cap : Nat) (w : World) (h : who < 0 ∨ 4 < who) :
    Calls Tryd.prog 20 #[.pointer (some ⟨P, 0, none⟩), .agg #[.int .i64 who, .int .i64 word, .slice q len cap]] w fun e w' => e = .returned (.iface 50 (.int .i64 1)) ∧ Below w.heap.size w w' := by
  go_enter Tryd.func20, Tryd.ntmps20
  go_wp2_with fail
  refine (member_no who _ h).mono ?_
  rintro e w1 ⟨rfl, rfl⟩
  go_wp2
  go_ret
  exact ⟨rfl, (Below.refl _ _).alloc (Nat.le_refl _) _⟩

set_option maxRecDepth 100000 in
theorem check_word (who word : Int) (q : Option Addr) (len cap : Nat) (w : World) (h0 : 0 ≤ who) (h4 : who ≤ 4) (h : word < 1 ∨ 30 < word) :
    Calls Tryd.prog 20 #[.pointer (some ⟨P, 0, none⟩), .agg #[.int .i64 who, .int .i64 word, .slice q len cap]] w fun e w' => e = .returned (.iface 50 (.int .i64 1)) ∧ Below w.heap.size w w' := by
  go_enter Tryd.func20, Tryd.ntmps20
  go_wp2_with fail
  refine (member_yes who _ h0 h4).mono ?_
  rintro e w1 ⟨rfl, rfl⟩
  go_wp2_with fail
  refine (word_no word _ h).mono ?_
  rintro e w1 ⟨rfl, rfl⟩
  go_wp2
  go_ret
  exact ⟨rfl, (Below.refl _ _).alloc (Nat.le_refl _) _⟩

set_option maxRecDepth 100000 in
theorem check_clk (who word : Int) (q : Option Addr) (len cap : Nat) (clk : List Int) (w : World) (h0 : 0 ≤ who) (h4 : who ≤ 4) (h1 : 1 ≤ word) (h30 : word ≤ 30) (hv : Vw w q len clk) (hc : code clk ≠ 0) :
    Calls Tryd.prog 20 #[.pointer (some ⟨P, 0, none⟩), .agg #[.int .i64 who, .int .i64 word, .slice q len cap]] w fun e w' => e = .returned (.iface 50 (.int .i64 (code clk))) ∧ Below w.heap.size w w' := by
  obtain ⟨W, eW⟩ : ∃ W, W = w.alloc (.cells #[.int .i64 who, .int .i64 word, .slice q len cap] 35) := ⟨_, rfl⟩
  have BW : Hid (Below w.heap.size w W) := by rw [eW]; exact (Below.refl _ _).alloc (Nat.le_refl _) _
  have SW : Hid (SB W w.heap.size who word (.slice q len cap)) := by rw [eW]; exact SB.new w who word _
  have HV : Hid (Vw W q len clk) := hv.later BW.out
  clear hv
  go_enter Tryd.func20, Tryd.ntmps20
  go_wp2_with fail
  refine (member_yes who _ h0 h4).mono ?_
  rintro e w1 ⟨rfl, rfl⟩
  go_wp2_with fail
  refine (word_yes word _ h1 h30).mono ?_
  rintro e w1 ⟨rfl, rfl⟩
  rw [← eW]
  obtain ⟨_, s0, s1, s2⟩ := SW.out
  clear eW
  go_wp2_with fail
  refine (Vec.check_no q len cap clk W HV.out hc).mono ?_
  rintro e w1 ⟨rfl, hb⟩
  have B1 : Hid (Below w.heap.size w w1) := BW.out.trans (hb.mono BW.out.size)
  clear hb
  go_wp2
  go_ret
  exact ⟨rfl, B1.out⟩

set_option maxRecDepth 100000 in
set_option maxHeartbeats 1000000 in
theorem check_own (m g off cap : Nat) (word : Int) (clk : List Int) (w : World) (gf : CF w base P mb me K cn es) (hm : m < 5) (h1 : 1 ≤ word) (h30 : word ≤ 30) (hv : Vw w (some ⟨g, off, none⟩) 5 clk) (hc : code clk = 0) (hme : (m : Int) = me) :
    Calls Tryd.prog 20 #[.pointer (some ⟨P, 0, none⟩), .agg #[.int .i64 (m : Int), .int .i64 word, .slice (some ⟨g, off, none⟩) 5 cap]] w fun e w' => e = .returned (.iface 50 (.int .i64 3)) ∧ Below w.heap.size w w' := by
  obtain ⟨W, eW⟩ : ∃ W, W = w.alloc (.cells #[.int .i64 (m : Int), .int .i64 word, .slice (some ⟨g, off, none⟩) 5 cap] 35) := ⟨_, rfl⟩
  have BW : Hid (Below w.heap.size w W) := by rw [eW]; exact (Below.refl _ _).alloc (Nat.le_refl _) _
  have SW : Hid (SB W w.heap.size (m : Int) word (.slice (some ⟨g, off, none⟩) 5 cap)) := by rw [eW]; exact SB.new w (m : Int) word _
  have HV : Hid (Vw W (some ⟨g, off, none⟩) 5 clk) := hv.later BW.out
  have HG : Hid (CF w base P mb me K cn es) := gf
  have HK : Hid (0 ≤ clk.getD m 0 ∧ clk.getD m 0 ≤ 1000000) := (code_num hc).2 m hm
  obtain ⟨n, en⟩ : ∃ n, n = clk.getD m 0 := ⟨_, rfl⟩
  have EN : Hid (n = clk.getD m 0) := en
  clear hv gf en
  have hq : ((m : Int) == me) = true := by rw [hme]; simp
  clear hme
  go_enter Tryd.func20, Tryd.ntmps20
  go_wp2_with fail
  refine (member_yes (m : Int) _ (by omega) (by omega)).mono ?_
  rintro e w1 ⟨rfl, rfl⟩
  go_wp2_with fail
  refine (word_yes word _ h1 h30).mono ?_
  rintro e w1 ⟨rfl, rfl⟩
  rw [← eW]
  obtain ⟨_, s0, s1, s2⟩ := SW.out
  clear eW
  go_wp2_with fail
  refine (Vec.check_ok (some ⟨g, off, none⟩) 5 cap clk W HV.out hc).mono ?_
  rintro e w1 ⟨rfl, hb⟩
  have B1 : Hid (Below w.heap.size w w1) := BW.out.trans (hb.mono BW.out.size)
  have S1 : Hid (SB w1 w.heap.size (m : Int) word (.slice (some ⟨g, off, none⟩) 5 cap)) := SW.out.later hb
  have V1 : Hid (Vw w1 (some ⟨g, off, none⟩) 5 clk) := HV.out.later hb
  obtain ⟨_, r0, r1, r2⟩ := S1.out
  clear hb s0 s1 s2
  go_wp2_with fail
  refine (place_any m g off cap word clk w1 hm V1.out).mono ?_
  rintro e w2 ⟨rfl, hb⟩
  rw [← EN.out]
  obtain ⟨W3, eW3⟩ : ∃ W3, W3 = w2.alloc (.cells #[.int .i64 (m : Int), .int .i64 n] 62) := ⟨_, rfl⟩
  have B2 : Hid (Below w.heap.size w w2) := B1.out.trans (hb.mono B1.out.size)
  have B3 : Hid (Below w2.heap.size w2 W3) := by rw [eW3]; exact (Below.refl _ _).alloc (Nat.le_refl _) _
  have B3' : Hid (Below w.heap.size w W3) := B2.out.trans (B3.out.mono B2.out.size)
  have S3 : Hid (SB W3 w.heap.size (m : Int) word (.slice (some ⟨g, off, none⟩) 5 cap)) := (S1.out.later hb).later B3.out
  have V3 : Hid (Vw W3 (some ⟨g, off, none⟩) 5 clk) := (V1.out.later hb).later B3.out
  have G3 : Hid (CF W3 base P mb me K cn es) := HG.out.later B3'.out
  have p0 : W3.cell? ⟨w2.heap.size, 0, none⟩ = some (.int .i64 (m : Int)) := by rw [eW3]; go_cell
  have p1 : W3.cell? ⟨w2.heap.size, 1, none⟩ = some (.int .i64 n) := by rw [eW3]; go_cell
  have P3 : Hid (w2.heap.size < W3.heap.size) := (by rw [eW3]; simp : w2.heap.size < W3.heap.size)
  obtain ⟨c0, z0⟩ := G3.out.who
  obtain ⟨_, t0, t1, t2⟩ := S3.out
  clear hb r0 r1 r2
  go_wp2_with fail
  rw [← eW3]
  clear eW3
  go_quiet (fail)
  go_wp2
  go_ret
  exact ⟨rfl, below_drews B3'.out _⟩

set_option maxRecDepth 100000 in
set_option maxHeartbeats 1000000 in
theorem check_nil (m g off cap : Nat) (word : Int) (clk : List Int) (w : World) (gf : CF w base P mb me K cn es) (hm : m < 5) (h1 : 1 ≤ word) (h30 : word ≤ 30) (hv : Vw w (some ⟨g, off, none⟩) 5 clk) (hc : code clk = 0) (hme : ¬ (m : Int) = me) (hn : clk.getD m 0 = 0) :
    Calls Tryd.prog 20 #[.pointer (some ⟨P, 0, none⟩), .agg #[.int .i64 (m : Int), .int .i64 word, .slice (some ⟨g, off, none⟩) 5 cap]] w fun e w' => e = .returned (.iface 50 (.int .i64 1)) ∧ Below w.heap.size w w' := by
  obtain ⟨W, eW⟩ : ∃ W, W = w.alloc (.cells #[.int .i64 (m : Int), .int .i64 word, .slice (some ⟨g, off, none⟩) 5 cap] 35) := ⟨_, rfl⟩
  have BW : Hid (Below w.heap.size w W) := by rw [eW]; exact (Below.refl _ _).alloc (Nat.le_refl _) _
  have SW : Hid (SB W w.heap.size (m : Int) word (.slice (some ⟨g, off, none⟩) 5 cap)) := by rw [eW]; exact SB.new w (m : Int) word _
  have HV : Hid (Vw W (some ⟨g, off, none⟩) 5 clk) := hv.later BW.out
  have HG : Hid (CF w base P mb me K cn es) := gf
  have HK : Hid (0 ≤ clk.getD m 0 ∧ clk.getD m 0 ≤ 1000000) := (code_num hc).2 m hm
  obtain ⟨n, en⟩ : ∃ n, n = clk.getD m 0 := ⟨_, rfl⟩
  have EN : Hid (n = clk.getD m 0) := en
  clear hv gf en
  have hq : ((m : Int) == me) = false := by simp [hme]
  have hn0 : (n == 0) = true := by rw [EN.out, hn]; rfl
  go_enter Tryd.func20, Tryd.ntmps20
  go_wp2_with fail
  refine (member_yes (m : Int) _ (by omega) (by omega)).mono ?_
  rintro e w1 ⟨rfl, rfl⟩
  go_wp2_with fail
  refine (word_yes word _ h1 h30).mono ?_
  rintro e w1 ⟨rfl, rfl⟩
  rw [← eW]
  obtain ⟨_, s0, s1, s2⟩ := SW.out
  clear eW
  go_wp2_with fail
  refine (Vec.check_ok (some ⟨g, off, none⟩) 5 cap clk W HV.out hc).mono ?_
  rintro e w1 ⟨rfl, hb⟩
  have B1 : Hid (Below w.heap.size w w1) := BW.out.trans (hb.mono BW.out.size)
  have S1 : Hid (SB w1 w.heap.size (m : Int) word (.slice (some ⟨g, off, none⟩) 5 cap)) := SW.out.later hb
  have V1 : Hid (Vw w1 (some ⟨g, off, none⟩) 5 clk) := HV.out.later hb
  obtain ⟨_, r0, r1, r2⟩ := S1.out
  clear hb s0 s1 s2
  go_wp2_with fail
  refine (place_any m g off cap word clk w1 hm V1.out).mono ?_
  rintro e w2 ⟨rfl, hb⟩
  rw [← EN.out]
  obtain ⟨W3, eW3⟩ : ∃ W3, W3 = w2.alloc (.cells #[.int .i64 (m : Int), .int .i64 n] 62) := ⟨_, rfl⟩
  have B2 : Hid (Below w.heap.size w w2) := B1.out.trans (hb.mono B1.out.size)
  have B3 : Hid (Below w2.heap.size w2 W3) := by rw [eW3]; exact (Below.refl _ _).alloc (Nat.le_refl _) _
  have B3' : Hid (Below w.heap.size w W3) := B2.out.trans (B3.out.mono B2.out.size)
  have S3 : Hid (SB W3 w.heap.size (m : Int) word (.slice (some ⟨g, off, none⟩) 5 cap)) := (S1.out.later hb).later B3.out
  have V3 : Hid (Vw W3 (some ⟨g, off, none⟩) 5 clk) := (V1.out.later hb).later B3.out
  have G3 : Hid (CF W3 base P mb me K cn es) := HG.out.later B3'.out
  have p0 : W3.cell? ⟨w2.heap.size, 0, none⟩ = some (.int .i64 (m : Int)) := by rw [eW3]; go_cell
  have p1 : W3.cell? ⟨w2.heap.size, 1, none⟩ = some (.int .i64 n) := by rw [eW3]; go_cell
  have P3 : Hid (w2.heap.size < W3.heap.size) := (by rw [eW3]; simp : w2.heap.size < W3.heap.size)
  obtain ⟨c0, z0⟩ := G3.out.who
  obtain ⟨_, t0, t1, t2⟩ := S3.out
  clear hb r0 r1 r2
  go_wp2_with fail
  rw [← eW3]
  clear eW3
  go_quiet (fail)
  go_wp2
  go_ret
  exact ⟨rfl, below_drews B3'.out _⟩

set_option maxRecDepth 100000 in
set_option maxHeartbeats 1000000 in
theorem check_old (m g off cap : Nat) (word : Int) (clk : List Int) (w : World) (gf : CF w base P mb me K cn es) (hm : m < 5) (h1 : 1 ≤ word) (h30 : word ≤ 30) (hv : Vw w (some ⟨g, off, none⟩) 5 clk) (hc : code clk = 0) (hme : ¬ (m : Int) = me) (hn : ¬ clk.getD m 0 = 0) (hno : ∀ e ∈ es, kl (m : Int) (clk.getD m 0) ≠ e.key) (hle : clk.getD m 0 ≤ K.getD m 0) :
    Calls Tryd.prog 20 #[.pointer (some ⟨P, 0, none⟩), .agg #[.int .i64 (m : Int), .int .i64 word, .slice (some ⟨g, off, none⟩) 5 cap]] w fun e w' => e = .returned (.iface 50 (.int .i64 7)) ∧ Below w.heap.size w w' := by
  obtain ⟨W, eW⟩ : ∃ W, W = w.alloc (.cells #[.int .i64 (m : Int), .int .i64 word, .slice (some ⟨g, off, none⟩) 5 cap] 35) := ⟨_, rfl⟩
  have BW : Hid (Below w.heap.size w W) := by rw [eW]; exact (Below.refl _ _).alloc (Nat.le_refl _) _
  have SW : Hid (SB W w.heap.size (m : Int) word (.slice (some ⟨g, off, none⟩) 5 cap)) := by rw [eW]; exact SB.new w (m : Int) word _
  have HV : Hid (Vw W (some ⟨g, off, none⟩) 5 clk) := hv.later BW.out
  have HG : Hid (CF w base P mb me K cn es) := gf
  have HK : Hid (0 ≤ clk.getD m 0 ∧ clk.getD m 0 ≤ 1000000) := (code_num hc).2 m hm
  obtain ⟨n, en⟩ : ∃ n, n = clk.getD m 0 := ⟨_, rfl⟩
  have EN : Hid (n = clk.getD m 0) := en
  clear hv gf en
  have hq : ((m : Int) == me) = false := by simp [hme]
  have hn0 : (n == 0) = false := by rw [EN.out]; simpa using hn
  go_enter Tryd.func20, Tryd.ntmps20
  go_wp2_with fail
  refine (member_yes (m : Int) _ (by omega) (by omega)).mono ?_
  rintro e w1 ⟨rfl, rfl⟩
  go_wp2_with fail
  refine (word_yes word _ h1 h30).mono ?_
  rintro e w1 ⟨rfl, rfl⟩
  rw [← eW]
  obtain ⟨_, s0, s1, s2⟩ := SW.out
  clear eW
  go_wp2_with fail
  refine (Vec.check_ok (some ⟨g, off, none⟩) 5 cap clk W HV.out hc).mono ?_
  rintro e w1 ⟨rfl, hb⟩
  have B1 : Hid (Below w.heap.size w w1) := BW.out.trans (hb.mono BW.out.size)
  have S1 : Hid (SB w1 w.heap.size (m : Int) word (.slice (some ⟨g, off, none⟩) 5 cap)) := SW.out.later hb
  have V1 : Hid (Vw w1 (some ⟨g, off, none⟩) 5 clk) := HV.out.later hb
  obtain ⟨_, r0, r1, r2⟩ := S1.out
  clear hb s0 s1 s2
  go_wp2_with fail
  refine (place_any m g off cap word clk w1 hm V1.out).mono ?_
  rintro e w2 ⟨rfl, hb⟩
  rw [← EN.out]
  obtain ⟨W3, eW3⟩ : ∃ W3, W3 = w2.alloc (.cells #[.int .i64 (m : Int), .int .i64 n] 62) := ⟨_, rfl⟩
  have B2 : Hid (Below w.heap.size w w2) := B1.out.trans (hb.mono B1.out.size)
  have B3 : Hid (Below w2.heap.size w2 W3) := by rw [eW3]; exact (Below.refl _ _).alloc (Nat.le_refl _) _
  have B3' : Hid (Below w.heap.size w W3) := B2.out.trans (B3.out.mono B2.out.size)
  have S3 : Hid (SB W3 w.heap.size (m : Int) word (.slice (some ⟨g, off, none⟩) 5 cap)) := (S1.out.later hb).later B3.out
  have V3 : Hid (Vw W3 (some ⟨g, off, none⟩) 5 clk) := (V1.out.later hb).later B3.out
  have G3 : Hid (CF W3 base P mb me K cn es) := HG.out.later B3'.out
  have p0 : W3.cell? ⟨w2.heap.size, 0, none⟩ = some (.int .i64 (m : Int)) := by rw [eW3]; go_cell
  have p1 : W3.cell? ⟨w2.heap.size, 1, none⟩ = some (.int .i64 n) := by rw [eW3]; go_cell
  have P3 : Hid (w2.heap.size < W3.heap.size) := (by rw [eW3]; simp : w2.heap.size < W3.heap.size)
  obtain ⟨c0, z0⟩ := G3.out.who
  obtain ⟨_, t0, t1, t2⟩ := S3.out
  clear hb r0 r1 r2
  go_wp2_with fail
  rw [← eW3]
  clear eW3
  go_quiet (fail)
  go_wp2_with fail
  obtain ⟨W4, eW4⟩ : ∃ W4, W4 = W3.drewN nq := ⟨_, rfl⟩
  rw [← eW4]
  have B4 : Hid (Below w.heap.size w W4) := by rw [eW4]; exact below_drews B3'.out _
  have S4 : Hid (SB W4 w.heap.size (m : Int) word (.slice (some ⟨g, off, none⟩) 5 cap)) := by rw [eW4]; exact S3.out
  have V4 : Hid (Vw W4 (some ⟨g, off, none⟩) 5 clk) := by rw [eW4]; exact V3.out
  have G4 : Hid (CF W4 base P mb me K cn es) := HG.out.later B4.out
  have p0 : W4.cell? ⟨w2.heap.size, 0, none⟩ = some (.int .i64 (m : Int)) := by rw [eW4]; exact p0
  have p1 : W4.cell? ⟨w2.heap.size, 1, none⟩ = some (.int .i64 n) := by rw [eW4]; exact p1
  clear eW4 c0 z0 t0 t1 t2
  go_wp2_with fail
  refine (come_yes1 m n W4 G4.out hm (by rw [EN.out]; exact hno) (by rw [EN.out]; exact HK.out) (by rw [EN.out]; exact hle)).mono ?_
  rintro e w5 ⟨rfl, hb⟩
  have B5 : Hid (Below w.heap.size w w5) := B4.out.trans (hb.mono B4.out.size)
  clear hb
  go_wp2
  go_ret
  exact ⟨rfl, B5.out⟩

set_option maxRecDepth 100000 in
set_option maxHeartbeats 1000000 in
theorem check_waits (m g off cap : Nat) (word : Int) (clk : List Int) (w : World) (gf : CF w base P mb me K cn es) (hm : m < 5) (h1 : 1 ≤ word) (h30 : word ≤ 30) (hv : Vw w (some ⟨g, off, none⟩) 5 clk) (hc : code clk = 0) (hme : ¬ (m : Int) = me) (hn : ¬ clk.getD m 0 = 0) (e0 : En) (he : e0 ∈ es) (ha : e0.s.1 = (m : Int)) (hb0 : e0.n = clk.getD m 0) :
    Calls Tryd.prog 20 #[.pointer (some ⟨P, 0, none⟩), .agg #[.int .i64 (m : Int), .int .i64 word, .slice (some ⟨g, off, none⟩) 5 cap]] w fun e w' => e = .returned (.iface 50 (.int .i64 7)) ∧ Below w.heap.size w w' := by
  obtain ⟨W, eW⟩ : ∃ W, W = w.alloc (.cells #[.int .i64 (m : Int), .int .i64 word, .slice (some ⟨g, off, none⟩) 5 cap] 35) := ⟨_, rfl⟩
  have BW : Hid (Below w.heap.size w W) := by rw [eW]; exact (Below.refl _ _).alloc (Nat.le_refl _) _
  have SW : Hid (SB W w.heap.size (m : Int) word (.slice (some ⟨g, off, none⟩) 5 cap)) := by rw [eW]; exact SB.new w (m : Int) word _
  have HV : Hid (Vw W (some ⟨g, off, none⟩) 5 clk) := hv.later BW.out
  have HG : Hid (CF w base P mb me K cn es) := gf
  have HK : Hid (0 ≤ clk.getD m 0 ∧ clk.getD m 0 ≤ 1000000) := (code_num hc).2 m hm
  obtain ⟨n, en⟩ : ∃ n, n = clk.getD m 0 := ⟨_, rfl⟩
  have EN : Hid (n = clk.getD m 0) := en
  clear hv gf en
  have hq : ((m : Int) == me) = false := by simp [hme]
  have hn0 : (n == 0) = false := by rw [EN.out]; simpa using hn
  have HE : Hid (e0 ∈ es ∧ e0.s.1 = (m : Int) ∧ e0.n = n) := ⟨he, ha, by rw [EN.out]; exact hb0⟩
  clear he ha hb0
  go_enter Tryd.func20, Tryd.ntmps20
  go_wp2_with fail
  refine (member_yes (m : Int) _ (by omega) (by omega)).mono ?_
  rintro e w1 ⟨rfl, rfl⟩
  go_wp2_with fail
  refine (word_yes word _ h1 h30).mono ?_
  rintro e w1 ⟨rfl, rfl⟩
  rw [← eW]
  obtain ⟨_, s0, s1, s2⟩ := SW.out
  clear eW
  go_wp2_with fail
  refine (Vec.check_ok (some ⟨g, off, none⟩) 5 cap clk W HV.out hc).mono ?_
  rintro e w1 ⟨rfl, hb⟩
  have B1 : Hid (Below w.heap.size w w1) := BW.out.trans (hb.mono BW.out.size)
  have S1 : Hid (SB w1 w.heap.size (m : Int) word (.slice (some ⟨g, off, none⟩) 5 cap)) := SW.out.later hb
  have V1 : Hid (Vw w1 (some ⟨g, off, none⟩) 5 clk) := HV.out.later hb
  obtain ⟨_, r0, r1, r2⟩ := S1.out
  clear hb s0 s1 s2
  go_wp2_with fail
  refine (place_any m g off cap word clk w1 hm V1.out).mono ?_
  rintro e w2 ⟨rfl, hb⟩
  rw [← EN.out]
  obtain ⟨W3, eW3⟩ : ∃ W3, W3 = w2.alloc (.cells #[.int .i64 (m : Int), .int .i64 n] 62) := ⟨_, rfl⟩
  have B2 : Hid (Below w.heap.size w w2) := B1.out.trans (hb.mono B1.out.size)
  have B3 : Hid (Below w2.heap.size w2 W3) := by rw [eW3]; exact (Below.refl _ _).alloc (Nat.le_refl _) _
  have B3' : Hid (Below w.heap.size w W3) := B2.out.trans (B3.out.mono B2.out.size)
  have S3 : Hid (SB W3 w.heap.size (m : Int) word (.slice (some ⟨g, off, none⟩) 5 cap)) := (S1.out.later hb).later B3.out
  have V3 : Hid (Vw W3 (some ⟨g, off, none⟩) 5 clk) := (V1.out.later hb).later B3.out
  have G3 : Hid (CF W3 base P mb me K cn es) := HG.out.later B3'.out
  have p0 : W3.cell? ⟨w2.heap.size, 0, none⟩ = some (.int .i64 (m : Int)) := by rw [eW3]; go_cell
  have p1 : W3.cell? ⟨w2.heap.size, 1, none⟩ = some (.int .i64 n) := by rw [eW3]; go_cell
  have P3 : Hid (w2.heap.size < W3.heap.size) := (by rw [eW3]; simp : w2.heap.size < W3.heap.size)
  obtain ⟨c0, z0⟩ := G3.out.who
  obtain ⟨_, t0, t1, t2⟩ := S3.out
  clear hb r0 r1 r2
  go_wp2_with fail
  rw [← eW3]
  clear eW3
  go_quiet (fail)
  go_wp2_with fail
  obtain ⟨W4, eW4⟩ : ∃ W4, W4 = W3.drewN nq := ⟨_, rfl⟩
  rw [← eW4]
  have B4 : Hid (Below w.heap.size w W4) := by rw [eW4]; exact below_drews B3'.out _
  have S4 : Hid (SB W4 w.heap.size (m : Int) word (.slice (some ⟨g, off, none⟩) 5 cap)) := by rw [eW4]; exact S3.out
  have V4 : Hid (Vw W4 (some ⟨g, off, none⟩) 5 clk) := by rw [eW4]; exact V3.out
  have G4 : Hid (CF W4 base P mb me K cn es) := HG.out.later B4.out
  have p0 : W4.cell? ⟨w2.heap.size, 0, none⟩ = some (.int .i64 (m : Int)) := by rw [eW4]; exact p0
  have p1 : W4.cell? ⟨w2.heap.size, 1, none⟩ = some (.int .i64 n) := by rw [eW4]; exact p1
  clear eW4 c0 z0 t0 t1 t2
  go_wp2_with fail
  refine (show Calls Tryd.prog 27 #[.pointer (some ⟨P, 0, none⟩), .agg #[.int .i64 (m : Int), .int .i64 n]] W4 fun e w' => e = .returned (.bool true) ∧ Below W4.heap.size W4 w' by have q := come_yes2 e0 W4 G4.out HE.out.1; rw [HE.out.2.1, HE.out.2.2] at q; exact q).mono ?_
  rintro e w5 ⟨rfl, hb⟩
  have B5 : Hid (Below w.heap.size w w5) := B4.out.trans (hb.mono B4.out.size)
  clear hb
  go_wp2
  go_ret
  exact ⟨rfl, B5.out⟩

set_option maxRecDepth 100000 in
set_option maxHeartbeats 1000000 in
theorem check_room (m g off cap : Nat) (word : Int) (clk : List Int) (w : World) (gf : CF w base P mb me K cn es) (hm : m < 5) (h1 : 1 ≤ word) (h30 : word ≤ 30) (hv : Vw w (some ⟨g, off, none⟩) 5 clk) (hc : code clk = 0) (hme : ¬ (m : Int) = me) (hn : ¬ clk.getD m 0 = 0) (hno : ∀ e ∈ es, kl (m : Int) (clk.getD m 0) ≠ e.key) (hlt : K.getD m 0 < clk.getD m 0) (hl : es.length < 40) :
    Calls Tryd.prog 20 #[.pointer (some ⟨P, 0, none⟩), .agg #[.int .i64 (m : Int), .int .i64 word, .slice (some ⟨g, off, none⟩) 5 cap]] w fun e w' => e = .returned (.nilIface) ∧ Below w.heap.size w w' := by
  obtain ⟨W, eW⟩ : ∃ W, W = w.alloc (.cells #[.int .i64 (m : Int), .int .i64 word, .slice (some ⟨g, off, none⟩) 5 cap] 35) := ⟨_, rfl⟩
  have BW : Hid (Below w.heap.size w W) := by rw [eW]; exact (Below.refl _ _).alloc (Nat.le_refl _) _
  have SW : Hid (SB W w.heap.size (m : Int) word (.slice (some ⟨g, off, none⟩) 5 cap)) := by rw [eW]; exact SB.new w (m : Int) word _
  have HV : Hid (Vw W (some ⟨g, off, none⟩) 5 clk) := hv.later BW.out
  have HG : Hid (CF w base P mb me K cn es) := gf
  have HK : Hid (0 ≤ clk.getD m 0 ∧ clk.getD m 0 ≤ 1000000) := (code_num hc).2 m hm
  obtain ⟨n, en⟩ : ∃ n, n = clk.getD m 0 := ⟨_, rfl⟩
  have EN : Hid (n = clk.getD m 0) := en
  clear hv gf en
  have hq : ((m : Int) == me) = false := by simp [hme]
  have hn0 : (n == 0) = false := by rw [EN.out]; simpa using hn
  have hl40 : decide ((40 : Int) ≤ (es.length : Int)) = false := by simp; omega
  go_enter Tryd.func20, Tryd.ntmps20
  go_wp2_with fail
  refine (member_yes (m : Int) _ (by omega) (by omega)).mono ?_
  rintro e w1 ⟨rfl, rfl⟩
  go_wp2_with fail
  refine (word_yes word _ h1 h30).mono ?_
  rintro e w1 ⟨rfl, rfl⟩
  rw [← eW]
  obtain ⟨_, s0, s1, s2⟩ := SW.out
  clear eW
  go_wp2_with fail
  refine (Vec.check_ok (some ⟨g, off, none⟩) 5 cap clk W HV.out hc).mono ?_
  rintro e w1 ⟨rfl, hb⟩
  have B1 : Hid (Below w.heap.size w w1) := BW.out.trans (hb.mono BW.out.size)
  have S1 : Hid (SB w1 w.heap.size (m : Int) word (.slice (some ⟨g, off, none⟩) 5 cap)) := SW.out.later hb
  have V1 : Hid (Vw w1 (some ⟨g, off, none⟩) 5 clk) := HV.out.later hb
  obtain ⟨_, r0, r1, r2⟩ := S1.out
  clear hb s0 s1 s2
  go_wp2_with fail
  refine (place_any m g off cap word clk w1 hm V1.out).mono ?_
  rintro e w2 ⟨rfl, hb⟩
  rw [← EN.out]
  obtain ⟨W3, eW3⟩ : ∃ W3, W3 = w2.alloc (.cells #[.int .i64 (m : Int), .int .i64 n] 62) := ⟨_, rfl⟩
  have B2 : Hid (Below w.heap.size w w2) := B1.out.trans (hb.mono B1.out.size)
  have B3 : Hid (Below w2.heap.size w2 W3) := by rw [eW3]; exact (Below.refl _ _).alloc (Nat.le_refl _) _
  have B3' : Hid (Below w.heap.size w W3) := B2.out.trans (B3.out.mono B2.out.size)
  have S3 : Hid (SB W3 w.heap.size (m : Int) word (.slice (some ⟨g, off, none⟩) 5 cap)) := (S1.out.later hb).later B3.out
  have V3 : Hid (Vw W3 (some ⟨g, off, none⟩) 5 clk) := (V1.out.later hb).later B3.out
  have G3 : Hid (CF W3 base P mb me K cn es) := HG.out.later B3'.out
  have p0 : W3.cell? ⟨w2.heap.size, 0, none⟩ = some (.int .i64 (m : Int)) := by rw [eW3]; go_cell
  have p1 : W3.cell? ⟨w2.heap.size, 1, none⟩ = some (.int .i64 n) := by rw [eW3]; go_cell
  have P3 : Hid (w2.heap.size < W3.heap.size) := (by rw [eW3]; simp : w2.heap.size < W3.heap.size)
  obtain ⟨c0, z0⟩ := G3.out.who
  obtain ⟨_, t0, t1, t2⟩ := S3.out
  clear hb r0 r1 r2
  go_wp2_with fail
  rw [← eW3]
  clear eW3
  go_quiet (fail)
  go_wp2_with fail
  obtain ⟨W4, eW4⟩ : ∃ W4, W4 = W3.drewN nq := ⟨_, rfl⟩
  rw [← eW4]
  have B4 : Hid (Below w.heap.size w W4) := by rw [eW4]; exact below_drews B3'.out _
  have S4 : Hid (SB W4 w.heap.size (m : Int) word (.slice (some ⟨g, off, none⟩) 5 cap)) := by rw [eW4]; exact S3.out
  have V4 : Hid (Vw W4 (some ⟨g, off, none⟩) 5 clk) := by rw [eW4]; exact V3.out
  have G4 : Hid (CF W4 base P mb me K cn es) := HG.out.later B4.out
  have p0 : W4.cell? ⟨w2.heap.size, 0, none⟩ = some (.int .i64 (m : Int)) := by rw [eW4]; exact p0
  have p1 : W4.cell? ⟨w2.heap.size, 1, none⟩ = some (.int .i64 n) := by rw [eW4]; exact p1
  clear eW4 c0 z0 t0 t1 t2
  go_wp2_with fail
  refine (come_no m n W4 G4.out hm (by rw [EN.out]; exact HK.out) (by rw [EN.out]; exact hno) (by rw [EN.out]; exact hlt)).mono ?_
  rintro e w5 ⟨rfl, hb⟩
  have B5 : Hid (Below w.heap.size w w5) := B4.out.trans (hb.mono B4.out.size)
  have S5 : Hid (SB w5 w.heap.size (m : Int) word (.slice (some ⟨g, off, none⟩) 5 cap)) := S4.out.later hb
  have V5 : Hid (Vw w5 (some ⟨g, off, none⟩) 5 clk) := V4.out.later hb
  have G5 : Hid (CF w5 base P mb me K cn es) := HG.out.later B5.out
  obtain ⟨c7, z7⟩ := G5.out.wait
  obtain ⟨_, t0, t1, t2⟩ := S5.out
  have hlen := fun ty => G5.out.len ty w5 rfl
  clear hb p0 p1
  go_wp2
  go_ret
  exact ⟨rfl, B5.out⟩

set_option maxRecDepth 100000 in
set_option maxHeartbeats 1000000 in
theorem check_full (m g off cap : Nat) (word : Int) (clk : List Int) (w : World) (gf : CF w base P mb me K cn es) (hm : m < 5) (h1 : 1 ≤ word) (h30 : word ≤ 30) (hv : Vw w (some ⟨g, off, none⟩) 5 clk) (hc : code clk = 0) (hme : ¬ (m : Int) = me) (hn : ¬ clk.getD m 0 = 0) (hno : ∀ e ∈ es, kl (m : Int) (clk.getD m 0) ≠ e.key) (hlt : K.getD m 0 < clk.getD m 0) (hl : 40 ≤ es.length) (hr : rdy K ((m : Int), word, clk) = false) :
    Calls Tryd.prog 20 #[.pointer (some ⟨P, 0, none⟩), .agg #[.int .i64 (m : Int), .int .i64 word, .slice (some ⟨g, off, none⟩) 5 cap]] w fun e w' => e = .returned (.iface 50 (.int .i64 4)) ∧ Below w.heap.size w w' := by
  obtain ⟨W, eW⟩ : ∃ W, W = w.alloc (.cells #[.int .i64 (m : Int), .int .i64 word, .slice (some ⟨g, off, none⟩) 5 cap] 35) := ⟨_, rfl⟩
  have BW : Hid (Below w.heap.size w W) := by rw [eW]; exact (Below.refl _ _).alloc (Nat.le_refl _) _
  have SW : Hid (SB W w.heap.size (m : Int) word (.slice (some ⟨g, off, none⟩) 5 cap)) := by rw [eW]; exact SB.new w (m : Int) word _
  have HV : Hid (Vw W (some ⟨g, off, none⟩) 5 clk) := hv.later BW.out
  have HG : Hid (CF w base P mb me K cn es) := gf
  have HK : Hid (0 ≤ clk.getD m 0 ∧ clk.getD m 0 ≤ 1000000) := (code_num hc).2 m hm
  obtain ⟨n, en⟩ : ∃ n, n = clk.getD m 0 := ⟨_, rfl⟩
  have EN : Hid (n = clk.getD m 0) := en
  clear hv gf en
  have hq : ((m : Int) == me) = false := by simp [hme]
  have hn0 : (n == 0) = false := by rw [EN.out]; simpa using hn
  have hl40 : decide ((40 : Int) ≤ (es.length : Int)) = true := by simp; omega
  go_enter Tryd.func20, Tryd.ntmps20
  go_wp2_with fail
  refine (member_yes (m : Int) _ (by omega) (by omega)).mono ?_
  rintro e w1 ⟨rfl, rfl⟩
  go_wp2_with fail
  refine (word_yes word _ h1 h30).mono ?_
  rintro e w1 ⟨rfl, rfl⟩
  rw [← eW]
  obtain ⟨_, s0, s1, s2⟩ := SW.out
  clear eW
  go_wp2_with fail
  refine (Vec.check_ok (some ⟨g, off, none⟩) 5 cap clk W HV.out hc).mono ?_
  rintro e w1 ⟨rfl, hb⟩
  have B1 : Hid (Below w.heap.size w w1) := BW.out.trans (hb.mono BW.out.size)
  have S1 : Hid (SB w1 w.heap.size (m : Int) word (.slice (some ⟨g, off, none⟩) 5 cap)) := SW.out.later hb
  have V1 : Hid (Vw w1 (some ⟨g, off, none⟩) 5 clk) := HV.out.later hb
  obtain ⟨_, r0, r1, r2⟩ := S1.out
  clear hb s0 s1 s2
  go_wp2_with fail
  refine (place_any m g off cap word clk w1 hm V1.out).mono ?_
  rintro e w2 ⟨rfl, hb⟩
  rw [← EN.out]
  obtain ⟨W3, eW3⟩ : ∃ W3, W3 = w2.alloc (.cells #[.int .i64 (m : Int), .int .i64 n] 62) := ⟨_, rfl⟩
  have B2 : Hid (Below w.heap.size w w2) := B1.out.trans (hb.mono B1.out.size)
  have B3 : Hid (Below w2.heap.size w2 W3) := by rw [eW3]; exact (Below.refl _ _).alloc (Nat.le_refl _) _
  have B3' : Hid (Below w.heap.size w W3) := B2.out.trans (B3.out.mono B2.out.size)
  have S3 : Hid (SB W3 w.heap.size (m : Int) word (.slice (some ⟨g, off, none⟩) 5 cap)) := (S1.out.later hb).later B3.out
  have V3 : Hid (Vw W3 (some ⟨g, off, none⟩) 5 clk) := (V1.out.later hb).later B3.out
  have G3 : Hid (CF W3 base P mb me K cn es) := HG.out.later B3'.out
  have p0 : W3.cell? ⟨w2.heap.size, 0, none⟩ = some (.int .i64 (m : Int)) := by rw [eW3]; go_cell
  have p1 : W3.cell? ⟨w2.heap.size, 1, none⟩ = some (.int .i64 n) := by rw [eW3]; go_cell
  have P3 : Hid (w2.heap.size < W3.heap.size) := (by rw [eW3]; simp : w2.heap.size < W3.heap.size)
  obtain ⟨c0, z0⟩ := G3.out.who
  obtain ⟨_, t0, t1, t2⟩ := S3.out
  clear hb r0 r1 r2
  go_wp2_with fail
  rw [← eW3]
  clear eW3
  go_quiet (fail)
  go_wp2_with fail
  obtain ⟨W4, eW4⟩ : ∃ W4, W4 = W3.drewN nq := ⟨_, rfl⟩
  rw [← eW4]
  have B4 : Hid (Below w.heap.size w W4) := by rw [eW4]; exact below_drews B3'.out _
  have S4 : Hid (SB W4 w.heap.size (m : Int) word (.slice (some ⟨g, off, none⟩) 5 cap)) := by rw [eW4]; exact S3.out
  have V4 : Hid (Vw W4 (some ⟨g, off, none⟩) 5 clk) := by rw [eW4]; exact V3.out
  have G4 : Hid (CF W4 base P mb me K cn es) := HG.out.later B4.out
  have p0 : W4.cell? ⟨w2.heap.size, 0, none⟩ = some (.int .i64 (m : Int)) := by rw [eW4]; exact p0
  have p1 : W4.cell? ⟨w2.heap.size, 1, none⟩ = some (.int .i64 n) := by rw [eW4]; exact p1
  clear eW4 c0 z0 t0 t1 t2
  go_wp2_with fail
  refine (come_no m n W4 G4.out hm (by rw [EN.out]; exact HK.out) (by rw [EN.out]; exact hno) (by rw [EN.out]; exact hlt)).mono ?_
  rintro e w5 ⟨rfl, hb⟩
  have B5 : Hid (Below w.heap.size w w5) := B4.out.trans (hb.mono B4.out.size)
  have S5 : Hid (SB w5 w.heap.size (m : Int) word (.slice (some ⟨g, off, none⟩) 5 cap)) := S4.out.later hb
  have V5 : Hid (Vw w5 (some ⟨g, off, none⟩) 5 clk) := V4.out.later hb
  have G5 : Hid (CF w5 base P mb me K cn es) := HG.out.later B5.out
  obtain ⟨c7, z7⟩ := G5.out.wait
  obtain ⟨_, t0, t1, t2⟩ := S5.out
  have hlen := fun ty => G5.out.len ty w5 rfl
  clear hb p0 p1
  go_wp2_with fail
  refine (ready_any P m g off cap K clk word w5 hm G5.out.k5 V5.out).mono ?_
  rintro e w6 ⟨rfl, hb⟩
  rw [hr]
  have B6 : Hid (Below w.heap.size w w6) := B5.out.trans (hb.mono B5.out.size)
  clear hb
  go_wp2
  go_ret
  exact ⟨rfl, B6.out⟩

set_option maxRecDepth 100000 in
set_option maxHeartbeats 1000000 in
theorem check_next (m g off cap : Nat) (word : Int) (clk : List Int) (w : World) (gf : CF w base P mb me K cn es) (hm : m < 5) (h1 : 1 ≤ word) (h30 : word ≤ 30) (hv : Vw w (some ⟨g, off, none⟩) 5 clk) (hc : code clk = 0) (hme : ¬ (m : Int) = me) (hn : ¬ clk.getD m 0 = 0) (hno : ∀ e ∈ es, kl (m : Int) (clk.getD m 0) ≠ e.key) (hlt : K.getD m 0 < clk.getD m 0) (hl : 40 ≤ es.length) (hr : rdy K ((m : Int), word, clk) = true) :
    Calls Tryd.prog 20 #[.pointer (some ⟨P, 0, none⟩), .agg #[.int .i64 (m : Int), .int .i64 word, .slice (some ⟨g, off, none⟩) 5 cap]] w fun e w' => e = .returned (.nilIface) ∧ Below w.heap.size w w' := by
  obtain ⟨W, eW⟩ : ∃ W, W = w.alloc (.cells #[.int .i64 (m : Int), .int .i64 word, .slice (some ⟨g, off, none⟩) 5 cap] 35) := ⟨_, rfl⟩
  have BW : Hid (Below w.heap.size w W) := by rw [eW]; exact (Below.refl _ _).alloc (Nat.le_refl _) _
  have SW : Hid (SB W w.heap.size (m : Int) word (.slice (some ⟨g, off, none⟩) 5 cap)) := by rw [eW]; exact SB.new w (m : Int) word _
  have HV : Hid (Vw W (some ⟨g, off, none⟩) 5 clk) := hv.later BW.out
  have HG : Hid (CF w base P mb me K cn es) := gf
  have HK : Hid (0 ≤ clk.getD m 0 ∧ clk.getD m 0 ≤ 1000000) := (code_num hc).2 m hm
  obtain ⟨n, en⟩ : ∃ n, n = clk.getD m 0 := ⟨_, rfl⟩
  have EN : Hid (n = clk.getD m 0) := en
  clear hv gf en
  have hq : ((m : Int) == me) = false := by simp [hme]
  have hn0 : (n == 0) = false := by rw [EN.out]; simpa using hn
  have hl40 : decide ((40 : Int) ≤ (es.length : Int)) = true := by simp; omega
  go_enter Tryd.func20, Tryd.ntmps20
  go_wp2_with fail
  refine (member_yes (m : Int) _ (by omega) (by omega)).mono ?_
  rintro e w1 ⟨rfl, rfl⟩
  go_wp2_with fail
  refine (word_yes word _ h1 h30).mono ?_
  rintro e w1 ⟨rfl, rfl⟩
  rw [← eW]
  obtain ⟨_, s0, s1, s2⟩ := SW.out
  clear eW
  go_wp2_with fail
  refine (Vec.check_ok (some ⟨g, off, none⟩) 5 cap clk W HV.out hc).mono ?_
  rintro e w1 ⟨rfl, hb⟩
  have B1 : Hid (Below w.heap.size w w1) := BW.out.trans (hb.mono BW.out.size)
  have S1 : Hid (SB w1 w.heap.size (m : Int) word (.slice (some ⟨g, off, none⟩) 5 cap)) := SW.out.later hb
  have V1 : Hid (Vw w1 (some ⟨g, off, none⟩) 5 clk) := HV.out.later hb
  obtain ⟨_, r0, r1, r2⟩ := S1.out
  clear hb s0 s1 s2
  go_wp2_with fail
  refine (place_any m g off cap word clk w1 hm V1.out).mono ?_
  rintro e w2 ⟨rfl, hb⟩
  rw [← EN.out]
  obtain ⟨W3, eW3⟩ : ∃ W3, W3 = w2.alloc (.cells #[.int .i64 (m : Int), .int .i64 n] 62) := ⟨_, rfl⟩
  have B2 : Hid (Below w.heap.size w w2) := B1.out.trans (hb.mono B1.out.size)
  have B3 : Hid (Below w2.heap.size w2 W3) := by rw [eW3]; exact (Below.refl _ _).alloc (Nat.le_refl _) _
  have B3' : Hid (Below w.heap.size w W3) := B2.out.trans (B3.out.mono B2.out.size)
  have S3 : Hid (SB W3 w.heap.size (m : Int) word (.slice (some ⟨g, off, none⟩) 5 cap)) := (S1.out.later hb).later B3.out
  have V3 : Hid (Vw W3 (some ⟨g, off, none⟩) 5 clk) := (V1.out.later hb).later B3.out
  have G3 : Hid (CF W3 base P mb me K cn es) := HG.out.later B3'.out
  have p0 : W3.cell? ⟨w2.heap.size, 0, none⟩ = some (.int .i64 (m : Int)) := by rw [eW3]; go_cell
  have p1 : W3.cell? ⟨w2.heap.size, 1, none⟩ = some (.int .i64 n) := by rw [eW3]; go_cell
  have P3 : Hid (w2.heap.size < W3.heap.size) := (by rw [eW3]; simp : w2.heap.size < W3.heap.size)
  obtain ⟨c0, z0⟩ := G3.out.who
  obtain ⟨_, t0, t1, t2⟩ := S3.out
  clear hb r0 r1 r2
  go_wp2_with fail
  rw [← eW3]
  clear eW3
  go_quiet (fail)
  go_wp2_with fail
  obtain ⟨W4, eW4⟩ : ∃ W4, W4 = W3.drewN nq := ⟨_, rfl⟩
  rw [← eW4]
  have B4 : Hid (Below w.heap.size w W4) := by rw [eW4]; exact below_drews B3'.out _
  have S4 : Hid (SB W4 w.heap.size (m : Int) word (.slice (some ⟨g, off, none⟩) 5 cap)) := by rw [eW4]; exact S3.out
  have V4 : Hid (Vw W4 (some ⟨g, off, none⟩) 5 clk) := by rw [eW4]; exact V3.out
  have G4 : Hid (CF W4 base P mb me K cn es) := HG.out.later B4.out
  have p0 : W4.cell? ⟨w2.heap.size, 0, none⟩ = some (.int .i64 (m : Int)) := by rw [eW4]; exact p0
  have p1 : W4.cell? ⟨w2.heap.size, 1, none⟩ = some (.int .i64 n) := by rw [eW4]; exact p1
  clear eW4 c0 z0 t0 t1 t2
  go_wp2_with fail
  refine (come_no m n W4 G4.out hm (by rw [EN.out]; exact HK.out) (by rw [EN.out]; exact hno) (by rw [EN.out]; exact hlt)).mono ?_
  rintro e w5 ⟨rfl, hb⟩
  have B5 : Hid (Below w.heap.size w w5) := B4.out.trans (hb.mono B4.out.size)
  have S5 : Hid (SB w5 w.heap.size (m : Int) word (.slice (some ⟨g, off, none⟩) 5 cap)) := S4.out.later hb
  have V5 : Hid (Vw w5 (some ⟨g, off, none⟩) 5 clk) := V4.out.later hb
  have G5 : Hid (CF w5 base P mb me K cn es) := HG.out.later B5.out
  obtain ⟨c7, z7⟩ := G5.out.wait
  obtain ⟨_, t0, t1, t2⟩ := S5.out
  have hlen := fun ty => G5.out.len ty w5 rfl
  clear hb p0 p1
  go_wp2_with fail
  refine (ready_any P m g off cap K clk word w5 hm G5.out.k5 V5.out).mono ?_
  rintro e w6 ⟨rfl, hb⟩
  rw [hr]
  have B6 : Hid (Below w.heap.size w w6) := B5.out.trans (hb.mono B5.out.size)
  clear hb
  go_wp2
  go_ret
  exact ⟨rfl, B6.out⟩

theorem same_key {m : Nat} {word : Int} {clk : List Int} (hm : m < 5) (hc : code clk = 0) (ok : ∀ e ∈ es, SdOk e.s) : (es.map En.s).any (same ((m : Int), word, clk)) = true ↔ ∃ e ∈ es, e.s.1 = (m : Int) ∧ e.n = clk.getD m 0 := by
  rw [List.any_eq_true]
  constructor
  · rintro ⟨s, hs, h⟩
    obtain ⟨e, he, rfl⟩ := List.mem_map.1 hs
    have h1 : e.s.1 = (m : Int) ∧ e.s.2.2.getD m 0 = clk.getD m 0 := by simpa [same] using h
    refine ⟨e, he, h1.1, ?_⟩
    rw [En.n, h1.1]
    exact h1.2
  · rintro ⟨e, he, h1, h2⟩
    refine ⟨e.s, List.mem_map.2 ⟨e, he, rfl⟩, ?_⟩
    rw [En.n, h1] at h2
    have h3 : e.s.2.2.getD m 0 = clk.getD m 0 := h2
    simpa [same, h1] using h3
theorem key_iff {m : Nat} {n : Int} (hm : m < 5) (hn : 0 ≤ n ∧ n ≤ 1000000) {e : En} (ok : SdOk e.s) : kl (m : Int) n = e.key ↔ e.s.1 = (m : Int) ∧ e.n = n := by
  constructor
  · intro h
    have := kl_inj (okK_of (by omega) (by omega)) (En.okK ok) h
    exact ⟨this.1.symm, this.2.symm⟩
  · rintro ⟨h1, h2⟩
    rw [En.key, h1, h2]
theorem check_any (who word : Int) (q : Option Addr) (len cap : Nat) (clk : List Int) (w : World) (g : CF w base P mb me K cn es) (hv : Vw w q len clk) :
    Calls Tryd.prog 20 #[.pointer (some ⟨P, 0, none⟩), .agg #[.int .i64 who, .int .i64 word, .slice q len cap]] w fun e w' => e = .returned (errF (ckC me K (es.map En.s) (who, word, clk))) ∧ Below w.heap.size w w' := by
  by_cases h1 : who < 0 ∨ 4 < who
  · have hk : ckC me K (es.map En.s) (who, word, clk) = 1 := by
      unfold ckC
      rw [if_pos]
      simp [sdBad]; omega
    rw [hk, errF_no (by decide)]
    exact check_mem who word q len cap w h1
  by_cases h2 : word < 1 ∨ 30 < word
  · have hk : ckC me K (es.map En.s) (who, word, clk) = 1 := by
      unfold ckC
      rw [if_pos]
      simp [sdBad]; omega
    rw [hk, errF_no (by decide)]
    exact check_word who word q len cap w (by omega) (by omega) h2
  have hb : ¬ sdBad (who, word, clk) = true := by simp [sdBad]; omega
  by_cases h3 : code clk = 0
  · obtain ⟨m, rfl⟩ : ∃ m : Nat, who = (m : Int) := ⟨who.toNat, by omega⟩
    have hm : m < 5 := by omega
    have h5 : len = 5 := by rw [← hv.1]; exact (code_num h3).1
    subst h5
    obtain ⟨b, off, rfl, _⟩ := hv.2 (by omega)
    have hnn := (code_num h3).2 m hm
    have h3' : ¬ code ((m : Int), word, clk).2.2 ≠ 0 := fun q => q h3
    have e1 : ((m : Int), word, clk).2.2.getD ((m : Int), word, clk).1.toNat 0 = clk.getD m 0 := by simp
    have e2 : K.getD ((m : Int), word, clk).1.toNat 0 = K.getD m 0 := by simp
    have e3 : ckC me K (es.map En.s) ((m : Int), word, clk) = if (m : Int) = me then 3 else if clk.getD m 0 = 0 then 1 else if clk.getD m 0 ≤ K.getD m 0 then 7 else if (es.map En.s).any (same ((m : Int), word, clk)) = true then 7 else if rdy K ((m : Int), word, clk) = false ∧ 40 ≤ (es.map En.s).length then 4 else 0 := by
      unfold ckC
      rw [if_neg hb, if_neg h3', e1, e2]
    rw [e3, List.length_map]
    by_cases h4 : (m : Int) = me
    · rw [if_pos h4, errF_no (by decide)]
      exact check_own m b off cap word clk w g hm (by omega) (by omega) hv h3 h4
    rw [if_neg h4]
    by_cases h5 : clk.getD m 0 = 0
    · rw [if_pos h5, errF_no (by decide)]
      exact check_nil m b off cap word clk w g hm (by omega) (by omega) hv h3 h4 h5
    rw [if_neg h5]
    by_cases h7 : ∃ e ∈ es, e.s.1 = (m : Int) ∧ e.n = clk.getD m 0
    · obtain ⟨e, he, ha, hb0⟩ := h7
      have h7' := (same_key (word := word) hm h3 g.ok).2 ⟨e, he, ha, hb0⟩
      rw [if_pos h7', ite_self, errF_no (by decide)]
      exact check_waits m b off cap word clk w g hm (by omega) (by omega) hv h3 h4 h5 e he ha hb0
    have h7' : ¬ (es.map En.s).any (same ((m : Int), word, clk)) = true := fun q => h7 ((same_key hm h3 g.ok).1 q)
    have hno : ∀ e ∈ es, kl (m : Int) (clk.getD m 0) ≠ e.key := fun e he q => h7 ⟨e, he, (key_iff hm hnn (g.ok e he)).1 q⟩
    by_cases h6 : clk.getD m 0 ≤ K.getD m 0
    · rw [if_pos h6, errF_no (by decide)]
      exact check_old m b off cap word clk w g hm (by omega) (by omega) hv h3 h4 h5 hno h6
    rw [if_neg h6, if_neg h7']
    by_cases h8 : 40 ≤ es.length
    · cases hr : rdy K ((m : Int), word, clk)
      · rw [if_pos ⟨rfl, h8⟩, errF_no (by decide)]
        exact check_full m b off cap word clk w g hm (by omega) (by omega) hv h3 h4 h5 hno (by omega) h8 hr
      · rw [if_neg (by simp), errF_ok]
        exact check_next m b off cap word clk w g hm (by omega) (by omega) hv h3 h4 h5 hno (by omega) h8 hr
    · rw [if_neg (fun q => h8 q.2), errF_ok]
      exact check_room m b off cap word clk w g hm (by omega) (by omega) hv h3 h4 h5 hno (by omega) (by omega)
  · have hk : ckC me K (es.map En.s) (who, word, clk) = code clk := by
      unfold ckC
      rw [if_neg hb]
      exact if_pos h3
    rw [hk, errF_no h3]
    exact check_clk who word q len cap clk w (by omega) (by omega) (by omega) (by omega) hv h3

end Go.Proofs.YtndjejbnappmeadDoor.Cap
