/-
  Texts put together: CapD, CapF, CapH.
-/
import Derived.Test.YtdmniblonikjlakGreatDoorPrC
import Derived.Deep.AppendLies


namespace Go.Proofs.YtdmniblonikjlakGreatDoor.Cap
open Go.RowKit Go.Maps
open Cau
open Vec (code Vw anyP ret_bool)
open Fif (own_lt own_block own_mono own_vw own_form Kp info_int)
set_option linter.unusedVariables false
variable {base P mb:Nat} {me:Int} {K:List Int} {cn:Int} {es:List En}
def SB (w:World) (B:Nat) (who word:Int) (v:Value):Prop := B < w.heap.size ∧ w.cell? ⟨B,0,none⟩ = some (.int .i64 who) ∧ w.cell? ⟨B,1,none⟩ = some (.int .i64 word) ∧ w.cell? ⟨B,2,none⟩ = some v
theorem SB.later {w w':World} {B:Nat} {who word:Int} {v:Value} (h:SB w B who word v) (hb:Below w.heap.size w w'):SB w' B who word v :=
 ⟨Nat.lt_of_lt_of_le h.1 hb.size,(hb.cell (p := ⟨B,0,none⟩) h.1).trans h.2.1,(hb.cell (p := ⟨B,1,none⟩) h.1).trans h.2.2.1,(hb.cell (p := ⟨B,2,none⟩) h.1).trans h.2.2.2⟩
theorem SB.new (w:World) (who word:Int) (v:Value):SB (w.alloc (.cells #[.int .i64 who,.int .i64 word,v] 51)) w.heap.size who word v := ⟨by simp,by go_cell,by go_cell,by go_cell⟩
set_option maxRecDepth 100000 in
theorem check_mem (who word:Int) (q:Option Addr) (len cap:Nat) (w:World) (h:who < 0 ∨ 4 < who) :
  Calls Tryz.prog 84 #[.pointer (some ⟨P,0,none⟩),.agg #[.int .i64 who,.int .i64 word,.slice q len cap]] w fun e w' => e = .returned (.iface 70 (.int .i64 1)) ∧ Below w.heap.size w w' := by
 go_enter Tryz.func84,Tryz.ntmps84
 go_wp2_with fail
 refine (member_no who _ h).mono ?_
 rintro e w1 ⟨rfl,rfl⟩
 go_wp2
 go_ret
 exact ⟨rfl,(Below.refl _ _).alloc (Nat.le_refl _) _⟩
set_option maxRecDepth 100000 in
theorem check_word (who word:Int) (q:Option Addr) (len cap:Nat) (w:World) (h0:0 ≤ who) (h4:who ≤ 4) (h:word < 1 ∨ 30 < word) :
  Calls Tryz.prog 84 #[.pointer (some ⟨P,0,none⟩),.agg #[.int .i64 who,.int .i64 word,.slice q len cap]] w fun e w' => e = .returned (.iface 70 (.int .i64 1)) ∧ Below w.heap.size w w' := by
 go_enter Tryz.func84,Tryz.ntmps84
 go_wp2_with fail
 refine (member_yes who _ h0 h4).mono ?_
 rintro e w1 ⟨rfl,rfl⟩
 go_wp2_with fail
 refine (word_no word _ h).mono ?_
 rintro e w1 ⟨rfl,rfl⟩
 go_wp2
 go_ret
 exact ⟨rfl,(Below.refl _ _).alloc (Nat.le_refl _) _⟩
set_option maxRecDepth 100000 in
theorem check_clk (who word:Int) (q:Option Addr) (len cap:Nat) (clk:List Int) (w:World) (h0:0 ≤ who) (h4:who ≤ 4) (h1:1 ≤ word) (h30:word ≤ 30) (hv:Vw w q len clk) (hc:code clk ≠ 0) :
  Calls Tryz.prog 84 #[.pointer (some ⟨P,0,none⟩),.agg #[.int .i64 who,.int .i64 word,.slice q len cap]] w fun e w' => e = .returned (.iface 70 (.int .i64 (code clk))) ∧ Below w.heap.size w w' := by
 obtain ⟨W,eW⟩:∃ W,W = w.alloc (.cells #[.int .i64 who,.int .i64 word,.slice q len cap] 51) := ⟨_,rfl⟩
 have BW:Hid (Below w.heap.size w W) := by rw [eW]; exact (Below.refl _ _).alloc (Nat.le_refl _) _
 have SW:Hid (SB W w.heap.size who word (.slice q len cap)) := by rw [eW]; exact SB.new w who word _
 have HV:Hid (Vw W q len clk) := hv.later BW.out
 clear hv
 go_enter Tryz.func84,Tryz.ntmps84
 go_wp2_with fail
 refine (member_yes who _ h0 h4).mono ?_
 rintro e w1 ⟨rfl,rfl⟩
 go_wp2_with fail
 refine (word_yes word _ h1 h30).mono ?_
 rintro e w1 ⟨rfl,rfl⟩
 rw [← eW]
 obtain ⟨_,s0,s1,s2⟩ := SW.out
 clear eW
 go_wp2_with fail
 refine (Vec.check_no q len cap clk W HV.out hc).mono ?_
 rintro e w1 ⟨rfl,hb⟩
 have B1:Hid (Below w.heap.size w w1) := BW.out.trans (hb.mono BW.out.size)
 clear hb
 go_wp2
 go_ret
 exact ⟨rfl,B1.out⟩
set_option maxRecDepth 100000 in
set_option maxHeartbeats 1000000 in
theorem check_own (m g off cap:Nat) (word:Int) (clk:List Int) (w:World) (gf:CF w base P mb me K cn es) (hm:m < 5) (h1:1 ≤ word) (h30:word ≤ 30) (hv:Vw w (some ⟨g,off,none⟩) 5 clk) (hc:code clk = 0) (hme:(m:Int) = me) :
  Calls Tryz.prog 84 #[.pointer (some ⟨P,0,none⟩),.agg #[.int .i64 (m:Int),.int .i64 word,.slice (some ⟨g,off,none⟩) 5 cap]] w fun e w' => e = .returned (.iface 70 (.int .i64 3)) ∧ Below w.heap.size w w' := by
 obtain ⟨W,eW⟩:∃ W,W = w.alloc (.cells #[.int .i64 (m:Int),.int .i64 word,.slice (some ⟨g,off,none⟩) 5 cap] 51) := ⟨_,rfl⟩
 have BW:Hid (Below w.heap.size w W) := by rw [eW]; exact (Below.refl _ _).alloc (Nat.le_refl _) _
 have SW:Hid (SB W w.heap.size (m:Int) word (.slice (some ⟨g,off,none⟩) 5 cap)) := by rw [eW]; exact SB.new w (m:Int) word _
 have HV:Hid (Vw W (some ⟨g,off,none⟩) 5 clk) := hv.later BW.out
 have HG:Hid (CF w base P mb me K cn es) := gf
 have HK:Hid (0 ≤ clk.getD m 0 ∧ clk.getD m 0 ≤ 1000000) := (code_num hc).2 m hm
 obtain ⟨n,en⟩:∃ n,n = clk.getD m 0 := ⟨_,rfl⟩
 have EN:Hid (n = clk.getD m 0) := en
 clear hv gf en
 have hq:((m:Int) == me) = true := by rw [hme]; simp
 clear hme
 go_enter Tryz.func84,Tryz.ntmps84
 go_wp2_with fail
 refine (member_yes (m:Int) _ (by omega) (by omega)).mono ?_
 rintro e w1 ⟨rfl,rfl⟩
 go_wp2_with fail
 refine (word_yes word _ h1 h30).mono ?_
 rintro e w1 ⟨rfl,rfl⟩
 rw [← eW]
 obtain ⟨_,s0,s1,s2⟩ := SW.out
 clear eW
 go_wp2_with fail
 refine (Vec.check_ok (some ⟨g,off,none⟩) 5 cap clk W HV.out hc).mono ?_
 rintro e w1 ⟨rfl,hb⟩
 have B1:Hid (Below w.heap.size w w1) := BW.out.trans (hb.mono BW.out.size)
 have S1:Hid (SB w1 w.heap.size (m:Int) word (.slice (some ⟨g,off,none⟩) 5 cap)) := SW.out.later hb
 have V1:Hid (Vw w1 (some ⟨g,off,none⟩) 5 clk) := HV.out.later hb
 obtain ⟨_,r0,r1,r2⟩ := S1.out
 clear hb s0 s1 s2
 go_wp2_with fail
 refine (place_any m g off cap word clk w1 hm V1.out).mono ?_
 rintro e w2 ⟨rfl,hb⟩
 rw [← EN.out]
 obtain ⟨W3,eW3⟩:∃ W3,W3 = w2.alloc (.cells #[.int .i64 (m:Int),.int .i64 n] 166) := ⟨_,rfl⟩
 have B2:Hid (Below w.heap.size w w2) := B1.out.trans (hb.mono B1.out.size)
 have B3:Hid (Below w2.heap.size w2 W3) := by rw [eW3]; exact (Below.refl _ _).alloc (Nat.le_refl _) _
 have B3':Hid (Below w.heap.size w W3) := B2.out.trans (B3.out.mono B2.out.size)
 have S3:Hid (SB W3 w.heap.size (m:Int) word (.slice (some ⟨g,off,none⟩) 5 cap)) := (S1.out.later hb).later B3.out
 have V3:Hid (Vw W3 (some ⟨g,off,none⟩) 5 clk) := (V1.out.later hb).later B3.out
 have G3:Hid (CF W3 base P mb me K cn es) := HG.out.later B3'.out
 have p0:W3.cell? ⟨w2.heap.size,0,none⟩ = some (.int .i64 (m:Int)) := by rw [eW3]; go_cell
 have p1:W3.cell? ⟨w2.heap.size,1,none⟩ = some (.int .i64 n) := by rw [eW3]; go_cell
 have P3:Hid (w2.heap.size < W3.heap.size) := (by rw [eW3]; simp:w2.heap.size < W3.heap.size)
 obtain ⟨c0,z0⟩ := G3.out.who
 obtain ⟨_,t0,t1,t2⟩ := S3.out
 clear hb r0 r1 r2
 go_wp2_with fail
 rw [← eW3]
 clear eW3
 go_quiet (fail)
 go_wp2
 go_ret
 exact ⟨rfl,below_drews B3'.out _⟩
set_option maxRecDepth 100000 in
set_option maxHeartbeats 1000000 in
theorem check_nil (m g off cap:Nat) (word:Int) (clk:List Int) (w:World) (gf:CF w base P mb me K cn es) (hm:m < 5) (h1:1 ≤ word) (h30:word ≤ 30) (hv:Vw w (some ⟨g,off,none⟩) 5 clk) (hc:code clk = 0) (hme:¬ (m:Int) = me) (hn:clk.getD m 0 = 0) :
  Calls Tryz.prog 84 #[.pointer (some ⟨P,0,none⟩),.agg #[.int .i64 (m:Int),.int .i64 word,.slice (some ⟨g,off,none⟩) 5 cap]] w fun e w' => e = .returned (.iface 70 (.int .i64 1)) ∧ Below w.heap.size w w' := by
 obtain ⟨W,eW⟩:∃ W,W = w.alloc (.cells #[.int .i64 (m:Int),.int .i64 word,.slice (some ⟨g,off,none⟩) 5 cap] 51) := ⟨_,rfl⟩
 have BW:Hid (Below w.heap.size w W) := by rw [eW]; exact (Below.refl _ _).alloc (Nat.le_refl _) _
 have SW:Hid (SB W w.heap.size (m:Int) word (.slice (some ⟨g,off,none⟩) 5 cap)) := by rw [eW]; exact SB.new w (m:Int) word _
 have HV:Hid (Vw W (some ⟨g,off,none⟩) 5 clk) := hv.later BW.out
 have HG:Hid (CF w base P mb me K cn es) := gf
 have HK:Hid (0 ≤ clk.getD m 0 ∧ clk.getD m 0 ≤ 1000000) := (code_num hc).2 m hm
 obtain ⟨n,en⟩:∃ n,n = clk.getD m 0 := ⟨_,rfl⟩
 have EN:Hid (n = clk.getD m 0) := en
 clear hv gf en
 have hq:((m:Int) == me) = false := by simp [hme]
 have hn0:(n == 0) = true := by rw [EN.out,hn]; rfl
 go_enter Tryz.func84,Tryz.ntmps84
 go_wp2_with fail
 refine (member_yes (m:Int) _ (by omega) (by omega)).mono ?_
 rintro e w1 ⟨rfl,rfl⟩
 go_wp2_with fail
 refine (word_yes word _ h1 h30).mono ?_
 rintro e w1 ⟨rfl,rfl⟩
 rw [← eW]
 obtain ⟨_,s0,s1,s2⟩ := SW.out
 clear eW
 go_wp2_with fail
 refine (Vec.check_ok (some ⟨g,off,none⟩) 5 cap clk W HV.out hc).mono ?_
 rintro e w1 ⟨rfl,hb⟩
 have B1:Hid (Below w.heap.size w w1) := BW.out.trans (hb.mono BW.out.size)
 have S1:Hid (SB w1 w.heap.size (m:Int) word (.slice (some ⟨g,off,none⟩) 5 cap)) := SW.out.later hb
 have V1:Hid (Vw w1 (some ⟨g,off,none⟩) 5 clk) := HV.out.later hb
 obtain ⟨_,r0,r1,r2⟩ := S1.out
 clear hb s0 s1 s2
 go_wp2_with fail
 refine (place_any m g off cap word clk w1 hm V1.out).mono ?_
 rintro e w2 ⟨rfl,hb⟩
 rw [← EN.out]
 obtain ⟨W3,eW3⟩:∃ W3,W3 = w2.alloc (.cells #[.int .i64 (m:Int),.int .i64 n] 166) := ⟨_,rfl⟩
 have B2:Hid (Below w.heap.size w w2) := B1.out.trans (hb.mono B1.out.size)
 have B3:Hid (Below w2.heap.size w2 W3) := by rw [eW3]; exact (Below.refl _ _).alloc (Nat.le_refl _) _
 have B3':Hid (Below w.heap.size w W3) := B2.out.trans (B3.out.mono B2.out.size)
 have S3:Hid (SB W3 w.heap.size (m:Int) word (.slice (some ⟨g,off,none⟩) 5 cap)) := (S1.out.later hb).later B3.out
 have V3:Hid (Vw W3 (some ⟨g,off,none⟩) 5 clk) := (V1.out.later hb).later B3.out
 have G3:Hid (CF W3 base P mb me K cn es) := HG.out.later B3'.out
 have p0:W3.cell? ⟨w2.heap.size,0,none⟩ = some (.int .i64 (m:Int)) := by rw [eW3]; go_cell
 have p1:W3.cell? ⟨w2.heap.size,1,none⟩ = some (.int .i64 n) := by rw [eW3]; go_cell
 have P3:Hid (w2.heap.size < W3.heap.size) := (by rw [eW3]; simp:w2.heap.size < W3.heap.size)
 obtain ⟨c0,z0⟩ := G3.out.who
 obtain ⟨_,t0,t1,t2⟩ := S3.out
 clear hb r0 r1 r2
 go_wp2_with fail
 rw [← eW3]
 clear eW3
 go_quiet (fail)
 go_wp2
 go_ret
 exact ⟨rfl,below_drews B3'.out _⟩
set_option maxRecDepth 100000 in
set_option maxHeartbeats 1000000 in
theorem check_old (m g off cap:Nat) (word:Int) (clk:List Int) (w:World) (gf:CF w base P mb me K cn es) (hm:m < 5) (h1:1 ≤ word) (h30:word ≤ 30) (hv:Vw w (some ⟨g,off,none⟩) 5 clk) (hc:code clk = 0) (hme:¬ (m:Int) = me) (hn:¬ clk.getD m 0 = 0) (hno:∀ e ∈ es,kl (m:Int) (clk.getD m 0) ≠ e.key) (hle:clk.getD m 0 ≤ K.getD m 0) :
  Calls Tryz.prog 84 #[.pointer (some ⟨P,0,none⟩),.agg #[.int .i64 (m:Int),.int .i64 word,.slice (some ⟨g,off,none⟩) 5 cap]] w fun e w' => e = .returned (.iface 70 (.int .i64 7)) ∧ Below w.heap.size w w' := by
 obtain ⟨W,eW⟩:∃ W,W = w.alloc (.cells #[.int .i64 (m:Int),.int .i64 word,.slice (some ⟨g,off,none⟩) 5 cap] 51) := ⟨_,rfl⟩
 have BW:Hid (Below w.heap.size w W) := by rw [eW]; exact (Below.refl _ _).alloc (Nat.le_refl _) _
 have SW:Hid (SB W w.heap.size (m:Int) word (.slice (some ⟨g,off,none⟩) 5 cap)) := by rw [eW]; exact SB.new w (m:Int) word _
 have HV:Hid (Vw W (some ⟨g,off,none⟩) 5 clk) := hv.later BW.out
 have HG:Hid (CF w base P mb me K cn es) := gf
 have HK:Hid (0 ≤ clk.getD m 0 ∧ clk.getD m 0 ≤ 1000000) := (code_num hc).2 m hm
 obtain ⟨n,en⟩:∃ n,n = clk.getD m 0 := ⟨_,rfl⟩
 have EN:Hid (n = clk.getD m 0) := en
 clear hv gf en
 have hq:((m:Int) == me) = false := by simp [hme]
 have hn0:(n == 0) = false := by rw [EN.out]; simpa using hn
 go_enter Tryz.func84,Tryz.ntmps84
 go_wp2_with fail
 refine (member_yes (m:Int) _ (by omega) (by omega)).mono ?_
 rintro e w1 ⟨rfl,rfl⟩
 go_wp2_with fail
 refine (word_yes word _ h1 h30).mono ?_
 rintro e w1 ⟨rfl,rfl⟩
 rw [← eW]
 obtain ⟨_,s0,s1,s2⟩ := SW.out
 clear eW
 go_wp2_with fail
 refine (Vec.check_ok (some ⟨g,off,none⟩) 5 cap clk W HV.out hc).mono ?_
 rintro e w1 ⟨rfl,hb⟩
 have B1:Hid (Below w.heap.size w w1) := BW.out.trans (hb.mono BW.out.size)
 have S1:Hid (SB w1 w.heap.size (m:Int) word (.slice (some ⟨g,off,none⟩) 5 cap)) := SW.out.later hb
 have V1:Hid (Vw w1 (some ⟨g,off,none⟩) 5 clk) := HV.out.later hb
 obtain ⟨_,r0,r1,r2⟩ := S1.out
 clear hb s0 s1 s2
 go_wp2_with fail
 refine (place_any m g off cap word clk w1 hm V1.out).mono ?_
 rintro e w2 ⟨rfl,hb⟩
 rw [← EN.out]
 obtain ⟨W3,eW3⟩:∃ W3,W3 = w2.alloc (.cells #[.int .i64 (m:Int),.int .i64 n] 166) := ⟨_,rfl⟩
 have B2:Hid (Below w.heap.size w w2) := B1.out.trans (hb.mono B1.out.size)
 have B3:Hid (Below w2.heap.size w2 W3) := by rw [eW3]; exact (Below.refl _ _).alloc (Nat.le_refl _) _
 have B3':Hid (Below w.heap.size w W3) := B2.out.trans (B3.out.mono B2.out.size)
 have S3:Hid (SB W3 w.heap.size (m:Int) word (.slice (some ⟨g,off,none⟩) 5 cap)) := (S1.out.later hb).later B3.out
 have V3:Hid (Vw W3 (some ⟨g,off,none⟩) 5 clk) := (V1.out.later hb).later B3.out
 have G3:Hid (CF W3 base P mb me K cn es) := HG.out.later B3'.out
 have p0:W3.cell? ⟨w2.heap.size,0,none⟩ = some (.int .i64 (m:Int)) := by rw [eW3]; go_cell
 have p1:W3.cell? ⟨w2.heap.size,1,none⟩ = some (.int .i64 n) := by rw [eW3]; go_cell
 have P3:Hid (w2.heap.size < W3.heap.size) := (by rw [eW3]; simp:w2.heap.size < W3.heap.size)
 obtain ⟨c0,z0⟩ := G3.out.who
 obtain ⟨_,t0,t1,t2⟩ := S3.out
 clear hb r0 r1 r2
 go_wp2_with fail
 rw [← eW3]
 clear eW3
 go_quiet (fail)
 go_wp2_with fail
 obtain ⟨W4,eW4⟩:∃ W4,W4 = W3.drewN nq := ⟨_,rfl⟩
 rw [← eW4]
 have B4:Hid (Below w.heap.size w W4) := by rw [eW4]; exact below_drews B3'.out _
 have S4:Hid (SB W4 w.heap.size (m:Int) word (.slice (some ⟨g,off,none⟩) 5 cap)) := by rw [eW4]; exact S3.out
 have V4:Hid (Vw W4 (some ⟨g,off,none⟩) 5 clk) := by rw [eW4]; exact V3.out
 have G4:Hid (CF W4 base P mb me K cn es) := HG.out.later B4.out
 have p0:W4.cell? ⟨w2.heap.size,0,none⟩ = some (.int .i64 (m:Int)) := by rw [eW4]; exact p0
 have p1:W4.cell? ⟨w2.heap.size,1,none⟩ = some (.int .i64 n) := by rw [eW4]; exact p1
 clear eW4 c0 z0 t0 t1 t2
 go_wp2_with fail
 refine (come_yes1 m n W4 G4.out hm (by rw [EN.out]; exact hno) (by rw [EN.out]; exact HK.out) (by rw [EN.out]; exact hle)).mono ?_
 rintro e w5 ⟨rfl,hb⟩
 have B5:Hid (Below w.heap.size w w5) := B4.out.trans (hb.mono B4.out.size)
 clear hb
 go_wp2
 go_ret
 exact ⟨rfl,B5.out⟩
set_option maxRecDepth 100000 in
set_option maxHeartbeats 1000000 in
theorem check_waits (m g off cap:Nat) (word:Int) (clk:List Int) (w:World) (gf:CF w base P mb me K cn es) (hm:m < 5) (h1:1 ≤ word) (h30:word ≤ 30) (hv:Vw w (some ⟨g,off,none⟩) 5 clk) (hc:code clk = 0) (hme:¬ (m:Int) = me) (hn:¬ clk.getD m 0 = 0) (e0:En) (he:e0 ∈ es) (ha:e0.s.1 = (m:Int)) (hb0:e0.n = clk.getD m 0) :
  Calls Tryz.prog 84 #[.pointer (some ⟨P,0,none⟩),.agg #[.int .i64 (m:Int),.int .i64 word,.slice (some ⟨g,off,none⟩) 5 cap]] w fun e w' => e = .returned (.iface 70 (.int .i64 7)) ∧ Below w.heap.size w w' := by
 obtain ⟨W,eW⟩:∃ W,W = w.alloc (.cells #[.int .i64 (m:Int),.int .i64 word,.slice (some ⟨g,off,none⟩) 5 cap] 51) := ⟨_,rfl⟩
 have BW:Hid (Below w.heap.size w W) := by rw [eW]; exact (Below.refl _ _).alloc (Nat.le_refl _) _
 have SW:Hid (SB W w.heap.size (m:Int) word (.slice (some ⟨g,off,none⟩) 5 cap)) := by rw [eW]; exact SB.new w (m:Int) word _
 have HV:Hid (Vw W (some ⟨g,off,none⟩) 5 clk) := hv.later BW.out
 have HG:Hid (CF w base P mb me K cn es) := gf
 have HK:Hid (0 ≤ clk.getD m 0 ∧ clk.getD m 0 ≤ 1000000) := (code_num hc).2 m hm
 obtain ⟨n,en⟩:∃ n,n = clk.getD m 0 := ⟨_,rfl⟩
 have EN:Hid (n = clk.getD m 0) := en
 clear hv gf en
 have hq:((m:Int) == me) = false := by simp [hme]
 have hn0:(n == 0) = false := by rw [EN.out]; simpa using hn
 have HE:Hid (e0 ∈ es ∧ e0.s.1 = (m:Int) ∧ e0.n = n) := ⟨he,ha,by rw [EN.out]; exact hb0⟩
 clear he ha hb0
 go_enter Tryz.func84,Tryz.ntmps84
 go_wp2_with fail
 refine (member_yes (m:Int) _ (by omega) (by omega)).mono ?_
 rintro e w1 ⟨rfl,rfl⟩
 go_wp2_with fail
 refine (word_yes word _ h1 h30).mono ?_
 rintro e w1 ⟨rfl,rfl⟩
 rw [← eW]
 obtain ⟨_,s0,s1,s2⟩ := SW.out
 clear eW
 go_wp2_with fail
 refine (Vec.check_ok (some ⟨g,off,none⟩) 5 cap clk W HV.out hc).mono ?_
 rintro e w1 ⟨rfl,hb⟩
 have B1:Hid (Below w.heap.size w w1) := BW.out.trans (hb.mono BW.out.size)
 have S1:Hid (SB w1 w.heap.size (m:Int) word (.slice (some ⟨g,off,none⟩) 5 cap)) := SW.out.later hb
 have V1:Hid (Vw w1 (some ⟨g,off,none⟩) 5 clk) := HV.out.later hb
 obtain ⟨_,r0,r1,r2⟩ := S1.out
 clear hb s0 s1 s2
 go_wp2_with fail
 refine (place_any m g off cap word clk w1 hm V1.out).mono ?_
 rintro e w2 ⟨rfl,hb⟩
 rw [← EN.out]
 obtain ⟨W3,eW3⟩:∃ W3,W3 = w2.alloc (.cells #[.int .i64 (m:Int),.int .i64 n] 166) := ⟨_,rfl⟩
 have B2:Hid (Below w.heap.size w w2) := B1.out.trans (hb.mono B1.out.size)
 have B3:Hid (Below w2.heap.size w2 W3) := by rw [eW3]; exact (Below.refl _ _).alloc (Nat.le_refl _) _
 have B3':Hid (Below w.heap.size w W3) := B2.out.trans (B3.out.mono B2.out.size)
 have S3:Hid (SB W3 w.heap.size (m:Int) word (.slice (some ⟨g,off,none⟩) 5 cap)) := (S1.out.later hb).later B3.out
 have V3:Hid (Vw W3 (some ⟨g,off,none⟩) 5 clk) := (V1.out.later hb).later B3.out
 have G3:Hid (CF W3 base P mb me K cn es) := HG.out.later B3'.out
 have p0:W3.cell? ⟨w2.heap.size,0,none⟩ = some (.int .i64 (m:Int)) := by rw [eW3]; go_cell
 have p1:W3.cell? ⟨w2.heap.size,1,none⟩ = some (.int .i64 n) := by rw [eW3]; go_cell
 have P3:Hid (w2.heap.size < W3.heap.size) := (by rw [eW3]; simp:w2.heap.size < W3.heap.size)
 obtain ⟨c0,z0⟩ := G3.out.who
 obtain ⟨_,t0,t1,t2⟩ := S3.out
 clear hb r0 r1 r2
 go_wp2_with fail
 rw [← eW3]
 clear eW3
 go_quiet (fail)
 go_wp2_with fail
 obtain ⟨W4,eW4⟩:∃ W4,W4 = W3.drewN nq := ⟨_,rfl⟩
 rw [← eW4]
 have B4:Hid (Below w.heap.size w W4) := by rw [eW4]; exact below_drews B3'.out _
 have S4:Hid (SB W4 w.heap.size (m:Int) word (.slice (some ⟨g,off,none⟩) 5 cap)) := by rw [eW4]; exact S3.out
 have V4:Hid (Vw W4 (some ⟨g,off,none⟩) 5 clk) := by rw [eW4]; exact V3.out
 have G4:Hid (CF W4 base P mb me K cn es) := HG.out.later B4.out
 have p0:W4.cell? ⟨w2.heap.size,0,none⟩ = some (.int .i64 (m:Int)) := by rw [eW4]; exact p0
 have p1:W4.cell? ⟨w2.heap.size,1,none⟩ = some (.int .i64 n) := by rw [eW4]; exact p1
 clear eW4 c0 z0 t0 t1 t2
 go_wp2_with fail
 refine (show Calls Tryz.prog 119 #[.pointer (some ⟨P,0,none⟩),.agg #[.int .i64 (m:Int),.int .i64 n]] W4 fun e w' => e = .returned (.bool true) ∧ Below W4.heap.size W4 w' by have q := come_yes2 e0 W4 G4.out HE.out.1; rw [HE.out.2.1,HE.out.2.2] at q; exact q).mono ?_
 rintro e w5 ⟨rfl,hb⟩
 have B5:Hid (Below w.heap.size w w5) := B4.out.trans (hb.mono B4.out.size)
 clear hb
 go_wp2
 go_ret
 exact ⟨rfl,B5.out⟩
set_option maxRecDepth 100000 in
set_option maxHeartbeats 1000000 in
theorem check_room (m g off cap:Nat) (word:Int) (clk:List Int) (w:World) (gf:CF w base P mb me K cn es) (hm:m < 5) (h1:1 ≤ word) (h30:word ≤ 30) (hv:Vw w (some ⟨g,off,none⟩) 5 clk) (hc:code clk = 0) (hme:¬ (m:Int) = me) (hn:¬ clk.getD m 0 = 0) (hno:∀ e ∈ es,kl (m:Int) (clk.getD m 0) ≠ e.key) (hlt:K.getD m 0 < clk.getD m 0) (hl:es.length < 40) :
  Calls Tryz.prog 84 #[.pointer (some ⟨P,0,none⟩),.agg #[.int .i64 (m:Int),.int .i64 word,.slice (some ⟨g,off,none⟩) 5 cap]] w fun e w' => e = .returned (.nilIface) ∧ Below w.heap.size w w' := by
 obtain ⟨W,eW⟩:∃ W,W = w.alloc (.cells #[.int .i64 (m:Int),.int .i64 word,.slice (some ⟨g,off,none⟩) 5 cap] 51) := ⟨_,rfl⟩
 have BW:Hid (Below w.heap.size w W) := by rw [eW]; exact (Below.refl _ _).alloc (Nat.le_refl _) _
 have SW:Hid (SB W w.heap.size (m:Int) word (.slice (some ⟨g,off,none⟩) 5 cap)) := by rw [eW]; exact SB.new w (m:Int) word _
 have HV:Hid (Vw W (some ⟨g,off,none⟩) 5 clk) := hv.later BW.out
 have HG:Hid (CF w base P mb me K cn es) := gf
 have HK:Hid (0 ≤ clk.getD m 0 ∧ clk.getD m 0 ≤ 1000000) := (code_num hc).2 m hm
 obtain ⟨n,en⟩:∃ n,n = clk.getD m 0 := ⟨_,rfl⟩
 have EN:Hid (n = clk.getD m 0) := en
 clear hv gf en
 have hq:((m:Int) == me) = false := by simp [hme]
 have hn0:(n == 0) = false := by rw [EN.out]; simpa using hn
 have hl40:decide ((40:Int) ≤ (es.length:Int)) = false := by simp; omega
 go_enter Tryz.func84,Tryz.ntmps84
 go_wp2_with fail
 refine (member_yes (m:Int) _ (by omega) (by omega)).mono ?_
 rintro e w1 ⟨rfl,rfl⟩
 go_wp2_with fail
 refine (word_yes word _ h1 h30).mono ?_
 rintro e w1 ⟨rfl,rfl⟩
 rw [← eW]
 obtain ⟨_,s0,s1,s2⟩ := SW.out
 clear eW
 go_wp2_with fail
 refine (Vec.check_ok (some ⟨g,off,none⟩) 5 cap clk W HV.out hc).mono ?_
 rintro e w1 ⟨rfl,hb⟩
 have B1:Hid (Below w.heap.size w w1) := BW.out.trans (hb.mono BW.out.size)
 have S1:Hid (SB w1 w.heap.size (m:Int) word (.slice (some ⟨g,off,none⟩) 5 cap)) := SW.out.later hb
 have V1:Hid (Vw w1 (some ⟨g,off,none⟩) 5 clk) := HV.out.later hb
 obtain ⟨_,r0,r1,r2⟩ := S1.out
 clear hb s0 s1 s2
 go_wp2_with fail
 refine (place_any m g off cap word clk w1 hm V1.out).mono ?_
 rintro e w2 ⟨rfl,hb⟩
 rw [← EN.out]
 obtain ⟨W3,eW3⟩:∃ W3,W3 = w2.alloc (.cells #[.int .i64 (m:Int),.int .i64 n] 166) := ⟨_,rfl⟩
 have B2:Hid (Below w.heap.size w w2) := B1.out.trans (hb.mono B1.out.size)
 have B3:Hid (Below w2.heap.size w2 W3) := by rw [eW3]; exact (Below.refl _ _).alloc (Nat.le_refl _) _
 have B3':Hid (Below w.heap.size w W3) := B2.out.trans (B3.out.mono B2.out.size)
 have S3:Hid (SB W3 w.heap.size (m:Int) word (.slice (some ⟨g,off,none⟩) 5 cap)) := (S1.out.later hb).later B3.out
 have V3:Hid (Vw W3 (some ⟨g,off,none⟩) 5 clk) := (V1.out.later hb).later B3.out
 have G3:Hid (CF W3 base P mb me K cn es) := HG.out.later B3'.out
 have p0:W3.cell? ⟨w2.heap.size,0,none⟩ = some (.int .i64 (m:Int)) := by rw [eW3]; go_cell
 have p1:W3.cell? ⟨w2.heap.size,1,none⟩ = some (.int .i64 n) := by rw [eW3]; go_cell
 have P3:Hid (w2.heap.size < W3.heap.size) := (by rw [eW3]; simp:w2.heap.size < W3.heap.size)
 obtain ⟨c0,z0⟩ := G3.out.who
 obtain ⟨_,t0,t1,t2⟩ := S3.out
 clear hb r0 r1 r2
 go_wp2_with fail
 rw [← eW3]
 clear eW3
 go_quiet (fail)
 go_wp2_with fail
 obtain ⟨W4,eW4⟩:∃ W4,W4 = W3.drewN nq := ⟨_,rfl⟩
 rw [← eW4]
 have B4:Hid (Below w.heap.size w W4) := by rw [eW4]; exact below_drews B3'.out _
 have S4:Hid (SB W4 w.heap.size (m:Int) word (.slice (some ⟨g,off,none⟩) 5 cap)) := by rw [eW4]; exact S3.out
 have V4:Hid (Vw W4 (some ⟨g,off,none⟩) 5 clk) := by rw [eW4]; exact V3.out
 have G4:Hid (CF W4 base P mb me K cn es) := HG.out.later B4.out
 have p0:W4.cell? ⟨w2.heap.size,0,none⟩ = some (.int .i64 (m:Int)) := by rw [eW4]; exact p0
 have p1:W4.cell? ⟨w2.heap.size,1,none⟩ = some (.int .i64 n) := by rw [eW4]; exact p1
 clear eW4 c0 z0 t0 t1 t2
 go_wp2_with fail
 refine (come_no m n W4 G4.out hm (by rw [EN.out]; exact HK.out) (by rw [EN.out]; exact hno) (by rw [EN.out]; exact hlt)).mono ?_
 rintro e w5 ⟨rfl,hb⟩
 have B5:Hid (Below w.heap.size w w5) := B4.out.trans (hb.mono B4.out.size)
 have S5:Hid (SB w5 w.heap.size (m:Int) word (.slice (some ⟨g,off,none⟩) 5 cap)) := S4.out.later hb
 have V5:Hid (Vw w5 (some ⟨g,off,none⟩) 5 clk) := V4.out.later hb
 have G5:Hid (CF w5 base P mb me K cn es) := HG.out.later B5.out
 obtain ⟨c7,z7⟩ := G5.out.wait
 obtain ⟨_,t0,t1,t2⟩ := S5.out
 have hlen := fun ty => G5.out.len ty w5 rfl
 clear hb p0 p1
 go_wp2
 go_ret
 exact ⟨rfl,B5.out⟩
set_option maxRecDepth 100000 in
set_option maxHeartbeats 1000000 in
theorem check_full (m g off cap:Nat) (word:Int) (clk:List Int) (w:World) (gf:CF w base P mb me K cn es) (hm:m < 5) (h1:1 ≤ word) (h30:word ≤ 30) (hv:Vw w (some ⟨g,off,none⟩) 5 clk) (hc:code clk = 0) (hme:¬ (m:Int) = me) (hn:¬ clk.getD m 0 = 0) (hno:∀ e ∈ es,kl (m:Int) (clk.getD m 0) ≠ e.key) (hlt:K.getD m 0 < clk.getD m 0) (hl:40 ≤ es.length) (hr:rdy K ((m:Int),word,clk) = false) :
  Calls Tryz.prog 84 #[.pointer (some ⟨P,0,none⟩),.agg #[.int .i64 (m:Int),.int .i64 word,.slice (some ⟨g,off,none⟩) 5 cap]] w fun e w' => e = .returned (.iface 70 (.int .i64 4)) ∧ Below w.heap.size w w' := by
 obtain ⟨W,eW⟩:∃ W,W = w.alloc (.cells #[.int .i64 (m:Int),.int .i64 word,.slice (some ⟨g,off,none⟩) 5 cap] 51) := ⟨_,rfl⟩
 have BW:Hid (Below w.heap.size w W) := by rw [eW]; exact (Below.refl _ _).alloc (Nat.le_refl _) _
 have SW:Hid (SB W w.heap.size (m:Int) word (.slice (some ⟨g,off,none⟩) 5 cap)) := by rw [eW]; exact SB.new w (m:Int) word _
 have HV:Hid (Vw W (some ⟨g,off,none⟩) 5 clk) := hv.later BW.out
 have HG:Hid (CF w base P mb me K cn es) := gf
 have HK:Hid (0 ≤ clk.getD m 0 ∧ clk.getD m 0 ≤ 1000000) := (code_num hc).2 m hm
 obtain ⟨n,en⟩:∃ n,n = clk.getD m 0 := ⟨_,rfl⟩
 have EN:Hid (n = clk.getD m 0) := en
 clear hv gf en
 have hq:((m:Int) == me) = false := by simp [hme]
 have hn0:(n == 0) = false := by rw [EN.out]; simpa using hn
 have hl40:decide ((40:Int) ≤ (es.length:Int)) = true := by simp; omega
 go_enter Tryz.func84,Tryz.ntmps84
 go_wp2_with fail
 refine (member_yes (m:Int) _ (by omega) (by omega)).mono ?_
 rintro e w1 ⟨rfl,rfl⟩
 go_wp2_with fail
 refine (word_yes word _ h1 h30).mono ?_
 rintro e w1 ⟨rfl,rfl⟩
 rw [← eW]
 obtain ⟨_,s0,s1,s2⟩ := SW.out
 clear eW
 go_wp2_with fail
 refine (Vec.check_ok (some ⟨g,off,none⟩) 5 cap clk W HV.out hc).mono ?_
 rintro e w1 ⟨rfl,hb⟩
 have B1:Hid (Below w.heap.size w w1) := BW.out.trans (hb.mono BW.out.size)
 have S1:Hid (SB w1 w.heap.size (m:Int) word (.slice (some ⟨g,off,none⟩) 5 cap)) := SW.out.later hb
 have V1:Hid (Vw w1 (some ⟨g,off,none⟩) 5 clk) := HV.out.later hb
 obtain ⟨_,r0,r1,r2⟩ := S1.out
 clear hb s0 s1 s2
 go_wp2_with fail
 refine (place_any m g off cap word clk w1 hm V1.out).mono ?_
 rintro e w2 ⟨rfl,hb⟩
 rw [← EN.out]
 obtain ⟨W3,eW3⟩:∃ W3,W3 = w2.alloc (.cells #[.int .i64 (m:Int),.int .i64 n] 166) := ⟨_,rfl⟩
 have B2:Hid (Below w.heap.size w w2) := B1.out.trans (hb.mono B1.out.size)
 have B3:Hid (Below w2.heap.size w2 W3) := by rw [eW3]; exact (Below.refl _ _).alloc (Nat.le_refl _) _
 have B3':Hid (Below w.heap.size w W3) := B2.out.trans (B3.out.mono B2.out.size)
 have S3:Hid (SB W3 w.heap.size (m:Int) word (.slice (some ⟨g,off,none⟩) 5 cap)) := (S1.out.later hb).later B3.out
 have V3:Hid (Vw W3 (some ⟨g,off,none⟩) 5 clk) := (V1.out.later hb).later B3.out
 have G3:Hid (CF W3 base P mb me K cn es) := HG.out.later B3'.out
 have p0:W3.cell? ⟨w2.heap.size,0,none⟩ = some (.int .i64 (m:Int)) := by rw [eW3]; go_cell
 have p1:W3.cell? ⟨w2.heap.size,1,none⟩ = some (.int .i64 n) := by rw [eW3]; go_cell
 have P3:Hid (w2.heap.size < W3.heap.size) := (by rw [eW3]; simp:w2.heap.size < W3.heap.size)
 obtain ⟨c0,z0⟩ := G3.out.who
 obtain ⟨_,t0,t1,t2⟩ := S3.out
 clear hb r0 r1 r2
 go_wp2_with fail
 rw [← eW3]
 clear eW3
 go_quiet (fail)
 go_wp2_with fail
 obtain ⟨W4,eW4⟩:∃ W4,W4 = W3.drewN nq := ⟨_,rfl⟩
 rw [← eW4]
 have B4:Hid (Below w.heap.size w W4) := by rw [eW4]; exact below_drews B3'.out _
 have S4:Hid (SB W4 w.heap.size (m:Int) word (.slice (some ⟨g,off,none⟩) 5 cap)) := by rw [eW4]; exact S3.out
 have V4:Hid (Vw W4 (some ⟨g,off,none⟩) 5 clk) := by rw [eW4]; exact V3.out
 have G4:Hid (CF W4 base P mb me K cn es) := HG.out.later B4.out
 have p0:W4.cell? ⟨w2.heap.size,0,none⟩ = some (.int .i64 (m:Int)) := by rw [eW4]; exact p0
 have p1:W4.cell? ⟨w2.heap.size,1,none⟩ = some (.int .i64 n) := by rw [eW4]; exact p1
 clear eW4 c0 z0 t0 t1 t2
 go_wp2_with fail
 refine (come_no m n W4 G4.out hm (by rw [EN.out]; exact HK.out) (by rw [EN.out]; exact hno) (by rw [EN.out]; exact hlt)).mono ?_
 rintro e w5 ⟨rfl,hb⟩
 have B5:Hid (Below w.heap.size w w5) := B4.out.trans (hb.mono B4.out.size)
 have S5:Hid (SB w5 w.heap.size (m:Int) word (.slice (some ⟨g,off,none⟩) 5 cap)) := S4.out.later hb
 have V5:Hid (Vw w5 (some ⟨g,off,none⟩) 5 clk) := V4.out.later hb
 have G5:Hid (CF w5 base P mb me K cn es) := HG.out.later B5.out
 obtain ⟨c7,z7⟩ := G5.out.wait
 obtain ⟨_,t0,t1,t2⟩ := S5.out
 have hlen := fun ty => G5.out.len ty w5 rfl
 clear hb p0 p1
 go_wp2_with fail
 refine (ready_any P m g off cap K clk word w5 hm G5.out.k5 V5.out).mono ?_
 rintro e w6 ⟨rfl,hb⟩
 rw [hr]
 have B6:Hid (Below w.heap.size w w6) := B5.out.trans (hb.mono B5.out.size)
 clear hb
 go_wp2
 go_ret
 exact ⟨rfl,B6.out⟩
set_option maxRecDepth 100000 in
set_option maxHeartbeats 1000000 in
theorem check_next (m g off cap:Nat) (word:Int) (clk:List Int) (w:World) (gf:CF w base P mb me K cn es) (hm:m < 5) (h1:1 ≤ word) (h30:word ≤ 30) (hv:Vw w (some ⟨g,off,none⟩) 5 clk) (hc:code clk = 0) (hme:¬ (m:Int) = me) (hn:¬ clk.getD m 0 = 0) (hno:∀ e ∈ es,kl (m:Int) (clk.getD m 0) ≠ e.key) (hlt:K.getD m 0 < clk.getD m 0) (hl:40 ≤ es.length) (hr:rdy K ((m:Int),word,clk) = true) :
  Calls Tryz.prog 84 #[.pointer (some ⟨P,0,none⟩),.agg #[.int .i64 (m:Int),.int .i64 word,.slice (some ⟨g,off,none⟩) 5 cap]] w fun e w' => e = .returned (.nilIface) ∧ Below w.heap.size w w' := by
 obtain ⟨W,eW⟩:∃ W,W = w.alloc (.cells #[.int .i64 (m:Int),.int .i64 word,.slice (some ⟨g,off,none⟩) 5 cap] 51) := ⟨_,rfl⟩
 have BW:Hid (Below w.heap.size w W) := by rw [eW]; exact (Below.refl _ _).alloc (Nat.le_refl _) _
 have SW:Hid (SB W w.heap.size (m:Int) word (.slice (some ⟨g,off,none⟩) 5 cap)) := by rw [eW]; exact SB.new w (m:Int) word _
 have HV:Hid (Vw W (some ⟨g,off,none⟩) 5 clk) := hv.later BW.out
 have HG:Hid (CF w base P mb me K cn es) := gf
 have HK:Hid (0 ≤ clk.getD m 0 ∧ clk.getD m 0 ≤ 1000000) := (code_num hc).2 m hm
 obtain ⟨n,en⟩:∃ n,n = clk.getD m 0 := ⟨_,rfl⟩
 have EN:Hid (n = clk.getD m 0) := en
 clear hv gf en
 have hq:((m:Int) == me) = false := by simp [hme]
 have hn0:(n == 0) = false := by rw [EN.out]; simpa using hn
 have hl40:decide ((40:Int) ≤ (es.length:Int)) = true := by simp; omega
 go_enter Tryz.func84,Tryz.ntmps84
 go_wp2_with fail
 refine (member_yes (m:Int) _ (by omega) (by omega)).mono ?_
 rintro e w1 ⟨rfl,rfl⟩
 go_wp2_with fail
 refine (word_yes word _ h1 h30).mono ?_
 rintro e w1 ⟨rfl,rfl⟩
 rw [← eW]
 obtain ⟨_,s0,s1,s2⟩ := SW.out
 clear eW
 go_wp2_with fail
 refine (Vec.check_ok (some ⟨g,off,none⟩) 5 cap clk W HV.out hc).mono ?_
 rintro e w1 ⟨rfl,hb⟩
 have B1:Hid (Below w.heap.size w w1) := BW.out.trans (hb.mono BW.out.size)
 have S1:Hid (SB w1 w.heap.size (m:Int) word (.slice (some ⟨g,off,none⟩) 5 cap)) := SW.out.later hb
 have V1:Hid (Vw w1 (some ⟨g,off,none⟩) 5 clk) := HV.out.later hb
 obtain ⟨_,r0,r1,r2⟩ := S1.out
 clear hb s0 s1 s2
 go_wp2_with fail
 refine (place_any m g off cap word clk w1 hm V1.out).mono ?_
 rintro e w2 ⟨rfl,hb⟩
 rw [← EN.out]
 obtain ⟨W3,eW3⟩:∃ W3,W3 = w2.alloc (.cells #[.int .i64 (m:Int),.int .i64 n] 166) := ⟨_,rfl⟩
 have B2:Hid (Below w.heap.size w w2) := B1.out.trans (hb.mono B1.out.size)
 have B3:Hid (Below w2.heap.size w2 W3) := by rw [eW3]; exact (Below.refl _ _).alloc (Nat.le_refl _) _
 have B3':Hid (Below w.heap.size w W3) := B2.out.trans (B3.out.mono B2.out.size)
 have S3:Hid (SB W3 w.heap.size (m:Int) word (.slice (some ⟨g,off,none⟩) 5 cap)) := (S1.out.later hb).later B3.out
 have V3:Hid (Vw W3 (some ⟨g,off,none⟩) 5 clk) := (V1.out.later hb).later B3.out
 have G3:Hid (CF W3 base P mb me K cn es) := HG.out.later B3'.out
 have p0:W3.cell? ⟨w2.heap.size,0,none⟩ = some (.int .i64 (m:Int)) := by rw [eW3]; go_cell
 have p1:W3.cell? ⟨w2.heap.size,1,none⟩ = some (.int .i64 n) := by rw [eW3]; go_cell
 have P3:Hid (w2.heap.size < W3.heap.size) := (by rw [eW3]; simp:w2.heap.size < W3.heap.size)
 obtain ⟨c0,z0⟩ := G3.out.who
 obtain ⟨_,t0,t1,t2⟩ := S3.out
 clear hb r0 r1 r2
 go_wp2_with fail
 rw [← eW3]
 clear eW3
 go_quiet (fail)
 go_wp2_with fail
 obtain ⟨W4,eW4⟩:∃ W4,W4 = W3.drewN nq := ⟨_,rfl⟩
 rw [← eW4]
 have B4:Hid (Below w.heap.size w W4) := by rw [eW4]; exact below_drews B3'.out _
 have S4:Hid (SB W4 w.heap.size (m:Int) word (.slice (some ⟨g,off,none⟩) 5 cap)) := by rw [eW4]; exact S3.out
 have V4:Hid (Vw W4 (some ⟨g,off,none⟩) 5 clk) := by rw [eW4]; exact V3.out
 have G4:Hid (CF W4 base P mb me K cn es) := HG.out.later B4.out
 have p0:W4.cell? ⟨w2.heap.size,0,none⟩ = some (.int .i64 (m:Int)) := by rw [eW4]; exact p0
 have p1:W4.cell? ⟨w2.heap.size,1,none⟩ = some (.int .i64 n) := by rw [eW4]; exact p1
 clear eW4 c0 z0 t0 t1 t2
 go_wp2_with fail
 refine (come_no m n W4 G4.out hm (by rw [EN.out]; exact HK.out) (by rw [EN.out]; exact hno) (by rw [EN.out]; exact hlt)).mono ?_
 rintro e w5 ⟨rfl,hb⟩
 have B5:Hid (Below w.heap.size w w5) := B4.out.trans (hb.mono B4.out.size)
 have S5:Hid (SB w5 w.heap.size (m:Int) word (.slice (some ⟨g,off,none⟩) 5 cap)) := S4.out.later hb
 have V5:Hid (Vw w5 (some ⟨g,off,none⟩) 5 clk) := V4.out.later hb
 have G5:Hid (CF w5 base P mb me K cn es) := HG.out.later B5.out
 obtain ⟨c7,z7⟩ := G5.out.wait
 obtain ⟨_,t0,t1,t2⟩ := S5.out
 have hlen := fun ty => G5.out.len ty w5 rfl
 clear hb p0 p1
 go_wp2_with fail
 refine (ready_any P m g off cap K clk word w5 hm G5.out.k5 V5.out).mono ?_
 rintro e w6 ⟨rfl,hb⟩
 rw [hr]
 have B6:Hid (Below w.heap.size w w6) := B5.out.trans (hb.mono B5.out.size)
 clear hb
 go_wp2
 go_ret
 exact ⟨rfl,B6.out⟩
theorem same_key {m:Nat} {word:Int} {clk:List Int} (hm:m < 5) (hc:code clk = 0) (ok:∀ e ∈ es,SdOk e.s):(es.map En.s).any (same ((m:Int),word,clk)) = true ↔ ∃ e ∈ es,e.s.1 = (m:Int) ∧ e.n = clk.getD m 0 := by
 rw [List.any_eq_true]
 constructor
 ·rintro ⟨s,hs,h⟩
  obtain ⟨e,he,rfl⟩ := List.mem_map.1 hs
  have h1:e.s.1 = (m:Int) ∧ e.s.2.2.getD m 0 = clk.getD m 0 := by simpa [same] using h
  refine ⟨e,he,h1.1,?_⟩
  rw [En.n,h1.1]
  exact h1.2
 ·rintro ⟨e,he,h1,h2⟩
  refine ⟨e.s,List.mem_map.2 ⟨e,he,rfl⟩,?_⟩
  rw [En.n,h1] at h2
  have h3:e.s.2.2.getD m 0 = clk.getD m 0 := h2
  simpa [same,h1] using h3
theorem key_iff {m:Nat} {n:Int} (hm:m < 5) (hn:0 ≤ n ∧ n ≤ 1000000) {e:En} (ok:SdOk e.s):kl (m:Int) n = e.key ↔ e.s.1 = (m:Int) ∧ e.n = n := by
 constructor
 ·intro h
  have := kl_inj (okK_of (by omega) (by omega)) (En.okK ok) h
  exact ⟨this.1.symm,this.2.symm⟩
 ·rintro ⟨h1,h2⟩
  rw [En.key,h1,h2]
theorem check_any (who word:Int) (q:Option Addr) (len cap:Nat) (clk:List Int) (w:World) (g:CF w base P mb me K cn es) (hv:Vw w q len clk) :
  Calls Tryz.prog 84 #[.pointer (some ⟨P,0,none⟩),.agg #[.int .i64 who,.int .i64 word,.slice q len cap]] w fun e w' => e = .returned (errF (ckC me K (es.map En.s) (who,word,clk))) ∧ Below w.heap.size w w' := by
 by_cases h1:who < 0 ∨ 4 < who
 ·have hk:ckC me K (es.map En.s) (who,word,clk) = 1 := by
   unfold ckC
   rw [if_pos]
   simp [sdBad]; omega
  rw [hk,errF_no (by decide)]
  exact check_mem who word q len cap w h1
 by_cases h2:word < 1 ∨ 30 < word
 ·have hk:ckC me K (es.map En.s) (who,word,clk) = 1 := by
   unfold ckC
   rw [if_pos]
   simp [sdBad]; omega
  rw [hk,errF_no (by decide)]
  exact check_word who word q len cap w (by omega) (by omega) h2
 have hb:¬ sdBad (who,word,clk) = true := by simp [sdBad]; omega
 by_cases h3:code clk = 0
 ·obtain ⟨m,rfl⟩:∃ m:Nat,who = (m:Int) := ⟨who.toNat,by omega⟩
  have hm:m < 5 := by omega
  have h5:len = 5 := by rw [← hv.1]; exact (code_num h3).1
  subst h5
  obtain ⟨b,off,rfl,_⟩ := hv.2 (by omega)
  have hnn := (code_num h3).2 m hm
  have h3':¬ code ((m:Int),word,clk).2.2 ≠ 0 := fun q => q h3
  have e1:((m:Int),word,clk).2.2.getD ((m:Int),word,clk).1.toNat 0 = clk.getD m 0 := by simp
  have e2:K.getD ((m:Int),word,clk).1.toNat 0 = K.getD m 0 := by simp
  have e3:ckC me K (es.map En.s) ((m:Int),word,clk) = if (m:Int) = me then 3 else if clk.getD m 0 = 0 then 1 else if clk.getD m 0 ≤ K.getD m 0 then 7 else if (es.map En.s).any (same ((m:Int),word,clk)) = true then 7 else if rdy K ((m:Int),word,clk) = false ∧ 40 ≤ (es.map En.s).length then 4 else 0 := by
   unfold ckC
   rw [if_neg hb,if_neg h3',e1,e2]
  rw [e3,List.length_map]
  by_cases h4:(m:Int) = me
  ·rw [if_pos h4,errF_no (by decide)]
   exact check_own m b off cap word clk w g hm (by omega) (by omega) hv h3 h4
  rw [if_neg h4]
  by_cases h5:clk.getD m 0 = 0
  ·rw [if_pos h5,errF_no (by decide)]
   exact check_nil m b off cap word clk w g hm (by omega) (by omega) hv h3 h4 h5
  rw [if_neg h5]
  by_cases h7:∃ e ∈ es,e.s.1 = (m:Int) ∧ e.n = clk.getD m 0
  ·obtain ⟨e,he,ha,hb0⟩ := h7
   have h7' := (same_key (word := word) hm h3 g.ok).2 ⟨e,he,ha,hb0⟩
   rw [if_pos h7',ite_self,errF_no (by decide)]
   exact check_waits m b off cap word clk w g hm (by omega) (by omega) hv h3 h4 h5 e he ha hb0
  have h7':¬ (es.map En.s).any (same ((m:Int),word,clk)) = true := fun q => h7 ((same_key hm h3 g.ok).1 q)
  have hno:∀ e ∈ es,kl (m:Int) (clk.getD m 0) ≠ e.key := fun e he q => h7 ⟨e,he,(key_iff hm hnn (g.ok e he)).1 q⟩
  by_cases h6:clk.getD m 0 ≤ K.getD m 0
  ·rw [if_pos h6,errF_no (by decide)]
   exact check_old m b off cap word clk w g hm (by omega) (by omega) hv h3 h4 h5 hno h6
  rw [if_neg h6,if_neg h7']
  by_cases h8:40 ≤ es.length
  ·cases hr:rdy K ((m:Int),word,clk)
   ·rw [if_pos ⟨rfl,h8⟩,errF_no (by decide)]
    exact check_full m b off cap word clk w g hm (by omega) (by omega) hv h3 h4 h5 hno (by omega) h8 hr
   ·rw [if_neg (by simp),errF_ok]
    exact check_next m b off cap word clk w g hm (by omega) (by omega) hv h3 h4 h5 hno (by omega) h8 hr
  ·rw [if_neg (fun q => h8 q.2),errF_ok]
   exact check_room m b off cap word clk w g hm (by omega) (by omega) hv h3 h4 h5 hno (by omega) (by omega)
 ·have hk:ckC me K (es.map En.s) (who,word,clk) = code clk := by
   unfold ckC
   rw [if_neg hb]
   exact if_pos h3
  rw [hk,errF_no h3]
  exact check_clk who word q len cap clk w (by omega) (by omega) (by omega) (by omega) hv h3
end Go.Proofs.YtdmniblonikjlakGreatDoor.Cap


namespace Go.Proofs.YtdmniblonikjlakGreatDoor.Cap
open Go.RowKit Go.Maps
open Cau
open Vec (code Vw anyP ret_bool)
open Fif (own_lt own_block own_mono own_vw own_form Kp info_int)
set_option linter.unusedVariables false
variable {base P mb:Nat} {me:Int} {K:List Int} {cn:Int} {es:List En}
def pv (a b:Int) (j:Nat):Value := if j = 0 then .int .i64 a else .int .i64 b
def FR (w:World) (mb:Nat) (K:List Int) (es:List En) (D:DataW Value) (wr:World) (a b:Int) (found:Bool) (left:Lit → Bool) (cnt:Nat):Prop :=
 wr.ranges Tryz.prog 166 RV mb (w.heap.size + 2) es.length D left cnt ∧ Below w.heap.size w wr ∧ wr.rowIs w.heap.size 166 2 (pv 0 0) ∧ wr.rowIs (w.heap.size + 1) 166 2 (pv a b) ∧ FM K es left (.agg #[.int .i64 a,.int .i64 b]) found ∧ w.heap.size + 2 < wr.heap.size
theorem pv_new (w:World) (a b:Int):(w.alloc (.cells #[.int .i64 a,.int .i64 b] 166)).rowIs w.heap.size 166 2 (pv a b) :=
 World.rowIs_alloc w #[.int .i64 a,.int .i64 b] 166 (pv a b) (fun i hi => by rcases i with _ | _ | i <;> first | rfl | (exfalso; have:_ < 2 := hi; omega))
theorem below_same {w w1 w2:World} (h:Below w1.heap.size w1 w2) (e:w1.heap = w.heap) (e1:w1.os = w.os) (e2:w1.tape = w.tape) (e3:w1.output = w.output):Below w.heap.size w w2 := by
 rw [e] at h
 exact ⟨h.os.trans e1,h.tape.trans e2,h.output.trans e3,by have := h.size; rw [e] at this; exact this,fun k hk => by rw [h.block k hk,e]⟩
theorem retF {fn:Func} {tmps:Array Value} {w:World} {p u:Tmp} {B:Nat} {v0 v1 x:Value} (h:fn.results = #[.cell p 166,.tmp u]) (hp:tmps.getD p undef = .pointer (some ⟨B,0,none⟩)) (hu:tmps.getD u undef = x)
  (y0:w.cell? ⟨B,0,none⟩ = some v0) (y1:w.cell? ⟨B,1,none⟩ = some v1):(results fn tmps).run Tryz.prog w = .ok (.tuple #[.agg #[v0,v1],x]) w := by
 rw [results_cell_tmp h,hp,hu]
 simp [asAddr,go_sem,y0,y1]
theorem take_at {P:Program} {ops:Array Oper} {Q:Exit → Act → World → Prop} {md:Region.Mode} {i:Nat} (d:Nat) {oi:Oper} {v:Value} {fuel:Nat} {listed:Array Bool} {a:Act} {w:World} (hi:ops[i]? = some oi) (hd:oi.dst = some d)
  (hs:Region.noSelect ops = true) (hf:Region.free md ops listed i = true) (hr:(Region.ready md ops listed).contains i = true)
  (hQ:∀ c a w,Q (.panic c) (a.put (some d) v) w → Q (.panic c) a w) (hy:Yields P ops oi v a)
  (h:wpAny P md ops Q fuel (listed.setIfInBounds i true) (a.put (some d) v) w):wpAny P md ops Q (fuel + 1) listed a w :=
 wpAny_take hi hs hf hr (by rw [hd]; exact hQ) hy (by rw [hd]; exact h)
theorem fld_t (t k x:Int) (v:Value) (X:World):(Instr.field 164 (.agg #[.int .i64 t,.int .i64 k,.int .i64 x,v]) 0).run Tryz.prog X = .ok (.int .i64 t) X := by kernel_rfl
theorem fld_s (t k x:Int) (v:Value) (X:World):(Instr.field 164 (.agg #[.int .i64 t,.int .i64 k,.int .i64 x,v]) 1).run Tryz.prog X = .ok (.agg #[.int .i64 k,.int .i64 x,v]) X := by kernel_rfl
theorem fld_w (k x:Int) (v:Value) (X:World):(Instr.field 51 (.agg #[.int .i64 k,.int .i64 x,v]) 1).run Tryz.prog X = .ok (.int .i64 x) X := by kernel_rfl
theorem ranges_blocks {w w':World} {b r n:Nat} {D:DataW Value} {left:Lit → Bool} {cnt:Nat} (h:w.ranges Tryz.prog 166 RV b r n D left cnt) (h1:w'.heap[b]? = w.heap[b]?) (h2:w'.heap[r]? = w.heap[r]?):w'.ranges Tryz.prog 166 RV b r n D left cnt := by
 obtain ⟨es,clock,since,seen,c0,hb,F,hs,hD,hr,rest⟩ := h
 exact ⟨es,clock,since,seen,c0,by rw [h1]; exact hb,F,hs,hD,by rw [h2]; exact hr,rest⟩
theorem fr_close {w W w9:World} {mb:Nat} {K:List Int} {es:List En} {D:DataW Value} {a b:Int} {found:Bool} {left:Lit → Bool} {cnt:Nat} (hB:Below w.heap.size w W) (hS:W.rowIs (w.heap.size + 1) 166 2 (pv a b)) (hR:W.rowIs w.heap.size 166 2 (pv 0 0)) (hrg:W.ranges Tryz.prog 166 RV mb (w.heap.size + 2) es.length D left cnt)
  (h9:Below W.heap.size W w9) (hM:FM K es left (.agg #[.int .i64 a,.int .i64 b]) found):FR w mb K es D w9 a b found left cnt ∧ w9.rangeLeft mb (w.heap.size + 2) = cnt := by
 have h2 := hrg.lt
 have hrg9 := ranges_blocks hrg (h9.block mb hrg.owns.lt) (h9.block _ h2)
 exact ⟨⟨hrg9,hB.trans (h9.mono hB.size),World.rowIs.of_block hR (h9.block _ (by omega)),World.rowIs.of_block hS (h9.block _ (by omega)),hM,Nat.lt_of_lt_of_le h2 h9.size⟩,hrg9.left_eq⟩
theorem fr_store {w W w9:World} {mb:Nat} {K:List Int} {es:List En} {D:DataW Value} {a b m n:Int} {left:Lit → Bool} {cnt:Nat} (hB:Below w.heap.size w W) (hS:W.rowIs (w.heap.size + 1) 166 2 (pv a b)) (hR:W.rowIs w.heap.size 166 2 (pv 0 0)) (hrg:W.ranges Tryz.prog 166 RV mb (w.heap.size + 2) es.length D left cnt)
  (h9:Below W.heap.size W w9) (hmb:mb < w.heap.size) (hM:FM K es left (.agg #[.int .i64 m,.int .i64 n]) true) :
  FR w mb K es D ((w9.setCell ⟨w.heap.size + 1,0,none⟩ (.int .i64 m)).setCell ⟨w.heap.size + 1,1,none⟩ (.int .i64 n)) m n true left cnt ∧ ((w9.setCell ⟨w.heap.size + 1,0,none⟩ (.int .i64 m)).setCell ⟨w.heap.size + 1,1,none⟩ (.int .i64 n)).rangeLeft mb (w.heap.size + 2) = cnt := by
 have h2 := hrg.lt
 have hrg9 := ranges_blocks hrg (h9.block mb hrg.owns.lt) (h9.block _ h2)
 have hR9 := World.rowIs.of_block hR (h9.block _ (by omega))
 have hS9 := World.rowIs.of_block hS (h9.block _ (by omega))
 have bl:∀ k,k ≠ w.heap.size + 1 → ((w9.setCell ⟨w.heap.size + 1,0,none⟩ (.int .i64 m)).setCell ⟨w.heap.size + 1,1,none⟩ (.int .i64 n)).heap[k]? = w9.heap[k]? := by
  intro k hk
  rw [Deep.blk_setCell_other _ _ _ _ hk,Deep.blk_setCell_other _ _ _ _ hk]
 have hrgX := ranges_blocks hrg9 (bl mb (by omega)) (bl _ (by omega))
 refine ⟨⟨hrgX,((hB.trans (h9.mono hB.size)).setCell (p := ⟨w.heap.size + 1,0,none⟩) (Nat.le_succ _) _).setCell (p := ⟨w.heap.size + 1,1,none⟩) (Nat.le_succ _) _,World.rowIs.of_block hR9 (bl _ (by omega)),((World.rowIs.set hS9 0 _).set 1 _).congr fun j hj => ?_,hM,hrgX.lt⟩,hrgX.left_eq⟩
 rcases j with _ | _ | j
 ·rfl
 ·rfl
 ·omega
theorem c_heap {w X:World} (e:X.heap = w.heap) (a:Addr):X.cell? a = w.cell? a := World.cell?_of_block (by rw [e])
theorem new2 (w W:World) (a n t x:Int) (g c:Nat) (e:W = (w.alloc (.cells #[.int .i64 a,.int .i64 n] 166)).alloc (.cells #[.int .i64 t,.int .i64 a,.int .i64 x,.slice (some ⟨g,0,none⟩) 5 c] 164)) :
  W.cell? ⟨w.heap.size,0,none⟩ = some (.int .i64 a) ∧ W.cell? ⟨w.heap.size,1,none⟩ = some (.int .i64 n) ∧ W.cell? ⟨w.heap.size + 1,0,none⟩ = some (.int .i64 t) ∧ W.cell? ⟨w.heap.size + 1,1,none⟩ = some (.int .i64 a) ∧ W.cell? ⟨w.heap.size + 1,2,none⟩ = some (.int .i64 x) ∧ W.cell? ⟨w.heap.size + 1,3,none⟩ = some (.slice (some ⟨g,0,none⟩) 5 c) := by
 subst e
 refine ⟨?_,?_,?_,?_,?_,?_⟩ <;> go_cell
set_option maxRecDepth 100000 in
set_option maxHeartbeats 1000000 in
theorem first_any (w:World) (g:CF w base P mb me K cn es) :
  Calls Tryz.prog 122 #[.pointer (some ⟨P,0,none⟩)] w fun x w' => ∃ (a b:Int) (more:Bool),x = .returned (.tuple #[.agg #[.int .i64 a,.int .i64 b],.bool more]) ∧ Below w.heap.size w w' ∧
   ((more = true ∧ ∃ i,∃ hi:i < es.length,.agg #[.int .i64 a,.int .i64 b] = es[i].at ∧ rdy K es[i].s = true ∧ (es.map En.s).findIdx? (rdy K) = some i) ∨ (more = false ∧ (es.map En.s).findIdx? (rdy K) = none)) := by
 obtain ⟨D,hD,vD⟩ := g.map
 have HD:Hid (MW D es) := vD
 have HG:Hid (CF w base P mb me K cn es) := g
 obtain ⟨W,eW⟩:∃ W,W = (w.alloc (.cells #[.int .i64 0,.int .i64 0] 166)).alloc (.cells #[.int .i64 0,.int .i64 0] 166) := ⟨_,rfl⟩
 have BW:Hid (Below w.heap.size w W ∧ W.heap.size = w.heap.size + 2) := ⟨by rw [eW]; exact ((Below.refl _ _).alloc (Nat.le_refl _) _).alloc (by simp) _,by rw [eW]; simp⟩
 have R0:Hid (W.rowIs w.heap.size 166 2 (pv 0 0) ∧ W.rowIs (w.heap.size + 1) 166 2 (pv 0 0)) := by
  have q1 := pv_new w 0 0
  have q2 := pv_new (w.alloc (.cells #[.int .i64 0,.int .i64 0] 166)) 0 0
  rw [eW]
  refine ⟨World.rowIs.of_block q1 (Below.heap_alloc _ _ _ (by simp)),?_⟩
  simpa using q2
 have hown:W.ownsMap Tryz.prog 166 RV mb es.length D := own_heap hD (BW.out.1.block mb g.lt.2)
 have c7 := (g.later BW.out.1).wait.1
 rw [eW] at c7 hown
 have EW:Hid (W = (w.alloc (.cells #[.int .i64 0,.int .i64 0] 166)).alloc (.cells #[.int .i64 0,.int .i64 0] 166)) := eW
 have HO:Hid (((w.alloc (.cells #[.int .i64 0,.int .i64 0] 166)).alloc (.cells #[.int .i64 0,.int .i64 0] 166)).ownsMap Tryz.prog 166 RV mb es.length D) := hown
 clear hD vD g hown eW
 go_enter Tryz.func122,Tryz.ntmps122
 go_wp2_with (first | (at_range; refine wpList_range_own _ rfl _ 157 rfl 166 164 law Tryz.underlying157 _ mb es.length D rfl HO.out ?_; intro w0 hrg0 hg0 hs0) | go_in)
 rw [← EW.out] at hrg0 hg0 hs0
 rw [← EW.out]
 rw [BW.out.2] at hrg0 ⊢
 have F0:Hid (FR w mb K es D w0 0 0 false (Maps.has D) (Maps.size D)) := by
  refine ⟨hrg0,?_,World.rowIs.of_block R0.out.1 (hg0.block _ (by have := BW.out.2; omega) (by simp)),World.rowIs.of_block R0.out.2 (hg0.block _ (by have := BW.out.2; omega) (by simp)),?_,by have := BW.out.2; omega⟩
  ·exact BW.out.1.grown hg0 BW.out.1.size (by simp)
  ·refine .inl ⟨rfl,fun e he q => ?_⟩
   rw [(HD.out.has _).2 ⟨e,he,rfl⟩] at q
   cases q
 clear hrg0 hg0 hs0 c7 EW HO
 go_frame
 go_loopw [5] (fun x wr => ∃ (a b:Int) (found:Bool) (left:Lit → Bool) (cnt:Nat),x = .bool found ∧ Hid (FR w mb K es D wr a b found left cnt)) (fun _ wr => wr.rangeLeft mb (w.heap.size + 2))
 case atStart => exact ⟨0,0,false,_,_,rfl,F0⟩
 case round =>
  obtain ⟨a,b,found,left,cnt,rfl,hF⟩ := hrel
  obtain ⟨hrg,hB,hR,hS,hM,hsz⟩ := hF.out
  rcases next_cases hrg HD.out HG.out.ok 0 with ⟨h0,hl,hrun⟩ | ⟨e,he,hle,w1,cnt1,hrun,hrg1,hlt,hg1,hs1,hen⟩
  ·have y0:wr.cell? ⟨w.heap.size + 1,0,none⟩ = some (.int .i64 a) := World.rowIs.cell hS (i := 0) (by omega)
   have y1:wr.cell? ⟨w.heap.size + 1,1,none⟩ = some (.int .i64 b) := World.rowIs.cell hS (i := 1) (by omega)
   have x0:wr.cell? ⟨w.heap.size,0,none⟩ = some (.int .i64 0) := World.rowIs.cell hR (i := 0) (by omega)
   have x1:wr.cell? ⟨w.heap.size,1,none⟩ = some (.int .i64 0) := World.rowIs.cell hR (i := 1) (by omega)
   have f0 := World.rowIs.frozen hR 0
   have f1 := World.rowIs.frozen hR 1
   have HH:Hid (wr.rowIs w.heap.size 166 2 (pv 0 0) ∧ Below w.heap.size w wr ∧ FM K es left (.agg #[.int .i64 a,.int .i64 b]) found ∧ ∀ k,left k = false) := ⟨hR,hB,hM,hl⟩
   clear hrg hB hR hS hM hl hF h0
   go_wp2
   have r3 := (World.rowIs.set HH.out.1 0 (.int .i64 a)).set 1 (.int .i64 b)
   have u0 := r3.cell (i := 0) (by omega)
   have u1 := r3.cell (i := 1) (by omega)
   simp at u0 u1
   refine bodyPost_ret (v := .tuple #[.agg #[.int .i64 a,.int .i64 b],.bool found]) (retF (B := w.heap.size) rfl rfl rfl u0 u1) rfl ?_
   refine ⟨a,b,found,rfl,(HH.out.2.1.setCell (p := ⟨w.heap.size,0,none⟩) (Nat.le_refl _) _).setCell (p := ⟨w.heap.size,1,none⟩) (Nat.le_refl _) _,?_⟩
   rcases HH.out.2.2.1 with ⟨rfl,h2⟩ | ⟨rfl,e0,he0,hv,_,hr,hm⟩
   ·exact .inr ⟨rfl,first_none fun e he => h2 e he (HH.out.2.2.2 _)⟩
   ·obtain ⟨i,hi,rfl,hx⟩ := first_some HG.out.rise he0 hr (fun e he q => hm e he (HH.out.2.2.2 _) q)
    exact .inl ⟨rfl,i,hi,hv,hr,hx⟩
  ·obtain ⟨m,em,hm⟩ := who_nat (HG.out.ok e he)
   obtain ⟨n,en⟩:∃ n,n = e.n := ⟨_,rfl⟩
   obtain ⟨t,et⟩:∃ t,t = e.t := ⟨_,rfl⟩
   obtain ⟨x,ex⟩:∃ x,x = e.s.2.1 := ⟨_,rfl⟩
   obtain ⟨gg,egg⟩:∃ gg,gg = e.g := ⟨_,rfl⟩
   obtain ⟨cc,ecc⟩:∃ cc,cc = e.c := ⟨_,rfl⟩
   have eat:e.at = .agg #[.int .i64 (m:Int),.int .i64 n] := by rw [En.at,em,en]
   have eval:e.val = .agg #[.int .i64 t,.int .i64 (m:Int),.int .i64 x,.slice (some ⟨gg,0,none⟩) 5 cc] := by rw [En.val,em,et,ex,egg,ecc]
   have es3:e.s = ((m:Int),x,e.s.2.2) := by rw [← em,ex]
   rw [eat,eval] at hrun hen
   obtain ⟨W2,eW2⟩:∃ W2,W2 = (w1.alloc (.cells #[.int .i64 (m:Int),.int .i64 n] 166)).alloc (.cells #[.int .i64 t,.int .i64 (m:Int),.int .i64 x,.slice (some ⟨gg,0,none⟩) 5 cc] 164) := ⟨_,rfl⟩
   have hws1:w.heap.size + 2 < w1.heap.size := by omega
   have Bw1:Below w.heap.size w w1 := hB.grown hg1 hB.size (fun k q => by cases q; omega)
   have B2:Hid (Below w1.heap.size w1 W2 ∧ W2.heap.size = w1.heap.size + 2) := ⟨by rw [eW2]; exact ((Below.refl _ _).alloc (Nat.le_refl _) _).alloc (by simp) _,by rw [eW2]; simp⟩
   have BW2:Hid (Below w.heap.size w W2) := Bw1.trans (B2.out.1.mono Bw1.size)
   have hS1 := World.rowIs.of_block hS (hg1.block _ (by omega) (by simp))
   have hR1 := World.rowIs.of_block hR (hg1.block _ (by omega) (by simp))
   have G2:Hid (CF W2 base P mb me K cn es) := HG.out.later BW2.out
   have V2:Hid (Vw W2 (some ⟨gg,0,none⟩) 5 e.s.2.2) := by rw [egg]; exact G2.out.vw he
   have S2:Hid (W2.rowIs (w.heap.size + 1) 166 2 (pv a b) ∧ W2.rowIs w.heap.size 166 2 (pv 0 0) ∧ W2.ranges Tryz.prog 166 RV mb (w.heap.size + 2) es.length D (strike left e.key) cnt1) := by
    refine ⟨World.rowIs.of_block hS1 (B2.out.1.block _ (by omega)),World.rowIs.of_block hR1 (B2.out.1.block _ (by omega)),?_⟩
    rw [eW2]
    exact (hrg1.alloc _).alloc _
   obtain ⟨q0,q1,v0,v1,v2,v3⟩ := new2 w1 W2 (m:Int) n t x gg cc eW2
   have HH:Hid (FM K es left (.agg #[.int .i64 a,.int .i64 b]) found ∧ e ∈ es ∧ e.at = .agg #[.int .i64 (m:Int),.int .i64 n] ∧ e.s = ((m:Int),x,e.s.2.2) ∧ t = e.t ∧ cnt1 < cnt ∧ wr.rangeLeft mb (w.heap.size + 2) = cnt ∧ w.heap.size + 2 < w1.heap.size) := ⟨hM,he,eat,es3,et,hlt,hrg.left_eq,hws1⟩
   clear hrg hB hR hS hM hF hle hrg1 hlt hg1 hs1 eat eval es3 em en et ex egg ecc hS1 hR1 Bw1 hws1 hsz
   have HS2:Hid (∀ w':World,w'.heap = W2.heap → w'.cell? ⟨w1.heap.size + 1,1,none⟩ = some (.int .i64 (m:Int)) ∧ w'.cell? ⟨w1.heap.size + 1,2,none⟩ = some (.int .i64 x) ∧ w'.cell? ⟨w1.heap.size + 1,3,none⟩ = some (.slice (some ⟨gg,0,none⟩) 5 cc)) := fun w' h => ⟨(c_heap h _).trans v1,(c_heap h _).trans v2,(c_heap h _).trans v3⟩
   have HL2:Hid (w1.heap.size + 1 < W2.heap.size) := (by have := B2.out.2; omega:w1.heap.size + 1 < W2.heap.size)
   have HL1:Hid (w1.heap.size < W2.heap.size) := (by have := B2.out.2; omega:w1.heap.size < W2.heap.size)
   cases hr:rdy K e.s
   ·go_wp2_with fail
    rw [← eW2]
    clear eW2 hrun hen
    refine wp_region_any (by kernel_rfl) ?_
    change wpAny _ _ _ _ _ _ _ (World.drew _)
    refine take_at (i := 0) 18 (v := .pointer (some ⟨P,0,none⟩)) rfl rfl (by kernel_rfl) (by kernel_rfl) (by kernel_rfl) (fun _ _ _ h => h) (Or.inl ⟨by kernel_rfl,fun _ => by first | rfl | go_simp⟩) ?_
    refine take_at (i := 1) 19 (v := .pointer (some ⟨w1.heap.size + 1,1,none⟩)) rfl rfl (by kernel_rfl) (by kernel_rfl) (by kernel_rfl) (fun _ _ _ h => h) (Or.inl ⟨by kernel_rfl,fun _ => by first | rfl | go_simp⟩) ?_
    refine wpAny_ready (rs := [2]) (by kernel_rfl) (by simp) ?_
    refine AllReady.cons rfl (fun KK hK => ?_) AllReady.nil
    go_simp
    refine hK _ _ ?_
    clear hK KK
    refine wpAny_ready (rs := [3]) (by kernel_rfl) (by simp) ?_
    refine AllReady.cons rfl (fun KK hK => ?_) AllReady.nil
    go_simp
    go_wp2_with (go_at_call 86; refine (ready_any P m gg 0 cc K e.s.2.2 x _ hm (by exact G2.out.k5) (by exact V2.out)).mono ?_; rintro e9 w9 ⟨rfl,hb⟩; rw [← HH.out.2.2.2.1,hr]; have B9:Hid (Below W2.heap.size W2 w9) := below_same hb rfl rfl rfl rfl; clear hb)
    try go_frame
    refine take_at (i := 4) 22 (v := .bool false) rfl rfl (by kernel_rfl) (by kernel_rfl) (by kernel_rfl) (fun _ _ _ h => h) (Or.inl ⟨by kernel_rfl,fun _ => by go_simp⟩) ?_
    refine take_at (i := 5) 23 (v := undef) rfl rfl (by kernel_rfl) (by kernel_rfl) (by kernel_rfl) (fun _ _ _ h => h) (Or.inr ⟨by kernel_rfl,rfl⟩) ?_
    refine take_at (i := 6) 24 (v := undef) rfl rfl (by kernel_rfl) (by kernel_rfl) (by kernel_rfl) (fun _ _ _ h => h) (Or.inr ⟨by kernel_rfl,rfl⟩) ?_
    refine take_at (i := 7) 25 (v := undef) rfl rfl (by kernel_rfl) (by kernel_rfl) (by kernel_rfl) (fun _ _ _ h => h) (Or.inr ⟨by kernel_rfl,rfl⟩) ?_
    refine take_at (i := 8) 26 (v := undef) rfl rfl (by kernel_rfl) (by kernel_rfl) (by kernel_rfl) (fun _ _ _ h => h) (Or.inr ⟨by kernel_rfl,rfl⟩) ?_
    refine take_at (i := 9) 27 (v := undef) rfl rfl (by kernel_rfl) (by kernel_rfl) (by kernel_rfl) (fun _ _ _ h => h) (Or.inr ⟨by kernel_rfl,rfl⟩) ?_
    refine take_at (i := 10) 28 (v := undef) rfl rfl (by kernel_rfl) (by kernel_rfl) (by kernel_rfl) (fun _ _ _ h => h) (Or.inr ⟨by kernel_rfl,rfl⟩) ?_
    refine take_at (i := 11) 29 (v := undef) rfl rfl (by kernel_rfl) (by kernel_rfl) (by kernel_rfl) (fun _ _ _ h => h) (Or.inr ⟨by kernel_rfl,rfl⟩) ?_
    refine take_at (i := 12) 30 (v := undef) rfl rfl (by kernel_rfl) (by kernel_rfl) (by kernel_rfl) (fun _ _ _ h => h) (Or.inr ⟨by kernel_rfl,rfl⟩) ?_
    refine take_at (i := 13) 31 (v := undef) rfl rfl (by kernel_rfl) (by kernel_rfl) (by kernel_rfl) (fun _ _ _ h => h) (Or.inr ⟨by kernel_rfl,rfl⟩) ?_
    refine take_at (i := 14) 32 (v := undef) rfl rfl (by kernel_rfl) (by kernel_rfl) (by kernel_rfl) (fun _ _ _ h => h) (Or.inr ⟨by kernel_rfl,rfl⟩) ?_
    refine take_at (i := 15) 33 (v := undef) rfl rfl (by kernel_rfl) (by kernel_rfl) (by kernel_rfl) (fun _ _ _ h => h) (Or.inr ⟨by kernel_rfl,rfl⟩) ?_
    refine take_at (i := 16) 34 (v := undef) rfl rfl (by kernel_rfl) (by kernel_rfl) (by kernel_rfl) (fun _ _ _ h => h) (Or.inr ⟨by kernel_rfl,rfl⟩) ?_
    refine take_at (i := 17) 35 (v := undef) rfl rfl (by kernel_rfl) (by kernel_rfl) (by kernel_rfl) (fun _ _ _ h => h) (Or.inr ⟨by kernel_rfl,rfl⟩) ?_
    refine take_at (i := 18) 36 (v := undef) rfl rfl (by kernel_rfl) (by kernel_rfl) (by kernel_rfl) (fun _ _ _ h => h) (Or.inr ⟨by kernel_rfl,rfl⟩) ?_
    try go_frame
    refine take_at (i := 19) 37 (v := .bool false) rfl rfl (by kernel_rfl) (by kernel_rfl) (by kernel_rfl) (fun _ _ _ h => h) (Or.inl ⟨by kernel_rfl,fun _ => by go_simp⟩) ?_
    refine wpAny_done (by kernel_rfl) ?_ _
    try go_frame
    go_wp2_with fail
    have fc := fr_close BW2.out S2.out.1 S2.out.2.1 S2.out.2.2 B9.out (HH.out.1.pass HG.out.uq HH.out.2.1 hr)
    exact ⟨⟨a,b,found,_,_,rfl,fc.1⟩,by rw [fc.2,HH.out.2.2.2.2.2.2.1]; exact HH.out.2.2.2.2.2.1⟩
   ·cases found
    ·go_wp2_with fail
     rw [← eW2]
     clear eW2 hrun hen
     refine wp_region_any (by kernel_rfl) ?_
     change wpAny _ _ _ _ _ _ _ (World.drew _)
     refine take_at (i := 0) 18 (v := .pointer (some ⟨P,0,none⟩)) rfl rfl (by kernel_rfl) (by kernel_rfl) (by kernel_rfl) (fun _ _ _ h => h) (Or.inl ⟨by kernel_rfl,fun _ => by first | rfl | go_simp⟩) ?_
     refine take_at (i := 1) 19 (v := .pointer (some ⟨w1.heap.size + 1,1,none⟩)) rfl rfl (by kernel_rfl) (by kernel_rfl) (by kernel_rfl) (fun _ _ _ h => h) (Or.inl ⟨by kernel_rfl,fun _ => by first | rfl | go_simp⟩) ?_
     refine wpAny_ready (rs := [2]) (by kernel_rfl) (by simp) ?_
     refine AllReady.cons rfl (fun KK hK => ?_) AllReady.nil
     go_simp
     refine hK _ _ ?_
     clear hK KK
     refine wpAny_ready (rs := [3]) (by kernel_rfl) (by simp) ?_
     refine AllReady.cons rfl (fun KK hK => ?_) AllReady.nil
     go_simp
     go_wp2_with (go_at_call 86; refine (ready_any P m gg 0 cc K e.s.2.2 x _ hm (by exact G2.out.k5) (by exact V2.out)).mono ?_; rintro e9 w9 ⟨rfl,hb⟩; rw [← HH.out.2.2.2.1,hr]; have B9:Hid (Below W2.heap.size W2 w9) := below_same hb rfl rfl rfl rfl; clear hb)
     try go_frame
     refine take_at (i := 4) 22 (v := .bool true) rfl rfl (by kernel_rfl) (by kernel_rfl) (by kernel_rfl) (fun _ _ _ h => h) (Or.inl ⟨by kernel_rfl,fun _ => by go_simp⟩) ?_
     try go_frame
     refine take_at (i := 5) 23 (v := .bool false) rfl rfl (by kernel_rfl) (by kernel_rfl) (by kernel_rfl) (fun _ _ _ h => h) (Or.inl ⟨by kernel_rfl,fun _ => by go_simp⟩) ?_
     try go_frame
     refine take_at (i := 6) 24 (v := .bool true) rfl rfl (by kernel_rfl) (by kernel_rfl) (by kernel_rfl) (fun _ _ _ h => h) (Or.inl ⟨by kernel_rfl,fun _ => by go_simp⟩) ?_
     try go_frame
     refine take_at (i := 7) 25 (v := .bool true) rfl rfl (by kernel_rfl) (by kernel_rfl) (by kernel_rfl) (fun _ _ _ h => h) (Or.inl ⟨by kernel_rfl,fun _ => by go_simp⟩) ?_
     refine take_at (i := 8) 26 (v := undef) rfl rfl (by kernel_rfl) (by kernel_rfl) (by kernel_rfl) (fun _ _ _ h => h) (Or.inr ⟨by kernel_rfl,rfl⟩) ?_
     refine take_at (i := 9) 27 (v := undef) rfl rfl (by kernel_rfl) (by kernel_rfl) (by kernel_rfl) (fun _ _ _ h => h) (Or.inr ⟨by kernel_rfl,rfl⟩) ?_
     refine take_at (i := 10) 28 (v := undef) rfl rfl (by kernel_rfl) (by kernel_rfl) (by kernel_rfl) (fun _ _ _ h => h) (Or.inr ⟨by kernel_rfl,rfl⟩) ?_
     refine take_at (i := 11) 29 (v := undef) rfl rfl (by kernel_rfl) (by kernel_rfl) (by kernel_rfl) (fun _ _ _ h => h) (Or.inr ⟨by kernel_rfl,rfl⟩) ?_
     refine take_at (i := 12) 30 (v := undef) rfl rfl (by kernel_rfl) (by kernel_rfl) (by kernel_rfl) (fun _ _ _ h => h) (Or.inr ⟨by kernel_rfl,rfl⟩) ?_
     refine take_at (i := 13) 31 (v := undef) rfl rfl (by kernel_rfl) (by kernel_rfl) (by kernel_rfl) (fun _ _ _ h => h) (Or.inr ⟨by kernel_rfl,rfl⟩) ?_
     refine take_at (i := 14) 32 (v := undef) rfl rfl (by kernel_rfl) (by kernel_rfl) (by kernel_rfl) (fun _ _ _ h => h) (Or.inr ⟨by kernel_rfl,rfl⟩) ?_
     refine take_at (i := 15) 33 (v := undef) rfl rfl (by kernel_rfl) (by kernel_rfl) (by kernel_rfl) (fun _ _ _ h => h) (Or.inr ⟨by kernel_rfl,rfl⟩) ?_
     refine take_at (i := 16) 34 (v := undef) rfl rfl (by kernel_rfl) (by kernel_rfl) (by kernel_rfl) (fun _ _ _ h => h) (Or.inr ⟨by kernel_rfl,rfl⟩) ?_
     refine take_at (i := 17) 35 (v := undef) rfl rfl (by kernel_rfl) (by kernel_rfl) (by kernel_rfl) (fun _ _ _ h => h) (Or.inr ⟨by kernel_rfl,rfl⟩) ?_
     try go_frame
     refine take_at (i := 18) 36 (v := .bool true) rfl rfl (by kernel_rfl) (by kernel_rfl) (by kernel_rfl) (fun _ _ _ h => h) (Or.inl ⟨by kernel_rfl,fun _ => by go_simp⟩) ?_
     try go_frame
     refine take_at (i := 19) 37 (v := .bool true) rfl rfl (by kernel_rfl) (by kernel_rfl) (by kernel_rfl) (fun _ _ _ h => h) (Or.inl ⟨by kernel_rfl,fun _ => by go_simp⟩) ?_
     refine wpAny_done (by kernel_rfl) ?_ _
     try go_frame
     have p0 := (B9.out.cell (p := ⟨w1.heap.size,0,none⟩) HL1.out).trans q0
     have p1 := (B9.out.cell (p := ⟨w1.heap.size,1,none⟩) HL1.out).trans q1
     have R9:Hid (w9.rowIs (w.heap.size + 1) 166 2 (pv a b)) := World.rowIs.of_block S2.out.1 (B9.out.block _ (World.rowIs.lt S2.out.1))
     have y0:w9.cell? ⟨w.heap.size + 1,0,none⟩ = some (.int .i64 a) := World.rowIs.cell R9.out (i := 0) (by omega)
     have y1:w9.cell? ⟨w.heap.size + 1,1,none⟩ = some (.int .i64 b) := World.rowIs.cell R9.out (i := 1) (by omega)
     have f0 := World.rowIs.frozen R9.out 0
     have f1 := World.rowIs.frozen R9.out 1
     go_wp2
     have hk:WideAt.IsKeyLit e.key := kl_key (En.okK (HG.out.ok e HH.out.2.1))
     have hM:FM K es (strike left e.key) (.agg #[.int .i64 (m:Int),.int .i64 n]) true := by
      rw [← HH.out.2.2.1]
      exact HH.out.1.one HG.out.uq HH.out.2.1 hk hr
     have fs := fr_store BW2.out S2.out.1 S2.out.2.1 S2.out.2.2 B9.out HG.out.lt.2 hM
     exact ⟨⟨(m:Int),n,true,_,_,rfl,fs.1⟩,by rw [fs.2,HH.out.2.2.2.2.2.2.1]; exact HH.out.2.2.2.2.2.1⟩
    ·obtain ⟨e0,he0,hv0,hl0,hr0,hm0⟩ := FM.get HH.out.1
     obtain ⟨t0,et0⟩:∃ t0,t0 = e0.t := ⟨_,rfl⟩
     obtain ⟨k0,ek0⟩:∃ k0,k0 = e0.s.1 := ⟨_,rfl⟩
     obtain ⟨x0,ex0⟩:∃ x0,x0 = e0.s.2.1 := ⟨_,rfl⟩
     obtain ⟨g0,eg0⟩:∃ g0,g0 = e0.g := ⟨_,rfl⟩
     obtain ⟨c0,ec0⟩:∃ c0,c0 = e0.c := ⟨_,rfl⟩
     have ev0:e0.val = .agg #[.int .i64 t0,.int .i64 k0,.int .i64 x0,.slice (some ⟨g0,0,none⟩) 5 c0] := by rw [En.val,et0,ek0,ex0,eg0,ec0]
     have H0:Hid (e0 ∈ es ∧ .agg #[.int .i64 a,.int .i64 b] = e0.at ∧ left e0.key = false ∧ rdy K e0.s = true ∧ (∀ e ∈ es,left e.key = false → rdy K e.s = true → e0.t ≤ e.t) ∧ t0 = e0.t) := ⟨he0,hv0,hl0,hr0,hm0,et0⟩
     have HS:Hid (∀ X:World,Below W2.heap.size W2 X → ∀ w':World,w'.heap = X.heap → w'.cell? ⟨w1.heap.size + 1,0,none⟩ = some (.int .i64 t) ∧ w'.cell? ⟨w1.heap.size + 1,1,none⟩ = some (.int .i64 (m:Int)) ∧ w'.cell? ⟨w1.heap.size + 1,2,none⟩ = some (.int .i64 x) ∧ w'.cell? ⟨w1.heap.size + 1,3,none⟩ = some (.slice (some ⟨gg,0,none⟩) 5 cc) ∧ w'.cell? ⟨P,7,none⟩ = some (.map (some mb)) ∧ w'.cell? ⟨w.heap.size + 1,0,none⟩ = some (.int .i64 a) ∧ w'.cell? ⟨w.heap.size + 1,1,none⟩ = some (.int .i64 b) ∧ (Instr.lookup 157 (.map (some mb)) (.agg #[.int .i64 a,.int .i64 b]) false).run Tryz.prog w' = .ok (.agg #[.int .i64 t0,.int .i64 k0,.int .i64 x0,.slice (some ⟨g0,0,none⟩) 5 c0]) w') := by
      intro X hX w' h
      have gX := G2.out.later hX
      have rX := World.rowIs.of_block S2.out.1 (hX.block _ (World.rowIs.lt S2.out.1))
      have lX := gX.look he0 w' (by rw [h])
      rw [← hv0,ev0] at lX
      exact ⟨(c_heap h _).trans ((hX.cell (p := ⟨w1.heap.size + 1,0,none⟩) HL2.out).trans v0),(c_heap h _).trans ((hX.cell (p := ⟨w1.heap.size + 1,1,none⟩) HL2.out).trans v1),(c_heap h _).trans ((hX.cell (p := ⟨w1.heap.size + 1,2,none⟩) HL2.out).trans v2),(c_heap h _).trans ((hX.cell (p := ⟨w1.heap.size + 1,3,none⟩) HL2.out).trans v3),(c_heap h _).trans gX.wait.1,(c_heap h _).trans (World.rowIs.cell rX (i := 0) (by omega)),(c_heap h _).trans (World.rowIs.cell rX (i := 1) (by omega)),lX⟩
     have hfd := fld_t t0 k0 x0 (.slice (some ⟨g0,0,none⟩) 5 c0)
     clear he0 hv0 hl0 hr0 hm0 et0 ek0 ex0 eg0 ec0 ev0
     by_cases ht:t < t0
     ·have hd:decide (t < t0) = true := decide_eq_true ht
      go_wp2_with fail
      rw [← eW2]
      clear eW2 hrun hen
      go_region_held3 (fun w' => w'.cell? ⟨w1.heap.size + 1,0,none⟩ = some (.int .i64 t) ∧ w'.cell? ⟨w1.heap.size + 1,1,none⟩ = some (.int .i64 (m:Int)) ∧ w'.cell? ⟨w1.heap.size + 1,2,none⟩ = some (.int .i64 x) ∧ w'.cell? ⟨w1.heap.size + 1,3,none⟩ = some (.slice (some ⟨gg,0,none⟩) 5 cc) ∧ w'.cell? ⟨P,7,none⟩ = some (.map (some mb)) ∧ w'.cell? ⟨w.heap.size + 1,0,none⟩ = some (.int .i64 a) ∧ w'.cell? ⟨w.heap.size + 1,1,none⟩ = some (.int .i64 b) ∧ (Instr.lookup 157 (.map (some mb)) (.agg #[.int .i64 a,.int .i64 b]) false).run Tryz.prog w' = .ok (.agg #[.int .i64 t0,.int .i64 k0,.int .i64 x0,.slice (some ⟨g0,0,none⟩) 5 c0]) w') (first | exact HS.out _ B9.out _ rfl | exact HS.out _ (Below.refl _ _) _ rfl) (first
       | (go_at_call 86; refine (ready_any P m gg 0 cc K e.s.2.2 x _ hm (by exact G2.out.k5) (by exact V2.out)).mono ?_; rintro e9 w9 ⟨rfl,hb⟩; rw [← HH.out.2.2.2.1,hr]; have B9:Hid (Below W2.heap.size W2 w9) := below_same hb rfl rfl rfl rfl; clear hb))
      try go_frame
      have p0 := (B9.out.cell (p := ⟨w1.heap.size,0,none⟩) HL1.out).trans q0
      have p1 := (B9.out.cell (p := ⟨w1.heap.size,1,none⟩) HL1.out).trans q1
      have R9:Hid (w9.rowIs (w.heap.size + 1) 166 2 (pv a b)) := World.rowIs.of_block S2.out.1 (B9.out.block _ (World.rowIs.lt S2.out.1))
      have y0:w9.cell? ⟨w.heap.size + 1,0,none⟩ = some (.int .i64 a) := World.rowIs.cell R9.out (i := 0) (by omega)
      have y1:w9.cell? ⟨w.heap.size + 1,1,none⟩ = some (.int .i64 b) := World.rowIs.cell R9.out (i := 1) (by omega)
      have f0 := World.rowIs.frozen R9.out 0
      have f1 := World.rowIs.frozen R9.out 1
      go_wp2
      have hk:WideAt.IsKeyLit e.key := kl_key (En.okK (HG.out.ok e HH.out.2.1))
      have hM:FM K es (strike left e.key) (.agg #[.int .i64 (m:Int),.int .i64 n]) true := by
       rw [← HH.out.2.2.1]
       exact FM.less HG.out.uq H0.out.2.2.2.2.1 HH.out.2.1 hk hr (by rw [← HH.out.2.2.2.2.1,← H0.out.2.2.2.2.2]; exact ht)
      have fs := fr_store BW2.out S2.out.1 S2.out.2.1 S2.out.2.2 B9.out HG.out.lt.2 hM
      exact ⟨⟨(m:Int),n,true,_,_,rfl,fs.1⟩,by rw [fs.2,HH.out.2.2.2.2.2.2.1]; exact HH.out.2.2.2.2.2.1⟩
     ·have hd:decide (t < t0) = false := decide_eq_false ht
      go_wp2_with fail
      rw [← eW2]
      clear eW2 hrun hen
      go_region_held3 (fun w' => w'.cell? ⟨w1.heap.size + 1,0,none⟩ = some (.int .i64 t) ∧ w'.cell? ⟨w1.heap.size + 1,1,none⟩ = some (.int .i64 (m:Int)) ∧ w'.cell? ⟨w1.heap.size + 1,2,none⟩ = some (.int .i64 x) ∧ w'.cell? ⟨w1.heap.size + 1,3,none⟩ = some (.slice (some ⟨gg,0,none⟩) 5 cc) ∧ w'.cell? ⟨P,7,none⟩ = some (.map (some mb)) ∧ w'.cell? ⟨w.heap.size + 1,0,none⟩ = some (.int .i64 a) ∧ w'.cell? ⟨w.heap.size + 1,1,none⟩ = some (.int .i64 b) ∧ (Instr.lookup 157 (.map (some mb)) (.agg #[.int .i64 a,.int .i64 b]) false).run Tryz.prog w' = .ok (.agg #[.int .i64 t0,.int .i64 k0,.int .i64 x0,.slice (some ⟨g0,0,none⟩) 5 c0]) w') (first | exact HS.out _ B9.out _ rfl | exact HS.out _ (Below.refl _ _) _ rfl) (first
       | (go_at_call 86; refine (ready_any P m gg 0 cc K e.s.2.2 x _ hm (by exact G2.out.k5) (by exact V2.out)).mono ?_; rintro e9 w9 ⟨rfl,hb⟩; rw [← HH.out.2.2.2.1,hr]; have B9:Hid (Below W2.heap.size W2 w9) := below_same hb rfl rfl rfl rfl; clear hb))
      try go_frame
      go_wp2_with fail
      have fc := fr_close BW2.out S2.out.1 S2.out.2.1 S2.out.2.2 B9.out (by rw [H0.out.2.1]; exact FM.more HG.out.uq H0.out.1 H0.out.2.2.1 H0.out.2.2.2.1 H0.out.2.2.2.2.1 HH.out.2.1 (by rw [← HH.out.2.2.2.2.1,← H0.out.2.2.2.2.2]; omega))
      exact ⟨⟨a,b,true,_,_,rfl,fc.1⟩,by rw [fc.2,HH.out.2.2.2.2.2.2.1]; exact HH.out.2.2.2.2.2.1⟩
end Go.Proofs.YtdmniblonikjlakGreatDoor.Cap


namespace Go.Proofs.YtdmniblonikjlakGreatDoor.Cap
open Go.RowKit Go.Maps
open Cau
open Vec (code Vw anyP ret_bool)
open Fif (own_lt own_block own_mono own_vw own_form Kp info_int new_int int_one lenOf)
set_option linter.unusedVariables false
variable {base P mb:Nat} {me:Int} {K:List Int} {cn:Int} {es:List En}
theorem blk_push {w w':World} {ob:Obj} (e:w'.heap = w.heap.push ob) {k:Nat} (hk:k < w.heap.size):w'.heap[k]? = w.heap[k]? := by
 rw [e,Array.getElem?_push_lt hk,Array.getElem?_eq_getElem hk]
theorem own_push {w w':World} {ob:Obj} {base:Nat} {t:TypeId} {s n:Nat} {v:Value} {xs:List Value} (o:w.ownsRow base t s v n xs) (e:w'.heap = w.heap.push ob):w'.ownsRow base t s v n xs := own_block o fun k hk => blk_push e (own_lt o k hk).2
theorem int_push {w w':World} {x:Int} {t:TypeId} (e:w'.heap = w.heap.push (.cells #[.int .i64 x] t)):∀ j u,[Value.int .i64 x][j]? = some u → w'.cell? ((⟨w.heap.size,0,none⟩:Addr).add j) = some u := by
 intro j u hj
 refine Eq.trans (World.cell?_of_block ?_) (new_int w _ rfl x t j u hj)
 rw [e]
 rfl
theorem grown_push {w2 X w3:World} {ob:Obj} {r:Option Nat} (hg:X.grownBy w3 r) (e:X.heap = w2.heap.push ob) (e1:X.os = w2.os) (e2:X.tape = w2.tape) (e3:X.output = w2.output):(w2.alloc ob).grownBy w3 r := by
 obtain ⟨a1,a2,a3,a4,a5⟩ := hg
 exact ⟨a1.trans e1,a2.trans e2,a3.trans e3,by rw [e] at a4; exact a4,fun k hk hne => (a5 k (by rw [e]; exact hk) hne).trans (by rw [e]; rfl)⟩
theorem rdy_own {K:List Int} {s:Sd} (h:rdy K s = true) {m:Nat} (hm:m < 5) (e:s.1 = (m:Int)):s.2.2.getD m 0 = K.getD m 0 + 1 := by
 have := rdy_iff.1 h m hm
 rw [rdyAt_own e.symm] at this
 exact of_decide_eq_true this
structure HM (w:World) (base P mb:Nat) (me cn:Int) (es0:List En) (fin:List Int × List Int × List Sd) (wr:World) (vo:Value) (more:Bool) (K:List Int) (es:List En) (out:List Int) (a b:Int):Prop where
 cf:CF wr base P mb me K cn es
 cnt:Cn K cn es
 own:wr.ownsRow (w.heap.size + 1) 3 1 vo out.length (out.map (Value.int .i64))
 len:es.length + out.length = es0.length
 sub:∀ e ∈ es,e ∈ es0
 bel:Below base w wr
 kp:Kp w wr P (some mb)
 row:wr.rowIs w.heap.size 166 2 (pv a b)
 way:(more = true ∧ ∃ i,∃ hi:i < es.length,.agg #[.int .i64 a,.int .i64 b] = es[i].at ∧ rdy K es[i].s = true ∧ (out ++ (go1 K (es.map En.s) i).1,(go1 K (es.map En.s) i).2) = fin) ∨ (more = false ∧ (out,K,es.map En.s) = fin)
set_option maxRecDepth 100000 in
set_option maxHeartbeats 1000000 in
theorem hear_any (i:Nat) (a b:Int) (w:World) (hi:i < es.length) (hat:.agg #[.int .i64 a,.int .i64 b] = es[i].at) (g:CF w base P mb me K cn es) (hc:Cn K cn es) (hr:rdy K es[i].s = true) (hl:es.length ≤ 41) (hbw:base ≤ w.heap.size) :
  Calls Tryz.prog 87 #[.pointer (some ⟨P,0,none⟩),.agg #[.int .i64 a,.int .i64 b]] w fun x w' => ∃ vo es',x = .returned vo ∧
   CF w' base P mb me (go1 K (es.map En.s) i).2.1 cn es' ∧ Cn (go1 K (es.map En.s) i).2.1 cn es' ∧ es'.map En.s = (go1 K (es.map En.s) i).2.2 ∧ (∀ e ∈ es',e ∈ es) ∧
   w'.ownsRow w.heap.size 3 1 vo (go1 K (es.map En.s) i).1.length ((go1 K (es.map En.s) i).1.map (Value.int .i64)) ∧ Below base w w' ∧ Kp w w' P (some mb) := by
 obtain ⟨fin,efin⟩:∃ fin,fin = go1 K (es.map En.s) i := ⟨_,rfl⟩
 rw [← efin]
 obtain ⟨W,eW⟩:∃ W,W = w.alloc (.cells #[.int .i64 a,.int .i64 b] 166) := ⟨_,rfl⟩
 have BW:Hid (Below w.heap.size w W) := by rw [eW]; exact (Below.refl _ _).alloc (Nat.le_refl _) _
 have M0:Hid (HM w base P mb me cn es fin W (.slice none 0 0) true K es [] a b) := by
  refine ⟨g.later BW.out,hc,World.ownsRow_nil _ _ _ _,rfl,fun _ h => h,BW.out.mono hbw,Kp.below BW.out _,?_,.inl ⟨rfl,i,hi,hat,hr,by rw [efin]; rfl⟩⟩
  rw [eW]
  exact pv_new w a b
 have HG0:Hid (CF w base P mb me K cn es) := g
 obtain ⟨ii,hii,hz0,hz1,hz2⟩ := info_int
 have HJ:Hid (Tryz.prog.info? 3 = some ii ∧ ii.zero = some (.int .i64 0) ∧ ii.size = 1 ∧ ii.bytes = 8) := ⟨hii,hz0,hz1,hz2⟩
 have HB0:Hid (base ≤ w.heap.size ∧ es.length ≤ 41) := ⟨hbw,hl⟩
 clear g hc hr hat hbw hl hii hz0 hz1 hz2 efin hi
 go_enter Tryz.func87,Tryz.ntmps87
 go_wp2
 rw [← eW]
 clear eW
 go_loopw [5,6] (fun x y wr => ∃ (more:Bool) (K':List Int) (es':List En) (out:List Int) (a' b':Int),y = .bool more ∧ Hid (HM w base P mb me cn es fin wr x more K' es' out a' b')) (fun x _ _ => 42 - lenOf x)
 case atStart => exact ⟨true,K,es,[],a,b,rfl,M0⟩
 case round =>
  obtain ⟨more,K',es',out,a',b',rfl,hM⟩ := hrel
  cases more
  ·obtain ⟨qo,co,rfl⟩ := own_form hM.out.own
   go_wp2
   go_ret
   have h := hM.out
   rcases h.way with ⟨q,_⟩ | ⟨_,e⟩
   ·cases q
   ·rw [← e]
    exact ⟨_,es',rfl,h.cf,h.cnt,rfl,h.sub,own_mono h.own (Nat.le_succ _),h.bel,h.kp⟩
  ·obtain ⟨qo,co,rfl⟩ := own_form hM.out.own
   obtain ⟨j,hj,hat,hrd,hfin⟩:∃ i,∃ hi:i < es'.length,.agg #[.int .i64 a',.int .i64 b'] = es'[i].at ∧ rdy K' es'[i].s = true ∧ (out ++ (go1 K' (es'.map En.s) i).1,(go1 K' (es'.map En.s) i).2) = fin := by
    rcases hM.out.way with ⟨_,q⟩ | ⟨q,_⟩
    ·exact q
    ·cases q
   have he:es'[j] ∈ es' := List.getElem_mem hj
   obtain ⟨m,em,hm⟩ := who_nat (hM.out.cf.ok _ he)
   have hab:a' = (m:Int) ∧ b' = es'[j].n := by
    rw [En.at,em] at hat
    simpa using hat
   obtain ⟨rfl,eb⟩ := hab
   obtain ⟨x,ex⟩:∃ x,x = es'[j].s.2.1 := ⟨_,rfl⟩
   obtain ⟨t,et⟩:∃ t,t = es'[j].t := ⟨_,rfl⟩
   obtain ⟨gg,egg⟩:∃ gg,gg = es'[j].g := ⟨_,rfl⟩
   obtain ⟨cc,ecc⟩:∃ cc,cc = es'[j].c := ⟨_,rfl⟩
   have eval:es'[j].val = .agg #[.int .i64 t,.int .i64 (m:Int),.int .i64 x,.slice (some ⟨gg,0,none⟩) 5 cc] := by rw [En.val,em,et,ex,egg,ecc]
   have hKm:K'.getD m 0 < 1000000 ∧ 0 ≤ K'.getD m 0 := by
    have h1 := rdy_own hrd hm em
    have h2 := (code_num (hM.out.cf.ok _ he).clk).2 m hm
    have h3 := hM.out.cf.num m hm
    omega
   obtain ⟨y,ey⟩:∃ y,y = K'.getD m 0 := ⟨_,rfl⟩
   obtain ⟨lo,elo⟩:∃ lo,lo = out.length := ⟨_,rfl⟩
   have hlo:lo ≤ 40 := by have := hM.out.len; have := HB0.out.2; omega
   have OO:Hid (wr.ownsRow (w.heap.size + 1) 3 1 (.slice qo lo co) lo (out.map (Value.int .i64)) ∧ w.heap.size + 1 ≤ wr.heap.size ∧ ∀ k,(Value.slice qo lo co).ownBlock = some k → w.heap.size + 1 ≤ k ∧ k < wr.heap.size) := by
    have o := hM.out.own
    rw [← elo] at o
    have := World.rowIs.lt hM.out.row
    exact ⟨o,this,own_lt o⟩
   have NE:Hid (∀ k,k ≤ w.heap.size → some k ≠ (Value.slice qo lo co).ownBlock) := fun k hk q => by have := (OO.out.2.2 k q.symm).1; omega
   have HF:Hid (∀ w':World,(∀ k,k < wr.heap.size → some k ≠ (Value.slice qo lo co).ownBlock → w'.heap[k]? = wr.heap[k]?) → w'.cell? ⟨P,7,none⟩ = some (.map (some mb)) ∧ w'.cell? ⟨w.heap.size,0,none⟩ = some (.int .i64 (m:Int)) ∧ w'.cell? ⟨w.heap.size,1,none⟩ = some (.int .i64 b') ∧ (Instr.lookup 157 (.map (some mb)) (.agg #[.int .i64 (m:Int),.int .i64 b']) false).run Tryz.prog w' = .ok (.agg #[.int .i64 t,.int .i64 (m:Int),.int .i64 x,.slice (some ⟨gg,0,none⟩) 5 cc]) w') := by
    intro w' h
    have bP := h P hM.out.cf.lt.1 (NE.out P (Nat.le_of_lt HG0.out.lt.1))
    have bM := h mb hM.out.cf.lt.2 (NE.out mb (Nat.le_of_lt HG0.out.lt.2))
    have bR := h w.heap.size (World.rowIs.lt hM.out.row) (NE.out _ (Nat.le_refl _))
    have l := hM.out.cf.look he w' bM
    rw [← hat,eval] at l
    exact ⟨(World.cell?_of_block (a := ⟨P,7,none⟩) bP).trans hM.out.cf.wait.1,(World.cell?_of_block (a := ⟨w.heap.size,0,none⟩) bR).trans (World.rowIs.cell hM.out.row (i := 0) (by omega)),(World.cell?_of_block (a := ⟨w.heap.size,1,none⟩) bR).trans (World.rowIs.cell hM.out.row (i := 1) (by omega)),l⟩
   have hf1 := fld_s t (m:Int) x (.slice (some ⟨gg,0,none⟩) 5 cc)
   have hf2 := fld_w (m:Int) x (.slice (some ⟨gg,0,none⟩) 5 cc)
   have HE:Hid (em = em ∧ .agg #[.int .i64 (m:Int),.int .i64 b'] = es'[j].at ∧ x = es'[j].s.2.1 ∧ es'[j].s.1 = (m:Int) ∧ (out ++ (go1 K' (es'.map En.s) j).1,(go1 K' (es'.map En.s) j).2) = fin ∧ y = K'.getD m 0 ∧ lo = out.length ∧ y < 1000000 ∧ 0 ≤ y) := ⟨rfl,hat,ex,em,hfin,ey,elo,by rw [ey]; exact hKm.1,by rw [ey]; exact hKm.2⟩
   have hm0:(0:Int) ≤ (m:Int) := by omega
   have hm5:(m:Int) < 5 := by omega
   have h8:(lo + 1) * 8 ≤ 140737488355328 := by omega
   rw [← elo]
   clear hat hrd hfin eb ex et egg ecc eval hKm ey elo
   go_wp2_with fail
   go_region_held3 (fun w' => w'.cell? ⟨P,7,none⟩ = some (.map (some mb)) ∧ w'.cell? ⟨w.heap.size,0,none⟩ = some (.int .i64 (m:Int)) ∧ w'.cell? ⟨w.heap.size,1,none⟩ = some (.int .i64 b') ∧ (Instr.lookup 157 (.map (some mb)) (.agg #[.int .i64 (m:Int),.int .i64 b']) false).run Tryz.prog w' = .ok (.agg #[.int .i64 t,.int .i64 (m:Int),.int .i64 x,.slice (some ⟨gg,0,none⟩) 5 cc]) w') (first | exact HF.out _ (fun _ _ _ => rfl) | exact HF.out _ K5.out | exact HF.out _ (fun _ hk _ => blk_push rfl hk)) (first
    | (refine step_append_lies _ (by rfl) _ _ _ (by rfl) (w.heap.size + 1) 3 ii (.int .i64 0) 1 8 Tryz.underlying30 HJ.out.1 HJ.out.2.1 HJ.out.2.2.1 HJ.out.2.2.2 rfl (by omega) (.slice qo lo co) lo (out.map (Value.int .i64)) (by rfl) (by exact own_push OO.out.1 rfl) ⟨wr.heap.size,0,none⟩ 1 1 [.int .i64 x] (by rfl) (by rfl) (by exact int_push rfl) (int_one _) (by omega) (by unfold maxLen; omega) h8 (by have := OO.out.2.1; simp; omega) (wr.heap.size + 1) (by simp) ?_; intro g5 c5 w5 hown hgrow hat hlt5; have G5:Hid ((wr.alloc (.cells #[.int .i64 x] 3)).grownBy w5 (Value.slice qo lo co).ownBlock) := grown_push hgrow rfl rfl rfl rfl; have O5:Hid (w5.ownsRow (w.heap.size + 1) 3 1 (.slice (some ⟨g5,0,none⟩) (lo + 1) c5) (lo + 1) (out.map (Value.int .i64) ++ [.int .i64 x])) := hown; have K5:Hid (∀ k,k < wr.heap.size → some k ≠ (Value.slice qo lo co).ownBlock → w5.heap[k]? = wr.heap[k]?) := fun k hk hne => (G5.out.block k (by simp; omega) hne).trans (blk_push rfl hk); clear hown hgrow hat hlt5))
   have F5:Hid (CF w5 base P mb me K' cn es') := hM.out.cf.of_blocks fun k hk => K5.out k (hM.out.cf.fp k hk).2 (NE.out k (by
    rcases List.mem_cons.1 hk with rfl | hk
    ·exact Nat.le_of_lt HG0.out.lt.1
    ·rcases List.mem_cons.1 hk with rfl | hk
     ·exact Nat.le_of_lt HG0.out.lt.2
     ·obtain ⟨e1,he1,rfl⟩ := List.mem_map.1 hk
      exact Nat.le_of_lt (HG0.out.glt (hM.out.sub e1 he1)).2))
   have R5:Hid (w5.rowIs w.heap.size 166 2 (pv (m:Int) b')) := World.rowIs.of_block hM.out.row (K5.out _ (World.rowIs.lt hM.out.row) (NE.out _ (Nat.le_refl _)))
   obtain ⟨W6,hdel,hF6,hT6⟩ := CF.del (w := w5.drew) (F5.out.of_blocks fun _ _ => rfl) hj 0
   rw [← HE.out.2.1] at hdel
   have F6:Hid (CF W6 base P mb me K' cn (es'.eraseIdx j) ∧ w5.drew.mapTurned W6 mb) := ⟨hF6,hT6⟩
   obtain ⟨b7,_⟩ := F5.out.wait
   have b0:w5.cell? ⟨w.heap.size,0,none⟩ = some (.int .i64 (m:Int)) := World.rowIs.cell R5.out (i := 0) (by omega)
   have b1:w5.cell? ⟨w.heap.size,1,none⟩ = some (.int .i64 b') := World.rowIs.cell R5.out (i := 1) (by omega)
   clear hF6 hT6 hf1 hf2
   go_wp2_with fail
   go_region
   have R6:Hid (W6.rowIs w.heap.size 166 2 (pv (m:Int) b')) := World.rowIs.of_block (w := w5.drew) (World.rowIs.of_block R5.out rfl) (g_of_turned F6.out.2 (World.rowIs.lt R5.out) (by have := HG0.out.lt.2; show w.heap.size ≠ mb; omega))
   have c0:W6.cell? ⟨w.heap.size,0,none⟩ = some (.int .i64 (m:Int)) := World.rowIs.cell R6.out (i := 0) (by omega)
   obtain ⟨cm,zm⟩ := F6.out.1.clock hm
   rw [← HE.out.2.2.2.2.2.1] at cm
   have hy:y + 1 ≤ 1000000 := by have := HE.out.2.2.2.2.2.2.2.1; omega
   have hy0:0 ≤ y := HE.out.2.2.2.2.2.2.2.2
   clear hdel b7 b0 b1
   go_wp2_with fail
   go_region
   obtain ⟨W7,eW7⟩:∃ W7,W7 = (W6.setCell ⟨P,1 + m,none⟩ (.int .i64 (y + 1))).drew := ⟨_,rfl⟩
   rw [← eW7]
   have F7:Hid (CF W7 base P mb me (inc K' (m:Int)) cn (es'.eraseIdx j) ∧ W7.rowIs w.heap.size 166 2 (pv (m:Int) b') ∧ Below base wr W7 ∧ Kp w W7 P (some mb) ∧ W7.ownsRow (w.heap.size + 1) 3 1 (.slice (some ⟨g5,0,none⟩) (lo + 1) c5) (lo + 1) (out.map (Value.int .i64) ++ [.int .i64 x])) := by
    have q := F6.out.1.incK hm (by rw [← HE.out.2.2.2.2.2.1]; exact HE.out.2.2.2.2.2.2.2.1)
    rw [← HE.out.2.2.2.2.2.1] at q
    have hPw:P ≠ w.heap.size := by have := HG0.out.lt.1; omega
    have hMw:mb < w.heap.size := HG0.out.lt.2
    have hbw:base ≤ wr.heap.size := by have := OO.out.2.1; have := HB0.out.1; omega
    have b5:Below base wr w5 := ((Below.refl base wr).alloc hbw _).grown G5.out (by simp; omega) (fun k e => by have := (OO.out.2.2 k e).1; have := HB0.out.1; omega)
    have b6:Below base wr W6 := (b5.drew).trans (turned_below F6.out.2 F6.out.1.low.2)
    have k2:Kp w (wr.alloc (.cells #[.int .i64 x] 3)) P (some mb) := hM.out.kp.trans (r' := none) (Kp.alloc wr _ P none) (by simp)
    have k3:Kp w w5 P (some mb) := k2.trans (Kp.grown G5.out P) (fun k e => .inl (by have := (OO.out.2.2 k e).1; omega))
    have k4:Kp w w5.drew P (some mb) := k3
    have k6:Kp w W6 P (some mb) := k4.trans (turned_kp F6.out.2 P) (fun k e => .inr (.inl e))
    rw [eW7]
    refine ⟨q.of_blocks fun _ _ => rfl,World.rowIs.of_block (World.rowIs.setOther R6.out (a := ⟨P,1 + m,none⟩) (Ne.symm hPw) _) rfl,(b6.setCell (p := ⟨P,1 + m,none⟩) F6.out.1.low.1 _).drew,?_,?_⟩
    ·exact k6.trans (r' := none) (Kp.setCell W6 P (1 + m) _ none) (by simp)
    ·refine own_block O5.out fun k hk => ?_
     have hk1 := own_lt O5.out k hk
     show (W6.setCell ⟨P,1 + m,none⟩ (.int .i64 (y + 1))).heap[k]? = _
     rw [Deep.blk_setCell_other _ _ _ _ (by show k ≠ P; have := HG0.out.lt.1; omega)]
     exact g_of_turned (w := w5.drew) F6.out.2 hk1.2 (by omega)
   clear eW7 c0 cm zm
   go_wp2_with fail
   refine (first_any W7 F7.out.1).mono ?_
   rintro e8 w8 ⟨a8,b8,more8,rfl,hB8,hW8⟩
   have B8:Hid (Below W7.heap.size W7 w8 ∧ ((more8 = true ∧ ∃ i,∃ hi:i < (es'.eraseIdx j).length,.agg #[.int .i64 a8,.int .i64 b8] = (es'.eraseIdx j)[i].at ∧ rdy (inc K' (m:Int)) (es'.eraseIdx j)[i].s = true ∧ ((es'.eraseIdx j).map En.s).findIdx? (rdy (inc K' (m:Int))) = some i) ∨ (more8 = false ∧ ((es'.eraseIdx j).map En.s).findIdx? (rdy (inc K' (m:Int))) = none))) := ⟨hB8,hW8⟩
   have R8:Hid (w8.rowIs w.heap.size 166 2 (pv (m:Int) b')) := World.rowIs.of_block F7.out.2.1 (B8.out.1.block _ (World.rowIs.lt F7.out.2.1))
   have d0:w8.cell? ⟨w.heap.size,0,none⟩ = some (.int .i64 (m:Int)) := World.rowIs.cell R8.out (i := 0) (by omega)
   have d1:w8.cell? ⟨w.heap.size,1,none⟩ = some (.int .i64 b') := World.rowIs.cell R8.out (i := 1) (by omega)
   have f0 := World.rowIs.frozen R8.out 0
   have f1 := World.rowIs.frozen R8.out 1
   clear hB8 hW8
   go_wp2
   go_roundw
   case rel =>
    have bl:∀ k,k ≠ w.heap.size → ((w8.setCell ⟨w.heap.size,0,none⟩ (.int .i64 a8)).setCell ⟨w.heap.size,1,none⟩ (.int .i64 b8)).heap[k]? = w8.heap[k]? := by
     intro k hk
     rw [Deep.blk_setCell_other _ _ _ _ hk,Deep.blk_setCell_other _ _ _ _ hk]
    have hsub := List.eraseIdx_sublist es' j
    have hbw:base ≤ w.heap.size := HB0.out.1
    have h7:w.heap.size ≤ W7.heap.size := Nat.le_of_lt (World.rowIs.lt F7.out.2.1)
    have b8':Below base w w8 := (hM.out.bel.trans F7.out.2.2.1).trans (B8.out.1.mono (by omega))
    have eg:go1 K' (es'.map En.s) j = (x :: (run (inc K' (m:Int)) ((es'.eraseIdx j).map En.s)).1,(run (inc K' (m:Int)) ((es'.eraseIdx j).map En.s)).2) := by
     unfold go1
     rw [sd_map hj,HE.out.2.2.2.1,← HE.out.2.2.1,erase_map]
    have hf := HE.out.2.2.2.2.1
    rw [eg] at hf
    refine ⟨more8,inc K' (m:Int),es'.eraseIdx j,out ++ [x],a8,b8,rfl,(F7.out.1.later B8.out.1).of_blocks fun k hk => bl k ?_,hM.out.cnt.del hM.out.cf.five hm hj,?_,?_,fun e he => hM.out.sub e (hsub.subset he),(b8'.setCell (p := ⟨w.heap.size,0,none⟩) hbw _).setCell (p := ⟨w.heap.size,1,none⟩) hbw _,⟨?_,fun k hk hP hne => ?_⟩,((World.rowIs.set R8.out 0 _).set 1 _).congr fun q hq => ?_,?_⟩
    ·rcases List.mem_cons.1 hk with rfl | hk
     ·exact Nat.ne_of_lt HG0.out.lt.1
     ·rcases List.mem_cons.1 hk with rfl | hk
      ·exact Nat.ne_of_lt HG0.out.lt.2
      ·obtain ⟨e1,he1,rfl⟩ := List.mem_map.1 hk
       exact Nat.ne_of_lt (HG0.out.glt (hM.out.sub e1 (hsub.subset he1))).2
    ·have o := F7.out.2.2.2.2
     rw [List.length_append,List.map_append,← HE.out.2.2.2.2.2.2.1]
     refine own_block o fun k hk => ?_
     have hk1 := own_lt o k hk
     rw [bl k (by omega)]
     exact B8.out.1.block k hk1.2
    ·have := hM.out.len
     rw [List.length_append,List.length_eraseIdx,if_pos hj]
     simp
     omega
    ·exact ((b8'.setCell (p := ⟨w.heap.size,0,none⟩) hbw (.int .i64 a8)).setCell (p := ⟨w.heap.size,1,none⟩) hbw (.int .i64 b8)).size
    ·rw [bl k (by omega),B8.out.1.block k (by omega)]
     exact F7.out.2.2.2.1.2 k hk hP hne
    ·rcases q with _ | _ | q
     ·rfl
     ·rfl
     ·omega
    ·rcases B8.out.2 with ⟨h1,i8,hi8,hat8,hr8,hx8⟩ | ⟨h1,hx8⟩
     ·refine .inl ⟨h1,i8,hi8,hat8,hr8,?_⟩
      rw [← hf,run_go hx8]
      unfold go1
      simp
     ·refine .inr ⟨h1,?_⟩
      rw [← hf,run_stop hx8]
   case measure => simp [lenOf]; omega
end Go.Proofs.YtdmniblonikjlakGreatDoor.Cap
