/-
  A way of AgainPlays: words are freed.
-/
import Derived.Test.YtdhlfbpflngmbafDoorAgpT
namespace Go.Proofs.YtdhlfbpflngmbafDoor.Aga
open Go.RowKit
open Go.Proofs.YtdhlfbpflngmbafDoor.As (Laid)
open Go.Proofs.YtdhlfbpflngmbafDoor.Fif (Cm Inv RS rsv tk tkC tk_no tk_ok run own_lt own_block own_form own_mono own_vw Kp ret_bool)
open Go.Proofs.YtdhlfbpflngmbafDoor.Sep (KpL NewL setF set_same set_other)
open Go.Proofs.YtdhlfbpflngmbafDoor.Vec (Vw Rw ints_any)
set_option linter.unusedVariables false
set_option maxRecDepth 100000 in
set_option maxHeartbeats 4000000 in
theorem aw_free (w : World) (Ps Ph M Q V : Nat) (said : List Int) (free : Nat) (H : List Int) (ws : List Cm) (vS vW : Value) (F : Nat → List Nat) (i : Nat) (k0 k1 k2 : Int) (w3 : World) (hL : Laid w) (hi120 : i < 120) (G3 : Hid (PG w Ps Ph M Q w3 said free (H.getD 0 0) ws said free H ws vS vW F ∧ V3 w3 V k0 k1 k2 ∧ F 4 = [V] ∧ SInv said free ∧ HInv (H.getD 0 0) ws ∧ Inv H ws ∧ said.length ≤ i)) (Q4 : Exit → Act → World → Prop)
    (c0 c1 c2 c7 c9 c12 c13 c14 c15 c16 c17 c18 c19 c20 c21 c22 c23 c24 c25 c26 c27 c28 u29 u30 u31 u32 u33 u34 u35 u36 u37 u38 u39 u40 u41 u42 u43 u44 u45 u46 u47 u48 u49 u50 u51 u52 u53 u54 u55 u56 u57 u58 u59 u60 u61 u62 u63 u64 u65 u66 u67 u69 u70 u71 u72 u73 u74 u75 u76 u77 u78 u79 u80 u81 u82 u83 u84 u85 u86 u87 u88 u89 u90 u91 u92 u93 u94 u95 u96 u97 u98 u99 u100 u101 u102 u103 u104 u105 u106 u107 u108 u109 u110 u111 u112 u113 u114 u115 u116 u117 u118 u119 u120 u121 u122 u123 u124 u125 u126 u127 u128 u129 u130 u131 u132 u133 u134 u135 u136 u137 u138 u139 u140 u141 u142 u143 u144 u145 u146 u147 u148 u149 u150 u151 u152 u153 u154 u155 u156 u157 u158 u159 u160 u161 u162 u163 u164 u165 u166 u167 u168 u169 u170 u171 u172 u173 u174 u175 u176 u177 u178 u179 u180 u181 u182 u183 u184 u185 u186 u187 u188 u189 u190 u191 u192 u193 u194 u195 u196 u197 u198 u199 u200 u201 u202 u203 u204 u205 u206 u207 u208 u209 u210 u211 u212 u213 u214 u215 u216 u217 u218 u219 u220 u221 u222 u223 u224 u225 u226 u227 u228 u229 u230 u231 u232 u233 u234 u235 u236 u237 u238 u239 u240 u241 u242 u243 u244 u245 u246 u247 u248 u249 u250 u251 u252 u253 u254 u255 u256 u257 u258 u259 u260 u261 u262 u263 u264 u265 u266 u267 u268 u269 u270 u271 u272 u273 u274 u275 u276 u277 u278 u279 u280 u281 u282 u283 u284 u285 u286 u287 u288 u289 u290 u291 u292 u293 u294 u295 u296 u297 u298 u299 u300 u301 u302 u303 u304 u305 u306 : Value)
    (hQ : ∀ (s10 s12 s13 s14 s15 s16 s17 s18 s19 s20 s21 s35 s36 s37 s38 s39 s40 s41 s42 s43 s44 s45 s46 s47 s48 s49 s50 s51 s52 s53 s54 s55 s56 s57 s58 s59 s60 s61 s62 s63 s64 s65 s66 s67 s68 s69 s70 s71 s72 s73 s74 s75 s76 s77 s78 s79 s80 s81 s82 s83 s84 s85 s86 s87 s88 s89 s90 s91 s92 s93 s94 s95 s96 s97 s98 s99 s100 s101 s102 s103 s104 s105 s106 s107 s108 s109 s110 s111 s112 s113 s114 s115 s116 s117 s118 s119 s120 s121 s122 s123 s124 s125 s126 s127 s128 s129 s130 s131 s132 s133 s134 s135 s136 s137 s138 s139 s140 s141 s142 s143 s144 s145 s146 s147 s148 s149 s150 s151 s152 s153 s154 s155 s156 s157 s158 s159 s160 s161 s162 s163 s164 s165 s166 s167 s168 s169 s170 s171 s172 s173 s174 s175 s176 s177 s178 s179 s180 s181 s182 s183 s184 s185 s186 s187 s188 s189 s190 s191 s192 s193 s194 s195 s196 s197 s198 s199 s200 s201 s202 s203 s204 s205 s206 s207 s208 s209 s210 s211 s212 s213 s214 s215 s216 s217 s218 s219 s220 s221 s222 s223 s224 s225 s226 s227 s228 s229 s230 s231 s232 s233 s234 s235 s236 s237 s238 s239 s240 s241 s242 s243 s244 s245 s246 s247 s248 s249 s250 s251 s252 s253 s254 s255 s256 s257 s258 s259 s260 s261 s262 s263 s264 s265 s266 s267 s268 s269 s270 s271 s272 s273 s274 s275 s276 s277 s278 s279 s280 s281 s282 s283 s284 s285 s286 s287 s288 s289 s290 s291 s292 s293 s294 s295 s296 s297 s298 s299 s300 s301 s302 s303 s304 s305 s306 : Value) (wz : World), Hid (PB w Ps Ph M Q V k0 k1 k2 (i + 1) wz) → Q4 .normal ⟨List.toArray (c0 :: c1 :: c2 :: (.pointer (some ⟨Ps, 0, none⟩)) :: (.pointer (some ⟨Ph, 0, none⟩)) :: (.pointer (some ⟨M, 0, none⟩)) :: (.pointer (some ⟨Q, 0, none⟩)) :: c7 :: (.pointer (some ⟨V, 0, none⟩)) :: c9 :: s10 :: (.bool true) :: s12 :: s13 :: s14 :: s15 :: s16 :: s17 :: s18 :: s19 :: s20 :: s21 :: c22 :: c23 :: c24 :: c25 :: c26 :: c27 :: c28 :: u29 :: u30 :: u31 :: u32 :: u33 :: u34 :: s35 :: s36 :: s37 :: s38 :: s39 :: s40 :: s41 :: s42 :: s43 :: s44 :: s45 :: s46 :: s47 :: s48 :: s49 :: s50 :: s51 :: s52 :: s53 :: s54 :: s55 :: s56 :: s57 :: s58 :: s59 :: s60 :: s61 :: s62 :: s63 :: s64 :: s65 :: s66 :: s67 :: s68 :: s69 :: s70 :: s71 :: s72 :: s73 :: s74 :: s75 :: s76 :: s77 :: s78 :: s79 :: s80 :: s81 :: s82 :: s83 :: s84 :: s85 :: s86 :: s87 :: s88 :: s89 :: s90 :: s91 :: s92 :: s93 :: s94 :: s95 :: s96 :: s97 :: s98 :: s99 :: s100 :: s101 :: s102 :: s103 :: s104 :: s105 :: s106 :: s107 :: s108 :: s109 :: s110 :: s111 :: s112 :: s113 :: s114 :: s115 :: s116 :: s117 :: s118 :: s119 :: s120 :: s121 :: s122 :: s123 :: s124 :: s125 :: s126 :: s127 :: s128 :: s129 :: s130 :: s131 :: s132 :: s133 :: s134 :: s135 :: s136 :: s137 :: s138 :: s139 :: s140 :: s141 :: s142 :: s143 :: s144 :: s145 :: s146 :: s147 :: s148 :: s149 :: s150 :: s151 :: s152 :: s153 :: s154 :: s155 :: s156 :: s157 :: s158 :: s159 :: s160 :: s161 :: s162 :: s163 :: s164 :: s165 :: s166 :: s167 :: s168 :: s169 :: s170 :: s171 :: s172 :: s173 :: s174 :: s175 :: s176 :: s177 :: s178 :: s179 :: s180 :: s181 :: s182 :: s183 :: s184 :: s185 :: s186 :: s187 :: s188 :: s189 :: s190 :: s191 :: s192 :: s193 :: s194 :: s195 :: s196 :: s197 :: s198 :: s199 :: s200 :: s201 :: s202 :: s203 :: s204 :: s205 :: s206 :: s207 :: s208 :: s209 :: s210 :: s211 :: s212 :: s213 :: s214 :: s215 :: s216 :: s217 :: s218 :: s219 :: s220 :: s221 :: s222 :: s223 :: s224 :: s225 :: s226 :: s227 :: s228 :: s229 :: s230 :: s231 :: s232 :: s233 :: s234 :: s235 :: s236 :: s237 :: s238 :: s239 :: s240 :: s241 :: s242 :: s243 :: s244 :: s245 :: s246 :: s247 :: s248 :: s249 :: s250 :: s251 :: s252 :: s253 :: s254 :: s255 :: s256 :: s257 :: s258 :: s259 :: s260 :: s261 :: s262 :: s263 :: s264 :: s265 :: s266 :: s267 :: s268 :: s269 :: s270 :: s271 :: s272 :: s273 :: s274 :: s275 :: s276 :: s277 :: s278 :: s279 :: s280 :: s281 :: s282 :: s283 :: s284 :: s285 :: s286 :: s287 :: s288 :: s289 :: s290 :: s291 :: s292 :: s293 :: s294 :: s295 :: s296 :: s297 :: s298 :: s299 :: s300 :: s301 :: s302 :: s303 :: s304 :: s305 :: s306 :: []), []⟩ wz)
    (hk : k0 = 3) : Code.wp Tryd.prog ((Tryd.f3.body.bind (blockAt 4)).getD .skip) Q4 ⟨List.toArray (c0 :: c1 :: c2 :: (.pointer (some ⟨Ps, 0, none⟩)) :: (.pointer (some ⟨Ph, 0, none⟩)) :: (.pointer (some ⟨M, 0, none⟩)) :: (.pointer (some ⟨Q, 0, none⟩)) :: c7 :: (.pointer (some ⟨V, 0, none⟩)) :: c9 :: (.int .i64 0) :: (.bool false) :: c12 :: c13 :: c14 :: c15 :: c16 :: c17 :: c18 :: c19 :: c20 :: c21 :: c22 :: c23 :: c24 :: c25 :: c26 :: c27 :: c28 :: u29 :: u30 :: u31 :: u32 :: u33 :: u34 :: u35 :: u36 :: u37 :: u38 :: u39 :: u40 :: u41 :: u42 :: u43 :: u44 :: u45 :: u46 :: u47 :: u48 :: u49 :: u50 :: u51 :: u52 :: u53 :: u54 :: u55 :: u56 :: u57 :: u58 :: u59 :: u60 :: u61 :: u62 :: u63 :: u64 :: u65 :: u66 :: u67 :: (.int .i64 k0) :: u69 :: u70 :: u71 :: u72 :: u73 :: u74 :: u75 :: u76 :: u77 :: u78 :: u79 :: u80 :: u81 :: u82 :: u83 :: u84 :: u85 :: u86 :: u87 :: u88 :: u89 :: u90 :: u91 :: u92 :: u93 :: u94 :: u95 :: u96 :: u97 :: u98 :: u99 :: u100 :: u101 :: u102 :: u103 :: u104 :: u105 :: u106 :: u107 :: u108 :: u109 :: u110 :: u111 :: u112 :: u113 :: u114 :: u115 :: u116 :: u117 :: u118 :: u119 :: u120 :: u121 :: u122 :: u123 :: u124 :: u125 :: u126 :: u127 :: u128 :: u129 :: u130 :: u131 :: u132 :: u133 :: u134 :: u135 :: u136 :: u137 :: u138 :: u139 :: u140 :: u141 :: u142 :: u143 :: u144 :: u145 :: u146 :: u147 :: u148 :: u149 :: u150 :: u151 :: u152 :: u153 :: u154 :: u155 :: u156 :: u157 :: u158 :: u159 :: u160 :: u161 :: u162 :: u163 :: u164 :: u165 :: u166 :: u167 :: u168 :: u169 :: u170 :: u171 :: u172 :: u173 :: u174 :: u175 :: u176 :: u177 :: u178 :: u179 :: u180 :: u181 :: u182 :: u183 :: u184 :: u185 :: u186 :: u187 :: u188 :: u189 :: u190 :: u191 :: u192 :: u193 :: u194 :: u195 :: u196 :: u197 :: u198 :: u199 :: u200 :: u201 :: u202 :: u203 :: u204 :: u205 :: u206 :: u207 :: u208 :: u209 :: u210 :: u211 :: u212 :: u213 :: u214 :: u215 :: u216 :: u217 :: u218 :: u219 :: u220 :: u221 :: u222 :: u223 :: u224 :: u225 :: u226 :: u227 :: u228 :: u229 :: u230 :: u231 :: u232 :: u233 :: u234 :: u235 :: u236 :: u237 :: u238 :: u239 :: u240 :: u241 :: u242 :: u243 :: u244 :: u245 :: u246 :: u247 :: u248 :: u249 :: u250 :: u251 :: u252 :: u253 :: u254 :: u255 :: u256 :: u257 :: u258 :: u259 :: u260 :: u261 :: u262 :: u263 :: u264 :: u265 :: u266 :: u267 :: u268 :: u269 :: u270 :: u271 :: u272 :: u273 :: u274 :: u275 :: u276 :: u277 :: u278 :: u279 :: u280 :: u281 :: u282 :: u283 :: u284 :: u285 :: u286 :: u287 :: u288 :: u289 :: u290 :: u291 :: u292 :: u293 :: u294 :: u295 :: u296 :: u297 :: u298 :: u299 :: u300 :: u301 :: u302 :: u303 :: u304 :: u305 :: u306 :: []), []⟩ w3 := by
  have HL : Hid (Laid w) := hL
  clear hL
  obtain ⟨_, y0, y1, y2, -⟩ := G3.out.2.1
  conv => arg 2; whnf
  have b0 : (k0 == 0) = false := by simp; omega
  have b1 : (k0 == 1) = false := by simp; omega
  have b2 : (k0 == 2) = false := by simp; omega
  have b3 : (k0 == 3) = true := by simp; omega
  clear hk
  have HV4 : Hid (V ∈ F 4) := (by show V ∈ F 4; rw [G3.out.2.2.1]; simp)
  obtain ⟨n, en⟩ : ∃ n, n = said.length := ⟨_, rfl⟩
  obtain ⟨qs, cs, evS⟩ := own_form G3.out.1.o
  rw [← en] at evS
  have x0 : w3.cell? ⟨M, 0, none⟩ = some (.slice qs n cs) := by rw [← evS]; exact World.rowIs.cell G3.out.1.m (i := 0) (by omega)
  have x1 : w3.cell? ⟨M, 1, none⟩ = some (.int .i64 (free : Int)) := World.rowIs.cell G3.out.1.m (i := 1) (by omega)
  have hn120 : n ≤ 120 := by rw [en]; have := G3.out.2.2.2.2.2.2; omega
  have hfn : free ≤ n := by rw [en]; exact G3.out.2.2.2.1.free
  have EN : Hid (n = said.length ∧ vS = .slice qs n cs) := ⟨en, evS⟩
  have hnI : (n : Int) ≤ 120 := by omega
  have hfI : (free : Int) ≤ (n : Int) := by omega
  clear en evS
  by_cases h1 : k1 < 0
  · have d1 : decide (k1 < 0) = true := decide_eq_true h1
    have EC : Hid (freC said k1 = 1 ∧ freN said free k1 = free) := fre_bad (.inl h1)
    go_wp2_with fail
    go_quiet (fail)
    go_wp2_with fail
    refine (freeS w.heap.size Ps said free (F 0) k1 (w3.drewN nq) (by exact G3.out.1.s.of_blocks (Nat.le_refl _) (fun _ _ => rfl)) G3.out.2.2.2.1 (by have := G3.out.2.2.2.2.2.2; omega) (by exact G3.out.1.bel.size)).mono ?_
    rintro e w6 ⟨f6, rfl, hS6, hb6, hk6, hn6⟩
    rw [EC.out.1]
    rw [EC.out.2] at hS6
    have N6 : Hid (PB w Ps Ph M Q V k0 k1 k2 (i + 1) w6 ∧ Below w.heap.size w w6) := by
      have hb6' : Below w.heap.size w3 w6 := below_base hb6 rfl rfl rfl rfl
      have hk6' : KpL w3 w6 (F 0) := hk6
      exact ⟨⟨said, free, H, ws, vS, vW, _, G3.out.1.say hS6 hb6' hk6' hn6, G3.out.1.keepV G3.out.2.1 HV4.out (by omega) (by omega) hk6', by rw [set_other _ _ (by omega)]; exact G3.out.2.2.1, by have z := G3.out.2.2.2.1.fre k1; rw [EC.out.2] at z; exact z, G3.out.2.2.2.2.1, G3.out.2.2.2.2.2.1, by have := G3.out.2.2.2.2.2.2; omega⟩, G3.out.1.bel.trans hb6'⟩
    clear hS6 hb6 hk6 hn6 y0 y1 y2 x0 x1
    go_wp2_with fail
    refine (errF_same 1 w6 (HL.out.later N6.out.2)).mono ?_
    rintro e wE ⟨rfl, hbE⟩
    have PZ : Hid (PB w Ps Ph M Q V k0 k1 k2 (i + 1) wE) := N6.out.1.still hbE
    clear hbE
    go_wp2_with fail
    try (first | exact PZ | (apply hQ; exact PZ))
  · have d1 : decide (k1 < 0) = false := decide_eq_false h1
    by_cases h2 : (n : Int) < k1
    · have d2 : decide (k1 > (n : Int)) = true := decide_eq_true h2
      have EC : Hid (freC said k1 = 1 ∧ freN said free k1 = free) := fre_bad (.inr (by rw [← EN.out.1]; exact h2))
      go_wp2_with fail
      go_quiet (fail)
      go_wp2_with fail
      refine (freeS w.heap.size Ps said free (F 0) k1 (w3.drewN nq) (by exact G3.out.1.s.of_blocks (Nat.le_refl _) (fun _ _ => rfl)) G3.out.2.2.2.1 (by have := G3.out.2.2.2.2.2.2; omega) (by exact G3.out.1.bel.size)).mono ?_
      rintro e w6 ⟨f6, rfl, hS6, hb6, hk6, hn6⟩
      rw [EC.out.1]
      rw [EC.out.2] at hS6
      have N6 : Hid (PB w Ps Ph M Q V k0 k1 k2 (i + 1) w6 ∧ Below w.heap.size w w6) := by
        have hb6' : Below w.heap.size w3 w6 := below_base hb6 rfl rfl rfl rfl
        have hk6' : KpL w3 w6 (F 0) := hk6
        exact ⟨⟨said, free, H, ws, vS, vW, _, G3.out.1.say hS6 hb6' hk6' hn6, G3.out.1.keepV G3.out.2.1 HV4.out (by omega) (by omega) hk6', by rw [set_other _ _ (by omega)]; exact G3.out.2.2.1, by have z := G3.out.2.2.2.1.fre k1; rw [EC.out.2] at z; exact z, G3.out.2.2.2.2.1, G3.out.2.2.2.2.2.1, by have := G3.out.2.2.2.2.2.2; omega⟩, G3.out.1.bel.trans hb6'⟩
      clear hS6 hb6 hk6 hn6 y0 y1 y2 x0 x1
      go_wp2_with fail
      refine (errF_same 1 w6 (HL.out.later N6.out.2)).mono ?_
      rintro e wE ⟨rfl, hbE⟩
      have PZ : Hid (PB w Ps Ph M Q V k0 k1 k2 (i + 1) wE) := N6.out.1.still hbE
      clear hbE
      go_wp2_with fail
      try (first | exact PZ | (apply hQ; exact PZ))
    · have d2 : decide (k1 > (n : Int)) = false := decide_eq_false h2
      by_cases h3 : (free : Int) < k1
      · have d3 : decide (k1 > (free : Int)) = true := decide_eq_true h3
        obtain ⟨kk, rfl⟩ : ∃ kk : Nat, k1 = (kk : Int) := ⟨k1.toNat, by omega⟩
        have EC : Hid (freC said (kk : Int) = 0 ∧ freN said free (kk : Int) = kk) := fre_new (by rw [← EN.out.1]; omega) (by omega)
        have xz : w3.frozen? ⟨M, 1, none⟩ = false := World.rowIs.frozen G3.out.1.m 1
        have hMV : M ≠ V := fun e => by
          have := G3.out.1.sep.dj 2 4 (by omega) (by omega) V (by rw [G3.out.1.f2, e]; simp) HV4.out
          omega
        have d2' : ¬ n < kk := by omega
        have d3' : free < kk := by omega
        clear h1 h2 h3 d1 d2 d3
        go_wp2_with fail
        go_quiet (fail)
        revert nq
        intro n1
        go_wp2_with fail
        go_quiet (fail)
        go_wp2_with fail
        have gd : PG w Ps Ph M Q (w3.drewN (n1 + nq)) said free (H.getD 0 0) ws said free H ws vS vW F := G3.out.1.still (drewsA (Below.refl _ _) _)
        obtain ⟨g5, kp5⟩ := gd.refFree kk
        have v5 := gd.keepV (G3.out.2.1.later (drewsA (Below.refl _ _) (n1 + nq))) HV4.out (by omega) (by omega) kp5
        obtain ⟨W5, eW5⟩ : ∃ W5, W5 = (w3.drewN (n1 + nq)).setCell ⟨M, 1, none⟩ (.int .i64 (kk : Int)) := ⟨_, rfl⟩
        rw [← eW5] at g5 v5 ⊢
        have P5 : Hid (PG w Ps Ph M Q W5 said free (H.getD 0 0) ws said kk H ws vS vW F ∧ V3 W5 V k0 (kk : Int) k2) := ⟨g5, v5⟩
        clear gd g5 kp5 v5 eW5
        refine (freeS w.heap.size Ps said free (F 0) (kk : Int) W5 (by exact P5.out.1.s.of_blocks (Nat.le_refl _) (fun _ _ => rfl)) G3.out.2.2.2.1 (by have := G3.out.2.2.2.2.2.2; omega) (by exact P5.out.1.bel.size)).mono ?_
        rintro e w6 ⟨f6, rfl, hS6, hb6, hk6, hn6⟩
        rw [EC.out.1]
        rw [EC.out.2] at hS6
        have N6 : Hid (PB w Ps Ph M Q V k0 (kk : Int) k2 (i + 1) w6 ∧ Below w.heap.size w w6) := by
          have hb6' : Below w.heap.size W5 w6 := below_base hb6 rfl rfl rfl rfl
          have hk6' : KpL W5 w6 (F 0) := hk6
          exact ⟨⟨said, kk, H, ws, vS, vW, _, P5.out.1.say hS6 hb6' hk6' hn6, P5.out.1.keepV P5.out.2 HV4.out (by omega) (by omega) hk6', by rw [set_other _ _ (by omega)]; exact G3.out.2.2.1, by have z := G3.out.2.2.2.1.fre (kk : Int); rw [EC.out.2] at z; exact z, G3.out.2.2.2.2.1, G3.out.2.2.2.2.2.1, by have := G3.out.2.2.2.2.2.2; omega⟩, P5.out.1.bel.trans hb6'⟩
        clear hS6 hb6 hk6 hn6 y0 y1 y2 x0 x1
        go_wp2_with fail
        refine (errF_same 0 w6 (HL.out.later N6.out.2)).mono ?_
        rintro e wE ⟨rfl, hbE⟩
        have PZ : Hid (PB w Ps Ph M Q V k0 (kk : Int) k2 (i + 1) wE) := N6.out.1.still hbE
        clear hbE
        go_wp2_with fail
        try (first | exact PZ | (apply hQ; exact PZ))
      · have d3 : decide (k1 > (free : Int)) = false := decide_eq_false h3
        have EC : Hid (freC said k1 = 0 ∧ freN said free k1 = free) := fre_old h1 (by rw [← EN.out.1]; exact h2) h3
        go_wp2_with fail
        go_quiet (fail)
        go_wp2_with fail
        go_quiet (fail)
        go_wp2_with fail
        refine (freeS w.heap.size Ps said free (F 0) k1 _ (by exact G3.out.1.s.of_blocks (Nat.le_refl _) (fun _ _ => rfl)) G3.out.2.2.2.1 (by have := G3.out.2.2.2.2.2.2; omega) (by exact G3.out.1.bel.size)).mono ?_
        rintro e w6 ⟨f6, rfl, hS6, hb6, hk6, hn6⟩
        rw [EC.out.1]
        rw [EC.out.2] at hS6
        have N6 : Hid (PB w Ps Ph M Q V k0 k1 k2 (i + 1) w6 ∧ Below w.heap.size w w6) := by
          have hb6' : Below w.heap.size w3 w6 := below_base hb6 rfl rfl rfl rfl
          have hk6' : KpL w3 w6 (F 0) := hk6
          exact ⟨⟨said, free, H, ws, vS, vW, _, G3.out.1.say hS6 hb6' hk6' hn6, G3.out.1.keepV G3.out.2.1 HV4.out (by omega) (by omega) hk6', by rw [set_other _ _ (by omega)]; exact G3.out.2.2.1, by have z := G3.out.2.2.2.1.fre k1; rw [EC.out.2] at z; exact z, G3.out.2.2.2.2.1, G3.out.2.2.2.2.2.1, by have := G3.out.2.2.2.2.2.2; omega⟩, G3.out.1.bel.trans hb6'⟩
        clear hS6 hb6 hk6 hn6 y0 y1 y2 x0 x1
        go_wp2_with fail
        refine (errF_same 0 w6 (HL.out.later N6.out.2)).mono ?_
        rintro e wE ⟨rfl, hbE⟩
        have PZ : Hid (PB w Ps Ph M Q V k0 k1 k2 (i + 1) wE) := N6.out.1.still hbE
        clear hbE
        go_wp2_with fail
        try (first | exact PZ | (apply hQ; exact PZ))
end Go.Proofs.YtdhlfbpflngmbafDoor.Aga
