/-
  A part of PicturePlays: gold is paid.
-/
import Derived.Test.YtgcdbcljneoifajDoorPipA
namespace Go.Proofs.YtgcdbcljneoifajDoor.Pic
open Go.RowKit
open Go.Proofs.YtgcdbcljneoifajDoor.As (Laid)
open Go.Proofs.YtgcdbcljneoifajDoor.Fif (own_lt own_block own_form own_vw ret_bool info_int new_int int_one)
open Go.Proofs.YtgcdbcljneoifajDoor.Vec (Vw Rw)
open Go.Proofs.YtgcdbcljneoifajDoor.Sep (KpL NewL)
open Go.Proofs.YtgcdbcljneoifajDoor.Ldr (errF errF_ok errF_no errF_same Sl same_any)
open Go.Proofs.YtgcdbcljneoifajDoor.Off (OR step_append_off)
set_option linter.unusedVariables false

set_option maxRecDepth 100000 in
set_option maxHeartbeats 8000000 in
theorem sw_pay (w : World) (hL : Laid w) (P R A bq oq len cap gb gc : Nat) (all : Int) (hall : all ≤ 5000) (h5 : len ≤ 5) (k : Nat → Int) (k0 k1 k2 k3 cw : Int) (g : G) (fp : List Nat) (ov : Nat → Value) (w6 : World) (ii : TypeInfo) (HJ : Hid (Tryd.prog.info? 3 = some ii ∧ ii.zero = some (.int .i64 0) ∧ ii.size = 1 ∧ ii.bytes = 8)) (EK : Hid (k0 = k 0 ∧ k1 = k 1 ∧ k2 = k 2 ∧ k3 = k 3)) (G6 : Hid (PF w w6 P R all g fp gb gc ov ∧ AR w6 A k fp R gb ov ∧ g.n = len)) (ECW : Hid (cw = wayC g k1 k2)) (hk : k0 = 0 ∨ k0 = 1 ∨ k0 = 2)
    (C : Code) (hC : (Tryd.f3.body.bind (blockAt 6)).getD .skip = C) (KK K2 : Act → World → Prop) (Q' : Exit → Act → World → Prop) (hQ' : ∃ (K3 K4 : Act → World → Prop) (Rr : Ending → World → Prop), Q' = Exit.then K3 (Exit.inBlock 2 (Exit.then K4 (bodyPost Tryd.prog Tryd.f3 Rr))))
    (u1 u2 u3 u4 u6 u8 u9 u11 u13 u15 u16 u17 u18 u19 u20 u21 u22 u23 u24 u25 u26 u27 u28 u29 u30 u31 u32 u33 u34 u35 u36 u37 u38 u39 u40 u41 u42 u43 u44 u45 u46 u47 u48 u49 u50 u51 u52 u53 u54 u55 u56 u57 u58 u59 u60 u61 u62 u63 u64 u65 u66 u67 u68 u69 u70 u71 u72 u73 u74 u75 u76 u77 u78 u79 u80 u81 u82 u83 u84 u85 u86 u87 u88 u89 u90 u91 u92 u93 u94 u95 u96 u97 u98 u99 u100 u101 u102 u103 u104 u105 u106 u107 u108 u109 u110 u111 u112 u113 u114 u115 u116 u117 u118 u119 u120 u121 u122 u123 u124 u125 u127 u128 u129 u130 u131 u132 u133 u134 u135 u136 u137 u138 u139 u140 u141 u142 u143 u144 u145 u146 u147 u148 u149 u150 u151 u152 u153 u154 u155 u156 u157 u158 u159 u160 u161 u162 u163 u164 u165 u166 u167 u168 u169 u170 u171 u172 u173 u174 u175 u176 u177 u178 u179 u180 u181 u182 u183 u184 u185 u186 u187 u188 u189 u190 u191 u192 u193 u194 u195 u196 u197 u198 u199 u200 u201 u202 u203 u204 u205 u206 u207 u208 u209 u210 u211 u212 u213 u214 u215 u216 u217 u218 u219 u220 u221 u222 u223 u224 u225 u226 u227 u228 u229 u230 u231 u232 u233 u234 u235 u236 u237 u238 u239 u240 u241 u242 u243 u244 u245 u246 u247 u248 u249 u250 u251 u252 u253 u254 u255 u256 u257 u258 u259 u260 u261 u262 u263 u264 u265 u266 u267 u268 u269 u270 u271 u272 u273 u274 u275 u276 u277 u278 u279 u280 u281 u282 u283 u284 u285 u286 u287 u288 u289 u290 u291 u292 u293 u294 u295 u296 u297 u298 u299 u300 u301 u302 u303 u304 u305 u306 u307 u308 u309 u310 u311 u312 u313 u314 u315 u316 u317 u318 u319 u320 u321 u322 u323 u324 u325 u326 u327 u328 u329 u330 u331 u332 u333 u334 u335 u336 u337 u338 u339 u340 u341 u342 u343 u344 u345 u346 u347 u348 u349 u350 u351 u352 u353 u354 u355 u356 u357 u358 u359 u360 u361 u362 u363 u364 u365 u366 u367 u368 u369 u370 u371 u372 u373 u374 u375 u376 u377 u378 u379 u380 u381 u382 u383 u384 u385 u386 u387 u388 u389 u390 u391 u392 u393 u394 u395 u396 u397 u398 u399 u400 u401 u402 u403 : Value)
    (hQ : ∀ (s5 s9 s15 s16 s17 s18 s127 s128 s129 s130 s131 s132 s133 s134 s135 s136 s137 s138 s139 s140 s141 s142 s143 s144 s145 s146 s147 s148 s149 s150 s151 s152 s153 s154 s155 s156 s157 s158 s159 s160 s161 s162 s163 s164 s165 s166 s167 s168 s169 s170 s171 s172 s173 s174 s175 s176 s177 s178 s179 s180 s181 s182 s183 s184 s185 s186 s187 s188 s189 s190 s191 s192 s193 s194 s195 s196 s197 s198 s199 s200 s201 s202 s203 s204 s205 s206 s207 s208 s209 s210 s211 s212 s213 s214 s215 s216 s217 s218 s219 s220 s221 s222 s223 s224 s225 s226 s227 s228 s229 s230 s231 s232 s233 s234 s235 s236 s237 s238 s239 s240 s241 s242 s243 s244 s245 s246 s247 s248 s249 s250 s251 s252 s253 s254 s255 s256 s257 s258 s259 s260 s261 s262 s263 s264 s265 s266 s267 s268 s269 s270 s271 s272 s273 s274 s275 s276 s277 s278 s279 s280 s281 s282 s283 s284 : Value) (wz : World), s9 = .bool true → Hid (FA w wz P R gb gc all len A k) → KK ⟨List.toArray ((.slice (some ⟨bq, oq, none⟩) len cap) :: u1 :: u2 :: u3 :: u4 :: (s5) :: u6 :: (.pointer (some ⟨P, 0, none⟩)) :: u8 :: (s9) :: (.pointer (some ⟨R, 0, none⟩)) :: u11 :: (.pointer (some ⟨A, 0, none⟩)) :: u13 :: (.int .i64 cw) :: (s15) :: (s16) :: (s17) :: (s18) :: u19 :: u20 :: u21 :: u22 :: u23 :: u24 :: u25 :: u26 :: u27 :: u28 :: u29 :: u30 :: u31 :: u32 :: u33 :: u34 :: u35 :: u36 :: u37 :: u38 :: u39 :: u40 :: u41 :: u42 :: u43 :: u44 :: u45 :: u46 :: u47 :: u48 :: u49 :: u50 :: u51 :: u52 :: u53 :: u54 :: u55 :: u56 :: u57 :: u58 :: u59 :: u60 :: u61 :: u62 :: u63 :: u64 :: u65 :: u66 :: u67 :: u68 :: u69 :: u70 :: u71 :: u72 :: u73 :: u74 :: u75 :: u76 :: u77 :: u78 :: u79 :: u80 :: u81 :: u82 :: u83 :: u84 :: u85 :: u86 :: u87 :: u88 :: u89 :: u90 :: u91 :: u92 :: u93 :: u94 :: u95 :: u96 :: u97 :: u98 :: u99 :: u100 :: u101 :: u102 :: u103 :: u104 :: u105 :: u106 :: u107 :: u108 :: u109 :: u110 :: u111 :: u112 :: u113 :: u114 :: u115 :: u116 :: u117 :: u118 :: u119 :: u120 :: u121 :: u122 :: u123 :: u124 :: u125 :: (.int .i64 k0) :: (s127) :: (s128) :: (s129) :: (s130) :: (s131) :: (s132) :: (s133) :: (s134) :: (s135) :: (s136) :: (s137) :: (s138) :: (s139) :: (s140) :: (s141) :: (s142) :: (s143) :: (s144) :: (s145) :: (s146) :: (s147) :: (s148) :: (s149) :: (s150) :: (s151) :: (s152) :: (s153) :: (s154) :: (s155) :: (s156) :: (s157) :: (s158) :: (s159) :: (s160) :: (s161) :: (s162) :: (s163) :: (s164) :: (s165) :: (s166) :: (s167) :: (s168) :: (s169) :: (s170) :: (s171) :: (s172) :: (s173) :: (s174) :: (s175) :: (s176) :: (s177) :: (s178) :: (s179) :: (s180) :: (s181) :: (s182) :: (s183) :: (s184) :: (s185) :: (s186) :: (s187) :: (s188) :: (s189) :: (s190) :: (s191) :: (s192) :: (s193) :: (s194) :: (s195) :: (s196) :: (s197) :: (s198) :: (s199) :: (s200) :: (s201) :: (s202) :: (s203) :: (s204) :: (s205) :: (s206) :: (s207) :: (s208) :: (s209) :: (s210) :: (s211) :: (s212) :: (s213) :: (s214) :: (s215) :: (s216) :: (s217) :: (s218) :: (s219) :: (s220) :: (s221) :: (s222) :: (s223) :: (s224) :: (s225) :: (s226) :: (s227) :: (s228) :: (s229) :: (s230) :: (s231) :: (s232) :: (s233) :: (s234) :: (s235) :: (s236) :: (s237) :: (s238) :: (s239) :: (s240) :: (s241) :: (s242) :: (s243) :: (s244) :: (s245) :: (s246) :: (s247) :: (s248) :: (s249) :: (s250) :: (s251) :: (s252) :: (s253) :: (s254) :: (s255) :: (s256) :: (s257) :: (s258) :: (s259) :: (s260) :: (s261) :: (s262) :: (s263) :: (s264) :: (s265) :: (s266) :: (s267) :: (s268) :: (s269) :: (s270) :: (s271) :: (s272) :: (s273) :: (s274) :: (s275) :: (s276) :: (s277) :: (s278) :: (s279) :: (s280) :: (s281) :: (s282) :: (s283) :: (s284) :: u285 :: u286 :: u287 :: u288 :: u289 :: u290 :: u291 :: u292 :: u293 :: u294 :: u295 :: u296 :: u297 :: u298 :: u299 :: u300 :: u301 :: u302 :: u303 :: u304 :: u305 :: u306 :: u307 :: u308 :: u309 :: u310 :: u311 :: u312 :: u313 :: u314 :: u315 :: u316 :: u317 :: u318 :: u319 :: u320 :: u321 :: u322 :: u323 :: u324 :: u325 :: u326 :: u327 :: u328 :: u329 :: u330 :: u331 :: u332 :: u333 :: u334 :: u335 :: u336 :: u337 :: u338 :: u339 :: u340 :: u341 :: u342 :: u343 :: u344 :: u345 :: u346 :: u347 :: u348 :: u349 :: u350 :: u351 :: u352 :: u353 :: u354 :: u355 :: u356 :: u357 :: u358 :: u359 :: u360 :: u361 :: u362 :: u363 :: u364 :: u365 :: u366 :: u367 :: u368 :: u369 :: u370 :: u371 :: u372 :: u373 :: u374 :: u375 :: u376 :: u377 :: u378 :: u379 :: u380 :: u381 :: u382 :: u383 :: u384 :: u385 :: u386 :: u387 :: u388 :: u389 :: u390 :: u391 :: u392 :: u393 :: u394 :: u395 :: u396 :: u397 :: u398 :: u399 :: u400 :: u401 :: u402 :: u403 :: []), []⟩ wz) :
    Code.wp Tryd.prog C (Exit.then KK (Exit.inBlock 3 (Exit.then K2 Q'))) ⟨List.toArray ((.slice (some ⟨bq, oq, none⟩) len cap) :: u1 :: u2 :: u3 :: u4 :: (.int .i64 0) :: u6 :: (.pointer (some ⟨P, 0, none⟩)) :: u8 :: u9 :: (.pointer (some ⟨R, 0, none⟩)) :: u11 :: (.pointer (some ⟨A, 0, none⟩)) :: u13 :: (.int .i64 cw) :: u15 :: u16 :: u17 :: u18 :: u19 :: u20 :: u21 :: u22 :: u23 :: u24 :: u25 :: u26 :: u27 :: u28 :: u29 :: u30 :: u31 :: u32 :: u33 :: u34 :: u35 :: u36 :: u37 :: u38 :: u39 :: u40 :: u41 :: u42 :: u43 :: u44 :: u45 :: u46 :: u47 :: u48 :: u49 :: u50 :: u51 :: u52 :: u53 :: u54 :: u55 :: u56 :: u57 :: u58 :: u59 :: u60 :: u61 :: u62 :: u63 :: u64 :: u65 :: u66 :: u67 :: u68 :: u69 :: u70 :: u71 :: u72 :: u73 :: u74 :: u75 :: u76 :: u77 :: u78 :: u79 :: u80 :: u81 :: u82 :: u83 :: u84 :: u85 :: u86 :: u87 :: u88 :: u89 :: u90 :: u91 :: u92 :: u93 :: u94 :: u95 :: u96 :: u97 :: u98 :: u99 :: u100 :: u101 :: u102 :: u103 :: u104 :: u105 :: u106 :: u107 :: u108 :: u109 :: u110 :: u111 :: u112 :: u113 :: u114 :: u115 :: u116 :: u117 :: u118 :: u119 :: u120 :: u121 :: u122 :: u123 :: u124 :: u125 :: (.int .i64 k0) :: u127 :: u128 :: u129 :: u130 :: u131 :: u132 :: u133 :: u134 :: u135 :: u136 :: u137 :: u138 :: u139 :: u140 :: u141 :: u142 :: u143 :: u144 :: u145 :: u146 :: u147 :: u148 :: u149 :: u150 :: u151 :: u152 :: u153 :: u154 :: u155 :: u156 :: u157 :: u158 :: u159 :: u160 :: u161 :: u162 :: u163 :: u164 :: u165 :: u166 :: u167 :: u168 :: u169 :: u170 :: u171 :: u172 :: u173 :: u174 :: u175 :: u176 :: u177 :: u178 :: u179 :: u180 :: u181 :: u182 :: u183 :: u184 :: u185 :: u186 :: u187 :: u188 :: u189 :: u190 :: u191 :: u192 :: u193 :: u194 :: u195 :: u196 :: u197 :: u198 :: u199 :: u200 :: u201 :: u202 :: u203 :: u204 :: u205 :: u206 :: u207 :: u208 :: u209 :: u210 :: u211 :: u212 :: u213 :: u214 :: u215 :: u216 :: u217 :: u218 :: u219 :: u220 :: u221 :: u222 :: u223 :: u224 :: u225 :: u226 :: u227 :: u228 :: u229 :: u230 :: u231 :: u232 :: u233 :: u234 :: u235 :: u236 :: u237 :: u238 :: u239 :: u240 :: u241 :: u242 :: u243 :: u244 :: u245 :: u246 :: u247 :: u248 :: u249 :: u250 :: u251 :: u252 :: u253 :: u254 :: u255 :: u256 :: u257 :: u258 :: u259 :: u260 :: u261 :: u262 :: u263 :: u264 :: u265 :: u266 :: u267 :: u268 :: u269 :: u270 :: u271 :: u272 :: u273 :: u274 :: u275 :: u276 :: u277 :: u278 :: u279 :: u280 :: u281 :: u282 :: u283 :: u284 :: u285 :: u286 :: u287 :: u288 :: u289 :: u290 :: u291 :: u292 :: u293 :: u294 :: u295 :: u296 :: u297 :: u298 :: u299 :: u300 :: u301 :: u302 :: u303 :: u304 :: u305 :: u306 :: u307 :: u308 :: u309 :: u310 :: u311 :: u312 :: u313 :: u314 :: u315 :: u316 :: u317 :: u318 :: u319 :: u320 :: u321 :: u322 :: u323 :: u324 :: u325 :: u326 :: u327 :: u328 :: u329 :: u330 :: u331 :: u332 :: u333 :: u334 :: u335 :: u336 :: u337 :: u338 :: u339 :: u340 :: u341 :: u342 :: u343 :: u344 :: u345 :: u346 :: u347 :: u348 :: u349 :: u350 :: u351 :: u352 :: u353 :: u354 :: u355 :: u356 :: u357 :: u358 :: u359 :: u360 :: u361 :: u362 :: u363 :: u364 :: u365 :: u366 :: u367 :: u368 :: u369 :: u370 :: u371 :: u372 :: u373 :: u374 :: u375 :: u376 :: u377 :: u378 :: u379 :: u380 :: u381 :: u382 :: u383 :: u384 :: u385 :: u386 :: u387 :: u388 :: u389 :: u390 :: u391 :: u392 :: u393 :: u394 :: u395 :: u396 :: u397 :: u398 :: u399 :: u400 :: u401 :: u402 :: u403 :: []), []⟩ w6 := by
  obtain ⟨K3, K4, Rr, hR⟩ := hQ'
  subst hR hC
  conv => arg 2; whnf
  have HL : Hid (Laid w) := hL
  have HA : Hid (all ≤ 5000) := hall
  have y1 := G6.out.2.1.c1
  have y2 := G6.out.2.1.c2
  have y3 := G6.out.2.1.c3
  rw [← EK.out.2.1] at y1
  rw [← EK.out.2.2.1] at y2
  rw [← EK.out.2.2.2] at y3
  have hAl := G6.out.2.1.lt
  clear hL hall
  go_upto_if 154 with fail
  go_cut [154] from 155 to 157 (fun x wz => x = .bool true ∧ w6 = wz)
  case first =>
    rcases hk with rfl | rfl | rfl
    all_goals
      go_wp2
      go_meet
      exact ⟨rfl, by first | rfl | trivial⟩
  case rest =>
    obtain ⟨rfl, ew⟩ := hcut
    subst ew
    clear hk
    obtain ⟨b2, eb2⟩ : ∃ b2, b2 = decide (cw = 0 ∧ (k3 < 1 ∨ 1000 < k3)) := ⟨_, rfl⟩
    have HB : Hid (b2 = decide (cw = 0 ∧ (k3 < 1 ∨ 1000 < k3))) := eb2
    clear eb2
    go_upto_region 37 with fail
    go_cut [170] from 159 to 170 (fun x wz => x = .bool b2 ∧ w6 = wz)
    case first =>
      by_cases hc0 : cw = 0
      · have hcw : (cw == 0) = true := by simp [hc0]
        rcases (show k3 < 1 ∨ (¬ k3 < 1 ∧ k3 > 1000) ∨ (¬ k3 < 1 ∧ ¬ k3 > 1000) by omega) with h1 | ⟨h1, h2⟩ | ⟨h1, h2⟩
        · have e : Hid (b2 = true) := by show _ = _; rw [HB.out]; exact decide_eq_true ⟨hc0, by omega⟩
          clear hc0
          go_wp2
          go_meet
          exact ⟨by rw [e.out], by first | rfl | trivial⟩
        · have e : Hid (b2 = true) := by show _ = _; rw [HB.out]; exact decide_eq_true ⟨hc0, by omega⟩
          clear hc0
          go_wp2
          go_meet
          exact ⟨by rw [e.out], by first | rfl | trivial⟩
        · have e : Hid (b2 = false) := by show _ = _; rw [HB.out]; exact decide_eq_false (by omega)
          clear hc0
          go_wp2
          go_meet
          exact ⟨by rw [e.out], by first | rfl | trivial⟩
      · have hcw : (cw == 0) = false := by rw [beq_eq_false_iff_ne]; exact hc0
        have e : Hid (b2 = false) := by show _ = _; rw [HB.out]; exact decide_eq_false (fun z => hc0 z.1)
        clear hc0
        go_wp2
        go_meet
        exact ⟨by rw [e.out], by first | rfl | trivial⟩
    case rest =>
      obtain ⟨rfl, ew⟩ := hcut
      subst ew
      go_upto_if 170 with fail
      go_cut [5] from 171 to 244 (fun x5 wz => ∃ c, x5 = .int .i64 c ∧ Hid (c = payC g k1 k2 k3 ∧ ∃ ov', PM w wz P R g (pay g k1 k2 k3) fp gb gc ov' ∧ AR wz A k fp R gb ov'))
      case first =>
        cases b2
        · by_cases hc0 : cw = 0
          · have hx : 1 ≤ k3 ∧ k3 ≤ 1000 := by
              have := of_decide_eq_false HB.out.symm
              omega
            have hcw : (cw == 0) = true := by simp [hc0]
            have h0 : wayC g k1 k2 = 0 := by rw [← ECW.out]; exact hc0
            obtain ⟨i1, i2, i3⟩ := way_ok h0
            obtain ⟨ki, rfl, hin⟩ := in_nat i1
            obtain ⟨kj, rfl, hjn⟩ := in_nat i2
            have e1 : payC g (ki : Int) (kj : Int) k3 = if g.gold ki < k3 then 5 else if 40 ≤ (g.way ki kj).length then 4 else 0 := by unfold payC; rw [if_pos h0, if_neg (by omega), Int.toNat_natCast, Int.toNat_natCast]
            have c0 : w6.cell? ⟨R, 0, none⟩ = some (.slice (some ⟨gb, 0, none⟩) len gc) := by rw [← G6.out.2.2]; exact G6.out.1.rf.c0
            have cg := G6.out.1.rf.cg hin
            obtain ⟨y, ey⟩ : ∃ y, y = g.gold ki := ⟨_, rfl⟩
            rw [← ey] at cg e1
            have hy : 0 ≤ y ∧ y ≤ 5000 := by
              have z1 := G6.out.1.inv.far.1 ki hin
              have z2 := G6.out.1.inv.gold ki hin
              have z3 := HA.out
              omega
            have hki0 : (0 : Int) ≤ (ki : Int) := by omega
            have hkil : (ki : Int) < (len : Int) := by have := G6.out.2.2; omega
            have hlc : len ≤ gc := by have := G6.out.1.rf.room.1; have := G6.out.2.2; omega
            have hRl := G6.out.1.rf.lt
            have hgl := G6.out.1.rf.ltg
            have HI : Hid (ki < g.n ∧ kj < g.n ∧ ki < 5 ∧ kj < 5 ∧ y = g.gold ki) := ⟨hin, hjn, by have := G6.out.2.2; omega, by have := G6.out.2.2; omega, ey⟩
            by_cases q3 : k3 > y
            · skip
              as_aux_lemma =>
                have ec : payC g (ki : Int) (kj : Int) k3 = 5 := by rw [e1, if_pos (by omega)]
                have eg : pay g (ki : Int) (kj : Int) k3 = g := by unfold pay; rw [if_neg (by rw [ec]; decide)]
                have N1 : Hid (payC g (ki : Int) (kj : Int) k3 = 5 ∧ pay g (ki : Int) (kj : Int) k3 = g) := ⟨ec, eg⟩
                clear e1 ec eg h0 i1 i2 i3 hin hjn ey hc0 y2
                go_wp2_with fail
                go_quiet (fail)
                go_wp2
                go_meet
                refine ⟨5, rfl, N1.out.1.symm, ov, ?_, G6.out.2.1.drewN _⟩
                rw [N1.out.2]
                exact (G6.out.1.drewN _).pm
            · obtain ⟨ho, cw1⟩ := G6.out.1.rf.wayO (a := ki) (c := kj) HI.out.2.2.1 HI.out.2.2.2.1
              obtain ⟨xs, exs⟩ : ∃ xs, xs = g.way ki kj := ⟨_, rfl⟩
              rw [← exs] at ho e1
              obtain ⟨qa, ca, eva⟩ := ho.form
              obtain ⟨lw, elw⟩ : ∃ lw, lw = xs.length := ⟨_, rfl⟩
              rw [← elw] at eva e1
              rw [eva] at cw1 ho
              have hkj0 : (0 : Int) ≤ (kj : Int) := by omega
              have hki5 : (ki : Int) < 5 := by have := HI.out; omega
              have hkj5 : (kj : Int) < 5 := by have := HI.out; omega
              by_cases q4 : 40 ≤ lw
              · skip
                as_aux_lemma =>
                  have ec : payC g (ki : Int) (kj : Int) k3 = 4 := by rw [e1, if_neg (by omega), if_pos q4]
                  have eg : pay g (ki : Int) (kj : Int) k3 = g := by unfold pay; rw [if_neg (by rw [ec]; decide)]
                  have N1 : Hid (payC g (ki : Int) (kj : Int) k3 = 4 ∧ pay g (ki : Int) (kj : Int) k3 = g) := ⟨ec, eg⟩
                  have q4' : (lw : Int) ≥ 40 := by omega
                  clear e1 ec eg h0 i1 i2 i3 hin hjn ey hc0 ho exs eva elw q4
                  go_wp2_with fail
                  go_quiet (fail)
                  go_wp2_with fail
                  go_quiet (fail)
                  go_wp2
                  go_meet
                  refine ⟨4, rfl, N1.out.1.symm, ov, ?_, (G6.out.2.1.drewN _).drewN _⟩
                  rw [N1.out.2]
                  exact ((G6.out.1.drewN _).drewN _).pm
              · skip
                as_aux_lemma =>
                  have ec : payC g (ki : Int) (kj : Int) k3 = 0 := by rw [e1, if_neg (by omega), if_neg q4]
                  have eg : pay g (ki : Int) (kj : Int) k3 = paid g ki kj k3 := by unfold pay; rw [if_pos ec, Int.toNat_natCast, Int.toNat_natCast]
                  have EC0 : Hid (cw = payC g (ki : Int) (kj : Int) k3) := by show _ = _; rw [hc0]; exact ec.symm
                  have EG : Hid (pay g (ki : Int) (kj : Int) k3 = paid g ki kj k3 ∧ lw = xs.length ∧ lw ≤ 1000 ∧ xs = g.way ki kj ∧ ov (ki * 5 + kj) = .slice qa lw ca) := ⟨eg, elw, by omega, exs, eva⟩
                  have q4' : ¬ (lw : Int) ≥ 40 := by omega
                  clear e1 ec eg h0 i1 i2 i3 hin hjn ey hc0 ho exs eva elw q4
                  go_wp2_with fail
                  go_quiet (fail)
                  obtain ⟨W1, eW1⟩ : ∃ W1, W1 = w6.drewN nq := ⟨_, rfl⟩
                  have B1 : Hid (Below w6.heap.size w6 W1) := by rw [eW1]; exact ⟨rfl, rfl, rfl, Nat.le_refl _, fun _ _ => rfl⟩
                  rw [← eW1]
                  have c1 : W1.cell? ⟨R, 1 + ki * 5 + kj, none⟩ = some (.slice qa lw ca) := (World.cell?_of_block (a := ⟨R, 1 + ki * 5 + kj, none⟩) (B1.out.block R hRl)).trans cw1
                  have t1 : W1.cell? ⟨A, 1, none⟩ = some (.int .i64 (ki : Int)) := (World.cell?_of_block (a := ⟨A, 1, none⟩) (B1.out.block A hAl)).trans y1
                  have t2 : W1.cell? ⟨A, 2, none⟩ = some (.int .i64 (kj : Int)) := (World.cell?_of_block (a := ⟨A, 2, none⟩) (B1.out.block A hAl)).trans y2
                  have hR1 : R < W1.heap.size := Nat.lt_of_lt_of_le hRl B1.out.size
                  have hA1 : A < W1.heap.size := Nat.lt_of_lt_of_le hAl B1.out.size
                  have G1 : Hid (PF w W1 P R all g fp gb gc ov ∧ AR W1 A k fp R gb ov) := ⟨G6.out.1.later B1.out, G6.out.2.1.later B1.out⟩
                  clear eW1 c0 cg cw1 y1 y2 hRl hgl hAl
                  go_wp2_with fail
                  go_quiet (fail)
                  obtain ⟨W2, eW2⟩ : ∃ W2, W2 = W1.drewN nq := ⟨_, rfl⟩
                  have B2 : Hid (Below W1.heap.size W1 W2) := by rw [eW2]; exact ⟨rfl, rfl, rfl, Nat.le_refl _, fun _ _ => rfl⟩
                  rw [← eW2]
                  have G2 : Hid (PF w W2 P R all g fp gb gc ov ∧ AR W2 A k fp R gb ov) := ⟨G1.out.1.later B2.out, G1.out.2.later B2.out⟩
                  clear eW2 c1 t1 t2 hR1 hA1 y3
                  have c0 : W2.cell? ⟨R, 0, none⟩ = some (.slice (some ⟨gb, 0, none⟩) len gc) := by rw [← G6.out.2.2]; exact G2.out.1.rf.c0
                  have cg : W2.cell? ⟨gb, ki, none⟩ = some (.int .i64 y) := by rw [HI.out.2.2.2.2]; exact G2.out.1.rf.cg HI.out.1
                  have zg := G2.out.1.rf.frg ki
                  have t1 : W2.cell? ⟨A, 1, none⟩ = some (.int .i64 (ki : Int)) := by rw [EK.out.2.1]; exact G2.out.2.c1
                  have t3 : W2.cell? ⟨A, 3, none⟩ = some (.int .i64 k3) := by rw [EK.out.2.2.2]; exact G2.out.2.c3
                  have hR2 := G2.out.1.rf.lt
                  have hg2 := G2.out.1.rf.ltg
                  have hA2 := G2.out.2.lt
                  go_wp2_with fail
                  go_region
                  obtain ⟨W8, e8⟩ : ∃ W8, W8 = (W2.setCell ⟨gb, ki, none⟩ (.int .i64 (y - k3))).drew := ⟨_, rfl⟩
                  rw [← e8]
                  have X8 : Hid (RX W2 W8 w.heap.size R { g with gold := up g.gold ki (g.gold ki - k3) } gb gc ov ov) := by
                    have z := ((RX.refl G2.out.1.rf).setGold HI.out.1 (y - k3)).drew
                    rw [HI.out.2.2.2.2] at z e8
                    rw [e8]
                    exact z
                  have A8 : Hid (AR W8 A k fp R gb ov) := G2.out.2.ref X8.out
                  clear e8 c0 cg zg t1 t3 hR2 hg2 hA2
                  have y1 : W8.cell? ⟨A, 1, none⟩ = some (.int .i64 (ki : Int)) := by rw [EK.out.2.1]; exact A8.out.c1
                  have y2 : W8.cell? ⟨A, 2, none⟩ = some (.int .i64 (kj : Int)) := by rw [EK.out.2.2.1]; exact A8.out.c2
                  have y3 : W8.cell? ⟨A, 3, none⟩ = some (.int .i64 k3) := by rw [EK.out.2.2.2]; exact A8.out.c3
                  have hAl := A8.out.lt
                  have hRl := X8.out.rp.lt
                  obtain ⟨ho, cw1⟩ := X8.out.rp.wayO (a := ki) (c := kj) HI.out.2.2.1 HI.out.2.2.2.1
                  rw [EG.out.2.2.2.2] at cw1 ho
                  have zw := X8.out.rp.fr (1 + ki * 5 + kj)
                  have hAR : A ≠ R := fun e => A8.out.n2 (.inl e)
                  have HX : Hid (OR W8 w.heap.size (.slice qa lw ca) xs ∧ (lw = xs.length ∧ lw ≤ 1000) ∧ w.heap.size ≤ W8.heap.size ∧ some R ≠ (Value.slice qa lw ca).ownBlock ∧ some A ≠ (Value.slice qa lw ca).ownBlock) := by
                    refine ⟨by rw [EG.out.2.2.2.1]; exact ho, ⟨EG.out.2.1, EG.out.2.2.1⟩, X8.out.rp.bw, fun e => ?_, fun e => ?_⟩
                    · rw [← EG.out.2.2.2.2] at e
                      exact (X8.out.rp.neW (k := ki * 5 + kj) (by have := HI.out; omega) e.symm).1 rfl
                    · rw [← EG.out.2.2.2.2] at e
                      exact A8.out.n2 (.inr (.inr ⟨ki * 5 + kj, by have := HI.out; omega, e.symm⟩))
                  have FIN : Hid (∀ (gg go gcc : Nat) (w8 : World), W8.grownBy w8 (Value.slice qa lw ca).ownBlock → OR w8 w.heap.size (.slice (some ⟨gg, go, none⟩) (xs.length + 1) gcc) (xs ++ [k3]) → ((Value.slice qa lw ca).ownBlock = some gg ∨ W8.heap.size ≤ gg) → ∃ ov', PM w (w8.setCell ⟨R, 1 + ki * 5 + kj, none⟩ (.slice (some ⟨gg, go, none⟩) (xs.length + 1) gcc)) P R g (pay g (ki : Int) (kj : Int) k3) fp gb gc ov' ∧ AR (w8.setCell ⟨R, 1 + ki * 5 + kj, none⟩ (.slice (some ⟨gg, go, none⟩) (xs.length + 1) gcc)) A k fp R gb ov') := by
                    intro gg go gcc w8 h1 h2 h3
                    have z := X8.out.app (a := ki) (c := kj) HI.out.2.2.1 HI.out.2.2.2.1 (w5 := w8) (by rw [EG.out.2.2.2.2]; exact h1) h2 (fun b e => by
                      have eb : gg = b := by simpa [Value.ownBlock] using e
                      subst eb
                      rw [EG.out.2.2.2.2]
                      exact h3)
                    have z2 : RX W2 (w8.setCell ⟨R, 1 + (ki * 5 + kj), none⟩ (.slice (some ⟨gg, go, none⟩) (xs.length + 1) gcc)) w.heap.size R (pay g (ki : Int) (kj : Int) k3) gb gc ov _ := z.eq (by rw [EG.out.1, EG.out.2.2.2.1]; rfl)
                    rw [show 1 + ki * 5 + kj = 1 + (ki * 5 + kj) by omega]
                    exact ⟨_, G2.out.1.ref z2, G2.out.2.ref z2⟩
                  clear ho
                  go_upto_region 45 with fail
                  refine wp_region_held_drew (S := fun X => X.cell? ⟨A, 1, none⟩ = some (.int .i64 (ki : Int)) ∧ X.cell? ⟨A, 2, none⟩ = some (.int .i64 (kj : Int)) ∧ X.cell? ⟨A, 3, none⟩ = some (.int .i64 k3)) (by kernel_rfl) ⟨y1, y2, y3⟩ ?_
                  intro hS
                  refine takeG (i := 0) 222 (v := .pointer (some ⟨R, 0, none⟩)) rfl rfl (by kernel_rfl) (by kernel_rfl) (by kernel_rfl) (fun _ _ _ h => h) (Or.inl ⟨by kernel_rfl, fun _ hS => by first | rfl | (obtain ⟨g4, k0, k1⟩ := hS; go_simp)⟩) hS ?_
                  try simp only [Act.put, List.setIfInBounds_toArray, List.set_cons_zero, List.set_cons_succ]
                  refine takeG (i := 1) 223 (v := .pointer (some ⟨A, 1, none⟩)) rfl rfl (by kernel_rfl) (by kernel_rfl) (by kernel_rfl) (fun _ _ _ h => h) (Or.inl ⟨by kernel_rfl, fun _ hS => by first | rfl | (obtain ⟨g4, k0, k1⟩ := hS; go_simp)⟩) hS ?_
                  try simp only [Act.put, List.setIfInBounds_toArray, List.set_cons_zero, List.set_cons_succ]
                  refine takeG (i := 2) 224 (v := .int .i64 (ki : Int)) rfl rfl (by kernel_rfl) (by kernel_rfl) (by kernel_rfl) (fun _ _ _ h => h) (Or.inl ⟨by kernel_rfl, fun _ hS => by first | rfl | (obtain ⟨g4, k0, k1⟩ := hS; go_simp)⟩) hS ?_
                  try simp only [Act.put, List.setIfInBounds_toArray, List.set_cons_zero, List.set_cons_succ]
                  refine takeG (i := 3) 225 (v := .pointer (some ⟨A, 2, none⟩)) rfl rfl (by kernel_rfl) (by kernel_rfl) (by kernel_rfl) (fun _ _ _ h => h) (Or.inl ⟨by kernel_rfl, fun _ hS => by first | rfl | (obtain ⟨g4, k0, k1⟩ := hS; go_simp)⟩) hS ?_
                  try simp only [Act.put, List.setIfInBounds_toArray, List.set_cons_zero, List.set_cons_succ]
                  refine takeG (i := 4) 226 (v := .int .i64 (kj : Int)) rfl rfl (by kernel_rfl) (by kernel_rfl) (by kernel_rfl) (fun _ _ _ h => h) (Or.inl ⟨by kernel_rfl, fun _ hS => by first | rfl | (obtain ⟨g4, k0, k1⟩ := hS; go_simp)⟩) hS ?_
                  try simp only [Act.put, List.setIfInBounds_toArray, List.set_cons_zero, List.set_cons_succ]
                  refine takeG (i := 5) 227 (v := .pointer (some ⟨R, 0, none⟩)) rfl rfl (by kernel_rfl) (by kernel_rfl) (by kernel_rfl) (fun _ _ _ h => h) (Or.inl ⟨by kernel_rfl, fun _ hS => by first | rfl | (obtain ⟨g4, k0, k1⟩ := hS; go_simp)⟩) hS ?_
                  try simp only [Act.put, List.setIfInBounds_toArray, List.set_cons_zero, List.set_cons_succ]
                  refine takeG (i := 6) 228 (v := .pointer (some ⟨A, 1, none⟩)) rfl rfl (by kernel_rfl) (by kernel_rfl) (by kernel_rfl) (fun _ _ _ h => h) (Or.inl ⟨by kernel_rfl, fun _ hS => by first | rfl | (obtain ⟨g4, k0, k1⟩ := hS; go_simp)⟩) hS ?_
                  try simp only [Act.put, List.setIfInBounds_toArray, List.set_cons_zero, List.set_cons_succ]
                  refine takeG (i := 7) 229 (v := .int .i64 (ki : Int)) rfl rfl (by kernel_rfl) (by kernel_rfl) (by kernel_rfl) (fun _ _ _ h => h) (Or.inl ⟨by kernel_rfl, fun _ hS => by first | rfl | (obtain ⟨g4, k0, k1⟩ := hS; go_simp)⟩) hS ?_
                  try simp only [Act.put, List.setIfInBounds_toArray, List.set_cons_zero, List.set_cons_succ]
                  refine takeG (i := 8) 230 (v := .pointer (some ⟨A, 2, none⟩)) rfl rfl (by kernel_rfl) (by kernel_rfl) (by kernel_rfl) (fun _ _ _ h => h) (Or.inl ⟨by kernel_rfl, fun _ hS => by first | rfl | (obtain ⟨g4, k0, k1⟩ := hS; go_simp)⟩) hS ?_
                  try simp only [Act.put, List.setIfInBounds_toArray, List.set_cons_zero, List.set_cons_succ]
                  refine takeG (i := 9) 231 (v := .int .i64 (kj : Int)) rfl rfl (by kernel_rfl) (by kernel_rfl) (by kernel_rfl) (fun _ _ _ h => h) (Or.inl ⟨by kernel_rfl, fun _ hS => by first | rfl | (obtain ⟨g4, k0, k1⟩ := hS; go_simp)⟩) hS ?_
                  try simp only [Act.put, List.setIfInBounds_toArray, List.set_cons_zero, List.set_cons_succ]
                  refine takeG (i := 10) 232 (v := .pointer (some ⟨R, 0, none⟩)) rfl rfl (by kernel_rfl) (by kernel_rfl) (by kernel_rfl) (fun _ _ _ h => h) (Or.inl ⟨by kernel_rfl, fun _ hS => by first | rfl | (obtain ⟨g4, k0, k1⟩ := hS; go_simp)⟩) hS ?_
                  try simp only [Act.put, List.setIfInBounds_toArray, List.set_cons_zero, List.set_cons_succ]
                  refine takeG (i := 11) 233 (v := .pointer (some ⟨R, 1, none⟩)) rfl rfl (by kernel_rfl) (by kernel_rfl) (by kernel_rfl) (fun _ _ _ h => h) (Or.inl ⟨by kernel_rfl, fun _ hS => by first | rfl | (obtain ⟨g4, k0, k1⟩ := hS; go_simp)⟩) hS ?_
                  try simp only [Act.put, List.setIfInBounds_toArray, List.set_cons_zero, List.set_cons_succ]
                  refine takeG (i := 12) 234 (v := .pointer (some ⟨R, 1 + ki * 5, none⟩)) rfl rfl (by kernel_rfl) (by kernel_rfl) (by kernel_rfl) (fun _ _ _ h => h) (Or.inl ⟨by kernel_rfl, fun _ hS => by first | rfl | (obtain ⟨g4, k0, k1⟩ := hS; go_simp)⟩) hS ?_
                  try simp only [Act.put, List.setIfInBounds_toArray, List.set_cons_zero, List.set_cons_succ]
                  refine takeG (i := 13) 235 (v := .pointer (some ⟨R, 1 + ki * 5 + kj, none⟩)) rfl rfl (by kernel_rfl) (by kernel_rfl) (by kernel_rfl) (fun _ _ _ h => h) (Or.inl ⟨by kernel_rfl, fun _ hS => by first | rfl | (obtain ⟨g4, k0, k1⟩ := hS; go_simp)⟩) hS ?_
                  try simp only [Act.put, List.setIfInBounds_toArray, List.set_cons_zero, List.set_cons_succ]
                  refine takeG (i := 15) 237 (v := .pointer (some ⟨A, 3, none⟩)) rfl rfl (by kernel_rfl) (by kernel_rfl) (by kernel_rfl) (fun _ _ _ h => h) (Or.inl ⟨by kernel_rfl, fun _ hS => by first | rfl | (obtain ⟨g4, k0, k1⟩ := hS; go_simp)⟩) hS ?_
                  try simp only [Act.put, List.setIfInBounds_toArray, List.set_cons_zero, List.set_cons_succ]
                  refine takeG (i := 16) 238 (v := .int .i64 k3) rfl rfl (by kernel_rfl) (by kernel_rfl) (by kernel_rfl) (fun _ _ _ h => h) (Or.inl ⟨by kernel_rfl, fun _ hS => by first | rfl | (obtain ⟨g4, k0, k1⟩ := hS; go_simp)⟩) hS ?_
                  try simp only [Act.put, List.setIfInBounds_toArray, List.set_cons_zero, List.set_cons_succ]
                  refine takeG (i := 19) 241 (v := .pointer (some ⟨R, 0, none⟩)) rfl rfl (by kernel_rfl) (by kernel_rfl) (by kernel_rfl) (fun _ _ _ h => h) (Or.inl ⟨by kernel_rfl, fun _ hS => by first | rfl | (obtain ⟨g4, k0, k1⟩ := hS; go_simp)⟩) hS ?_
                  try simp only [Act.put, List.setIfInBounds_toArray, List.set_cons_zero, List.set_cons_succ]
                  refine takeG (i := 20) 242 (v := .pointer (some ⟨R, 1, none⟩)) rfl rfl (by kernel_rfl) (by kernel_rfl) (by kernel_rfl) (fun _ _ _ h => h) (Or.inl ⟨by kernel_rfl, fun _ hS => by first | rfl | (obtain ⟨g4, k0, k1⟩ := hS; go_simp)⟩) hS ?_
                  try simp only [Act.put, List.setIfInBounds_toArray, List.set_cons_zero, List.set_cons_succ]
                  refine takeG (i := 21) 243 (v := .pointer (some ⟨R, 1 + ki * 5, none⟩)) rfl rfl (by kernel_rfl) (by kernel_rfl) (by kernel_rfl) (fun _ _ _ h => h) (Or.inl ⟨by kernel_rfl, fun _ hS => by first | rfl | (obtain ⟨g4, k0, k1⟩ := hS; go_simp)⟩) hS ?_
                  try simp only [Act.put, List.setIfInBounds_toArray, List.set_cons_zero, List.set_cons_succ]
                  refine wpAnyH_ready (rs := [14, 17]) (by kernel_rfl) (by simp) ?_
                  refine AllReadyH.cons rfl (fun K9 hK9 => ?_) (AllReadyH.cons rfl (fun K9 hK9 => ?_) AllReadyH.nil)
                  · skip
                    as_aux_lemma =>
                      go_simp
                      refine hK9.out _ _ hS (fun hS => ?_)
                      clear hK9 K9
                      refine wpAnyH_ready (rs := [17]) (by kernel_rfl) (by simp) ?_
                      refine AllReadyH.cons rfl (fun K9 hK9 => ?_) AllReadyH.nil
                      go_simp
                      refine hK9.out _ _ ⟨(World.cell?_alloc_lt _ _ _ hAl).trans y1, (World.cell?_alloc_lt _ _ _ hAl).trans y2, (World.cell?_alloc_lt _ _ _ hAl).trans y3⟩ (fun hS => ?_)
                      clear hK9 K9
                      refine wpAnyH_ready (rs := [18]) (by kernel_rfl) (by simp) ?_
                      refine AllReadyH.cons rfl (fun K9 hK9 => ?_) AllReadyH.nil
                      (refine step_append_off (by rfl) _ _ _ (by rfl) w.heap.size ii Tryd.underlying22 HJ.out.1 HJ.out.2.1 HJ.out.2.2.1 HJ.out.2.2.2 (.slice qa lw ca) xs (by rfl) (by exact or_pushP HX.out.1 rfl) ⟨W8.heap.size, 0, none⟩ 1 k3 (by rfl) (by exact new_pushP rfl) (by have := HX.out.2.1; omega) (by have := HX.out.2.2.1; simp; omega) ?_; intro gg go gcc w8 hown hgrow hat; have HG8 : Hid (W8.grownBy w8 (Value.slice qa lw ca).ownBlock) := grown_tmpP hgrow rfl rfl rfl rfl; have HO8 : Hid (OR w8 w.heap.size (.slice (some ⟨gg, go, none⟩) (xs.length + 1) gcc) (xs ++ [k3]) ∧ ((Value.slice qa lw ca).ownBlock = some gg ∨ W8.heap.size ≤ gg)) := ⟨hown, hat.imp id (fun e => by simp at e; omega)⟩; clear hown hgrow hat)
                      have s1 := (HG8.out.cell_far ⟨A, 1, none⟩ hAl HX.out.2.2.2.2).trans y1
                      have s2 := (HG8.out.cell_far ⟨A, 2, none⟩ hAl HX.out.2.2.2.2).trans y2
                      have s3 := (HG8.out.cell_far ⟨A, 3, none⟩ hAl HX.out.2.2.2.2).trans y3
                      have m8 : w8.frozen? ⟨R, 1 + ki * 5 + kj, none⟩ = false := (HG8.out.frozen_far ⟨R, 1 + ki * 5 + kj, none⟩ hRl HX.out.2.2.2.1).trans zw
                      have l8 : w8.cell? ⟨R, 1 + ki * 5 + kj, none⟩ = some (.slice qa lw ca) := (HG8.out.cell_far ⟨R, 1 + ki * 5 + kj, none⟩ hRl HX.out.2.2.2.1).trans cw1
                      have hR8 : R < w8.heap.size := Nat.lt_of_lt_of_le hRl HG8.out.size
                      have e1 : (w8.setCell ⟨R, 1 + ki * 5 + kj, none⟩ (.slice (some ⟨gg, go, none⟩) (xs.length + 1) gcc)).cell? ⟨A, 1, none⟩ = some (.int .i64 (ki : Int)) := (World.cell?_of_block (a := ⟨A, 1, none⟩) (Deep.blk_setCell_other _ _ _ _ hAR)).trans s1
                      have e2 : (w8.setCell ⟨R, 1 + ki * 5 + kj, none⟩ (.slice (some ⟨gg, go, none⟩) (xs.length + 1) gcc)).cell? ⟨A, 2, none⟩ = some (.int .i64 (kj : Int)) := (World.cell?_of_block (a := ⟨A, 2, none⟩) (Deep.blk_setCell_other _ _ _ _ hAR)).trans s2
                      have e3 : (w8.setCell ⟨R, 1 + ki * 5 + kj, none⟩ (.slice (some ⟨gg, go, none⟩) (xs.length + 1) gcc)).cell? ⟨A, 3, none⟩ = some (.int .i64 k3) := (World.cell?_of_block (a := ⟨A, 3, none⟩) (Deep.blk_setCell_other _ _ _ _ hAR)).trans s3
                      refine hK9.out _ _ ⟨s1, s2, s3⟩ (fun hS => ?_)
                      clear hK9 K9
                      refine takeG (i := 22) 244 (v := .pointer (some ⟨R, 1 + ki * 5 + kj, none⟩)) rfl rfl (by kernel_rfl) (by kernel_rfl) (by kernel_rfl) (fun _ _ _ h => h) (Or.inl ⟨by kernel_rfl, fun _ hS => by first | rfl | (obtain ⟨g4, k0, k1⟩ := hS; go_simp)⟩) hS ?_
                      refine wpAnyH_ready (rs := [23]) (by kernel_rfl) (by simp) ?_
                      refine AllReadyH.cons rfl (fun K9 hK9 => ?_) AllReadyH.nil
                      go_simp
                      refine hK9.out _ _ ⟨e1, e2, e3⟩ (fun hS => ?_)
                      clear hK9 K9
                      refine wpAnyH_done (by kernel_rfl) ?_ _
                      have FN : Hid (∃ ov', PM w (w8.setCell ⟨R, 1 + ki * 5 + kj, none⟩ (.slice (some ⟨gg, go, none⟩) (xs.length + 1) gcc)) P R g (pay g (ki : Int) (kj : Int) k3) fp gb gc ov' ∧ AR (w8.setCell ⟨R, 1 + ki * 5 + kj, none⟩ (.slice (some ⟨gg, go, none⟩) (xs.length + 1) gcc)) A k fp R gb ov') := FIN.out gg go gcc w8 HG8.out HO8.out.1 HO8.out.2
                      clear s1 s2 s3 e1 e2 e3 l8 m8 hR8 hS
                      go_wp2
                      go_meet
                      exact ⟨cw, rfl, EC0.out, FN.out⟩
                  · skip
                    as_aux_lemma =>
                      go_simp
                      refine hK9.out _ _ ⟨(World.cell?_alloc_lt _ _ _ hAl).trans y1, (World.cell?_alloc_lt _ _ _ hAl).trans y2, (World.cell?_alloc_lt _ _ _ hAl).trans y3⟩ (fun hS => ?_)
                      clear hK9 K9
                      refine wpAnyH_ready (rs := [14]) (by kernel_rfl) (by simp) ?_
                      refine AllReadyH.cons rfl (fun K9 hK9 => ?_) AllReadyH.nil
                      go_simp
                      refine hK9.out _ _ ⟨(World.cell?_alloc_lt _ _ _ hAl).trans y1, (World.cell?_alloc_lt _ _ _ hAl).trans y2, (World.cell?_alloc_lt _ _ _ hAl).trans y3⟩ (fun hS => ?_)
                      clear hK9 K9
                      refine wpAnyH_ready (rs := [18]) (by kernel_rfl) (by simp) ?_
                      refine AllReadyH.cons rfl (fun K9 hK9 => ?_) AllReadyH.nil
                      (refine step_append_off (by rfl) _ _ _ (by rfl) w.heap.size ii Tryd.underlying22 HJ.out.1 HJ.out.2.1 HJ.out.2.2.1 HJ.out.2.2.2 (.slice qa lw ca) xs (by rfl) (by exact or_pushP HX.out.1 rfl) ⟨W8.heap.size, 0, none⟩ 1 k3 (by rfl) (by exact new_pushP rfl) (by have := HX.out.2.1; omega) (by have := HX.out.2.2.1; simp; omega) ?_; intro gg go gcc w8 hown hgrow hat; have HG8 : Hid (W8.grownBy w8 (Value.slice qa lw ca).ownBlock) := grown_tmpP hgrow rfl rfl rfl rfl; have HO8 : Hid (OR w8 w.heap.size (.slice (some ⟨gg, go, none⟩) (xs.length + 1) gcc) (xs ++ [k3]) ∧ ((Value.slice qa lw ca).ownBlock = some gg ∨ W8.heap.size ≤ gg)) := ⟨hown, hat.imp id (fun e => by simp at e; omega)⟩; clear hown hgrow hat)
                      have s1 := (HG8.out.cell_far ⟨A, 1, none⟩ hAl HX.out.2.2.2.2).trans y1
                      have s2 := (HG8.out.cell_far ⟨A, 2, none⟩ hAl HX.out.2.2.2.2).trans y2
                      have s3 := (HG8.out.cell_far ⟨A, 3, none⟩ hAl HX.out.2.2.2.2).trans y3
                      have m8 : w8.frozen? ⟨R, 1 + ki * 5 + kj, none⟩ = false := (HG8.out.frozen_far ⟨R, 1 + ki * 5 + kj, none⟩ hRl HX.out.2.2.2.1).trans zw
                      have l8 : w8.cell? ⟨R, 1 + ki * 5 + kj, none⟩ = some (.slice qa lw ca) := (HG8.out.cell_far ⟨R, 1 + ki * 5 + kj, none⟩ hRl HX.out.2.2.2.1).trans cw1
                      have hR8 : R < w8.heap.size := Nat.lt_of_lt_of_le hRl HG8.out.size
                      have e1 : (w8.setCell ⟨R, 1 + ki * 5 + kj, none⟩ (.slice (some ⟨gg, go, none⟩) (xs.length + 1) gcc)).cell? ⟨A, 1, none⟩ = some (.int .i64 (ki : Int)) := (World.cell?_of_block (a := ⟨A, 1, none⟩) (Deep.blk_setCell_other _ _ _ _ hAR)).trans s1
                      have e2 : (w8.setCell ⟨R, 1 + ki * 5 + kj, none⟩ (.slice (some ⟨gg, go, none⟩) (xs.length + 1) gcc)).cell? ⟨A, 2, none⟩ = some (.int .i64 (kj : Int)) := (World.cell?_of_block (a := ⟨A, 2, none⟩) (Deep.blk_setCell_other _ _ _ _ hAR)).trans s2
                      have e3 : (w8.setCell ⟨R, 1 + ki * 5 + kj, none⟩ (.slice (some ⟨gg, go, none⟩) (xs.length + 1) gcc)).cell? ⟨A, 3, none⟩ = some (.int .i64 k3) := (World.cell?_of_block (a := ⟨A, 3, none⟩) (Deep.blk_setCell_other _ _ _ _ hAR)).trans s3
                      refine hK9.out _ _ ⟨s1, s2, s3⟩ (fun hS => ?_)
                      clear hK9 K9
                      refine takeG (i := 22) 244 (v := .pointer (some ⟨R, 1 + ki * 5 + kj, none⟩)) rfl rfl (by kernel_rfl) (by kernel_rfl) (by kernel_rfl) (fun _ _ _ h => h) (Or.inl ⟨by kernel_rfl, fun _ hS => by first | rfl | (obtain ⟨g4, k0, k1⟩ := hS; go_simp)⟩) hS ?_
                      refine wpAnyH_ready (rs := [23]) (by kernel_rfl) (by simp) ?_
                      refine AllReadyH.cons rfl (fun K9 hK9 => ?_) AllReadyH.nil
                      go_simp
                      refine hK9.out _ _ ⟨e1, e2, e3⟩ (fun hS => ?_)
                      clear hK9 K9
                      refine wpAnyH_done (by kernel_rfl) ?_ _
                      have FN : Hid (∃ ov', PM w (w8.setCell ⟨R, 1 + ki * 5 + kj, none⟩ (.slice (some ⟨gg, go, none⟩) (xs.length + 1) gcc)) P R g (pay g (ki : Int) (kj : Int) k3) fp gb gc ov' ∧ AR (w8.setCell ⟨R, 1 + ki * 5 + kj, none⟩ (.slice (some ⟨gg, go, none⟩) (xs.length + 1) gcc)) A k fp R gb ov') := FIN.out gg go gcc w8 HG8.out HO8.out.1 HO8.out.2
                      clear s1 s2 s3 e1 e2 e3 l8 m8 hR8 hS
                      go_wp2
                      go_meet
                      exact ⟨cw, rfl, EC0.out, FN.out⟩
          · skip
            as_aux_lemma =>
              have hcw : (cw == 0) = false := by rw [beq_eq_false_iff_ne]; exact hc0
              have ec : payC g k1 k2 k3 = cw := by unfold payC; rw [if_neg (by rw [← ECW.out]; exact hc0), ECW.out]
              have eg : pay g k1 k2 k3 = g := by unfold pay; rw [if_neg (by rw [ec]; exact hc0)]
              have N1 : Hid (payC g k1 k2 k3 = cw ∧ pay g k1 k2 k3 = g) := ⟨ec, eg⟩
              clear hc0 ec eg
              go_wp2_with fail
              go_quiet (fail)
              go_wp2_with fail
              go_quiet (fail)
              go_wp2
              go_meet
              refine ⟨cw, rfl, N1.out.1.symm, ov, ?_, G6.out.2.1.drewN _⟩
              rw [N1.out.2]
              exact (G6.out.1.drewN _).pm
        · have hx := of_decide_eq_true HB.out.symm
          have ec : payC g k1 k2 k3 = 1 := by unfold payC; rw [if_pos (by rw [← ECW.out]; exact hx.1), if_pos hx.2]
          have eg : pay g k1 k2 k3 = g := by unfold pay; rw [if_neg (by rw [ec]; decide)]
          have N1 : Hid (payC g k1 k2 k3 = 1 ∧ pay g k1 k2 k3 = g) := ⟨ec, eg⟩
          clear hx ec eg
          go_wp2
          go_meet
          refine ⟨1, rfl, N1.out.1.symm, ov, ?_, G6.out.2.1⟩
          rw [N1.out.2]
          exact G6.out.1.pm
      case rest =>
        as_aux_lemma =>
          obtain ⟨c, rfl, hx⟩ := hcut
          obtain ⟨w7, ew7⟩ : ∃ w7, w7 = wc := ⟨_, rfl⟩
          subst ew7
          obtain ⟨ec, ov7, hPM, hAR⟩ := hx.out
          have M7 : Hid (PM w w7 P R g (pay g k1 k2 k3) fp gb gc ov7 ∧ AR w7 A k fp R gb ov7 ∧ c = payC g k1 k2 k3) := ⟨hPM, hAR, ec⟩
          clear hx ec hPM hAR y1 y2 y3 hAl
          have y1 := M7.out.2.1.c1
          have y2 := M7.out.2.1.c2
          have y3 := M7.out.2.1.c3
          rw [← EK.out.2.1] at y1
          rw [← EK.out.2.2.1] at y2
          rw [← EK.out.2.2.2] at y3
          have hAl := M7.out.2.1.lt
          go_wp2_with fail
          refine (payG w.heap.size P g fp all k1 k2 k3 w7 M7.out.1.us G6.out.1.inv M7.out.1.bel.size).mono ?_
          rintro e w8 ⟨fp8, rfl, hA, hb, hkl, hnl⟩
          rw [← M7.out.2.2]
          have G8 : Hid (PF w w8 P R all (pay g k1 k2 k3) fp8 gb gc ov7 ∧ AR w8 A k fp8 R gb ov7) := ⟨M7.out.1.prog hA hb hkl hnl (G6.out.1.inv.pay k1 k2 k3), M7.out.2.1.prog hkl hnl⟩
          clear hA hb hkl hnl y1 y2 y3 hAl
          go_wp2_with fail
          refine (errF_same c w8 (HL.out.later G8.out.1.bel)).mono ?_
          rintro e w9 ⟨rfl, hb⟩
          have G9 : Hid (FA w w9 P R gb gc all len A k) := ⟨pay g k1 k2 k3, fp8, ov7, G8.out.1.later hb, by rw [(pay_n g k1 k2 k3).1]; exact G6.out.2.2, G8.out.2.later hb⟩
          clear hb
          go_wp2
          try exact hQ _ _ _ _ _ _ _ _ _ _ _ _ _ _ _ _ _ _ _ _ _ _ _ _ _ _ _ _ _ _ _ _ _ _ _ _ _ _ _ _ _ _ _ _ _ _ _ _ _ _ _ _ _ _ _ _ _ _ _ _ _ _ _ _ _ _ _ _ _ _ _ _ _ _ _ _ _ _ _ _ _ _ _ _ _ _ _ _ _ _ _ _ _ _ _ _ _ _ _ _ _ _ _ _ _ _ _ _ _ _ _ _ _ _ _ _ _ _ _ _ _ _ _ _ _ _ _ _ _ _ _ _ _ _ _ _ _ _ _ _ _ _ _ _ _ _ _ _ _ _ _ _ _ _ _ _ _ _ _ _ _ _ _ _ _ rfl (G9.out)
end Go.Proofs.YtgcdbcljneoifajDoor.Pic
