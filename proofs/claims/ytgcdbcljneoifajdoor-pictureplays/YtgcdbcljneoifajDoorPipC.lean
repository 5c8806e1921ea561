/-
  A part of PicturePlays: the first on a way comes.
-/
import Derived.Test.YtgcdbcljneoifajDoorPipA
namespace Go.Proofs.YtgcdbcljneoifajDoor.Pic
open Go.RowKit
open Go.Proofs.YtgcdbcljneoifajDoor.As (Laid)
open Go.Proofs.YtgcdbcljneoifajDoor.Fif (own_lt own_block own_form own_vw ret_bool info_int new_int int_one)
open Go.Proofs.YtgcdbcljneoifajDoor.Vec (Vw Rw)
open Go.Proofs.YtgcdbcljneoifajDoor.Sep (KpL NewL)
open Go.Proofs.YtgcdbcljneoifajDoor.Ldr (errF errF_ok errF_no errF_same Sl same_any)
open Go.Proofs.YtgcdbcljneoifajDoor.Off (OR step_append_off)
set_option linter.unusedVariables false

set_option maxRecDepth 100000 in
set_option maxHeartbeats 8000000 in
theorem sw_come (w : World) (hL : Laid w) (P R A bq oq len cap gb gc : Nat) (all : Int) (hall : all ≤ 5000) (h5 : len ≤ 5) (k : Nat → Int) (k0 k1 k2 k3 cw : Int) (g : G) (fp : List Nat) (ov : Nat → Value) (w6 : World) (ii : TypeInfo) (HJ : Hid (Tryd.prog.info? 3 = some ii ∧ ii.zero = some (.int .i64 0) ∧ ii.size = 1 ∧ ii.bytes = 8)) (EK : Hid (k0 = k 0 ∧ k1 = k 1 ∧ k2 = k 2 ∧ k3 = k 3)) (G6 : Hid (PF w w6 P R all g fp gb gc ov ∧ AR w6 A k fp R gb ov ∧ g.n = len)) (ECW : Hid (cw = wayC g k1 k2)) (hk : k0 = 3 ∨ k0 = 4 ∨ k0 = 5)
    (C : Code) (hC : (Tryd.f3.body.bind (blockAt 6)).getD .skip = C) (KK K2 : Act → World → Prop) (Q' : Exit → Act → World → Prop) (hQ' : ∃ (K3 K4 : Act → World → Prop) (Rr : Ending → World → Prop), Q' = Exit.then K3 (Exit.inBlock 2 (Exit.then K4 (bodyPost Tryd.prog Tryd.f3 Rr))))
    (u1 u2 u3 u4 u6 u8 u9 u11 u13 u15 u16 u17 u18 u19 u20 u21 u22 u23 u24 u25 u26 u27 u28 u29 u30 u31 u32 u33 u34 u35 u36 u37 u38 u39 u40 u41 u42 u43 u44 u45 u46 u47 u48 u49 u50 u51 u52 u53 u54 u55 u56 u57 u58 u59 u60 u61 u62 u63 u64 u65 u66 u67 u68 u69 u70 u71 u72 u73 u74 u75 u76 u77 u78 u79 u80 u81 u82 u83 u84 u85 u86 u87 u88 u89 u90 u91 u92 u93 u94 u95 u96 u97 u98 u99 u100 u101 u102 u103 u104 u105 u106 u107 u108 u109 u110 u111 u112 u113 u114 u115 u116 u117 u118 u119 u120 u121 u122 u123 u124 u125 u127 u128 u129 u130 u131 u132 u133 u134 u135 u136 u137 u138 u139 u140 u141 u142 u143 u144 u145 u146 u147 u148 u149 u150 u151 u152 u153 u154 u155 u156 u157 u158 u159 u160 u161 u162 u163 u164 u165 u166 u167 u168 u169 u170 u171 u172 u173 u174 u175 u176 u177 u178 u179 u180 u181 u182 u183 u184 u185 u186 u187 u188 u189 u190 u191 u192 u193 u194 u195 u196 u197 u198 u199 u200 u201 u202 u203 u204 u205 u206 u207 u208 u209 u210 u211 u212 u213 u214 u215 u216 u217 u218 u219 u220 u221 u222 u223 u224 u225 u226 u227 u228 u229 u230 u231 u232 u233 u234 u235 u236 u237 u238 u239 u240 u241 u242 u243 u244 u245 u246 u247 u248 u249 u250 u251 u252 u253 u254 u255 u256 u257 u258 u259 u260 u261 u262 u263 u264 u265 u266 u267 u268 u269 u270 u271 u272 u273 u274 u275 u276 u277 u278 u279 u280 u281 u282 u283 u284 u285 u286 u287 u288 u289 u290 u291 u292 u293 u294 u295 u296 u297 u298 u299 u300 u301 u302 u303 u304 u305 u306 u307 u308 u309 u310 u311 u312 u313 u314 u315 u316 u317 u318 u319 u320 u321 u322 u323 u324 u325 u326 u327 u328 u329 u330 u331 u332 u333 u334 u335 u336 u337 u338 u339 u340 u341 u342 u343 u344 u345 u346 u347 u348 u349 u350 u351 u352 u353 u354 u355 u356 u357 u358 u359 u360 u361 u362 u363 u364 u365 u366 u367 u368 u369 u370 u371 u372 u373 u374 u375 u376 u377 u378 u379 u380 u381 u382 u383 u384 u385 u386 u387 u388 u389 u390 u391 u392 u393 u394 u395 u396 u397 u398 u399 u400 u401 u402 u403 : Value)
    (hQ : ∀ (s5 s9 s15 s16 s17 s18 s127 s128 s129 s130 s131 s132 s133 s134 s135 s136 s137 s138 s139 s140 s141 s142 s143 s144 s145 s146 s147 s148 s149 s150 s151 s152 s153 s154 s155 s156 s157 s158 s159 s160 s161 s162 s163 s164 s165 s166 s167 s168 s169 s170 s171 s172 s173 s174 s175 s176 s177 s178 s179 s180 s181 s182 s183 s184 s185 s186 s187 s188 s189 s190 s191 s192 s193 s194 s195 s196 s197 s198 s199 s200 s201 s202 s203 s204 s205 s206 s207 s208 s209 s210 s211 s212 s213 s214 s215 s216 s217 s218 s219 s220 s221 s222 s223 s224 s225 s226 s227 s228 s229 s230 s231 s232 s233 s234 s235 s236 s237 s238 s239 s240 s241 s242 s243 s244 s245 s246 s247 s248 s249 s250 s251 s252 s253 s254 s255 s256 s257 s258 s259 s260 s261 s262 s263 s264 s265 s266 s267 s268 s269 s270 s271 s272 s273 s274 s275 s276 s277 s278 s279 s280 s281 s282 s283 s284 : Value) (wz : World), s9 = .bool true → Hid (FA w wz P R gb gc all len A k) → KK ⟨List.toArray ((.slice (some ⟨bq, oq, none⟩) len cap) :: u1 :: u2 :: u3 :: u4 :: (s5) :: u6 :: (.pointer (some ⟨P, 0, none⟩)) :: u8 :: (s9) :: (.pointer (some ⟨R, 0, none⟩)) :: u11 :: (.pointer (some ⟨A, 0, none⟩)) :: u13 :: (.int .i64 cw) :: (s15) :: (s16) :: (s17) :: (s18) :: u19 :: u20 :: u21 :: u22 :: u23 :: u24 :: u25 :: u26 :: u27 :: u28 :: u29 :: u30 :: u31 :: u32 :: u33 :: u34 :: u35 :: u36 :: u37 :: u38 :: u39 :: u40 :: u41 :: u42 :: u43 :: u44 :: u45 :: u46 :: u47 :: u48 :: u49 :: u50 :: u51 :: u52 :: u53 :: u54 :: u55 :: u56 :: u57 :: u58 :: u59 :: u60 :: u61 :: u62 :: u63 :: u64 :: u65 :: u66 :: u67 :: u68 :: u69 :: u70 :: u71 :: u72 :: u73 :: u74 :: u75 :: u76 :: u77 :: u78 :: u79 :: u80 :: u81 :: u82 :: u83 :: u84 :: u85 :: u86 :: u87 :: u88 :: u89 :: u90 :: u91 :: u92 :: u93 :: u94 :: u95 :: u96 :: u97 :: u98 :: u99 :: u100 :: u101 :: u102 :: u103 :: u104 :: u105 :: u106 :: u107 :: u108 :: u109 :: u110 :: u111 :: u112 :: u113 :: u114 :: u115 :: u116 :: u117 :: u118 :: u119 :: u120 :: u121 :: u122 :: u123 :: u124 :: u125 :: (.int .i64 k0) :: (s127) :: (s128) :: (s129) :: (s130) :: (s131) :: (s132) :: (s133) :: (s134) :: (s135) :: (s136) :: (s137) :: (s138) :: (s139) :: (s140) :: (s141) :: (s142) :: (s143) :: (s144) :: (s145) :: (s146) :: (s147) :: (s148) :: (s149) :: (s150) :: (s151) :: (s152) :: (s153) :: (s154) :: (s155) :: (s156) :: (s157) :: (s158) :: (s159) :: (s160) :: (s161) :: (s162) :: (s163) :: (s164) :: (s165) :: (s166) :: (s167) :: (s168) :: (s169) :: (s170) :: (s171) :: (s172) :: (s173) :: (s174) :: (s175) :: (s176) :: (s177) :: (s178) :: (s179) :: (s180) :: (s181) :: (s182) :: (s183) :: (s184) :: (s185) :: (s186) :: (s187) :: (s188) :: (s189) :: (s190) :: (s191) :: (s192) :: (s193) :: (s194) :: (s195) :: (s196) :: (s197) :: (s198) :: (s199) :: (s200) :: (s201) :: (s202) :: (s203) :: (s204) :: (s205) :: (s206) :: (s207) :: (s208) :: (s209) :: (s210) :: (s211) :: (s212) :: (s213) :: (s214) :: (s215) :: (s216) :: (s217) :: (s218) :: (s219) :: (s220) :: (s221) :: (s222) :: (s223) :: (s224) :: (s225) :: (s226) :: (s227) :: (s228) :: (s229) :: (s230) :: (s231) :: (s232) :: (s233) :: (s234) :: (s235) :: (s236) :: (s237) :: (s238) :: (s239) :: (s240) :: (s241) :: (s242) :: (s243) :: (s244) :: (s245) :: (s246) :: (s247) :: (s248) :: (s249) :: (s250) :: (s251) :: (s252) :: (s253) :: (s254) :: (s255) :: (s256) :: (s257) :: (s258) :: (s259) :: (s260) :: (s261) :: (s262) :: (s263) :: (s264) :: (s265) :: (s266) :: (s267) :: (s268) :: (s269) :: (s270) :: (s271) :: (s272) :: (s273) :: (s274) :: (s275) :: (s276) :: (s277) :: (s278) :: (s279) :: (s280) :: (s281) :: (s282) :: (s283) :: (s284) :: u285 :: u286 :: u287 :: u288 :: u289 :: u290 :: u291 :: u292 :: u293 :: u294 :: u295 :: u296 :: u297 :: u298 :: u299 :: u300 :: u301 :: u302 :: u303 :: u304 :: u305 :: u306 :: u307 :: u308 :: u309 :: u310 :: u311 :: u312 :: u313 :: u314 :: u315 :: u316 :: u317 :: u318 :: u319 :: u320 :: u321 :: u322 :: u323 :: u324 :: u325 :: u326 :: u327 :: u328 :: u329 :: u330 :: u331 :: u332 :: u333 :: u334 :: u335 :: u336 :: u337 :: u338 :: u339 :: u340 :: u341 :: u342 :: u343 :: u344 :: u345 :: u346 :: u347 :: u348 :: u349 :: u350 :: u351 :: u352 :: u353 :: u354 :: u355 :: u356 :: u357 :: u358 :: u359 :: u360 :: u361 :: u362 :: u363 :: u364 :: u365 :: u366 :: u367 :: u368 :: u369 :: u370 :: u371 :: u372 :: u373 :: u374 :: u375 :: u376 :: u377 :: u378 :: u379 :: u380 :: u381 :: u382 :: u383 :: u384 :: u385 :: u386 :: u387 :: u388 :: u389 :: u390 :: u391 :: u392 :: u393 :: u394 :: u395 :: u396 :: u397 :: u398 :: u399 :: u400 :: u401 :: u402 :: u403 :: []), []⟩ wz) :
    Code.wp Tryd.prog C (Exit.then KK (Exit.inBlock 3 (Exit.then K2 Q'))) ⟨List.toArray ((.slice (some ⟨bq, oq, none⟩) len cap) :: u1 :: u2 :: u3 :: u4 :: (.int .i64 0) :: u6 :: (.pointer (some ⟨P, 0, none⟩)) :: u8 :: u9 :: (.pointer (some ⟨R, 0, none⟩)) :: u11 :: (.pointer (some ⟨A, 0, none⟩)) :: u13 :: (.int .i64 cw) :: u15 :: u16 :: u17 :: u18 :: u19 :: u20 :: u21 :: u22 :: u23 :: u24 :: u25 :: u26 :: u27 :: u28 :: u29 :: u30 :: u31 :: u32 :: u33 :: u34 :: u35 :: u36 :: u37 :: u38 :: u39 :: u40 :: u41 :: u42 :: u43 :: u44 :: u45 :: u46 :: u47 :: u48 :: u49 :: u50 :: u51 :: u52 :: u53 :: u54 :: u55 :: u56 :: u57 :: u58 :: u59 :: u60 :: u61 :: u62 :: u63 :: u64 :: u65 :: u66 :: u67 :: u68 :: u69 :: u70 :: u71 :: u72 :: u73 :: u74 :: u75 :: u76 :: u77 :: u78 :: u79 :: u80 :: u81 :: u82 :: u83 :: u84 :: u85 :: u86 :: u87 :: u88 :: u89 :: u90 :: u91 :: u92 :: u93 :: u94 :: u95 :: u96 :: u97 :: u98 :: u99 :: u100 :: u101 :: u102 :: u103 :: u104 :: u105 :: u106 :: u107 :: u108 :: u109 :: u110 :: u111 :: u112 :: u113 :: u114 :: u115 :: u116 :: u117 :: u118 :: u119 :: u120 :: u121 :: u122 :: u123 :: u124 :: u125 :: (.int .i64 k0) :: u127 :: u128 :: u129 :: u130 :: u131 :: u132 :: u133 :: u134 :: u135 :: u136 :: u137 :: u138 :: u139 :: u140 :: u141 :: u142 :: u143 :: u144 :: u145 :: u146 :: u147 :: u148 :: u149 :: u150 :: u151 :: u152 :: u153 :: u154 :: u155 :: u156 :: u157 :: u158 :: u159 :: u160 :: u161 :: u162 :: u163 :: u164 :: u165 :: u166 :: u167 :: u168 :: u169 :: u170 :: u171 :: u172 :: u173 :: u174 :: u175 :: u176 :: u177 :: u178 :: u179 :: u180 :: u181 :: u182 :: u183 :: u184 :: u185 :: u186 :: u187 :: u188 :: u189 :: u190 :: u191 :: u192 :: u193 :: u194 :: u195 :: u196 :: u197 :: u198 :: u199 :: u200 :: u201 :: u202 :: u203 :: u204 :: u205 :: u206 :: u207 :: u208 :: u209 :: u210 :: u211 :: u212 :: u213 :: u214 :: u215 :: u216 :: u217 :: u218 :: u219 :: u220 :: u221 :: u222 :: u223 :: u224 :: u225 :: u226 :: u227 :: u228 :: u229 :: u230 :: u231 :: u232 :: u233 :: u234 :: u235 :: u236 :: u237 :: u238 :: u239 :: u240 :: u241 :: u242 :: u243 :: u244 :: u245 :: u246 :: u247 :: u248 :: u249 :: u250 :: u251 :: u252 :: u253 :: u254 :: u255 :: u256 :: u257 :: u258 :: u259 :: u260 :: u261 :: u262 :: u263 :: u264 :: u265 :: u266 :: u267 :: u268 :: u269 :: u270 :: u271 :: u272 :: u273 :: u274 :: u275 :: u276 :: u277 :: u278 :: u279 :: u280 :: u281 :: u282 :: u283 :: u284 :: u285 :: u286 :: u287 :: u288 :: u289 :: u290 :: u291 :: u292 :: u293 :: u294 :: u295 :: u296 :: u297 :: u298 :: u299 :: u300 :: u301 :: u302 :: u303 :: u304 :: u305 :: u306 :: u307 :: u308 :: u309 :: u310 :: u311 :: u312 :: u313 :: u314 :: u315 :: u316 :: u317 :: u318 :: u319 :: u320 :: u321 :: u322 :: u323 :: u324 :: u325 :: u326 :: u327 :: u328 :: u329 :: u330 :: u331 :: u332 :: u333 :: u334 :: u335 :: u336 :: u337 :: u338 :: u339 :: u340 :: u341 :: u342 :: u343 :: u344 :: u345 :: u346 :: u347 :: u348 :: u349 :: u350 :: u351 :: u352 :: u353 :: u354 :: u355 :: u356 :: u357 :: u358 :: u359 :: u360 :: u361 :: u362 :: u363 :: u364 :: u365 :: u366 :: u367 :: u368 :: u369 :: u370 :: u371 :: u372 :: u373 :: u374 :: u375 :: u376 :: u377 :: u378 :: u379 :: u380 :: u381 :: u382 :: u383 :: u384 :: u385 :: u386 :: u387 :: u388 :: u389 :: u390 :: u391 :: u392 :: u393 :: u394 :: u395 :: u396 :: u397 :: u398 :: u399 :: u400 :: u401 :: u402 :: u403 :: []), []⟩ w6 := by
  obtain ⟨K3, K4, Rr, hR⟩ := hQ'
  subst hR hC
  conv => arg 2; whnf
  have HL : Hid (Laid w) := hL
  have HA : Hid (all ≤ 5000) := hall
  have y1 := G6.out.2.1.c1
  have y2 := G6.out.2.1.c2
  have y3 := G6.out.2.1.c3
  rw [← EK.out.2.1] at y1
  rw [← EK.out.2.2.1] at y2
  rw [← EK.out.2.2.2] at y3
  have hAl := G6.out.2.1.lt
  clear hL hall
  go_upto_if 154 with fail
  go_cut [154] from 155 to 157 (fun x wz => x = .bool false ∧ w6 = wz)
  case first =>
    rcases hk with rfl | rfl | rfl
    all_goals
      go_wp2
      go_meet
      exact ⟨rfl, by first | rfl | trivial⟩
  case rest =>
    obtain ⟨rfl, ew⟩ := hcut
    subst ew
    go_upto_if 255 with fail
    go_cut [255] from 257 to 258 (fun x wz => x = .bool true ∧ w6 = wz)
    case first =>
      rcases hk with rfl | rfl | rfl
      all_goals
        go_wp2
        go_meet
        exact ⟨rfl, by first | rfl | trivial⟩
    case rest =>
      obtain ⟨rfl, ew⟩ := hcut
      subst ew
      clear hk
      go_wp2_with fail
      refine (refCome G6.out.1.rf G6.out.1.inv HA.out k1 k2).mono ?_
      rintro e w7 ⟨rfl, ov7, hX⟩
      obtain ⟨cc, ecc⟩ : ∃ cc, cc = comeC g k1 k2 := ⟨_, rfl⟩
      obtain ⟨cn, ecn⟩ : ∃ cn, cn = comeN g k1 k2 := ⟨_, rfl⟩
      rw [← ecc, ← ecn]
      have M7 : Hid (PM w w7 P R g (come g k1 k2) fp gb gc ov7 ∧ AR w7 A k fp R gb ov7 ∧ cc = comeC g k1 k2 ∧ cn = comeN g k1 k2) := ⟨G6.out.1.ref hX, G6.out.2.1.ref hX, ecc, ecn⟩
      clear y1 y2 y3 hAl hX ecc ecn
      have y1 := M7.out.2.1.c1
      have y2 := M7.out.2.1.c2
      rw [← EK.out.2.1] at y1
      rw [← EK.out.2.2.1] at y2
      have hAl := M7.out.2.1.lt
      go_wp2_with fail
      refine (comeG w.heap.size P g fp all k1 k2 w7 M7.out.1.us G6.out.1.inv M7.out.1.bel.size).mono ?_
      rintro e w8 ⟨fp8, rfl, hA, hb, hkl, hnl⟩
      rw [← M7.out.2.2.1, ← M7.out.2.2.2]
      have G8 : Hid (PF w w8 P R all (come g k1 k2) fp8 gb gc ov7 ∧ AR w8 A k fp8 R gb ov7) := ⟨M7.out.1.prog hA hb hkl hnl (G6.out.1.inv.come k1 k2), M7.out.2.1.prog hkl hnl⟩
      clear hA hb hkl hnl y1 y2 hAl
      go_wp2_with fail
      refine (errF_same cc w8 (HL.out.later G8.out.1.bel)).mono ?_
      rintro e w9 ⟨rfl, hb⟩
      have G9 : Hid (FA w w9 P R gb gc all len A k) := ⟨come g k1 k2, fp8, ov7, G8.out.1.later hb, by rw [come_n]; exact G6.out.2.2, G8.out.2.later hb⟩
      have hnn : (cn == cn) = true := by simp
      clear hb
      go_wp2
      try exact hQ _ _ _ _ _ _ _ _ _ _ _ _ _ _ _ _ _ _ _ _ _ _ _ _ _ _ _ _ _ _ _ _ _ _ _ _ _ _ _ _ _ _ _ _ _ _ _ _ _ _ _ _ _ _ _ _ _ _ _ _ _ _ _ _ _ _ _ _ _ _ _ _ _ _ _ _ _ _ _ _ _ _ _ _ _ _ _ _ _ _ _ _ _ _ _ _ _ _ _ _ _ _ _ _ _ _ _ _ _ _ _ _ _ _ _ _ _ _ _ _ _ _ _ _ _ _ _ _ _ _ _ _ _ _ _ _ _ _ _ _ _ _ _ _ _ _ _ _ _ _ _ _ _ _ _ _ _ _ _ _ _ _ _ _ _ rfl (G9.out)
end Go.Proofs.YtgcdbcljneoifajDoor.Pic
