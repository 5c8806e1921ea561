/-
  A part of PicturePlays: what anybody has, what is on a way.
-/
import Derived.Test.YtgcdbcljneoifajDoorPipN
namespace Go.Proofs.YtgcdbcljneoifajDoor.Pic
open Go.RowKit
open Go.Proofs.YtgcdbcljneoifajDoor.As (Laid)
open Go.Proofs.YtgcdbcljneoifajDoor.Fif (own_lt own_block own_form own_vw ret_bool info_int new_int int_one)
open Go.Proofs.YtgcdbcljneoifajDoor.Vec (Vw Rw)
open Go.Proofs.YtgcdbcljneoifajDoor.Sep (KpL NewL)
open Go.Proofs.YtgcdbcljneoifajDoor.Ldr (errF errF_ok errF_no errF_same Sl same_any)
open Go.Proofs.YtgcdbcljneoifajDoor.Off (OR step_append_off)
set_option linter.unusedVariables false

set_option maxRecDepth 100000 in
set_option maxHeartbeats 8000000 in
theorem tail_any (w : World) (hL : Laid w) (P R A bq oq len cap gb gc : Nat) (all : Int) (hall : all ≤ 5000) (h5 : len ≤ 5) (k : Nat → Int) (k1 k2 cw : Int) (g : G) (fp : List Nat) (ov : Nat → Value) (w6 : World) (EK : Hid (k1 = k 1 ∧ k2 = k 2)) (G6 : Hid (PF w w6 P R all g fp gb gc ov ∧ AR w6 A k fp R gb ov ∧ g.n = len)) (ECW : Hid (cw = wayC g k1 k2))
    (C : Code) (hC : (Tryd.f3.body.bind (fromR 53)).getD .skip = C) (K2 : Act → World → Prop) (Q' : Exit → Act → World → Prop) (hQ' : ∃ (K3 K4 : Act → World → Prop) (Rr : Ending → World → Prop), Q' = Exit.then K3 (Exit.inBlock 2 (Exit.then K4 (bodyPost Tryd.prog Tryd.f3 Rr))))
    (u1 u2 u3 u4 u5 u6 u8 u11 u13 u15 u16 u17 u18 u19 u20 u21 u22 u23 u24 u25 u26 u27 u28 u29 u30 u31 u32 u33 u34 u35 u36 u37 u38 u39 u40 u41 u42 u43 u44 u45 u46 u47 u48 u49 u50 u51 u52 u53 u54 u55 u56 u57 u58 u59 u60 u61 u62 u63 u64 u65 u66 u67 u68 u69 u70 u71 u72 u73 u74 u75 u76 u77 u78 u79 u80 u81 u82 u83 u84 u85 u86 u87 u88 u89 u90 u91 u92 u93 u94 u95 u96 u97 u98 u99 u100 u101 u102 u103 u104 u105 u106 u107 u108 u109 u110 u111 u112 u113 u114 u115 u116 u117 u118 u119 u120 u121 u122 u123 u124 u125 u126 u127 u128 u129 u130 u131 u132 u133 u134 u135 u136 u137 u138 u139 u140 u141 u142 u143 u144 u145 u146 u147 u148 u149 u150 u151 u152 u153 u154 u155 u156 u157 u158 u159 u160 u161 u162 u163 u164 u165 u166 u167 u168 u169 u170 u171 u172 u173 u174 u175 u176 u177 u178 u179 u180 u181 u182 u183 u184 u185 u186 u187 u188 u189 u190 u191 u192 u193 u194 u195 u196 u197 u198 u199 u200 u201 u202 u203 u204 u205 u206 u207 u208 u209 u210 u211 u212 u213 u214 u215 u216 u217 u218 u219 u220 u221 u222 u223 u224 u225 u226 u227 u228 u229 u230 u231 u232 u233 u234 u235 u236 u237 u238 u239 u240 u241 u242 u243 u244 u245 u246 u247 u248 u249 u250 u251 u252 u253 u254 u255 u256 u257 u258 u259 u260 u261 u262 u263 u264 u265 u266 u267 u268 u269 u270 u271 u272 u273 u274 u275 u276 u277 u278 u279 u280 u281 u282 u283 u284 u285 u286 u287 u288 u289 u290 u291 u292 u293 u294 u295 u296 u297 u298 u299 u300 u301 u302 u303 u304 u305 u306 u307 u308 u309 u310 u311 u312 u313 u314 u315 u316 u317 u318 u319 u320 u321 u322 u323 u324 u325 u326 u327 u328 u329 u330 u331 u332 u333 u334 u335 u336 u337 u338 u339 u340 u341 u342 u343 u344 u345 u346 u347 u348 u349 u350 u351 u352 u353 u354 u355 u356 u357 u358 u359 u360 u361 u362 u363 u364 u365 u366 u367 u368 u369 u370 u371 u372 u373 u374 u375 u376 u377 u378 u379 u380 u381 u382 u383 u384 u385 u386 u387 u388 u389 u390 u391 u392 u393 u394 u395 u396 u397 u398 u399 u400 u401 u402 u403 : Value)
    (hQ : ∀ (s5 s19 s20 s21 s22 s23 s24 s25 s26 s27 s28 s29 s30 s285 s286 s287 s288 s289 s290 s291 s292 s293 s294 s295 s296 s297 s298 s299 s300 s301 s302 s303 s304 s305 s306 s307 s308 s309 s310 s311 s312 s313 s314 s315 s316 s317 s318 s319 s320 s321 s322 s323 s324 s325 s326 s327 s328 s329 s330 s331 s332 s333 s334 s335 s336 s337 s338 s339 s340 s341 s342 s343 s344 s345 s346 s347 s348 s349 s350 s351 s352 s353 s354 s355 s356 s357 s358 s359 s360 s361 s362 s363 s364 s365 s366 s367 s368 s369 s370 s371 s372 s373 s374 s375 s376 s377 s378 s379 s380 s381 s382 s383 s384 s385 s386 s387 s388 s389 s390 s391 s392 s393 s394 s395 s396 s397 s398 s399 s400 s401 s402 s403 : Value) (wz : World), Hid (FQ w wz P R gb gc all len) → K2 ⟨List.toArray ((.slice (some ⟨bq, oq, none⟩) len cap) :: u1 :: u2 :: u3 :: u4 :: (s5) :: u6 :: (.pointer (some ⟨P, 0, none⟩)) :: u8 :: (.bool true) :: (.pointer (some ⟨R, 0, none⟩)) :: u11 :: (.pointer (some ⟨A, 0, none⟩)) :: u13 :: (.int .i64 cw) :: u15 :: u16 :: u17 :: u18 :: (s19) :: (s20) :: (s21) :: (s22) :: (s23) :: (s24) :: (s25) :: (s26) :: (s27) :: (s28) :: (s29) :: (s30) :: u31 :: u32 :: u33 :: u34 :: u35 :: u36 :: u37 :: u38 :: u39 :: u40 :: u41 :: u42 :: u43 :: u44 :: u45 :: u46 :: u47 :: u48 :: u49 :: u50 :: u51 :: u52 :: u53 :: u54 :: u55 :: u56 :: u57 :: u58 :: u59 :: u60 :: u61 :: u62 :: u63 :: u64 :: u65 :: u66 :: u67 :: u68 :: u69 :: u70 :: u71 :: u72 :: u73 :: u74 :: u75 :: u76 :: u77 :: u78 :: u79 :: u80 :: u81 :: u82 :: u83 :: u84 :: u85 :: u86 :: u87 :: u88 :: u89 :: u90 :: u91 :: u92 :: u93 :: u94 :: u95 :: u96 :: u97 :: u98 :: u99 :: u100 :: u101 :: u102 :: u103 :: u104 :: u105 :: u106 :: u107 :: u108 :: u109 :: u110 :: u111 :: u112 :: u113 :: u114 :: u115 :: u116 :: u117 :: u118 :: u119 :: u120 :: u121 :: u122 :: u123 :: u124 :: u125 :: u126 :: u127 :: u128 :: u129 :: u130 :: u131 :: u132 :: u133 :: u134 :: u135 :: u136 :: u137 :: u138 :: u139 :: u140 :: u141 :: u142 :: u143 :: u144 :: u145 :: u146 :: u147 :: u148 :: u149 :: u150 :: u151 :: u152 :: u153 :: u154 :: u155 :: u156 :: u157 :: u158 :: u159 :: u160 :: u161 :: u162 :: u163 :: u164 :: u165 :: u166 :: u167 :: u168 :: u169 :: u170 :: u171 :: u172 :: u173 :: u174 :: u175 :: u176 :: u177 :: u178 :: u179 :: u180 :: u181 :: u182 :: u183 :: u184 :: u185 :: u186 :: u187 :: u188 :: u189 :: u190 :: u191 :: u192 :: u193 :: u194 :: u195 :: u196 :: u197 :: u198 :: u199 :: u200 :: u201 :: u202 :: u203 :: u204 :: u205 :: u206 :: u207 :: u208 :: u209 :: u210 :: u211 :: u212 :: u213 :: u214 :: u215 :: u216 :: u217 :: u218 :: u219 :: u220 :: u221 :: u222 :: u223 :: u224 :: u225 :: u226 :: u227 :: u228 :: u229 :: u230 :: u231 :: u232 :: u233 :: u234 :: u235 :: u236 :: u237 :: u238 :: u239 :: u240 :: u241 :: u242 :: u243 :: u244 :: u245 :: u246 :: u247 :: u248 :: u249 :: u250 :: u251 :: u252 :: u253 :: u254 :: u255 :: u256 :: u257 :: u258 :: u259 :: u260 :: u261 :: u262 :: u263 :: u264 :: u265 :: u266 :: u267 :: u268 :: u269 :: u270 :: u271 :: u272 :: u273 :: u274 :: u275 :: u276 :: u277 :: u278 :: u279 :: u280 :: u281 :: u282 :: u283 :: u284 :: (s285) :: (s286) :: (s287) :: (s288) :: (s289) :: (s290) :: (s291) :: (s292) :: (s293) :: (s294) :: (s295) :: (s296) :: (s297) :: (s298) :: (s299) :: (s300) :: (s301) :: (s302) :: (s303) :: (s304) :: (s305) :: (s306) :: (s307) :: (s308) :: (s309) :: (s310) :: (s311) :: (s312) :: (s313) :: (s314) :: (s315) :: (s316) :: (s317) :: (s318) :: (s319) :: (s320) :: (s321) :: (s322) :: (s323) :: (s324) :: (s325) :: (s326) :: (s327) :: (s328) :: (s329) :: (s330) :: (s331) :: (s332) :: (s333) :: (s334) :: (s335) :: (s336) :: (s337) :: (s338) :: (s339) :: (s340) :: (s341) :: (s342) :: (s343) :: (s344) :: (s345) :: (s346) :: (s347) :: (s348) :: (s349) :: (s350) :: (s351) :: (s352) :: (s353) :: (s354) :: (s355) :: (s356) :: (s357) :: (s358) :: (s359) :: (s360) :: (s361) :: (s362) :: (s363) :: (s364) :: (s365) :: (s366) :: (s367) :: (s368) :: (s369) :: (s370) :: (s371) :: (s372) :: (s373) :: (s374) :: (s375) :: (s376) :: (s377) :: (s378) :: (s379) :: (s380) :: (s381) :: (s382) :: (s383) :: (s384) :: (s385) :: (s386) :: (s387) :: (s388) :: (s389) :: (s390) :: (s391) :: (s392) :: (s393) :: (s394) :: (s395) :: (s396) :: (s397) :: (s398) :: (s399) :: (s400) :: (s401) :: (s402) :: (s403) :: []), []⟩ wz) :
    Code.wp Tryd.prog C (Exit.inBlock 3 (Exit.then K2 Q')) ⟨List.toArray ((.slice (some ⟨bq, oq, none⟩) len cap) :: u1 :: u2 :: u3 :: u4 :: u5 :: u6 :: (.pointer (some ⟨P, 0, none⟩)) :: u8 :: (.bool true) :: (.pointer (some ⟨R, 0, none⟩)) :: u11 :: (.pointer (some ⟨A, 0, none⟩)) :: u13 :: (.int .i64 cw) :: u15 :: u16 :: u17 :: u18 :: u19 :: u20 :: u21 :: u22 :: u23 :: u24 :: u25 :: u26 :: u27 :: u28 :: u29 :: u30 :: u31 :: u32 :: u33 :: u34 :: u35 :: u36 :: u37 :: u38 :: u39 :: u40 :: u41 :: u42 :: u43 :: u44 :: u45 :: u46 :: u47 :: u48 :: u49 :: u50 :: u51 :: u52 :: u53 :: u54 :: u55 :: u56 :: u57 :: u58 :: u59 :: u60 :: u61 :: u62 :: u63 :: u64 :: u65 :: u66 :: u67 :: u68 :: u69 :: u70 :: u71 :: u72 :: u73 :: u74 :: u75 :: u76 :: u77 :: u78 :: u79 :: u80 :: u81 :: u82 :: u83 :: u84 :: u85 :: u86 :: u87 :: u88 :: u89 :: u90 :: u91 :: u92 :: u93 :: u94 :: u95 :: u96 :: u97 :: u98 :: u99 :: u100 :: u101 :: u102 :: u103 :: u104 :: u105 :: u106 :: u107 :: u108 :: u109 :: u110 :: u111 :: u112 :: u113 :: u114 :: u115 :: u116 :: u117 :: u118 :: u119 :: u120 :: u121 :: u122 :: u123 :: u124 :: u125 :: u126 :: u127 :: u128 :: u129 :: u130 :: u131 :: u132 :: u133 :: u134 :: u135 :: u136 :: u137 :: u138 :: u139 :: u140 :: u141 :: u142 :: u143 :: u144 :: u145 :: u146 :: u147 :: u148 :: u149 :: u150 :: u151 :: u152 :: u153 :: u154 :: u155 :: u156 :: u157 :: u158 :: u159 :: u160 :: u161 :: u162 :: u163 :: u164 :: u165 :: u166 :: u167 :: u168 :: u169 :: u170 :: u171 :: u172 :: u173 :: u174 :: u175 :: u176 :: u177 :: u178 :: u179 :: u180 :: u181 :: u182 :: u183 :: u184 :: u185 :: u186 :: u187 :: u188 :: u189 :: u190 :: u191 :: u192 :: u193 :: u194 :: u195 :: u196 :: u197 :: u198 :: u199 :: u200 :: u201 :: u202 :: u203 :: u204 :: u205 :: u206 :: u207 :: u208 :: u209 :: u210 :: u211 :: u212 :: u213 :: u214 :: u215 :: u216 :: u217 :: u218 :: u219 :: u220 :: u221 :: u222 :: u223 :: u224 :: u225 :: u226 :: u227 :: u228 :: u229 :: u230 :: u231 :: u232 :: u233 :: u234 :: u235 :: u236 :: u237 :: u238 :: u239 :: u240 :: u241 :: u242 :: u243 :: u244 :: u245 :: u246 :: u247 :: u248 :: u249 :: u250 :: u251 :: u252 :: u253 :: u254 :: u255 :: u256 :: u257 :: u258 :: u259 :: u260 :: u261 :: u262 :: u263 :: u264 :: u265 :: u266 :: u267 :: u268 :: u269 :: u270 :: u271 :: u272 :: u273 :: u274 :: u275 :: u276 :: u277 :: u278 :: u279 :: u280 :: u281 :: u282 :: u283 :: u284 :: u285 :: u286 :: u287 :: u288 :: u289 :: u290 :: u291 :: u292 :: u293 :: u294 :: u295 :: u296 :: u297 :: u298 :: u299 :: u300 :: u301 :: u302 :: u303 :: u304 :: u305 :: u306 :: u307 :: u308 :: u309 :: u310 :: u311 :: u312 :: u313 :: u314 :: u315 :: u316 :: u317 :: u318 :: u319 :: u320 :: u321 :: u322 :: u323 :: u324 :: u325 :: u326 :: u327 :: u328 :: u329 :: u330 :: u331 :: u332 :: u333 :: u334 :: u335 :: u336 :: u337 :: u338 :: u339 :: u340 :: u341 :: u342 :: u343 :: u344 :: u345 :: u346 :: u347 :: u348 :: u349 :: u350 :: u351 :: u352 :: u353 :: u354 :: u355 :: u356 :: u357 :: u358 :: u359 :: u360 :: u361 :: u362 :: u363 :: u364 :: u365 :: u366 :: u367 :: u368 :: u369 :: u370 :: u371 :: u372 :: u373 :: u374 :: u375 :: u376 :: u377 :: u378 :: u379 :: u380 :: u381 :: u382 :: u383 :: u384 :: u385 :: u386 :: u387 :: u388 :: u389 :: u390 :: u391 :: u392 :: u393 :: u394 :: u395 :: u396 :: u397 :: u398 :: u399 :: u400 :: u401 :: u402 :: u403 :: []), []⟩ w6 := by
  obtain ⟨K3, K4, Rr, hR⟩ := hQ'
  subst hR hC
  conv => arg 2; whnf
  have HL : Hid (Laid w) := hL
  have HA : Hid (all ≤ 5000) := hall
  have y1 := G6.out.2.1.c1
  rw [← EK.out.1] at y1
  have hAl := G6.out.2.1.lt
  obtain ⟨b5, eb5⟩ : ∃ b5, b5 = decide (k1 < 0 ∨ (len : Int) ≤ k1) := ⟨_, rfl⟩
  have HB : Hid (b5 = decide (k1 < 0 ∨ (len : Int) ≤ k1)) := eb5
  obtain ⟨ge, ege⟩ : ∃ ge, ge = goC g k1 := ⟨_, rfl⟩
  obtain ⟨gn, egn⟩ : ∃ gn, gn = goN g k1 := ⟨_, rfl⟩
  have EG : Hid (ge = goC g k1 ∧ gn = goN g k1) := ⟨ege, egn⟩
  clear hL hall eb5 ege egn
  go_upto_region 55 with fail
  go_cut [294] from 285 to 294 (fun x wz => x = .bool b5 ∧ w6 = wz)
  case first =>
    rcases (show k1 < 0 ∨ (¬ k1 < 0 ∧ k1 ≥ (len : Int)) ∨ (¬ k1 < 0 ∧ ¬ k1 ≥ (len : Int)) by omega) with h1 | ⟨h1, h2⟩ | ⟨h1, h2⟩
    · have e : Hid (b5 = true) := by show _ = _; rw [HB.out]; exact decide_eq_true (by omega)
      go_wp2
      go_meet
      exact ⟨by rw [e.out], by first | rfl | trivial⟩
    · have e : Hid (b5 = true) := by show _ = _; rw [HB.out]; exact decide_eq_true (by omega)
      go_wp2
      go_meet
      exact ⟨by rw [e.out], by first | rfl | trivial⟩
    · have e : Hid (b5 = false) := by show _ = _; rw [HB.out]; exact decide_eq_false (by omega)
      go_wp2
      go_meet
      exact ⟨by rw [e.out], by first | rfl | trivial⟩
  case rest =>
    obtain ⟨rfl, ew⟩ := hcut
    subst ew
    go_upto_if 294 with fail
    go_cut [5, 19] from 295 to 302 (fun x5 x19 wz => x5 = .int .i64 ge ∧ x19 = .int .i64 gn ∧ Hid (PF w wz P R all g fp gb gc ov ∧ AR wz A k fp R gb ov))
    case first =>
      cases b5
      · have hn0 : ¬ (k1 < 0 ∨ (len : Int) ≤ k1) := of_decide_eq_false HB.out.symm
        have hin : inM g k1 := by unfold inM; have := G6.out.2.2; omega
        obtain ⟨m, rfl, hm⟩ := in_nat hin
        have e1 : goC g (m : Int) = 0 := if_pos hin
        have e2 : goN g (m : Int) = g.gold m := if_pos hin
        rw [e1, e2] at EG
        have c0 : w6.cell? ⟨R, 0, none⟩ = some (.slice (some ⟨gb, 0, none⟩) len gc) := by rw [← G6.out.2.2]; exact G6.out.1.rf.c0
        have cg : w6.cell? ⟨gb, m, none⟩ = some (.int .i64 gn) := by rw [EG.out.2]; exact G6.out.1.rf.cg hm
        have hm0 : (0 : Int) ≤ (m : Int) := by omega
        have hml : (m : Int) < (len : Int) := by have := G6.out.2.2; omega
        have hlc : len ≤ gc := by have := G6.out.1.rf.room.1; have := G6.out.2.2; omega
        have hRl := G6.out.1.rf.lt
        have hgl := G6.out.1.rf.ltg
        clear hn0 hin hm e1 e2
        go_wp2_with fail
        go_quiet (fail)
        go_wp2
        go_meet
        exact ⟨by rw [EG.out.1], by first | rfl | trivial, G6.out.1.drewN _, G6.out.2.1.drewN _⟩
      · have hn0 : k1 < 0 ∨ (len : Int) ≤ k1 := of_decide_eq_true HB.out.symm
        have hin : ¬ inM g k1 := by unfold inM; have := G6.out.2.2; omega
        have e1 : goC g k1 = 1 := if_neg hin
        have e2 : goN g k1 = 0 := if_neg hin
        rw [e1, e2] at EG
        clear hn0 hin e1 e2
        go_wp2
        go_meet
        exact ⟨by rw [EG.out.1], by rw [EG.out.2], G6.out.1, G6.out.2.1⟩
    case rest =>
      obtain ⟨rfl, rfl, hx⟩ := hcut
      obtain ⟨w7, ew7⟩ : ∃ w7, w7 = wc := ⟨_, rfl⟩
      subst ew7
      have G7 : Hid (PF w w7 P R all g fp gb gc ov ∧ AR w7 A k fp R gb ov) := hx.out
      clear hx y1 hAl
      have y1 := G7.out.2.c1
      rw [← EK.out.1] at y1
      have hAl := G7.out.2.lt
      go_wp2_with fail
      refine (goldG w.heap.size P g fp all k1 w7 G7.out.1.us G7.out.1.inv).mono ?_
      rintro e w8 ⟨rfl, hb⟩
      rw [← EG.out.1, ← EG.out.2]
      have G8 : Hid (PF w w8 P R all g fp gb gc ov ∧ AR w8 A k fp R gb ov) := ⟨G7.out.1.later hb, G7.out.2.later hb⟩
      clear hb y1 hAl
      go_wp2_with fail
      refine (errF_same ge w8 (HL.out.later G8.out.1.bel)).mono ?_
      rintro e w9 ⟨rfl, hb⟩
      have G9 : Hid (PF w w9 P R all g fp gb gc ov ∧ AR w9 A k fp R gb ov) := ⟨G8.out.1.later hb, G8.out.2.later hb⟩
      have hnn : (gn == gn) = true := by simp
      clear hb
      go_upto_if 319 with fail
      clear hnn
      go_cut [23] from 320 to 329 (fun x wz => ∃ (q : Option Addr) (l c : Nat), x = .slice q l c ∧ Hid (Sl wz (.slice q l c) (onL g k1 k2) ∧ PF w wz P R all g fp gb gc ov ∧ AR wz A k fp R gb ov))
      case first =>
        by_cases hc0 : cw = 0
        · have hcw : (cw == 0) = true := by simp [hc0]
          have h0 : wayC g k1 k2 = 0 := by rw [← ECW.out]; exact hc0
          obtain ⟨i1, i2, i3⟩ := way_ok h0
          obtain ⟨ki, rfl, hin⟩ := in_nat i1
          obtain ⟨kj, rfl, hjn⟩ := in_nat i2
          have e1 : onL g (ki : Int) (kj : Int) = g.way ki kj := by unfold onL; rw [if_pos h0, Int.toNat_natCast, Int.toNat_natCast]
          have hn5 := G6.out.2.2
          obtain ⟨q, cp, -, hsl, c1⟩ := G9.out.1.rf.wayS (a := ki) (c := kj) (by omega) (by omega)
          obtain ⟨lw, elw⟩ : ∃ lw, lw = (g.way ki kj).length := ⟨_, rfl⟩
          rw [← elw] at hsl c1
          have c1' : w9.cell? ⟨R, 1 + ki * 5 + kj, none⟩ = some (.slice q lw cp) := by rw [show 1 + ki * 5 + kj = 1 + (ki * 5 + kj) by omega]; exact c1
          have y1 : w9.cell? ⟨A, 1, none⟩ = some (.int .i64 (ki : Int)) := by rw [EK.out.1]; exact G9.out.2.c1
          have y2 : w9.cell? ⟨A, 2, none⟩ = some (.int .i64 (kj : Int)) := by rw [EK.out.2]; exact G9.out.2.c2
          have hki0 : (0 : Int) ≤ (ki : Int) := by omega
          have hki5 : (ki : Int) < 5 := by omega
          have hkj0 : (0 : Int) ≤ (kj : Int) := by omega
          have hkj5 : (kj : Int) < 5 := by omega
          have N1 : Hid (Sl w9 (.slice q lw cp) (onL g (ki : Int) (kj : Int))) := by show Sl _ _ _; rw [e1]; exact hsl
          clear hc0 h0 i1 i2 i3 hin hjn e1 hsl c1 elw hn5
          go_wp2_with fail
          go_quiet (fail)
          go_wp2
          go_meet
          exact ⟨q, lw, cp, rfl, N1.out.later ⟨rfl, rfl, rfl, Nat.le_refl _, fun _ _ => rfl⟩, G9.out.1.drewN _, G9.out.2.drewN _⟩
        · have hcw : (cw == 0) = false := by rw [beq_eq_false_iff_ne]; exact hc0
          have N1 : Hid (onL g k1 k2 = []) := by show _ = _; unfold onL; rw [if_neg (by rw [← ECW.out]; exact hc0)]
          clear hc0
          go_wp2
          go_meet
          refine ⟨none, 0, 0, rfl, ?_, G9.out.1, G9.out.2⟩
          rw [N1.out]
          exact ⟨none, 0, rfl, Nat.zero_le _, Nat.zero_le _, rfl, fun z => (by cases z)⟩
      case rest =>
        obtain ⟨q, l, cp, rfl, hx⟩ := hcut
        obtain ⟨w10, ew10⟩ : ∃ w10, w10 = wc := ⟨_, rfl⟩
        subst ew10
        have G10 : Hid (Sl w10 (.slice q l cp) (onL g k1 k2) ∧ PF w w10 P R all g fp gb gc ov ∧ AR w10 A k fp R gb ov) := hx.out
        clear hx G7 G8 G9
        have y1 := G10.out.2.2.c1
        have y2 := G10.out.2.2.c2
        rw [← EK.out.1] at y1
        rw [← EK.out.2] at y2
        have hAl := G10.out.2.2.lt
        go_wp2_with fail
        refine (onwayG w.heap.size P g fp all k1 k2 w10 G10.out.2.1.us G10.out.2.1.inv).mono ?_
        rintro e w11 ⟨q9, c9, rfl, hs9, -, hb9⟩
        obtain ⟨l9, el9⟩ : ∃ l9, l9 = (onL g k1 k2).length := ⟨_, rfl⟩
        rw [← el9] at hs9 ⊢
        rw [← ECW.out]
        have G11 : Hid (PF w w11 P R all g fp gb gc ov ∧ Sl w11 (.slice q9 l9 c9) (onL g k1 k2) ∧ Sl w11 (.slice q l cp) (onL g k1 k2)) := ⟨G10.out.2.1.later hb9, hs9, G10.out.1.later hb9⟩
        clear hs9 hb9 el9 y1 y2 hAl
        go_wp2_with fail
        refine (errF_same cw w11 (HL.out.later G11.out.1.bel)).mono ?_
        rintro e w12 ⟨rfl, hb⟩
        have G12 : Hid (PF w w12 P R all g fp gb gc ov ∧ Sl w12 (.slice q9 l9 c9) (onL g k1 k2) ∧ Sl w12 (.slice q l cp) (onL g k1 k2)) := ⟨G11.out.1.later hb, G11.out.2.1.later hb, G11.out.2.2.later hb⟩
        clear hb
        go_wp2_with fail
        refine (same_any G12.out.2.1 G12.out.2.2).mono ?_
        rintro e w13 ⟨rfl, hb⟩
        have ed : decide (onL g k1 k2 = onL g k1 k2) = true := decide_eq_true rfl
        rw [ed]
        have G9 : Hid (PF w w13 P R all g fp gb gc ov ∧ g.n = len) := ⟨G12.out.1.later hb, G6.out.2.2⟩
        clear hb ed G10 G11 G12
        clear G6
        have G6 : Hid (PF w w13 P R all g fp gb gc ov ∧ g.n = len) := G9.out
        clear G9 EG HB ECW EK
        have HN : Hid (g.n ≤ 5) := by have := G6.out.2; show g.n ≤ 5; omega
        obtain ⟨db, edb⟩ : ∃ db, db = doneB g := ⟨_, rfl⟩
        obtain ⟨cs, ecs⟩ : ∃ cs, cs = sumC g := ⟨_, rfl⟩
        obtain ⟨hd, ehd⟩ : ∃ hd, hd = had g := ⟨_, rfl⟩
        obtain ⟨ow, eow⟩ : ∃ ow, ow = onw g := ⟨_, rfl⟩
        have ED : Hid (db = doneB g ∧ cs = sumC g ∧ hd = had g ∧ ow = onw g) := ⟨edb, ecs, ehd, eow⟩
        clear edb ecs ehd eow
        go_wp2_with fail
        refine (refDone G6.out.1.rf HN.out).mono ?_
        rintro e w13 ⟨rfl, rfl⟩
        rw [← ED.out.1]
        obtain ⟨W7, eW7⟩ : ∃ W7, W7 = w13.alloc (.cells #[.int .i64 0, .int .i64 0] 54) := ⟨_, rfl⟩
        obtain ⟨O1, eO1⟩ : ∃ O1, O1 = w13.heap.size := ⟨_, rfl⟩
        have G7 : Hid (PF w W7 P R all g fp gb gc ov ∧ W7.rowIs O1 54 2 (svS 0 0) ∧ O1 ∉ fp ∧ ¬ Pb R gb ov O1 ∧ w.heap.size ≤ O1) := by
          have b7 : Below w13.heap.size w13 W7 := by rw [eW7]; exact (Below.refl _ _).alloc (Nat.le_refl _) _
          obtain ⟨n1, n2⟩ := G6.out.1.aside (b := O1) (by omega)
          exact ⟨G6.out.1.later b7, by rw [eW7, eO1]; exact svS_new w13 0 0, n1, n2, by rw [eO1]; exact G6.out.1.bel.size⟩
        go_upto_if 349 with fail
        rw [← eW7, ← eO1]
        clear eW7 eO1
        go_cut [5, 28] from 350 to 370 (fun x5 x28 wz => x5 = .int .i64 cs ∧ Hid (PF w wz P R all g fp gb gc ov ∧ wz.rowIs O1 54 2 (svS hd ow)))
        case first =>
          cases db
          · have hdn : ¬ Dn g := of_decide_eq_false ED.out.1.symm
            have N1 : Hid (cs = 6 ∧ hd = 0 ∧ ow = 0) := ⟨ED.out.2.1.trans (if_neg hdn), ED.out.2.2.1.trans (if_neg hdn), ED.out.2.2.2.trans (if_neg hdn)⟩
            clear hdn
            go_wp2
            go_meet
            refine ⟨by rw [N1.out.1], G7.out.1, ?_⟩
            rw [N1.out.2.1, N1.out.2.2]
            exact G7.out.2.1
          · have hdn : Dn g := of_decide_eq_true ED.out.1.symm
            have N1 : Hid (cs = 0 ∧ hd = S g.wrote len ∧ ow = g.ow ∧ (∀ i, i ≤ len → 0 ≤ S g.wrote i ∧ S g.wrote i ≤ 5000) ∧ (∀ i, i < len → 0 ≤ g.wrote i)) := by
              have hn := G6.out.2
              refine ⟨ED.out.2.1.trans (if_pos hdn), by rw [← hn]; exact ED.out.2.2.1.trans (if_pos hdn), ED.out.2.2.2.trans (if_pos hdn), fun i hi => ?_, fun i hi => G6.out.1.inv.wpos i (by omega)⟩
              refine ⟨S_pos fun j hj => G6.out.1.inv.wpos j (by omega), ?_⟩
              rcases G6.out.1.inv.far.2.2.1 i (by omega) with z | z
              · have := HA.out; omega
              · exact absurd hdn z
            clear hdn
            have co := G7.out.1.rf.cow
            rw [← N1.out.2.2.1] at co
            have c1 := World.rowIs.cell G7.out.2.1 (i := 1) (by omega)
            have z1 := World.rowIs.frozen G7.out.2.1 1
            have hOl := World.rowIs.lt G7.out.2.1
            have hRl := G7.out.1.rf.lt
            obtain ⟨W8, eW8⟩ : ∃ W8, W8 = W7.setCell ⟨O1, 1, none⟩ (.int .i64 ow) := ⟨_, rfl⟩
            have G8 : Hid (PF w W8 P R all g fp gb gc ov ∧ W8.rowIs O1 54 2 (svS (S g.wrote 0) ow)) := by
              rw [eW8]
              refine ⟨G7.out.1.asideSet G7.out.2.2.1 G7.out.2.2.2.1 G7.out.2.2.2.2 1 _, (World.rowIs.set G7.out.2.1 1 _).congr fun j hj => ?_⟩
              unfold svS
              by_cases e : j = 1
              · rw [if_pos e, if_neg (by omega)]
              · rw [if_neg e, if_pos (by omega), if_pos (by omega)]; rfl
            go_upto_block 7 with fail
            rw [← eW8]
            clear eW8 co c1 z1 hOl hRl
            go_wp2_with fail
            go_loopw [28] (fun x28 wr => ∃ i : Nat, i ≤ len ∧ x28 = .int .i64 (i : Int) ∧ Hid (PF w wr P R all g fp gb gc ov ∧ wr.rowIs O1 54 2 (svS (S g.wrote i) ow))) (fun x28 _ => len - (intOf x28).toNat)
            case atStart => exact ⟨0, by omega, rfl, G8.out⟩
            case round =>
              obtain ⟨i, hi, rfl, hK⟩ := hrel
              by_cases hlt : i < len
              · have hlt' : (i : Int) < (len : Int) := by omega
                have hi0 : (0 : Int) ≤ (i : Int) := by omega
                have hi5 : (i : Int) < 5 := by omega
                obtain ⟨s, es⟩ : ∃ s, s = S g.wrote i := ⟨_, rfl⟩
                obtain ⟨y, ey⟩ : ∃ y, y = g.wrote i := ⟨_, rfl⟩
                have hs : 0 ≤ s ∧ s ≤ 5000 := by rw [es]; exact N1.out.2.2.2.1 i hi
                have hs2 : S g.wrote (i + 1) = s + y := by rw [es, ey]; rfl
                have hs3 : 0 ≤ s + y ∧ s + y ≤ 5000 := by rw [← hs2]; exact N1.out.2.2.2.1 (i + 1) (by omega)
                have hy : 0 ≤ y := by rw [ey]; exact N1.out.2.2.2.2 i hlt
                have r1 : wr.rowIs O1 54 2 (svS s ow) := by rw [es]; exact hK.out.2
                have K1 : Hid (PF w wr P R all g fp gb gc ov ∧ wr.rowIs O1 54 2 (svS s ow) ∧ S g.wrote (i + 1) = s + y) := ⟨hK.out.1, r1, hs2⟩
                have c0 : wr.cell? ⟨O1, 0, none⟩ = some (.int .i64 s) := World.rowIs.cell r1 (i := 0) (by omega)
                have z0 := World.rowIs.frozen r1 0
                have cr : wr.cell? ⟨R, 32 + i, none⟩ = some (.int .i64 y) := by rw [ey]; exact hK.out.1.rf.cr (by omega)
                have hOl := World.rowIs.lt r1
                have hRl := hK.out.1.rf.lt
                clear es ey hs2 r1 hK
                go_wp2_with fail
                go_region
                have N2 : Hid (PF w (wr.setCell ⟨O1, 0, none⟩ (.int .i64 (s + y))).drew P R all g fp gb gc ov ∧ (wr.setCell ⟨O1, 0, none⟩ (.int .i64 (s + y))).drew.rowIs O1 54 2 (svS (S g.wrote (i + 1)) ow)) := by
                  refine ⟨(K1.out.1.asideSet G7.out.2.2.1 G7.out.2.2.2.1 G7.out.2.2.2.2 0 _).later ⟨rfl, rfl, rfl, Nat.le_refl _, fun _ _ => rfl⟩, World.rowIs.of_block ((World.rowIs.set K1.out.2.1 0 (.int .i64 (s + y))).congr fun j hj => ?_) rfl⟩
                  rw [K1.out.2.2]
                  unfold svS
                  by_cases e : j = 0
                  · rw [if_pos e, if_pos e]
                  · rw [if_neg e, if_neg e, if_neg e]
                clear c0 z0 cr hOl hRl
                go_wp2
                go_roundw
                case rel => exact ⟨i + 1, by omega, by go_num, N2.out⟩
                case measure => simp [intOf]; omega
              · have hlt' : ¬ (i : Int) < (len : Int) := by omega
                have hie : i = len := by omega
                go_wp2
                go_meet
                refine ⟨by rw [N1.out.1], hK.out.1, ?_⟩
                rw [N1.out.2.1, ← hie]
                exact hK.out.2
        case rest =>
          obtain ⟨rfl, hx⟩ := hcut
          obtain ⟨w8, ew8⟩ : ∃ w8, w8 = wc := ⟨_, rfl⟩
          subst ew8
          have G8 : Hid (PF w w8 P R all g fp gb gc ov ∧ w8.rowIs O1 54 2 (svS hd ow)) := hx.out
          clear hx
          go_wp2_with fail
          refine (sumG w.heap.size P g fp all w8 G8.out.1.us G8.out.1.inv).mono ?_
          rintro e w9 ⟨rfl, hb⟩
          rw [← ED.out.2.1, ← ED.out.2.2.1, ← ED.out.2.2.2]
          obtain ⟨O2, eO2⟩ : ∃ O2, O2 = w9.heap.size := ⟨_, rfl⟩
          obtain ⟨W10, eW10⟩ : ∃ W10, W10 = w9.alloc (.cells #[.int .i64 hd, .int .i64 ow] 54) := ⟨_, rfl⟩
          have G10 : Hid (PF w W10 P R all g fp gb gc ov ∧ W10.rowIs O1 54 2 (svS hd ow) ∧ W10.rowIs O2 54 2 (svS hd ow)) := by
            have b10 : Below w9.heap.size w9 W10 := by rw [eW10]; exact (Below.refl _ _).alloc (Nat.le_refl _) _
            exact ⟨(G8.out.1.later hb).later b10, row_laterS (row_laterS G8.out.2 hb) b10, by rw [eW10, eO2]; exact svS_new w9 hd ow⟩
          clear hb
          go_upto_region 76 with fail
          rw [← eW10, ← eO2]
          clear eW10 eO2
          go_wp2_with fail
          refine (errF_same cs W10 (HL.out.later G10.out.1.bel)).mono ?_
          rintro e w11 ⟨rfl, hb⟩
          have G11 : Hid (PF w w11 P R all g fp gb gc ov) := G10.out.1.later hb
          have r1 := row_laterS G10.out.2.1 hb
          have r2 := row_laterS G10.out.2.2 hb
          have a0 : w11.cell? ⟨O1, 0, none⟩ = some (.int .i64 hd) := World.rowIs.cell r1 (i := 0) (by omega)
          have a1 : w11.cell? ⟨O1, 1, none⟩ = some (.int .i64 ow) := World.rowIs.cell r1 (i := 1) (by omega)
          have d0 : w11.cell? ⟨O2, 0, none⟩ = some (.int .i64 hd) := World.rowIs.cell r2 (i := 0) (by omega)
          have d1 : w11.cell? ⟨O2, 1, none⟩ = some (.int .i64 ow) := World.rowIs.cell r2 (i := 1) (by omega)
          have hgd := eqGs
          have heq := eqSum hd ow
          clear hb r1 r2
          go_wp2_with fail
          refine (doneG w.heap.size P g fp all w11 G11.out.us G11.out.inv).mono ?_
          rintro e w12 ⟨rfl, hb⟩
          rw [← ED.out.1]
          have G12 : Hid (FQ w w12 P R gb gc all len) := ⟨g, fp, ov, G11.out.later hb, G6.out.2⟩
          have hdd : (db != db) = false := by simp
          clear hb a0 a1 d0 d1 hgd heq
          go_wp2
          try first | exact G12.out | exact hQ _ _ _ _ _ _ _ _ _ _ _ _ _ _ _ _ _ _ _ _ _ _ _ _ _ _ _ _ _ _ _ _ _ _ _ _ _ _ _ _ _ _ _ _ _ _ _ _ _ _ _ _ _ _ _ _ _ _ _ _ _ _ _ _ _ _ _ _ _ _ _ _ _ _ _ _ _ _ _ _ _ _ _ _ _ _ _ _ _ _ _ _ _ _ _ _ _ _ _ _ _ _ _ _ _ _ _ _ _ _ _ _ _ _ _ _ _ _ _ _ _ _ _ _ _ _ _ _ _ _ _ _ _ (G12.out)
end Go.Proofs.YtgcdbcljneoifajDoor.Pic
