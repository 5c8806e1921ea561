/-
  A way of CastPlays: one comes.
-/
import Derived.Test.YtgnffanlgmbieaeDoorCpsS
namespace Go.Proofs.YtgnffanlgmbieaeDoor.Cas
open Go.RowKit
open Go.Proofs.YtgnffanlgmbieaeDoor.Net (Pk pk Po RN errF errF_ok errF_no errF_same KpL NewL dropC dropL twC twL sendC sendL C3 c3_of isIn isIn_yes NInv refOut refSend packets_same below_same below_drews)
open Go.Proofs.YtgnffanlgmbieaeDoor.As (Laid)
open Go.Proofs.YtgnffanlgmbieaeDoor.Vec (Vw Rw ints_any)
open Go.Proofs.YtgnffanlgmbieaeDoor.His (Ev)
open Go.Proofs.YtgnffanlgmbieaeDoor.Fif (own_lt own_block own_form own_mono Kp ret_bool)
set_option linter.unusedVariables false
set_option maxRecDepth 100000 in
set_option maxHeartbeats 4000000 in
theorem cw_give (w : World) (P C V : Nat) (g : G) (d : Loc) (fp : List Nat) (k0 k1 k2 : Int) (w3 : World) (hL : Laid w) (G3 : Hid (PC w P C g d fp w3 ∧ V3 w3 V k0 k1 k2 ∧ Vap V C g d fp)) (Q4 : Exit → Act → World → Prop)
    (c0 c1 c2 c3 c4 c7 c8 c10 c12 c14 c15 c16 c17 c18 c19 c20 c21 c22 c23 c24 c25 c26 c27 c28 c29 c30 c31 c32 c33 c34 c35 c36 c37 c38 c39 c40 u41 u42 u43 u44 u45 u46 u47 u48 u49 u50 u51 u52 u53 u54 u55 u56 u57 u58 u59 u60 u61 u62 u63 u64 u65 u66 u67 u68 u69 u70 u71 u72 u73 u74 u75 u76 u77 u78 u79 u80 u81 u82 u83 u84 u85 u86 u87 u88 u89 u91 u92 u93 u94 u95 u96 u97 u98 u99 u100 u101 u102 u103 u104 u105 u106 u107 u108 u109 u110 u111 u112 u113 u114 u115 u116 u117 u118 u119 u120 u121 u122 u123 u124 u125 u126 u127 u128 u129 u130 u131 u132 u133 u134 u135 u136 u137 u138 u139 u140 u141 u142 u143 u144 u145 u146 u147 u148 u149 u150 u151 u152 u153 u154 u155 u156 u157 u158 u159 u160 u161 u162 u163 u164 u165 u166 u167 u168 u169 u170 u171 u172 u173 u174 u175 u176 u177 u178 u179 u180 u181 u182 u183 u184 u185 u186 u187 u188 u189 u190 u191 u192 u193 u194 u195 : Value)
    (hQ : ∀ (s5 s13 s14 s15 s16 s17 s41 s42 s43 s44 s45 s46 s47 s48 s49 s50 s51 s52 s53 s54 s55 s56 s57 s58 s59 s60 s61 s62 s63 s64 s65 s66 s67 s68 s69 s70 s71 s72 s73 s74 s75 s76 s77 s78 s79 s80 s81 s82 s83 s84 s85 s86 s87 s88 s89 s90 s91 s92 s93 s94 s95 s96 s97 s98 s99 s100 s101 s102 s103 s104 s105 s106 s107 s108 s109 s110 s111 s112 s113 s114 s115 s116 s117 s118 s119 s120 s121 s122 s123 s124 s125 s126 s127 s128 s129 s130 s131 s132 s133 s134 s135 s136 s137 s138 s139 s140 s141 s142 s143 s144 s145 s146 s147 s148 s149 s150 s151 s152 s153 s154 s155 s156 s157 s158 s159 s160 s161 s162 s163 s164 s165 s166 s167 s168 s169 s170 s171 s172 s173 s174 s175 s176 s177 s178 s179 s180 s181 s182 s183 s184 s185 s186 s187 s188 s189 s190 s191 s192 s193 s194 s195 : Value) (wz : World), Hid (PA w P C wz) → Q4 .normal ⟨#[c0, c1, c2, c3, c4, s5, .pointer (some ⟨P, 0, none⟩), c7, .bool true, .pointer (some ⟨C, 0, none⟩), c10, .pointer (some ⟨V, 0, none⟩), c12, s13, s14, s15, s16, s17, c18, c19, c20, c21, c22, c23, c24, c25, c26, c27, c28, c29, c30, c31, c32, c33, c34, c35, c36, c37, c38, c39, c40, s41, s42, s43, s44, s45, s46, s47, s48, s49, s50, s51, s52, s53, s54, s55, s56, s57, s58, s59, s60, s61, s62, s63, s64, s65, s66, s67, s68, s69, s70, s71, s72, s73, s74, s75, s76, s77, s78, s79, s80, s81, s82, s83, s84, s85, s86, s87, s88, s89, s90, s91, s92, s93, s94, s95, s96, s97, s98, s99, s100, s101, s102, s103, s104, s105, s106, s107, s108, s109, s110, s111, s112, s113, s114, s115, s116, s117, s118, s119, s120, s121, s122, s123, s124, s125, s126, s127, s128, s129, s130, s131, s132, s133, s134, s135, s136, s137, s138, s139, s140, s141, s142, s143, s144, s145, s146, s147, s148, s149, s150, s151, s152, s153, s154, s155, s156, s157, s158, s159, s160, s161, s162, s163, s164, s165, s166, s167, s168, s169, s170, s171, s172, s173, s174, s175, s176, s177, s178, s179, s180, s181, s182, s183, s184, s185, s186, s187, s188, s189, s190, s191, s192, s193, s194, s195], []⟩ wz)
    (hk : ¬ k0 = 0 ∧ ¬ k0 = 1 ∧ ¬ k0 = 2 ∧ ¬ k0 = 3) : Code.wp Tryd.prog ((Tryd.f3.body.bind (blockAt 4)).getD .skip) Q4 ⟨#[c0, c1, c2, c3, c4, .int .i64 1, .pointer (some ⟨P, 0, none⟩), c7, c8, .pointer (some ⟨C, 0, none⟩), c10, .pointer (some ⟨V, 0, none⟩), c12, .bool (isIn g.l k1), c14, c15, c16, c17, c18, c19, c20, c21, c22, c23, c24, c25, c26, c27, c28, c29, c30, c31, c32, c33, c34, c35, c36, c37, c38, c39, c40, u41, u42, u43, u44, u45, u46, u47, u48, u49, u50, u51, u52, u53, u54, u55, u56, u57, u58, u59, u60, u61, u62, u63, u64, u65, u66, u67, u68, u69, u70, u71, u72, u73, u74, u75, u76, u77, u78, u79, u80, u81, u82, u83, u84, u85, u86, u87, u88, u89, .int .i64 k0, u91, u92, u93, u94, u95, u96, u97, u98, u99, u100, u101, u102, u103, u104, u105, u106, u107, u108, u109, u110, u111, u112, u113, u114, u115, u116, u117, u118, u119, u120, u121, u122, u123, u124, u125, u126, u127, u128, u129, u130, u131, u132, u133, u134, u135, u136, u137, u138, u139, u140, u141, u142, u143, u144, u145, u146, u147, u148, u149, u150, u151, u152, u153, u154, u155, u156, u157, u158, u159, u160, u161, u162, u163, u164, u165, u166, u167, u168, u169, u170, u171, u172, u173, u174, u175, u176, u177, u178, u179, u180, u181, u182, u183, u184, u185, u186, u187, u188, u189, u190, u191, u192, u193, u194, u195], []⟩ w3 := by
  have HL : Hid (Laid w) := hL
  clear hL
  obtain ⟨_, y0, y1, y2⟩ := G3.out.2.1
  conv => arg 2; whnf
  have b0 : (k0 == 0) = false := by simp; omega
  have b1 : (k0 == 1) = false := by simp; omega
  have b2 : (k0 == 2) = false := by simp; omega
  have b3 : (k0 == 3) = false := by simp; omega
  clear hk
  go_wp2_with fail
  refine (castGive k1 G3.out.1.2.1 G3.out.1.2.2.1 G3.out.1.2.2.2.2.size).mono ?_
  rintro e w4 ⟨d4, vo, rfl, ho, hno, r⟩
  obtain ⟨ec, eec⟩ : ∃ ec, ec = giveC g k1 := ⟨_, rfl⟩
  obtain ⟨ws, ews⟩ : ∃ ws, ws = giveW g k1 := ⟨_, rfl⟩
  rw [← eec]
  rw [← ews] at ho
  have M4 : Hid (PM w P C g (give g k1) d4 fp w4 ∧ V3 w4 V k0 k1 k2 ∧ ec = giveC g k1 ∧ ws = giveW g k1 ∧ w4.ownsRow w3.heap.size 3 1 vo ws.length (ws.map (Value.int .i64)) ∧ ∀ b, vo.ownBlock = some b → b ∉ fp) := ⟨G3.out.1.ref r, G3.out.2.1.block r.bel.size (r.kp V G3.out.2.1.1 G3.out.2.2.1), eec, ews, ho, fun b hb q => by
    have h1 := (own_lt ho b hb).1
    have h2 := (G3.out.1.1.fp b q).2
    omega⟩
  obtain ⟨_, r0, r1, r2⟩ := M4.out.2.1
  clear r eec ews ho hno y0 y1 y2
  go_wp2_with fail
  refine (giveC_any w.heap.size P g fp k1 w4 M4.out.1.1 G3.out.1.2.2.1 M4.out.1.2.2.2.size (HL.out.later M4.out.1.2.2.2)).mono ?_
  rintro e w6 ⟨fp6, vo6, rfl, hN, ho, hb, hk, hn, -⟩
  rw [← M4.out.2.2.1]
  rw [← M4.out.2.2.2.1] at ho
  have N6 : Hid (PC w P C (give g k1) d4 fp6 w6 ∧ w6.ownsRow w3.heap.size 3 1 vo ws.length (ws.map (Value.int .i64)) ∧ w6.ownsRow w4.heap.size 3 1 vo6 ws.length (ws.map (Value.int .i64))) := ⟨M4.out.1.prog (give_gi G3.out.1.2.2.1 _) hN hb hk hn, own_block M4.out.2.2.2.2.1 (fun b q => hk.2 b (own_lt M4.out.2.2.2.2.1 b q).2 (M4.out.2.2.2.2.2 b q)), ho⟩
  clear hN ho hb hk hn r0 r1 r2
  go_wp2_with fail
  refine (errF_same ec w6 (HL.out.later N6.out.1.2.2.2.2)).mono ?_
  rintro e w7 ⟨rfl, hb⟩
  obtain ⟨a1, cp1, rfl, hv1, hm1⟩ := own_ints (own_block N6.out.2.1 (fun b q => hb.block b (own_lt N6.out.2.1 b q).2))
  obtain ⟨a2, cp2, rfl, hv2, hm2⟩ := own_ints (own_block N6.out.2.2 (fun b q => hb.block b (own_lt N6.out.2.2 b q).2))
  have N7 : Hid (PC w P C (give g k1) d4 fp6 w7 ∧ Vw w7 a1 ws.length ws ∧ Vw w7 a2 ws.length ws ∧ ws.length ≤ maxLen) := ⟨N6.out.1.later hb, hv1, hv2, hm1⟩
  clear hb hv1 hv2 hm1 hm2
  go_wp2_with fail
  refine (ints_eq a2 a1 ws.length cp2 ws.length cp1 ws w7 N7.out.2.2.1 N7.out.2.1 N7.out.2.2.2).mono ?_
  rintro e w8 ⟨rfl, m8, rfl⟩
  have PZ : Hid (PA w P C (w7.drewN m8)) := ⟨_, _, _, N7.out.1.later (below_drews (Below.refl _ _) m8)⟩
  go_wp2_with fail
  try (first | exact PZ | (apply hQ; exact PZ))
end Go.Proofs.YtgnffanlgmbieaeDoor.Cas
