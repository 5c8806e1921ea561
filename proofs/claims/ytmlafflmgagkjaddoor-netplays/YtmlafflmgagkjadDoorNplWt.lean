/-
  A way of NetPlays: one is doubled.
-/
import Derived.Test.YtmlafflmgagkjadDoorNplS
namespace Go.Proofs.YtmlafflmgagkjadDoor.Net
open Go.RowKit
open Go.Proofs.YtmlafflmgagkjadDoor.As (Laid)
open Go.Proofs.YtmlafflmgagkjadDoor.Vec (Vw Rw)
open Go.Proofs.YtmlafflmgagkjadDoor.Fif (own_lt own_block own_form own_mono Kp ret_bool)
set_option linter.unusedVariables false
set_option maxRecDepth 100000 in
set_option maxHeartbeats 4000000 in
theorem sw_twice (w : World) (P Q V : Nat) (no : Int → Int → Bool) (l : List Pk) (q : Option Addr) (n cp : Nat) (fp : List Nat) (k0 k1 k2 k3 : Int) (w3 : World) (hL : Laid w) (EN : Hid (n = l.length)) (G3 : Hid (PN w P Q no l (.slice q n cp) fp w3 ∧ V4 w3 V k0 k1 k2 k3 ∧ Vap V Q (.slice q n cp) fp)) (Q4 : Exit → Act → World → Prop)
    (c0 c1 c2 c5 c7 c9 c11 c12 c13 c14 c15 c16 c17 c18 u19 u20 u21 u22 u23 u24 u25 u26 u27 u28 u29 u30 u31 u32 u33 u34 u35 u36 u37 u38 u39 u40 u41 u42 u43 u44 u45 u46 u47 u48 u49 u50 u51 u52 u53 u54 u55 u56 u57 u58 u59 u60 u61 u62 u63 u64 u66 u67 u68 u69 u70 u71 u72 u73 u74 u75 u76 u77 u78 u79 u80 u81 u82 u83 u84 u85 u86 u87 u88 u89 u90 u91 u92 u93 u94 u95 u96 u97 u98 u99 u100 u101 u102 u103 u104 u105 u106 u107 u108 u109 u110 u111 u112 u113 u114 u115 u116 u117 u118 u119 u120 u121 u122 u123 u124 u125 u126 u127 u128 u129 u130 u131 u132 u133 u134 u135 u136 u137 u138 u139 u140 u141 u142 u143 u144 u145 u146 u147 u148 u149 u150 u151 u152 u153 u154 u155 u156 u157 u158 u159 u160 u161 u162 u163 u164 u165 u166 u167 u168 u169 u170 u171 u172 u173 u174 u175 u176 u177 u178 u179 u180 u181 u182 u183 u184 u185 u186 u187 u188 u189 u190 u191 u192 u193 u194 u195 u196 u197 u198 u199 u200 u201 u202 u203 u204 u205 u206 u207 u208 u209 u210 u211 u212 u213 u214 u215 : Value)
    (hQ : ∀ (s8 s10 s11 s12 s13 s14 s15 s19 s20 s21 s22 s23 s24 s25 s26 s27 s28 s29 s30 s31 s32 s33 s34 s35 s36 s37 s38 s39 s40 s41 s42 s43 s44 s45 s46 s47 s48 s49 s50 s51 s52 s53 s54 s55 s56 s57 s58 s59 s60 s61 s62 s63 s64 s65 s66 s67 s68 s69 s70 s71 s72 s73 s74 s75 s76 s77 s78 s79 s80 s81 s82 s83 s84 s85 s86 s87 s88 s89 s90 s91 s92 s93 s94 s95 s96 s97 s98 s99 s100 s101 s102 s103 s104 s105 s106 s107 s108 s109 s110 s111 s112 s113 s114 s115 s116 s117 s118 s119 s120 s121 s122 s123 s124 s125 s126 s127 s128 s129 s130 s131 s132 s133 s134 s135 s136 s137 s138 s139 s140 s141 s142 s143 s144 s145 s146 s147 s148 s149 s150 s151 s152 s153 s154 s155 s156 s157 s158 s159 s160 s161 s162 s163 s164 s165 s166 s167 s168 s169 s170 s171 s172 s173 s174 s175 s176 s177 s178 s179 s180 s181 s182 s183 s184 s185 s186 s187 s188 s189 s190 s191 s192 s193 s194 s195 s196 s197 s198 s199 s200 s201 s202 s203 s204 s205 s206 s207 s208 s209 s210 s211 s212 s213 s214 s215 : Value) (wz : World), Hid (PA w P Q wz) → Q4 .normal ⟨#[c0, c1, c2, .pointer (some ⟨P, 0, none⟩), .pointer (some ⟨Q, 0, none⟩), c5, .pointer (some ⟨V, 0, none⟩), c7, s8, .bool true, s10, s11, s12, s13, s14, s15, c16, c17, c18, s19, s20, s21, s22, s23, s24, s25, s26, s27, s28, s29, s30, s31, s32, s33, s34, s35, s36, s37, s38, s39, s40, s41, s42, s43, s44, s45, s46, s47, s48, s49, s50, s51, s52, s53, s54, s55, s56, s57, s58, s59, s60, s61, s62, s63, s64, s65, s66, s67, s68, s69, s70, s71, s72, s73, s74, s75, s76, s77, s78, s79, s80, s81, s82, s83, s84, s85, s86, s87, s88, s89, s90, s91, s92, s93, s94, s95, s96, s97, s98, s99, s100, s101, s102, s103, s104, s105, s106, s107, s108, s109, s110, s111, s112, s113, s114, s115, s116, s117, s118, s119, s120, s121, s122, s123, s124, s125, s126, s127, s128, s129, s130, s131, s132, s133, s134, s135, s136, s137, s138, s139, s140, s141, s142, s143, s144, s145, s146, s147, s148, s149, s150, s151, s152, s153, s154, s155, s156, s157, s158, s159, s160, s161, s162, s163, s164, s165, s166, s167, s168, s169, s170, s171, s172, s173, s174, s175, s176, s177, s178, s179, s180, s181, s182, s183, s184, s185, s186, s187, s188, s189, s190, s191, s192, s193, s194, s195, s196, s197, s198, s199, s200, s201, s202, s203, s204, s205, s206, s207, s208, s209, s210, s211, s212, s213, s214, s215], []⟩ wz)
    (hk : k0 = 5) : Code.wp Tryd.prog ((Tryd.f6.body.bind (blockAt 4)).getD .skip) Q4 ⟨#[c0, c1, c2, .pointer (some ⟨P, 0, none⟩), .pointer (some ⟨Q, 0, none⟩), c5, .pointer (some ⟨V, 0, none⟩), c7, .int .i64 1, c9, .bool (isIn l k1), c11, c12, c13, c14, c15, c16, c17, c18, u19, u20, u21, u22, u23, u24, u25, u26, u27, u28, u29, u30, u31, u32, u33, u34, u35, u36, u37, u38, u39, u40, u41, u42, u43, u44, u45, u46, u47, u48, u49, u50, u51, u52, u53, u54, u55, u56, u57, u58, u59, u60, u61, u62, u63, u64, .int .i64 k0, u66, u67, u68, u69, u70, u71, u72, u73, u74, u75, u76, u77, u78, u79, u80, u81, u82, u83, u84, u85, u86, u87, u88, u89, u90, u91, u92, u93, u94, u95, u96, u97, u98, u99, u100, u101, u102, u103, u104, u105, u106, u107, u108, u109, u110, u111, u112, u113, u114, u115, u116, u117, u118, u119, u120, u121, u122, u123, u124, u125, u126, u127, u128, u129, u130, u131, u132, u133, u134, u135, u136, u137, u138, u139, u140, u141, u142, u143, u144, u145, u146, u147, u148, u149, u150, u151, u152, u153, u154, u155, u156, u157, u158, u159, u160, u161, u162, u163, u164, u165, u166, u167, u168, u169, u170, u171, u172, u173, u174, u175, u176, u177, u178, u179, u180, u181, u182, u183, u184, u185, u186, u187, u188, u189, u190, u191, u192, u193, u194, u195, u196, u197, u198, u199, u200, u201, u202, u203, u204, u205, u206, u207, u208, u209, u210, u211, u212, u213, u214, u215], []⟩ w3 := by
  have HL : Hid (Laid w) := hL
  clear hL
  obtain ⟨_, y0, y1, y2, y3⟩ := G3.out.2.1
  obtain ⟨c0', z0⟩ := G3.out.1.2.1.all
  conv => arg 2; whnf
  have b0 : (k0 == 0) = false := by simp; omega
  have b1 : (k0 == 1) = false := by simp; omega
  have b2 : (k0 == 2) = false := by simp; omega
  have b3 : (k0 == 3) = false := by simp; omega
  have b4 : (k0 == 4) = false := by simp; omega
  have b5 : (k0 == 5) = true := by simp; omega
  clear hk
  cases hin : isIn l k1
  · have M4 : Hid (PM w P Q no no l l (.slice q n cp) fp w3) := ⟨G3.out.1.1, G3.out.1.2.1, G3.out.1.2.2.2.1, G3.out.1.2.2.2.2⟩
    have eL : twL l k1 = l := if_neg (by rw [hin]; decide)
    have eC : twC l k1 = 1 := if_neg (by rw [hin]; decide)
    have EL : Hid (twL l k1 = l ∧ twC l k1 = 1) := ⟨eL, eC⟩
    clear eL eC
    go_wp2_with fail
    refine (twiceN w.heap.size P no l fp k1 w3 M4.out.1 G3.out.1.2.2.1 M4.out.2.2.2.size).mono ?_
    rintro e w6 ⟨fp6, rfl, hN, hb, hk, hn⟩
    rw [EL.out.1] at hN
    rw [EL.out.2]
    have N6 : Hid (PN w P Q no l (.slice q n cp) fp6 w6) := M4.out.prog G3.out.1.2.2.1 hN hb hk hn
    obtain ⟨ec, eec⟩ : ∃ ec : Int, ec = 1 := ⟨_, rfl⟩
    clear hN hb hk hn
    go_wp2_with fail
    rw [← eec]
    refine (errF_same ec w6 (HL.out.later N6.out.2.2.2.2)).mono ?_
    rintro e wE ⟨rfl, hb⟩
    have PZ : Hid (PA w P Q wE) := ⟨_, _, _, _, N6.out.later hb⟩
    clear hb eec
    go_wp2_with fail
    try (first | exact PZ | (apply hQ; exact PZ))
  · obtain ⟨k, rfl, hkl⟩ := isIn_yes hin
    have HI : Hid (isIn l (k : Int) = true ∧ k < l.length) := ⟨hin, hkl⟩
    clear hin
    obtain ⟨q9, cp9, e9, _, _, hform⟩ := Po.form G3.out.1.2.1.own
    obtain ⟨g9, eg9, _, _, hcs9⟩ := hform (by omega)
    obtain ⟨x0, x1, x2⟩ := c3_of hcs9 hkl
    rw [eg9] at e9
    obtain rfl : q = some ⟨g9, 0, none⟩ := by injection e9
    obtain ⟨p, ep⟩ : ∃ p, p = pk l k := ⟨_, rfl⟩
    rw [← ep] at x0 x1 x2
    have hk0 : (0 : Int) ≤ (k : Int) := by omega
    have hkn : (k : Int) < (n : Int) := by have := EN.out; omega
    have EP : Hid (p = pk l k) := ep
    clear e9 hform hcs9 eg9 ep
    go_wp2_with fail
    refine wp_region_noPanic ?_
    go_region_with (go_at_call 25; refine (refSend p (by exact G3.out.1.2.1.of_blocks rfl (fun _ _ => rfl)) (by exact G3.out.1.2.2.2.2.size)).mono ?_; rintro e w4 ⟨v4, rfl, hR, hB, hK, hV⟩; have M4 : Hid (RN w4 w.heap.size Q no (sendL l p) v4 ∧ Below w.heap.size w3 w4 ∧ Kp w3 w4 Q (Value.slice (some ⟨g9, 0, none⟩) n cp).ownBlock ∧ ∀ j, v4.ownBlock = some j → (Value.slice (some ⟨g9, 0, none⟩) n cp).ownBlock = some j ∨ w3.heap.size ≤ j) := ⟨hR, below_base hB rfl rfl rfl rfl, hK, hV⟩; clear hR hB hK hV)
    all_goals
      refine NoPanic.normal ?_
      obtain ⟨ec, eec⟩ : ∃ ec, ec = sendC l p := ⟨_, rfl⟩
      rw [← eec]
      have M5 : Hid (PM w P Q no no l (sendL l p) v4 fp w4 ∧ V4 w4 V k0 (k : Int) k2 k3 ∧ ec = sendC l p) := ⟨G3.out.1.ref M4.out.1 M4.out.2.1 M4.out.2.2.1 (fun _ e => e) M4.out.2.2.2, G3.out.2.1.block M4.out.2.2.1.1 (M4.out.2.2.1.2 V G3.out.2.1.1 G3.out.2.2.1 (fun e => G3.out.2.2.2.1 e.symm)), eec⟩
      obtain ⟨_, r0, r1, r2, r3⟩ := M5.out.2.1
      have EL : Hid (twL l (k : Int) = sendL l p ∧ twC l (k : Int) = ec) := ⟨by rw [twL, if_pos HI.out.1, Int.toNat_natCast, EP.out], by rw [twC, if_pos HI.out.1, Int.toNat_natCast, M5.out.2.2, EP.out]⟩
      clear eec y0 y1 y2 y3 c0' z0 x0 x1 x2
      go_wp2_with fail
      refine (twiceN w.heap.size P no l fp (k : Int) w4 M5.out.1.1 G3.out.1.2.2.1 M5.out.1.2.2.2.size).mono ?_
      rintro e w6 ⟨fp6, rfl, hN, hb, hk, hn⟩
      rw [EL.out.1] at hN
      rw [EL.out.2]
      have N6 : Hid (PN w P Q no (sendL l p) v4 fp6 w6) := M5.out.1.prog (G3.out.1.2.2.1.send p) hN hb hk hn
      clear hN hb hk hn r0 r1 r2 r3
      go_wp2_with fail
      refine (errF_same ec w6 (HL.out.later N6.out.2.2.2.2)).mono ?_
      rintro e wE ⟨rfl, hb⟩
      have PZ : Hid (PA w P Q wE) := ⟨_, _, _, _, N6.out.later hb⟩
      clear hb
      go_wp2_with fail
      try (first | exact PZ | (apply hQ; exact PZ))
end Go.Proofs.YtmlafflmgagkjadDoor.Net
