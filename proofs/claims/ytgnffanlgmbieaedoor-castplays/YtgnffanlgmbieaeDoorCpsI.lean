/-
  CastPlays' inner loop: the numbers of a step, three at most, are copied.
-/
import Derived.Test.YtgnffanlgmbieaeDoorCpsS
namespace Go.Proofs.YtgnffanlgmbieaeDoor.Cas
open Go.RowKit
open Go.Proofs.YtgnffanlgmbieaeDoor.Net (Pk pk Po RN errF errF_ok errF_no errF_same KpL NewL dropC dropL twC twL sendC sendL C3 c3_of isIn isIn_yes NInv refOut refSend packets_same below_same below_drews)
open Go.Proofs.YtgnffanlgmbieaeDoor.As (Laid)
open Go.Proofs.YtgnffanlgmbieaeDoor.Vec (Vw Rw ints_any)
open Go.Proofs.YtgnffanlgmbieaeDoor.His (Ev)
open Go.Proofs.YtgnffanlgmbieaeDoor.Fif (own_lt own_block own_form own_mono Kp ret_bool)
set_option linter.unusedVariables false
set_option maxRecDepth 100000 in
set_option maxHeartbeats 4000000 in
theorem cin_any (b off len cap i li : Nat) (ls : List (List Int)) (qi : Option Addr) (ci : Nat) (wo W2 : World) (hi0 : (0 : Int) ≤ (i : Int)) (hil : (i : Int) < (len : Int)) (hmi : li ≤ 2 ^ 63 - 1) (XV : Hid (wo.cell? ⟨b, off + i, none⟩ = some (.slice qi li ci) ∧ b < wo.heap.size ∧ Vw wo qi li (ls.getD i [])))
    (A1 : Hid (R3n wo W2)) (Q2 : Exit → Act → World → Prop) (c0 c2 c3 c4 c5 c6 c7 c8 c9 c13 c14 c15 c16 c17 c18 c19 c20 c21 c22 c23 c24 c25 c26 c27 c28 c29 c30 c31 c32 c33 c34 c35 c36 c37 c38 c39 c40 u41 u42 u43 u44 u45 u46 u47 u48 u49 u50 u51 u52 u53 u54 u55 u56 u57 u58 u59 u60 u61 u62 u63 u64 u65 u66 u67 u68 u69 u70 u71 u72 u73 u74 u75 u76 u77 u78 u79 u80 u81 u82 u83 u84 u85 u86 u87 u88 u89 u90 u91 u92 u93 u94 u95 u96 u97 u98 u99 u100 u101 u102 u103 u104 u105 u106 u107 u108 u109 u110 u111 u112 u113 u114 u115 u116 u117 u118 u119 u120 u121 u122 u123 u124 u125 u126 u127 u128 u129 u130 u131 u132 u133 u134 u135 u136 u137 u138 u139 u140 u141 u142 u143 u144 u145 u146 u147 u148 u149 u150 u151 u152 u153 u154 u155 u156 u157 u158 u159 u160 u161 u162 u163 u164 u165 u166 u167 u168 u169 u170 u171 u172 u173 u174 u175 u176 u177 u178 u179 u180 u181 u182 u183 u184 u185 u186 u187 u188 u189 u190 u191 u192 u193 u194 u195 : Value)
    (hQ : ∀ (s12 s41 s42 s43 s44 s45 s46 s47 s48 s49 s50 s51 s52 s53 s54 s55 s56 s57 s58 s59 s60 s61 s62 s63 s64 s65 s66 s67 s68 s69 s70 s71 s72 s73 s74 s75 s76 s77 s78 s79 s80 s81 s82 s83 s84 s85 s86 s87 s88 s89 s90 s91 s92 s93 s94 s95 s96 s97 s98 s99 s100 s101 s102 s103 s104 s105 s106 s107 s108 s109 s110 s111 s112 s113 s114 s115 s116 s117 s118 s119 s120 s121 s122 s123 s124 s125 s126 s127 s128 s129 s130 s131 s132 s133 s134 s135 s136 s137 s138 s139 s140 s141 s142 s143 s144 s145 s146 s147 s148 s149 s150 s151 s152 s153 s154 s155 s156 s157 s158 s159 s160 s161 s162 s163 s164 s165 s166 s167 s168 s169 s170 s171 s172 s173 s174 s175 s176 s177 s178 s179 s180 s181 s182 s183 s184 s185 s186 s187 s188 s189 s190 s191 s192 s193 s194 s195 : Value) (wz : World), Hid (R3n wo wz) → Q2 .normal ⟨#[c0, .slice (some ⟨b, off, none⟩) len cap, c2, c3, c4, c5, c6, c7, c8, c9, .int .i64 (i : Int), .pointer (some ⟨wo.heap.size, 0, none⟩), s12, c13, c14, c15, c16, c17, c18, c19, c20, c21, c22, c23, c24, c25, c26, c27, c28, c29, c30, c31, c32, c33, c34, c35, c36, c37, c38, c39, c40, s41, s42, s43, s44, s45, s46, s47, s48, s49, s50, s51, s52, s53, s54, s55, s56, s57, s58, s59, s60, s61, s62, s63, s64, s65, s66, s67, s68, s69, s70, s71, s72, s73, s74, s75, s76, s77, s78, s79, s80, s81, s82, s83, s84, s85, s86, s87, s88, s89, s90, s91, s92, s93, s94, s95, s96, s97, s98, s99, s100, s101, s102, s103, s104, s105, s106, s107, s108, s109, s110, s111, s112, s113, s114, s115, s116, s117, s118, s119, s120, s121, s122, s123, s124, s125, s126, s127, s128, s129, s130, s131, s132, s133, s134, s135, s136, s137, s138, s139, s140, s141, s142, s143, s144, s145, s146, s147, s148, s149, s150, s151, s152, s153, s154, s155, s156, s157, s158, s159, s160, s161, s162, s163, s164, s165, s166, s167, s168, s169, s170, s171, s172, s173, s174, s175, s176, s177, s178, s179, s180, s181, s182, s183, s184, s185, s186, s187, s188, s189, s190, s191, s192, s193, s194, s195], []⟩ wz) :
    Code.wp Tryd.prog ((Tryd.f3.body.bind (blockAt 2)).getD .skip) Q2 ⟨#[c0, .slice (some ⟨b, off, none⟩) len cap, c2, c3, c4, c5, c6, c7, c8, c9, .int .i64 (i : Int), .pointer (some ⟨wo.heap.size, 0, none⟩), .int .i64 0, c13, c14, c15, c16, c17, c18, c19, c20, c21, c22, c23, c24, c25, c26, c27, c28, c29, c30, c31, c32, c33, c34, c35, c36, c37, c38, c39, c40, u41, u42, u43, u44, u45, u46, u47, u48, u49, u50, u51, u52, u53, u54, u55, u56, u57, u58, u59, u60, u61, u62, u63, u64, u65, u66, u67, u68, u69, u70, u71, u72, u73, u74, u75, u76, u77, u78, u79, u80, u81, u82, u83, u84, u85, u86, u87, u88, u89, u90, u91, u92, u93, u94, u95, u96, u97, u98, u99, u100, u101, u102, u103, u104, u105, u106, u107, u108, u109, u110, u111, u112, u113, u114, u115, u116, u117, u118, u119, u120, u121, u122, u123, u124, u125, u126, u127, u128, u129, u130, u131, u132, u133, u134, u135, u136, u137, u138, u139, u140, u141, u142, u143, u144, u145, u146, u147, u148, u149, u150, u151, u152, u153, u154, u155, u156, u157, u158, u159, u160, u161, u162, u163, u164, u165, u166, u167, u168, u169, u170, u171, u172, u173, u174, u175, u176, u177, u178, u179, u180, u181, u182, u183, u184, u185, u186, u187, u188, u189, u190, u191, u192, u193, u194, u195], []⟩ W2 := by
  conv => arg 2; whnf
  go_wp2_with fail
  go_loopw [12] (fun x wi => ∃ j : Nat, j ≤ 3 ∧ x = .int .i64 (j : Int) ∧ Hid (R3n wo wi)) (fun x _ => 3 - (intOf x).toNat)
  case atStart => exact ⟨0, by omega, rfl, A1⟩
  case round =>
    obtain ⟨j, hj, rfl, hA⟩ := hrel
    have x0 : wr.cell? ⟨b, off + i, none⟩ = some (.slice qi li ci) := by
      obtain ⟨f, _, hb⟩ := hA.out
      exact (hb.cell (p := ⟨b, off + i, none⟩) XV.out.2.1).trans XV.out.1
    have hj0 : (0 : Int) ≤ (j : Int) := by omega
    by_cases hjl : (j : Int) < (li : Int)
    · by_cases hj3 : (j : Int) < 3
      · obtain ⟨f, hf, hb⟩ := hA.out
        obtain ⟨bi, oi, rfl, hlti, hci⟩ := XV.out.2.2.2 (by omega)
        have y0 := (hb.cell (p := ⟨bi, oi + j, none⟩) hlti).trans (hci j (by omega))
        have c0 := World.rowIs.cell hf (i := j) (by omega)
        have z0 := World.rowIs.frozen hf j
        obtain ⟨yv, ey⟩ : ∃ yv, yv = (ls.getD i []).getD j 0 := ⟨_, rfl⟩
        rw [← ey] at y0
        have FB : Hid (wr.rowIs wo.heap.size 31 3 (fun t => .int .i64 (f t)) ∧ Below wo.heap.size wo wr) := ⟨hf, hb⟩
        clear hf hb hci hlti ey hA
        go_wp2
        go_roundw
        case rel =>
          refine ⟨j + 1, by omega, by go_num, fun t => if t = j then yv else f t, (World.rowIs.set FB.out.1 j _).congr fun t ht => ?_, FB.out.2.setCell (p := ⟨wo.heap.size, j, none⟩) (Nat.le_refl _) _⟩
          by_cases e : t = j
          · rw [if_pos e]; simp [e]
          · rw [if_neg e]; simp [e]
        case measure => simp [intOf]; omega
      · have d3 : decide ((j : Int) < 3) = false := by simp; omega
        go_wp2_with fail
        try (first | exact hA | (apply hQ; exact hA))
    · have dl : decide ((j : Int) < (li : Int)) = false := by simp; omega
      go_wp2_with fail
      try (first | exact hA | (apply hQ; exact hA))
end Go.Proofs.YtgnffanlgmbieaeDoor.Cas
