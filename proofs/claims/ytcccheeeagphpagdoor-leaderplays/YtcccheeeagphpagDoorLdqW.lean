/-
  LeaderPlays: a word is given a place, or what is at a place has come: whichever.
-/
import Derived.Test.YtcccheeeagphpagDoorLdqS
import Derived.Deep.CutBlock
import Derived.Deep.CutRange
import Derived.Deep.AppendLies
import Derived.Deep.RegionLaw
namespace Go.Proofs.YtcccheeeagphpagDoor.Ldr
open Go.RowKit
open Go.Proofs.YtcccheeeagphpagDoor.Fif (own_lt own_block own_form own_mono own_vw ret_bool info_int new_int int_one lenOf)
open Go.Proofs.YtcccheeeagphpagDoor.Vec (Vw Rw)
open Go.Proofs.YtcccheeeagphpagDoor.As (Laid)
open Go.Proofs.YtcccheeeagphpagDoor.Sep (KpL NewL)
set_option linter.unusedVariables false

theorem vw_heap {w X : World} {a : Option Addr} {n : Nat} {l : List Int} (q : Vw w a n l) (h : X.heap = w.heap) : Vw X a n l := by
  refine ⟨q.1, fun z => ?_⟩
  obtain ⟨b, off, e, hb, hc⟩ := q.2 z
  exact ⟨b, off, e, by rw [h]; exact hb, fun k hk => (World.cell?_of_block (by rw [h])).trans (hc k hk)⟩
theorem c_heapL {w X : World} (e : X.heap = w.heap) (a : Addr) : X.cell? a = w.cell? a := World.cell?_of_block (by rw [e])
theorem own_pushL {w w' : World} {base : Nat} {ob : Obj} {t : TypeId} {s n : Nat} {v : Value} {xs : List Value} (o : w.ownsRow base t s v n xs) (e : w'.heap = w.heap.push ob) : w'.ownsRow base t s v n xs := own_block o fun k hk => by
  rw [e, Array.getElem?_push_lt (own_lt o k hk).2, Array.getElem?_eq_getElem (own_lt o k hk).2]
theorem new_pushL {w w' : World} {x : Int} {t : TypeId} (e : w'.heap = w.heap.push (.cells #[.int .i64 x] t)) : ∀ j u, [Value.int .i64 x][j]? = some u → w'.cell? ((⟨w.heap.size, 0, none⟩ : Addr).add j) = some u := by
  intro j u hj
  refine Eq.trans (World.cell?_of_block ?_) (new_int w _ rfl x t j u hj)
  rw [e]
  rfl
theorem grown_tmpL {w X w5 : World} {ob : Obj} {r : Option Nat} (hg : X.grownBy w5 r) (e : X.heap = w.heap.push ob) (e1 : X.os = w.os) (e2 : X.tape = w.tape) (e3 : X.output = w.output) : w.grownBy w5 r := by
  obtain ⟨a1, a2, a3, a4, a5⟩ := hg
  refine ⟨a1.trans e1, a2.trans e2, a3.trans e3, ?_, fun k hk hne => ?_⟩
  · rw [e, Array.size_push] at a4
    omega
  · rw [a5 k (by rw [e, Array.size_push]; omega) hne, e, Array.getElem?_push_lt hk, Array.getElem?_eq_getElem hk]
/-- the part of a body that is the choice by that slot -/
def ifAt (n : Nat) : Code → Option Code
  | .block m c => ifAt n c
  | .seq a b => match ifAt n a with
    | some c => some c
    | none => ifAt n b
  | .loop c => ifAt n c
  | .cond o a b => match o with
    | .tmp m => if m = n then some (.cond o a b) else (match ifAt n a with
      | some c => some c
      | none => ifAt n b)
    | _ => match ifAt n a with
      | some c => some c
      | none => ifAt n b
  | _ => none
set_option maxRecDepth 100000 in
set_option maxHeartbeats 8000000 in
theorem ways_any (n : Nat) (w : World) (hL : Laid w) (P Q V : Nat) (l : L) (fp : List Nat) (v : Value) (k0 k1 k2 : Int) (inb : Bool) (w4 : World) (ii : TypeInfo) (HJ : Hid (Tryd.prog.info? 3 = some ii ∧ ii.zero = some (.int .i64 0) ∧ ii.size = 1 ∧ ii.bytes = 8)) (G2 : Hid (PS w P Q V w4 l fp l v k0 k1 k2)) (RI : Hid (Inv l ∧ l.n = n)) (hn5 : (n : Int) ≤ 5) (HIN : Hid (inb = decide (0 ≤ k1 ∧ k1 < (n : Int))))
    (C : Code) (hC : (Tryd.f3.body.bind (ifAt 96)).getD .skip = C) (KK K2 : Act → World → Prop) (Q' : Exit → Act → World → Prop) (hQ' : ∃ (K3 K4 : Act → World → Prop) (R : Ending → World → Prop), Q' = Exit.then K3 (Exit.inBlock 0 (Exit.then K4 (bodyPost Tryd.prog Tryd.f3 R))))
    (u0 u1 u2 u3 u4 u7 u8 u10 u12 u14 u15 u16 u17 u18 u19 u20 u21 u22 u23 u24 u25 u26 u27 u28 u29 u30 u31 u32 u33 u34 u35 u36 u37 u38 u39 u40 u41 u42 u43 u44 u45 u46 u47 u48 u49 u50 u51 u52 u53 u54 u55 u56 u57 u58 u59 u60 u61 u62 u63 u64 u65 u66 u67 u68 u69 u70 u71 u72 u73 u74 u75 u76 u77 u78 u79 u80 u81 u82 u83 u84 u85 u86 u87 u88 u89 u90 u91 u92 u93 u94 u95 u97 u98 u99 u100 u101 u102 u103 u104 u105 u106 u107 u108 u109 u110 u111 u112 u113 u114 u115 u116 u117 u118 u119 u120 u121 u122 u123 u124 u125 u126 u127 u128 u129 u130 u131 u132 u133 u134 u135 u136 u137 u138 u139 u140 u141 u142 u143 u144 u145 u146 u147 u148 u149 u150 u151 u152 u153 u154 u155 u156 u157 u158 u159 u160 u161 u162 u163 u164 u165 u166 u167 u168 u169 u170 u171 u172 u173 u174 u175 u176 u177 u178 u179 u180 u181 u182 u183 u184 u185 u186 u187 u188 u189 u190 u191 u192 u193 u194 u195 u196 u197 u198 u199 u200 u201 u202 u203 u204 u205 u206 u207 u208 u209 u210 u211 u212 u213 u214 u215 u216 u217 u218 u219 u220 u221 u222 u223 u224 u225 u226 u227 u228 u229 u230 u231 u232 u233 u234 u235 u236 u237 u238 u239 u240 u241 u242 u243 u244 u245 u246 u247 u248 u249 u250 u251 u252 u253 u254 u255 u256 u257 u258 u259 u260 u261 u262 u263 u264 u265 u266 u267 u268 u269 u270 u271 u272 u273 u274 u275 u276 u277 u278 u279 : Value)
    (hQ : ∀ (s5 s8 s13 s14 s15 s16 s17 s18 s19 s20 s21 s96 s97 s98 s99 s100 s101 s102 s103 s104 s105 s106 s107 s108 s109 s110 s111 s112 s113 s114 s115 s116 s117 s118 s119 s120 s121 s122 s123 s124 s125 s126 s127 s128 s129 s130 s131 s132 s133 s134 s135 s136 s137 s138 s139 s140 s141 s142 s143 s144 s145 s146 s147 s148 s149 s150 s151 s152 s153 s154 s155 s156 s157 s158 s159 s160 s161 s162 s163 s164 s165 s166 s167 s168 s169 s170 s171 s172 s173 s174 s175 s176 s177 s178 s179 s180 s181 s182 s183 s184 s185 s186 s187 s188 s189 s190 s191 s192 s193 s194 s195 s196 s197 s198 s199 s200 s201 : Value) (wz : World), s8 = .bool true → s13 = .bool inb → (∃ l fp v, PS w P Q V wz l fp l v k0 k1 k2 ∧ Inv l ∧ l.n = n) → KK ⟨List.toArray (u0 :: u1 :: u2 :: u3 :: u4 :: s5 :: (.pointer (some ⟨P, 0, none⟩)) :: u7 :: s8 :: (.pointer (some ⟨Q, 0, none⟩)) :: u10 :: (.pointer (some ⟨V, 0, none⟩)) :: u12 :: s13 :: s14 :: s15 :: s16 :: s17 :: s18 :: s19 :: s20 :: s21 :: u22 :: u23 :: u24 :: u25 :: u26 :: u27 :: u28 :: u29 :: u30 :: u31 :: u32 :: u33 :: u34 :: u35 :: u36 :: u37 :: u38 :: u39 :: u40 :: u41 :: u42 :: u43 :: u44 :: u45 :: u46 :: u47 :: u48 :: u49 :: u50 :: u51 :: u52 :: u53 :: u54 :: u55 :: u56 :: u57 :: u58 :: u59 :: u60 :: u61 :: u62 :: u63 :: u64 :: u65 :: u66 :: u67 :: u68 :: u69 :: u70 :: u71 :: u72 :: u73 :: u74 :: u75 :: u76 :: u77 :: u78 :: u79 :: u80 :: u81 :: u82 :: u83 :: u84 :: u85 :: u86 :: u87 :: u88 :: u89 :: u90 :: u91 :: u92 :: u93 :: u94 :: u95 :: s96 :: s97 :: s98 :: s99 :: s100 :: s101 :: s102 :: s103 :: s104 :: s105 :: s106 :: s107 :: s108 :: s109 :: s110 :: s111 :: s112 :: s113 :: s114 :: s115 :: s116 :: s117 :: s118 :: s119 :: s120 :: s121 :: s122 :: s123 :: s124 :: s125 :: s126 :: s127 :: s128 :: s129 :: s130 :: s131 :: s132 :: s133 :: s134 :: s135 :: s136 :: s137 :: s138 :: s139 :: s140 :: s141 :: s142 :: s143 :: s144 :: s145 :: s146 :: s147 :: s148 :: s149 :: s150 :: s151 :: s152 :: s153 :: s154 :: s155 :: s156 :: s157 :: s158 :: s159 :: s160 :: s161 :: s162 :: s163 :: s164 :: s165 :: s166 :: s167 :: s168 :: s169 :: s170 :: s171 :: s172 :: s173 :: s174 :: s175 :: s176 :: s177 :: s178 :: s179 :: s180 :: s181 :: s182 :: s183 :: s184 :: s185 :: s186 :: s187 :: s188 :: s189 :: s190 :: s191 :: s192 :: s193 :: s194 :: s195 :: s196 :: s197 :: s198 :: s199 :: s200 :: s201 :: u202 :: u203 :: u204 :: u205 :: u206 :: u207 :: u208 :: u209 :: u210 :: u211 :: u212 :: u213 :: u214 :: u215 :: u216 :: u217 :: u218 :: u219 :: u220 :: u221 :: u222 :: u223 :: u224 :: u225 :: u226 :: u227 :: u228 :: u229 :: u230 :: u231 :: u232 :: u233 :: u234 :: u235 :: u236 :: u237 :: u238 :: u239 :: u240 :: u241 :: u242 :: u243 :: u244 :: u245 :: u246 :: u247 :: u248 :: u249 :: u250 :: u251 :: u252 :: u253 :: u254 :: u255 :: u256 :: u257 :: u258 :: u259 :: u260 :: u261 :: u262 :: u263 :: u264 :: u265 :: u266 :: u267 :: u268 :: u269 :: u270 :: u271 :: u272 :: u273 :: u274 :: u275 :: u276 :: u277 :: u278 :: u279 :: []), []⟩ wz) :
    Code.wp Tryd.prog C (Exit.then KK (Exit.inBlock 1 (Exit.then K2 Q'))) ⟨List.toArray (u0 :: u1 :: u2 :: u3 :: u4 :: (.int .i64 0) :: (.pointer (some ⟨P, 0, none⟩)) :: u7 :: u8 :: (.pointer (some ⟨Q, 0, none⟩)) :: u10 :: (.pointer (some ⟨V, 0, none⟩)) :: u12 :: (.bool inb) :: u14 :: u15 :: u16 :: u17 :: u18 :: u19 :: u20 :: u21 :: u22 :: u23 :: u24 :: u25 :: u26 :: u27 :: u28 :: u29 :: u30 :: u31 :: u32 :: u33 :: u34 :: u35 :: u36 :: u37 :: u38 :: u39 :: u40 :: u41 :: u42 :: u43 :: u44 :: u45 :: u46 :: u47 :: u48 :: u49 :: u50 :: u51 :: u52 :: u53 :: u54 :: u55 :: u56 :: u57 :: u58 :: u59 :: u60 :: u61 :: u62 :: u63 :: u64 :: u65 :: u66 :: u67 :: u68 :: u69 :: u70 :: u71 :: u72 :: u73 :: u74 :: u75 :: u76 :: u77 :: u78 :: u79 :: u80 :: u81 :: u82 :: u83 :: u84 :: u85 :: u86 :: u87 :: u88 :: u89 :: u90 :: u91 :: u92 :: u93 :: u94 :: u95 :: (.bool (k0 == 0)) :: u97 :: u98 :: u99 :: u100 :: u101 :: u102 :: u103 :: u104 :: u105 :: u106 :: u107 :: u108 :: u109 :: u110 :: u111 :: u112 :: u113 :: u114 :: u115 :: u116 :: u117 :: u118 :: u119 :: u120 :: u121 :: u122 :: u123 :: u124 :: u125 :: u126 :: u127 :: u128 :: u129 :: u130 :: u131 :: u132 :: u133 :: u134 :: u135 :: u136 :: u137 :: u138 :: u139 :: u140 :: u141 :: u142 :: u143 :: u144 :: u145 :: u146 :: u147 :: u148 :: u149 :: u150 :: u151 :: u152 :: u153 :: u154 :: u155 :: u156 :: u157 :: u158 :: u159 :: u160 :: u161 :: u162 :: u163 :: u164 :: u165 :: u166 :: u167 :: u168 :: u169 :: u170 :: u171 :: u172 :: u173 :: u174 :: u175 :: u176 :: u177 :: u178 :: u179 :: u180 :: u181 :: u182 :: u183 :: u184 :: u185 :: u186 :: u187 :: u188 :: u189 :: u190 :: u191 :: u192 :: u193 :: u194 :: u195 :: u196 :: u197 :: u198 :: u199 :: u200 :: u201 :: u202 :: u203 :: u204 :: u205 :: u206 :: u207 :: u208 :: u209 :: u210 :: u211 :: u212 :: u213 :: u214 :: u215 :: u216 :: u217 :: u218 :: u219 :: u220 :: u221 :: u222 :: u223 :: u224 :: u225 :: u226 :: u227 :: u228 :: u229 :: u230 :: u231 :: u232 :: u233 :: u234 :: u235 :: u236 :: u237 :: u238 :: u239 :: u240 :: u241 :: u242 :: u243 :: u244 :: u245 :: u246 :: u247 :: u248 :: u249 :: u250 :: u251 :: u252 :: u253 :: u254 :: u255 :: u256 :: u257 :: u258 :: u259 :: u260 :: u261 :: u262 :: u263 :: u264 :: u265 :: u266 :: u267 :: u268 :: u269 :: u270 :: u271 :: u272 :: u273 :: u274 :: u275 :: u276 :: u277 :: u278 :: u279 :: []), []⟩ w4 := by
  have HL : Hid (Laid w ∧ True) := ⟨hL, trivial⟩
  clear hL
  obtain ⟨y0, y1, y2⟩ := G2.out.tr
  have hV := G2.out.vl
  obtain ⟨K3, K4, R, hR⟩ := hQ'
  subst hR hC
  conv => arg 2; whnf
  by_cases q0 : k0 = 0
  · subst q0
    obtain ⟨qv, cv, ev⟩ := own_form G2.out.ra.own
    obtain ⟨nn, en⟩ : ∃ nn, nn = l.ws.length := ⟨_, rfl⟩
    have hnn : nn ≤ 30 := by rw [en]; exact RI.out.1.len
    rw [← en] at ev
    obtain ⟨W5, eW5⟩ : ∃ W5, W5 = w4.alloc (.cells #[.int .i64 0, .int .i64 0] 37) := ⟨_, rfl⟩
    have G5 : Hid (PS w P Q V W5 l fp l v 0 k1 k2 ∧ W5.rowIs w4.heap.size 37 2 (sp (0, 0)) ∧ w4.heap.size < W5.heap.size) := by
      rw [eW5]
      exact ⟨G2.out.later ((Below.refl _ _).alloc (Nat.le_refl _) _), boxP w4 0 0, by simp⟩
    have EV : Hid (v = .slice qv nn cv ∧ nn = l.ws.length) := ⟨ev, en⟩
    have HS : Hid (∀ X : World, X.heap = W5.heap → X.cell? ⟨Q, 1, none⟩ = some (.slice qv nn cv) ∧ X.cell? ⟨V, 2, none⟩ = some (.int .i64 k2)) := fun X h => ⟨by rw [c_heapL h, ← EV.out.1]; exact G5.out.1.ra.cv.1, (c_heapL h _).trans G5.out.1.tr.2.2⟩
    have HV : Hid (∀ X : World, X.heap = W5.heap → Vw X qv nn l.ws) := fun X h => by
      obtain ⟨a, c, e, hvw⟩ := own_vw G5.out.1.ra.own
      rw [EV.out.1] at e
      injection e with e1 e2 e3
      rw [e1, EV.out.2]
      exact vw_heap hvw h
    clear ev en y0 y1 y2 hV
    go_wp2_with fail
    rw [← eW5]
    clear eW5
    go_region_held3 (fun w' => w'.cell? ⟨Q, 1, none⟩ = some (.slice qv nn cv) ∧ w'.cell? ⟨V, 2, none⟩ = some (.int .i64 k2)) (exact HS.out _ rfl) (first
      | (go_at_call 6; refine (refIn qv nn cv l.ws k2 _ (by exact HV.out _ rfl) (by omega)).mono ?_; rintro e6 w6 ⟨rfl, rfl⟩))
    obtain ⟨W6, eW6⟩ : ∃ W6, W6 = W5.drew := ⟨_, rfl⟩
    rw [← eW6]
    have G6 : Hid (PS w P Q V W6 l fp l v 0 k1 k2 ∧ W6.rowIs w4.heap.size 37 2 (sp (0, 0))) := by
      rw [eW6]
      exact ⟨G5.out.1.later ⟨rfl, rfl, rfl, Nat.le_refl _, fun _ _ => rfl⟩, World.rowIs.of_block G5.out.2.1 rfl⟩
    clear eW6 HS HV
    obtain ⟨ob, eob⟩ : ∃ b, b = decide (k2 < 1 ∨ 30 < k2) := ⟨_, rfl⟩
    have HOB : Hid (ob = decide (k2 < 1 ∨ 30 < k2)) := eob
    clear eob
    have y2 := G6.out.1.tr.2.2
    have hV := G6.out.1.vl
    go_upto_region 22 with fail
    go_cut [111] from 104 to 111 (fun x wz => x = .bool ob ∧ wz = W6)
    case first =>
      by_cases b1 : k2 < 1
      · have e : ob = true := by rw [HOB.out]; exact decide_eq_true (.inl b1)
        go_wp2
        go_meet
        exact ⟨by rw [e], rfl⟩
      · by_cases b2 : 30 < k2
        · have e : ob = true := by rw [HOB.out]; exact decide_eq_true (.inr b2)
          go_wp2
          go_meet
          exact ⟨by rw [e], rfl⟩
        · have e : ob = false := by rw [HOB.out]; exact decide_eq_false (by omega)
          go_wp2
          go_meet
          exact ⟨by rw [e], rfl⟩
    case rest =>
      obtain ⟨rfl, rfl⟩ := hcut
      obtain ⟨W6, eW6⟩ : ∃ W6, W6 = wc := ⟨_, rfl⟩
      subst eW6
      obtain ⟨c, ec⟩ : ∃ c, c = sayC l k2 := ⟨_, rfl⟩
      obtain ⟨s0, es0⟩ : ∃ s0, s0 = (sayP l k2).1 := ⟨_, rfl⟩
      obtain ⟨s1, es1⟩ : ∃ s1, s1 = (sayP l k2).2 := ⟨_, rfl⟩
      have SC : Hid (c = sayC l k2 ∧ s0 = (sayP l k2).1 ∧ s1 = (sayP l k2).2) := ⟨ec, es0, es1⟩
      clear ec es0 es1
      go_upto_if 111 with fail
      go_cut [5, 15] from 103 to 131 (fun x5 x15 wz => x5 = .int .i64 c ∧ Hid (∃ vr, PS w P Q V wz l fp (say l k2) vr 0 k1 k2 ∧ wz.rowIs w4.heap.size 37 2 (sp (s0, s1))))
      case first =>
        have c1 : W6.cell? ⟨Q, 1, none⟩ = some (.slice qv nn cv) := by rw [← EV.out.1]; exact G6.out.1.ra.cv.1
        have z1 := G6.out.1.ra.cv.2
        have hQ := G6.out.1.ra.lt
        have BAD : Hid (∀ c', sayC l k2 = c' → c' ≠ 0 → c = c' ∧ ∃ vr, PS w P Q V W6 l fp (say l k2) vr 0 k1 k2 ∧ W6.rowIs w4.heap.size 37 2 (sp (s0, s1))) := by
          intro c' e hne
          have EP : sayP l k2 = (0, 0) := if_neg (by rw [e]; exact hne)
          have ES : say l k2 = l := if_neg (by rw [e]; exact hne)
          refine ⟨SC.out.1.trans e, v, ?_, ?_⟩
          · rw [ES]; exact G6.out.1
          · rw [SC.out.2.1, SC.out.2.2, EP]; exact G6.out.2
        have hob2 : ob = true ∨ ob = false := by cases ob <;> simp
        rcases hob2 with rfl | rfl
        · have hr : k2 < 1 ∨ 30 < k2 := of_decide_eq_true HOB.out.symm
          have q := BAD.out 1 (if_pos hr) (by decide)
          have EQ : Hid _ := q
          clear q hr
          go_wp2
          go_meet
          exact ⟨by rw [EQ.out.1], EQ.out.2⟩
        · have hr : ¬ (k2 < 1 ∨ 30 < k2) := of_decide_eq_false HOB.out.symm
          by_cases hw : k2 ∈ l.ws
          · have q := BAD.out 7 (by unfold sayC; rw [if_neg hr, if_pos hw]) (by decide)
            have EQ : Hid _ := q
            clear q hr
            go_wp2
            go_meet
            exact ⟨by rw [EQ.out.1], EQ.out.2⟩
          · have b1 : ¬ k2 < 1 := by omega
            have b2 : ¬ 30 < k2 := by omega
            clear hr BAD
            have EC : Hid (sayC l k2 = 0) := (by show sayC l k2 = 0; unfold sayC; rw [if_neg (by omega), if_neg hw])
            have EP : Hid (sayP l k2 = ((nn : Int), k2)) := by show (if sayC l k2 = 0 then _ else _) = _; rw [if_pos EC.out, EV.out.2]
            have ES : Hid (say l k2 = { l with ws := l.ws ++ [k2] }) := if_pos EC.out
            have q0 : W6.cell? ⟨w4.heap.size, 0, none⟩ = some (.int .i64 0) := World.rowIs.cell G6.out.2 (i := 0) (by omega)
            have q1 : W6.cell? ⟨w4.heap.size, 1, none⟩ = some (.int .i64 0) := World.rowIs.cell G6.out.2 (i := 1) (by omega)
            have f0 := World.rowIs.frozen G6.out.2 0
            have f1 := World.rowIs.frozen G6.out.2 1
            go_wp2_with fail
            go_region
            obtain ⟨W7, eW7⟩ : ∃ W7, W7 = ((W6.setCell ⟨w4.heap.size, 0, none⟩ (.int .i64 (nn : Int))).setCell ⟨w4.heap.size, 1, none⟩ (.int .i64 k2)).drew := ⟨_, rfl⟩
            rw [← eW7]
            have G7 : Hid (PS w P Q V W7 l fp l v 0 k1 k2 ∧ W7.rowIs w4.heap.size 37 2 (sp ((nn : Int), k2))) := by
              have e7 : W7.heap = ((W6.setCell ⟨w4.heap.size, 0, none⟩ (.int .i64 (nn : Int))).setCell ⟨w4.heap.size, 1, none⟩ (.int .i64 k2)).heap := by rw [eW7]; rfl
              have hlt := World.rowIs.lt G6.out.2
              have bw : w.heap.size ≤ w4.heap.size := G2.out.bel.size
              refine ⟨G6.out.1.tmp (B := w4.heap.size) (by rw [e7]; simp [World.setCell]) (fun b hb hne => by rw [e7, Deep.blk_setCell_other _ _ _ _ hne, Deep.blk_setCell_other _ _ _ _ hne]) (fun q => by have := (G2.out.ag.fp _ q).2; omega) (fun q => by have := (G2.out.ra.fp _ q).2; omega) (fun e => by have := G2.out.vl; omega) ?_, World.rowIs.of_block (((World.rowIs.set G6.out.2 0 (.int .i64 (nn : Int))).set 1 (.int .i64 k2)).congr fun j hj => ?_) (by rw [e7])⟩
              · rw [eW7]
                exact (((Below.refl _ _).setCell (p := ⟨w4.heap.size, 0, none⟩) bw _).setCell (p := ⟨w4.heap.size, 1, none⟩) bw _).drew
              · rcases j with _ | _ | j
                · rfl
                · rfl
                · omega
            have OW : Hid (W7.ownsRow w.heap.size 3 1 (.slice qv nn cv) nn (l.ws.map (Value.int .i64)) ∧ w.heap.size ≤ W7.heap.size ∧ some Q ≠ (Value.slice qv nn cv).ownBlock) := by
              have o := G7.out.1.ra.own
              have ne := G7.out.1.ra.ne
              rw [EV.out.1, ← EV.out.2] at o
              rw [EV.out.1] at ne
              exact ⟨o, G7.out.1.bel.size, fun e => ne e.symm⟩
            have y2 := G7.out.1.tr.2.2
            have c1 : W7.cell? ⟨Q, 1, none⟩ = some (.slice qv nn cv) := by rw [← EV.out.1]; exact G7.out.1.ra.cv.1
            have z1 := G7.out.1.ra.cv.2
            have hV := G7.out.1.vl
            have hQ := G7.out.1.ra.lt
            clear eW7 q0 q1 f0 f1
            go_wp2_with fail
            go_region_law ((refine step_append_lies _ (by rfl) _ _ _ (by rfl) w.heap.size 3 ii (.int .i64 0) 1 8 Tryd.underlying30 HJ.out.1 HJ.out.2.1 HJ.out.2.2.1 HJ.out.2.2.2 rfl (by omega) (.slice qv nn cv) nn (l.ws.map (Value.int .i64)) (by rfl) (by exact own_pushL OW.out.1 rfl) ⟨W7.heap.size, 0, none⟩ 1 1 [.int .i64 k2] (by rfl) (by rfl) (by exact new_pushL rfl) (int_one _) (by omega) (by unfold maxLen; omega) (by omega) (by have := OW.out.2.1; simp; omega) (W7.heap.size + 1) (by simp) ?_; intro gg gc w8 hown hgrow hat hlt8; have HG8 : Hid (W7.grownBy w8 (Value.slice qv nn cv).ownBlock) := grown_tmpL hgrow rfl rfl rfl rfl; have HO8 : Hid (w8.ownsRow w.heap.size 3 1 (.slice (some ⟨gg, 0, none⟩) (nn + 1) gc) (nn + 1) (l.ws.map (Value.int .i64) ++ [.int .i64 k2])) := hown; have AT : Hid ((Value.slice qv nn cv).ownBlock = some gg ∨ W7.heap.size ≤ gg) := (hat.imp id (fun e => by omega)); have l8 : w8.cell? ⟨Q, 1, none⟩ = some (.slice qv nn cv) := (HG8.out.cell_far ⟨Q, 1, none⟩ hQ OW.out.2.2).trans c1; have m8 : w8.frozen? ⟨Q, 1, none⟩ = false := (HG8.out.frozen_far ⟨Q, 1, none⟩ hQ OW.out.2.2).trans z1; clear hown hgrow hat hlt8))
            all_goals
              obtain ⟨WW, eW⟩ : ∃ WW, WW = w8.setCell ⟨Q, 1, none⟩ (.slice (some ⟨gg, 0, none⟩) (nn + 1) gc) := ⟨_, rfl⟩
              rw [← eW]
              have GW : Hid (PS w P Q V WW l fp { l with ws := l.ws ++ [k2] } (.slice (some ⟨gg, 0, none⟩) (nn + 1) gc) 0 k1 k2 ∧ WW.rowIs w4.heap.size 37 2 (sp ((nn : Int), k2))) := by
                obtain ⟨r1, r2, r3, r4⟩ := G7.out.1.ra.added G7.out.1.bel.size (by rw [EV.out.1]; exact HG8.out) HO8.out EV.out.2 (by rw [EV.out.1]; exact AT.out) (W2 := WW) (by rw [eW]) (by rw [eW]; rfl) (by rw [eW]; rfl) (by rw [eW]; rfl)
                refine ⟨G7.out.1.ref r1 r2 r3 r4, World.rowIs.of_block G7.out.2 (r3.2 _ (World.rowIs.lt G7.out.2) (fun q => ?_))⟩
                have := (G2.out.ra.fp _ q).2
                omega
              clear c1 z1 l8 m8
              go_wp2
              go_meet
              refine ⟨by rw [SC.out.1, EC.out], .slice (some ⟨gg, 0, none⟩) (nn + 1) gc, ?_, ?_⟩
              · rw [ES.out]; exact GW.out.1
              · rw [SC.out.2.1, SC.out.2.2, EP.out]; exact GW.out.2
      case rest =>
        obtain ⟨rfl, hx⟩ := hcut
        obtain ⟨WW, eW⟩ : ∃ WW, WW = wc := ⟨_, rfl⟩
        subst eW
        obtain ⟨vr, hp, hr⟩ := hx.out
        have GW : Hid (PS w P Q V WW l fp (say l k2) vr 0 k1 k2 ∧ WW.rowIs w4.heap.size 37 2 (sp (s0, s1))) := ⟨hp, hr⟩
        have y2' := hp.tr.2.2
        have hV' := hp.vl
        clear hx hp hr y2 hV
        go_wp2_with fail
        refine (sayL w.heap.size P l fp k2 WW GW.out.1.ag RI.out.1 GW.out.1.bel.size).mono ?_
        rintro e w7 ⟨f7, rfl, hA7, hb7, hk7, hn7⟩
        rw [← SC.out.1, ← SC.out.2.1, ← SC.out.2.2]
        have hnf : w4.heap.size ∉ fp := fun q => by have := (G2.out.ag.fp _ q).2; omega
        have G7 : Hid (PS w P Q V w7 (say l k2) f7 (say l k2) vr 0 k1 k2 ∧ w7.rowIs w4.heap.size 37 2 (sp (s0, s1))) := ⟨GW.out.1.prog hA7 hb7 hk7 hn7, World.rowIs.of_block GW.out.2 (hk7.2 _ (World.rowIs.lt GW.out.2) hnf)⟩
        clear hA7 hb7 hk7 hn7 hnf y2' hV'
        obtain ⟨W8, eW8⟩ : ∃ W8, W8 = w7.alloc (.cells #[.int .i64 s0, .int .i64 s1] 37) := ⟨_, rfl⟩
        have G8 : Hid (PS w P Q V W8 (say l k2) f7 (say l k2) vr 0 k1 k2 ∧ W8.rowIs w4.heap.size 37 2 (sp (s0, s1)) ∧ W8.rowIs w7.heap.size 37 2 (sp (s0, s1))) := by
          rw [eW8]
          exact ⟨G7.out.1.later ((Below.refl _ _).alloc (Nat.le_refl _) _), World.rowIs.of_block G7.out.2 (Below.heap_alloc _ _ _ (World.rowIs.lt G7.out.2)), boxP w7 s0 s1⟩
        go_wp2_with fail
        rw [← eW8]
        clear eW8
        refine (errF_same c W8 (HL.out.1.later G8.out.1.bel)).mono ?_
        rintro e w9 ⟨rfl, hb9⟩
        have G9 : Hid (PS w P Q V w9 (say l k2) f7 (say l k2) vr 0 k1 k2) := G8.out.1.later hb9
        have u1 := World.rowIs.of_block G8.out.2.1 (hb9.block _ (World.rowIs.lt G8.out.2.1))
        have u2 := World.rowIs.of_block G8.out.2.2 (hb9.block _ (World.rowIs.lt G8.out.2.2))
        have a0 : w9.cell? ⟨w4.heap.size, 0, none⟩ = some (.int .i64 s0) := World.rowIs.cell u1 (i := 0) (by omega)
        have a1 : w9.cell? ⟨w4.heap.size, 1, none⟩ = some (.int .i64 s1) := World.rowIs.cell u1 (i := 1) (by omega)
        have b0 : w9.cell? ⟨w7.heap.size, 0, none⟩ = some (.int .i64 s0) := World.rowIs.cell u2 (i := 0) (by omega)
        have b1 : w9.cell? ⟨w7.heap.size, 1, none⟩ = some (.int .i64 s1) := World.rowIs.cell u2 (i := 1) (by omega)
        have hgd := eqGp
        have heq := eqPl s0 s1
        clear hb9 u1 u2
        go_wp2
        refine hQ _ _ _ _ _ _ _ _ _ _ _ _ _ _ _ _ _ _ _ _ _ _ _ _ _ _ _ _ _ _ _ _ _ _ _ _ _ _ _ _ _ _ _ _ _ _ _ _ _ _ _ _ _ _ _ _ _ _ _ _ _ _ _ _ _ _ _ _ _ _ _ _ _ _ _ _ _ _ _ _ _ _ _ _ _ _ _ _ _ _ _ _ _ _ _ _ _ _ _ _ _ _ _ _ _ _ _ _ _ _ _ _ _ _ _ _ _ _ rfl rfl ?_
        exact ⟨say l k2, f7, vr, G9.out, RI.out.1.say k2, by rw [say_n]; exact RI.out.2⟩
  · have hq0 : (k0 == 0) = false := by simp [q0]
    obtain ⟨qv, cv, ev⟩ := own_form G2.out.ra.own
    obtain ⟨nn, en⟩ : ∃ nn, nn = l.ws.length := ⟨_, rfl⟩
    have hnn : nn ≤ 30 := by rw [en]; exact RI.out.1.len
    rw [← en] at ev
    have EV : Hid (v = .slice qv nn cv ∧ nn = l.ws.length) := ⟨ev, en⟩
    have c1 : w4.cell? ⟨Q, 1, none⟩ = some (.slice qv nn cv) := by rw [← ev]; exact G2.out.ra.cv.1
    have hQ := G2.out.ra.lt
    clear ev en
    obtain ⟨c, ec⟩ : ∃ c, c = tkC l k1 k2 := ⟨_, rfl⟩
    have SC : Hid (c = tkC l k1 k2) := ec
    clear ec
    go_upto_if 148 with fail
    go_cut [5, 13, 18, 19] from 96 to 184 (fun x5 x13 x18 x19 wz => x5 = .int .i64 c ∧ x13 = .bool inb ∧ Hid (∃ vr, PS w P Q V wz l fp (tk l k1 k2) vr k0 k1 k2 ∧ (∀ X : World, RL X w.heap.size Q (tk l k1 k2) vr → Sl X x18 (tkO l k1 k2))))
    case first =>
      have BAD : Hid (∀ c', tkC l k1 k2 = c' → c' ≠ 0 → c = c' ∧ tk l k1 k2 = l ∧ tkO l k1 k2 = []) := by
        intro c' e hne
        exact ⟨SC.out.trans e, if_neg (by rw [e]; exact hne), if_neg (by rw [e]; exact hne)⟩
      have hin2 : inb = true ∨ inb = false := by cases inb <;> simp
      rcases hin2 with rfl | rfl
      · obtain ⟨h1, h3⟩ : 0 ≤ k1 ∧ k1 < (n : Int) := of_decide_eq_true HIN.out.symm
        obtain ⟨m, rfl⟩ : ∃ m : Nat, k1 = (m : Int) := ⟨k1.toNat, by omega⟩
        have hm5 : m < 5 := by omega
        have hm0 : (0 : Int) ≤ (m : Int) := by omega
        have hm5' : (m : Int) < 5 := by omega
        have HM : Hid (m < l.n ∧ inC l (m : Int) = 0) := ⟨by rw [RI.out.2]; omega, if_neg (by rw [RI.out.2]; omega)⟩
        by_cases b1 : k2 < 0
        · have q := BAD.out 5 (by unfold tkC; rw [HM.out.2, if_neg (by decide), if_pos (.inl b1)]) (by decide)
          have EQ : Hid _ := q
          have hd : decide (k2 < 0) = true := decide_eq_true b1
          clear q
          go_wp2_with fail
          go_quiet (fail)
          go_wp2
          go_meet
          refine ⟨by rw [EQ.out.1], rfl, v, ?_, fun X _ => ?_⟩
          · rw [EQ.out.2.1]; exact G2.out.later (drewsG (Below.refl _ _) _)
          · rw [EQ.out.2.2]; exact Sl.nil X
        · have hd : decide (k2 < 0) = false := decide_eq_false b1
          by_cases b2 : (nn : Int) ≤ k2
          · have q := BAD.out 5 (by unfold tkC; rw [HM.out.2, if_neg (by decide), if_pos (.inr (by rw [← EV.out.2]; exact b2))]) (by decide)
            have EQ : Hid _ := q
            clear q
            go_wp2_with fail
            go_quiet (fail)
            go_wp2
            go_meet
            refine ⟨by rw [EQ.out.1], rfl, v, ?_, fun X _ => ?_⟩
            · rw [EQ.out.2.1]; exact G2.out.later (drewsG (Below.refl _ _) _)
            · rw [EQ.out.2.2]; exact Sl.nil X
          · obtain ⟨kk, rfl⟩ : ∃ kk : Nat, k2 = (kk : Int) := ⟨k2.toNat, by omega⟩
            have EC : Hid (tkC l (m : Int) (kk : Int) = 0) := by show tkC l (m : Int) (kk : Int) = 0; unfold tkC; rw [HM.out.2, if_neg (by decide), if_neg (by rw [← EV.out.2]; omega)]
            have ES : Hid (tk l (m : Int) (kk : Int) = { l with come := up2 l.come m kk true }) := by show tk l (m : Int) (kk : Int) = _; unfold tk; rw [if_pos EC.out]; rfl
            have hk0 : (0 : Int) ≤ (kk : Int) := by omega
            have hk31 : (kk : Int) < 31 := by omega
            have hkn : (kk : Int) < (nn : Int) := by omega
            go_wp2_with fail
            go_quiet (fail)
            obtain ⟨W5, eW5⟩ : ∃ W5, W5 = w4.drewN nq := ⟨_, rfl⟩
            rw [← eW5]
            have G5 : Hid (PS w P Q V W5 l fp l v k0 (m : Int) (kk : Int)) := by rw [eW5]; exact G2.out.later (drewsG (Below.refl _ _) _)
            have x1 := G5.out.tr.2.1
            have x2 := G5.out.tr.2.2
            have hV5 := G5.out.vl
            have hQ5 := G5.out.ra.lt
            obtain ⟨cc, zc⟩ := G5.out.ra.cc (i := m) (j := kk) hm5 (by omega)
            clear eW5 y0 y1 y2 c1
            go_wp2_with fail
            refine (refHeard m W5 G5.out.ra RI.out.1 HM.out.1).mono ?_
            rintro e W5 ⟨rfl, rfl⟩
            obtain ⟨fr, efr⟩ : ∃ fr, fr = hn l m := ⟨_, rfl⟩
            rw [← efr]
            have EFR : Hid (fr = hn l m) := efr
            clear efr
            go_wp2_with fail
            go_region
            obtain ⟨W6, eW6⟩ : ∃ W6, W6 = (W5.setCell ⟨Q, 2 + m * 31 + kk, none⟩ (.bool true)).drew := ⟨_, rfl⟩
            rw [← eW6]
            have G6 : Hid (PS w P Q V W6 l fp { l with come := up2 l.come m kk true } v k0 (m : Int) (kk : Int)) := by
              have e6 : W6.heap = (W5.setCell ⟨Q, 2 + m * 31 + kk, none⟩ (.bool true)).heap := by rw [eW6]; rfl
              refine G5.out.ref ((G5.out.ra.setC hm5 (by omega)).heap e6) ?_ ⟨by rw [e6]; simp [World.setCell], fun b hb hnb => by rw [e6]; exact Deep.blk_setCell_other _ _ _ _ (fun e => hnb (mem_rfp.2 (.inl e)))⟩ (NewL.refl _ _)
              rw [eW6]
              exact ((Below.refl _ _).setCell (p := ⟨Q, 2 + m * 31 + kk, none⟩) G5.out.ra.low _).drew
            obtain ⟨te, ete⟩ : ∃ te, te = hn { l with come := up2 l.come m kk true } m := ⟨_, rfl⟩
            have hte : te ≤ nn := by rw [ete, EV.out.2]; exact cons_le _ _
            have hft : fr ≤ te := by
              rw [EFR.out, ete]
              refine cons_mono fun i hi => ?_
              show (if m = m ∧ i = kk then true else l.come m i) = true
              rw [hi]
              simp
            obtain ⟨hvw, hc1, hc2⟩ := G5.out.ra.words EV.out.1 EV.out.2
            obtain ⟨vb, vo, rfl, -, -⟩ := hvw.2 (by omega)
            have ETE : Hid (te = hn { l with come := up2 l.come m kk true } m) := ete
            have EO : Hid (tkO l (m : Int) (kk : Int) = (l.ws.take te).drop fr) := by
              show tkO l (m : Int) (kk : Int) = _
              unfold tkO
              rw [if_pos EC.out, ES.out, Int.toNat_natCast, ete, EFR.out]
            have HIV : Hid (Inv { l with come := up2 l.come m kk true } ∧ m < ({ l with come := up2 l.come m kk true } : L).n) := ⟨by rw [← ES.out]; exact RI.out.1.tk _ _, HM.out.1⟩
            have HS : Hid (∀ X : World, X.heap = W6.heap → X.cell? ⟨Q, 1, none⟩ = some (.slice (some ⟨vb, vo, none⟩) nn cv) ∧ X.cell? ⟨V, 1, none⟩ = some (.int .i64 (m : Int))) := fun X h => ⟨by rw [c_heapL h, ← EV.out.1]; exact G6.out.ra.cv.1, (c_heapL h _).trans G6.out.tr.2.1⟩
            have hmx : cv ≤ 9223372036854775807 := by unfold maxLen at hc2; omega
            clear ete eW6 cc zc x1 x2 hvw
            have hte0 : (0 : Int) ≤ (te : Int) := by omega
            have htc : (te : Int) ≤ (cv : Int) := by omega
            have hteN : te ≤ cv := by omega
            have hfr0 : (0 : Int) ≤ (fr : Int) := by omega
            have hfte : (fr : Int) ≤ (te : Int) := by omega
            by_cases hcf : cv = fr
            · have SLW : Hid (∀ X : World, RL X w.heap.size Q { l with come := up2 l.come m kk true } v → Sl X (.slice (some ⟨vb, vo, none⟩) 0 0) (tkO l (m : Int) (kk : Int))) := fun X _ => sl_none X _ _ (by rw [EO.out]; apply List.eq_nil_of_length_eq_zero; rw [List.length_drop, List.length_take]; omega)
              have hz1 : te - fr = 0 := by omega
              have hz2 : cv - fr = 0 := by omega
              have hteF : te ≤ fr := by omega
              have hteFi : (te : Int) ≤ (fr : Int) := by omega
              go_wp2_with fail
              go_region_held3 (fun w' => w'.cell? ⟨Q, 1, none⟩ = some (.slice (some ⟨vb, vo, none⟩) nn cv) ∧ w'.cell? ⟨V, 1, none⟩ = some (.int .i64 (m : Int))) (exact HS.out _ rfl) (first
                | (go_at_call 8; refine (refHeard m _ (by exact G6.out.ra.heap rfl) HIV.out.1 HIV.out.2).mono ?_; rintro e9 w9 ⟨rfl, rfl⟩; rw [← ETE.out]))
              go_wp2
              go_meet
              refine ⟨by rw [SC.out, EC.out], rfl, v, ?_, fun X h => ?_⟩
              · rw [ES.out]; exact G6.out.later ⟨rfl, rfl, rfl, Nat.le_refl _, fun _ _ => rfl⟩
              · exact SLW.out X (by rw [ES.out] at h; exact h)
            · skip
              have SLW : Hid (∀ X : World, RL X w.heap.size Q { l with come := up2 l.come m kk true } v → Sl X (.slice (some ⟨vb, vo + fr, none⟩) (te - fr) (cv - fr)) (tkO l (m : Int) (kk : Int))) := fun X h => by
                obtain ⟨h1, h2, h3⟩ := h.words EV.out.1 EV.out.2
                rw [EO.out]
                exact sl_cut h1 hft hte h2 h3
              go_wp2_with fail
              go_region_held3 (fun w' => w'.cell? ⟨Q, 1, none⟩ = some (.slice (some ⟨vb, vo, none⟩) nn cv) ∧ w'.cell? ⟨V, 1, none⟩ = some (.int .i64 (m : Int))) (exact HS.out _ rfl) (first
                | (go_at_call 8; refine (refHeard m _ (by exact G6.out.ra.heap rfl) HIV.out.1 HIV.out.2).mono ?_; rintro e9 w9 ⟨rfl, rfl⟩; rw [← ETE.out]))
              go_wp2
              go_meet
              refine ⟨by rw [SC.out, EC.out], rfl, v, ?_, fun X h => ?_⟩
              · rw [ES.out]; exact G6.out.later ⟨rfl, rfl, rfl, Nat.le_refl _, fun _ _ => rfl⟩
              · exact SLW.out X (by rw [ES.out] at h; exact h)
      · have h : ¬ (0 ≤ k1 ∧ k1 < (n : Int)) := of_decide_eq_false HIN.out.symm
        have e : inC l k1 = 1 := if_pos (by rw [RI.out.2]; omega)
        have q := BAD.out 1 (by unfold tkC; rw [e, if_pos (by decide)]) (by decide)
        have EQ : Hid _ := q
        clear q h e
        go_wp2
        go_meet
        refine ⟨by rw [EQ.out.1], rfl, v, ?_, fun X _ => ?_⟩
        · rw [EQ.out.2.1]; exact G2.out
        · rw [EQ.out.2.2]; exact Sl.nil X
    case rest =>
      obtain ⟨rfl, rfl, hx⟩ := hcut
      obtain ⟨WW, eW⟩ : ∃ WW, WW = wc := ⟨_, rfl⟩
      subst eW
      obtain ⟨vr, hp, hr⟩ := hx.out
      have GW : Hid (PS w P Q V WW l fp (tk l k1 k2) vr k0 k1 k2 ∧ ∀ X : World, RL X w.heap.size Q (tk l k1 k2) vr → Sl X u18 (tkO l k1 k2)) := ⟨hp, hr⟩
      have y1' := hp.tr.2.1
      have y2' := hp.tr.2.2
      have hV' := hp.vl
      clear hx hp hr y0 y1 y2 hV c1 hQ
      go_wp2_with fail
      refine (tkL w.heap.size P l fp k1 k2 WW GW.out.1.ag RI.out.1 GW.out.1.bel.size GW.out.1.wf).mono ?_
      rintro e w7 ⟨v7, f7, rfl, hs7, hA7, hb7, hk7, hn7⟩
      rw [← SC.out]
      have G7 : Hid (PS w P Q V w7 (tk l k1 k2) f7 (tk l k1 k2) vr k0 k1 k2 ∧ Sl w7 v7 (tkO l k1 k2)) := ⟨GW.out.1.prog hA7 hb7 hk7 hn7, hs7⟩
      clear hA7 hb7 hk7 hn7 hs7
      go_wp2_with fail
      refine (errF_same c w7 (HL.out.1.later G7.out.1.bel)).mono ?_
      rintro e w8 ⟨rfl, hb8⟩
      have G8 : Hid (PS w P Q V w8 (tk l k1 k2) f7 (tk l k1 k2) vr k0 k1 k2 ∧ Sl w8 v7 (tkO l k1 k2)) := ⟨G7.out.1.later hb8, G7.out.2.later hb8⟩
      clear hb8
      go_wp2_with fail
      refine (same_any G8.out.2 (GW.out.2 w8 G8.out.1.ra)).mono ?_
      rintro e w9 ⟨rfl, hb9⟩
      have e9 : decide (tkO l k1 k2 = tkO l k1 k2) = true := decide_eq_true rfl
      rw [e9]
      have G9 : Hid (PS w P Q V w9 (tk l k1 k2) f7 (tk l k1 k2) vr k0 k1 k2) := G8.out.1.later hb9
      clear hb9 e9
      go_wp2
      refine hQ _ _ _ _ _ _ _ _ _ _ _ _ _ _ _ _ _ _ _ _ _ _ _ _ _ _ _ _ _ _ _ _ _ _ _ _ _ _ _ _ _ _ _ _ _ _ _ _ _ _ _ _ _ _ _ _ _ _ _ _ _ _ _ _ _ _ _ _ _ _ _ _ _ _ _ _ _ _ _ _ _ _ _ _ _ _ _ _ _ _ _ _ _ _ _ _ _ _ _ _ _ _ _ _ _ _ _ _ _ _ _ _ _ _ _ _ _ _ rfl rfl ?_
      exact ⟨tk l k1 k2, f7, vr, G9.out, RI.out.1.tk k1 k2, by rw [tk_n]; exact RI.out.2⟩
end Go.Proofs.YtcccheeeagphpagDoor.Ldr
