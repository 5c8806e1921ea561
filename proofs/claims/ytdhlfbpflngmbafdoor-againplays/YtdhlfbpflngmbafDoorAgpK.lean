/-
  AgainPlays' loop: which numbers lack.
-/
import Derived.Test.YtdhlfbpflngmbafDoorAgpS
namespace Go.Proofs.YtdhlfbpflngmbafDoor.Aga
open Go.RowKit
open Go.Proofs.YtdhlfbpflngmbafDoor.As (Laid)
open Go.Proofs.YtdhlfbpflngmbafDoor.Fif (Cm Inv RS rsv tk tkC tk_no tk_ok run own_lt own_block own_form own_mono own_vw Kp ret_bool)
open Go.Proofs.YtdhlfbpflngmbafDoor.Sep (KpL NewL setF set_same set_other)
open Go.Proofs.YtdhlfbpflngmbafDoor.Vec (Vw Rw ints_any)
set_option linter.unusedVariables false
def anyN (ws : List Cm) (n : Int) : Nat → Bool
  | 0 => false
  | t + 1 => anyN ws n t || decide ((Fif.cm ws t).2.1 = n)
theorem anyN_mem {ws : List Cm} {n : Int} : ∀ {t : Nat}, t ≤ ws.length → (anyN ws n t = true ↔ ∃ k, k < t ∧ (Fif.cm ws k).2.1 = n) := by
  intro t ht
  induction t with
  | zero => simp [anyN]
  | succ t ih =>
    have e : anyN ws n (t + 1) = (anyN ws n t || decide ((Fif.cm ws t).2.1 = n)) := rfl
    rw [e, Bool.or_eq_true, ih (by omega), decide_eq_true_eq]
    constructor
    · rintro (⟨k, hk, q⟩ | q)
      · exact ⟨k, by omega, q⟩
      · exact ⟨t, by omega, q⟩
    · rintro ⟨k, hk, q⟩
      by_cases e : k = t
      · exact .inr (by rw [← e]; exact q)
      · exact .inl ⟨k, by omega, q⟩
theorem cm_get {ws : List Cm} {k : Nat} (h : k < ws.length) : Fif.cm ws k = ws[k] := by simp [Fif.cm, List.getD, h]
theorem anyN_fnd {h : Int} {ws : List Cm} (g : HInv h ws) (n : Int) : anyN ws n ws.length = (Fif.fnd ws 0 n).isSome := by
  rw [Bool.eq_iff_iff, anyN_mem (Nat.le_refl _)]
  constructor
  · rintro ⟨k, hk, q⟩
    rw [cm_get hk] at q
    have hm := List.getElem_mem hk
    have h0 := (g.own _ hm).1
    have := (Fif.fnd_some g.uq (who := ws[k].1) (n := ws[k].2.1) (x := ws[k].2.2)).2 hm
    rw [h0, q] at this
    rw [this]
    rfl
  · intro q
    obtain ⟨x, hx⟩ := Option.isSome_iff_exists.1 q
    have hm := (Fif.fnd_some g.uq).1 hx
    obtain ⟨k, hk, e⟩ := List.getElem_of_mem hm
    exact ⟨k, hk, by rw [cm_get hk, e]⟩
theorem lk_stop {h : Int} {ws : List Cm} {k1 : Int} {k : Nat} (hk : k ≤ (k1 - h).toNat) (h40 : (lkN h ws k).length ≤ 40) (hz : lkC k1 ≠ 0 → k = 0) (he : k1 < h + 1 + (k : Int) ∨ (lkN h ws k).length = 40 ∨ lkC k1 ≠ 0) : lkL h ws k1 = lkN h ws k := by
  by_cases hc : lkC k1 = 0
  · refine lk_end hc hk h40 ?_
    rcases he with a | a | a
    · exact .inl (by omega)
    · exact .inr a
    · exact absurd hc a
  · have := hz hc
    subst this
    unfold lkL
    rw [if_neg hc]
    rfl
theorem lkC_two (k1 : Int) : lkC k1 = 0 ∨ lkC k1 = 1 := by
  unfold lkC
  split
  · exact .inr rfl
  · exact .inl rfl
theorem lkC_zero {k1 : Int} (h : lkC k1 = 0) : 0 ≤ k1 ∧ k1 ≤ 1000000 := by
  unfold lkC at h
  split at h <;> omega
theorem lk_app {w3 wr w5 : World} {h : Int} {ws : List Cm} {k m cap gg gc : Nat} {q : Option Addr} {n : Int} (o : Ow wr w3.heap.size (.slice q m cap) (lkN h ws k)) (em : m = (lkN h ws k).length) (ez : lkN h ws (k + 1) = lkN h ws k ++ [n]) (hb : Below w3.heap.size w3 wr) (hg : (wr.alloc (.cells #[.int .i64 n] 3)).grownBy w5 (Value.slice q m cap).ownBlock)
    (ho : w5.ownsRow w3.heap.size 3 1 (.slice (some ⟨gg, 0, none⟩) (m + 1) gc) (m + 1) ((lkN h ws k).map (Value.int .i64) ++ [.int .i64 n])) : Ow w5 w3.heap.size (.slice (some ⟨gg, 0, none⟩) (m + 1) gc) (lkN h ws (k + 1)) ∧ Below w3.heap.size w3 w5 := by
  refine ⟨?_, (hb.alloc hb.size _).grown hg (by have := hb.size; simp; omega) fun b hb' => (own_lt o b hb').1⟩
  have e : (lkN h ws (k + 1)).length = m + 1 := by rw [ez, List.length_append, em]; rfl
  show w5.ownsRow w3.heap.size 3 1 _ (lkN h ws (k + 1)).length ((lkN h ws (k + 1)).map (Value.int .i64))
  rw [e, ez, List.map_append]
  exact ho
set_option maxRecDepth 100000 in
set_option maxHeartbeats 4000000 in
theorem ak_any (base Q V : Nat) (h : Int) (ws : List Cm) (H : List Int) (vW : Value) (k0 k1 k2 e : Int) (w3 : World) (hV : V3 w3 V k0 k1 k2) (hr : RS w3 base Q H ws vW) (hi : HInv h ws) (hc : e = lkC k1) (Q5 : Exit → Act → World → Prop)
    (c0 c1 c2 c3 c4 c5 c7 c9 c11 c12 c13 c14 c15 c16 c17 c18 c19 c20 c21 c24 c25 c26 c27 c28 u29 u30 u31 u32 u33 u34 u35 u36 u37 u38 u39 u40 u41 u42 u43 u44 u45 u46 u47 u48 u49 u50 u51 u52 u53 u54 u55 u56 u57 u58 u59 u60 u61 u62 u63 u64 u65 u66 u67 u68 u69 u70 u71 u72 u73 u74 u75 u76 u77 u78 u79 u80 u81 u82 u83 u84 u85 u86 u87 u88 u89 u90 u91 u92 u93 u94 u95 u96 u97 u98 u99 u100 u101 u102 u103 u104 u105 u106 u107 u108 u109 u110 u111 u112 u113 u114 u115 u116 u117 u118 u119 u120 u121 u122 u123 u124 u125 u126 u127 u128 u129 u130 u131 u132 u133 u134 u135 u136 u137 u138 u139 u140 u141 u142 u143 u144 u145 u146 u147 u148 u149 u150 u151 u152 u153 u154 u155 u156 u157 u158 u159 u160 u161 u162 u163 u164 u165 u166 u167 u168 u169 u170 u171 u172 u173 u174 u175 u176 u177 u178 u179 u180 u181 u182 u183 u184 u185 u186 u187 u188 u189 u190 u191 u192 u193 u194 u195 u196 u197 u198 u199 u200 u201 u202 u203 u204 u205 u206 u207 u208 u209 u210 u211 u212 u213 u214 u215 u216 u217 u218 u219 u220 u221 u222 u223 u224 u225 u226 u227 u228 u229 u230 u231 u232 u233 u234 u235 u236 u237 u238 u239 u240 u241 u242 u243 u244 u245 u246 u247 u248 u249 u250 u251 u252 u253 u254 u255 u256 u257 u258 u259 u260 u261 u262 u263 u264 u265 u266 u267 u268 u269 u270 u271 u272 u273 u274 u275 u276 u277 u278 u279 u280 u281 u282 u283 u284 u285 u286 u287 u288 u289 u290 u291 u292 u293 u294 u295 u296 u297 u298 u299 u300 u301 u302 u303 u304 u305 u306 : Value)
    (hQ : ∀ (s22 s23 s24 s25 s35 s36 s37 s38 s39 s40 s41 s42 s43 s44 s45 s46 s47 s48 s49 s50 s51 s52 s53 s54 s55 s56 s57 s58 s59 s60 s61 s62 s63 s64 s65 s66 s67 s68 s69 s70 s71 s72 s73 s74 s75 s76 s77 s78 s79 s80 s81 s82 s83 s84 s85 s86 s87 s88 s89 s90 s91 s92 s93 s94 s95 s96 s97 s98 s99 s100 s101 s102 s103 s104 s105 s106 s107 s108 s109 s110 s111 s112 s113 s114 s115 s116 s117 s118 s119 s120 s121 s122 s123 s124 s125 s126 s127 s128 s129 s130 s131 s132 s133 s134 s135 s136 s137 s138 s139 s140 s141 s142 s143 s144 s145 s146 s147 s148 s149 s150 s151 s152 s153 s154 s155 s156 s157 s158 s159 s160 s161 s162 s163 s164 s165 s166 s167 s168 s169 s170 s171 s172 s173 s174 s175 s176 s177 s178 s179 s180 s181 s182 s183 s184 s185 s186 s187 s188 s189 s190 s191 s192 s193 s194 s195 s196 s197 s198 s199 s200 s201 s202 s203 s204 s205 s206 s207 s208 s209 s210 s211 s212 s213 s214 s215 s216 s217 s218 s219 s220 s221 s222 s223 s224 s225 s226 s227 s228 s229 s230 s231 s232 s233 s234 s235 s236 s237 s238 s239 s240 s241 s242 s243 s244 s245 s246 s247 s248 s249 s250 s251 s252 s253 s254 s255 s256 s257 s258 s259 s260 s261 s262 s263 s264 s265 s266 s267 s268 s269 s270 s271 s272 s273 s274 s275 s276 s277 s278 s279 s280 s281 s282 s283 s284 s285 s286 s287 s288 s289 s290 s291 s292 s293 s294 s295 s296 s297 s298 s299 s300 s301 s302 s303 s304 s305 s306 : Value) (wz : World), Hid (Ow wz w3.heap.size s22 (lkL h ws k1) ∧ Below w3.heap.size w3 wz) → Q5 .normal ⟨List.toArray (c0 :: c1 :: c2 :: c3 :: c4 :: c5 :: (.pointer (some ⟨Q, 0, none⟩)) :: c7 :: (.pointer (some ⟨V, 0, none⟩)) :: c9 :: (.int .i64 e) :: c11 :: c12 :: c13 :: c14 :: c15 :: c16 :: c17 :: c18 :: c19 :: c20 :: c21 :: s22 :: s23 :: s24 :: s25 :: c26 :: c27 :: c28 :: u29 :: u30 :: u31 :: u32 :: u33 :: u34 :: s35 :: s36 :: s37 :: s38 :: s39 :: s40 :: s41 :: s42 :: s43 :: s44 :: s45 :: s46 :: s47 :: s48 :: s49 :: s50 :: s51 :: s52 :: s53 :: s54 :: s55 :: s56 :: s57 :: s58 :: s59 :: s60 :: s61 :: s62 :: s63 :: s64 :: s65 :: s66 :: s67 :: s68 :: s69 :: s70 :: s71 :: s72 :: s73 :: s74 :: s75 :: s76 :: s77 :: s78 :: s79 :: s80 :: s81 :: s82 :: s83 :: s84 :: s85 :: s86 :: s87 :: s88 :: s89 :: s90 :: s91 :: s92 :: s93 :: s94 :: s95 :: s96 :: s97 :: s98 :: s99 :: s100 :: s101 :: s102 :: s103 :: s104 :: s105 :: s106 :: s107 :: s108 :: s109 :: s110 :: s111 :: s112 :: s113 :: s114 :: s115 :: s116 :: s117 :: s118 :: s119 :: s120 :: s121 :: s122 :: s123 :: s124 :: s125 :: s126 :: s127 :: s128 :: s129 :: s130 :: s131 :: s132 :: s133 :: s134 :: s135 :: s136 :: s137 :: s138 :: s139 :: s140 :: s141 :: s142 :: s143 :: s144 :: s145 :: s146 :: s147 :: s148 :: s149 :: s150 :: s151 :: s152 :: s153 :: s154 :: s155 :: s156 :: s157 :: s158 :: s159 :: s160 :: s161 :: s162 :: s163 :: s164 :: s165 :: s166 :: s167 :: s168 :: s169 :: s170 :: s171 :: s172 :: s173 :: s174 :: s175 :: s176 :: s177 :: s178 :: s179 :: s180 :: s181 :: s182 :: s183 :: s184 :: s185 :: s186 :: s187 :: s188 :: s189 :: s190 :: s191 :: s192 :: s193 :: s194 :: s195 :: s196 :: s197 :: s198 :: s199 :: s200 :: s201 :: s202 :: s203 :: s204 :: s205 :: s206 :: s207 :: s208 :: s209 :: s210 :: s211 :: s212 :: s213 :: s214 :: s215 :: s216 :: s217 :: s218 :: s219 :: s220 :: s221 :: s222 :: s223 :: s224 :: s225 :: s226 :: s227 :: s228 :: s229 :: s230 :: s231 :: s232 :: s233 :: s234 :: s235 :: s236 :: s237 :: s238 :: s239 :: s240 :: s241 :: s242 :: s243 :: s244 :: s245 :: s246 :: s247 :: s248 :: s249 :: s250 :: s251 :: s252 :: s253 :: s254 :: s255 :: s256 :: s257 :: s258 :: s259 :: s260 :: s261 :: s262 :: s263 :: s264 :: s265 :: s266 :: s267 :: s268 :: s269 :: s270 :: s271 :: s272 :: s273 :: s274 :: s275 :: s276 :: s277 :: s278 :: s279 :: s280 :: s281 :: s282 :: s283 :: s284 :: s285 :: s286 :: s287 :: s288 :: s289 :: s290 :: s291 :: s292 :: s293 :: s294 :: s295 :: s296 :: s297 :: s298 :: s299 :: s300 :: s301 :: s302 :: s303 :: s304 :: s305 :: s306 :: []), []⟩ wz) :
    Code.wp Tryd.prog ((Tryd.f3.body.bind (blockAt 5)).getD .skip) Q5 ⟨List.toArray (c0 :: c1 :: c2 :: c3 :: c4 :: c5 :: (.pointer (some ⟨Q, 0, none⟩)) :: c7 :: (.pointer (some ⟨V, 0, none⟩)) :: c9 :: (.int .i64 e) :: c11 :: c12 :: c13 :: c14 :: c15 :: c16 :: c17 :: c18 :: c19 :: c20 :: c21 :: (.slice none 0 0) :: (.int .i64 (h + 1)) :: c24 :: c25 :: c26 :: c27 :: c28 :: u29 :: u30 :: u31 :: u32 :: u33 :: u34 :: u35 :: u36 :: u37 :: u38 :: u39 :: u40 :: u41 :: u42 :: u43 :: u44 :: u45 :: u46 :: u47 :: u48 :: u49 :: u50 :: u51 :: u52 :: u53 :: u54 :: u55 :: u56 :: u57 :: u58 :: u59 :: u60 :: u61 :: u62 :: u63 :: u64 :: u65 :: u66 :: u67 :: u68 :: u69 :: u70 :: u71 :: u72 :: u73 :: u74 :: u75 :: u76 :: u77 :: u78 :: u79 :: u80 :: u81 :: u82 :: u83 :: u84 :: u85 :: u86 :: u87 :: u88 :: u89 :: u90 :: u91 :: u92 :: u93 :: u94 :: u95 :: u96 :: u97 :: u98 :: u99 :: u100 :: u101 :: u102 :: u103 :: u104 :: u105 :: u106 :: u107 :: u108 :: u109 :: u110 :: u111 :: u112 :: u113 :: u114 :: u115 :: u116 :: u117 :: u118 :: u119 :: u120 :: u121 :: u122 :: u123 :: u124 :: u125 :: u126 :: u127 :: u128 :: u129 :: u130 :: u131 :: u132 :: u133 :: u134 :: u135 :: u136 :: u137 :: u138 :: u139 :: u140 :: u141 :: u142 :: u143 :: u144 :: u145 :: u146 :: u147 :: u148 :: u149 :: u150 :: u151 :: u152 :: u153 :: u154 :: u155 :: u156 :: u157 :: u158 :: u159 :: u160 :: u161 :: u162 :: u163 :: u164 :: u165 :: u166 :: u167 :: u168 :: u169 :: u170 :: u171 :: u172 :: u173 :: u174 :: u175 :: u176 :: u177 :: u178 :: u179 :: u180 :: u181 :: u182 :: u183 :: u184 :: u185 :: u186 :: u187 :: u188 :: u189 :: u190 :: u191 :: u192 :: u193 :: u194 :: u195 :: u196 :: u197 :: u198 :: u199 :: u200 :: u201 :: u202 :: u203 :: u204 :: u205 :: u206 :: u207 :: u208 :: u209 :: u210 :: u211 :: u212 :: u213 :: u214 :: u215 :: u216 :: u217 :: u218 :: u219 :: u220 :: u221 :: u222 :: u223 :: u224 :: u225 :: u226 :: u227 :: u228 :: u229 :: u230 :: u231 :: u232 :: u233 :: u234 :: u235 :: u236 :: u237 :: u238 :: u239 :: u240 :: u241 :: u242 :: u243 :: u244 :: u245 :: u246 :: u247 :: u248 :: u249 :: u250 :: u251 :: u252 :: u253 :: u254 :: u255 :: u256 :: u257 :: u258 :: u259 :: u260 :: u261 :: u262 :: u263 :: u264 :: u265 :: u266 :: u267 :: u268 :: u269 :: u270 :: u271 :: u272 :: u273 :: u274 :: u275 :: u276 :: u277 :: u278 :: u279 :: u280 :: u281 :: u282 :: u283 :: u284 :: u285 :: u286 :: u287 :: u288 :: u289 :: u290 :: u291 :: u292 :: u293 :: u294 :: u295 :: u296 :: u297 :: u298 :: u299 :: u300 :: u301 :: u302 :: u303 :: u304 :: u305 :: u306 :: []), []⟩ w3 := by
  have HV : Hid (V3 w3 V k0 k1 k2 ∧ RS w3 base Q H ws vW ∧ HInv h ws) := ⟨hV, hr, hi⟩
  obtain ⟨qw, cw, evw, -, -, hform⟩ := Fif.Co.form hr.2.1
  obtain ⟨nw, enw⟩ : ∃ nw, nw = ws.length := ⟨_, rfl⟩
  have hnw : nw ≤ 40 := by rw [enw]; exact hi.len
  have HW : Hid (vW = .slice qw nw cw ∧ nw = ws.length) := ⟨by rw [enw]; exact evw, enw⟩
  have hl0 := hi.low
  have hh6 := hi.high
  have hcz : e = 0 → 0 ≤ k1 ∧ k1 ≤ 1000000 := fun q => lkC_zero (by rw [← hc]; exact q)
  have HE : Hid (e = lkC k1) := hc
  obtain ⟨ii, hi', hz0, hz1, hz2⟩ := Fif.info_int
  have HJ : Hid (Tryd.prog.info? 3 = some ii ∧ ii.zero = some (.int .i64 0) ∧ ii.size = 1 ∧ ii.bytes = 8) := ⟨hi', hz0, hz1, hz2⟩
  have hQ3 := World.rowIs.lt hr.1
  have hform' := hform
  clear hV hr hi evw enw hc hi' hz0 hz1 hz2 hform
  conv => arg 2; whnf
  go_wp2_with fail
  go_loopw [22, 23] (fun v x wr => ∃ k : Nat, x = .int .i64 (h + 1 + (k : Int)) ∧ Hid (Ow wr w3.heap.size v (lkN h ws k) ∧ Below w3.heap.size w3 wr ∧ (lkN h ws k).length ≤ 40 ∧ k ≤ (k1 - h).toNat ∧ (lkC k1 ≠ 0 → k = 0))) (fun _ x _ => (k1 + 1 - intOf x).toNat)
  case atStart => exact ⟨0, by simp, Ow.nil _ _, Below.refl _ _, by simp [lkN], by omega, fun _ => rfl⟩
  case round =>
    obtain ⟨k, rfl, hR⟩ := hrel
    obtain ⟨_, y0, y1, y2, -⟩ := HV.out.1.later hR.out.2.1
    have rs : RS wr base Q H ws vW := RS.of_blocks HV.out.2.1 (hR.out.2.1.block _ hQ3) (fun b hb => hR.out.2.1.block b (own_lt HV.out.2.1.2.1 b hb).2)
    have x5 := (Fif.RS.wait rs).1
    rw [HW.out.1] at x5
    obtain ⟨q, cap, eq⟩ := own_form hR.out.1
    obtain ⟨m, em⟩ : ∃ m, m = (lkN h ws k).length := ⟨_, rfl⟩
    rw [← em] at eq
    subst eq
    have hm40 : m ≤ 40 := by rw [em]; exact hR.out.2.2.1
    have HM : Hid (m = (lkN h ws k).length) := em
    have HO : Hid (Ow wr w3.heap.size (.slice q m cap) (lkN h ws k)) := hR.out.1
    clear rs em
    by_cases hA : k1 < h + 1 + (k : Int)
    · have dA : decide (h + 1 + (k : Int) ≤ k1) = false := decide_eq_false (by omega)
      go_wp2_with fail
      have EL : lkL h ws k1 = lkN h ws k := lk_stop hR.out.2.2.2.1 hR.out.2.2.1 hR.out.2.2.2.2 (.inl hA)
      have PZ : Hid (Ow wr w3.heap.size (.slice q m cap) (lkL h ws k1) ∧ Below w3.heap.size w3 wr) := by rw [EL]; exact ⟨HO.out, hR.out.2.1⟩
      try (first | exact PZ | (apply hQ; exact PZ))
    · have dA : decide (h + 1 + (k : Int) ≤ k1) = true := decide_eq_true (by omega)
      by_cases hB : 40 ≤ m
      · have hmE : m = 40 := by omega
        subst hmE
        go_wp2_with fail
        have EL : lkL h ws k1 = lkN h ws k := lk_stop hR.out.2.2.2.1 hR.out.2.2.1 hR.out.2.2.2.2 (.inr (.inl HM.out.symm))
        have PZ : Hid (Ow wr w3.heap.size (.slice q 40 cap) (lkL h ws k1) ∧ Below w3.heap.size w3 wr) := by rw [EL]; exact ⟨HO.out, hR.out.2.1⟩
        try (first | exact PZ | (apply hQ; exact PZ))
      · have dB : decide ((m : Int) < 40) = true := decide_eq_true (by omega)
        by_cases hE : e = 0
        · have hk6 := hcz hE
          subst hE
          obtain ⟨n, en⟩ : ∃ n, n = h + 1 + (k : Int) := ⟨_, rfl⟩
          have HN : Hid (n = h + 1 + (k : Int)) := en
          have hn1 : 1 ≤ n := by omega
          have hn6 : n ≤ 1000000 := by omega
          rw [← en] at dA ⊢
          clear en hcz
          go_wp2_with fail
          go_loopw [24, 25] (fun b x wi => ∃ t : Nat, t ≤ nw ∧ x = .int .i64 (t : Int) ∧ b = .bool (anyN ws n t) ∧ wi = wr) (fun _ x _ => nw - (intOf x).toNat)
          case atStart => exact ⟨0, by omega, rfl, rfl, rfl⟩
          case round =>
            obtain ⟨t, ht, rfl, rfl, rfl⟩ := hrel
            by_cases htl : t < nw
            · have ht0 : (0 : Int) ≤ (t : Int) := by omega
              have htI : (t : Int) < (nw : Int) := by omega
              obtain ⟨gw, eqw, _, hgw, hcw⟩ := hform' (by have := HW.out.2; omega)
              subst eqw
              obtain ⟨z0, z1, z2⟩ := Fif.c3_of (w := wr) (fun j u hj => (hR.out.2.1.cell (p := ⟨gw, j, none⟩) hgw).trans (hcw j u hj)) (show t < ws.length by have := HW.out.2; omega)
              obtain ⟨c1, ec1⟩ : ∃ c1, c1 = (Fif.cm ws t).2.1 := ⟨_, rfl⟩
              rw [← ec1] at z1
              have HC1 : Hid (c1 = (Fif.cm ws t).2.1) := ec1
              clear ec1 hcw hgw
              cases hb : anyN ws n t
              · by_cases hcn : c1 = n
                · have dcn : (c1 == n) = true := by simp [hcn]
                  have EB : Hid (anyN ws n (t + 1) = true) := by show (anyN ws n t || decide ((Fif.cm ws t).2.1 = n)) = true; rw [hb, ← HC1.out]; simp [hcn]
                  go_wp2
                  go_roundw
                  case rel => exact ⟨t + 1, by omega, by go_num, by rw [EB.out], by first | rfl | trivial⟩
                  case measure => simp [intOf]; omega
                · have dcn : (c1 == n) = false := by simp [hcn]
                  have EB : Hid (anyN ws n (t + 1) = false) := by show (anyN ws n t || decide ((Fif.cm ws t).2.1 = n)) = false; rw [hb, ← HC1.out]; simp [hcn]
                  go_wp2
                  go_roundw
                  case rel => exact ⟨t + 1, by omega, by go_num, by rw [EB.out], by first | rfl | trivial⟩
                  case measure => simp [intOf]; omega
              · have EB : Hid (anyN ws n (t + 1) = true) := by show (anyN ws n t || decide ((Fif.cm ws t).2.1 = n)) = true; rw [hb]; rfl
                go_wp2
                go_roundw
                case rel => exact ⟨t + 1, by omega, by go_num, by rw [EB.out], by first | rfl | trivial⟩
                case measure => simp [intOf]; omega
            · have htn : t = nw := by omega
              subst htn
              have EF : anyN ws n t = (Fif.fnd ws 0 n).isSome := by rw [HW.out.2]; exact anyN_fnd HV.out.2.2 n
              rw [EF]
              have HS1 := lkN_succ h ws k
              rw [← HN.out] at HS1
              have HS : Hid _ := HS1
              clear EF HS1
              cases hf : Fif.fnd ws 0 n with
              | some z =>
                have EZ : Hid (lkN h ws (k + 1) = lkN h ws k) := by show lkN h ws (k + 1) = lkN h ws k; have s := HS.out; rw [hf] at s; simpa using s
                simp only [Option.isSome_some]
                clear hf
                go_wp2
                go_roundw
                case rel => exact ⟨k + 1, by rw [HN.out]; go_num, by rw [EZ.out]; exact HO.out, hR.out.2.1, by rw [EZ.out]; exact hR.out.2.2.1, by have := HN.out; omega, fun qz => absurd HE.out.symm qz⟩
                case measure => have := HN.out; simp [intOf]; omega
              | none =>
                have EZ : Hid (lkN h ws (k + 1) = lkN h ws k ++ [n]) := by show lkN h ws (k + 1) = lkN h ws k ++ [n]; have s := HS.out; rw [hf] at s; simpa using s
                have OR : Hid (wr.ownsRow w3.heap.size 3 1 (.slice q m cap) m ((lkN h ws k).map (Value.int .i64)) ∧ w3.heap.size ≤ wr.heap.size) := ⟨by have e := HM.out; subst e; exact HO.out, hR.out.2.1.size⟩
                simp only [Option.isSome_none]
                clear hf
                go_wp2_with (at_builtin; refine wpList_append_lies _ rfl _ _ 28 rfl w3.heap.size 3 ii (.int .i64 0) 1 8 Tryd.underlying28 HJ.out.1 HJ.out.2.1 HJ.out.2.2.1 HJ.out.2.2.2 rfl (by decide) (.slice q m cap) m ((lkN h ws k).map (Value.int .i64)) rfl (by exact pushX OR.out.1 rfl) ⟨wr.heap.size, 0, none⟩ 1 1 [.int .i64 n] rfl rfl (by exact newX _ _ rfl _ _) (oneX n) (by omega) (by unfold maxLen; omega) (by omega) (by have := OR.out.2; simp; omega) (wr.heap.size + 1) (by simp) ?_; intro gg gc w5 hown hgrow hat _; have O5 : Hid (Ow w5 w3.heap.size (.slice (some ⟨gg, 0, none⟩) (m + 1) gc) (lkN h ws (k + 1)) ∧ Below w3.heap.size w3 w5) := lk_app HO.out HM.out EZ.out hR.out.2.1 hgrow hown; clear hown hgrow hat)
                go_roundw
                case rel => exact ⟨k + 1, by rw [HN.out]; go_num, O5.out.1, O5.out.2, by rw [EZ.out, List.length_append, ← HM.out]; simp; omega, by have := HN.out; omega, fun qz => absurd HE.out.symm qz⟩
                case measure => have := HN.out; simp [intOf]; omega
        · have dE : (e == 0) = false := by simp [hE]
          go_wp2_with fail
          have EL : lkL h ws k1 = lkN h ws k := lk_stop hR.out.2.2.2.1 hR.out.2.2.1 hR.out.2.2.2.2 (.inr (.inr (by rw [← HE.out]; exact hE)))
          have PZ : Hid (Ow wr w3.heap.size (.slice q m cap) (lkL h ws k1) ∧ Below w3.heap.size w3 wr) := by rw [EL]; exact ⟨HO.out, hR.out.2.1⟩
          try (first | exact PZ | (apply hQ; exact PZ))
end Go.Proofs.YtdhlfbpflngmbafDoor.Aga
