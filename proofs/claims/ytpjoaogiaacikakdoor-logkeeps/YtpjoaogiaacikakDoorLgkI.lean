/-
  LogKeeps: the inner round, event by event.
-/
import Derived.Test.YtpjoaogiaacikakDoorLgkS
import Derived.Test.YtpjoaogiaacikakDoorCt0
import Derived.Deep.CutBlock
import Derived.Deep.CutRange
import Derived.Deep.RegionHeld3
namespace Go.Proofs.YtpjoaogiaacikakDoor.Lgs
open Go.RowKit
open Go.Proofs.YtpjoaogiaacikakDoor.Fif (own_lt own_block own_form own_mono own_vw info_int int_one new_int)
open Go.Proofs.YtpjoaogiaacikakDoor.His (Ev ev errV errV_ok errV_no Eo Ew chkC flat flat_len flat_append info_ev flat_one news1 right_any fifoB causB totB)
open Go.Proofs.YtpjoaogiaacikakDoor.Sep (KpL NewL)
open Go.Proofs.YtpjoaogiaacikakDoor.Vec (Vw)
open Go.Proofs.YtpjoaogiaacikakDoor.As (Laid)
set_option linter.unusedVariables false

theorem run_append_zero {P : Program} {w : World} (base : Nat) (t ty e : TypeId) (i : TypeInfo) (size : Nat) (ht : P.underlying t = some (.slice e)) (hi : P.info? e = some i)
    (v : Value) (n : Nat) (xs : List Value) (hown : w.ownsRow base e size v n xs) (q : Option Addr) (c : Nat) : (Builtin.append_ #[t, t] ty #[v, .slice q 0 c]).run P w = .ok v w := by
  rcases hown.2 with ⟨rfl, rfl⟩ | ⟨g, cap, cur, rfl, _, _, hnc, _⟩
  · cases q <;> simp [Builtin.append_, run_underlying ht, sizeOf, typeInfo, hi, Builtin.lenOf, Builtin.firstCells, loadCells, loadCellsFrom]
  · cases q <;> simp [Builtin.append_, run_underlying ht, sizeOf, typeInfo, hi, Builtin.lenOf, Builtin.firstCells, hnc, storeCells, loadCells, loadCellsFrom]
theorem wpList_append_zero {P : Program} {w : World} {ops : Array Oper} {rest : List Oper} {o : Oper} {a : Act} {Q : Exit → Act → World → Prop} (hgd : o.guard = none) (s x : Operand) (t : TypeId)
    (ho : o.op = .call { callee := .builtin .append, args := #[s, x], argTypes := #[t, t] })
    (base : Nat) (e : TypeId) (i : TypeInfo) (size : Nat) (ht : P.underlying t = some (.slice e)) (hi : P.info? e = some i)
    (v : Value) (n : Nat) (xs : List Value) (hs : a.eval s = v) (hown : w.ownsRow base e size v n xs) (q : Option Addr) (c : Nat) (hx : a.eval x = .slice q 0 c)
    (h : wpList P ops Q rest (a.put o.dst v) w) : wpList P ops Q (o :: rest) a w := by
  refine wpList_plain hgd fun K hK => ?_
  have hrun := run_append_zero (P := P) (w := w) base t o.type e i size ht hi v n xs hown q c
  unfold Oper.wp
  simp [execOp, ho, resolve, invoke, builtin, hs, hx, hrun, Result.andThen]
  exact hK _ _ h
theorem high_le3 {l : L} (hi : Inv l) (keep : Int) : high l keep ≤ bytes l := by
  have := hi.small.2.2
  unfold high
  split <;> omega
theorem drewsL {B : Nat} {a w : World} (h : Below B a w) (n : Nat) : Below B a (w.drewN n) := ⟨h.os, h.tape, h.output, h.size, h.block⟩
theorem ew_cells {w : World} {b o n : Nat} {h : List Ev} (g : Ew w (some ⟨b, o, none⟩) n h) {k : Nat} (hk : k < n) : w.cell? ⟨b, o + k * 3, none⟩ = some (.int .i64 (ev h k).1) ∧ w.cell? ⟨b, o + k * 3 + 1, none⟩ = some (.int .i64 (ev h k).2.1) ∧ w.cell? ⟨b, o + k * 3 + 2, none⟩ = some (.int .i64 (ev h k).2.2) := by
  obtain ⟨b', o', e, _, hc⟩ := g.2 (by omega)
  injection e with e
  injection e with e1 e2 _
  subst e1 e2
  exact hc k hk
theorem eo_at {w : World} {base : Nat} {v : Value} {h : List Ev} (o : Eo w base v h) {k : Nat} (hk : k < h.length) : ∃ g c, v = .slice (some ⟨g, 0, none⟩) h.length c ∧ Ew w (some ⟨g, 0, none⟩) h.length h ∧ h.length ≤ c ∧ c ≤ maxLen := by
  have o' := o
  obtain ⟨q, c, rfl⟩ := own_form o
  rcases o.2 with ⟨h2, h3⟩ | ⟨g, cap, cur, hv, _⟩
  · omega
  · injection hv with e1 e2 e3
    subst e1
    obtain ⟨_, e, h4, h5, _⟩ := o'.ew
    exact ⟨g, c, rfl, e, h4, h5⟩
/-- numbers among the arguments are not too great -/
theorem row_most {w : World} {a : Option Addr} {len cap : Nat} {zs : List Int} (h : Go.Proofs.YtpjoaogiaacikakDoor.Vec.IsRow .i64 w a len cap zs) : ∀ i, i < len → (zs.take len).getD i 0 ≤ 9223372036854775807 := by
  intro i hi
  rcases h with ⟨_, rfl, _, _⟩ | ⟨x, _, h1, _, h3, _, hw⟩
  · omega
  · have hz : i < zs.length := by omega
    have e : (zs.take len).getD i 0 = zs[i] := by simp [List.getD, hi, hz]
    rw [e]
    have := hw zs[i] (List.getElem_mem hz)
    simp [Lit.wf, IntKind.min, IntKind.max, IntKind.bits, IntKind.signed] at this
    omega
theorem eqGdF : Tryd.prog.eqGuardType Tryd.prog.depth 41 = false := by kernel_rfl
theorem eqSameF (a b c : Bool) (w : World) : (Op.equalIn 10000 41 (.agg #[.bool a, .bool b, .bool c]) (.agg #[.bool a, .bool b, .bool c])).run Tryd.prog w = .ok true w := by
  have u3 := Tryd.underlying4
  have a3 := Tryd.isAgg4
  have z3 := Tryd.sizeOf4
  have hS : Tryd.prog.underlying 41 = some (.struct (Tryd.prog.fieldsOf 41)) := by kernel_rfl
  have hp : Tryd.prog.stoodInHeld 41 = false := by kernel_rfl
  rw [show (10000 : Nat) = 9999 + 1 from rfl, run_equalIn_agg w 9999 41 _ _ hS hp]
  simp only [Program.fieldsOf, Tryd.underlying41]
  go_simp
variable {w wr w' : World} {B P : Nat} {l : L} {vd vm vn : Value}
theorem KS.faces (h : KS w wr B P l vd vm vn) : Calls Tryd.prog 17 #[.pointer (some ⟨P, 0, none⟩)] wr fun x w' => x = .returned (.tuple #[.agg #[.bool (fifoB l.es), .bool (causB l.es), .bool (totB l.es)], .nilIface]) ∧ KS w w' B P l vd vm vn ∧ Below wr.heap.size wr w' := by
  obtain ⟨fp, hl, _⟩ := h.lg
  refine (facesG B P l fp wr hl h.inv).mono ?_
  rintro x w' ⟨rfl, hb⟩
  exact ⟨rfl, h.later hb, hb⟩
/-- three Booleans in a block of their own -/
theorem three_new (w : World) (a b c : Bool) (B : Nat) (hB : B = w.heap.size) : (w.alloc (.cells #[.bool a, .bool b, .bool c] 41)).cell? ⟨B, 0, none⟩ = some (.bool a) ∧ (w.alloc (.cells #[.bool a, .bool b, .bool c] 41)).cell? ⟨B, 1, none⟩ = some (.bool b) ∧ (w.alloc (.cells #[.bool a, .bool b, .bool c] 41)).cell? ⟨B, 2, none⟩ = some (.bool c) := by
  subst hB
  exact ⟨by go_cell, by go_cell, by go_cell⟩
def blockAt (n : Nat) : Code → Option Code
  | .block m c => if m = n then some (.block m c) else blockAt n c
  | .seq a b => match blockAt n a with
    | some c => some c
    | none => blockAt n b
  | .loop c => blockAt n c
  | .cond _ a b => match blockAt n a with
    | some c => some c
    | none => blockAt n b
  | _ => none
set_option maxRecDepth 100000 in
set_option maxHeartbeats 8000000 in
theorem round_any (a0 a1 a2 a3 : Option Addr) (n n1 n2 n3 cap cap1 i0 : Nat) (es : List Ev) (sy fa ke : List Int) (w wc : World) (B P : Nat) (u15 u16 : Value) (H : Hid (Laid w ∧ Ew w a0 n es ∧ Vw w a1 n1 sy ∧ Vw w a2 n2 fa ∧ Vw w a3 n3 ke)) (hn : n ≤ 2 ^ 63 - 1) (hn1 : n1 ≤ 2 ^ 63 - 1) (hin : i0 ≤ n) (hK : Hid (∃ l, KS w wc B P l u15 u16 (.slice none 0 0))) (Q2 : Exit → Act → World → Prop)
    (d2 d3 d4 d5 d6 d7 d8 d9 d10 d11 d12 d13 d18 d20 d21 d22 d23 d24 d25 d26 d27 d28 d29 d30 d31 d32 d33 d34 d35 d36 d37 d38 d39 d40 d41 d42 d43 d44 d45 d46 d47 d48 d49 d50 d51 d52 d53 d54 d55 d56 d57 d58 d59 d60 d61 d62 d63 d64 d65 d66 d67 d68 d69 d70 d71 d72 d73 d74 d75 d76 d77 d78 d79 d80 d81 d82 d83 d84 d85 d86 d87 d88 d89 d90 d91 d92 d93 d94 d95 d96 d97 d98 d99 d100 d101 d102 d103 d104 d105 d106 d107 d108 d109 d110 d111 d112 d113 d114 d115 d116 d117 d118 d119 d120 d121 d122 d123 d124 d125 d126 d127 d128 d129 d130 d131 d132 d133 d134 d135 d136 d137 d138 d139 d140 d141 d142 d143 d144 d145 d146 d147 d148 d149 d150 d151 d152 d153 d154 d155 d156 d157 d158 d159 d160 d161 d162 d163 d164 d165 d166 d167 d168 d169 d170 d171 d172 d173 d174 d175 d176 d177 d178 d179 d180 d181 d182 d183 d184 d185 d186 d187 d188 d189 d190 d191 d192 d193 d194 d195 d196 d197 d198 d199 d200 d201 d202 d203 d204 d205 d206 d207 d208 d209 d210 d211 d212 d213 d214 d215 d216 d217 d218 d219 d220 d221 d222 d223 d224 d225 d226 d227 d228 d229 d230 d231 d232 d233 d234 d235 d236 d237 d238 d239 d240 d241 d242 d243 d244 d245 d246 d247 d248 d249 d250 d251 d252 d253 d254 d255 d256 d257 d258 d259 d260 d261 d262 d263 d264 d265 d266 d267 d268 d269 d270 d271 d272 d273 d274 d275 d276 d277 d278 d279 d280 : Value)
    (hQ : ∀ {s8 s15 s16 s19 s20 s21 s22 s23 s24 s25 s100 s101 s102 s103 s104 s105 s106 s107 s108 s109 s110 s111 s112 s113 s114 s115 s116 s117 s118 s119 s120 s121 s122 s123 s124 s125 s126 s127 s128 s129 s130 s131 s132 s133 s134 s135 s136 s137 s138 s139 s140 s141 s142 s143 s144 s145 s146 s147 s148 s149 s150 s151 s152 s153 s154 s155 s156 s157 s158 s159 s160 s161 s162 s163 s164 s165 s166 s167 s168 s169 s170 s171 s172 s173 s174 s175 s176 s177 s178 s179 s180 s181 s182 s183 : Value} {wx : World} (i1 : Nat), i1 ≤ n → Hid (∃ l, KS w wx B P l s15 s16 (.slice none 0 0)) → Q2 .normal ⟨#[.slice a0 n cap, .slice a1 n1 cap1, d2, d3, d4, d5, d6, d7, s8, d9, d10, d11, d12, d13, .pointer (some ⟨P, 0, none⟩), s15, s16, .int .i64 (i1 : Int), d18, s19, s20, s21, s22, s23, s24, s25, d26, d27, d28, d29, d30, d31, d32, d33, d34, d35, d36, d37, d38, d39, d40, d41, d42, d43, d44, d45, d46, d47, d48, d49, d50, d51, d52, d53, d54, d55, d56, d57, d58, d59, d60, d61, d62, d63, d64, d65, d66, d67, d68, d69, d70, d71, d72, d73, d74, d75, d76, d77, d78, d79, d80, d81, d82, d83, d84, d85, d86, d87, d88, d89, d90, d91, d92, d93, d94, d95, d96, d97, d98, d99, s100, s101, s102, s103, s104, s105, s106, s107, s108, s109, s110, s111, s112, s113, s114, s115, s116, s117, s118, s119, s120, s121, s122, s123, s124, s125, s126, s127, s128, s129, s130, s131, s132, s133, s134, s135, s136, s137, s138, s139, s140, s141, s142, s143, s144, s145, s146, s147, s148, s149, s150, s151, s152, s153, s154, s155, s156, s157, s158, s159, s160, s161, s162, s163, s164, s165, s166, s167, s168, s169, s170, s171, s172, s173, s174, s175, s176, s177, s178, s179, s180, s181, s182, s183, d184, d185, d186, d187, d188, d189, d190, d191, d192, d193, d194, d195, d196, d197, d198, d199, d200, d201, d202, d203, d204, d205, d206, d207, d208, d209, d210, d211, d212, d213, d214, d215, d216, d217, d218, d219, d220, d221, d222, d223, d224, d225, d226, d227, d228, d229, d230, d231, d232, d233, d234, d235, d236, d237, d238, d239, d240, d241, d242, d243, d244, d245, d246, d247, d248, d249, d250, d251, d252, d253, d254, d255, d256, d257, d258, d259, d260, d261, d262, d263, d264, d265, d266, d267, d268, d269, d270, d271, d272, d273, d274, d275, d276, d277, d278, d279, d280], []⟩ wx) :
    Code.wp Tryd.prog ((Tryd.f4.body.bind (blockAt 2)).getD .skip) Q2 ⟨#[.slice a0 n cap, .slice a1 n1 cap1, d2, d3, d4, d5, d6, d7, d8, d9, d10, d11, d12, d13, .pointer (some ⟨P, 0, none⟩), u15, u16, .int .i64 (i0 : Int), d18, .int .i64 0, d20, d21, d22, d23, d24, d25, d26, d27, d28, d29, d30, d31, d32, d33, d34, d35, d36, d37, d38, d39, d40, d41, d42, d43, d44, d45, d46, d47, d48, d49, d50, d51, d52, d53, d54, d55, d56, d57, d58, d59, d60, d61, d62, d63, d64, d65, d66, d67, d68, d69, d70, d71, d72, d73, d74, d75, d76, d77, d78, d79, d80, d81, d82, d83, d84, d85, d86, d87, d88, d89, d90, d91, d92, d93, d94, d95, d96, d97, d98, d99, d100, d101, d102, d103, d104, d105, d106, d107, d108, d109, d110, d111, d112, d113, d114, d115, d116, d117, d118, d119, d120, d121, d122, d123, d124, d125, d126, d127, d128, d129, d130, d131, d132, d133, d134, d135, d136, d137, d138, d139, d140, d141, d142, d143, d144, d145, d146, d147, d148, d149, d150, d151, d152, d153, d154, d155, d156, d157, d158, d159, d160, d161, d162, d163, d164, d165, d166, d167, d168, d169, d170, d171, d172, d173, d174, d175, d176, d177, d178, d179, d180, d181, d182, d183, d184, d185, d186, d187, d188, d189, d190, d191, d192, d193, d194, d195, d196, d197, d198, d199, d200, d201, d202, d203, d204, d205, d206, d207, d208, d209, d210, d211, d212, d213, d214, d215, d216, d217, d218, d219, d220, d221, d222, d223, d224, d225, d226, d227, d228, d229, d230, d231, d232, d233, d234, d235, d236, d237, d238, d239, d240, d241, d242, d243, d244, d245, d246, d247, d248, d249, d250, d251, d252, d253, d254, d255, d256, d257, d258, d259, d260, d261, d262, d263, d264, d265, d266, d267, d268, d269, d270, d271, d272, d273, d274, d275, d276, d277, d278, d279, d280], []⟩ wc := by
  have hi0 : (0 : Int) ≤ (i0 : Int) := by omega
  conv => arg 2; whnf
  go_wp2_with fail
  go_loopw [15, 16, 17, 19] (fun vd vm at1 kk wr => ∃ k0 i1 : Nat, k0 ≤ 16 ∧ kk = .int .i64 (k0 : Int) ∧ i1 ≤ n ∧ at1 = .int .i64 (i1 : Int) ∧ Hid (∃ l, KS w wr B P l vd vm (.slice none 0 0))) (fun _ _ _ kk _ => 16 - (intOf kk).toNat)
  case atStart => exact ⟨0, i0, by omega, rfl, by omega, rfl, hK.out⟩
  case round =>
    clear hK hi0 hin
    obtain ⟨k0, i1, hk16, rfl, hin, rfl, hK⟩ := hrel
    have hk0 : (0 : Int) ≤ (k0 : Int) := by omega
    have hi0 : (0 : Int) ≤ (i1 : Int) := by omega
    obtain ⟨l, hk⟩ := hK.out
    have K1 : Hid (KS w wr B P l u15 u16 (.slice none 0 0)) := hk
    clear hk hK
    by_cases hgo2 : k0 < 16 ∧ i1 < n
    · have g1 : decide ((k0 : Int) < 16) = true := decide_eq_true (by omega)
      have g2 : decide ((i1 : Int) < (n : Int)) = true := decide_eq_true (by omega)
      have g4 : (k0 : Int) < 16 := by omega
      have g5 : (i1 : Int) < (n : Int) := by omega
      go_upto_region 21 with fail
      go_cut [132] from 110 to 131 (fun v wx => v = .bool false ∧ Hid (∃ l, KS w wx B P l u15 u16 (.slice none 0 0)))
      case first =>
        by_cases ha : i1 < n1
        · have ha1 : decide ((i1 : Int) < (n1 : Int)) = true := decide_eq_true (by omega)
          have ha2 : (i1 : Int) < (n1 : Int) := by omega
          obtain ⟨bs, os, rfl, _, hcs⟩ := (H.out.2.2.1.later K1.out.bel).2 (by omega)
          have cs := hcs i1 ha
          obtain ⟨s0, es0⟩ : ∃ f, f = sy.getD i1 0 := ⟨_, rfl⟩
          rw [← es0] at cs
          clear hcs es0
          by_cases hs : s0 = 1
          · subst hs
            by_cases hz : syncC l = 0
            · have ds : (((syncL l).safe : Nat) : Int) = ((Lgs.bytes (syncL l) : Nat) : Int) := by rw [sync_safe K1.out.inv hz]
              have DS : Hid _ := ds
              clear ds
              go_wp2_with fail
              refine K1.out.sync.mono ?_
              rintro e w2 ⟨rfl, hk⟩
              rw [hz, errV_ok]
              have K2 : Hid (KS w w2 B P (syncL l) u15 u16 (.slice none 0 0)) := hk
              clear hk
              go_wp2_with fail
              refine K2.out.safe.mono ?_
              rintro e w3 ⟨rfl, hk, _⟩
              have K3 : Hid (KS w w3 B P (syncL l) u15 u16 (.slice none 0 0)) := hk
              clear hk
              go_wp2_with fail
              refine K3.out.bytes.mono ?_
              rintro e w4 ⟨rfl, hk, _⟩
              rw [DS.out]
              have K4 : Hid (KS w w4 B P (syncL l) u15 u16 (.slice none 0 0)) := hk
              clear hk
              have dn : (((Lgs.bytes (syncL l) : Nat) : Int) != ((Lgs.bytes (syncL l) : Nat) : Int)) = false := by simp
              go_wp2_with fail
              go_meet
              exact ⟨rfl, _, K4.out⟩
            · have EN : Hid (errV (syncC l) = _) := errV_no hz
              go_wp2_with fail
              refine K1.out.sync.mono ?_
              rintro e w2 ⟨rfl, hk⟩
              rw [EN.out]
              have K2 : Hid (KS w w2 B P (syncL l) u15 u16 (.slice none 0 0)) := hk
              clear hk
              go_wp2_with fail
              go_meet
              exact ⟨rfl, _, K2.out⟩
          · have hs' : (s0 == 1) = false := by simpa using hs
            go_wp2_with fail
            go_meet
            exact ⟨rfl, _, K1.out⟩
        · have ha1 : decide ((i1 : Int) < (n1 : Int)) = false := decide_eq_false (by omega)
          have ha2 : ¬ (i1 : Int) < (n1 : Int) := by omega
          go_wp2_with fail
          go_meet
          exact ⟨rfl, _, K1.out⟩
      case rest =>
        obtain ⟨rfl, hK⟩ := hcut
        clear K1
        obtain ⟨l1, hk⟩ := hK.out
        have l60 : l1.es.length ≤ 60 := (His.chk_zero hk.inv.good).1
        have K2 : Hid (KS w wc B P l1 u15 u16 (.slice none 0 0)) := hk
        clear hk hK
        obtain ⟨ie, hi, hz0, hz1, hz2⟩ := info_ev
        have HI : Hid (Tryd.prog.info? 28 = some ie ∧ ie.zero = some (.agg #[.int .i64 0, .int .i64 0, .int .i64 0]) ∧ ie.size = 3 ∧ ie.bytes = 24) := ⟨hi, hz0, hz1, hz2⟩
        clear hi hz0 hz1 hz2
        go_upto_region 24 with fail
        go_cut [20] from 133 to 135 (fun v wx => Hid (∃ b0, B ≤ b0 ∧ b0 ≤ wx.heap.size ∧ KS w wx B P l1 u15 u16 v ∧ wx.ownsRow b0 28 3 v l1.es.length (flat l1.es)))
        case first =>
          obtain ⟨q, cq, rfl⟩ := own_form K2.out.d
          by_cases hz : l1.es.length = 0
          · have HZ : Hid (l1.es.length = 0) := hz
            clear hz
            go_wp2_with (at_builtin; refine wpList_append_zero rfl _ _ 33 rfl 0 28 ie 3 Tryd.underlying33 HI.out.1 (.slice none 0 0) 0 [] rfl (World.ownsRow_nil _ _ _ _) q cq (by show Value.slice q l1.es.length cq = _; rw [HZ.out]) ?_)
            go_meet
            refine ⟨B, Nat.le_refl _, K2.out.low.2, K2.out, ?_⟩
            rw [HZ.out, List.eq_nil_of_length_eq_zero HZ.out]
            exact World.ownsRow_nil _ _ _ _
          · obtain ⟨g0, c0, e0, he0, _⟩ := eo_at K2.out.d (k := 0) (by omega)
            injection e0 with e1 e2 e3
            subst e1 e3
            go_wp2_with (at_builtin; refine wpList_append_lies _ rfl _ _ 33 rfl wc.heap.size 28 ie (.agg #[.int .i64 0, .int .i64 0, .int .i64 0]) 3 24 Tryd.underlying33 HI.out.1 HI.out.2.1 HI.out.2.2.1 HI.out.2.2.2 rfl (by decide) (.slice none 0 0) 0 [] rfl (World.ownsRow_nil _ _ _ _) ⟨g0, 0, none⟩ l1.es.length cq (flat l1.es) rfl (by rw [flat_len]) (His.flat_news he0) (flat_one _) (by omega) (by unfold maxLen; omega) (by omega) (by simp) wc.heap.size (by simp) ?_; intro gg gc w5 hown hgrow hat hgl; rw [Nat.zero_add] at hown ⊢; rw [List.nil_append] at hown; have O5 : Hid (w5.ownsRow wc.heap.size 28 3 (.slice (some ⟨gg, 0, none⟩) l1.es.length gc) l1.es.length (flat l1.es)) := hown; have G5 : Hid (wc.grownBy w5 (Value.slice none 0 0).ownBlock ∧ gg = wc.heap.size ∧ gg < w5.heap.size) := ⟨hgrow, hat.elim (fun z => by simp [Value.ownBlock] at z) id, hgl⟩; clear hown hgrow hat hgl)
            go_meet
            have hb5 : Below wc.heap.size wc w5 := (Below.refl _ _).grown G5.out.1 (Nat.le_refl _) (by simp [Value.ownBlock])
            refine ⟨wc.heap.size, K2.out.low.2, hb5.size, K2.out.fresh hb5 fun b z => ?_, O5.out⟩
            have : gg = b := by simpa [Value.ownBlock] using z
            have := G5.out.2
            omega
        case rest =>
          clear K2
          obtain ⟨b0, hb1, hb2, hk, ho⟩ := hcut.out
          obtain ⟨qn, cn, rfl⟩ := own_form ho
          have K3 : Hid (B ≤ b0 ∧ b0 ≤ wc.heap.size ∧ KS w wc B P l1 u15 u16 (.slice qn l1.es.length cn) ∧ wc.ownsRow b0 28 3 (.slice qn l1.es.length cn) l1.es.length (flat l1.es)) := ⟨hb1, hb2, hk, ho⟩
          clear hb1 hb2 hk ho hcut
          have ee : Ew wc a0 n es := H.out.2.1.later K3.out.2.2.1.bel
          obtain ⟨be, oe, rfl, hbe, hce⟩ := ee.2 (by omega)
          obtain ⟨x0, x1, x2⟩ := hce i1 (by omega)
          obtain ⟨p, ep⟩ : ∃ p, p = ev es i1 := ⟨_, rfl⟩
          rw [← ep] at x0 x1 x2
          obtain ⟨p0, p1, p2⟩ := p
          simp only at x0 x1 x2
          clear hce ee
          go_upto_region 25 with fail
          go_cut [20] from 136 to 142 (fun v wx => ∃ g5 c5, v = .slice (some ⟨g5, 0, none⟩) (l1.es.length + 1) c5 ∧ Hid (KS w wx B P l1 u15 u16 v ∧ Eo wx w.heap.size v (l1.es ++ [(p0, p1, p2)])))
          case first =>
            go_wp2_with (at_builtin; refine wpList_append_lies _ rfl _ _ 33 rfl b0 28 ie (.agg #[.int .i64 0, .int .i64 0, .int .i64 0]) 3 24 Tryd.underlying33 HI.out.1 HI.out.2.1 HI.out.2.2.1 HI.out.2.2.2 rfl (by decide) (.slice qn l1.es.length cn) l1.es.length (flat l1.es) rfl (by exact own_block K3.out.2.2.2 fun b z => ((Below.refl wc.heap.size wc).alloc (Nat.le_refl _) _).block b (own_lt K3.out.2.2.2 b z).2) ⟨wc.heap.size, 0, none⟩ 1 1 (flat [(p0, p1, p2)]) rfl rfl (by exact news1 wc _ rfl p0 p1 p2 28) (flat_one _) (by omega) (by unfold maxLen; omega) (by omega) (by have := K3.out.2.1; simp; omega) (wc.heap.size + 1) (by simp) ?_; intro gg gc w5 hown hgrow hat hgl; have O5 : Hid (w5.ownsRow b0 28 3 (.slice (some ⟨gg, 0, none⟩) (l1.es.length + 1) gc) (l1.es.length + 1) (flat l1.es ++ flat [(p0, p1, p2)])) := hown; have G5 : Hid ((wc.alloc (.cells #[.int .i64 p0, .int .i64 p1, .int .i64 p2] 28)).grownBy w5 (Value.slice qn l1.es.length cn).ownBlock ∧ ((Value.slice qn l1.es.length cn).ownBlock = some gg ∨ gg = wc.heap.size + 1) ∧ gg < w5.heap.size) := ⟨hgrow, hat, hgl⟩; clear hown hgrow hat hgl)
            go_meet
            have hba := (Below.refl wc.heap.size wc).alloc (Nat.le_refl _) (.cells #[.int .i64 p0, .int .i64 p1, .int .i64 p2] 28)
            refine ⟨gg, gc, rfl, (K3.out.2.2.1.later hba).grow G5.out.1 (fun b z => Nat.le_trans K3.out.1 (own_lt K3.out.2.2.2 b z).1) (fun b z => ?_), ?_⟩
            · have e : gg = b := by simpa [Value.ownBlock] using z
              subst e
              refine ⟨G5.out.2.1.imp id fun z => ?_, G5.out.2.2⟩
              rw [z]
              simp
            · have hlow : w.heap.size ≤ b0 := Nat.le_trans K3.out.2.2.1.low.1 K3.out.1
              have o := own_mono O5.out hlow
              unfold Eo
              rw [flat_append, List.length_append]
              exact o
          case rest =>
            obtain ⟨g5, c5, rfl, hK⟩ := hcut
            clear K3 x0 x1 x2
            have E5 : Hid _ := hK.out.2.ew
            have K4 : Hid (KS w wc B P l1 u15 u16 (.slice (some ⟨g5, 0, none⟩) (l1.es.length + 1) c5) ∧ Eo wc w.heap.size (.slice (some ⟨g5, 0, none⟩) (l1.es.length + 1) c5) (l1.es ++ [(p0, p1, p2)])) := hK.out
            clear hK
            obtain ⟨ck, eck⟩ : ∃ c, c = chkC (l1.es ++ [(p0, p1, p2)]) := ⟨_, rfl⟩
            obtain ⟨B1, eB1⟩ : ∃ b : Nat, b = Lgs.bytes l1 := ⟨_, rfl⟩
            have hB1 : B1 ≤ 61000 := by rw [eB1]; exact K4.out.1.inv.small.2.1
            have EB : Hid (ck = chkC (l1.es ++ [(p0, p1, p2)]) ∧ B1 = Lgs.bytes l1 ∧ (p0, p1, p2) = ev es i1) := ⟨eck, eB1, ep⟩
            clear eck eB1 ep
            go_wp2_with fail
            refine (right_any _ _ _ _ _ E5.out.2.1).mono ?_
            rintro e w5 ⟨rfl, hb⟩
            rw [← EB.out.1]
            have K5 : Hid (KS w w5 B P l1 u15 u16 (.slice (some ⟨g5, 0, none⟩) (l1.es.length + 1) c5) ∧ Eo w5 w.heap.size (.slice (some ⟨g5, 0, none⟩) (l1.es.length + 1) c5) (l1.es ++ [(p0, p1, p2)])) := ⟨K4.out.1.later hb, K4.out.2.later hb⟩
            clear hb
            go_wp2_with fail
            refine K5.out.1.bytes.mono ?_
            rintro e w6 ⟨rfl, hk, hb⟩
            rw [← EB.out.2.1]
            have K6 : Hid (KS w w6 B P l1 u15 u16 (.slice (some ⟨g5, 0, none⟩) (l1.es.length + 1) c5) ∧ Eo w6 w.heap.size (.slice (some ⟨g5, 0, none⟩) (l1.es.length + 1) c5) (l1.es ++ [(p0, p1, p2)])) := ⟨hk, K5.out.2.later hb⟩
            clear hb hk
            obtain ⟨x0, x1, x2⟩ := ew_cells (H.out.2.1.later K6.out.1.bel) (k := i1) (by omega)
            rw [← EB.out.2.2] at x0 x1 x2
            simp only at x0 x1 x2
            go_wp2_with fail
            refine (K6.out.1.do (p0, p1, p2) K6.out.2).mono ?_
            rintro e w7 ⟨k7, rfl, hk7, hks, hkd⟩
            clear x0 x1 x2
            by_cases hz : doC l1 (p0, p1, p2) = 0
            · have D7 : Hid (KD w w7 B P l1 (doL l1 (p0, p1, p2) k7) u16 (.slice (some ⟨g5, 0, none⟩) (l1.es.length + 1) c5)) := hkd hz
              obtain rfl : ck = 0 := by rw [EB.out.1]; exact (do_ok (k := k7) hz).2.1
              have FB : Hid (Lgs.bytes (doL l1 (p0, p1, p2) k7) = Lgs.bytes l1 + k7 ∧ marks (doL l1 (p0, p1, p2) k7) = marks l1 ++ [(Lgs.bytes (doL l1 (p0, p1, p2) k7) : Int)]) := ⟨do_bytes K6.out.1.inv hz, marks_do K6.out.1.inv hz⟩
              rw [hz, errV_ok]
              obtain ⟨l2, el2⟩ : ∃ l2, l2 = doL l1 (p0, p1, p2) k7 := ⟨_, rfl⟩
              rw [← el2] at D7 FB
              clear hks hkd hz el2
              obtain ⟨B2, eB2⟩ : ∃ b : Nat, b = Lgs.bytes l2 := ⟨_, rfl⟩
              have hB2 : B1 + 2 ≤ B2 := by rw [eB2, FB.out.1, EB.out.2.1]; omega
              have EB2 : Hid (B2 = Lgs.bytes l2) := eB2
              clear eB2
              have dlt : decide ((B2 : Int) < (B1 : Int) + 2) = false := decide_eq_false (by omega)
              have nlt : ¬ (B2 : Int) < (B1 : Int) + 2 := by omega
              have hbs : B2 ≤ 61000 := by rw [EB2.out]; exact D7.out.inv.small.2.1
              go_wp2_with fail
              refine (errV_same 0 6 w7 (H.out.1.later D7.out.bel)).mono ?_
              rintro e w8 ⟨rfl, hb⟩
              rw [show decide ((0 : Int) = 6) = false from rfl]
              have D8 : Hid (KD w w8 B P l1 l2 u16 (.slice (some ⟨g5, 0, none⟩) (l1.es.length + 1) c5)) := D7.out.later hb
              clear hb
              go_wp2_with fail
              refine (errV_same 0 0 w8 (H.out.1.later D8.out.bel)).mono ?_
              rintro e w9 ⟨rfl, hb⟩
              rw [show decide ((0 : Int) = 0) = true from rfl]
              have D9 : Hid (KD w w9 B P l1 l2 u16 (.slice (some ⟨g5, 0, none⟩) (l1.es.length + 1) c5)) := D8.out.later hb
              clear hb
              go_wp2_with fail
              refine D9.out.bytes.mono ?_
              rintro e w10 ⟨rfl, hd, _⟩
              rw [← EB2.out]
              have D10 : Hid (KD w w10 B P l1 l2 u16 (.slice (some ⟨g5, 0, none⟩) (l1.es.length + 1) c5)) := hd
              clear hd
              go_wp2_with fail
              refine D10.out.bytes.mono ?_
              rintro e w11 ⟨rfl, hd, _⟩
              rw [← EB2.out]
              have D11 : Hid (KD w w11 B P l1 l2 u16 (.slice (some ⟨g5, 0, none⟩) (l1.es.length + 1) c5)) := hd
              clear hd
              obtain ⟨qm, cm, rfl⟩ := own_form D11.out.m
              obtain ⟨mm, emm⟩ : ∃ m, m = (marks l1).length := ⟨_, rfl⟩
              have hmm : mm ≤ 61 := by rw [emm, marks_len, K6.out.1.inv.len]; omega
              have EM : Hid (mm = (marks l1).length) := emm
              obtain ⟨ii, hj, hj0, hj1, hj2⟩ := info_int
              have HJ : Hid (Tryd.prog.info? 3 = some ii ∧ ii.zero = some (.int .i64 0) ∧ ii.size = 1 ∧ ii.bytes = 8) := ⟨hj, hj0, hj1, hj2⟩
              clear hj hj0 hj1 hj2 emm
              rw [← EM.out] at D7 D8 D9 D10 D11 K4 K5 K6 ⊢
              have OM : Hid (w11.ownsRow w.heap.size 3 1 (.slice qm mm cm) mm ((marks l1).map (Value.int .i64))) := by have o := D11.out.m; unfold Io at o; rw [← EM.out] at o; exact o
              go_wp2_with (at_builtin; refine wpList_append_lies _ rfl _ _ 32 rfl w.heap.size 3 ii (.int .i64 0) 1 8 Tryd.underlying32 HJ.out.1 HJ.out.2.1 HJ.out.2.2.1 HJ.out.2.2.2 rfl (by decide) (.slice qm mm cm) mm ((marks l1).map (Value.int .i64)) rfl (by exact own_block OM.out fun b z => ((Below.refl w11.heap.size w11).alloc (Nat.le_refl _) _).block b (own_lt OM.out b z).2) ⟨w11.heap.size, 0, none⟩ 1 1 [.int .i64 (B2 : Int)] rfl rfl (by exact new_int w11 _ rfl _ _) (int_one _) (by omega) (by unfold maxLen; omega) (by omega) (by have := D11.out.bel.size; simp; omega) (w11.heap.size + 1) (by simp) ?_; intro gg gc w12 hown hgrow hat hgl; have G5 : Hid ((w11.alloc (.cells #[.int .i64 (B2 : Int)] 3)).grownBy w12 (Value.slice qm mm cm).ownBlock ∧ ((Value.slice qm mm cm).ownBlock = some gg ∨ gg = w11.heap.size + 1)) := ⟨hgrow, hat⟩; have O5 : Hid (w12.ownsRow w.heap.size 3 1 (.slice (some ⟨gg, 0, none⟩) (mm + 1) gc) (mm + 1) ((marks l1).map (Value.int .i64) ++ [.int .i64 (B2 : Int)])) := hown; clear hown hgrow hat hgl)
              have K12 : Hid (KS w w12 B P l2 (.slice (some ⟨g5, 0, none⟩) (l1.es.length + 1) c5) (.slice (some ⟨gg, 0, none⟩) (mm + 1) gc) (.slice none 0 0)) := by
                have hba := (Below.refl w11.heap.size w11).alloc (Nat.le_refl _) (.cells #[.int .i64 (B2 : Int)] 3)
                refine (D11.out.later hba).done ?_ G5.out.1 (fun b z => ?_) (by decide)
                · unfold Io
                  rw [FB.out.2, List.length_append, List.map_append, ← EM.out, ← EB2.out]
                  exact O5.out
                · have e : gg = b := by simpa [Value.ownBlock] using z
                  subst e
                  refine G5.out.2.imp id fun z => ?_
                  rw [z]
                  simp
              refine K12.out.all.mono ?_
              rintro e w13 ⟨v13, rfl, ho, hk, hb⟩
              have K13 : Hid (KS w w13 B P l2 (.slice (some ⟨g5, 0, none⟩) (l1.es.length + 1) c5) (.slice (some ⟨gg, 0, none⟩) (mm + 1) gc) (.slice none 0 0) ∧ Eo w13 w12.heap.size v13 l2.es) := ⟨hk, ho⟩
              clear hk ho hb
              go_wp2_with fail
              refine (events_same _ _ _ _ l2.es w13 K13.out.2 K13.out.1.d K13.out.1.inv.small.1).mono ?_
              rintro e w14 ⟨rfl, m14, rfl⟩
              go_wp2
              go_roundw
              case rel => exact ⟨k0 + 1, i1 + 1, by omega, by go_num, by omega, by go_num, _, K13.out.1.later (drewsL (Below.refl _ _) _)⟩
              case measure => simp [intOf]; omega
            · have K7 : Hid (KS w w7 B P (doL l1 (p0, p1, p2) k7) u15 u16 (.slice none 0 0)) := (hks hz).bare
              obtain ⟨d, ed⟩ : ∃ d, d = doC l1 (p0, p1, p2) := ⟨_, rfl⟩
              have TD : Hid (d = 6 ∨ d = ck) := by rw [ed, EB.out.1]; exact do_told
              rw [← ed] at hz ⊢
              clear hks hkd ed
              have EN : Hid (errV d = _) := errV_no hz
              have HZ : Hid (d ≠ 0) := hz
              rw [EN.out]
              clear hz
              go_wp2_with fail
              refine (show Calls Tryd.prog 7 #[.iface 49 (.int .i64 d), .int .i64 6] w7 _ by rw [← EN.out]; exact errV_same d 6 w7 (H.out.1.later K7.out.bel)).mono ?_
              rintro e w8 ⟨rfl, hb⟩
              have K8 : Hid (KS w w8 B P (doL l1 (p0, p1, p2) k7) u15 u16 (.slice none 0 0)) := K7.out.later hb
              clear hb
              obtain ⟨st, est⟩ : ∃ st, st = decide (d = 6) := ⟨_, rfl⟩
              rw [← est]
              have ES : Hid (st = decide (d = 6)) := est
              clear est
              go_wp2_with fail
              refine (show Calls Tryd.prog 7 #[.iface 49 (.int .i64 d), .int .i64 ck] w8 _ by rw [← EN.out]; exact errV_same d ck w8 (H.out.1.later K8.out.bel)).mono ?_
              rintro e w9 ⟨rfl, hb⟩
              have K9 : Hid (KS w w9 B P (doL l1 (p0, p1, p2) k7) u15 u16 (.slice none 0 0)) := K8.out.later hb
              clear hb
              obtain ⟨td, etd⟩ : ∃ td, td = decide (d = ck) := ⟨_, rfl⟩
              rw [← etd]
              have OR : st = true ∨ td = true := by rw [ES.out, etd]; rcases TD.out with z | z <;> simp [z]
              clear etd
              rcases OR with rfl | rfl
              · go_wp2_with fail
                refine K9.out.all.mono ?_
                rintro e w10 ⟨v10, rfl, ho, hk, hb⟩
                have K10 : Hid (KS w w10 B P (doL l1 (p0, p1, p2) k7) u15 u16 (.slice none 0 0) ∧ Eo w10 w9.heap.size v10 (doL l1 (p0, p1, p2) k7).es) := ⟨hk, ho⟩
                clear hk ho hb
                go_wp2_with fail
                refine (events_same _ _ _ _ _ w10 K10.out.2 K10.out.1.d K10.out.1.inv.small.1).mono ?_
                rintro e w11 ⟨rfl, m11, rfl⟩
                go_wp2
                go_roundw
                case rel => exact ⟨k0 + 1, i1 + 1, by omega, by go_num, by omega, by go_num, _, K10.out.1.later (drewsL (Below.refl _ _) _)⟩
                case measure => simp [intOf]; omega
              · cases st
                · go_wp2_with fail
                  refine K9.out.all.mono ?_
                  rintro e w10 ⟨v10, rfl, ho, hk, hb⟩
                  have K10 : Hid (KS w w10 B P (doL l1 (p0, p1, p2) k7) u15 u16 (.slice none 0 0) ∧ Eo w10 w9.heap.size v10 (doL l1 (p0, p1, p2) k7).es) := ⟨hk, ho⟩
                  clear hk ho hb
                  go_wp2_with fail
                  refine (events_same _ _ _ _ _ w10 K10.out.2 K10.out.1.d K10.out.1.inv.small.1).mono ?_
                  rintro e w11 ⟨rfl, m11, rfl⟩
                  go_wp2
                  go_roundw
                  case rel => exact ⟨k0 + 1, i1 + 1, by omega, by go_num, by omega, by go_num, _, K10.out.1.later (drewsL (Below.refl _ _) _)⟩
                  case measure => simp [intOf]; omega
                · go_wp2_with fail
                  refine K9.out.all.mono ?_
                  rintro e w10 ⟨v10, rfl, ho, hk, hb⟩
                  have K10 : Hid (KS w w10 B P (doL l1 (p0, p1, p2) k7) u15 u16 (.slice none 0 0) ∧ Eo w10 w9.heap.size v10 (doL l1 (p0, p1, p2) k7).es) := ⟨hk, ho⟩
                  clear hk ho hb
                  go_wp2_with fail
                  refine (events_same _ _ _ _ _ w10 K10.out.2 K10.out.1.d K10.out.1.inv.small.1).mono ?_
                  rintro e w11 ⟨rfl, m11, rfl⟩
                  go_wp2
                  go_roundw
                  case rel => exact ⟨k0 + 1, i1 + 1, by omega, by go_num, by omega, by go_num, _, K10.out.1.later (drewsL (Below.refl _ _) _)⟩
                  case measure => simp [intOf]; omega
    · have hin2 : i1 ≤ n := hin
      by_cases hk : k0 < 16
      · have g1 : decide ((k0 : Int) < 16) = true := decide_eq_true (by omega)
        have g2 : decide ((i1 : Int) < (n : Int)) = false := decide_eq_false (by omega)
        have g4 : (k0 : Int) < 16 := by omega
        have g5 : ¬ (i1 : Int) < (n : Int) := by omega
        go_wp2_with fail
        exact hQ i1 hin2 ⟨_, K1.out⟩
      · have g1 : decide ((k0 : Int) < 16) = false := decide_eq_false (by omega)
        have g4 : ¬ (k0 : Int) < 16 := by omega
        go_wp2_with fail
        exact hQ i1 hin2 ⟨_, K1.out⟩
end Go.Proofs.YtpjoaogiaacikakDoor.Lgs
