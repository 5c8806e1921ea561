/-
  The walk of AgainPlays: anything that is said, asked for, freed, and that comes: what is refused, what is heard, what lacks, are what the document tells.
-/
import Derived.Test.YtdhlfbpflngmbafDoorAgpA
import Derived.Test.YtdhlfbpflngmbafDoorAgpI
import Derived.Test.YtdhlfbpflngmbafDoorAgpK
namespace Go.Proofs.YtdhlfbpflngmbafDoor.Aga
open Go.RowKit
open Go.Proofs.YtdhlfbpflngmbafDoor.As (Laid)
open Go.Proofs.YtdhlfbpflngmbafDoor.Fif (Cm Inv RS rsv tk tkC tk_no tk_ok run own_lt own_block own_form own_mono own_vw Kp ret_bool)
open Go.Proofs.YtdhlfbpflngmbafDoor.Sep (KpL NewL setF set_same set_other)
open Go.Proofs.YtdhlfbpflngmbafDoor.Vec (Vw Rw ints_any)
set_option linter.unusedVariables false
theorem PG.var {w wr w' : World} {Ps Ph M Q : Nat} {said : List Int} {free : Nat} {h : Int} {ws : List Cm} {rs : List Int} {rf : Nat} {H : List Int} {rw : List Cm} {vS vW : Value} {F : Nat → List Nat} (g : PG w Ps Ph M Q wr said free h ws rs rf H rw vS vW F) {f : Nat → Value} (hf : w'.rowIs wr.heap.size 36 3 f) (hb : Below wr.heap.size wr w') : PG w Ps Ph M Q w' said free h ws rs rf H rw vS vW (setF F 4 [wr.heap.size]) := by
  have g' := g.still hb
  exact ⟨by rw [set_other _ _ (by omega)]; exact g'.s, by rw [set_other _ _ (by omega)]; exact g'.h, g'.m, g'.o, g'.r, by rw [set_other _ _ (by omega)]; exact g.f2, by rw [set_other _ _ (by omega)]; exact g.f3, f5_set g.f5 (by omega) _, g.sep.put (by omega) hb.size (Sep.NewL.fresh fun b hb => by rw [List.mem_singleton.1 hb]; exact Nat.le_refl _) (fun b hb' => by rw [List.mem_singleton.1 hb']; exact ⟨g.bel.size, World.rowIs.lt hf⟩), g'.bel⟩
theorem PA.start {w w1 w2 W1 W2 : World} {Ps Ph M Q : Nat} {f1 f2 : List Nat} (hs : SS w1 w.heap.size Ps [] 0 f1) (hb1 : Below w.heap.size w w1) (hh : HS w2 w1.heap.size Ph 0 [] f2) (hb2 : Below w1.heap.size w1 w2) (eM : M = w2.heap.size) (eQ : Q = w2.heap.size + 1)
    (eW1 : W1 = w2.alloc (.cells #[.slice none 0 0, .int .i64 0] 30)) (eW2 : W2 = W1.alloc (.cells #[.int .i64 0, .int .i64 0, .int .i64 0, .int .i64 0, .int .i64 0, .slice none 0 0] 35)) : PA w Ps Ph M Q 0 W2 := by
  have s1 : W1.heap.size = w2.heap.size + 1 := by rw [eW1]; simp
  have s2 : W2.heap.size = w2.heap.size + 2 := by rw [eW2]; simp; omega
  have b3 : Below w2.heap.size w2 W1 := by rw [eW1]; exact (Below.refl _ _).alloc (Nat.le_refl _) _
  have b4 : Below W1.heap.size W1 W2 := by rw [eW2]; exact (Below.refl _ _).alloc (Nat.le_refl _) _
  have b24 : Below w2.heap.size w2 W2 := b3.trans (b4.mono b3.size)
  have b12 : Below w.heap.size w w2 := hb1.trans (hb2.mono hb1.size)
  have rM : W1.rowIs M 30 2 (mv (.slice none 0 0) 0) := by
    rw [eW1, eM]
    exact World.rowIs_alloc w2 _ 30 (mv (.slice none 0 0) 0) (fun i hi => by
      rcases i with _ | _ | i <;> first | rfl | (exfalso; have : _ < 2 := hi; omega))
  have rQ : W2.rowIs Q 35 6 (rsv [0, 0, 0, 0, 0] (.slice none 0 0)) := by
    rw [eW2, eQ, ← s1]
    exact World.rowIs_alloc W1 _ 35 (rsv [0, 0, 0, 0, 0] (.slice none 0 0)) (fun i hi => by
      rcases i with _ | _ | _ | _ | _ | _ | i <;> first | rfl | (exfalso; have : _ < 6 := hi; omega))
  have hb12 := hb2.size
  have hb01 := hb1.size
  refine ⟨[], 0, [0, 0, 0, 0, 0], [], .slice none 0 0, .slice none 0 0, setF (setF (setF (setF (fun _ => []) 0 f1) 1 f2) 2 [M]) 3 [Q], ⟨?_, ?_, World.rowIs.of_block rM (b4.block _ (World.rowIs.lt rM)), Ow.nil _ _, ⟨rQ, World.ownsRow_nil _ _ _ _, rfl, by omega⟩, rfl, rfl, fun i hi => ?_, ?_, b12.trans (b24.mono b12.size)⟩, SInv.start, HInv.start, Fif.Inv.start, by simp⟩
  · rw [set_other _ _ (by omega), set_other _ _ (by omega), set_other _ _ (by omega), set_same]
    have b14 : Below w1.heap.size w1 W2 := hb2.trans (b24.mono hb2.size)
    exact hs.of_blocks b14.size fun b hb => b14.block b (hs.fp b hb).2
  · rw [set_other _ _ (by omega), set_other _ _ (by omega), set_same]
    exact (hh.of_blocks b24.size fun b hb => b24.block b (hh.fp b hb).2).lower hb1.size
  · rw [set_other _ _ (by omega), set_other _ _ (by omega), set_other _ _ (by omega), set_other _ _ (by omega)]
  · have q0 : Sep.Sep w1 w.heap.size (setF (fun _ => []) 0 f1) := (Sep.Sep.none w w.heap.size).put (by omega) hb1.size (Sep.NewL.fresh fun b hb => (hs.fp b hb).1) fun b hb => hs.fp b hb
    have q1 : Sep.Sep w2 w.heap.size (setF (setF (fun _ => []) 0 f1) 1 f2) := q0.put (by omega) hb2.size (Sep.NewL.fresh fun b hb => (hh.fp b hb).1) fun b hb => ⟨Nat.le_trans hb1.size (hh.fp b hb).1, (hh.fp b hb).2⟩
    have q2 : Sep.Sep W1 w.heap.size (setF (setF (setF (fun _ => []) 0 f1) 1 f2) 2 [M]) := q1.put (by omega) b3.size (Sep.NewL.fresh fun b hb => by rw [List.mem_singleton.1 hb]; omega) fun b hb => by rw [List.mem_singleton.1 hb]; omega
    exact q2.put (by omega) b4.size (Sep.NewL.fresh fun b hb => by rw [List.mem_singleton.1 hb]; omega) fun b hb => by rw [List.mem_singleton.1 hb]; omega
set_option maxRecDepth 100000 in
set_option maxHeartbeats 8000000 in
theorem agp_any (a : Option Addr) (len cap : Nat) (ls : List (List Int)) (w : World) (hL : Laid w) (hv : Rw w a len ls) :
    Calls Tryd.prog 3 #[.slice a len cap] w fun e w' => e = .returned (.bool true) ∧ Below w.heap.size w w' := by
  have HL : Hid (Laid w ∧ Rw w a len ls) := ⟨hL, hv⟩
  have hmx := hv.2.1
  unfold maxLen at hmx
  clear hL hv
  go_enter Tryd.func3, Tryd.ntmps3
  go_wp2_with fail
  refine (newS w).mono ?_
  rintro e w1 ⟨Ps, f1, rfl, hS, hb1⟩
  have A1 : Hid (SS w1 w.heap.size Ps [] 0 f1 ∧ Below w.heap.size w w1) := ⟨hS, hb1⟩
  clear hS hb1
  go_wp2_with fail
  refine (newH w1).mono ?_
  rintro e w2 ⟨Ph, f2, rfl, hH, hb2⟩
  have A2 : Hid (HS w2 w1.heap.size Ph 0 [] f2 ∧ Below w1.heap.size w1 w2) := ⟨hH, hb2⟩
  clear hH hb2
  go_wp2_with fail
  obtain ⟨M, eM⟩ : ∃ M, M = w2.heap.size := ⟨_, rfl⟩
  obtain ⟨Q, eQ⟩ : ∃ Q, Q = w2.heap.size + 1 := ⟨_, rfl⟩
  obtain ⟨W1, eW1⟩ : ∃ W1, W1 = w2.alloc (.cells #[.slice none 0 0, .int .i64 0] 30) := ⟨_, rfl⟩
  obtain ⟨W2, eW2⟩ : ∃ W2, W2 = W1.alloc (.cells #[.int .i64 0, .int .i64 0, .int .i64 0, .int .i64 0, .int .i64 0, .slice none 0 0] 35) := ⟨_, rfl⟩
  have P1 : Hid (PA w Ps Ph M Q 0 W2) := PA.start A1.out.1 A1.out.2 A2.out.1 A2.out.2 eM eQ eW1 eW2
  rw [← eW1, ← eW2, ← eQ, ← eM]
  clear eM eQ eW1 eW2 A1 A2
  go_loopw [7] (fun x wr => ∃ i : Nat, i ≤ len ∧ i ≤ 120 ∧ x = .int .i64 (i : Int) ∧ Hid (PA w Ps Ph M Q i wr)) (fun x _ => len - (intOf x).toNat)
  case atStart => exact ⟨0, by omega, by omega, rfl, P1⟩
  case round =>
    clear P1
    obtain ⟨i, hi, hi120, rfl, hR⟩ := hrel
    by_cases hlt : i < len
    · have hi0 : (0 : Int) ≤ (i : Int) := by omega
      have hil : (i : Int) < (len : Int) := by omega
      by_cases h120 : (i : Int) < 120
      · obtain ⟨wo, ewo⟩ : ∃ wo, wo = wr := ⟨_, rfl⟩
        subst ewo
        obtain ⟨said, free, H, ws, vS, vW, F, hp⟩ := hR.out
        have R : Hid (PG w Ps Ph M Q wo said free (H.getD 0 0) ws said free H ws vS vW F ∧ SInv said free ∧ HInv (H.getD 0 0) ws ∧ Inv H ws ∧ said.length ≤ i) := hp
        clear hp hR
        have hRw := HL.out.2.later R.out.1.bel
        obtain ⟨b, off, rfl, hbl, hcs⟩ := hRw.2.2 (by omega)
        obtain ⟨qi, ci, x0, hvi, hmi⟩ := hcs i hlt
        obtain ⟨li, eli⟩ : ∃ li, li = (ls.getD i []).length := ⟨_, rfl⟩
        rw [← eli] at x0 hvi hmi
        have XV : Hid (wo.cell? ⟨b, off + i, none⟩ = some (.slice qi li ci) ∧ b < wo.heap.size ∧ Vw wo qi li (ls.getD i [])) := ⟨x0, hbl, hvi⟩
        unfold maxLen at hmi
        clear hRw hcs hvi eli hbl
        obtain ⟨W2, eW2⟩ : ∃ W2, W2 = wo.alloc (.cells #[.int .i64 0, .int .i64 0, .int .i64 0] 36) := ⟨_, rfl⟩
        have A1 : Hid (R3n wo W2) := by
          refine ⟨fun _ => 0, ?_, ?_⟩
          · rw [eW2]
            exact World.rowIs_alloc wo _ 36 (fun _ => .int .i64 0) (fun i hi => by
              rcases i with _ | _ | _ | i <;> first | rfl | (exfalso; have : _ < 3 := hi; omega))
          · rw [eW2]; exact (Below.refl _ _).alloc (Nat.le_refl _) _
        clear x0
        go_upto_block 2 with fail
        rw [← eW2]
        clear eW2
        rename_i KK2 hKK2
        refine ain_any b off len cap i li ls qi ci wo W2 hi0 hil hmi XV A1 _ _ _ _ _ _ _ _ _ _ _ _ _ _ _ _ _ _ _ _ _ _ _ _ _ _ _ _ _ _ _ _ _ _ _ _ _ _ _ _ _ _ _ _ _ _ _ _ _ _ _ _ _ _ _ _ _ _ _ _ _ _ _ _ _ _ _ _ _ _ _ _ _ _ _ _ _ _ _ _ _ _ _ _ _ _ _ _ _ _ _ _ _ _ _ _ _ _ _ _ _ _ _ _ _ _ _ _ _ _ _ _ _ _ _ _ _ _ _ _ _ _ _ _ _ _ _ _ _ _ _ _ _ _ _ _ _ _ _ _ _ _ _ _ _ _ _ _ _ _ _ _ _ _ _ _ _ _ _ _ _ _ _ _ _ _ _ _ _ _ _ _ _ _ _ _ _ _ _ _ _ _ _ _ _ _ _ _ _ _ _ _ _ _ _ _ _ _ _ _ _ _ _ _ _ _ _ _ _ _ _ _ _ _ _ _ _ _ _ _ _ _ _ _ _ _ _ _ _ _ _ _ _ _ _ _ _ _ _ _ _ _ _ _ _ _ _ _ _ _ _ _ _ _ _ _ _ _ _ _ _ _ _ _ _ _ _ _ _ _ _ _ _ _ _ _ _ _ _ _ _ _ _ _ _ _ _ _ _ _ _ _ _ _ _ _ _ _ _ _ _ _ _ _ ?_
        intro s9 s35 s36 s37 s38 s39 s40 s41 s42 s43 s44 s45 s46 s47 s48 s49 s50 s51 s52 s53 s54 s55 s56 s57 s58 s59 s60 s61 s62 s63 s64 s65 s66 s67 s68 s69 s70 s71 s72 s73 s74 s75 s76 s77 s78 s79 s80 s81 s82 s83 s84 s85 s86 s87 s88 s89 s90 s91 s92 s93 s94 s95 s96 s97 s98 s99 s100 s101 s102 s103 s104 s105 s106 s107 s108 s109 s110 s111 s112 s113 s114 s115 s116 s117 s118 s119 s120 s121 s122 s123 s124 s125 s126 s127 s128 s129 s130 s131 s132 s133 s134 s135 s136 s137 s138 s139 s140 s141 s142 s143 s144 s145 s146 s147 s148 s149 s150 s151 s152 s153 s154 s155 s156 s157 s158 s159 s160 s161 s162 s163 s164 s165 s166 s167 s168 s169 s170 s171 s172 s173 s174 s175 s176 s177 s178 s179 s180 s181 s182 s183 s184 s185 s186 s187 s188 s189 s190 s191 s192 s193 s194 s195 s196 s197 s198 s199 s200 s201 s202 s203 s204 s205 s206 s207 s208 s209 s210 s211 s212 s213 s214 s215 s216 s217 s218 s219 s220 s221 s222 s223 s224 s225 s226 s227 s228 s229 s230 s231 s232 s233 s234 s235 s236 s237 s238 s239 s240 s241 s242 s243 s244 s245 s246 s247 s248 s249 s250 s251 s252 s253 s254 s255 s256 s257 s258 s259 s260 s261 s262 s263 s264 s265 s266 s267 s268 s269 s270 s271 s272 s273 s274 s275 s276 s277 s278 s279 s280 s281 s282 s283 s284 s285 s286 s287 s288 s289 s290 s291 s292 s293 s294 s295 s296 s297 s298 s299 s300 s301 s302 s303 s304 s305 s306 wc hcut
        refine hKK2 _ _ ?_
        clear hKK2
        · obtain ⟨f, hf, hb⟩ := hcut.out
          obtain ⟨k0, e0⟩ : ∃ k, k = f 0 := ⟨_, rfl⟩
          obtain ⟨k1, e1⟩ : ∃ k, k = f 1 := ⟨_, rfl⟩
          obtain ⟨k2, e2⟩ : ∃ k, k = f 2 := ⟨_, rfl⟩
          have G2 : Hid (PG w Ps Ph M Q wc said free (H.getD 0 0) ws said free H ws vS vW (setF F 4 [wo.heap.size]) ∧ V3 wc wo.heap.size k0 k1 k2) := by
            refine ⟨R.out.1.var hf hb, ⟨World.rowIs.lt hf, ?_, ?_, ?_, ?_⟩⟩
            · rw [e0]; exact World.rowIs.cell hf (i := 0) (by omega)
            · rw [e1]; exact World.rowIs.cell hf (i := 1) (by omega)
            · rw [e2]; exact World.rowIs.cell hf (i := 2) (by omega)
            · intro c fr q
              obtain ⟨c', hc', _⟩ := hf
              rw [q] at hc'
              injection hc' with z
              injection z with _ z _
              exact absurd z (by decide)
          obtain ⟨V, eV⟩ : ∃ V, V = wo.heap.size := ⟨_, rfl⟩
          rw [← eV] at G2 ⊢
          obtain ⟨F', eF'⟩ : ∃ F', F' = setF F 4 [V] := ⟨_, rfl⟩
          rw [← eF'] at G2
          have G3 : Hid (PG w Ps Ph M Q wc said free (H.getD 0 0) ws said free H ws vS vW F' ∧ V3 wc V k0 k1 k2 ∧ F' 4 = [V] ∧ SInv said free ∧ HInv (H.getD 0 0) ws ∧ Inv H ws ∧ said.length ≤ i) := ⟨G2.out.1, G2.out.2, by rw [eF', set_same], R.out.2⟩
          clear hf hb e0 e1 e2 hcut eV eF' G2 R
          obtain ⟨w2, ew2⟩ : ∃ w2, w2 = wc := ⟨_, rfl⟩
          subst ew2
          obtain ⟨_, y0, y1, y2, -⟩ := G3.out.2.1
          go_upto_block 4 with fail
          rename_i KK4 hKK4
          refine aw_any w Ps Ph M Q V said free H ws vS vW F' i k0 k1 k2 w2 HL.out.1 (by omega) G3 _ _ _ _ _ _ _ _ _ _ _ _ _ _ _ _ _ _ _ _ _ _ _ _ _ _ _ _ _ _ _ _ _ _ _ _ _ _ _ _ _ _ _ _ _ _ _ _ _ _ _ _ _ _ _ _ _ _ _ _ _ _ _ _ _ _ _ _ _ _ _ _ _ _ _ _ _ _ _ _ _ _ _ _ _ _ _ _ _ _ _ _ _ _ _ _ _ _ _ _ _ _ _ _ _ _ _ _ _ _ _ _ _ _ _ _ _ _ _ _ _ _ _ _ _ _ _ _ _ _ _ _ _ _ _ _ _ _ _ _ _ _ _ _ _ _ _ _ _ _ _ _ _ _ _ _ _ _ _ _ _ _ _ _ _ _ _ _ _ _ _ _ _ _ _ _ _ _ _ _ _ _ _ _ _ _ _ _ _ _ _ _ _ _ _ _ _ _ _ _ _ _ _ _ _ _ _ _ _ _ _ _ _ _ _ _ _ _ _ _ _ _ _ _ _ _ _ _ _ _ _ _ _ _ _ _ _ _ _ _ _ _ _ _ _ _ _ _ _ _ _ _ _ _ _ _ _ _ _ _ _ _ _ _ _ _ _ _ _ _ _ _ _ _ _ _ _ _ _ _ _ _ _ _ _ _ _ _ _ _ _ _ _ _ _ _ _ _ _ _ ?_
          intro r10 r12 r13 r14 r15 r16 r17 r18 r19 r20 r21 r35 r36 r37 r38 r39 r40 r41 r42 r43 r44 r45 r46 r47 r48 r49 r50 r51 r52 r53 r54 r55 r56 r57 r58 r59 r60 r61 r62 r63 r64 r65 r66 r67 r68 r69 r70 r71 r72 r73 r74 r75 r76 r77 r78 r79 r80 r81 r82 r83 r84 r85 r86 r87 r88 r89 r90 r91 r92 r93 r94 r95 r96 r97 r98 r99 r100 r101 r102 r103 r104 r105 r106 r107 r108 r109 r110 r111 r112 r113 r114 r115 r116 r117 r118 r119 r120 r121 r122 r123 r124 r125 r126 r127 r128 r129 r130 r131 r132 r133 r134 r135 r136 r137 r138 r139 r140 r141 r142 r143 r144 r145 r146 r147 r148 r149 r150 r151 r152 r153 r154 r155 r156 r157 r158 r159 r160 r161 r162 r163 r164 r165 r166 r167 r168 r169 r170 r171 r172 r173 r174 r175 r176 r177 r178 r179 r180 r181 r182 r183 r184 r185 r186 r187 r188 r189 r190 r191 r192 r193 r194 r195 r196 r197 r198 r199 r200 r201 r202 r203 r204 r205 r206 r207 r208 r209 r210 r211 r212 r213 r214 r215 r216 r217 r218 r219 r220 r221 r222 r223 r224 r225 r226 r227 r228 r229 r230 r231 r232 r233 r234 r235 r236 r237 r238 r239 r240 r241 r242 r243 r244 r245 r246 r247 r248 r249 r250 r251 r252 r253 r254 r255 r256 r257 r258 r259 r260 r261 r262 r263 r264 r265 r266 r267 r268 r269 r270 r271 r272 r273 r274 r275 r276 r277 r278 r279 r280 r281 r282 r283 r284 r285 r286 r287 r288 r289 r290 r291 r292 r293 r294 r295 r296 r297 r298 r299 r300 r301 r302 r303 r304 r305 r306 wc hx
          refine hKK4 _ _ ?_
          clear hKK4 G3 y0 y1 y2
          · obtain ⟨said, free, H, ws, vS, vW, F, g1, g2, g3⟩ := hx.out
            obtain ⟨h, eh⟩ : ∃ h, h = H.getD 0 0 := ⟨_, rfl⟩
            have x0 : wc.cell? ⟨Q, 0, none⟩ = some (.int .i64 h) := by rw [eh]; exact (Fif.RS.num g1.r (m := 0) (by omega)).1
            have EH : Hid (h = H.getD 0 0) := eh
            rw [← eh] at g1 g3
            have PT : Hid (PG w Ps Ph M Q wc said free h ws said free H ws vS vW F ∧ V3 wc V k0 k1 k2 ∧ F 4 = [V] ∧ SInv said free ∧ HInv h ws ∧ Inv H ws ∧ said.length ≤ i + 1) := ⟨g1, g2, g3⟩
            obtain ⟨_, y0, y1, y2, -⟩ := PT.out.2.1
            have hlow := PT.out.2.2.2.2.1.low
            have hhigh := PT.out.2.2.2.2.1.high
            clear hx g1 g2 g3 eh
            by_cases h1 : k1 < 0
            · have d1 : decide (k1 < 0) = true := decide_eq_true h1
              have EC : Hid ((1 : Int) = lkC k1) := (if_pos (.inl h1)).symm
              go_upto_block 5 with fail
              rename_i KK5 hKK5
              refine ak_any w.heap.size Q V h ws H vW k0 k1 k2 1 wc PT.out.2.1 PT.out.1.r PT.out.2.2.2.2.1 EC.out _ _ _ _ _ _ _ _ _ _ _ _ _ _ _ _ _ _ _ _ _ _ _ _ _ _ _ _ _ _ _ _ _ _ _ _ _ _ _ _ _ _ _ _ _ _ _ _ _ _ _ _ _ _ _ _ _ _ _ _ _ _ _ _ _ _ _ _ _ _ _ _ _ _ _ _ _ _ _ _ _ _ _ _ _ _ _ _ _ _ _ _ _ _ _ _ _ _ _ _ _ _ _ _ _ _ _ _ _ _ _ _ _ _ _ _ _ _ _ _ _ _ _ _ _ _ _ _ _ _ _ _ _ _ _ _ _ _ _ _ _ _ _ _ _ _ _ _ _ _ _ _ _ _ _ _ _ _ _ _ _ _ _ _ _ _ _ _ _ _ _ _ _ _ _ _ _ _ _ _ _ _ _ _ _ _ _ _ _ _ _ _ _ _ _ _ _ _ _ _ _ _ _ _ _ _ _ _ _ _ _ _ _ _ _ _ _ _ _ _ _ _ _ _ _ _ _ _ _ _ _ _ _ _ _ _ _ _ _ _ _ _ _ _ _ _ _ _ _ _ _ _ _ _ _ _ _ _ _ _ _ _ _ _ _ _ _ _ _ _ _ _ _ _ _ _ _ _ _ _ _ _ _ _ _ _ _ _ _ _ _ _ _ _ _ _ _ _ _ _ _ _ _ ?_
              intro t22 t23 t24 t25 t35 t36 t37 t38 t39 t40 t41 t42 t43 t44 t45 t46 t47 t48 t49 t50 t51 t52 t53 t54 t55 t56 t57 t58 t59 t60 t61 t62 t63 t64 t65 t66 t67 t68 t69 t70 t71 t72 t73 t74 t75 t76 t77 t78 t79 t80 t81 t82 t83 t84 t85 t86 t87 t88 t89 t90 t91 t92 t93 t94 t95 t96 t97 t98 t99 t100 t101 t102 t103 t104 t105 t106 t107 t108 t109 t110 t111 t112 t113 t114 t115 t116 t117 t118 t119 t120 t121 t122 t123 t124 t125 t126 t127 t128 t129 t130 t131 t132 t133 t134 t135 t136 t137 t138 t139 t140 t141 t142 t143 t144 t145 t146 t147 t148 t149 t150 t151 t152 t153 t154 t155 t156 t157 t158 t159 t160 t161 t162 t163 t164 t165 t166 t167 t168 t169 t170 t171 t172 t173 t174 t175 t176 t177 t178 t179 t180 t181 t182 t183 t184 t185 t186 t187 t188 t189 t190 t191 t192 t193 t194 t195 t196 t197 t198 t199 t200 t201 t202 t203 t204 t205 t206 t207 t208 t209 t210 t211 t212 t213 t214 t215 t216 t217 t218 t219 t220 t221 t222 t223 t224 t225 t226 t227 t228 t229 t230 t231 t232 t233 t234 t235 t236 t237 t238 t239 t240 t241 t242 t243 t244 t245 t246 t247 t248 t249 t250 t251 t252 t253 t254 t255 t256 t257 t258 t259 t260 t261 t262 t263 t264 t265 t266 t267 t268 t269 t270 t271 t272 t273 t274 t275 t276 t277 t278 t279 t280 t281 t282 t283 t284 t285 t286 t287 t288 t289 t290 t291 t292 t293 t294 t295 t296 t297 t298 t299 t300 t301 t302 t303 t304 t305 t306 w7 L7
              refine hKK5 _ _ ?_
              clear hKK5
              obtain ⟨q7, cp7, e7⟩ := own_form L7.out.1
              obtain ⟨n7, en7⟩ : ∃ n7, n7 = (lkL h ws k1).length := ⟨_, rfl⟩
              rw [← en7] at e7
              subst e7
              have O7 : Hid (w7.ownsRow wc.heap.size 3 1 (.slice q7 n7 cp7) n7 ((lkL h ws k1).map (Value.int .i64))) := by show w7.ownsRow wc.heap.size 3 1 (.slice q7 n7 cp7) n7 ((lkL h ws k1).map (Value.int .i64)); have o := L7.out.1; unfold Ow at o; rw [← en7] at o; exact o
              have G7 : Hid (PG w Ps Ph M Q w7 said free h ws said free H ws vS vW F ∧ V3 w7 V k0 k1 k2 ∧ n7 = (lkL h ws k1).length) := ⟨PT.out.1.still L7.out.2, PT.out.2.1.later L7.out.2, en7⟩
              obtain ⟨_, y0, y1, y2, -⟩ := G7.out.2.1
              clear en7
              go_wp2_with fail
              refine (lacksH w.heap.size Ph h ws (F 1) k1 w7 G7.out.1.h PT.out.2.2.2.2.1).mono ?_
              rintro e w8 ⟨v8, rfl, ho8, hb8⟩
              rw [← EC.out]
              obtain ⟨q8, cp8, rfl, hv8, hm8⟩ := own_ints ho8
              obtain ⟨q7', cp7', e7', hv7, hm7⟩ := own_ints (own_block O7.out (fun b hb => hb8.block b (own_lt O7.out b hb).2))
              cases e7'
              have G8 : Hid (PG w Ps Ph M Q w8 said free h ws said free H ws vS vW F ∧ Vw w8 q8 n7 (lkL h ws k1) ∧ Vw w8 q7 n7 (lkL h ws k1) ∧ n7 ≤ maxLen) := by
                rw [G7.out.2.2]
                exact ⟨G7.out.1.still hb8, hv8, by rw [← G7.out.2.2]; exact hv7, hm8⟩
              rw [← G7.out.2.2]
              clear ho8 hb8 hv8 hm8 hv7 hm7 y0 y1 y2
              go_wp2_with fail
              refine (errF_same 1 w8 (HL.out.1.later G8.out.1.bel)).mono ?_
              rintro e w9 ⟨rfl, hb9⟩
              have G9 : Hid (PG w Ps Ph M Q w9 said free h ws said free H ws vS vW F ∧ Vw w9 q8 n7 (lkL h ws k1) ∧ Vw w9 q7 n7 (lkL h ws k1)) := ⟨G8.out.1.still hb9, G8.out.2.1.later hb9, G8.out.2.2.1.later hb9⟩
              clear hb9
              go_wp2_with fail
              refine (ints_eq q8 q7 n7 cp8 n7 cp7 (lkL h ws k1) w9 G9.out.2.1 G9.out.2.2 G8.out.2.2.2).mono ?_
              rintro e wA ⟨rfl, mA, rfl⟩
              have PZ : Hid (PA w Ps Ph M Q (i + 1) (w9.drewN mA)) := ⟨said, free, H, ws, vS, vW, F, by rw [← EH.out]; exact G9.out.1.still (drewsA (Below.refl _ _) mA), PT.out.2.2.2.1, by rw [← EH.out]; exact PT.out.2.2.2.2.1, PT.out.2.2.2.2.2⟩
              go_wp2
              go_roundw
              case rel => exact ⟨i + 1, by omega, by omega, by go_num, PZ.out⟩
              case measure => simp [intOf]; omega
            · have d1 : decide (k1 < 0) = false := decide_eq_false h1
              by_cases h2 : 1000000 < k1
              · have d2 : decide (k1 > 1000000) = true := decide_eq_true h2
                have EC : Hid ((1 : Int) = lkC k1) := (if_pos (.inr h2)).symm
                go_upto_block 5 with fail
                rename_i KK5 hKK5
                refine ak_any w.heap.size Q V h ws H vW k0 k1 k2 1 wc PT.out.2.1 PT.out.1.r PT.out.2.2.2.2.1 EC.out _ _ _ _ _ _ _ _ _ _ _ _ _ _ _ _ _ _ _ _ _ _ _ _ _ _ _ _ _ _ _ _ _ _ _ _ _ _ _ _ _ _ _ _ _ _ _ _ _ _ _ _ _ _ _ _ _ _ _ _ _ _ _ _ _ _ _ _ _ _ _ _ _ _ _ _ _ _ _ _ _ _ _ _ _ _ _ _ _ _ _ _ _ _ _ _ _ _ _ _ _ _ _ _ _ _ _ _ _ _ _ _ _ _ _ _ _ _ _ _ _ _ _ _ _ _ _ _ _ _ _ _ _ _ _ _ _ _ _ _ _ _ _ _ _ _ _ _ _ _ _ _ _ _ _ _ _ _ _ _ _ _ _ _ _ _ _ _ _ _ _ _ _ _ _ _ _ _ _ _ _ _ _ _ _ _ _ _ _ _ _ _ _ _ _ _ _ _ _ _ _ _ _ _ _ _ _ _ _ _ _ _ _ _ _ _ _ _ _ _ _ _ _ _ _ _ _ _ _ _ _ _ _ _ _ _ _ _ _ _ _ _ _ _ _ _ _ _ _ _ _ _ _ _ _ _ _ _ _ _ _ _ _ _ _ _ _ _ _ _ _ _ _ _ _ _ _ _ _ _ _ _ _ _ _ _ _ _ _ _ _ _ _ _ _ _ _ _ _ _ _ _ _ ?_
                intro t22 t23 t24 t25 t35 t36 t37 t38 t39 t40 t41 t42 t43 t44 t45 t46 t47 t48 t49 t50 t51 t52 t53 t54 t55 t56 t57 t58 t59 t60 t61 t62 t63 t64 t65 t66 t67 t68 t69 t70 t71 t72 t73 t74 t75 t76 t77 t78 t79 t80 t81 t82 t83 t84 t85 t86 t87 t88 t89 t90 t91 t92 t93 t94 t95 t96 t97 t98 t99 t100 t101 t102 t103 t104 t105 t106 t107 t108 t109 t110 t111 t112 t113 t114 t115 t116 t117 t118 t119 t120 t121 t122 t123 t124 t125 t126 t127 t128 t129 t130 t131 t132 t133 t134 t135 t136 t137 t138 t139 t140 t141 t142 t143 t144 t145 t146 t147 t148 t149 t150 t151 t152 t153 t154 t155 t156 t157 t158 t159 t160 t161 t162 t163 t164 t165 t166 t167 t168 t169 t170 t171 t172 t173 t174 t175 t176 t177 t178 t179 t180 t181 t182 t183 t184 t185 t186 t187 t188 t189 t190 t191 t192 t193 t194 t195 t196 t197 t198 t199 t200 t201 t202 t203 t204 t205 t206 t207 t208 t209 t210 t211 t212 t213 t214 t215 t216 t217 t218 t219 t220 t221 t222 t223 t224 t225 t226 t227 t228 t229 t230 t231 t232 t233 t234 t235 t236 t237 t238 t239 t240 t241 t242 t243 t244 t245 t246 t247 t248 t249 t250 t251 t252 t253 t254 t255 t256 t257 t258 t259 t260 t261 t262 t263 t264 t265 t266 t267 t268 t269 t270 t271 t272 t273 t274 t275 t276 t277 t278 t279 t280 t281 t282 t283 t284 t285 t286 t287 t288 t289 t290 t291 t292 t293 t294 t295 t296 t297 t298 t299 t300 t301 t302 t303 t304 t305 t306 w7 L7
                refine hKK5 _ _ ?_
                clear hKK5
                obtain ⟨q7, cp7, e7⟩ := own_form L7.out.1
                obtain ⟨n7, en7⟩ : ∃ n7, n7 = (lkL h ws k1).length := ⟨_, rfl⟩
                rw [← en7] at e7
                subst e7
                have O7 : Hid (w7.ownsRow wc.heap.size 3 1 (.slice q7 n7 cp7) n7 ((lkL h ws k1).map (Value.int .i64))) := by show w7.ownsRow wc.heap.size 3 1 (.slice q7 n7 cp7) n7 ((lkL h ws k1).map (Value.int .i64)); have o := L7.out.1; unfold Ow at o; rw [← en7] at o; exact o
                have G7 : Hid (PG w Ps Ph M Q w7 said free h ws said free H ws vS vW F ∧ V3 w7 V k0 k1 k2 ∧ n7 = (lkL h ws k1).length) := ⟨PT.out.1.still L7.out.2, PT.out.2.1.later L7.out.2, en7⟩
                obtain ⟨_, y0, y1, y2, -⟩ := G7.out.2.1
                clear en7
                go_wp2_with fail
                refine (lacksH w.heap.size Ph h ws (F 1) k1 w7 G7.out.1.h PT.out.2.2.2.2.1).mono ?_
                rintro e w8 ⟨v8, rfl, ho8, hb8⟩
                rw [← EC.out]
                obtain ⟨q8, cp8, rfl, hv8, hm8⟩ := own_ints ho8
                obtain ⟨q7', cp7', e7', hv7, hm7⟩ := own_ints (own_block O7.out (fun b hb => hb8.block b (own_lt O7.out b hb).2))
                cases e7'
                have G8 : Hid (PG w Ps Ph M Q w8 said free h ws said free H ws vS vW F ∧ Vw w8 q8 n7 (lkL h ws k1) ∧ Vw w8 q7 n7 (lkL h ws k1) ∧ n7 ≤ maxLen) := by
                  rw [G7.out.2.2]
                  exact ⟨G7.out.1.still hb8, hv8, by rw [← G7.out.2.2]; exact hv7, hm8⟩
                rw [← G7.out.2.2]
                clear ho8 hb8 hv8 hm8 hv7 hm7 y0 y1 y2
                go_wp2_with fail
                refine (errF_same 1 w8 (HL.out.1.later G8.out.1.bel)).mono ?_
                rintro e w9 ⟨rfl, hb9⟩
                have G9 : Hid (PG w Ps Ph M Q w9 said free h ws said free H ws vS vW F ∧ Vw w9 q8 n7 (lkL h ws k1) ∧ Vw w9 q7 n7 (lkL h ws k1)) := ⟨G8.out.1.still hb9, G8.out.2.1.later hb9, G8.out.2.2.1.later hb9⟩
                clear hb9
                go_wp2_with fail
                refine (ints_eq q8 q7 n7 cp8 n7 cp7 (lkL h ws k1) w9 G9.out.2.1 G9.out.2.2 G8.out.2.2.2).mono ?_
                rintro e wA ⟨rfl, mA, rfl⟩
                have PZ : Hid (PA w Ps Ph M Q (i + 1) (w9.drewN mA)) := ⟨said, free, H, ws, vS, vW, F, by rw [← EH.out]; exact G9.out.1.still (drewsA (Below.refl _ _) mA), PT.out.2.2.2.1, by rw [← EH.out]; exact PT.out.2.2.2.2.1, PT.out.2.2.2.2.2⟩
                go_wp2
                go_roundw
                case rel => exact ⟨i + 1, by omega, by omega, by go_num, PZ.out⟩
                case measure => simp [intOf]; omega
              · have d2 : decide (k1 > 1000000) = false := decide_eq_false h2
                have EC : Hid ((0 : Int) = lkC k1) := (if_neg (by omega)).symm
                go_upto_block 5 with fail
                rename_i KK5 hKK5
                refine ak_any w.heap.size Q V h ws H vW k0 k1 k2 0 wc PT.out.2.1 PT.out.1.r PT.out.2.2.2.2.1 EC.out _ _ _ _ _ _ _ _ _ _ _ _ _ _ _ _ _ _ _ _ _ _ _ _ _ _ _ _ _ _ _ _ _ _ _ _ _ _ _ _ _ _ _ _ _ _ _ _ _ _ _ _ _ _ _ _ _ _ _ _ _ _ _ _ _ _ _ _ _ _ _ _ _ _ _ _ _ _ _ _ _ _ _ _ _ _ _ _ _ _ _ _ _ _ _ _ _ _ _ _ _ _ _ _ _ _ _ _ _ _ _ _ _ _ _ _ _ _ _ _ _ _ _ _ _ _ _ _ _ _ _ _ _ _ _ _ _ _ _ _ _ _ _ _ _ _ _ _ _ _ _ _ _ _ _ _ _ _ _ _ _ _ _ _ _ _ _ _ _ _ _ _ _ _ _ _ _ _ _ _ _ _ _ _ _ _ _ _ _ _ _ _ _ _ _ _ _ _ _ _ _ _ _ _ _ _ _ _ _ _ _ _ _ _ _ _ _ _ _ _ _ _ _ _ _ _ _ _ _ _ _ _ _ _ _ _ _ _ _ _ _ _ _ _ _ _ _ _ _ _ _ _ _ _ _ _ _ _ _ _ _ _ _ _ _ _ _ _ _ _ _ _ _ _ _ _ _ _ _ _ _ _ _ _ _ _ _ _ _ _ _ _ _ _ _ _ _ _ _ _ _ _ _ ?_
                intro t22 t23 t24 t25 t35 t36 t37 t38 t39 t40 t41 t42 t43 t44 t45 t46 t47 t48 t49 t50 t51 t52 t53 t54 t55 t56 t57 t58 t59 t60 t61 t62 t63 t64 t65 t66 t67 t68 t69 t70 t71 t72 t73 t74 t75 t76 t77 t78 t79 t80 t81 t82 t83 t84 t85 t86 t87 t88 t89 t90 t91 t92 t93 t94 t95 t96 t97 t98 t99 t100 t101 t102 t103 t104 t105 t106 t107 t108 t109 t110 t111 t112 t113 t114 t115 t116 t117 t118 t119 t120 t121 t122 t123 t124 t125 t126 t127 t128 t129 t130 t131 t132 t133 t134 t135 t136 t137 t138 t139 t140 t141 t142 t143 t144 t145 t146 t147 t148 t149 t150 t151 t152 t153 t154 t155 t156 t157 t158 t159 t160 t161 t162 t163 t164 t165 t166 t167 t168 t169 t170 t171 t172 t173 t174 t175 t176 t177 t178 t179 t180 t181 t182 t183 t184 t185 t186 t187 t188 t189 t190 t191 t192 t193 t194 t195 t196 t197 t198 t199 t200 t201 t202 t203 t204 t205 t206 t207 t208 t209 t210 t211 t212 t213 t214 t215 t216 t217 t218 t219 t220 t221 t222 t223 t224 t225 t226 t227 t228 t229 t230 t231 t232 t233 t234 t235 t236 t237 t238 t239 t240 t241 t242 t243 t244 t245 t246 t247 t248 t249 t250 t251 t252 t253 t254 t255 t256 t257 t258 t259 t260 t261 t262 t263 t264 t265 t266 t267 t268 t269 t270 t271 t272 t273 t274 t275 t276 t277 t278 t279 t280 t281 t282 t283 t284 t285 t286 t287 t288 t289 t290 t291 t292 t293 t294 t295 t296 t297 t298 t299 t300 t301 t302 t303 t304 t305 t306 w7 L7
                refine hKK5 _ _ ?_
                clear hKK5
                obtain ⟨q7, cp7, e7⟩ := own_form L7.out.1
                obtain ⟨n7, en7⟩ : ∃ n7, n7 = (lkL h ws k1).length := ⟨_, rfl⟩
                rw [← en7] at e7
                subst e7
                have O7 : Hid (w7.ownsRow wc.heap.size 3 1 (.slice q7 n7 cp7) n7 ((lkL h ws k1).map (Value.int .i64))) := by show w7.ownsRow wc.heap.size 3 1 (.slice q7 n7 cp7) n7 ((lkL h ws k1).map (Value.int .i64)); have o := L7.out.1; unfold Ow at o; rw [← en7] at o; exact o
                have G7 : Hid (PG w Ps Ph M Q w7 said free h ws said free H ws vS vW F ∧ V3 w7 V k0 k1 k2 ∧ n7 = (lkL h ws k1).length) := ⟨PT.out.1.still L7.out.2, PT.out.2.1.later L7.out.2, en7⟩
                obtain ⟨_, y0, y1, y2, -⟩ := G7.out.2.1
                clear en7
                go_wp2_with fail
                refine (lacksH w.heap.size Ph h ws (F 1) k1 w7 G7.out.1.h PT.out.2.2.2.2.1).mono ?_
                rintro e w8 ⟨v8, rfl, ho8, hb8⟩
                rw [← EC.out]
                obtain ⟨q8, cp8, rfl, hv8, hm8⟩ := own_ints ho8
                obtain ⟨q7', cp7', e7', hv7, hm7⟩ := own_ints (own_block O7.out (fun b hb => hb8.block b (own_lt O7.out b hb).2))
                cases e7'
                have G8 : Hid (PG w Ps Ph M Q w8 said free h ws said free H ws vS vW F ∧ Vw w8 q8 n7 (lkL h ws k1) ∧ Vw w8 q7 n7 (lkL h ws k1) ∧ n7 ≤ maxLen) := by
                  rw [G7.out.2.2]
                  exact ⟨G7.out.1.still hb8, hv8, by rw [← G7.out.2.2]; exact hv7, hm8⟩
                rw [← G7.out.2.2]
                clear ho8 hb8 hv8 hm8 hv7 hm7 y0 y1 y2
                go_wp2_with fail
                refine (errF_same 0 w8 (HL.out.1.later G8.out.1.bel)).mono ?_
                rintro e w9 ⟨rfl, hb9⟩
                have G9 : Hid (PG w Ps Ph M Q w9 said free h ws said free H ws vS vW F ∧ Vw w9 q8 n7 (lkL h ws k1) ∧ Vw w9 q7 n7 (lkL h ws k1)) := ⟨G8.out.1.still hb9, G8.out.2.1.later hb9, G8.out.2.2.1.later hb9⟩
                clear hb9
                go_wp2_with fail
                refine (ints_eq q8 q7 n7 cp8 n7 cp7 (lkL h ws k1) w9 G9.out.2.1 G9.out.2.2 G8.out.2.2.2).mono ?_
                rintro e wA ⟨rfl, mA, rfl⟩
                have PZ : Hid (PA w Ps Ph M Q (i + 1) (w9.drewN mA)) := ⟨said, free, H, ws, vS, vW, F, by rw [← EH.out]; exact G9.out.1.still (drewsA (Below.refl _ _) mA), PT.out.2.2.2.1, by rw [← EH.out]; exact PT.out.2.2.2.2.1, PT.out.2.2.2.2.2⟩
                go_wp2
                go_roundw
                case rel => exact ⟨i + 1, by omega, by omega, by go_num, PZ.out⟩
                case measure => simp [intOf]; omega
      · have d120 : decide ((i : Int) < 120) = false := by simp; omega
        go_wp2
        go_ret
        obtain ⟨said, free, H, ws, vS, vW, F, q, -⟩ := hR.out
        exact ⟨rfl, q.bel⟩
    · have dl : decide ((i : Int) < (len : Int)) = false := by simp; omega
      go_wp2
      go_ret
      obtain ⟨said, free, H, ws, vS, vW, F, q, -⟩ := hR.out
      exact ⟨rfl, q.bel⟩
end Go.Proofs.YtdhlfbpflngmbafDoor.Aga
