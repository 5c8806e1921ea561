/-
  Contracts of package picture's hearMark and hearGold.
-/
import Derived.Test.YtgcdbcljneoifajDoorPicW
namespace Go.Proofs.YtgcdbcljneoifajDoor.MapW
open Go.RowKit Go.Maps
open Go.ChangeMaps (setBlock)
set_option linter.unusedVariables false

/-- an entry that is there is asked for, and then filled: to ask leaves all as it is -/
theorem MM.entry_same {w : World} {mb c : Nat} {T : Int → Int → Option Value} (h : MM w mb T c) {mt vt : TypeId} {z : Value} (hU : Tryd.prog.underlying mt = some (.map 70 vt)) (hZ : ∀ W : World, (zeroValue vt).run Tryd.prog W = .ok z W) {a b : Int} (hi : okK a b) (hc : c < 10000000) (ht : (T a b).isSome = true) :
    ∃ st : Nat, (Instr.mapEntry mt (.map (some mb)) (.agg #[.int .i64 a, .int .i64 b])).run Tryd.prog w = .ok (.tuple #[(T a b).getD z, goInt st]) w ∧
      ∀ x : Value, ∃ w3, (Instr.entryStore mt (.map (some mb)) (goInt st) x).run Tryd.prog w = .ok () w3 ∧ MM w3 mb (putT T a b x) c ∧ w.mapTurned w3 mb := by
  obtain ⟨st, w1, e1, -, e3⟩ := h.entry hU hZ hi hc
  have hlook := h.look_ok hU hZ hi w rfl
  rw [ht] at hlook
  have hk := keyK hi
  have hw : w1 = w := by
    obtain ⟨D, hm, v⟩ := h
    obtain ⟨es, clock, hb, Ft, -, -⟩ := hm
    have hlt : mb < w.heap.size := (Array.getElem?_eq_some_iff.1 hb).1
    have hself : ({ w with heap := w.heap.setIfInBounds mb (.map es clock) } : World) = w := by
      have e : w.heap.setIfInBounds mb (.map es clock) = w.heap := by
        apply Array.ext_getElem?
        intro i
        by_cases q : i = mb
        · rw [q, Array.getElem?_setIfInBounds_self, if_pos hlt, hb]
        · rw [Array.getElem?_setIfInBounds_ne (fun z => q z.symm)]
      rw [e]
    rcases klaw.find w hk es.toList Ft.keys with ⟨h1, h2⟩ | ⟨j, e0, h1, h2, h3⟩
    · simp [Instr.lookup, run_underlying hU, MapKept.run_getObj_map hb, klaw.check w es.isEmpty hk, h1, hZ, Result.andThen] at hlook
    · have hj : es[j]? = some e0 := by simpa using h2
      have hsame : es.modify j (fun e => { e with key := .agg #[.int .i64 a, .int .i64 b] }) = es := by
        apply Array.ext'
        rw [Array.toList_modify, ChangeMaps.modify_eq_set _ _ _ _ h2]
        have : ({ e0 with key := .agg #[.int .i64 a, .int .i64 b] } : MapEntry) = e0 := by rw [← h3]
        rw [this]
        exact WideElems.set_self _ _ _ h2
      simp [Instr.mapEntry, run_underlying hU, MapKept.run_getObj_map hb, klaw.check w false hk, h1, hj, h3, klaw.stays w hk, hsame, MapKept.run_setObj_map _ hb, Result.andThen, hself] at e1
      exact e1.2.symm
  subst hw
  refine ⟨st, e1, fun x => ?_⟩
  obtain ⟨w3, r1, r2, r3⟩ := e3 w1 x rfl
  rw [ht, if_pos rfl] at r2
  exact ⟨w3, r1, r2, r3⟩
end Go.Proofs.YtgcdbcljneoifajDoor.MapW
namespace Go.Proofs.YtgcdbcljneoifajDoor.Pic
open Go.RowKit Go.Maps
open Go.Proofs.YtgcdbcljneoifajDoor.Fif (own_lt own_block own_form own_mono own_vw ret_bool info_int new_int int_one)
open Go.Proofs.YtgcdbcljneoifajDoor.Vec (Vw)
open Go.Proofs.YtgcdbcljneoifajDoor.Sep (KpL NewL)
open Go.Proofs.YtgcdbcljneoifajDoor.Ldr (errF errF_ok errF_no Sl)
open Go.Proofs.YtgcdbcljneoifajDoor.Off (OR)
open Go.Proofs.YtgcdbcljneoifajDoor.MapV (turned_below g_of_turned wfI)
set_option linter.unusedVariables false
variable {w w' : World} {base P bG cG mO mW mS : Nat} {rv : Nat → Value} {g : G}

/-- what was minded of a way -/
theorem GP.lookS (h : GP w base P bG cG mO mW mS rv g) {a b : Nat} (ha : a < 5) (hb : b < 5) (ho : g.opn a b = true) : ∀ W : World, W.heap[mS]? = w.heap[mS]? → (Instr.lookup 64 (.map (some mS)) (.agg #[.int .i64 (a : Int), .int .i64 (b : Int)]) false).run Tryd.prog W = .ok (.int .i64 (g.part a b)) W := by
  intro W hW
  have z := MapW.MM.look h.snc Tryd.underlying64 zeroI (okW ha hb) W hW
  rw [T2_getD ha hb, if_pos ho] at z
  exact z
theorem GP.lookSok (h : GP w base P bG cG mO mW mS rv g) {a b : Nat} (ha : a < 5) (hb : b < 5) : ∃ x : Int, ∀ W : World, W.heap[mS]? = w.heap[mS]? → (Instr.lookup 64 (.map (some mS)) (.agg #[.int .i64 (a : Int), .int .i64 (b : Int)]) true).run Tryd.prog W = .ok (.tuple #[.int .i64 x, .bool (g.opn a b)]) W := by
  refine ⟨if g.opn a b = true then g.part a b else 0, fun W hW => ?_⟩
  have z := MapW.MM.look_ok h.snc Tryd.underlying64 zeroI (okW ha hb) W hW
  rw [T2_getD ha hb, T2_is ha hb] at z
  rw [z]
  cases g.opn a b <;> rfl
theorem GP.lookWok (h : GP w base P bG cG mO mW mS rv g) {b : Nat} (hb : b < 5) : ∃ x : Int, ∀ W : World, W.heap[mW]? = w.heap[mW]? → (Instr.lookup 63 (.map (some mW)) (.int .i64 (b : Int)) true).run Tryd.prog W = .ok (.tuple #[.int .i64 x, .bool (g.has b)]) W := by
  refine ⟨if g.has b = true then g.wrote b else 0, fun W hW => ?_⟩
  have z := MapV.MM.look_ok h.wrt Tryd.underlying63 zeroI (wfI (i := (b : Int)) (by omega) (by omega)) W hW
  rw [T1_getD hb, T1_is hb] at z
  rw [z]
  cases g.has b <;> rfl
/-- what is minded of a way grows -/
theorem GP.addS (h : GP w base P bG cG mO mW mS rv g) {a b : Nat} (ha : a < 5) (hb : b < 5) (ho : g.opn a b = true) (x : Int) : ∃ st : Nat, (Instr.mapEntry 64 (.map (some mS)) (.agg #[.int .i64 (a : Int), .int .i64 (b : Int)])).run Tryd.prog w = .ok (.tuple #[.int .i64 (g.part a b), goInt st]) w ∧
    ∃ w3, (Instr.entryStore 64 (.map (some mS)) (goInt st) (.int .i64 x)).run Tryd.prog w = .ok () w3 ∧ GP w3 base P bG cG mO mW mS rv { g with part := up2 g.part a b x } ∧ St w w3 base (fpP P bG mO mW mS rv) (fpP P bG mO mW mS rv) := by
  have hs : (T2 g.opn (fun i j => Value.int .i64 (g.part i j)) (a : Int) (b : Int)).isSome = true := by rw [T2_is ha hb]; exact ho
  obtain ⟨st, e1, e2⟩ := MapW.MM.entry_same h.snc Tryd.underlying64 zeroI (okW ha hb) (by have := cn2_le g.opn; omega) hs
  obtain ⟨w3, r1, r2, r3⟩ := e2 (.int .i64 x)
  rw [T2_getD ha hb, if_pos ho] at e1
  have q := M2.putIs ha hb (x := .int .i64 x) (by rw [if_pos hs]; exact r2)
  have q2 : M2 w3 mS g.opn (fun i j => .int .i64 (up2 g.part a b x i j)) := q.congr (fun i j _ _ => by
    by_cases e : i = a ∧ j = b
    · rw [e.1, e.2, up2_same]; exact ho
    · rw [up2_other _ _ e]) fun i j _ _ _ => by
    by_cases e : i = a ∧ j = b
    · rw [e.1, e.2, up2_same, up2_same]
    · rw [up2_other _ _ e, up2_other _ _ e]
  obtain ⟨s1, s2⟩ := h.turnS q2 r3
  exact ⟨st, e1, w3, r1, s1, s2⟩
set_option maxRecDepth 100000 in
set_option maxHeartbeats 1000000 in
theorem hearG (h : GP w base P bG cG mO mW mS rv g) {a b : Nat} (ha : a < 5) (hb : b < g.n) (x : Int) (hx : 0 ≤ x ∧ x ≤ 1000) (hg : 0 ≤ g.gold b ∧ g.gold b ≤ 1000000) (hp : 0 ≤ g.part a b ∧ g.part a b ≤ 1000000) : Calls Tryd.prog 26 #[.pointer (some ⟨P, 0, none⟩), .agg #[.int .i64 (a : Int), .int .i64 (b : Int)], .int .i64 x] w fun e w' => e = .returned (.tuple #[]) ∧ GP w' base P bG cG mO mW mS rv (gain g a b x) ∧ St w w' base (fpP P bG mO mW mS rv) (fpP P bG mO mW mS rv) := by
  have hbw := h.bw
  have h5 := h.room.2.2
  have hb5 : b < 5 := by omega
  obtain ⟨B, eB⟩ : ∃ B, B = w.heap.size := ⟨_, rfl⟩
  obtain ⟨W1, eW1⟩ : ∃ W1, W1 = w.alloc (.cells #[.int .i64 (a : Int), .int .i64 (b : Int)] 70) := ⟨_, rfl⟩
  have b1 : Below w.heap.size w W1 := by rw [eW1]; exact (Below.refl _ _).alloc (Nat.le_refl _) _
  have r1 : W1.rowIs B 70 2 (wayV a b) := by rw [eB, eW1]; exact wayV_new w a b
  have h1 := h.later b1
  have nB : B ∉ fpP P bG mO mW mS rv := fun q => by have := (h.fp B q).2; omega
  have c0 := h1.c0
  have cg := h1.cg hb
  have zg := h1.frg b
  have w1 : W1.cell? ⟨B, 1, none⟩ = some (.int .i64 (b : Int)) := World.rowIs.cell r1 (i := 1) (by omega)
  obtain ⟨y, ey⟩ : ∃ y, y = g.gold b := ⟨_, rfl⟩
  rw [← ey] at cg hg
  obtain ⟨n, en⟩ : ∃ n, n = g.n := ⟨_, rfl⟩
  rw [← en] at c0
  have hbn : (b : Int) < (n : Int) := by omega
  have hb0 : (0 : Int) ≤ (b : Int) := by omega
  have HH : Hid (GP W1 base P bG cG mO mW mS rv g ∧ St w W1 base (fpP P bG mO mW mS rv) (fpP P bG mO mW mS rv) ∧ a < 5 ∧ b < 5 ∧ W1.rowIs B 70 2 (wayV a b) ∧ B ∉ fpP P bG mO mW mS rv ∧ b < g.n ∧ y = g.gold b) := ⟨h1, (St.refl w base _).trans (St.later hbw b1 _), ha, hb5, r1, nB, hb, ey⟩
  have hPl := h1.lt
  have hgl := h1.ltg
  have hBl := World.rowIs.lt r1
  have hnc : n ≤ cG := by have := h.room.1; omega
  clear h ha hbw h5 b1 r1 h1 nB ey en hb hb5
  go_enter Tryd.func26, Tryd.ntmps26
  go_upto_region 1 with fail
  rw [← eW1, ← eB]
  clear eW1 eB
  go_region
  obtain ⟨W2, eW2⟩ : ∃ W2, W2 = (W1.setCell ⟨bG, b, none⟩ (.int .i64 (y + x))).drew := ⟨_, rfl⟩
  rw [← eW2]
  obtain ⟨q1, q2⟩ := HH.out.1.setGold HH.out.2.2.2.2.2.2.1 (y + x)
  have G2 : Hid (GP W2 base P bG cG mO mW mS rv { g with gold := up g.gold b (g.gold b + x) } ∧ St W1 W2 base (fpP P bG mO mW mS rv) (fpP P bG mO mW mS rv)) := by
    rw [eW2, ← HH.out.2.2.2.2.2.2.2]
    exact ⟨q1.heap rfl, q2.drew⟩
  have r2 : W2.rowIs B 70 2 (wayV a b) := World.rowIs.of_block HH.out.2.2.2.2.1 (G2.out.2.kp.2 B hBl HH.out.2.2.2.2.2.1)
  have R2 : Hid (W2.rowIs B 70 2 (wayV a b)) := r2
  have v0 : W2.cell? ⟨B, 0, none⟩ = some (.int .i64 (a : Int)) := World.rowIs.cell r2 (i := 0) (by omega)
  have v1 : W2.cell? ⟨B, 1, none⟩ = some (.int .i64 (b : Int)) := World.rowIs.cell r2 (i := 1) (by omega)
  have c3 := G2.out.1.c3
  obtain ⟨z0, hz0⟩ := G2.out.1.lookSok HH.out.2.2.1 HH.out.2.2.2.1
  have hlk : ∀ k, (Instr.lookup 64 (.map (some mS)) (.agg #[.int .i64 (a : Int), .int .i64 (b : Int)]) true).run Tryd.prog (W2.drewN k) = .ok (.tuple #[.int .i64 z0, .bool (g.opn a b)]) (W2.drewN k) := fun k => hz0 _ rfl
  have hPl2 := G2.out.1.lt
  have hBl2 := World.rowIs.lt r2
  clear q1 q2 r2 hz0 eW2 c0 cg zg w1 hPl hgl hBl
  cases ho : g.opn a b
  · rw [ho] at hlk
    have HO : Hid (g.opn a b = false) := ho
    clear ho
    go_wp2_with fail
    go_quiet (fail)
    obtain ⟨W3, eW3⟩ : ∃ W3, W3 = W2.drewN nq := ⟨_, rfl⟩
    have G3 : Hid (GP W3 base P bG cG mO mW mS rv { g with gold := up g.gold b (g.gold b + x) } ∧ St W1 W3 base (fpP P bG mO mW mS rv) (fpP P bG mO mW mS rv)) := by
      rw [eW3]
      exact ⟨G2.out.1.heap rfl, G2.out.2.drewN _⟩
    rw [← eW3]
    clear eW3 hlk
    go_wp2
    go_end0
    refine ⟨rfl, G3.out.1.eq ?_, HH.out.2.1.trans G3.out.2⟩
    unfold gain
    rw [if_neg (by rw [HO.out]; decide)]
    have e : up2 g.part a b (g.part a b) = g.part := by
      funext i j
      unfold up2
      by_cases q : i = a ∧ j = b
      · rw [if_pos q, q.1, q.2]
      · rw [if_neg q]
    rw [e]
  · rw [ho] at hlk
    have HO : Hid (g.opn a b = true) := ho
    clear ho
    go_wp2_with fail
    go_quiet (fail)
    obtain ⟨W3, eW3⟩ : ∃ W3, W3 = W2.drewN nq := ⟨_, rfl⟩
    have G3 : Hid (GP W3 base P bG cG mO mW mS rv { g with gold := up g.gold b (g.gold b + x) } ∧ St W1 W3 base (fpP P bG mO mW mS rv) (fpP P bG mO mW mS rv) ∧ W3.rowIs B 70 2 (wayV a b)) := by
      rw [eW3]
      exact ⟨G2.out.1.heap rfl, G2.out.2.drewN _, World.rowIs.of_block R2.out rfl⟩
    rw [← eW3]
    clear eW3 hlk v0 v1 c3 hPl2 hBl2
    have v0 : W3.cell? ⟨B, 0, none⟩ = some (.int .i64 (a : Int)) := World.rowIs.cell G3.out.2.2 (i := 0) (by omega)
    have v1 : W3.cell? ⟨B, 1, none⟩ = some (.int .i64 (b : Int)) := World.rowIs.cell G3.out.2.2 (i := 1) (by omega)
    have c3 := G3.out.1.c3
    obtain ⟨t, et⟩ : ∃ t, t = g.part a b := ⟨_, rfl⟩
    have hlk := G3.out.1.lookS HH.out.2.2.1 HH.out.2.2.2.1 HO.out W3.drew rfl
    obtain ⟨st, e1, W4, e2, g4, s4⟩ := (GP.heap (w' := W3.drew) G3.out.1 rfl).addS HH.out.2.2.1 HH.out.2.2.2.1 HO.out (t + x)
    have hlk' : (Instr.lookup 64 (.map (some mS)) (.agg #[.int .i64 (a : Int), .int .i64 (b : Int)]) false).run Tryd.prog W3.drew = .ok (.int .i64 t) W3.drew := by rw [et]; exact hlk
    have e1' : (Instr.mapEntry 64 (.map (some mS)) (.agg #[.int .i64 (a : Int), .int .i64 (b : Int)])).run Tryd.prog W3.drew = .ok (.tuple #[.int .i64 t, .int .i64 (st : Int)]) W3.drew := by rw [et]; exact e1
    have e2' : (Instr.entryStore 64 (.map (some mS)) (.int .i64 (st : Int)) (.int .i64 (t + x))).run Tryd.prog W3.drew = .ok () W4 := e2
    rw [← et] at hp
    have G4 : Hid (GP W4 base P bG cG mO mW mS rv { g with gold := up g.gold b (g.gold b + x), part := up2 g.part a b (t + x) } ∧ St w W4 base (fpP P bG mO mW mS rv) (fpP P bG mO mW mS rv) ∧ t = g.part a b) := ⟨g4, (HH.out.2.1.trans G3.out.2.1.drew).trans s4, et⟩
    have hPl3 := G3.out.1.lt
    have hBl3 := World.rowIs.lt G3.out.2.2
    clear hlk e1 e2 g4 s4 et
    go_wp2_with fail
    go_region
    go_wp2
    go_end0
    refine ⟨rfl, G4.out.1.eq ?_, G4.out.2.1⟩
    unfold gain
    rw [if_pos HO.out, G4.out.2.2]
/-- who has written down nothing does so when a mark comes -/
theorem wrt_same {g : G} {b : Nat} (h : g.has b = true) : wrt g b = g := if_pos h
theorem wrt_new {g : G} {b : Nat} (h : g.has b = false) : wrt g b = write g b := if_neg (by rw [h]; decide)
theorem wrt_part (g : G) (b : Nat) : (wrt g b).part = g.part ∧ (wrt g b).ow = g.ow ∧ (wrt g b).n = g.n := by unfold wrt; split <;> exact ⟨rfl, rfl, rfl⟩
set_option maxRecDepth 100000 in
set_option maxHeartbeats 1000000 in
theorem hearM (h : GP w base P bG cG mO mW mS rv g) {a b : Nat} (ha : a < 5) (hb : b < g.n) (hl : ∀ j, (g.way b j).length ≤ 1000) (hp : g.has b = false → ∀ i, g.part i b = 0) (ho : (wrt g b).opn a b = true) (hw : 0 ≤ g.ow ∧ g.ow ≤ 1000000) (hpt : 0 ≤ g.part a b ∧ g.part a b ≤ 1000000) : Calls Tryd.prog 25 #[.pointer (some ⟨P, 0, none⟩), .agg #[.int .i64 (a : Int), .int .i64 (b : Int)]] w fun e w' => e = .returned (.tuple #[]) ∧ ∃ rv', GP w' base P bG cG mO mW mS rv' (closed (wrt g b) a b) ∧ St w w' base (fpP P bG mO mW mS rv) (fpP P bG mO mW mS rv') := by
  have hbw := h.bw
  have h5 := h.room.2.2
  have hb5 : b < 5 := by omega
  obtain ⟨B, eB⟩ : ∃ B, B = w.heap.size := ⟨_, rfl⟩
  obtain ⟨W1, eW1⟩ : ∃ W1, W1 = w.alloc (.cells #[.int .i64 (a : Int), .int .i64 (b : Int)] 70) := ⟨_, rfl⟩
  have b1 : Below w.heap.size w W1 := by rw [eW1]; exact (Below.refl _ _).alloc (Nat.le_refl _) _
  have r1 : W1.rowIs B 70 2 (wayV a b) := by rw [eB, eW1]; exact wayV_new w a b
  have h1 := h.later b1
  have nB : B ∉ fpP P bG mO mW mS rv := fun q => by have := (h.fp B q).2; omega
  have c2 := h1.c2
  have w1 : W1.cell? ⟨B, 1, none⟩ = some (.int .i64 (b : Int)) := World.rowIs.cell r1 (i := 1) (by omega)
  obtain ⟨y0, hy0⟩ := h1.lookWok hb5
  have hlk : ∀ k, (Instr.lookup 63 (.map (some mW)) (.int .i64 (b : Int)) true).run Tryd.prog (W1.drewN k) = .ok (.tuple #[.int .i64 y0, .bool (g.has b)]) (W1.drewN k) := fun k => hy0 _ rfl
  obtain ⟨ow, eow⟩ : ∃ ow, ow = g.ow := ⟨_, rfl⟩
  obtain ⟨pt, ept⟩ : ∃ pt, pt = g.part a b := ⟨_, rfl⟩
  rw [← eow] at hw
  rw [← ept] at hpt
  have HH : Hid (GP W1 base P bG cG mO mW mS rv g ∧ St w W1 base (fpP P bG mO mW mS rv) (fpP P bG mO mW mS rv) ∧ a < 5 ∧ b < 5 ∧ W1.rowIs B 70 2 (wayV a b) ∧ B ∉ fpP P bG mO mW mS rv ∧ b < g.n ∧ (∀ j, (g.way b j).length ≤ 1000) ∧ (g.has b = false → ∀ i, g.part i b = 0) ∧ (wrt g b).opn a b = true ∧ ow = g.ow ∧ pt = g.part a b) := ⟨h1, (St.refl w base _).trans (St.later hbw b1 _), ha, hb5, r1, nB, hb, hl, hp, ho, eow, ept⟩
  have hPl := h1.lt
  have hBl := World.rowIs.lt r1
  clear h ha hb hl hp ho hbw h5 hb5 b1 r1 h1 nB hy0 eow ept
  cases hh : g.has b
  · rw [hh] at hlk
    have HN : Hid (g.has b = false) := hh
    clear hh
    go_enter Tryd.func25, Tryd.ntmps25
    go_upto_region 1 with fail
    rw [← eW1, ← eB]
    clear eW1 eB
    go_quiet (fail)
    obtain ⟨W2, eW2⟩ : ∃ W2, W2 = W1.drewN nq := ⟨_, rfl⟩
    have G2 : Hid (GP W2 base P bG cG mO mW mS rv g ∧ St W1 W2 base (fpP P bG mO mW mS rv) (fpP P bG mO mW mS rv) ∧ W2.rowIs B 70 2 (wayV a b)) := by
      rw [eW2]
      exact ⟨HH.out.1.heap rfl, (St.refl W1 base _).drewN _, World.rowIs.of_block HH.out.2.2.2.2.1 rfl⟩
    rw [← eW2]
    clear eW2 hlk hPl hBl c2 w1
    have v1 : W2.cell? ⟨B, 1, none⟩ = some (.int .i64 (b : Int)) := World.rowIs.cell G2.out.2.2 (i := 1) (by omega)
    have hBl2 := World.rowIs.lt G2.out.2.2
    go_wp2_with fail
    refine (wdP G2.out.1 (m := b) HH.out.2.2.2.2.2.2.1 HH.out.2.2.2.2.2.2.2.1 (HH.out.2.2.2.2.2.2.2.2.1 HN.out)).mono ?_
    rintro e W3 ⟨rfl, rv3, g3, s3⟩
    have G3 : Hid (GP W3 base P bG cG mO mW mS rv3 (wrt g b) ∧ St W1 W3 base (fpP P bG mO mW mS rv) (fpP P bG mO mW mS rv3) ∧ W3.rowIs B 70 2 (wayV a b)) := ⟨g3.eq (wrt_new HN.out), G2.out.2.1.trans s3, World.rowIs.of_block G2.out.2.2 (s3.kp.2 B hBl2 HH.out.2.2.2.2.2.1)⟩
    clear g3 s3 v1 hBl2
    have v0 : W3.cell? ⟨B, 0, none⟩ = some (.int .i64 (a : Int)) := World.rowIs.cell G3.out.2.2 (i := 0) (by omega)
    have v1 : W3.cell? ⟨B, 1, none⟩ = some (.int .i64 (b : Int)) := World.rowIs.cell G3.out.2.2 (i := 1) (by omega)
    have c3 := G3.out.1.c3
    have c4 : W3.cell? ⟨P, 4, none⟩ = some (.int .i64 ow) := by
      have q := G3.out.1.c4
      rw [(wrt_part g b).2.1, ← HH.out.2.2.2.2.2.2.2.2.2.2.1] at q
      exact q
    have z4 := G3.out.1.fr 4
    have hlk : ∀ k, (Instr.lookup 64 (.map (some mS)) (.agg #[.int .i64 (a : Int), .int .i64 (b : Int)]) false).run Tryd.prog (W3.drewN k) = .ok (.int .i64 pt) (W3.drewN k) := fun k => by
      have q := G3.out.1.lookS HH.out.2.2.1 HH.out.2.2.2.1 HH.out.2.2.2.2.2.2.2.2.2.1 (W3.drewN k) rfl
      rw [(wrt_part g b).1, ← HH.out.2.2.2.2.2.2.2.2.2.2.2] at q
      exact q
    have hlk' : (Instr.lookup 64 (.map (some mS)) (.agg #[.int .i64 (a : Int), .int .i64 (b : Int)]) false).run Tryd.prog W3.drew = .ok (.int .i64 pt) W3.drew := hlk 1
    have hPl3 := G3.out.1.lt
    have hBl3 := World.rowIs.lt G3.out.2.2
    clear hlk
    go_wp2_with fail
    go_region
    obtain ⟨W4, eW4⟩ : ∃ W4, W4 = (W3.setCell ⟨P, 4, none⟩ (.int .i64 (ow + pt))).drew := ⟨_, rfl⟩
    rw [← eW4]
    obtain ⟨q1, q2⟩ := G3.out.1.setOw (ow + pt)
    have G4 : Hid (GP W4 base P bG cG mO mW mS rv3 { wrt g b with ow := ow + pt } ∧ St W1 W4 base (fpP P bG mO mW mS rv) (fpP P bG mO mW mS rv3) ∧ W4.rowIs B 70 2 (wayV a b)) := by
      have nBP : B ≠ P := fun e => HH.out.2.2.2.2.2.1 (by rw [e]; exact fpP_iff.2 (.inl rfl))
      rw [eW4]
      exact ⟨q1.heap rfl, G3.out.2.1.trans q2.drew, World.rowIs.of_block G3.out.2.2 (Deep.blk_setCell_other _ _ _ _ nBP)⟩
    clear q1 q2 v0 v1 c3 c4 z4 hlk' hPl3 hBl3 eW4
    have v0 : W4.cell? ⟨B, 0, none⟩ = some (.int .i64 (a : Int)) := World.rowIs.cell G4.out.2.2 (i := 0) (by omega)
    have v1 : W4.cell? ⟨B, 1, none⟩ = some (.int .i64 (b : Int)) := World.rowIs.cell G4.out.2.2 (i := 1) (by omega)
    have c3 := G4.out.1.c3
    obtain ⟨W5, e5, g5, s5⟩ := (GP.heap (w' := W4.drew) G4.out.1 rfl).delS HH.out.2.2.1 HH.out.2.2.2.1 0
    have G5 : Hid (GP W5 base P bG cG mO mW mS rv3 { wrt g b with ow := ow + pt, opn := up2 (wrt g b).opn a b false } ∧ St w W5 base (fpP P bG mO mW mS rv) (fpP P bG mO mW mS rv3)) := ⟨g5, (HH.out.2.1.trans G4.out.2.1.drew).trans s5⟩
    have hPl4 := G4.out.1.lt
    have hBl4 := World.rowIs.lt G4.out.2.2
    clear g5 s5
    go_wp2_with fail
    go_region
    go_wp2
    go_end0
    refine ⟨rfl, rv3, G5.out.1.eq ?_, G5.out.2⟩
    unfold closed
    rw [(wrt_part g b).1, (wrt_part g b).2.1, ← HH.out.2.2.2.2.2.2.2.2.2.2.1, ← HH.out.2.2.2.2.2.2.2.2.2.2.2]
  · rw [hh] at hlk
    have HN : Hid (g.has b = true) := hh
    clear hh
    go_enter Tryd.func25, Tryd.ntmps25
    go_upto_region 1 with fail
    rw [← eW1, ← eB]
    clear eW1 eB
    go_quiet (fail)
    obtain ⟨W3, eW3⟩ : ∃ W3, W3 = W1.drewN nq := ⟨_, rfl⟩
    obtain ⟨rv3, erv3⟩ : ∃ rv3, rv3 = rv := ⟨_, rfl⟩
    have G3 : Hid (GP W3 base P bG cG mO mW mS rv3 (wrt g b) ∧ St W1 W3 base (fpP P bG mO mW mS rv) (fpP P bG mO mW mS rv3) ∧ W3.rowIs B 70 2 (wayV a b)) := by
      rw [eW3, wrt_same HN.out, erv3]
      exact ⟨HH.out.1.heap rfl, (St.refl W1 base _).drewN _, World.rowIs.of_block HH.out.2.2.2.2.1 rfl⟩
    rw [← eW3]
    clear eW3 erv3 hlk hPl hBl c2 w1
    have v0 : W3.cell? ⟨B, 0, none⟩ = some (.int .i64 (a : Int)) := World.rowIs.cell G3.out.2.2 (i := 0) (by omega)
    have v1 : W3.cell? ⟨B, 1, none⟩ = some (.int .i64 (b : Int)) := World.rowIs.cell G3.out.2.2 (i := 1) (by omega)
    have c3 := G3.out.1.c3
    have c4 : W3.cell? ⟨P, 4, none⟩ = some (.int .i64 ow) := by
      have q := G3.out.1.c4
      rw [(wrt_part g b).2.1, ← HH.out.2.2.2.2.2.2.2.2.2.2.1] at q
      exact q
    have z4 := G3.out.1.fr 4
    have hlk : ∀ k, (Instr.lookup 64 (.map (some mS)) (.agg #[.int .i64 (a : Int), .int .i64 (b : Int)]) false).run Tryd.prog (W3.drewN k) = .ok (.int .i64 pt) (W3.drewN k) := fun k => by
      have q := G3.out.1.lookS HH.out.2.2.1 HH.out.2.2.2.1 HH.out.2.2.2.2.2.2.2.2.2.1 (W3.drewN k) rfl
      rw [(wrt_part g b).1, ← HH.out.2.2.2.2.2.2.2.2.2.2.2] at q
      exact q
    have hlk' : (Instr.lookup 64 (.map (some mS)) (.agg #[.int .i64 (a : Int), .int .i64 (b : Int)]) false).run Tryd.prog W3.drew = .ok (.int .i64 pt) W3.drew := hlk 1
    have hPl3 := G3.out.1.lt
    have hBl3 := World.rowIs.lt G3.out.2.2
    clear hlk
    go_wp2_with fail
    go_region
    obtain ⟨W4, eW4⟩ : ∃ W4, W4 = (W3.setCell ⟨P, 4, none⟩ (.int .i64 (ow + pt))).drew := ⟨_, rfl⟩
    rw [← eW4]
    obtain ⟨q1, q2⟩ := G3.out.1.setOw (ow + pt)
    have G4 : Hid (GP W4 base P bG cG mO mW mS rv3 { wrt g b with ow := ow + pt } ∧ St W1 W4 base (fpP P bG mO mW mS rv) (fpP P bG mO mW mS rv3) ∧ W4.rowIs B 70 2 (wayV a b)) := by
      have nBP : B ≠ P := fun e => HH.out.2.2.2.2.2.1 (by rw [e]; exact fpP_iff.2 (.inl rfl))
      rw [eW4]
      exact ⟨q1.heap rfl, G3.out.2.1.trans q2.drew, World.rowIs.of_block G3.out.2.2 (Deep.blk_setCell_other _ _ _ _ nBP)⟩
    clear q1 q2 v0 v1 c3 c4 z4 hlk' hPl3 hBl3 eW4
    have v0 : W4.cell? ⟨B, 0, none⟩ = some (.int .i64 (a : Int)) := World.rowIs.cell G4.out.2.2 (i := 0) (by omega)
    have v1 : W4.cell? ⟨B, 1, none⟩ = some (.int .i64 (b : Int)) := World.rowIs.cell G4.out.2.2 (i := 1) (by omega)
    have c3 := G4.out.1.c3
    obtain ⟨W5, e5, g5, s5⟩ := (GP.heap (w' := W4.drew) G4.out.1 rfl).delS HH.out.2.2.1 HH.out.2.2.2.1 0
    have G5 : Hid (GP W5 base P bG cG mO mW mS rv3 { wrt g b with ow := ow + pt, opn := up2 (wrt g b).opn a b false } ∧ St w W5 base (fpP P bG mO mW mS rv) (fpP P bG mO mW mS rv3)) := ⟨g5, (HH.out.2.1.trans G4.out.2.1.drew).trans s5⟩
    have hPl4 := G4.out.1.lt
    have hBl4 := World.rowIs.lt G4.out.2.2
    clear g5 s5
    go_wp2_with fail
    go_region
    go_wp2
    go_end0
    refine ⟨rfl, rv3, G5.out.1.eq ?_, G5.out.2⟩
    unfold closed
    rw [(wrt_part g b).1, (wrt_part g b).2.1, ← HH.out.2.2.2.2.2.2.2.2.2.2.1, ← HH.out.2.2.2.2.2.2.2.2.2.2.2]
end Go.Proofs.YtgcdbcljneoifajDoor.Pic
