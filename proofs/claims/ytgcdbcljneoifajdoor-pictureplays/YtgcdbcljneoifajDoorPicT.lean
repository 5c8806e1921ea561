/-
  Contract of package picture's takeFirst.
-/
import Derived.Test.YtgcdbcljneoifajDoorPicD
namespace Go.Proofs.YtgcdbcljneoifajDoor.Pic
open Go.RowKit Go.Maps
open Go.Proofs.YtgcdbcljneoifajDoor.Fif (own_lt own_block own_form own_mono own_vw ret_bool info_int new_int int_one)
open Go.Proofs.YtgcdbcljneoifajDoor.Vec (Vw)
open Go.Proofs.YtgcdbcljneoifajDoor.Sep (KpL NewL)
open Go.Proofs.YtgcdbcljneoifajDoor.Ldr (errF errF_ok errF_no Sl)
open Go.Proofs.YtgcdbcljneoifajDoor.Off (OR)
open Go.Proofs.YtgcdbcljneoifajDoor.MapV (turned_below g_of_turned)
set_option linter.unusedVariables false
variable {w w' : World} {base P bG cG mO mW mS : Nat} {rv : Nat → Value} {g : G}

/-- a way that is handed over, in a block of the call's own -/
def wayV (a b : Nat) (j : Nat) : Value := if j = 0 then .int .i64 (a : Int) else .int .i64 (b : Int)
theorem wayV_new (w : World) (a b : Nat) : (w.alloc (.cells #[.int .i64 (a : Int), .int .i64 (b : Int)] 70)).rowIs w.heap.size 70 2 (wayV a b) :=
  World.rowIs_alloc w #[.int .i64 (a : Int), .int .i64 (b : Int)] 70 _ (fun i hi => by rcases i with _ | _ | i <;> first | rfl | (exfalso; have : _ < 2 := hi; omega))
/-- what is left when the first one is gone -/
theorem GP.rest0 (h : GP w base P bG cG mO mW mS rv g) {a b : Nat} (ha : a < 5) (hb : b < 5) {x : Int} (hl : g.way a b = [x]) {X W3 : World} (hX : Below w.heap.size w X) (hm : MapW.MM W3 mO (MapW.delT (T2 (wyB g.way) (wyV rv)) (a : Int) (b : Int)) (if (T2 (wyB g.way) (wyV rv) (a : Int) (b : Int)).isSome = true then cn2 (wyB g.way) - 1 else cn2 (wyB g.way))) (ht : X.mapTurned W3 mO) : ∃ rv', GP W3 base P bG cG mO mW mS rv' (taken g a b) ∧ St w W3 base (fpP P bG mO mW mS rv) (fpP P bG mO mW mS rv') := by
  have hd := M2.delIs ha hb hm
  have e : taken g a b = { g with way := up2 g.way a b [] } := by unfold taken; rw [hl]; rfl
  rw [e]
  obtain ⟨r1, r2⟩ := h.setWay (w' := W3) ha hb (u := nilP) (l := []) (p := up2 (wyB g.way) a b false) (M2.congr hd (fun i j _ _ => rfl) (fun i j hi hj hp => by
    by_cases q : i = a ∧ j = b
    · rw [q.1, q.2, up2_same] at hp; cases hp
    · rw [up2_other _ _ q])) rfl ((hX.mono h.bw).trans (turned_below ht h.low.2.2.1)) (fun c hc hne hn => (g_of_turned ht (Nat.lt_of_lt_of_le hc hX.size) hne).trans (hX.block c hc)) (OR.nil _ _) (fun c q => by cases q) (fun _ => rfl)
  exact ⟨_, r1, r2⟩
theorem GP.rest1 (h : GP w base P bG cG mO mW mS rv g) {a b : Nat} (ha : a < 5) (hb : b < 5) {x y : Int} {l : List Int} (hl : g.way a b = x :: y :: l) {X W3 : World} (hX : Below w.heap.size w X) {u : Value} (ho : OR X base u (y :: l)) (hu : (rv (a * 5 + b)).ownBlock = u.ownBlock) (hm : MapW.MM W3 mO (MapW.putT (T2 (wyB g.way) (wyV rv)) (a : Int) (b : Int) u) (if (T2 (wyB g.way) (wyV rv) (a : Int) (b : Int)).isSome = true then cn2 (wyB g.way) else cn2 (wyB g.way) + 1)) (ht : X.mapTurned W3 mO) : ∃ rv', GP W3 base P bG cG mO mW mS rv' (taken g a b) ∧ St w W3 base (fpP P bG mO mW mS rv) (fpP P bG mO mW mS rv') := by
  have hd := M2.putIs ha hb hm
  have e : taken g a b = { g with way := up2 g.way a b (y :: l) } := by unfold taken; rw [hl]; rfl
  rw [e]
  have hq : a * 5 + b < 25 := by omega
  obtain ⟨r1, r2⟩ := h.setWay (w' := W3) ha hb (u := u) (l := y :: l) (p := up2 (wyB g.way) a b true) hd rfl ((hX.mono h.bw).trans (turned_below ht h.low.2.2.1)) (fun c hc hne hn => (g_of_turned ht (Nat.lt_of_lt_of_le hc hX.size) hne).trans (hX.block c hc)) (ho.of_block fun c q => g_of_turned ht (ho.lt c q).2 (h.neR hq (hu.trans q)).2.2.1) (fun c q => .inl (hu.trans q)) (fun z => by cases z)
  exact ⟨_, r1, r2⟩
set_option maxRecDepth 100000 in
set_option maxHeartbeats 1000000 in
theorem takeP (h : GP w base P bG cG mO mW mS rv g) {a b : Nat} (ha : a < 5) (hb : b < 5) {x : Int} {l : List Int} (hl : g.way a b = x :: l) (hlen : l.length ≤ 1000) : Calls Tryd.prog 24 #[.pointer (some ⟨P, 0, none⟩), .agg #[.int .i64 (a : Int), .int .i64 (b : Int)]] w fun e w' => e = .returned (.int .i64 x) ∧ ∃ rv', GP w' base P bG cG mO mW mS rv' (taken g a b) ∧ St w w' base (fpP P bG mO mW mS rv) (fpP P bG mO mW mS rv') := by
  have hbw := h.bw
  have hq : a * 5 + b < 25 := by omega
  obtain ⟨B, eB⟩ : ∃ B, B = w.heap.size := ⟨_, rfl⟩
  obtain ⟨W1, eW1⟩ : ∃ W1, W1 = w.alloc (.cells #[.int .i64 (a : Int), .int .i64 (b : Int)] 70) := ⟨_, rfl⟩
  have b1 : Below w.heap.size w W1 := by rw [eW1]; exact (Below.refl _ _).alloc (Nat.le_refl _) _
  have r1 : W1.rowIs B 70 2 (wayV a b) := by rw [eB, eW1]; exact wayV_new w a b
  have h1 := h.later b1
  have o1 := h1.ways (a * 5 + b) hq
  rw [show (a * 5 + b) / 5 = a by omega, show (a * 5 + b) % 5 = b by omega, hl] at o1
  obtain ⟨gg, off, cap, ev, hcl, hcm, hx, ht1, ht2⟩ := o1.tail
  obtain ⟨n1, en1⟩ : ∃ n1, n1 = l.length + 1 := ⟨_, rfl⟩
  rw [← en1] at ev hcl
  have hlk : ∀ k, (Instr.lookup 62 (.map (some mO)) (.agg #[.int .i64 (a : Int), .int .i64 (b : Int)]) false).run Tryd.prog (W1.drewN k) = .ok (.slice (some ⟨gg, off, none⟩) n1 cap) (W1.drewN k) := fun k => by
    have z := MapW.MM.look h1.onw Tryd.underlying62 zeroL (okW ha hb) (W1.drewN k) rfl
    rw [wy_getD h1 ha hb, ev] at z
    exact z
  have c1 := h1.c1
  have w0 : W1.cell? ⟨B, 0, none⟩ = some (.int .i64 (a : Int)) := World.rowIs.cell r1 (i := 0) (by omega)
  have w1 : W1.cell? ⟨B, 1, none⟩ = some (.int .i64 (b : Int)) := World.rowIs.cell r1 (i := 1) (by omega)
  have HH : Hid (GP w base P bG cG mO mW mS rv g ∧ GP W1 base P bG cG mO mW mS rv g ∧ a < 5 ∧ b < 5 ∧ g.way a b = x :: l ∧ n1 = l.length + 1 ∧ Below w.heap.size w W1 ∧ (cap ≠ 1 → OR W1 base (.slice (some ⟨gg, off + 1, none⟩) l.length (cap - 1)) l) ∧ B = w.heap.size ∧ rv (a * 5 + b) = .slice (some ⟨gg, off, none⟩) n1 cap) := ⟨h, h1, ha, hb, hl, en1, b1, ht1, eB, ev⟩
  have hn1 : n1 ≤ 1001 := by omega
  have hn0 : (0 : Int) < (n1 : Int) := by omega
  have s1 : (1 : Int) ≤ (n1 : Int) := by omega
  have s2 : (n1 : Int) ≤ (cap : Int) := by omega
  have s3 : (1 : Int) ≤ (cap : Int) := by omega
  have hPl := h1.lt
  have hBl := World.rowIs.lt r1
  have hgl : gg < W1.heap.size := (o1.lt gg (by rw [ev]; rfl)).2
  clear h ha hb hl hlen hbw hq b1 r1 h1 o1 ev ht1 ht2 en1
  cases l with
  | nil =>
    have e1 : n1 = 1 := HH.out.2.2.2.2.2.1
    by_cases hcap : cap = 1
    all_goals
      subst e1
      go_enter Tryd.func24, Tryd.ntmps24
      go_upto_region 1 with fail
      rw [← eW1, ← eB]
      clear eW1 eB
      go_quiet (fail)
      obtain ⟨W2, eW2⟩ : ∃ W2, W2 = W1.drewN nq := ⟨_, rfl⟩
      have H2 : Hid (W2.heap = W1.heap ∧ Below w.heap.size w W2) := by
        have z := HH.out.2.2.2.2.2.2.1
        rw [eW2]
        exact ⟨rfl, z.os, z.tape, z.output, z.size, z.block⟩
      rw [← eW2]
      have d1 : W2.cell? ⟨P, 1, none⟩ = some (.map (some mO)) := (World.cell?_of_block (a := ⟨P, 1, none⟩) (by rw [H2.out.1])).trans c1
      have d2 : W2.cell? ⟨B, 0, none⟩ = some (.int .i64 (a : Int)) := (World.cell?_of_block (a := ⟨B, 0, none⟩) (by rw [H2.out.1])).trans w0
      have d3 : W2.cell? ⟨B, 1, none⟩ = some (.int .i64 (b : Int)) := (World.cell?_of_block (a := ⟨B, 1, none⟩) (by rw [H2.out.1])).trans w1
      obtain ⟨W3, e3, m3, t3⟩ := MapW.MM.del (GP.heap (w' := W2.drew) HH.out.2.1 H2.out.1).onw Tryd.underlying62 (okW HH.out.2.2.1 HH.out.2.2.2.1) 0
      have H3 : Hid (MapW.MM W3 mO (MapW.delT (T2 (wyB g.way) (wyV rv)) (a : Int) (b : Int)) (if (T2 (wyB g.way) (wyV rv) (a : Int) (b : Int)).isSome = true then cn2 (wyB g.way) - 1 else cn2 (wyB g.way)) ∧ W2.drew.mapTurned W3 mO) := ⟨m3, t3⟩
      clear m3 t3 eW2 c1 w0 w1 hx hlk hgl
      go_wp2_with fail
      go_region
      clear e3
      go_wp2
      go_ret
      have z := H2.out.2
      exact ⟨rfl, HH.out.1.rest0 HH.out.2.2.1 HH.out.2.2.2.1 HH.out.2.2.2.2.1 (X := W2.drew) ⟨z.os, z.tape, z.output, z.size, z.block⟩ H3.out.1 H3.out.2⟩
  | cons y l =>
    have hcap : ¬ cap = 1 := by have := HH.out.2.2.2.2.2.1; simp at this; omega
    have q0 : (((n1 - 1 : Nat) : Int) == 0) = false := by
      have := HH.out.2.2.2.2.2.1
      simp at this ⊢
      omega
    have q0' : (((n1 : Int) - 1) == 0) = false := by
      have := HH.out.2.2.2.2.2.1
      simp at this ⊢
      omega
    go_enter Tryd.func24, Tryd.ntmps24
    go_upto_region 1 with fail
    rw [← eW1, ← eB]
    clear eW1 eB
    go_quiet (fail)
    obtain ⟨W2, eW2⟩ : ∃ W2, W2 = W1.drewN nq := ⟨_, rfl⟩
    have H2 : Hid (W2.heap = W1.heap ∧ Below w.heap.size w W2) := by
      have z := HH.out.2.2.2.2.2.2.1
      rw [eW2]
      exact ⟨rfl, z.os, z.tape, z.output, z.size, z.block⟩
    rw [← eW2]
    have d1 : W2.cell? ⟨P, 1, none⟩ = some (.map (some mO)) := (World.cell?_of_block (a := ⟨P, 1, none⟩) (by rw [H2.out.1])).trans c1
    have d2 : W2.cell? ⟨B, 0, none⟩ = some (.int .i64 (a : Int)) := (World.cell?_of_block (a := ⟨B, 0, none⟩) (by rw [H2.out.1])).trans w0
    have d3 : W2.cell? ⟨B, 1, none⟩ = some (.int .i64 (b : Int)) := (World.cell?_of_block (a := ⟨B, 1, none⟩) (by rw [H2.out.1])).trans w1
    obtain ⟨W3, e3, m3, t3⟩ := MapW.MM.put (GP.heap (w' := W2.drew) HH.out.2.1 H2.out.1).onw Tryd.underlying62 (okW HH.out.2.2.1 HH.out.2.2.2.1) (.slice (some ⟨gg, off + 1, none⟩) (n1 - 1) (cap - 1)) (by have := cn2_le (wyB g.way); omega)
    have H3 : Hid (MapW.MM W3 mO (MapW.putT (T2 (wyB g.way) (wyV rv)) (a : Int) (b : Int) (.slice (some ⟨gg, off + 1, none⟩) (n1 - 1) (cap - 1))) (if (T2 (wyB g.way) (wyV rv) (a : Int) (b : Int)).isSome = true then cn2 (wyB g.way) else cn2 (wyB g.way) + 1) ∧ W2.drew.mapTurned W3 mO) := ⟨m3, t3⟩
    clear m3 t3 eW2 c1 w0 w1 hx hlk hgl
    go_wp2_with fail
    go_region
    clear e3
    go_wp2
    go_ret
    have z := H2.out.2
    have zo : OR W2.drew base (.slice (some ⟨gg, off + 1, none⟩) (n1 - 1) (cap - 1)) (y :: l) := by
      have q := HH.out.2.2.2.2.2.2.2.1 hcap
      rw [show (y :: l).length = n1 - 1 by have := HH.out.2.2.2.2.2.1; omega] at q
      exact q.of_block fun c _ => by show W2.heap[c]? = _; rw [H2.out.1]
    exact ⟨rfl, HH.out.1.rest1 HH.out.2.2.1 HH.out.2.2.2.1 HH.out.2.2.2.2.1 (X := W2.drew) ⟨z.os, z.tape, z.output, z.size, z.block⟩ zo (by rw [HH.out.2.2.2.2.2.2.2.2.2]; rfl) H3.out.1 H3.out.2⟩
end Go.Proofs.YtgcdbcljneoifajDoor.Pic
