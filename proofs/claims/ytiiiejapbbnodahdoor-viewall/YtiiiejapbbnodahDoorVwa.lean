/-
  All may go on: the walk of ViewAll.
-/
import Derived.Test.YtiiiejapbbnodahDoorViwP
import Derived.Deep.QuietTactic
import Derived.BigQuiet
import Derived.Deep.RegionHeld3
import Derived.Deep.AppendLies
import Derived.WalkLawsBesides
import Derived.Handy
namespace Go.Proofs.YtiiiejapbbnodahDoor.Viw
open Go.RowKit
open Go.Proofs.YtiiiejapbbnodahDoor.As (Laid)
open Go.Proofs.YtiiiejapbbnodahDoor.Fif (ret_bool own_lt own_block own_form)
open Go.Proofs.YtiiiejapbbnodahDoor.Vec (Vw)
open Go.Proofs.YtiiiejapbbnodahDoor.Ldr (errF errF_ok errF_no errF_same Sl)
set_option linter.unusedVariables false

theorem sl_block {w w' : World} {q : Option Addr} {n c : Nat} {l : List Int} (h : Sl w (.slice q n c) l) (hs : w.heap.size ≤ w'.heap.size) (hk : ∀ ad, q = some ad → 0 < n → w'.heap[ad.block]? = w.heap[ad.block]?) : Sl w' (.slice q n c) l := by
  obtain ⟨a, cap, e, h1, h2, h3⟩ := h
  injection e with e1 e2 e3
  subst e1 e2 e3
  refine ⟨q, c, rfl, h1, h2, h3.1, fun z => ?_⟩
  obtain ⟨b, off, e, hlt, hc⟩ := h3.2 z
  have eb := hk _ e z
  exact ⟨b, off, e, Nat.lt_of_lt_of_le hlt hs, fun k hk => (World.cell?_of_block (a := ⟨b, off + k, none⟩) eb).trans (hc k hk)⟩
/-- one more view: its number, and where its list lies -/
abbrev Ev := Int × Option Addr × Nat
def ev (es : List Ev) (k : Nat) : Ev := es.getD k (0, none, 0)
def flatV (lh : Nat) (es : List Ev) : List Value := es.flatMap fun e => [.int .i64 e.1, .slice e.2.1 lh e.2.2]
theorem flatV_len (lh : Nat) (es : List Ev) : (flatV lh es).length = es.length * 2 := by
  induction es with
  | nil => rfl
  | cons e l ih =>
    have : flatV lh (e :: l) = [.int .i64 e.1, .slice e.2.1 lh e.2.2] ++ flatV lh l := rfl
    rw [this, List.length_append, ih, List.length_cons]
    simp
    omega
theorem flatV_append (lh : Nat) (l m : List Ev) : flatV lh (l ++ m) = flatV lh l ++ flatV lh m := by simp [flatV]
theorem flatV_one (lh : Nat) (l : List Ev) : ∀ u ∈ flatV lh l, u.oneCell' = true := by
  intro u hu
  obtain ⟨e, _, he⟩ := List.mem_flatMap.1 hu
  simp at he
  rcases he with rfl | rfl <;> rfl
theorem flatV_get (lh : Nat) (l : List Ev) : ∀ k, k < l.length → (flatV lh l)[k * 2]? = some (.int .i64 (ev l k).1) ∧ (flatV lh l)[k * 2 + 1]? = some (.slice (ev l k).2.1 lh (ev l k).2.2) := by
  induction l with
  | nil => intro k hk; simp at hk
  | cons e l ih =>
    intro k hk
    have e3 : flatV lh (e :: l) = .int .i64 e.1 :: .slice e.2.1 lh e.2.2 :: flatV lh l := rfl
    rw [e3]
    cases k with
    | zero => exact ⟨rfl, rfl⟩
    | succ k =>
      have := ih k (by simpa using hk)
      rw [show (k + 1) * 2 = k * 2 + 2 by omega]
      simpa [ev] using this
theorem info_vi : ∃ i, Tryd.prog.info? 40 = some i ∧ i.zero = some (.agg #[.int .i64 0, .slice none 0 0]) ∧ i.size = 2 ∧ i.bytes = 32 := by
  have h : (Tryd.prog.info? 40).map (fun i => (i.zero, i.size, i.bytes)) = some (some (.agg #[.int .i64 0, .slice none 0 0]), 2, 32) := by kernel_rfl
  cases q : Tryd.prog.info? 40 with
  | none => rw [q] at h; cases h
  | some i =>
    rw [q] at h
    simp only [Option.map_some, Option.some.injEq, Prod.mk.injEq] at h
    exact ⟨i, rfl, h.1, h.2.1, h.2.2⟩
/-- how it stands: the view in its variable, all of them in a row -/
structure AL (w wr : World) (B : Nat) (has : List Int) (lh i : Nat) (y : Value) (es : List Ev) : Prop where
  bel : Below w.heap.size w wr
  row : wr.rowIs B 40 2 (sv (i : Int) (.slice (ev es i).2.1 lh (ev es i).2.2))
  own : wr.ownsRow w.heap.size 40 2 y (i + 1) (flatV lh es)
  len : es.length = i + 1
  num : ∀ k, k < i + 1 → (ev es k).1 = (k : Int)
  sl : ∀ k, k < i + 1 → Sl wr (.slice (ev es k).2.1 lh (ev es k).2.2) has
  far : ∀ k, k < i + 1 → ∀ ad, (ev es k).2.1 = some ad → 0 < lh → y.ownBlock ≠ some ad.block ∧ ad.block ≠ B
  nb : y.ownBlock ≠ some B
  lo : w.heap.size ≤ B
/-- all of them, as a slice that is seen -/
theorem AL.vs {w wr : World} {B : Nat} {has : List Int} {i : Nat} {y : Value} {es : List Ev} (h : AL w wr B has has.length i y es) : ∃ a cap, y = .slice a (i + 1) cap ∧ Vs wr a (i + 1) (alls has (i + 1)) ∧ i + 1 ≤ cap ∧ cap ≤ maxLen := by
  rcases h.own.2 with ⟨h2, h3⟩ | ⟨g, cap, cur, hv, hb, hh, hc, hm, hsz, ht⟩
  · omega
  · refine ⟨_, cap, hv, ⟨alls_len _ _, fun q => ⟨g, 0, rfl, (Array.getElem?_eq_some_iff.1 hh).1, fun k hk => ?_⟩⟩, hc, hm⟩
    obtain ⟨f0, f1⟩ := flatV_get has.length es k (by rw [h.len]; exact hk)
    have key : ∀ j u, j < (i + 1) * 2 → (flatV has.length es)[j]? = some u → wr.cell? ⟨g, j, none⟩ = some u := by
      intro j u hj hu
      rw [← ht, List.getElem?_take_of_lt hj] at hu
      simp only [World.cell?, hh]
      simpa using hu
    rw [alls_vw has hk, Nat.zero_add]
    refine ⟨(ev es k).2.1, (ev es k).2.2, ?_, key _ _ (by omega) f1, h.sl k hk⟩
    rw [key _ _ (by omega) f0, h.num k hk]
theorem new_vi {w w' : World} {x : Int} {q : Option Addr} {lh c : Nat} {t : TypeId} (e : w'.heap = w.heap.push (.cells #[.int .i64 x, .slice q lh c] t)) : ∀ j u, (flatV lh [(x, q, c)])[j]? = some u → w'.cell? ((⟨w.heap.size, 0, none⟩ : Addr).add j) = some u := by
  have hb : w'.heap[w.heap.size]? = some (.cells #[.int .i64 x, .slice q lh c] t) := by rw [e]; simp
  exact World.news_of_block hb
theorem below_ala (w : World) (o : Obj) : Below w.heap.size w (w.alloc o) := (Below.refl _ _).alloc (Nat.le_refl _) _
set_option maxRecDepth 100000 in
theorem all_bad (has : List Int) (q : Option Addr) (c : Nat) (n : Int) (w : World) (hL : Laid w) (hh : Sl w (.slice q has.length c) has) (hb : hasC has ≠ 0 ∨ n < 0 ∨ 50 < n) : Calls Tryd.prog 5 #[.slice q has.length c, .int .i64 n] w fun x w' => x = .returned (.bool true) ∧ Below w.heap.size w w' := by
  obtain ⟨W, eW⟩ : ∃ W, W = w.alloc (.cells #[.int .i64 0, .slice q has.length c] 40) := ⟨_, rfl⟩
  have O1 : Hid (Below w.heap.size w W ∧ Bv W w.heap.size ⟨0, has⟩ (.slice q has.length c)) := by rw [eW]; exact ⟨below_ala _ _, Bv.made w (v := ⟨0, has⟩) hh⟩
  have HL : Hid (Laid w) := hL
  have e0 : viewC ⟨0, has⟩ = hasC has := rfl
  obtain ⟨lh, el⟩ : ∃ lh, lh = has.length := ⟨_, rfl⟩
  rw [← el] at eW O1
  rw [← el]
  have key : ∀ (w1 : World), Below W.heap.size W w1 → Calls Tryd.prog 17 #[.agg #[.int .i64 0, .slice none 0 0], .slice none 0 0] w1 fun x w' => ∃ q c, x = .returned (.tuple #[.agg #[.int .i64 0, .slice q 0 c], errF 5]) ∧ Below w1.heap.size w1 w' := by
    intro w1 _
    refine (nextVw noV [] (.slice none 0 0) (.slice none 0 0) w1 (Sl.nil _) (Sl.nil _)).mono ?_
    rintro x w' ⟨q, c, rfl, _, _, hb⟩
    exact ⟨q, c, rfl, hb⟩
  have KEY : Hid _ := key
  have go : ∀ (cc : Int), cc = hasC has → (cc ≠ 0 ∨ n < 0 ∨ 50 < n) → Calls Tryd.prog 5 #[.slice q lh c, .int .i64 n] w fun x w' => x = .returned (.bool true) ∧ Below w.heap.size w w' := by
    intro cc ecc hcc
    have EC : Hid (cc = hasC has) := ecc
    rcases (show cc ≠ 0 ∨ (cc = 0 ∧ n < 0) ∨ (cc = 0 ∧ ¬ n < 0 ∧ n > 50) by omega) with d1 | ⟨d1, d2⟩ | ⟨d1, d2, d3⟩
    all_goals
      clear hcc hb key hL hh el ecc
      go_enter Tryd.func5, Tryd.ntmps5
      go_wp2_with fail
      rw [← eW]
      refine (checkV ⟨0, has⟩ (.slice q lh c) W O1.out.2.sl).mono ?_
      rintro e w1 ⟨rfl, hb1⟩
      rw [show viewC ⟨0, has⟩ = cc by rw [EC.out]; rfl]
      first | rw [errF_no d1] | rw [d1, errF_ok]
      have O2 : Hid (Below W.heap.size W w1) := hb1
      clear hb1
      go_wp2_with fail
      refine (KEY.out w1 O2.out).mono ?_
      rintro e w2 ⟨q2, c2, rfl, hb2⟩
      have O3 : Hid (Below w.heap.size w (w2.alloc (.cells #[.int .i64 0, .slice q2 0 c2] 40))) := by
        have b1 : Below w.heap.size w w1 := O1.out.1.trans (O2.out.mono O1.out.1.size)
        have b2 : Below w.heap.size w w2 := b1.trans (hb2.mono b1.size)
        exact b2.alloc b2.size _
      clear hb2
      go_wp2_with fail
      refine (errF_same 5 _ (HL.out.later O3.out)).mono ?_
      rintro e w4 ⟨rfl, hb4⟩
      have O4 : Hid (Below w.heap.size w w4) := O3.out.trans (hb4.mono O3.out.size)
      clear hb4
      go_wp2
      go_ret
      exact ⟨rfl, O4.out⟩
  exact go _ rfl hb
theorem ev_last {es : List Ev} {x : Ev} : ev (es ++ [x]) es.length = x := by simp [ev, List.getD]
theorem ev_old {es : List Ev} {x : Ev} {k : Nat} (h : k < es.length) : ev (es ++ [x]) k = ev es k := by simp [ev, List.getD, List.getElem?_append_left h]
theorem sl_lt {w : World} {q : Option Addr} {n c : Nat} {l : List Int} (h : Sl w (.slice q n c) l) {ad : Addr} (e : q = some ad) (hn : 0 < n) : ad.block < w.heap.size := by
  obtain ⟨a, cap, e', h1, h2, h3⟩ := h
  injection e' with e1 e2 e3
  subst e1 e2
  obtain ⟨b, off, e4, hlt, _⟩ := h3.2 hn
  rw [e4] at e
  cases e
  exact hlt
/-- the next one is put behind -/
theorem AL.next {w wr w1 w4 : World} {B : Nat} {has : List Int} {lh i i1 : Nat} {qy : Option Addr} {cy : Nat} {es : List Ev} {q' : Option Addr} {c' g cap : Nat} (h : AL w wr B has lh i (.slice qy (i + 1) cy) es) (hi1 : i1 = i + 1) (hb1 : Below wr.heap.size wr w1) (hs' : Sl w1 (.slice q' lh c') has) (hn' : ∀ ad, q' = some ad → 0 < lh → wr.heap.size ≤ ad.block)
    (ho : w4.ownsRow w.heap.size 40 2 (.slice (some ⟨g, 0, none⟩) (i1 + 1) cap) (i1 + 1) (flatV lh es ++ flatV lh [((i1 : Int), q', c')]))
    (hg : ((((w1.setCell ⟨B, 0, none⟩ (.int .i64 (i1 : Int))).setCell ⟨B, 1, none⟩ (.slice q' lh c')).alloc (.cells #[.int .i64 (i1 : Int), .slice q' lh c'] 40)).alloc (.cells #[.int .i64 (i1 : Int), .slice q' lh c'] 40)).grownBy w4 (Value.slice qy i1 cy).ownBlock)
    (hnew : (Value.slice qy i1 cy).ownBlock = some g ∨ g = w1.heap.size + 1 + 1) : AL w w4 B has lh i1 (.slice (some ⟨g, 0, none⟩) (i1 + 1) cap) (es ++ [((i1 : Int), q', c')]) := by
  subst hi1
  have hBl : B < wr.heap.size := World.rowIs.lt h.row
  have s1 := hb1.size
  have hyb : (Value.slice qy (i + 1) cy).ownBlock ≠ some B := h.nb
  have sz0 : ((w1.setCell ⟨B, 0, none⟩ (.int .i64 ((i + 1 : Nat) : Int))).setCell ⟨B, 1, none⟩ (.slice q' lh c')).heap.size = w1.heap.size := by simp [World.setCell]
  have hblk : ∀ z, z < w1.heap.size → (Value.slice qy (i + 1) cy).ownBlock ≠ some z → w4.heap[z]? = ((w1.setCell ⟨B, 0, none⟩ (.int .i64 ((i + 1 : Nat) : Int))).setCell ⟨B, 1, none⟩ (.slice q' lh c')).heap[z]? := by
    intro z hz hn
    rw [hg.block z (by simp [World.setCell]; omega) (fun e => hn e.symm), Below.heap_alloc _ _ _ (by simp [World.setCell]; omega), Below.heap_alloc _ _ _ (by simp [World.setCell]; omega)]
  have hblk' : ∀ z, z < w1.heap.size → z ≠ B → (Value.slice qy (i + 1) cy).ownBlock ≠ some z → w4.heap[z]? = w1.heap[z]? := by
    intro z hz hB hn
    rw [hblk z hz hn, Deep.blk_setCell_other _ _ _ _ hB, Deep.blk_setCell_other _ _ _ _ hB]
  have hs4 : w1.heap.size ≤ w4.heap.size := by
    have := hg.size
    simp [World.setCell] at this
    omega
  have hylt : ∀ z, (Value.slice qy (i + 1) cy).ownBlock = some z → w.heap.size ≤ z ∧ z < wr.heap.size := fun z hz => own_lt h.own z hz
  have hq1 : ∀ ad, q' = some ad → 0 < lh → ad.block < w1.heap.size ∧ wr.heap.size ≤ ad.block := fun ad e hn => ⟨sl_lt hs' e hn, hn' ad e hn⟩
  have eold : ∀ k, k < i + 1 → ev (es ++ [(((i + 1 : Nat) : Int), q', c')]) k = ev es k := fun k hk => ev_old (by rw [h.len]; exact hk)
  have enew : ev (es ++ [(((i + 1 : Nat) : Int), q', c')]) (i + 1) = (((i + 1 : Nat) : Int), q', c') := by
    have := ev_last (es := es) (x := (((i + 1 : Nat) : Int), q', c'))
    rw [h.len] at this
    exact this
  have hgB : g ≠ B := by
    rcases hnew with e | e
    · intro z
      rw [z] at e
      exact hyb e
    · omega
  have b1 : Below w.heap.size w w1 := h.bel.trans (hb1.mono h.bel.size)
  refine ⟨?_, ?_, ?_, by rw [List.length_append, h.len]; rfl, fun k hk => ?_, fun k hk => ?_, fun k hk ad e hn => ?_, ?_, h.lo⟩
  · have b2 := (b1.setCell (p := ⟨B, 0, none⟩) h.lo (.int .i64 ((i + 1 : Nat) : Int))).setCell (p := ⟨B, 1, none⟩) h.lo (.slice q' lh c')
    have b3 := b2.alloc b2.size (.cells #[.int .i64 ((i + 1 : Nat) : Int), .slice q' lh c'] 40)
    have b4 := b3.alloc b3.size (.cells #[.int .i64 ((i + 1 : Nat) : Int), .slice q' lh c'] 40)
    exact b4.grown hg b4.size fun z hz => (hylt z hz).1
  · rw [enew]
    have r1 := World.rowIs.of_block h.row (hb1.block B hBl)
    refine World.rowIs.of_block (((r1.set 0 (.int .i64 ((i + 1 : Nat) : Int))).set 1 (.slice q' lh c')).congr fun j hj => ?_) (hblk B (by omega) hyb)
    rcases (show j = 0 ∨ j = 1 by omega) with rfl | rfl
    · rfl
    · rfl
  · rw [flatV_append]
    exact ho
  · by_cases q : k < i + 1
    · rw [eold k q]
      exact h.num k q
    · rw [show k = i + 1 by omega, enew]
  · by_cases q : k < i + 1
    · rw [eold k q]
      refine sl_block ((h.sl k q).later hb1) hs4 fun ad e hn => ?_
      have f := h.far k q ad e hn
      exact hblk' _ (by have := sl_lt (h.sl k q) e hn; omega) f.2 f.1
    · rw [show k = i + 1 by omega, enew]
      refine sl_block hs' hs4 fun ad e hn => ?_
      have f := hq1 ad e hn
      refine hblk' _ f.1 (by omega) fun z => ?_
      have := (hylt _ z).2
      omega
  · by_cases q : k < i + 1
    · rw [eold k q] at e
      have f := h.far k q ad e hn
      refine ⟨fun z => ?_, f.2⟩
      have z' : g = ad.block := by simpa [Value.ownBlock] using z
      rcases hnew with y | y
      · rw [z'] at y
        exact f.1 y
      · have := sl_lt (h.sl k q) e hn
        omega
    · rw [show k = i + 1 by omega, enew] at e
      have f := hq1 ad e hn
      refine ⟨fun z => ?_, by omega⟩
      have z' : g = ad.block := by simpa [Value.ownBlock] using z
      rcases hnew with y | y
      · have := (hylt _ y).2
        omega
      · omega
  · intro z
    have z' : g = B := by simpa [Value.ownBlock] using z
    exact hgB z'
set_option maxRecDepth 100000 in
set_option maxHeartbeats 2000000 in
theorem all_ok (has : List Int) (q : Option Addr) (c : Nat) (n : Nat) (w : World) (hh : Sl w (.slice q has.length c) has) (hc : hasC has = 0) (hn : n ≤ 50) : Calls Tryd.prog 5 #[.slice q has.length c, .int .i64 (n : Int)] w fun x w' => x = .returned (.bool true) ∧ Below w.heap.size w w' := by
  obtain ⟨W, eW⟩ : ∃ W, W = w.alloc (.cells #[.int .i64 0, .slice q has.length c] 40) := ⟨_, rfl⟩
  have O1 : Hid (Below w.heap.size w W ∧ Bv W w.heap.size ⟨0, has⟩ (.slice q has.length c)) := by rw [eW]; exact ⟨below_ala _ _, Bv.made w (v := ⟨0, has⟩) hh⟩
  have HC : Hid (hasC has = 0 ∧ Sl w (.slice q has.length c) has) := ⟨hc, hh⟩
  have d1 : ¬ (n : Int) < 0 := by omega
  have d2 : ¬ (n : Int) > 50 := by omega
  obtain ⟨lh, el⟩ : ∃ lh, lh = has.length := ⟨_, rfl⟩
  have EL : Hid (lh = has.length) := el
  rw [← el] at eW O1 HC
  rw [← el]
  obtain ⟨iv, hiv, hz0, hz1, hz2⟩ := info_vi
  have HJ : Hid (Tryd.prog.info? 40 = some iv ∧ iv.zero = some (.agg #[.int .i64 0, .slice none 0 0]) ∧ iv.size = 2 ∧ iv.bytes = 32) := ⟨hiv, hz0, hz1, hz2⟩
  clear hh hc el hiv hz0 hz1 hz2
  go_enter Tryd.func5, Tryd.ntmps5
  go_wp2_with fail
  rw [← eW]
  refine (checkV ⟨0, has⟩ (.slice q lh c) W O1.out.2.sl).mono ?_
  rintro e w1 ⟨rfl, hb1⟩
  rw [show viewC ⟨0, has⟩ = 0 from HC.out.1, errF_ok]
  have O2 : Hid (Below w.heap.size w w1 ∧ Bv w1 w.heap.size ⟨0, has⟩ (.slice q lh c)) := ⟨O1.out.1.trans (hb1.mono O1.out.1.size), O1.out.2.later hb1⟩
  have m0 : w1.cell? ⟨w.heap.size, 0, none⟩ = some (.int .i64 0) := O2.out.2.c0
  have m1 := O2.out.2.c1
  have hl := O2.out.2.lt
  have A0 : Hid (AL w (w1.alloc (.cells #[.int .i64 0, .slice q lh c] 40)) w.heap.size has lh 0 (.slice (some ⟨w1.heap.size, 0, none⟩) 1 1) [(0, q, c)]) := by
    have ba : Below w1.heap.size w1 (w1.alloc (.cells #[.int .i64 0, .slice q lh c] 40)) := below_ala _ _
    have hsl : Sl (w1.alloc (.cells #[.int .i64 0, .slice q lh c] 40)) (.slice q lh c) has := O2.out.2.sl.later ba
    refine ⟨O2.out.1.trans (ba.mono O2.out.1.size), World.rowIs.of_block O2.out.2.row (ba.block _ O2.out.2.lt), ?_, rfl, fun k hk => ?_, fun k hk => ?_, fun k hk ad e hn => ?_, fun z => ?_, Nat.le_refl _⟩
    · refine ⟨rfl, .inr ⟨w1.heap.size, 1, #[.int .i64 0, .slice q lh c], rfl, O2.out.1.size, ?_, Nat.le_refl _, by decide, rfl, rfl⟩⟩
      show (w1.heap.push _)[w1.heap.size]? = _
      simp
    · rw [show k = 0 by omega]; rfl
    · rw [show k = 0 by omega]; exact hsl
    · rw [show k = 0 by omega] at e
      have := sl_lt HC.out.2 e hn
      refine ⟨fun z => ?_, by omega⟩
      have z' : w1.heap.size = ad.block := by simpa [Value.ownBlock] using z
      omega
    · have z' : w1.heap.size = w.heap.size := by simpa [Value.ownBlock] using z
      omega
  clear hb1 eW O1
  go_wp2
  go_loopw [8, 9, 10, 11] (fun y x x10 x11 wr => ∃ (i : Nat) (es : List Ev), i ≤ n ∧ x = .int .i64 (i : Int) ∧ Hid (AL w wr w.heap.size has lh i y es)) (fun _ x _ _ _ => n - (intOf x).toNat)
  case atStart => exact ⟨0, _, by omega, rfl, A0⟩
  case round =>
    obtain ⟨i, es, hi, rfl, hA⟩ := hrel
    obtain ⟨qy, cy, rfl⟩ := own_form hA.out.own
    by_cases hin : i < n
    · have hin' : (i : Int) < (n : Int) := by omega
      obtain ⟨qe, eqe⟩ : ∃ qe, qe = (ev es i).2.1 := ⟨_, rfl⟩
      obtain ⟨ce, ece⟩ : ∃ ce, ce = (ev es i).2.2 := ⟨_, rfl⟩
      have c0 : wr.cell? ⟨w.heap.size, 0, none⟩ = some (.int .i64 (i : Int)) := World.rowIs.cell hA.out.row (i := 0) (by omega)
      have c1 : wr.cell? ⟨w.heap.size, 1, none⟩ = some (.slice qe lh ce) := by rw [eqe, ece]; exact World.rowIs.cell hA.out.row (i := 1) (by omega)
      have S0 : Hid (Sl wr (.slice qe lh ce) has ∧ Sl wr (.slice q lh c) has) := ⟨by rw [eqe, ece]; exact hA.out.sl i (by omega), HC.out.2.later hA.out.bel⟩
      have HE : Hid (qe = (ev es i).2.1 ∧ ce = (ev es i).2.2) := ⟨eqe, ece⟩
      clear eqe ece
      go_wp2_with fail
      refine (nextVw ⟨(i : Int), has⟩ has (.slice qe lh ce) (.slice q lh c) wr S0.out.1 S0.out.2).mono ?_
      rintro e w2 ⟨q2, c2, rfl, hs2, hn2, hb2⟩
      rw [(all_next HC.out.1 (show i ≤ 100 by omega)).1, errF_ok]
      rw [(all_next HC.out.1 (show i ≤ 100 by omega)).2] at hs2 hn2 ⊢
      rw [show (Vi.mk (((i + 1 : Nat) : Int)) has).has.length = lh from EL.out.symm] at hs2 hn2 ⊢
      have f0 := World.rowIs.frozen hA.out.row 0
      have f1 := World.rowIs.frozen hA.out.row 1
      have R2 : Hid (w2.rowIs w.heap.size 40 2 (sv (i : Int) (.slice qe lh ce)) ∧ Sl w2 (.slice q2 lh c2) has ∧ (∀ ad, q2 = some ad → 0 < lh → wr.heap.size ≤ ad.block) ∧ Below wr.heap.size wr w2) := ⟨by rw [HE.out.1, HE.out.2]; exact World.rowIs.of_block hA.out.row (hb2.block _ (World.rowIs.lt hA.out.row)), hs2, hn2, hb2⟩
      have k0 : w2.cell? ⟨w.heap.size, 0, none⟩ = some (.int .i64 (i : Int)) := World.rowIs.cell R2.out.1 (i := 0) (by omega)
      have k1 : w2.cell? ⟨w.heap.size, 1, none⟩ = some (.slice qe lh ce) := World.rowIs.cell R2.out.1 (i := 1) (by omega)
      have z0 := World.rowIs.frozen R2.out.1 0
      have z1 := World.rowIs.frozen R2.out.1 1
      have hl2 := World.rowIs.lt R2.out.1
      have hne : w2.heap.size ≠ w.heap.size := by omega
      obtain ⟨i1, ei1⟩ : ∃ i1 : Nat, i1 = i + 1 := ⟨_, rfl⟩
      have EI : Hid (i1 = i + 1) := ei1
      rw [← ei1]
      have hi1 : (i : Int) + 1 = (i1 : Int) := by omega
      clear hs2 hn2 hb2 f0 f1 c0 c1 ei1
      have OW : Hid ((((w2.setCell ⟨w.heap.size, 0, none⟩ (.int .i64 (i1 : Int))).setCell ⟨w.heap.size, 1, none⟩ (.slice q2 lh c2)).alloc (.cells #[.int .i64 (i1 : Int), .slice q2 lh c2] 40)).ownsRow w.heap.size 40 2 (.slice qy i1 cy) i1 (flatV lh es)) := by
        have o := hA.out.own
        rw [← EI.out] at o
        refine own_block o fun z hz => ?_
        have h1 := (own_lt o z hz).2
        have h2 : z ≠ w.heap.size := fun e => hA.out.nb (by rw [← EI.out, ← e]; exact hz)
        rw [Below.heap_alloc _ _ _ (by simp [World.setCell]; have := R2.out.2.2.2.size; omega), Deep.blk_setCell_other _ _ _ _ h2, Deep.blk_setCell_other _ _ _ _ h2]
        exact R2.out.2.2.2.block z h1
      have hs3 : (((w2.setCell ⟨w.heap.size, 0, none⟩ (.int .i64 (i1 : Int))).setCell ⟨w.heap.size, 1, none⟩ (.slice q2 lh c2)).alloc (.cells #[.int .i64 (i1 : Int), .slice q2 lh c2] 40)).heap.size = w2.heap.size + 1 := by simp [World.setCell]
      have NEW : Hid (∀ j u, (flatV lh [((i1 : Int), q2, c2)])[j]? = some u → ((((w2.setCell ⟨w.heap.size, 0, none⟩ (.int .i64 (i1 : Int))).setCell ⟨w.heap.size, 1, none⟩ (.slice q2 lh c2)).alloc (.cells #[.int .i64 (i1 : Int), .slice q2 lh c2] 40)).alloc (.cells #[.int .i64 (i1 : Int), .slice q2 lh c2] 40)).cell? ((⟨w2.heap.size + 1, 0, none⟩ : Addr).add j) = some u) := by
        rw [← hs3]
        exact new_vi rfl
      have SZ : Hid (w.heap.size ≤ w2.heap.size) := by show w.heap.size ≤ w2.heap.size; omega
      clear hs3
      go_wp2_with (at_builtin; refine wpList_append_lies _ rfl _ _ 41 rfl w.heap.size 40 iv (.agg #[.int .i64 0, .slice none 0 0]) 2 32 Tryd.underlying41 HJ.out.1 HJ.out.2.1 HJ.out.2.2.1 HJ.out.2.2.2 rfl (by decide) (.slice qy i1 cy) i1 (flatV lh es) rfl (by exact own_block OW.out fun b hb => Below.heap_alloc _ _ _ (own_lt OW.out b hb).2) ⟨w2.heap.size + 1, 0, none⟩ 1 1 (flatV lh [((i1 : Int), q2, c2)]) rfl rfl (by exact NEW.out) (flatV_one _ _) (by decide) (by unfold maxLen; omega) (by omega) (by have := SZ.out; simp [World.setCell]; omega) (w2.heap.size + 1 + 1) (by simp [World.setCell]) ?_; intro g4 cap4 w4 hown hgrow hat hlt; have A4 : Hid (AL w w4 w.heap.size has lh i1 (.slice (some ⟨g4, 0, none⟩) (i1 + 1) cap4) (es ++ [((i1 : Int), q2, c2)])) := AL.next (by have q := hA.out; exact q) EI.out R2.out.2.2.2 R2.out.2.1 R2.out.2.2.1 hown hgrow hat; clear hown hgrow hat hlt)
      go_roundw
      case rel => exact ⟨i1, _, by omega, by rw [← hi1], A4.out⟩
      case measure => simp [intOf]; omega
    · have hin' : ¬ (i : Int) < (n : Int) := by omega
      have hAA := hA.out
      rw [EL.out] at hAA
      obtain ⟨a', cap', e', hv', h1', h2'⟩ := hAA.vs
      injection e' with e1 e2 e3
      subst e1 e3
      have VS : Hid (Vs wr qy (i + 1) (alls has (i + 1)) ∧ i + 1 ≤ cy ∧ cy ≤ maxLen ∧ Below w.heap.size w wr) := ⟨hv', h1', h2', hA.out.bel⟩
      clear hA hAA hv' h1' h2'
      go_wp2_with fail
      refine (chainV (alls has (i + 1)) qy (i + 1) cy wr VS.out.1 VS.out.2.1 VS.out.2.2.1).mono ?_
      rintro e w2 ⟨rfl, hb2⟩
      rw [all_chain HC.out.1 (show i + 1 ≤ 51 by omega), errF_ok]
      have BB : Hid (Below w.heap.size w w2) := VS.out.2.2.2.trans (hb2.mono VS.out.2.2.2.size)
      clear hb2
      go_wp2
      go_ret
      exact ⟨rfl, BB.out⟩
theorem all_any (has : List Int) (q : Option Addr) (lh c : Nat) (n : Int) (w : World) (hL : Laid w) (hh : Sl w (.slice q lh c) has) : Calls Tryd.prog 5 #[.slice q lh c, .int .i64 n] w fun x w' => x = .returned (.bool true) ∧ Below w.heap.size w w' := by
  have e := sl_len hh
  subst e
  by_cases h : hasC has ≠ 0 ∨ n < 0 ∨ 50 < n
  · exact all_bad has q c n w hL hh h
  · obtain ⟨k, rfl⟩ : ∃ k : Nat, n = (k : Int) := ⟨n.toNat, by omega⟩
    exact all_ok has q c k w hh (Decidable.byContradiction fun z => h (.inl z)) (by omega)
end Go.Proofs.YtiiiejapbbnodahDoor.Viw
