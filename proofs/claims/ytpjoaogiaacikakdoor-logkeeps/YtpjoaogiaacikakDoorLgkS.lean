/-
  A log, what was done, and where each record ends, side by side in memory.
-/
import Derived.Test.YtpjoaogiaacikakDoorLgsW
import Derived.Test.YtpjoaogiaacikakDoorLgkM
import Derived.Test.YtpjoaogiaacikakDoorEvS
import Derived.Deep.AppendLies
namespace Go.Proofs.YtpjoaogiaacikakDoor.Lgs
open Go.RowKit
open Go.Proofs.YtpjoaogiaacikakDoor.Fif (own_lt own_block own_form own_mono info_int int_one new_int)
open Go.Proofs.YtpjoaogiaacikakDoor.His (Ev ev errV errV_ok errV_no Eo Ew chkC flat flat_len flat_append info_ev flat_one news1)
open Go.Proofs.YtpjoaogiaacikakDoor.Sep (KpL NewL)
set_option linter.unusedVariables false

/-- numbers in a row that the call owns -/
def Io (w : World) (base : Nat) (v : Value) (l : List Int) : Prop := w.ownsRow base 3 1 v l.length (l.map (Value.int .i64))
/-- a log, the events done, the marks, and what is next, none of them in the blocks of another one -/
structure KS (w wr : World) (B P : Nat) (l : L) (vd vm vn : Value) : Prop where
  lg : ∃ fp, LG wr B P l fp ∧ (∀ b, vd.ownBlock = some b → b ∉ fp) ∧ (∀ b, vm.ownBlock = some b → b ∉ fp) ∧ ∀ b, vn.ownBlock = some b → b ∉ fp
  d : Eo wr w.heap.size vd l.es
  m : Io wr w.heap.size vm (marks l)
  n : ∀ b, vn.ownBlock = some b → b < wr.heap.size ∧ vd.ownBlock ≠ some b ∧ vm.ownBlock ≠ some b
  inv : Inv l
  bel : Below w.heap.size w wr
  low : w.heap.size ≤ B ∧ B ≤ wr.heap.size
variable {w wr w' : World} {B P : Nat} {l : L} {vd vm vn : Value}
theorem own_type {w : World} {b1 b2 : Nat} {t1 t2 : TypeId} {s1 s2 n1 n2 : Nat} {v1 v2 : Value} {x1 x2 : List Value} (h1 : w.ownsRow b1 t1 s1 v1 n1 x1) (h2 : w.ownsRow b2 t2 s2 v2 n2 x2) (hne : t1 ≠ t2) : ∀ b, v1.ownBlock = some b → v2.ownBlock ≠ some b := by
  intro b e1 e2
  rcases h1.2 with ⟨q, _⟩ | ⟨g, cap, cur, hv, _, hh, _⟩
  · rw [q] at e1; cases e1
  · rcases h2.2 with ⟨q, _⟩ | ⟨g', cap', cur', hv', _, hh', _⟩
    · rw [q] at e2; cases e2
    · rw [hv] at e1
      rw [hv'] at e2
      have a1 : g = b := by simpa [Value.ownBlock] using e1
      have a2 : g' = b := by simpa [Value.ownBlock] using e2
      subst a1
      subst a2
      rw [hh] at hh'
      simp only [Option.some.injEq, Obj.cells.injEq] at hh'
      exact hne hh'.2.1
theorem KS.later (h : KS w wr B P l vd vm vn) (hb : Below wr.heap.size wr w') : KS w w' B P l vd vm vn := by
  obtain ⟨fp, hl, h1, h2, h3⟩ := h.lg
  exact ⟨⟨fp, hl.of_blocks hb.size fun b q => hb.block b (hl.fp b q).2, h1, h2, h3⟩, own_block h.d fun b q => hb.block b (own_lt h.d b q).2, own_block h.m fun b q => hb.block b (own_lt h.m b q).2, fun b q => ⟨Nat.lt_of_lt_of_le (h.n b q).1 hb.size, (h.n b q).2⟩, h.inv, h.bel.trans (hb.mono h.bel.size), h.low.1, Nat.le_trans h.low.2 hb.size⟩
/-- a call of the log that leaves what was done as it is -/
theorem KS.step {l' : L} {fp fp' : List Nat} (h : KS w wr B P l vd vm vn) (hf : LG wr B P l fp) (h1 : ∀ b, vd.ownBlock = some b → b ∉ fp) (h2 : ∀ b, vm.ownBlock = some b → b ∉ fp) (h3 : ∀ b, vn.ownBlock = some b → b ∉ fp) (hl : LG w' B P l' fp') (hi : Inv l') (hb : Below B wr w') (hk : KpL wr w' fp) (hn : NewL wr fp fp') (he : l'.es = l.es) (hm : marks l' = marks l) : KS w w' B P l' vd vm vn := by
  refine ⟨⟨fp', hl, fun b q z => (hn b z).elim (h1 b q) (by have := (own_lt h.d b q).2; omega), fun b q z => (hn b z).elim (h2 b q) (by have := (own_lt h.m b q).2; omega), fun b q z => (hn b z).elim (h3 b q) (by have := (h.n b q).1; omega)⟩, ?_, ?_, fun b q => ⟨Nat.lt_of_lt_of_le (h.n b q).1 hk.1, (h.n b q).2⟩, hi, h.bel.trans (hb.mono h.low.1), h.low.1, Nat.le_trans h.low.2 hk.1⟩
  · rw [he]
    exact own_block h.d fun b q => hk.2 b (own_lt h.d b q).2 (h1 b q)
  · rw [hm]
    exact own_block h.m fun b q => hk.2 b (own_lt h.m b q).2 (h2 b q)
theorem KS.fail (n : Int) (hn : n ≤ 9223372036854775807) (h : KS w wr B P l vd vm vn) : Calls Tryd.prog 14 #[.pointer (some ⟨P, 0, none⟩), .int .i64 n] wr fun x w' => x = .returned (.tuple #[]) ∧ KS w w' B P (failL l n) vd vm vn := by
  obtain ⟨fp, hl, h1, h2, h3⟩ := h.lg
  refine (failG B P l fp n wr hl h.inv h.low.2 hn).mono ?_
  rintro x w' ⟨fp', rfl, h4, hb, hk, hn⟩
  exact ⟨rfl, h.step hl h1 h2 h3 h4 (h.inv.failL n) hb hk hn rfl rfl⟩
theorem KS.sync (h : KS w wr B P l vd vm vn) : Calls Tryd.prog 11 #[.pointer (some ⟨P, 0, none⟩)] wr fun x w' => x = .returned (errV (syncC l)) ∧ KS w w' B P (syncL l) vd vm vn := by
  obtain ⟨fp, hl, h1, h2, h3⟩ := h.lg
  refine (syncG B P l fp wr hl h.inv h.low.2).mono ?_
  rintro x w' ⟨fp', rfl, h4, hb, hk, hn⟩
  exact ⟨rfl, h.step hl h1 h2 h3 h4 h.inv.syncL hb hk hn sync_same.1 marks_sync⟩
theorem KS.bytes (h : KS w wr B P l vd vm vn) : Calls Tryd.prog 8 #[.pointer (some ⟨P, 0, none⟩)] wr fun x w' => x = .returned (.int .i64 (Lgs.bytes l : Nat)) ∧ KS w w' B P l vd vm vn ∧ Below wr.heap.size wr w' := by
  obtain ⟨fp, hl, _⟩ := h.lg
  refine (bytesG B P l fp wr hl h.inv).mono ?_
  rintro x w' ⟨rfl, hb⟩
  exact ⟨rfl, h.later hb, hb⟩
theorem KS.safe (h : KS w wr B P l vd vm vn) : Calls Tryd.prog 13 #[.pointer (some ⟨P, 0, none⟩)] wr fun x w' => x = .returned (.int .i64 (l.safe : Nat)) ∧ KS w w' B P l vd vm vn ∧ Below wr.heap.size wr w' := by
  obtain ⟨fp, hl, _⟩ := h.lg
  refine (safeG B P l fp wr hl h.inv).mono ?_
  rintro x w' ⟨rfl, hb⟩
  exact ⟨rfl, h.later hb, hb⟩
theorem KS.all (h : KS w wr B P l vd vm vn) : Calls Tryd.prog 10 #[.pointer (some ⟨P, 0, none⟩)] wr fun x w' => ∃ v, x = .returned v ∧ Eo w' wr.heap.size v l.es ∧ KS w w' B P l vd vm vn ∧ Below wr.heap.size wr w' := by
  obtain ⟨fp, hl, _⟩ := h.lg
  refine (allG B P l fp wr hl h.inv).mono ?_
  rintro x w' ⟨v, rfl, ho, hb⟩
  exact ⟨v, rfl, ho, h.later hb, hb⟩
/-- nothing is next -/
theorem KS.bare (h : KS w wr B P l vd vm vn) : KS w wr B P l vd vm (.slice none 0 0) := by
  obtain ⟨fp, hl, h1, h2, _⟩ := h.lg
  exact ⟨⟨fp, hl, h1, h2, fun b q => by simp [Value.ownBlock] at q⟩, h.d, h.m, fun b q => by simp [Value.ownBlock] at q, h.inv, h.bel, h.low⟩
/-- a row that was made is next -/
theorem KS.fresh {v : Value} (h : KS w wr B P l vd vm vn) (hb : Below wr.heap.size wr w') (hv : ∀ b, v.ownBlock = some b → wr.heap.size ≤ b ∧ b < w'.heap.size) : KS w w' B P l vd vm v := by
  obtain ⟨fp, hl, h1, h2, _⟩ := (h.later hb).lg
  obtain ⟨fp0, hl0, k1, k2, _⟩ := h.lg
  have h' := h.later hb
  refine ⟨⟨fp0, hl0.of_blocks hb.size fun b q => hb.block b (hl0.fp b q).2, k1, k2, fun b q z => by have := (hl0.fp b z).2; have := (hv b q).1; omega⟩, h'.d, h'.m, fun b q => ⟨(hv b q).2, fun z => by have := (own_lt h.d b z).2; have := (hv b q).1; omega, fun z => by have := (own_lt h.m b z).2; have := (hv b q).1; omega⟩, h'.inv, h'.bel, h'.low⟩
/-- what is next grows -/
theorem KS.grow {v : Value} (h : KS w wr B P l vd vm vn) (hg : wr.grownBy w' vn.ownBlock) (hlow : ∀ b, vn.ownBlock = some b → B ≤ b) (hv : ∀ b, v.ownBlock = some b → (vn.ownBlock = some b ∨ wr.heap.size ≤ b) ∧ b < w'.heap.size) : KS w w' B P l vd vm v := by
  obtain ⟨fp, hl, h1, h2, h3⟩ := h.lg
  refine ⟨⟨fp, hl.of_blocks hg.size fun b q => hg.block b (hl.fp b q).2 (fun e => h3 b e.symm q), h1, h2, fun b q z => ?_⟩, own_block h.d fun b q => hg.block b (own_lt h.d b q).2 (fun e => (h.n b e.symm).2.1 q), own_block h.m fun b q => hg.block b (own_lt h.m b q).2 (fun e => (h.n b e.symm).2.2 q), fun b q => ?_, h.inv, h.bel.grown hg (Nat.le_trans h.low.1 h.low.2) (fun b q => Nat.le_trans h.low.1 (hlow b q)), h.low.1, Nat.le_trans h.low.2 hg.size⟩
  · rcases (hv b q).1 with e | e
    · exact h3 b e z
    · have := (hl.fp b z).2; omega
  · refine ⟨(hv b q).2, ?_⟩
    rcases (hv b q).1 with e | e
    · exact (h.n b e).2
    · exact ⟨fun z => by have := (own_lt h.d b z).2; omega, fun z => by have := (own_lt h.m b z).2; omega⟩
/-- behind an event that was done: the marks are those ahead of it -/
structure KD (w wr : World) (B P : Nat) (l l' : L) (vm vn : Value) : Prop where
  lg : ∃ fp, LG wr B P l' fp ∧ (∀ b, vm.ownBlock = some b → b ∉ fp) ∧ ∀ b, vn.ownBlock = some b → b ∉ fp
  d : Eo wr w.heap.size vn l'.es
  m : Io wr w.heap.size vm (marks l)
  inv : Inv l'
  bel : Below w.heap.size w wr
  low : w.heap.size ≤ B ∧ B ≤ wr.heap.size
theorem KD.later {l' : L} (h : KD w wr B P l l' vm vn) (hb : Below wr.heap.size wr w') : KD w w' B P l l' vm vn := by
  obtain ⟨fp, hl, h1, h2⟩ := h.lg
  exact ⟨⟨fp, hl.of_blocks hb.size fun b q => hb.block b (hl.fp b q).2, h1, h2⟩, own_block h.d fun b q => hb.block b (own_lt h.d b q).2, own_block h.m fun b q => hb.block b (own_lt h.m b q).2, h.inv, h.bel.trans (hb.mono h.bel.size), h.low.1, Nat.le_trans h.low.2 hb.size⟩
theorem KD.bytes {l' : L} (h : KD w wr B P l l' vm vn) : Calls Tryd.prog 8 #[.pointer (some ⟨P, 0, none⟩)] wr fun x w' => x = .returned (.int .i64 (Lgs.bytes l' : Nat)) ∧ KD w w' B P l l' vm vn ∧ Below wr.heap.size wr w' := by
  obtain ⟨fp, hl, _⟩ := h.lg
  refine (bytesG B P l' fp wr hl h.inv).mono ?_
  rintro x w' ⟨rfl, hb⟩
  exact ⟨rfl, h.later hb, hb⟩
/-- the mark is written down -/
theorem KD.done {l' : L} {vm' : Value} (h : KD w wr B P l l' vm vn) (hm : Io w' w.heap.size vm' (marks l')) (hg : wr.grownBy w' vm.ownBlock) (hat : ∀ b, vm'.ownBlock = some b → vm.ownBlock = some b ∨ wr.heap.size ≤ b) (hne : 3 ≠ 28) : KS w w' B P l' vn vm' (.slice none 0 0) := by
  obtain ⟨fp, hl, h1, h2⟩ := h.lg
  have hd : ∀ b, vn.ownBlock = some b → vm.ownBlock ≠ some b := fun b q z => own_type h.m h.d hne b z q
  refine ⟨⟨fp, hl.of_blocks hg.size fun b q => hg.block b (hl.fp b q).2 (fun e => h1 b e.symm q), h2, fun b q z => ?_, fun b q => by simp [Value.ownBlock] at q⟩, own_block h.d fun b q => hg.block b (own_lt h.d b q).2 (fun e => hd b q e.symm), hm, fun b q => by simp [Value.ownBlock] at q, h.inv, h.bel.grown hg (Nat.le_trans h.low.1 h.low.2) (fun b q => (own_lt h.m b q).1), h.low.1, Nat.le_trans h.low.2 hg.size⟩
  rcases hat b q with e | e
  · exact h1 b e z
  · have := (hl.fp b z).2; omega
/-- the step at which an event is done, or not -/
theorem KS.do (e : Ev) (h : KS w wr B P l vd vm vn) (hv : Eo wr w.heap.size vn (l.es ++ [e])) : Calls Tryd.prog 6 #[.pointer (some ⟨P, 0, none⟩), .agg #[.int .i64 e.1, .int .i64 e.2.1, .int .i64 e.2.2]] wr fun x w' => ∃ k, x = .returned (errV (doC l e)) ∧ 2 ≤ k ∧ (doC l e ≠ 0 → KS w w' B P (doL l e k) vd vm vn) ∧ (doC l e = 0 → KD w w' B P l (doL l e k) vm vn) := by
  obtain ⟨fp, hl, h1, h2, h3⟩ := h.lg
  refine (doG B P l fp e wr hl h.inv h.low.2).mono ?_
  rintro x w' ⟨k, fp', rfl, ⟨hk2, hk3⟩, h4, hb, hk, hw⟩
  have hi := h.inv.doL e hk2 hk3
  refine ⟨k, rfl, hk2, fun hz => h.step hl h1 h2 h3 h4 hi hb hk hw (do_no hz k).1 (marks_same hz k), fun hz => ⟨⟨fp', h4, fun b q z => (hw b z).elim (h2 b q) (by have := (own_lt h.m b q).2; omega), fun b q z => (hw b z).elim (h3 b q) (by have := (own_lt hv b q).2; omega)⟩, ?_, ?_, hi, h.bel.trans (hb.mono h.low.1), h.low.1, Nat.le_trans h.low.2 hk.1⟩⟩
  · rw [(do_ok (k := k) hz).2.2]
    exact own_block hv fun b q => hk.2 b (own_lt hv b q).2 (h3 b q)
  · exact own_block h.m fun b q => hk.2 b (own_lt h.m b q).2 (h2 b q)
/-- the first so many of a row -/
theorem own_take {w : World} {base : Nat} {t : TypeId} {s n cap m : Nat} {q : Option Addr} {xs : List Value} (h : w.ownsRow base t s (.slice q n cap) n xs) (hm : m ≤ n) : w.ownsRow base t s (.slice q m cap) m (xs.take (m * s)) ∧ (Value.slice q m cap).ownBlock = (Value.slice q n cap).ownBlock ∧ n ≤ cap := by
  have hl := h.1
  rcases h.2 with ⟨h2, h3⟩ | ⟨g, c, cur, hv, hb, hh, hc, hmx, hsz, ht⟩
  · injection h2 with e1 e2 e3
    subst e1 e2 e3
    obtain rfl : m = 0 := by omega
    exact ⟨⟨by simp, .inl ⟨rfl, rfl⟩⟩, rfl, Nat.le_refl _⟩
  · injection hv with e1 e2 e3
    subst e1 e3
    refine ⟨⟨by rw [List.length_take, hl]; have : m * s ≤ n * s := Nat.mul_le_mul_right _ hm; omega, .inr ⟨g, _, cur, rfl, hb, hh, by omega, hmx, hsz, ?_⟩⟩, rfl, hc⟩
    rw [← ht, List.take_take, Nat.min_eq_left (Nat.mul_le_mul_right _ hm)]
/-- behind a crash: what was done and the marks are those ahead of it -/
structure KC (w wr : World) (B P : Nat) (l l' : L) (vd vm : Value) : Prop where
  lg : ∃ fp, LG wr B P l' fp ∧ (∀ b, vd.ownBlock = some b → b ∉ fp) ∧ ∀ b, vm.ownBlock = some b → b ∉ fp
  d : Eo wr w.heap.size vd l.es
  m : Io wr w.heap.size vm (marks l)
  inv : Inv l'
  bel : Below w.heap.size w wr
  low : w.heap.size ≤ B ∧ B ≤ wr.heap.size
theorem KS.crash (keep : Int) (h : KS w wr B P l vd vm vn) : Calls Tryd.prog 12 #[.pointer (some ⟨P, 0, none⟩), .int .i64 keep] wr fun x w' => x = .returned (.tuple #[]) ∧ KC w w' B P l (crashL l keep) vd vm := by
  obtain ⟨fp, hl, h1, h2, h3⟩ := h.lg
  refine (crashG B P l fp keep wr hl h.inv h.low.2).mono ?_
  rintro x w' ⟨fp', rfl, h4, hb, hk, hn⟩
  exact ⟨rfl, ⟨fp', h4, fun b q z => (hn b z).elim (h1 b q) (by have := (own_lt h.d b q).2; omega), fun b q z => (hn b z).elim (h2 b q) (by have := (own_lt h.m b q).2; omega)⟩, own_block h.d fun b q => hk.2 b (own_lt h.d b q).2 (h1 b q), own_block h.m fun b q => hk.2 b (own_lt h.m b q).2 (h2 b q), h.inv.crashL keep, h.bel.trans (hb.mono h.low.1), h.low.1, Nat.le_trans h.low.2 hk.1⟩
/-- both cut off to what is left -/
theorem KC.cut {keep : Int} {q1 q2 : Option Addr} {n1 c1 n2 c2 : Nat} (h : KC w wr B P l (crashL l keep) (.slice q1 n1 c1) (.slice q2 n2 c2)) (hi : Inv l) (e1 : n1 = l.es.length) (e2 : n2 = (marks l).length) : KS w wr B P (crashL l keep) (.slice q1 (kept l keep) c1) (.slice q2 (kept l keep + 1) c2) (.slice none 0 0) ∧ n1 ≤ c1 ∧ n2 ≤ c2 := by
  subst e1 e2
  have hk := kept_le (l := l) keep
  have hlen := hi.len
  obtain ⟨o1, b1, k1⟩ := own_take h.d (m := kept l keep) (by omega)
  obtain ⟨o2, b2, k2⟩ := own_take h.m (m := kept l keep + 1) (by rw [marks_len]; omega)
  obtain ⟨fp, hl, g1, g2⟩ := h.lg
  have t1 : ∀ (es : List Ev) (k : Nat), (flat es).take (k * 3) = flat (es.take k) := by
    intro es
    induction es with
    | nil => intro k; simp [flat]
    | cons x es ih =>
      intro k
      cases k with
      | zero => simp [flat]
      | succ k =>
        have e3 : ∀ t, flat (x :: t) = .int .i64 x.1 :: .int .i64 x.2.1 :: .int .i64 x.2.2 :: flat t := fun _ => rfl
        rw [List.take_succ_cons, e3, e3, ← ih, show (k + 1) * 3 = k * 3 + 1 + 1 + 1 by omega]
        simp
  refine ⟨⟨⟨fp, hl, fun b q => g1 b (b1 ▸ q), fun b q => g2 b (b2 ▸ q), fun b q => by simp [Value.ownBlock] at q⟩, ?_, ?_, fun b q => by simp [Value.ownBlock] at q, h.inv, h.bel, h.low⟩, k1, k2⟩
  · show wr.ownsRow _ _ 3 _ (crashL l keep).es.length (flat (crashL l keep).es)
    rw [crash_es, ← t1, List.length_take, Nat.min_eq_left (by omega)]
    exact o1
  · show wr.ownsRow _ _ 1 _ (marks (crashL l keep)).length ((marks (crashL l keep)).map _)
    rw [marks_crash, List.length_take, marks_len, Nat.min_eq_left (by omega), List.map_take]
    rw [Nat.mul_one] at o2
    exact o2
end Go.Proofs.YtpjoaogiaacikakDoor.Lgs
