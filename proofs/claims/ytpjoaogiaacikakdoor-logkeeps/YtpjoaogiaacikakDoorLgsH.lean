/-
  Contracts of package log: step, Sync, Fail.
-/
import Derived.Test.YtpjoaogiaacikakDoorLgsB
namespace Go.Proofs.YtpjoaogiaacikakDoor.Lgs
open Go.RowKit
open Go.Proofs.YtpjoaogiaacikakDoor.His (Ev ev errV errV_ok errV_no Eo)
open Go.Proofs.YtpjoaogiaacikakDoor.Sep (KpL NewL)
open Go.Proofs.YtpjoaogiaacikakDoor.Fif (own_lt own_block own_mono own_form)
set_option linter.unusedVariables false
variable {w w' : World} {base P : Nat} {v : Value} {lf : Int} {hb : List Int} {l : L}

theorem set_blk (w : World) (P i : Nat) (x : Value) : ∀ b, b ≠ P → (w.setCell ⟨P, i, none⟩ x).heap[b]? = w.heap[b]? := fun b h => Deep.blk_setCell_other _ _ _ _ h
theorem set_size (w : World) (P i : Nat) (x : Value) : (w.setCell ⟨P, i, none⟩ x).heap.size = w.heap.size := by simp [World.setCell]
theorem set_below {base : Nat} (w : World) {P : Nat} (i : Nat) (x : Value) (h : base ≤ P) : Below base w (w.setCell ⟨P, i, none⟩ x) := Below.setCell (p := ⟨P, i, none⟩) (Below.refl base w) h x
/-- some cells of it are other ones -/
theorem LF.put {l' : L} {lf' : Int} (h : LF w base P v lf hb l) (r : w'.rowIs P 48 4 (cv v l'.safe lf' l'.stop)) (hk : ∀ b, b ≠ P → w'.heap[b]? = w.heap[b]?) (e1 : l'.es = l.es) (e2 : l'.rs = l.rs) (e3 : l'.half = l.half) (hw : l'.safe % 3 = 0) (hl : lf' = l'.left ∨ (lf' < 0 ∧ l'.left = -1)) (hm : lf' ≤ 9223372036854775807): LF w' base P v lf' hb l' :=
  ⟨r, h.low, by rw [e1]; exact own_block h.ro fun k q => hk k (fun e => h.ne (e ▸ q)), by rw [e3]; exact h.half, by rw [e3]; exact h.one, by rw [e1, e2]; exact h.rs, hw, hl, hm⟩
theorem LF.re {l' : L} {lf' : Int} {hb' : List Int} (h' : LF w' base P v lf' hb' l') (hs : w'.heap.size = w.heap.size) (hbe : Below base w w') (hk : ∀ b, b ≠ P → w'.heap[b]? = w.heap[b]?) : Re w w' base P l v v l' :=
  ⟨⟨lf', hb', h'⟩, hbe, ⟨Nat.le_of_eq hs.symm, fun b _ q => hk b fun e => q (mem_fpL.2 (.inl e))⟩, NewL.refl _ _⟩
theorem LF.left0 (h : LF w base P v lf hb l) : lf = 0 ↔ l.left = 0 := by rcases h.left with e | ⟨a, b⟩ <;> omega
theorem cv_stop {s : Nat} {st : Bool} (r : w.rowIs P 48 4 (cv v s lf st)) (st' : Bool) : (w.setCell ⟨P, 3, none⟩ (.bool st')).rowIs P 48 4 (cv v s lf st') :=
  (World.rowIs.set r 3 (.bool st')).congr fun j hj => by rcases j with _ | _ | _ | _ | j <;> first | rfl | omega
theorem cv_left {s : Nat} {st : Bool} (r : w.rowIs P 48 4 (cv v s lf st)) (lf' : Int) : (w.setCell ⟨P, 2, none⟩ (.int .i64 lf')).rowIs P 48 4 (cv v s lf' st) :=
  (World.rowIs.set r 2 (.int .i64 lf')).congr fun j hj => by rcases j with _ | _ | _ | _ | j <;> first | rfl | omega
theorem cv_safe {s : Nat} {st : Bool} (r : w.rowIs P 48 4 (cv v s lf st)) (s' : Nat) : (w.setCell ⟨P, 1, none⟩ (.int .i64 (s' : Int))).rowIs P 48 4 (cv v s' lf st) :=
  (World.rowIs.set r 1 (.int .i64 (s' : Int))).congr fun j hj => by rcases j with _ | _ | _ | _ | j <;> first | rfl | omega
theorem cv_kept {s : Nat} {st : Bool} (r : w.rowIs P 48 4 (cv v s lf st)) (v' : Value) : (w.setCell ⟨P, 0, none⟩ v').rowIs P 48 4 (cv v' s lf st) :=
  (World.rowIs.set r 0 v').congr fun j hj => by rcases j with _ | _ | _ | _ | j <;> first | rfl | omega
/-- what a step leaves -/
structure St (w w' : World) (base P : Nat) : Prop where
  size : w'.heap.size = w.heap.size
  bel : Below base w w'
  blk : ∀ b, b ≠ P → w'.heap[b]? = w.heap[b]?
theorem St.refl (w : World) (base P : Nat) : St w w base P := ⟨rfl, Below.refl _ _, fun _ _ => rfl⟩
theorem St.set {w : World} {base P : Nat} (i : Nat) (x : Value) (h : base ≤ P) : St w (w.setCell ⟨P, i, none⟩ x) base P := ⟨set_size _ _ _ _, set_below _ _ _ h, set_blk _ _ _ _⟩
theorem St.trans {w w1 w2 : World} {base P : Nat} (h : St w w1 base P) (h' : St w1 w2 base P) : St w w2 base P := ⟨h'.size.trans h.size, h.bel.trans h'.bel, fun b q => (h'.blk b q).trans (h.blk b q)⟩
theorem LF.re' {l' : L} {lf' : Int} {hb' : List Int} (h' : LF w' base P v lf' hb' l') (s : St w w' base P) : Re w w' base P l v v l' := h'.re s.size s.bel s.blk
set_option maxRecDepth 100000 in
theorem step_stop (h : LF w base P v lf hb l) (h0 : l.left = 0) : Calls Tryd.prog 20 #[.pointer (some ⟨P, 0, none⟩)] w fun x w' => x = .returned (errV 6) ∧ LF w' base P v lf hb { l with stop := true } ∧ St w w' base P := by
  obtain ⟨c2, f2⟩ := h.c2
  obtain ⟨c3, f3⟩ := h.c3
  have e0 : lf = 0 := h.left0.2 h0
  subst e0
  have HG : Hid (LF w base P v 0 hb l) := h
  rw [errV_no (by decide)]
  clear h h0
  go_enter Tryd.func20, Tryd.ntmps20
  go_wp2
  go_ret
  exact ⟨rfl, HG.out.put (l' := { l with stop := true }) (cv_stop HG.out.row true) (set_blk _ _ _ _) rfl rfl rfl HG.out.whole HG.out.left HG.out.most, St.set _ _ HG.out.low⟩
set_option maxRecDepth 100000 in
theorem step_go (h : LF w base P v lf hb l) (h0 : l.left ≠ 0) : Calls Tryd.prog 20 #[.pointer (some ⟨P, 0, none⟩)] w fun x w' => x = .returned (errV 0) ∧ (∃ lf', LF w' base P v lf' hb { l with left := tick l.left }) ∧ St w w' base P := by
  obtain ⟨c2, f2⟩ := h.c2
  have HG : Hid (LF w base P v lf hb l) := h
  have e0 : ¬ lf = 0 := fun e => h0 (h.left0.1 e)
  have hm := h.most
  rw [errV_ok]
  by_cases hp : 0 < lf
  · have e1 : Hid (l.left = lf) := by rcases h.left with e | ⟨a, b⟩ <;> show _ = _ <;> omega
    clear h h0
    go_enter Tryd.func20, Tryd.ntmps20
    go_wp2
    go_ret
    have e2 : tick l.left = lf - 1 := by have := e1.out; unfold tick; split <;> omega
    refine ⟨rfl, ⟨lf - 1, HG.out.put (l' := { l with left := tick l.left }) (cv_left HG.out.row (lf - 1)) (set_blk _ _ _ _) rfl rfl rfl HG.out.whole (.inl e2.symm) (by omega)⟩, St.set _ _ HG.out.low⟩
  · have e1 : Hid (l.left < 0) := by rcases h.left with e | ⟨a, b⟩ <;> show _ < _ <;> omega
    clear h h0
    go_enter Tryd.func20, Tryd.ntmps20
    go_wp2
    go_ret
    have e2 : tick l.left = -1 := by have := e1.out; unfold tick; split <;> omega
    exact ⟨rfl, ⟨lf, HG.out.put (l' := { l with left := tick l.left }) HG.out.row (fun _ _ => rfl) rfl rfl rfl HG.out.whole (.inr ⟨by omega, e2⟩) HG.out.most⟩, St.refl _ _ _⟩
set_option maxRecDepth 100000 in
theorem sync_any (h : LF w base P v lf hb l) (hi : Inv l) : Calls Tryd.prog 11 #[.pointer (some ⟨P, 0, none⟩)] w fun x w' => x = .returned (errV (syncC l)) ∧ Re w w' base P l v v (syncL l) := by
  obtain ⟨c3, f3⟩ := h.c3
  have HG : Hid (LF w base P v lf hb l) := h
  have HI : Hid (Inv l) := hi
  by_cases hs : l.stop = true
  · rw [show syncC l = 6 by unfold syncC; rw [if_pos (.inl hs)], show syncL l = l by unfold syncL; rw [if_pos hs], errV_no (by decide)]
    rw [hs] at c3
    clear h hs hi
    go_enter Tryd.func11, Tryd.ntmps11
    go_wp2
    go_ret
    exact ⟨rfl, HG.out.re' (St.refl _ _ _)⟩
  · have hs' : l.stop = false := by simpa using hs
    rw [hs'] at c3
    by_cases h0 : l.left = 0
    · rw [show syncC l = 6 by unfold syncC; rw [if_pos (.inr h0)], show syncL l = { l with stop := true } by unfold syncL; rw [if_neg hs, if_pos h0]]
      have H0 : Hid (l.left = 0) := h0
      clear h hs hi hs' h0
      go_enter Tryd.func11, Tryd.ntmps11
      go_wp2_with fail
      refine (step_stop HG.out H0.out).mono ?_
      rintro e w1 ⟨rfl, h1, s1⟩
      have K1 : Hid _ := And.intro h1 s1
      clear h1 s1
      rw [errV_no (by decide)]
      go_wp2
      go_ret
      exact ⟨rfl, K1.out.1.re' K1.out.2⟩
    · rw [show syncC l = 0 by unfold syncC; rw [if_neg (by simp [hs', h0])], show syncL l = { l with safe := bytes l, left := tick l.left } by unfold syncL; rw [if_neg hs, if_neg h0]]
      have H0 : Hid (l.left ≠ 0) := h0
      have HH : Hid (l.half = 0) := hi.half0 hs'
      clear h hs hi hs' h0
      go_enter Tryd.func11, Tryd.ntmps11
      go_wp2_with fail
      refine (step_go HG.out H0.out).mono ?_
      rintro e w1 ⟨rfl, ⟨lf', h1⟩, s1⟩
      have eN : (rcs ({ l with left := tick l.left } : L).es ++ hb).length = bytes l := by
        show (rcs l.es ++ hb).length = _
        rw [HG.out.lenN, HG.out.bytes]
      have hv : ∃ q c, v = .slice q (bytes l) c := by
        obtain ⟨q, c, ev, -⟩ := h1.ro.form
        rw [eN] at ev
        exact ⟨q, c, ev⟩
      obtain ⟨q, c, rfl⟩ := hv
      clear eN
      obtain ⟨d0, g0⟩ := h1.c0
      obtain ⟨d1, g1⟩ := h1.c1
      have K1 : Hid _ := And.intro h1 s1
      clear h1 s1
      rw [errV_ok]
      go_wp2
      go_ret
      have hw : bytes l % 3 = 0 := by rw [HG.out.bytes, HH.out]; omega
      exact ⟨rfl, LF.re' (K1.out.1.put (l' := { l with safe := bytes l, left := tick l.left }) (cv_safe K1.out.1.row (bytes l)) (set_blk _ _ _ _) rfl rfl rfl hw K1.out.1.left K1.out.1.most) (K1.out.2.trans (St.set _ _ HG.out.low))⟩
set_option maxRecDepth 100000 in
theorem fail_any (n : Int) (hn : n ≤ 9223372036854775807) (h : LF w base P v lf hb l) : Calls Tryd.prog 14 #[.pointer (some ⟨P, 0, none⟩), .int .i64 n] w fun x w' => x = .returned (.tuple #[]) ∧ Re w w' base P l v v (failL l n) := by
  obtain ⟨c2, f2⟩ := h.c2
  have HG : Hid (LF w base P v lf hb l) := h
  clear h
  go_enter Tryd.func14, Tryd.ntmps14
  go_wp2
  go_end0
  have e : n = (failL l n).left ∨ (n < 0 ∧ (failL l n).left = -1) := by
    show n = (if n < 0 then -1 else n) ∨ (n < 0 ∧ (if n < 0 then -1 else n) = -1)
    split <;> simp_all
  exact ⟨rfl, LF.re' (HG.out.put (l' := failL l n) (cv_left HG.out.row n) (set_blk _ _ _ _) rfl rfl rfl HG.out.whole e hn) (St.set _ _ HG.out.low)⟩
end Go.Proofs.YtpjoaogiaacikakDoor.Lgs
