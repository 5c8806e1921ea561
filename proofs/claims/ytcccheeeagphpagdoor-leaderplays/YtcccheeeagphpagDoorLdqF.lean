/-
  The document's own group with a leader in memory; how many words a member heard there.
-/
import Derived.Test.YtcccheeeagphpagDoorLdbM
import Derived.Test.YtcccheeeagphpagDoorLdrE
import Derived.Deep.QuietTactic
import Derived.BigQuiet
import Derived.Deep.RegionHeld3
import Derived.WalkLawsBesides
import Derived.Handy
namespace Go.Proofs.YtcccheeeagphpagDoor.Ldr
open Go.RowKit
open Go.Proofs.YtcccheeeagphpagDoor.Fif (own_lt own_block own_form own_mono own_vw ret_bool)
open Go.Proofs.YtcccheeeagphpagDoor.Vec (Vw)
open Go.Proofs.YtcccheeeagphpagDoor.Sep (KpL NewL)
set_option linter.unusedVariables false

def fl (n : Int) (v : Value) (c : Nat → Nat → Bool) (k : Nat) : Value := if k = 0 then .int .i64 n else if k = 1 then v else .bool (c ((k - 2) / 31) ((k - 2) % 31))
theorem fl_c (n : Int) (v : Value) (c : Nat → Nat → Bool) {i j : Nat} (hj : j < 31) : fl n v c (2 + i * 31 + j) = .bool (c i j) := by
  unfold fl
  rw [if_neg (by omega), if_neg (by omega), show (2 + i * 31 + j - 2) / 31 = i by omega, show (2 + i * 31 + j - 2) % 31 = j by omega]
/-- the document's own group -/
structure RL (w : World) (base Q : Nat) (l : L) (v : Value) : Prop where
  row : w.rowIs Q 34 157 (fl (l.n : Int) v l.come)
  low : base ≤ Q
  own : w.ownsRow base 3 1 v l.ws.length (l.ws.map (Value.int .i64))
  ne : v.ownBlock ≠ some Q
variable {w w' : World} {base Q : Nat} {l : L} {v : Value}
def rfp (Q : Nat) (v : Value) : List Nat := Q :: (match v.ownBlock with
  | some k => [k]
  | none => [])
theorem mem_rfp {b : Nat} : b ∈ rfp Q v ↔ b = Q ∨ v.ownBlock = some b := by
  unfold rfp
  cases v.ownBlock with
  | none => simp
  | some k =>
    simp
    constructor
    · rintro (h | h)
      · exact .inl h
      · exact .inr h.symm
    · rintro (h | h)
      · exact .inl h
      · exact .inr h.symm
theorem RL.lt (h : RL w base Q l v) : Q < w.heap.size := World.rowIs.lt h.row
theorem RL.fp (h : RL w base Q l v) : ∀ b ∈ rfp Q v, base ≤ b ∧ b < w.heap.size := by
  intro b hb
  rcases mem_rfp.1 hb with rfl | e
  · exact ⟨h.low, h.lt⟩
  · exact own_lt h.own b e
theorem RL.of_blocks (h : RL w base Q l v) (hk : ∀ b ∈ rfp Q v, w'.heap[b]? = w.heap[b]?) : RL w' base Q l v := ⟨World.rowIs.of_block h.row (hk Q (mem_rfp.2 (.inl rfl))), h.low, own_block h.own fun k e => hk k (mem_rfp.2 (.inr e)), h.ne⟩
theorem RL.later (h : RL w base Q l v) (hb : Below w.heap.size w w') : RL w' base Q l v := h.of_blocks fun b hb' => hb.block b (h.fp b hb').2
theorem RL.cn (h : RL w base Q l v) : w.cell? ⟨Q, 0, none⟩ = some (.int .i64 (l.n : Int)) := World.rowIs.cell h.row (i := 0) (by omega)
theorem RL.cv (h : RL w base Q l v) : w.cell? ⟨Q, 1, none⟩ = some v ∧ w.frozen? ⟨Q, 1, none⟩ = false := ⟨World.rowIs.cell h.row (i := 1) (by omega), World.rowIs.frozen h.row 1⟩
theorem RL.cc (h : RL w base Q l v) {i j : Nat} (hi : i < 5) (hj : j < 31) : w.cell? ⟨Q, 2 + i * 31 + j, none⟩ = some (.bool (l.come i j)) ∧ w.frozen? ⟨Q, 2 + i * 31 + j, none⟩ = false := by
  have := World.rowIs.cell h.row (i := 2 + i * 31 + j) (by omega)
  rw [fl_c _ _ _ hj] at this
  exact ⟨this, World.rowIs.frozen h.row _⟩
theorem RL.sl (h : RL w base Q l v) : Sl w v l.ws := Sl.of_own h.own
/-- what is at a place has come -/
theorem RL.setC (h : RL w base Q l v) {m k : Nat} (hm : m < 5) (hk : k < 31) : RL (w.setCell ⟨Q, 2 + m * 31 + k, none⟩ (.bool true)) base Q { l with come := up2 l.come m k true } v := by
  refine ⟨(World.rowIs.set h.row (2 + m * 31 + k) _).congr fun i hi => ?_, h.low, own_block h.own fun b e => Deep.blk_setCell_other _ _ _ _ (fun q => h.ne (by have q' : b = Q := q; rw [← q']; exact e)), h.ne⟩
  by_cases e : i = 2 + m * 31 + k
  · rw [if_pos e, e, fl_c _ _ _ hk]
    simp [up2]
  · rw [if_neg e]
    unfold fl
    by_cases h0 : i = 0
    · rw [if_pos h0, if_pos h0]
    · rw [if_neg h0, if_neg h0]
      by_cases h1 : i = 1
      · rw [if_pos h1, if_pos h1]
      · rw [if_neg h1, if_neg h1]
        simp only [up2]
        rw [if_neg (by omega)]
/-- one more word has a place -/
theorem RL.add {w5 : World} {gg gc n : Nat} {x : Int} (h : RL w base Q l v) (hg : w.grownBy w5 v.ownBlock) (ho : w5.ownsRow base 3 1 (.slice (some ⟨gg, 0, none⟩) (n + 1) gc) (n + 1) (l.ws.map (Value.int .i64) ++ [.int .i64 x])) (hn : n = l.ws.length) (hat : v.ownBlock = some gg ∨ w.heap.size ≤ gg) :
    RL (w5.setCell ⟨Q, 1, none⟩ (.slice (some ⟨gg, 0, none⟩) (n + 1) gc)) base Q { l with ws := l.ws ++ [x] } (.slice (some ⟨gg, 0, none⟩) (n + 1) gc) := by
  have hQ := h.lt
  have hQg : Q ≠ gg := fun e => by
    rcases hat with a | a
    · exact h.ne (by rw [e]; exact a)
    · omega
  have hob : ∀ b, (Value.slice (some (⟨gg, 0, none⟩ : Addr)) (n + 1) gc).ownBlock = some b → b = gg := fun b e => by
    have : gg = b := by simpa [Value.ownBlock] using e
    exact this.symm
  refine ⟨(World.rowIs.set (World.rowIs.of_block h.row (hg.block Q hQ (fun e => h.ne e.symm))) 1 _).congr fun i hi => ?_, h.low, ?_, fun e => hQg (hob Q e)⟩
  · unfold fl
    by_cases h1 : i = 1
    · rw [if_pos h1, if_neg (by omega), if_pos h1]
    · rw [if_neg h1, if_neg h1, if_neg h1]
  · show World.ownsRow _ _ _ _ _ (l.ws ++ [x]).length ((l.ws ++ [x]).map (Value.int .i64))
    rw [List.length_append, List.map_append, ← hn]
    exact own_block ho fun b e => Deep.blk_setCell_other _ _ _ _ (by rw [hob b e]; exact fun q => hQg q.symm)
set_option maxRecDepth 100000 in
theorem refHeard (m : Nat) (w : World) (h : RL w base Q l v) (hi : Inv l) (hm : m < l.n) : Calls Tryd.prog 8 #[.pointer (some ⟨Q, 0, none⟩), .int .i64 (m : Int)] w fun x w' => x = .returned (.int .i64 (hn l m : Int)) ∧ w' = w := by
  have HR : Hid (RL w base Q l v) := h
  have m5 : m < 5 := by have := hi.five; omega
  have hm0 : (0 : Int) ≤ (m : Int) := by omega
  have hm5 : (m : Int) < 5 := by omega
  obtain ⟨q, c, ev⟩ := own_form h.own
  obtain ⟨n, en⟩ : ∃ n, n = l.ws.length := ⟨_, rfl⟩
  have hn30 : n ≤ 30 := by rw [en]; exact hi.len
  have EN : Hid (n = l.ws.length) := en
  have c1 := h.cv.1
  rw [ev, ← en] at c1
  clear h hi en
  go_enter Tryd.func8, Tryd.ntmps8
  go_wp2
  go_loopw [5] (fun x wr => ∃ i : Nat, i ≤ n ∧ x = .int .i64 (i : Int) ∧ wr = w ∧ Hid (∀ j, j < i → l.come m j = true)) (fun x _ => n - (intOf x).toNat)
  case atStart => exact ⟨0, by omega, rfl, rfl, fun j hj => absurd hj (by omega)⟩
  case round =>
    obtain ⟨i, hin, rfl, rfl, hp⟩ := hrel
    by_cases hlt : i < n
    · have hi0 : (0 : Int) ≤ (i : Int) := by omega
      have hil : (i : Int) < (n : Int) := by omega
      have hi31 : (i : Int) < 31 := by omega
      have cc := (HR.out.cc (i := m) (j := i) m5 (by omega)).1
      cases hcm : l.come m i
      · rw [hcm] at cc
        have HC : Hid (l.come m i = false) := hcm
        clear hcm
        go_wp2
        go_ret
        refine ⟨?_, rfl⟩
        have e : hn l m = i := cons_eq (by rw [← EN.out]; omega) hp.out (fun _ => HC.out)
        rw [e]
        rfl
      · rw [hcm] at cc
        have HC : Hid (l.come m i = true) := hcm
        clear hcm
        go_wp2
        go_roundw
        case rel => exact ⟨i + 1, by omega, by go_num, by first | rfl | trivial, fun j hj => if e : j < i then hp.out j e else by rw [show j = i by omega]; exact HC.out⟩
        case measure => simp [intOf]; omega
    · have hie : i = n := by omega
      have hil : ¬ (i : Int) < (n : Int) := by omega
      go_wp2
      go_ret
      refine ⟨?_, rfl⟩
      have e : hn l m = i := by
        rw [hie]
        exact cons_eq (by rw [← EN.out]; omega) (by rw [← hie]; exact hp.out) (fun q => by rw [EN.out] at q; omega)
      rw [e, hie]
      rfl
end Go.Proofs.YtcccheeeagphpagDoor.Ldr
