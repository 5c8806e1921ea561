/-
  The library's Builder: it holds its own address, a text is put behind what it holds.
-/
import Derived.Test.YtolnfipdhkbkjajPieC
import Derived.Lib.AppendStr
import Derived.Lib.Builder
import Derived.OwnWalk
namespace Go.Proofs.Ytolnfipdhkbkjaj.Pie
open Go.RowKit
open Go.Proofs.Ytolnfipdhkbkjaj.Fif (own_lt own_block own_form own_mono Kp ret_bool)
set_option linter.unusedVariables false

theorem sizeB : (Try.prog.info? 53).map (·.size) = some 2 := by kernel_rfl
theorem liesB : liesAt Try.prog Try.prog.depth 53 (2 / Try.prog.cellsOf 53) 0 53 1 = true := by kernel_rfl
theorem infoY : (Try.prog.info? 5).map (fun i => (i.zero, i.size, i.bytes)) = some (some (.int .u8 0), 1, 1) := by kernel_rfl
abbrev BAt (B b : Nat) (p : Value) (bs : List Value) (w : World) : Prop := Lib.BuilderAt 53 5 B b p bs w
abbrev IsB (B b : Nat) (bs : List Value) (w : World) : Prop := Lib.IsBuilder 53 5 B b bs w
set_option maxRecDepth 100000 in
theorem used_any (b : Nat) (w : World) (h0 : w.cell? ⟨b, 0, none⟩ = some (.pointer (some ⟨b, 0, none⟩))) :
    Calls Try.prog 23 #[.pointer (some ⟨b, 0, none⟩)] w fun e w' => e = .returned (.tuple #[]) ∧ w' = w := by
  obtain ⟨j, hj, -⟩ := Option.map_eq_some_iff.1 sizeB
  have en := Lib.run_neq_ptr_same (P := Try.prog) w ⟨b, 0, none⟩ Try.underlying51 hj
  go_enter Try.func23, Try.ntmps23
  go_wp2
  go_end0
  exact ⟨rfl, rfl⟩
set_option maxRecDepth 100000 in
theorem fresh_any (b : Nat) (w : World) (h0 : w.cell? ⟨b, 0, none⟩ = some (.pointer none)) (hsh : w.shape? b = some (53, 2)) (hfz : w.frozen? ⟨b, 0, none⟩ = false) :
    Calls Try.prog 23 #[.pointer (some ⟨b, 0, none⟩)] w fun e w' => e = .returned (.tuple #[]) ∧ w' = w.setCell ⟨b, 0, none⟩ (.pointer (some ⟨b, 0, none⟩)) := by
  obtain ⟨j, hj, hjs⟩ := Option.map_eq_some_iff.1 sizeB
  have e1 := Lib.run_to_unsafe (P := Try.prog) w ⟨b, 0, none⟩ Try.underlying51 Try.underlying75 hj (by rw [hjs]; decide) hsh (Nat.zero_lt_succ 1)
  have e2 := Lib.run_from_unsafe (P := Try.prog) w ⟨b, 0, none⟩ Try.underlying75 Try.underlying51 hj hsh liesB
  have e3 : ∀ x W, (callFunc 31 #[x]).run Try.prog W = .ok (.value x) W := by
    intro x W
    rw [run_callFunc_extern Try.func31 (by kernel_rfl) (by kernel_rfl) (by kernel_rfl) (e := Extern.AbiNoEscape.same) (by kernel_rfl), Lib.run_noEscape]
    rfl
  go_enter Try.func23, Try.ntmps23
  go_wp2
  go_end0
  exact ⟨rfl, rfl⟩
theorem copy_any (B b : Nat) (bs : List Value) (w : World) (h : IsB B b bs w) :
    Calls Try.prog 23 #[.pointer (some ⟨b, 0, none⟩)] w fun e w' => e = .returned (.tuple #[]) ∧ BAt B b (.pointer (some ⟨b, 0, none⟩)) bs w' ∧ Below B w w' := by
  rcases h with h | h
  · refine (fresh_any b w h.cell0 h.shape h.frozen0).mono ?_
    rintro e w' ⟨rfl, rfl⟩
    exact ⟨rfl, h.used _, (Below.refl B w).setCell (p := ⟨b, 0, none⟩) h.1 _⟩
  · refine (used_any b w h.cell0).mono ?_
    rintro e w' ⟨rfl, rfl⟩
    exact ⟨rfl, h, Below.refl B _⟩
set_option maxRecDepth 100000 in
theorem write_any (B b : Nat) (bs : List Value) (s : ByteArray) (w : World) (h : IsB B b bs w) (hl : bs.length + s.size ≤ 100000) (hB : B ≤ w.heap.size) :
    Calls Try.prog 16 #[.pointer (some ⟨b, 0, none⟩), .string s] w fun e w' => e = .returned (.tuple #[.int .i64 s.size, .nilIface]) ∧ BAt B b (.pointer (some ⟨b, 0, none⟩)) (bs ++ Lib.strCells s) w' ∧ Below B w w' := by
  obtain ⟨iy, hy, hzz⟩ := Option.map_eq_some_iff.1 infoY
  simp only [Prod.mk.injEq] at hzz
  have HI : Hid (Try.prog.info? 5 = some iy ∧ iy.zero = some (.int .u8 0) ∧ iy.size = 1 ∧ iy.bytes = 1) := ⟨hy, hzz⟩
  have HL : Hid (bs.length + s.size ≤ 100000 ∧ B ≤ w.heap.size) := ⟨hl, hB⟩
  clear hy hzz hl hB
  go_enter Try.func16, Try.ntmps16
  go_wp2_with (refine (copy_any B b bs _ h).mono ?_)
  rintro e w1 ⟨rfl, h1, hb1⟩
  obtain ⟨hB, v, hbk, hown, hne⟩ := h1
  have c1 : w1.cell? ⟨b, 1, none⟩ = some v := by rw [Lib.cell_of_heap hbk]; rfl
  have K : Hid (B ≤ b ∧ w1.heap[b]? = some (.cells #[.pointer (some ⟨b, 0, none⟩), v] 53 (0, 0)) ∧ w1.ownsRow B 5 1 v bs.length bs ∧ v.ownBlock ≠ some b ∧ Below B w w1) := ⟨hB, hbk, hown, hne, hb1⟩
  clear hB hbk hown hne hb1
  go_wp2_with (at_builtin; refine Lib.wpList_append_own_string _ rfl _ _ 45 9 rfl B 5 iy Try.underlying45 Try.underlying9 HI.out.1 HI.out.2.1 HI.out.2.2.1 HI.out.2.2.2 _ _ _ rfl K.out.2.2.1 s rfl ?c3 ?c4 ?c5 ?_)
  case c3 => have := HL.out; unfold maxLen; omega
  case c4 => have := HL.out; omega
  case c5 => have := HL.out; have := K.out.2.2.2.2.size; omega
  intro v' w2 hown' hgrow _
  have hlt : b < w1.heap.size := (Array.getElem?_eq_some_iff.1 K.out.2.1).1
  have hb2 : w2.heap[b]? = some (.cells #[.pointer (some ⟨b, 0, none⟩), v] 53 (0, 0)) := (hgrow.block b hlt (fun e => K.out.2.2.2.1 e.symm)).trans K.out.2.1
  have d1 : w2.cell? ⟨b, 1, none⟩ = some v := by rw [Lib.cell_of_heap hb2]; rfl
  have f1 : w2.frozen? ⟨b, 1, none⟩ = false := Lib.frozen_of_heap hb2 1
  obtain ⟨ao, n', cap, rfl⟩ : ∃ ao n' cap, v' = .slice ao n' cap := by
    obtain ⟨q, cap, e⟩ := own_form hown'
    exact ⟨_, _, _, e⟩
  have K2 : Hid (w2.heap[b]? = some (.cells #[.pointer (some ⟨b, 0, none⟩), v] 53 (0, 0)) ∧ w2.ownsRow B 5 1 (.slice ao n' cap) (bs.length + s.size) (bs ++ Lib.strCells s) ∧ w1.grownBy w2 v.ownBlock) := ⟨hb2, by simpa using hown', hgrow⟩
  clear hb2 hown' hgrow hlt
  go_wp2
  go_ret2
  refine ⟨rfl, Lib.BuilderAt.put (T := 53) (e := 5) K.out.1 K2.out.1 (bs' := bs ++ Lib.strCells s) (by simpa [Lib.strCells_length] using K2.out.2.1) (by decide), ?_⟩
  exact (K.out.2.2.2.2.grown K2.out.2.2 (by have := K.out.2.2.2.2.size; have := HL.out; omega) (fun k hk => (own_lt K.out.2.2.1 k hk).1)).setCell (p := ⟨b, 1, none⟩) K.out.1 _
theorem said_any (B b : Nat) (l : List UInt8) (w : World) (h : IsB B b (Lib.byteCells l) w) (hB : B ≤ w.heap.size) :
    Calls Try.prog 17 #[.pointer (some ⟨b, 0, none⟩)] w fun e w' => e = .returned (.string ⟨l.toArray⟩) ∧ Below B w w' := Any.Builder_String_any Try.textL Try.textX B b l w h hB
end Go.Proofs.Ytolnfipdhkbkjaj.Pie
