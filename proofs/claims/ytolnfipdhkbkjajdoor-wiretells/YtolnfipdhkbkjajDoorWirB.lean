/-
  Bytes: a text's bytes as cells of a row that the call owns; a byte of a text.
-/
import Derived.Test.YtolnfipdhkbkjajDoorFifA
import Derived.Laws.Strings
import Derived.Laws.Entries
import Derived.Laws.Shifts
import Derived.Laws.Concat
import Derived.Laws.BytesString
import Derived.Laws.IdiomStrings
import Derived.Laws.DeepStrings4
import Derived.Lib.AppendStr
import Derived.Lib.Strings
import Derived.Deep.QuietTactic
import Derived.BigQuiet
import Derived.Deep.RegionHeld3
import Derived.Handy
import Derived.Laws.ResultCell
namespace Go.Proofs.YtolnfipdhkbkjajDoor.Wir
open Go.RowKit
open Go.Proofs.YtolnfipdhkbkjajDoor.Fif (own_lt own_block own_form own_mono Kp ret_bool)
set_option linter.unusedVariables false

/-- bytes as a text -/
def txt (l : List Int) : ByteArray := ⟨(l.map fun n => UInt8.ofNat n.toNat).toArray⟩
/-- a byte of a text -/
def bt (t : ByteArray) (i : Nat) : Int := ((t.data.getD i 0).toNat : Int)
def Byt (l : List Int) : Prop := ∀ n ∈ l, 0 ≤ n ∧ n < 256
theorem txt_size (l : List Int) : (txt l).size = l.length := by simp [txt, ByteArray.size]
theorem txt_append (a b : List Int) : txt (a ++ b) = txt a ++ txt b := by
  apply ByteArray.ext
  simp [txt, ByteArray.data_append]
theorem bt_txt {l : List Int} (h : Byt l) {i : Nat} (hi : i < l.length) : bt (txt l) i = l.getD i 0 := by
  have hm := h l[i] (List.getElem_mem hi)
  simp [bt, txt, List.getD, hi]
  omega
theorem bt_range (t : ByteArray) (i : Nat) : 0 ≤ bt t i ∧ bt t i < 256 := by
  unfold bt
  have := (t.data.getD i 0).toNat_lt
  omega
theorem bt_get {t : ByteArray} {i : Nat} (h : i < t.size) : ((t[i]'h).toNat : Int) = bt t i := by
  have h' : i < t.data.size := h
  unfold bt
  rw [Array.getD_eq_getD_getElem?, Array.getElem?_eq_getElem h']
  rfl
theorem cells_append (a b : ByteArray) : Lib.strCells (a ++ b) = Lib.strCells a ++ Lib.strCells b := by simp [Lib.strCells, ByteArray.data_append]
theorem cells_txt {l : List Int} (h : Byt l) : Lib.strCells (txt l) = l.map (Value.int .u8) := by
  unfold Lib.strCells txt
  simp only [List.map_map]
  apply List.map_congr_left
  intro n hn
  have := h n hn
  simp
  omega
theorem cells_get (t : ByteArray) {i : Nat} (h : i < t.size) : (Lib.strCells t)[i]? = some (.int .u8 (bt t i)) := by
  have h' : i < t.data.toList.length := by simpa using h
  rw [← bt_get h]
  unfold Lib.strCells
  rw [List.getElem?_map, List.getElem?_eq_getElem h']
  rfl
/-- a row of bytes that the call owns -/
def Bo (w : World) (base : Nat) (v : Value) (t : ByteArray) : Prop := w.ownsRow base 5 1 v t.size (Lib.strCells t)
theorem Bo.nil (w : World) (base : Nat) : Bo w base (.slice none 0 0) .empty := World.ownsRow_nil _ _ _ _
theorem Bo.later {w w' : World} {base : Nat} {v : Value} {t : ByteArray} (h : Bo w base v t) (hb : Below w.heap.size w w') : Bo w' base v t := own_block h fun k hk => hb.block k (own_lt h k hk).2
theorem Bo.form {w : World} {base : Nat} {v : Value} {t : ByteArray} (h : Bo w base v t) : ∃ q c, v = .slice q t.size c ∧ (0 < t.size → ∃ g, q = some ⟨g, 0, none⟩ ∧ base ≤ g ∧ g < w.heap.size ∧ ∀ i, i < t.size → w.cell? ⟨g, i, none⟩ = some (.int .u8 (bt t i))) := by
  rcases h.2 with ⟨h2, h3⟩ | ⟨g, cap, cur, hv, hb, hh, hc, hm, hsz, ht⟩
  · exact ⟨none, 0, by rw [h3]; exact h2, fun q => by omega⟩
  · refine ⟨_, cap, hv, fun _ => ⟨g, rfl, hb, ?_, fun i hi => ?_⟩⟩
    · rcases Nat.lt_or_ge g w.heap.size with hlt | hge
      · exact hlt
      · rw [Array.getElem?_eq_none hge] at hh; cases hh
    · have e := cells_get t hi
      rw [← ht, Nat.mul_one, List.getElem?_take_of_lt hi] at e
      simp only [World.cell?, hh]
      simpa using e
theorem info_u8 : (Tryd.prog.info? 5).map (fun i => (i.zero, i.size, i.bytes)) = some (some (.int .u8 0), 1, 1) := by kernel_rfl
theorem info_byte : ∃ i, Tryd.prog.info? 5 = some i ∧ i.zero = some (.int .u8 0) ∧ i.size = 1 ∧ i.bytes = 1 := by
  obtain ⟨i, hi, hzz⟩ := Option.map_eq_some_iff.1 info_u8
  simp only [Prod.mk.injEq] at hzz
  exact ⟨i, hi, hzz.1, hzz.2.1, hzz.2.2⟩
/-- 'string(b)' -/
theorem text_of {w : World} {base : Nat} {v : Value} {t : ByteArray} (h : Bo w base v t) (W : World) (hW : ∀ k, v.ownBlock = some k → W.heap[k]? = w.heap[k]?) : (convert 73 9 v).run Tryd.prog W = .ok (.string t) W := by
  have h' : Bo W base v t := own_block h hW
  obtain ⟨q, c, rfl, hq⟩ := h'.form
  rcases Nat.eq_zero_or_pos t.size with h0 | h0
  · have ht : t = .empty := by
      apply ByteArray.ext
      apply Array.eq_empty_of_size_eq_zero
      exact h0
    subst ht
    rw [run_convert_bytes_string W 73 9 5 q _ c Tryd.underlying73 Tryd.underlying5 Tryd.underlying9]
    cases q with
    | none => rfl
    | some a =>
      have := run_bytesToString (P := Tryd.prog) W a 0 c [] rfl
      exact this
  · obtain ⟨g, rfl, _, _, hc⟩ := hq h0
    have e := run_convert_bytes_back (P := Tryd.prog) W 73 9 5 ⟨g, 0, none⟩ c t.data.toList Tryd.underlying73 Tryd.underlying5 Tryd.underlying9 (fun j hj => by
      have hj' : j < t.size := by simpa using hj
      rw [Addr.add_lit, Nat.zero_add, hc j hj', ← bt_get hj']
      rfl)
    have e1 : t.data.toList.length = t.size := by simp
    rw [e1] at e
    exact e
/-- a row that was written out -/
theorem new_own (w : World) (l : List Int) (base : Nat) (hb : base ≤ w.heap.size) (hl : l.length ≤ 1000) (h : Byt l) : Bo (w.alloc (.cells (l.map (Value.int .u8)).toArray 5)) base (.slice (some ⟨w.heap.size, 0, none⟩) l.length l.length) (txt l) := by
  refine ⟨?_, .inr ⟨w.heap.size, l.length, (l.map (Value.int .u8)).toArray, ?_, hb, ?_, ?_, ?_, ?_, ?_⟩⟩
  · rw [Lib.strCells_length, Nat.mul_one]
  · rw [txt_size]
  · exact heap_alloc_new w _
  · rw [txt_size]; exact Nat.le_refl _
  · unfold maxLen; omega
  · simp
  · rw [cells_txt h, txt_size]
    simp [List.take_of_length_le]
theorem new_row (w : World) (B : Nat) (hB : B = w.heap.size) (l : List Value) (t : TypeId) : ∀ j u, l[j]? = some u → (w.alloc (.cells l.toArray t)).cell? ((⟨B, 0, none⟩ : Addr).add j) = some u := by
  subst hB
  intro j u hj
  rw [Addr.add_lit, Nat.zero_add]
  simpa using hj
theorem byte_one (l : List Int) : ∀ u ∈ l.map (Value.int .u8), u.oneCell' = true := by
  intro u hu
  obtain ⟨n, _, rfl⟩ := List.mem_map.1 hu
  rfl
/-- 'append(b, x, ..)' -/
theorem app_bytes (w : World) {ops : Array Oper} {rest : List Oper} {o : Oper} {a : Act} {Q : Exit → Act → World → Prop} (hgd : o.guard = none) (s x : Operand)
    (ho : o.op = .call { callee := .builtin .append, args := #[s, x], argTypes := #[73, 73] }) (base : Nat) (v : Value) (t : ByteArray) (hs : a.eval s = v) (hown : Bo w base v t)
    (l : List Int) (hb : Byt l) (g n c : Nat) (hn : n = l.length) (hx : a.eval x = .slice (some ⟨g, 0, none⟩) n c) (hc : ∀ j u, (l.map (Value.int .u8))[j]? = some u → w.cell? ((⟨g, 0, none⟩ : Addr).add j) = some u)
    (hsz : t.size + n ≤ 10000) (hbase : base ≤ w.heap.size)
    (h : ∀ v' w', Bo w' base v' (t ++ txt l) → w.grownBy w' v.ownBlock → wpList Tryd.prog ops Q rest (a.put o.dst v') w') : wpList Tryd.prog ops Q (o :: rest) a w := by
  subst hn
  obtain ⟨i, h1, h2, h3, h4⟩ := info_byte
  refine wpList_append_own w hgd s x 73 ho base 5 i (.int .u8 0) 1 1 Tryd.underlying73 h1 h2 h3 h4 rfl (by decide) v t.size (Lib.strCells t) hs hown ⟨g, 0, none⟩ l.length c (l.map (Value.int .u8)) hx (by simp) hc (byte_one l) (by unfold maxLen; omega) (by omega) hbase ?_
  intro v' w' ho' hg _
  refine h v' w' ?_ hg
  unfold Bo
  rw [cells_append, cells_txt hb, ByteArray.size_append, txt_size]
  exact ho'
/-- 'append(b, s...)' -/
theorem app_text (w : World) {ops : Array Oper} {rest : List Oper} {o : Oper} {a : Act} {Q : Exit → Act → World → Prop} (hgd : o.guard = none) (s x : Operand)
    (ho : o.op = .call { callee := .builtin .append, args := #[s, x], argTypes := #[73, 9] }) (base : Nat) (v : Value) (t : ByteArray) (hs : a.eval s = v) (hown : Bo w base v t)
    (b : ByteArray) (hx : a.eval x = .string b) (hsz : t.size + b.size ≤ 10000) (hbase : base ≤ w.heap.size)
    (h : ∀ v' w', Bo w' base v' (t ++ b) → w.grownBy w' v.ownBlock → wpList Tryd.prog ops Q rest (a.put o.dst v') w') : wpList Tryd.prog ops Q (o :: rest) a w := by
  obtain ⟨i, h1, h2, h3, h4⟩ := info_byte
  refine Lib.wpList_append_own_string w hgd s x 73 9 ho base 5 i Tryd.underlying73 Tryd.underlying9 h1 h2 h3 h4 v t.size (Lib.strCells t) hs hown b hx (by unfold maxLen; omega) (by omega) hbase ?_
  intro v' w' ho' hg _
  refine h v' w' ?_ hg
  unfold Bo
  rw [cells_append, ByteArray.size_append]
  exact ho'
theorem Bo.grown {a w w' : World} {B base : Nat} {v : Value} {t : ByteArray} (h : Below B a w) (hown : Bo w base v t) (hg : w.grownBy w' v.ownBlock) (hB : B ≤ base) (hs : base ≤ w.heap.size) : Below B a w' :=
  h.grown hg (by omega) (fun k hk => Nat.le_trans hB (own_lt hown k hk).1)
theorem or_bv (x y : Nat) (hx : x < 18446744073709551616) (hy : y < 18446744073709551616) : (BitVec.ofInt 64 (x : Int) ||| BitVec.ofInt 64 (y : Int)).toNat = x ||| y := by
  rw [BitVec.toNat_or, BitVec.ofInt_natCast, BitVec.ofInt_natCast, BitVec.toNat_ofNat, BitVec.toNat_ofNat, Nat.mod_eq_of_lt hx, Nat.mod_eq_of_lt hy]
theorem or_sum (a b i : Nat) (hi : a * 2 ^ i + b < 16777216) (hb : b < 2 ^ i) : bits .or .i64 ((a * 2 ^ i : Nat) : Int) (b : Int) = ((a * 2 ^ i + b : Nat) : Int) := by
  have e : a * 2 ^ i ||| b = a * 2 ^ i + b := by
    rw [← Nat.shiftLeft_eq, Nat.shiftLeft_add_eq_or_of_lt hb]
  show IntKind.i64.wrap (((BitVec.ofInt 64 ((a * 2 ^ i : Nat) : Int) ||| BitVec.ofInt 64 (b : Int)).toNat : Nat) : Int) = _
  rw [or_bv _ _ (by omega) (by omega), e]
  generalize a * 2 ^ i + b = z at *
  simp only [IntKind.wrap, IntKind.bits, IntKind.signed]
  simp
  omega
theorem or_at {x y : Int} (a b i : Nat) (hi : a * 2 ^ i + b < 16777216) (hb : b < 2 ^ i) (ex : x = ((a * 2 ^ i : Nat) : Int)) (ey : y = (b : Int)) : bits .or .i64 x y = x + y := by
  rw [ex, ey, or_sum a b i hi hb, Int.natCast_add]
theorem or_one {a b : Int} (ha : 0 ≤ a ∧ a < 256) (hb : 0 ≤ b ∧ b < 256) : bits .or .i64 (a * 65536) (b * 256) = a * 65536 + b * 256 := by
  obtain ⟨x, rfl⟩ : ∃ x : Nat, a = (x : Int) := ⟨a.toNat, by omega⟩
  obtain ⟨y, rfl⟩ : ∃ y : Nat, b = (y : Int) := ⟨b.toNat, by omega⟩
  have h1 : x < 256 := by omega
  have h2 : y < 256 := by omega
  exact or_at x (y * 256) 16 (by rw [show (2 : Nat) ^ 16 = 65536 from by decide]; omega) (by rw [show (2 : Nat) ^ 16 = 65536 from by decide]; omega) (by rw [show (2 : Nat) ^ 16 = 65536 from by decide]; rw [Int.natCast_mul]; rfl) (by rw [Int.natCast_mul]; rfl)
theorem or_two {a b c : Int} (ha : 0 ≤ a ∧ a < 256) (hb : 0 ≤ b ∧ b < 256) (hc : 0 ≤ c ∧ c < 256) : bits .or .i64 (a * 65536 + b * 256) c = a * 65536 + b * 256 + c := by
  obtain ⟨x, rfl⟩ : ∃ x : Nat, a = (x : Int) := ⟨a.toNat, by omega⟩
  obtain ⟨y, rfl⟩ : ∃ y : Nat, b = (y : Int) := ⟨b.toNat, by omega⟩
  obtain ⟨z, rfl⟩ : ∃ z : Nat, c = (z : Int) := ⟨c.toNat, by omega⟩
  have h1 : x < 256 := by omega
  have h2 : y < 256 := by omega
  have h3 : z < 256 := by omega
  exact or_at (x * 256 + y) z 8 (by rw [show (2 : Nat) ^ 8 = 256 from by decide]; omega) (by rw [show (2 : Nat) ^ 8 = 256 from by decide]; omega) (by rw [show (2 : Nat) ^ 8 = 256 from by decide]; omega) rfl
theorem takeH {P : Program} {ops : Array Oper} {Q : Exit → Act → World → Prop} {md : Region.Mode} {S : World → Prop} {i : Nat} (d : Nat) {oi : Oper} {v : Value} {fuel : Nat} {listed : Array Bool} {a : Act} {w : World} (hi : ops[i]? = some oi) (hd : oi.dst = some d)
    (hs : Region.noSelect ops = true) (hf : Region.free md ops listed i = true) (hr : (Region.ready md ops listed).contains i = true)
    (hQ : ∀ c a w, Q (.panic c) (a.put (some d) v) w → Q (.panic c) a w) (hy : YieldsIf P ops S oi v a) (hS : S w)
    (h : wpAnyH P md ops Q S fuel (listed.setIfInBounds i true) (a.put (some d) v) w) : wpAnyH P md ops Q S (fuel + 1) listed a w :=
  wpAnyH_take hi hs hf hr (by rw [hd]; exact hQ) hy hS (by rw [hd]; exact h)
end Go.Proofs.YtolnfipdhkbkjajDoor.Wir
