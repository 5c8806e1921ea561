/-
  Texts put together: WirB, WirM, WirE, WirC, WirD.
-/
import Derived.Test.YtpjoaogiaacikakGreatDoorMgA
import Derived.Laws.Strings
import Derived.Laws.Entries
import Derived.Laws.Shifts
import Derived.Laws.Concat
import Derived.Laws.BytesString
import Derived.Laws.IdiomStrings
import Derived.Laws.DeepStrings4
import Derived.Lib.AppendStr
import Derived.Lib.Strings
import Derived.Deep.QuietTactic
import Derived.BigQuiet
import Derived.Deep.RegionHeld3
import Derived.Handy
import Derived.Laws.ResultCell
import Derived.Test.YtpjoaogiaacikakGreatDoorMgB

/-
  Bytes: a text's bytes as cells of a row that the call owns; a byte of a text.
-/
namespace Go.Proofs.YtpjoaogiaacikakGreatDoor.Wir
open Go.RowKit
open Go.Proofs.YtpjoaogiaacikakGreatDoor.Fif (own_lt own_block own_form own_mono Kp ret_bool)
set_option linter.unusedVariables false

/-- bytes as a text -/
def txt (l : List Int) : ByteArray := ⟨(l.map fun n => UInt8.ofNat n.toNat).toArray⟩
/-- a byte of a text -/
def bt (t : ByteArray) (i : Nat) : Int := ((t.data.getD i 0).toNat : Int)
def Byt (l : List Int) : Prop := ∀ n ∈ l, 0 ≤ n ∧ n < 256
theorem txt_size (l : List Int) : (txt l).size = l.length := by simp [txt, ByteArray.size]
theorem txt_append (a b : List Int) : txt (a ++ b) = txt a ++ txt b := by
  apply ByteArray.ext
  simp [txt, ByteArray.data_append]
theorem bt_txt {l : List Int} (h : Byt l) {i : Nat} (hi : i < l.length) : bt (txt l) i = l.getD i 0 := by
  have hm := h l[i] (List.getElem_mem hi)
  simp [bt, txt, List.getD, hi]
  omega
theorem bt_range (t : ByteArray) (i : Nat) : 0 ≤ bt t i ∧ bt t i < 256 := by
  unfold bt
  have := (t.data.getD i 0).toNat_lt
  omega
theorem bt_get {t : ByteArray} {i : Nat} (h : i < t.size) : ((t[i]'h).toNat : Int) = bt t i := by
  have h' : i < t.data.size := h
  unfold bt
  rw [Array.getD_eq_getD_getElem?, Array.getElem?_eq_getElem h']
  rfl
theorem cells_append (a b : ByteArray) : Lib.strCells (a ++ b) = Lib.strCells a ++ Lib.strCells b := by simp [Lib.strCells, ByteArray.data_append]
theorem cells_txt {l : List Int} (h : Byt l) : Lib.strCells (txt l) = l.map (Value.int .u8) := by
  unfold Lib.strCells txt
  simp only [List.map_map]
  apply List.map_congr_left
  intro n hn
  have := h n hn
  simp
  omega
theorem cells_get (t : ByteArray) {i : Nat} (h : i < t.size) : (Lib.strCells t)[i]? = some (.int .u8 (bt t i)) := by
  have h' : i < t.data.toList.length := by simpa using h
  rw [← bt_get h]
  unfold Lib.strCells
  rw [List.getElem?_map, List.getElem?_eq_getElem h']
  rfl
/-- a row of bytes that the call owns -/
def Bo (w : World) (base : Nat) (v : Value) (t : ByteArray) : Prop := w.ownsRow base 5 1 v t.size (Lib.strCells t)
theorem Bo.nil (w : World) (base : Nat) : Bo w base (.slice none 0 0) .empty := World.ownsRow_nil _ _ _ _
theorem Bo.later {w w' : World} {base : Nat} {v : Value} {t : ByteArray} (h : Bo w base v t) (hb : Below w.heap.size w w') : Bo w' base v t := own_block h fun k hk => hb.block k (own_lt h k hk).2
theorem Bo.form {w : World} {base : Nat} {v : Value} {t : ByteArray} (h : Bo w base v t) : ∃ q c, v = .slice q t.size c ∧ (0 < t.size → ∃ g, q = some ⟨g, 0, none⟩ ∧ base ≤ g ∧ g < w.heap.size ∧ ∀ i, i < t.size → w.cell? ⟨g, i, none⟩ = some (.int .u8 (bt t i))) := by
  rcases h.2 with ⟨h2, h3⟩ | ⟨g, cap, cur, hv, hb, hh, hc, hm, hsz, ht⟩
  · exact ⟨none, 0, by rw [h3]; exact h2, fun q => by omega⟩
  · refine ⟨_, cap, hv, fun _ => ⟨g, rfl, hb, ?_, fun i hi => ?_⟩⟩
    · rcases Nat.lt_or_ge g w.heap.size with hlt | hge
      · exact hlt
      · rw [Array.getElem?_eq_none hge] at hh; cases hh
    · have e := cells_get t hi
      rw [← ht, Nat.mul_one, List.getElem?_take_of_lt hi] at e
      simp only [World.cell?, hh]
      simpa using e
theorem info_u8 : (Tryz.prog.info? 5).map (fun i => (i.zero, i.size, i.bytes)) = some (some (.int .u8 0), 1, 1) := by kernel_rfl
theorem info_byte : ∃ i, Tryz.prog.info? 5 = some i ∧ i.zero = some (.int .u8 0) ∧ i.size = 1 ∧ i.bytes = 1 := by
  obtain ⟨i, hi, hzz⟩ := Option.map_eq_some_iff.1 info_u8
  simp only [Prod.mk.injEq] at hzz
  exact ⟨i, hi, hzz.1, hzz.2.1, hzz.2.2⟩
/-- 'string(b)' -/
theorem text_of {w : World} {base : Nat} {v : Value} {t : ByteArray} (h : Bo w base v t) (W : World) (hW : ∀ k, v.ownBlock = some k → W.heap[k]? = w.heap[k]?) : (convert 79 9 v).run Tryz.prog W = .ok (.string t) W := by
  have h' : Bo W base v t := own_block h hW
  obtain ⟨q, c, rfl, hq⟩ := h'.form
  rcases Nat.eq_zero_or_pos t.size with h0 | h0
  · have ht : t = .empty := by
      apply ByteArray.ext
      apply Array.eq_empty_of_size_eq_zero
      exact h0
    subst ht
    rw [run_convert_bytes_string W 79 9 5 q _ c Tryz.underlying79 Tryz.underlying5 Tryz.underlying9]
    cases q with
    | none => rfl
    | some a =>
      have := run_bytesToString (P := Tryz.prog) W a 0 c [] rfl
      exact this
  · obtain ⟨g, rfl, _, _, hc⟩ := hq h0
    have e := run_convert_bytes_back (P := Tryz.prog) W 79 9 5 ⟨g, 0, none⟩ c t.data.toList Tryz.underlying79 Tryz.underlying5 Tryz.underlying9 (fun j hj => by
      have hj' : j < t.size := by simpa using hj
      rw [Addr.add_lit, Nat.zero_add, hc j hj', ← bt_get hj']
      rfl)
    have e1 : t.data.toList.length = t.size := by simp
    rw [e1] at e
    exact e
/-- a row that was written out -/
theorem new_own (w : World) (l : List Int) (base : Nat) (hb : base ≤ w.heap.size) (hl : l.length ≤ 1000) (h : Byt l) : Bo (w.alloc (.cells (l.map (Value.int .u8)).toArray 5)) base (.slice (some ⟨w.heap.size, 0, none⟩) l.length l.length) (txt l) := by
  refine ⟨?_, .inr ⟨w.heap.size, l.length, (l.map (Value.int .u8)).toArray, ?_, hb, ?_, ?_, ?_, ?_, ?_⟩⟩
  · rw [Lib.strCells_length, Nat.mul_one]
  · rw [txt_size]
  · exact heap_alloc_new w _
  · rw [txt_size]; exact Nat.le_refl _
  · unfold maxLen; omega
  · simp
  · rw [cells_txt h, txt_size]
    simp [List.take_of_length_le]
theorem new_row (w : World) (B : Nat) (hB : B = w.heap.size) (l : List Value) (t : TypeId) : ∀ j u, l[j]? = some u → (w.alloc (.cells l.toArray t)).cell? ((⟨B, 0, none⟩ : Addr).add j) = some u := by
  subst hB
  intro j u hj
  rw [Addr.add_lit, Nat.zero_add]
  simpa using hj
theorem byte_one (l : List Int) : ∀ u ∈ l.map (Value.int .u8), u.oneCell' = true := by
  intro u hu
  obtain ⟨n, _, rfl⟩ := List.mem_map.1 hu
  rfl
/-- 'append(b, x, ..)' -/
theorem app_bytes (w : World) {ops : Array Oper} {rest : List Oper} {o : Oper} {a : Act} {Q : Exit → Act → World → Prop} (hgd : o.guard = none) (s x : Operand)
    (ho : o.op = .call { callee := .builtin .append, args := #[s, x], argTypes := #[79, 79] }) (base : Nat) (v : Value) (t : ByteArray) (hs : a.eval s = v) (hown : Bo w base v t)
    (l : List Int) (hb : Byt l) (g n c : Nat) (hn : n = l.length) (hx : a.eval x = .slice (some ⟨g, 0, none⟩) n c) (hc : ∀ j u, (l.map (Value.int .u8))[j]? = some u → w.cell? ((⟨g, 0, none⟩ : Addr).add j) = some u)
    (hsz : t.size + n ≤ 10000) (hbase : base ≤ w.heap.size)
    (h : ∀ v' w', Bo w' base v' (t ++ txt l) → w.grownBy w' v.ownBlock → wpList Tryz.prog ops Q rest (a.put o.dst v') w') : wpList Tryz.prog ops Q (o :: rest) a w := by
  subst hn
  obtain ⟨i, h1, h2, h3, h4⟩ := info_byte
  refine wpList_append_own w hgd s x 79 ho base 5 i (.int .u8 0) 1 1 Tryz.underlying79 h1 h2 h3 h4 rfl (by decide) v t.size (Lib.strCells t) hs hown ⟨g, 0, none⟩ l.length c (l.map (Value.int .u8)) hx (by simp) hc (byte_one l) (by unfold maxLen; omega) (by omega) hbase ?_
  intro v' w' ho' hg _
  refine h v' w' ?_ hg
  unfold Bo
  rw [cells_append, cells_txt hb, ByteArray.size_append, txt_size]
  exact ho'
/-- 'append(b, s...)' -/
theorem app_text (w : World) {ops : Array Oper} {rest : List Oper} {o : Oper} {a : Act} {Q : Exit → Act → World → Prop} (hgd : o.guard = none) (s x : Operand)
    (ho : o.op = .call { callee := .builtin .append, args := #[s, x], argTypes := #[79, 9] }) (base : Nat) (v : Value) (t : ByteArray) (hs : a.eval s = v) (hown : Bo w base v t)
    (b : ByteArray) (hx : a.eval x = .string b) (hsz : t.size + b.size ≤ 10000) (hbase : base ≤ w.heap.size)
    (h : ∀ v' w', Bo w' base v' (t ++ b) → w.grownBy w' v.ownBlock → wpList Tryz.prog ops Q rest (a.put o.dst v') w') : wpList Tryz.prog ops Q (o :: rest) a w := by
  obtain ⟨i, h1, h2, h3, h4⟩ := info_byte
  refine Lib.wpList_append_own_string w hgd s x 79 9 ho base 5 i Tryz.underlying79 Tryz.underlying9 h1 h2 h3 h4 v t.size (Lib.strCells t) hs hown b hx (by unfold maxLen; omega) (by omega) hbase ?_
  intro v' w' ho' hg _
  refine h v' w' ?_ hg
  unfold Bo
  rw [cells_append, ByteArray.size_append]
  exact ho'
theorem Bo.grown {a w w' : World} {B base : Nat} {v : Value} {t : ByteArray} (h : Below B a w) (hown : Bo w base v t) (hg : w.grownBy w' v.ownBlock) (hB : B ≤ base) (hs : base ≤ w.heap.size) : Below B a w' :=
  h.grown hg (by omega) (fun k hk => Nat.le_trans hB (own_lt hown k hk).1)
theorem or_bv (x y : Nat) (hx : x < 18446744073709551616) (hy : y < 18446744073709551616) : (BitVec.ofInt 64 (x : Int) ||| BitVec.ofInt 64 (y : Int)).toNat = x ||| y := by
  rw [BitVec.toNat_or, BitVec.ofInt_natCast, BitVec.ofInt_natCast, BitVec.toNat_ofNat, BitVec.toNat_ofNat, Nat.mod_eq_of_lt hx, Nat.mod_eq_of_lt hy]
theorem or_sum (a b i : Nat) (hi : a * 2 ^ i + b < 16777216) (hb : b < 2 ^ i) : bits .or .i64 ((a * 2 ^ i : Nat) : Int) (b : Int) = ((a * 2 ^ i + b : Nat) : Int) := by
  have e : a * 2 ^ i ||| b = a * 2 ^ i + b := by
    rw [← Nat.shiftLeft_eq, Nat.shiftLeft_add_eq_or_of_lt hb]
  show IntKind.i64.wrap (((BitVec.ofInt 64 ((a * 2 ^ i : Nat) : Int) ||| BitVec.ofInt 64 (b : Int)).toNat : Nat) : Int) = _
  rw [or_bv _ _ (by omega) (by omega), e]
  generalize a * 2 ^ i + b = z at *
  simp only [IntKind.wrap, IntKind.bits, IntKind.signed]
  simp
  omega
theorem or_at {x y : Int} (a b i : Nat) (hi : a * 2 ^ i + b < 16777216) (hb : b < 2 ^ i) (ex : x = ((a * 2 ^ i : Nat) : Int)) (ey : y = (b : Int)) : bits .or .i64 x y = x + y := by
  rw [ex, ey, or_sum a b i hi hb, Int.natCast_add]
theorem or_one {a b : Int} (ha : 0 ≤ a ∧ a < 256) (hb : 0 ≤ b ∧ b < 256) : bits .or .i64 (a * 65536) (b * 256) = a * 65536 + b * 256 := by
  obtain ⟨x, rfl⟩ : ∃ x : Nat, a = (x : Int) := ⟨a.toNat, by omega⟩
  obtain ⟨y, rfl⟩ : ∃ y : Nat, b = (y : Int) := ⟨b.toNat, by omega⟩
  have h1 : x < 256 := by omega
  have h2 : y < 256 := by omega
  exact or_at x (y * 256) 16 (by rw [show (2 : Nat) ^ 16 = 65536 from by decide]; omega) (by rw [show (2 : Nat) ^ 16 = 65536 from by decide]; omega) (by rw [show (2 : Nat) ^ 16 = 65536 from by decide]; rw [Int.natCast_mul]; rfl) (by rw [Int.natCast_mul]; rfl)
theorem or_two {a b c : Int} (ha : 0 ≤ a ∧ a < 256) (hb : 0 ≤ b ∧ b < 256) (hc : 0 ≤ c ∧ c < 256) : bits .or .i64 (a * 65536 + b * 256) c = a * 65536 + b * 256 + c := by
  obtain ⟨x, rfl⟩ : ∃ x : Nat, a = (x : Int) := ⟨a.toNat, by omega⟩
  obtain ⟨y, rfl⟩ : ∃ y : Nat, b = (y : Int) := ⟨b.toNat, by omega⟩
  obtain ⟨z, rfl⟩ : ∃ z : Nat, c = (z : Int) := ⟨c.toNat, by omega⟩
  have h1 : x < 256 := by omega
  have h2 : y < 256 := by omega
  have h3 : z < 256 := by omega
  exact or_at (x * 256 + y) z 8 (by rw [show (2 : Nat) ^ 8 = 256 from by decide]; omega) (by rw [show (2 : Nat) ^ 8 = 256 from by decide]; omega) (by rw [show (2 : Nat) ^ 8 = 256 from by decide]; omega) rfl
theorem takeH {P : Program} {ops : Array Oper} {Q : Exit → Act → World → Prop} {md : Region.Mode} {S : World → Prop} {i : Nat} (d : Nat) {oi : Oper} {v : Value} {fuel : Nat} {listed : Array Bool} {a : Act} {w : World} (hi : ops[i]? = some oi) (hd : oi.dst = some d)
    (hs : Region.noSelect ops = true) (hf : Region.free md ops listed i = true) (hr : (Region.ready md ops listed).contains i = true)
    (hQ : ∀ c a w, Q (.panic c) (a.put (some d) v) w → Q (.panic c) a w) (hy : YieldsIf P ops S oi v a) (hS : S w)
    (h : wpAnyH P md ops Q S fuel (listed.setIfInBounds i true) (a.put (some d) v) w) : wpAnyH P md ops Q S (fuel + 1) listed a w :=
  wpAnyH_take hi hs hf hr (by rw [hd]; exact hQ) hy hS (by rw [hd]; exact h)
end Go.Proofs.YtpjoaogiaacikakGreatDoor.Wir

/-
  Plain facts on words as bytes: what is refused, the bytes, the sum; what is read from bytes; with one byte another one it is none.
-/
namespace Go.Proofs.YtpjoaogiaacikakGreatDoor.Wir
open Go.Proofs.YtpjoaogiaacikakGreatDoor.Cau (Sd sdBad)
open Go.Proofs.YtpjoaogiaacikakGreatDoor.Vec (code)

/-- what is wrong with a word that is to be packed -/
def packC (s : Sd) : Int := if sdBad s = true then 1 else code s.2.2
/-- a number in three bytes, the high one first -/
def n3 (n : Int) : List Int := [n / 65536, n / 256 % 256, n % 256]
/-- what stands ahead of the sum -/
def body (s : Sd) : List Int := s.1 :: s.2.1 :: s.2.2.flatMap n3
def tot (l : List Int) : Int := l.foldl (fun a b => (a + b) % 256) 0
def pk (s : Sd) : List Int := body s ++ [tot (body s)]
def packS (s : Sd) : ByteArray := if packC s = 0 then txt (pk s) else .empty
def n3at (t : ByteArray) (k : Nat) : Int := bt t (2 + 3 * k) * 65536 + bt t (2 + 3 * k + 1) * 256 + bt t (2 + 3 * k + 2)
def rd (t : ByteArray) : Sd := (bt t 0, bt t 1, [n3at t 0, n3at t 1, n3at t 2, n3at t 3, n3at t 4])
def okU (t : ByteArray) : Bool := decide (t.size = 18) && (decide (packC (rd t) = 0) && decide (txt (pk (rd t)) = t))
def unC (t : ByteArray) : Int := if okU t = true then 0 else 2
def unS (t : ByteArray) : Sd := if okU t = true then rd t else (0, 0, [])

theorem tot_range (l : List Int) : 0 ≤ tot l ∧ tot l < 256 := by
  unfold tot
  rcases l.eq_nil_or_concat with rfl | ⟨l', b, rfl⟩
  · simp
  · rw [List.concat_eq_append, List.foldl_append]
    simp only [List.foldl_cons, List.foldl_nil]
    omega
theorem tot_snoc (l : List Int) (b : Int) : tot (l ++ [b]) = (tot l + b) % 256 := by
  unfold tot
  rw [List.foldl_append]
  rfl
/-- the sum, be it taken modulo 256 at each step, or at the end -/
theorem tot_sum : ∀ (l : List Int), tot l = l.sum % 256 := by
  have key : ∀ (l : List Int) (a : Int), l.foldl (fun a b => (a + b) % 256) (a % 256) = (a + l.sum) % 256 := by
    intro l
    induction l with
    | nil => intro a; simp
    | cons b l ih =>
      intro a
      rw [List.foldl_cons, show (a % 256 + b) % 256 = (a + b) % 256 by omega, ih (a + b), List.sum_cons]
      congr 1
      omega
  intro l
  have := key l 0
  simpa [tot] using this
theorem sd_ok {s : Sd} (h : packC s = 0) : (0 ≤ s.1 ∧ s.1 ≤ 4) ∧ (1 ≤ s.2.1 ∧ s.2.1 ≤ 30) ∧ code s.2.2 = 0 := by
  unfold packC at h
  split at h
  · omega
  · rename_i hb
    simp [sdBad] at hb
    exact ⟨by omega, by omega, h⟩
theorem code_ok {xs : List Int} (h : code xs = 0) : ∃ a b c d e, xs = [a, b, c, d, e] ∧ (0 ≤ a ∧ a ≤ 1000000) ∧ (0 ≤ b ∧ b ≤ 1000000) ∧ (0 ≤ c ∧ c ≤ 1000000) ∧ (0 ≤ d ∧ d ≤ 1000000) ∧ (0 ≤ e ∧ e ≤ 1000000) := by
  unfold Vec.code at h
  split at h
  · rename_i hl
    match xs, hl with
    | [a, b, c, d, e], _ =>
      split at h
      · omega
      · rename_i hb
        simp [Vec.bad, Vec.anyP, Vec.out] at hb
        exact ⟨a, b, c, d, e, rfl, by omega, by omega, by omega, by omega, by omega⟩
  · omega
theorem body_of (x y a b c d e : Int) : body (x, y, [a, b, c, d, e]) = [x, y, a / 65536, a / 256 % 256, a % 256, b / 65536, b / 256 % 256, b % 256, c / 65536, c / 256 % 256, c % 256, d / 65536, d / 256 % 256, d % 256, e / 65536, e / 256 % 256, e % 256] := rfl
theorem pk_byt {s : Sd} (h : packC s = 0) : Byt (pk s) ∧ (pk s).length = 18 := by
  obtain ⟨h1, h2, h3⟩ := sd_ok h
  obtain ⟨x, y, xs⟩ := s
  obtain ⟨a, b, c, d, e, rfl, ha, hb, hc, hd, he⟩ := code_ok h3
  simp only at h1 h2
  have ht := tot_range (body (x, y, [a, b, c, d, e]))
  refine ⟨?_, by simp [pk, body_of]⟩
  intro n hn
  unfold pk at hn
  rw [body_of] at hn ht
  obtain ⟨q, eq⟩ : ∃ q, q = tot [x, y, a / 65536, a / 256 % 256, a % 256, b / 65536, b / 256 % 256, b % 256, c / 65536, c / 256 % 256, c % 256, d / 65536, d / 256 % 256, d % 256, e / 65536, e / 256 % 256, e % 256] := ⟨_, rfl⟩
  rw [← eq] at hn ht
  simp only [List.cons_append, List.nil_append, List.mem_cons, List.not_mem_nil, or_false] at hn
  rcases hn with rfl | rfl | rfl | rfl | rfl | rfl | rfl | rfl | rfl | rfl | rfl | rfl | rfl | rfl | rfl | rfl | rfl | rfl <;> omega
/-- what was packed is read as it was -/
theorem rd_pk {s : Sd} (h : packC s = 0) : rd (txt (pk s)) = s := by
  obtain ⟨hb, hl⟩ := pk_byt h
  obtain ⟨h1, h2, h3⟩ := sd_ok h
  obtain ⟨x, y, xs⟩ := s
  obtain ⟨a, b, c, d, e, rfl, ha, hb', hc, hd, he⟩ := code_ok h3
  have g : ∀ i, i < 18 → bt (txt (pk (x, y, [a, b, c, d, e]))) i = (pk (x, y, [a, b, c, d, e])).getD i 0 := fun i hi => bt_txt hb (by rw [hl]; exact hi)
  have e0 : ∀ i, i < 17 → (pk (x, y, [a, b, c, d, e])).getD i 0 = (body (x, y, [a, b, c, d, e])).getD i 0 := by
    intro i hi
    unfold pk
    have : (body (x, y, [a, b, c, d, e])).length = 17 := rfl
    simp [List.getD, List.getElem?_append, this, hi]
  unfold rd n3at
  simp only [Nat.mul_zero, Nat.mul_one, Nat.add_zero, Nat.reduceMul, Nat.reduceAdd]
  rw [g 0 (by omega), g 1 (by omega), g 2 (by omega), g 3 (by omega), g 4 (by omega), g 5 (by omega), g 6 (by omega), g 7 (by omega), g 8 (by omega), g 9 (by omega), g 10 (by omega), g 11 (by omega), g 12 (by omega), g 13 (by omega), g 14 (by omega), g 15 (by omega), g 16 (by omega)]
  rw [e0 0 (by omega), e0 1 (by omega), e0 2 (by omega), e0 3 (by omega), e0 4 (by omega), e0 5 (by omega), e0 6 (by omega), e0 7 (by omega), e0 8 (by omega), e0 9 (by omega), e0 10 (by omega), e0 11 (by omega), e0 12 (by omega), e0 13 (by omega), e0 14 (by omega), e0 15 (by omega), e0 16 (by omega)]
  rw [body_of]
  simp only [List.getD_cons_zero, List.getD_cons_succ, Prod.mk.injEq, List.cons.injEq, and_true, true_and]
  refine ⟨?_, ?_, ?_, ?_, ?_⟩ <;> omega
theorem okU_pk {s : Sd} (h : packC s = 0) : okU (txt (pk s)) = true := by
  unfold okU
  rw [rd_pk h, txt_size, (pk_byt h).2, h]
  simp
theorem okU_is {t : ByteArray} (h : okU t = true) : t.size = 18 ∧ packC (rd t) = 0 ∧ txt (pk (rd t)) = t := by
  simpa [okU] using h
/-- the first so many bytes -/
def bts (t : ByteArray) (n : Nat) : List Int := (List.range n).map (bt t)
theorem bts_txt {l : List Int} (h : Byt l) {n : Nat} (hn : n ≤ l.length) : bts (txt l) n = l.take n := by
  apply List.ext_getElem
  · simp [bts]; omega
  · intro i h1 h2
    simp [bts] at h1
    have hi : i < l.length := by omega
    simp [bts, bt_txt h hi, List.getD, hi]
/-- the last byte is the sum of the others -/
theorem sum_is {t : ByteArray} (h : okU t = true) : bt t 17 = (bts t 17).sum % 256 := by
  obtain ⟨h1, h2, h3⟩ := okU_is h
  obtain ⟨hb, hl⟩ := pk_byt h2
  obtain ⟨s, es⟩ : ∃ s, s = rd t := ⟨_, rfl⟩
  rw [← es] at h2 h3 hb hl
  have hbl : (body s).length = 17 := by
    unfold pk at hl
    simp at hl
    omega
  rw [← h3, bts_txt hb (by omega), bt_txt hb (by omega)]
  unfold pk
  rw [List.take_left' hbl, ← tot_sum]
  simp [List.getD, hbl]
theorem sum_change (f g : Nat → Int) (k : Nat) (n : Nat) (hk : k < n) (h : ∀ i, i < n → i ≠ k → f i = g i) : ((List.range n).map f).sum - ((List.range n).map g).sum = f k - g k := by
  induction n with
  | zero => omega
  | succ n ih =>
    rw [List.range_succ, List.map_append, List.map_append, List.sum_append, List.sum_append]
    simp only [List.map_cons, List.map_nil, List.sum_cons, List.sum_nil]
    by_cases e : k = n
    · subst e
      have : (List.range k).map f = (List.range k).map g := by
        apply List.map_congr_left
        intro i hi
        have := List.mem_range.1 hi
        exact h i (by omega) (by omega)
      rw [this]
      omega
    · have := ih (by omega) (fun i hi hne => h i (by omega) hne)
      have := h n (by omega) (fun q => e q.symm)
      omega
/-- with one byte another one it is none -/
theorem one_other {t t' : ByteArray} {k : Nat} (h : okU t = true) (hk : k < 18) (hne : bt t' k ≠ bt t k) (hs : ∀ i, i < 18 → i ≠ k → bt t' i = bt t i) : okU t' = false := by
  rw [Bool.eq_false_iff]
  intro h'
  have a := sum_is h
  have b := sum_is h'
  by_cases e : k = 17
  · subst e
    have : bts t' 17 = bts t 17 := by
      apply List.map_congr_left
      intro i hi
      have := List.mem_range.1 hi
      exact hs i (by omega) (by omega)
    rw [this, ← a] at b
    exact hne b
  · rw [hs 17 (by omega) (by omega), a] at b
    have c := sum_change (bt t') (bt t) k 17 (by omega) (fun i hi hn => hs i (by omega) hn)
    have r1 := bt_range t k
    have r2 := bt_range t' k
    unfold bts at b
    omega
theorem unC_no {t : ByteArray} (h : t.size ≠ 18) : unC t = 2 ∧ unS t = (0, 0, []) := by
  have : okU t = false := by simp [okU, h]
  unfold unC unS
  rw [this]
  exact ⟨rfl, rfl⟩
end Go.Proofs.YtpjoaogiaacikakGreatDoor.Wir

/-
  Errors as the program tells them; a list of numbers that is seen; a word that is handed over.
-/
namespace Go.Proofs.YtpjoaogiaacikakGreatDoor.Wir
open Go.RowKit
open Go.Proofs.YtpjoaogiaacikakGreatDoor.Fif (own_lt own_block own_form own_mono own_vw Kp ret_bool)
open Go.Proofs.YtpjoaogiaacikakGreatDoor.Vec (Vw)
open Go.Proofs.YtpjoaogiaacikakGreatDoor.Cau (Sd sdBad)
set_option linter.unusedVariables false

def errF (c : Int) : Value := if c = 0 then .nilIface else .iface 60 (.int .i64 c)
theorem errF_ok : errF 0 = .nilIface := rfl
theorem errF_no {c : Int} (h : c ≠ 0) : errF c = .iface 60 (.int .i64 c) := if_neg h
/-- a list of numbers that is seen -/
def Sl (w : World) (v : Value) (l : List Int) : Prop := ∃ a cap, v = .slice a l.length cap ∧ l.length ≤ cap ∧ cap ≤ maxLen ∧ Vw w a l.length l
theorem Sl.later {w w' : World} {v : Value} {l : List Int} (h : Sl w v l) (hb : Below w.heap.size w w') : Sl w' v l := by
  obtain ⟨a, cap, e, h1, h2, h3⟩ := h
  exact ⟨a, cap, e, h1, h2, h3.later hb⟩
theorem Sl.nil (w : World) : Sl w (.slice none 0 0) [] := ⟨none, 0, rfl, Nat.le_refl _, Nat.zero_le _, rfl, fun q => absurd q (by simp)⟩
theorem drews {B : Nat} {a w : World} (h : Below B a w) (n : Nat) : Below B a (w.drewN n) := ⟨h.os, h.tape, h.output, h.size, h.block⟩
/-- a word in a block of its own -/
def wv (x y : Int) (u : Value) (k : Nat) : Value := if k = 0 then .int .i64 x else if k = 1 then .int .i64 y else u
theorem box (w : World) (x y : Int) (u : Value) : (w.alloc (.cells #[.int .i64 x, .int .i64 y, u] 51)).rowIs w.heap.size 51 3 (wv x y u) := World.rowIs_alloc w #[.int .i64 x, .int .i64 y, u] 51 _ fun i hi => by
  have hi : i < 3 := hi
  rcases i with _ | _ | _ | i <;> first | rfl | omega
end Go.Proofs.YtpjoaogiaacikakGreatDoor.Wir

/-
  What is wrong with a word; the sum; Pack.
-/
namespace Go.Proofs.YtpjoaogiaacikakGreatDoor.Wir
open Go.RowKit
open Go.Proofs.YtpjoaogiaacikakGreatDoor.Fif (own_lt own_block own_form own_mono own_vw Kp ret_bool)
open Go.Proofs.YtpjoaogiaacikakGreatDoor.Vec (Vw code)
open Go.Proofs.YtpjoaogiaacikakGreatDoor.Cau (Sd sdBad)
set_option linter.unusedVariables false

set_option maxRecDepth 100000 in
theorem check_any (x y : Int) (l : List Int) (u : Value) (w : World) (hv : Sl w u l) : Calls Tryz.prog 37 #[.agg #[.int .i64 x, .int .i64 y, u]] w fun e w' => e = .returned (errF (packC (x, y, l))) ∧ Below w.heap.size w w' := by
  have HB : Hid (Below w.heap.size w (w.alloc (.cells #[.int .i64 x, .int .i64 y, u] 51))) := (Below.refl _ _).alloc (Nat.le_refl _) _
  have bad : sdBad (x, y, l) = true → packC (x, y, l) = 1 := fun h => if_pos h
  obtain ⟨q, c, rfl, _, _, hv⟩ := hv
  cases d1 : decide (x < 0)
  · cases d2 : decide (x ≥ 5)
    · cases d3 : decide (y < 1)
      · cases d4 : decide (y > 30)
        · have e : packC (x, y, l) = code l := if_neg (by simp at d1 d2 d3 d4; simp [sdBad]; omega)
          rw [e]
          have V : Hid (Vw w q l.length l) := hv
          clear e bad hv
          go_enter Tryz.func37, Tryz.ntmps37
          by_cases hc : code l = 0
          · go_wp2_with (refine (Vec.check_ok q l.length c l _ (V.out.later HB.out) hc).mono ?_)
            rintro e w1 ⟨rfl, hb⟩
            have B1 : Hid (Below w.heap.size w w1) := HB.out.trans (hb.mono HB.out.size)
            clear hb
            go_wp2
            go_ret
            exact ⟨by rw [hc]; rfl, B1.out⟩
          · go_wp2_with (refine (Vec.check_no q l.length c l _ (V.out.later HB.out) hc).mono ?_)
            rintro e w1 ⟨rfl, hb⟩
            have B1 : Hid (Below w.heap.size w w1) := HB.out.trans (hb.mono HB.out.size)
            clear hb
            go_wp2
            go_ret
            exact ⟨by rw [errF_no hc]; rfl, B1.out⟩
        · have e := bad (by simp at d4; simp [sdBad]; omega)
          rw [e]
          clear e bad hv
          go_enter Tryz.func37, Tryz.ntmps37
          go_wp2
          go_ret
          exact ⟨rfl, HB.out⟩
      · have e := bad (by simp at d3; simp [sdBad]; omega)
        rw [e]
        clear e bad hv
        go_enter Tryz.func37, Tryz.ntmps37
        go_wp2
        go_ret
        exact ⟨rfl, HB.out⟩
    · have e := bad (by simp at d2; simp [sdBad]; omega)
      rw [e]
      clear e bad hv
      go_enter Tryz.func37, Tryz.ntmps37
      go_wp2
      go_ret
      exact ⟨rfl, HB.out⟩
  · have e := bad (by simp at d1; simp [sdBad]; omega)
    rw [e]
    clear e bad hv
    go_enter Tryz.func37, Tryz.ntmps37
    go_wp2
    go_ret
    exact ⟨rfl, HB.out⟩
set_option maxRecDepth 100000 in
theorem sum_any (base : Nat) (v : Value) (l : List Int) (w : World) (h : Bo w base v (txt l)) (hb : Byt l) (hl : l.length ≤ 1000) : Calls Tryz.prog 38 #[v] w fun e w' => e = .returned (.int .u8 (tot l)) ∧ w' = w := by
  obtain ⟨q, c, rfl, hq⟩ := h.form
  rw [txt_size] at hq ⊢
  have HQ : Hid (Byt l ∧ ∀ i, i < l.length → ∃ g, q = some ⟨g, 0, none⟩ ∧ w.cell? ⟨g, i, none⟩ = some (.int .u8 (l.getD i 0))) := ⟨hb, fun i hi => by
    obtain ⟨g, e1, _, _, e2⟩ := hq (by omega)
    have e3 := e2 i hi
    rw [bt_txt hb hi] at e3
    exact ⟨g, e1, e3⟩⟩
  obtain ⟨n, en⟩ : ∃ n, n = l.length := ⟨_, rfl⟩
  have EN : Hid (n = l.length) := en
  rw [← en] at hl ⊢
  clear h hb hq en
  go_enter Tryz.func38, Tryz.ntmps38
  go_wp2
  go_loopw [3, 8] (fun y x wr => ∃ i : Nat, i ≤ n ∧ x = .int .i64 (i : Int) ∧ y = .int .u8 (tot (l.take i)) ∧ w = wr) (fun _ x _ => n - (intOf x).toNat)
  case atStart => exact ⟨0, by omega, rfl, rfl, rfl⟩
  case round =>
    obtain ⟨i, hin, rfl, rfl, rfl⟩ := hrel
    by_cases hlt : i < n
    · have hi0 : (0 : Int) ≤ (i : Int) := by omega
      have hin' : (i : Int) < (n : Int) := by omega
      obtain ⟨g, rfl, hc⟩ := HQ.out.2 i (by rw [← EN.out]; exact hlt)
      obtain ⟨b, eb⟩ : ∃ b, b = l.getD i 0 := ⟨_, rfl⟩
      rw [← eb] at hc
      obtain ⟨a, ea⟩ : ∃ a, a = tot (l.take i) := ⟨_, rfl⟩
      have EA : Hid (a = tot (l.take i) ∧ b = l.getD i 0) := ⟨ea, eb⟩
      rw [← ea]
      clear ea eb
      go_wp2
      go_roundw
      case rel =>
        refine ⟨i + 1, by omega, by go_num, ?_, trivial⟩
        have hl : i < l.length := by rw [← EN.out]; exact hlt
        have e1 : l.take (i + 1) = l.take i ++ [l.getD i 0] := by
          rw [List.take_succ_eq_append_getElem hl]
          simp [List.getD, hl]
        rw [e1, tot_snoc, ← EA.out.1, ← EA.out.2]
      case measure => simp [intOf]; omega
    · have hi : i = n := by omega
      subst hi
      go_wp2
      go_ret
      refine ⟨?_, rfl⟩
      rw [EN.out, List.take_length]
      rfl
end Go.Proofs.YtpjoaogiaacikakGreatDoor.Wir

/-
  Pack.
-/
namespace Go.Proofs.YtpjoaogiaacikakGreatDoor.Wir
open Go.RowKit
open Go.Proofs.YtpjoaogiaacikakGreatDoor.Fif (own_lt own_block own_form own_mono own_vw Kp ret_bool)
open Go.Proofs.YtpjoaogiaacikakGreatDoor.Vec (Vw code)
open Go.Proofs.YtpjoaogiaacikakGreatDoor.Cau (Sd sdBad)
set_option linter.unusedVariables false

theorem pack_bad (x y : Int) (l : List Int) (u : Value) (w : World) (hv : Sl w u l) (h : packC (x, y, l) ≠ 0) : Calls Tryz.prog 17 #[.agg #[.int .i64 x, .int .i64 y, u]] w fun e w' => e = .returned (.tuple #[.string .empty, errF (packC (x, y, l))]) ∧ Below w.heap.size w w' := by
  have B0 : Hid (Below w.heap.size w (w.alloc (.cells #[.int .i64 x, .int .i64 y, u] 51))) := (Below.refl _ _).alloc (Nat.le_refl _) _
  have H : Hid (packC (x, y, l) ≠ 0 ∧ Sl w u l) := ⟨h, hv⟩
  clear h hv
  go_enter Tryz.func17, Tryz.ntmps17
  go_wp2_with (refine (check_any x y l u _ (H.out.2.later B0.out)).mono ?_)
  rintro e w1 ⟨rfl, hb⟩
  have B1 : Hid (Below w.heap.size w w1) := B0.out.trans (hb.mono B0.out.size)
  rw [errF_no H.out.1]
  clear hb
  go_wp2
  go_ret2
  exact ⟨by rw [errF_no H.out.1]; rfl, B1.out⟩
/-- what stands ahead of the sum, so far -/
def upto (x y : Int) (l : List Int) (i : Nat) : List Int := x :: y :: (l.take i).flatMap n3
theorem upto_succ (x y : Int) {l : List Int} {i : Nat} (h : i < l.length) : upto x y l (i + 1) = upto x y l i ++ n3 (l.getD i 0) := by
  unfold upto
  rw [List.take_succ_eq_append_getElem h, List.flatMap_append]
  simp [List.getD, h]
theorem upto_len (x y : Int) {l : List Int} {i : Nat} (h : i ≤ l.length) : (upto x y l i).length = 2 + 3 * i := by
  induction i with
  | zero => rfl
  | succ i ih => rw [upto_succ x y (by omega), List.length_append, ih (by omega)]; simp [n3]; omega
theorem upto_byt {x y : Int} {l : List Int} (hx : 0 ≤ x ∧ x < 256) (hy : 0 ≤ y ∧ y < 256) (h : ∀ i, i < l.length → 0 ≤ l.getD i 0 ∧ l.getD i 0 ≤ 1000000) {i : Nat} (hi : i ≤ l.length) : Byt (upto x y l i) := by
  induction i with
  | zero =>
    intro n hn
    simp [upto] at hn
    rcases hn with rfl | rfl <;> assumption
  | succ i ih =>
    rw [upto_succ x y (by omega)]
    intro n hn
    rcases List.mem_append.1 hn with q | q
    · exact ih (by omega) n q
    · have := h i (by omega)
      simp only [n3, List.mem_cons, List.not_mem_nil, or_false] at q
      rcases q with rfl | rfl | rfl <;> omega
set_option maxRecDepth 100000 in
set_option maxHeartbeats 2000000 in
theorem pack_ok (x0 y0 : Int) (l : List Int) (u : Value) (w : World) (hv : Sl w u l) (h : packC (x0, y0, l) = 0) : Calls Tryz.prog 17 #[.agg #[.int .i64 x0, .int .i64 y0, u]] w fun e w' => e = .returned (.tuple #[.string (txt (pk (x0, y0, l))), .nilIface]) ∧ Below w.heap.size w w' := by
  obtain ⟨h1, h2, h3⟩ := sd_ok h
  simp only at h1 h2 h3
  have hl5 : l.length = 5 := Vec.code_len h3
  have hr : ∀ i, i < l.length → 0 ≤ l.getD i 0 ∧ l.getD i 0 ≤ 1000000 := by
    obtain ⟨a, b, c, d, e, rfl, q0, q1, q2, q3, q4⟩ := code_ok h3
    intro i hi
    rcases i with _ | _ | _ | _ | _ | i
    · exact q0
    · exact q1
    · exact q2
    · exact q3
    · exact q4
    · simp at hi; omega
  have H : Hid (packC (x0, y0, l) = 0 ∧ Sl w u l ∧ l.length = 5 ∧ (∀ i, i ≤ l.length → Byt (upto x0 y0 l i)) ∧ ∀ i, i < l.length → 0 ≤ l.getD i 0 ∧ l.getD i 0 ≤ 1000000) := ⟨h, hv, hl5, fun i hi => upto_byt ⟨by omega, by omega⟩ ⟨by omega, by omega⟩ hr hi, hr⟩
  obtain ⟨hx0, hx4⟩ := h1
  obtain ⟨y1, y30⟩ := h2
  have wx : x0 % 256 = x0 := by omega
  have wy : y0 % 256 = y0 := by omega
  clear h hv h3 hl5 hr
  obtain ⟨q, c, rfl, _, _, hv⟩ := H.out.2.1
  rw [H.out.2.2.1] at hv
  have V : Hid (Vw w q 5 l ∧ Sl w (.slice q 5 c) l) := ⟨hv, by have := H.out.2.1; rw [H.out.2.2.1] at this; exact this⟩
  rw [H.out.2.2.1]
  obtain ⟨p, off, rfl, hlt, hc⟩ := hv.2 (by omega)
  have C : Hid (p < w.heap.size ∧ ∀ k, k < 5 → w.cell? ⟨p, off + k, none⟩ = some (.int .i64 (l.getD k 0))) := ⟨hlt, hc⟩
  have B0 : Hid (Below w.heap.size w (w.alloc (.cells #[.int .i64 x0, .int .i64 y0, .slice (some ⟨p, off, none⟩) 5 c] 51))) := (Below.refl _ _).alloc (Nat.le_refl _) _
  clear hv hlt hc
  go_enter Tryz.func17, Tryz.ntmps17
  go_wp2_with fail
  refine (check_any x0 y0 l (.slice (some ⟨p, off, none⟩) 5 c) _ (V.out.2.later B0.out)).mono ?_
  rintro e w1 ⟨rfl, hb⟩
  rw [H.out.1, errF_ok]
  have B1 : Hid (Below w.heap.size w w1) := B0.out.trans (hb.mono B0.out.size)
  have r1 := World.rowIs.of_block (box w x0 y0 (.slice (some ⟨p, off, none⟩) 5 c)) (hb.block w.heap.size (by simp))
  have k0 : w1.cell? ⟨w.heap.size, 0, none⟩ = some (.int .i64 x0) := World.rowIs.cell r1 (i := 0) (by omega)
  have k1 : w1.cell? ⟨w.heap.size, 1, none⟩ = some (.int .i64 y0) := World.rowIs.cell r1 (i := 1) (by omega)
  have R1 : Hid (w1.rowIs w.heap.size 51 3 (wv x0 y0 (.slice (some ⟨p, off, none⟩) 5 c)) ∧ w.heap.size < w1.heap.size) := ⟨r1, World.rowIs.lt r1⟩
  have F0 : Hid (Bo (w1.alloc (.cells #[.int .u8 x0, .int .u8 y0] 5)) w1.heap.size (.slice (some ⟨w1.heap.size, 0, none⟩) 2 2) (txt (upto x0 y0 l 0)) ∧ Below w1.heap.size w1 (w1.alloc (.cells #[.int .u8 x0, .int .u8 y0] 5))) := ⟨new_own w1 [x0, y0] w1.heap.size (Nat.le_refl _) (by simp) (H.out.2.2.2.1 0 (by omega)), (Below.refl _ _).alloc (Nat.le_refl _) _⟩
  clear hb r1
  go_wp2_with fail
  clear k0 k1
  go_loopw [5, 20] (fun v x wr => ∃ i : Nat, i ≤ 5 ∧ x = .int .i64 (i : Int) ∧ Hid (Bo wr w1.heap.size v (txt (upto x0 y0 l i)) ∧ Below w1.heap.size w1 wr)) (fun _ x _ => 5 - (intOf x).toNat)
  case atStart => exact ⟨0, by omega, rfl, F0.out⟩
  case round =>
    clear F0
    obtain ⟨i, hi5, rfl, hR⟩ := hrel
    by_cases hlt : i < 5
    · have hi0 : (0 : Int) ≤ (i : Int) := by omega
      have hin : (i : Int) < 5 := by omega
      have r2 := World.rowIs.of_block R1.out.1 (hR.out.2.block _ R1.out.2)
      have k2 : wr.cell? ⟨w.heap.size, 2, none⟩ = some (.slice (some ⟨p, off, none⟩) 5 c) := World.rowIs.cell r2 (i := 2) (by omega)
      have kn : wr.cell? ⟨p, off + i, none⟩ = some (.int .i64 (l.getD i 0)) := (hR.out.2.cell (p := ⟨p, off + i, none⟩) (Nat.lt_trans C.out.1 R1.out.2)).trans ((B1.out.cell (p := ⟨p, off + i, none⟩) C.out.1).trans (C.out.2 i hlt))
      obtain ⟨n0, n1⟩ := H.out.2.2.2.2 i (by rw [H.out.2.2.1]; exact hlt)
      obtain ⟨n, en⟩ : ∃ n, n = l.getD i 0 := ⟨_, rfl⟩
      have EN : Hid (n = l.getD i 0) := en
      rw [← en] at kn n0 n1
      have e16 : n / 65536 % 256 = n / 65536 := by omega
      have BN : Hid (Byt [n / 65536, n / 256 % 256, n % 256]) := by
        intro b hb
        simp only [List.mem_cons, List.not_mem_nil, or_false] at hb
        rcases hb with rfl | rfl | rfl <;> omega
      have hsz := upto_len x0 y0 (l := l) (i := i) (by rw [H.out.2.2.1]; exact hi5)
      have hfo := hR.out.1.form
      rw [txt_size, hsz] at hfo
      obtain ⟨qb, cb, rfl, _⟩ := hfo
      have SZ : Hid ((txt (upto x0 y0 l i)).size = 2 + 3 * i) := by show _ = _; rw [txt_size, hsz]
      clear r2 en hsz
      go_wp2_with (at_builtin; refine app_bytes _ rfl _ _ rfl w1.heap.size _ (txt (upto x0 y0 l i)) rfl (hR.out.1.later ((Below.refl _ _).alloc (Nat.le_refl _) _)) [n / 65536, n / 256 % 256, n % 256] BN.out wr.heap.size 3 3 rfl rfl (new_row _ _ rfl _ _) (by rw [SZ.out]; omega) (by have := hR.out.2.size; simp; omega) ?_; intro v' w' hown hgrow; have O2 : Hid (Bo w' w1.heap.size v' (txt (upto x0 y0 l (i + 1))) ∧ Below w1.heap.size w1 w') := ⟨by rw [upto_succ x0 y0 (by rw [H.out.2.2.1]; exact hlt), txt_append, ← EN.out]; exact hown, ((hR.out.2.alloc hR.out.2.size _).grown hgrow (by have := hR.out.2.size; simp; omega) (fun k hk => (own_lt hR.out.1 k hk).1))⟩; clear hown hgrow)
      go_roundw
      case rel => exact ⟨i + 1, by omega, by go_num, O2.out⟩
      case measure => simp [intOf]; omega
    · have hi : i = 5 := by omega
      subst hi
      have U : Hid (upto x0 y0 l 5 = body (x0, y0, l)) := by
        show upto x0 y0 l 5 = body (x0, y0, l)
        unfold upto body
        rw [← H.out.2.2.1, List.take_length]
      have OK : Hid (Byt (body (x0, y0, l)) ∧ (body (x0, y0, l)).length = 17) := by
        rw [← U.out]
        exact ⟨H.out.2.2.2.1 5 (by rw [H.out.2.2.1]; omega), upto_len x0 y0 (by rw [H.out.2.2.1]; omega)⟩
      have O3 : Hid (Bo wr w1.heap.size u5 (txt (body (x0, y0, l))) ∧ Below w1.heap.size w1 wr) := by rw [← U.out]; exact hR.out
      have hfo := O3.out.1.form
      rw [txt_size, OK.out.2] at hfo
      obtain ⟨qb, cb, rfl, _⟩ := hfo
      obtain ⟨T, eT⟩ : ∃ T, T = tot (body (x0, y0, l)) := ⟨_, rfl⟩
      have ET : Hid (T = tot (body (x0, y0, l)) ∧ Byt [T]) := ⟨eT, by
        intro b hb
        obtain rfl := List.mem_singleton.1 hb
        rw [eT]
        exact tot_range _⟩
      clear eT hR
      go_wp2_with fail
      refine (sum_any _ _ _ wr O3.out.1 OK.out.1 (by rw [OK.out.2]; decide)).mono ?_
      rintro e w2 ⟨rfl, rfl⟩
      rw [← ET.out.1]
      go_wp2_with (at_builtin; refine app_bytes _ rfl _ _ rfl w1.heap.size _ (txt (body (x0, y0, l))) rfl (O3.out.1.later ((Below.refl _ _).alloc (Nat.le_refl _) _)) [T] ET.out.2 w2.heap.size 1 1 rfl rfl (new_row _ _ rfl _ _) (by rw [txt_size, OK.out.2]; decide) (by have := O3.out.2.size; simp; omega) ?_; intro v' w' hown hgrow; have hcv := text_of hown w' (fun _ _ => rfl); have B9 : Hid (Below w1.heap.size w1 w') := ((O3.out.2.alloc O3.out.2.size _).grown hgrow (by have := O3.out.2.size; simp; omega) (fun k hk => (own_lt O3.out.1 k hk).1)); clear hown hgrow)
      go_ret2
      refine ⟨?_, B1.out.trans (B9.out.mono (Nat.le_of_lt R1.out.2))⟩
      rw [ET.out.1, ← txt_append]
      rfl
theorem packP (s : Sd) (u : Value) (w : World) (hv : Sl w u s.2.2) : Calls Tryz.prog 17 #[.agg #[.int .i64 s.1, .int .i64 s.2.1, u]] w fun e w' => e = .returned (.tuple #[.string (packS s), errF (packC s)]) ∧ Below w.heap.size w w' := by
  obtain ⟨x, y, l⟩ := s
  by_cases h : packC (x, y, l) = 0
  · have e : packS (x, y, l) = txt (pk (x, y, l)) := if_pos h
    rw [e, h]
    exact pack_ok x y l u w hv h
  · have e : packS (x, y, l) = .empty := if_neg h
    rw [e]
    exact pack_bad x y l u w hv h
end Go.Proofs.YtpjoaogiaacikakGreatDoor.Wir
