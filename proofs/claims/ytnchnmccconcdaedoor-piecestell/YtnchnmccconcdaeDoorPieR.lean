/-
  The document's own way of splitting a text.
-/
import Derived.Test.YtnchnmccconcdaeDoorPieA
import Derived.Deep.AppendLies
namespace Go.Proofs.YtnchnmccconcdaeDoor.Pie
open Go.RowKit
open Go.Proofs.YtnchnmccconcdaeDoor.Fif (own_lt own_block own_form own_mono Kp ret_bool)
set_option linter.unusedVariables false

def strLen : Value → Nat
  | .string s => s.size
  | _ => 0
def strs (t : ByteArray) (size k : Nat) : List Value := (List.range k).map fun i : Nat => Value.string (cut t size i)
theorem strs_succ (t : ByteArray) (size k : Nat) : strs t size (k + 1) = strs t size k ++ [.string (cut t size k)] := by simp [strs, List.range_succ]
theorem strs_get (t : ByteArray) (size : Nat) {k i : Nat} (h : i < k) : (strs t size k)[i]? = some (.string (cut t size i)) := by simp [strs, h]
theorem infoS : (Tryd.prog.info? 9).map (fun i => (i.zero, i.size, i.bytes)) = some (some (.string .empty), 1, 16) := by kernel_rfl
theorem info_str : ∃ i, Tryd.prog.info? 9 = some i ∧ i.zero = some (.string .empty) ∧ i.size = 1 ∧ i.bytes = 16 := by
  obtain ⟨i, hi, hzz⟩ := Option.map_eq_some_iff.1 infoS
  simp only [Prod.mk.injEq] at hzz
  exact ⟨i, hi, hzz.1, hzz.2.1, hzz.2.2⟩
theorem new_one (w : World) (B : Nat) (hB : B = w.heap.size) (x : Value) (t : TypeId) : ∀ j u, [x][j]? = some u → (w.alloc (.cells #[x] t)).cell? ((⟨B, 0, none⟩ : Addr).add j) = some u := by
  subst hB
  intro j u hj
  rw [Addr.add_lit, Nat.zero_add]
  rcases j with _ | j
  · simpa using hj
  · simp at hj
theorem str_one (x : ByteArray) : ∀ u ∈ [Value.string x], u.oneCell' = true := by
  intro u hu
  obtain rfl := List.mem_singleton.1 hu
  rfl
theorem own_push {w w' : World} {ob : Obj} {base : Nat} {t : TypeId} {s n : Nat} {v : Value} {xs : List Value} (o : w.ownsRow base t s v n xs) (e : w'.heap = w.heap.push ob) : w'.ownsRow base t s v n xs := own_block o fun k hk => by
  rw [e, Array.getElem?_push_lt (own_lt o k hk).2, Array.getElem?_eq_getElem (own_lt o k hk).2]
theorem rest_cut {t : ByteArray} {size k : Nat} (h : (k + 1) * size ≤ t.size) : (t.extract (k * size) t.size).extract 0 size = cut t size k := by
  rw [ByteArray.extract_extract]
  unfold cut
  rw [Nat.add_mul, Nat.one_mul] at h ⊢
  congr 1
  omega
theorem rest_rest {t : ByteArray} {size k : Nat} : (t.extract (k * size) t.size).extract size (t.extract (k * size) t.size).size = t.extract ((k + 1) * size) t.size := by
  rw [ByteArray.extract_extract, ByteArray.size_extract, Nat.add_mul, Nat.one_mul]
  apply ByteArray.ext_getElem
  · rw [ByteArray.size_extract, ByteArray.size_extract]
    omega
  · intro i h1 h2
    rw [ByteArray.getElem_extract, ByteArray.getElem_extract]
theorem rest_last {t : ByteArray} {size k : Nat} (h : t.size ≤ (k + 1) * size) : t.extract (k * size) t.size = cut t size k := by
  unfold cut
  rw [← ext_min t (k * size) ((k + 1) * size), Nat.min_eq_left h]
theorem rest_size (t : ByteArray) (size k : Nat) : (t.extract (k * size) t.size).size = t.size - k * size := by
  rw [ByteArray.size_extract]
  omega
theorem own_str {w : World} {base gg n gc : Nat} {t : ByteArray} {size : Nat} (o : w.ownsRow base 9 1 (.slice (some ⟨gg, 0, none⟩) n gc) n (strs t size n)) {i : Nat} (hi : i < n) : w.cell? ⟨gg, i, none⟩ = some (.string (cut t size i)) := by
  rcases o.2 with ⟨h2, _⟩ | ⟨g, cap, cur, hv, hb, hh, hc, hm, hsz, ht⟩
  · cases h2
  · cases hv
    have q := strs_get t size hi
    rw [← ht, Nat.mul_one, List.getElem?_take_of_lt hi] at q
    simp only [World.cell?, hh]
    simpa using q
set_option maxRecDepth 100000 in
theorem refSplit (t : ByteArray) (size : Nat) (w : World) (h1 : 1 ≤ size) (h12 : size ≤ 12) (h60 : t.size ≤ 60) :
    Calls Tryd.prog 22 #[.string t, .int .i64 (size : Int)] w fun x w' => ∃ v, x = .returned v ∧ Po w' w.heap.size v (pcs t size (many t.size size)) ∧ Below w.heap.size w w' := by
  obtain ⟨ie, hie, hz0, hz1, hz2⟩ := info_str
  have HI : Hid (Tryd.prog.info? 9 = some ie ∧ ie.zero = some (.string .empty) ∧ ie.size = 1 ∧ ie.bytes = 16) := ⟨hie, hz0, hz1, hz2⟩
  obtain ⟨ip, hip, hy0, hy1, hy2⟩ := info_pc
  have HP : Hid (Tryd.prog.info? 78 = some ip ∧ ip.zero = some (.agg #[.int .i64 0, .int .i64 0, .string .empty]) ∧ ip.size = 3 ∧ ip.bytes = 32) := ⟨hip, hy0, hy1, hy2⟩
  have H0 : Hid (1 ≤ size ∧ size ≤ 12 ∧ t.size ≤ 60) := ⟨h1, h12, h60⟩
  have hs1 : (1 : Int) ≤ (size : Int) := by omega
  have hs12 : (size : Int) ≤ 12 := by omega
  have hs0 : (0 : Int) ≤ (size : Int) := by omega
  clear hie hz0 hz1 hz2 hip hy0 hy1 hy2 h1 h12 h60
  go_enter Tryd.func22, Tryd.ntmps22
  go_wp2
  go_loopw [0, 5] (fun x y wr => ∃ k : Nat, x = .string (t.extract (k * size) t.size) ∧ (k = 0 ∨ k * size < t.size) ∧ Hid (wr.ownsRow w.heap.size 9 1 y k (strs t size k) ∧ Below w.heap.size w wr ∧ k ≤ 60)) (fun x _ _ => strLen x)
  case atStart => exact ⟨0, by rw [Nat.zero_mul, ByteArray.extract_zero_size], .inl rfl, World.ownsRow_nil _ _ _ _, Below.refl _ _, by omega⟩
  case round =>
    obtain ⟨k, rfl, hk, hR⟩ := hrel
    obtain ⟨tk, etk⟩ : ∃ tk, tk = t.extract (k * size) t.size := ⟨_, rfl⟩
    have hsz : tk.size = t.size - k * size := by rw [etk]; exact rest_size t size k
    rw [← etk]
    have ET : Hid (tk = t.extract (k * size) t.size ∧ tk.size = t.size - k * size ∧ (k = 0 ∨ k * size < t.size)) := ⟨etk, hsz, hk⟩
    have htk : (tk.size : Int) ≤ 60 := by have := H0.out.2.2; omega
    obtain ⟨q, cap, eq⟩ := own_form hR.out.1
    subst eq
    by_cases hlt : size < tk.size
    · have hltI : (size : Int) < (tk.size : Int) := by omega
      have hle : (size : Int) ≤ (tk.size : Int) := by omega
      have hk60 : k + 1 ≤ 60 := by
        have e := H0.out
        have : (k + 1) * 1 ≤ (k + 1) * size := Nat.mul_le_mul_left _ e.1
        rw [Nat.add_mul (k := size), Nat.one_mul] at this
        omega
      clear hk etk hsz
      go_wp2_with (at_builtin; refine wpList_append_lies _ rfl _ _ 118 rfl w.heap.size 9 ie (.string .empty) 1 16 Tryd.underlying118 HI.out.1 HI.out.2.1 HI.out.2.2.1 HI.out.2.2.2 rfl (by decide) (.slice q k cap) k (strs t size k) rfl (by exact own_push hR.out.1 rfl) ⟨wr.heap.size, 0, none⟩ 1 1 _ rfl rfl (by exact new_one _ _ rfl _ _) (by exact str_one _) (by omega) (by unfold maxLen; omega) (by omega) (by have := hR.out.2.1.size; simp; omega) (wr.heap.size + 1) (by simp) ?_; intro gg gc w5 hown hgrow hat _; have G5 : Hid ((wr.alloc (.cells #[.string (tk.extract 0 size)] 9)).grownBy w5 (Value.slice q k cap).ownBlock) := hgrow; have O5 : Hid (w5.ownsRow w.heap.size 9 1 (.slice (some ⟨gg, 0, none⟩) (k + 1) gc) (k + 1) (strs t size k ++ [.string (tk.extract 0 size)])) := hown; clear hown hgrow hat)
      have e := H0.out
      have hsz := ET.out.2.1
      have hks : (k + 1) * size = k * size + size := by rw [Nat.add_mul, Nat.one_mul]
      have hb : Below w.heap.size w w5 := (hR.out.2.1.alloc (hR.out.2.1.size) _).grown G5.out (by have := hR.out.2.1.size; simp; omega) fun b hb => (own_lt hR.out.1 b hb).1
      refine ⟨⟨k + 1, ?_, .inr (by omega), ?_, hb, by omega⟩, ?_⟩
      · rw [ET.out.1, rest_rest]
      · have o := O5.out
        rw [ET.out.1, rest_cut (by omega), ← strs_succ] at o
        exact o
      · show (tk.extract size tk.size).size < tk.size
        rw [ByteArray.size_extract]
        omega
    · have hle : (tk.size : Int) ≤ (size : Int) := by omega
      have hk60 : k ≤ 60 := hR.out.2.2
      clear hk etk hsz
      go_wp2_with (at_builtin; refine wpList_append_lies _ rfl _ _ 118 rfl w.heap.size 9 ie (.string .empty) 1 16 Tryd.underlying118 HI.out.1 HI.out.2.1 HI.out.2.2.1 HI.out.2.2.2 rfl (by decide) (.slice q k cap) k (strs t size k) rfl (by exact own_push hR.out.1 rfl) ⟨wr.heap.size, 0, none⟩ 1 1 _ rfl rfl (by exact new_one _ _ rfl _ _) (by exact str_one _) (by omega) (by unfold maxLen; omega) (by omega) (by have := hR.out.2.1.size; simp; omega) (wr.heap.size + 1) (by simp) ?_; intro gg gc w5 hown hgrow hat _; have G5 : Hid ((wr.alloc (.cells #[.string tk] 9)).grownBy w5 (Value.slice q k cap).ownBlock) := hgrow; have O5 : Hid (w5.ownsRow w.heap.size 9 1 (.slice (some ⟨gg, 0, none⟩) (k + 1) gc) (k + 1) (strs t size k ++ [.string tk])) := hown; clear hown hgrow hat)
      obtain ⟨n, en⟩ : ∃ n, n = k + 1 := ⟨_, rfl⟩
      rw [← en] at O5 ⊢
      have L5 : Hid (w5.ownsRow w.heap.size 9 1 (.slice (some ⟨gg, 0, none⟩) n gc) n (strs t size n) ∧ Below w.heap.size w w5 ∧ n = many t.size size ∧ n ≤ 61 ∧ gg < w5.heap.size) := by
        have e := H0.out
        have hsz := ET.out.2.1
        have hks : (k + 1) * size = k * size + size := by rw [Nat.add_mul, Nat.one_mul]
        have hkk := ET.out.2.2
        have o := O5.out
        rw [ET.out.1, rest_last (by omega), ← strs_succ, ← en] at o
        refine ⟨o, (hR.out.2.1.alloc (hR.out.2.1.size) _).grown G5.out (by have := hR.out.2.1.size; simp; omega) fun b hb => (own_lt hR.out.1 b hb).1, ?_, by omega, (own_lt o gg rfl).2⟩
        rw [en]
        exact many_uniq e.1 (by omega) (by omega) (fun q => by rw [Nat.add_sub_cancel]; omega)
      have hn61 : n ≤ 61 := L5.out.2.2.2.1
      clear O5 G5 hR ET hle htk hlt en
      go_loopw [6, 7] (fun y x wr => ∃ i : Nat, i ≤ n ∧ x = .int .i64 (i : Int) ∧ Hid (Po wr w5.heap.size y (pcs t size i) ∧ Below w5.heap.size w5 wr)) (fun _ x _ => n - (intOf x).toNat)
      case atStart => exact ⟨0, by omega, rfl, World.ownsRow_nil _ _ _ _, Below.refl _ _⟩
      case round =>
        obtain ⟨i, hin, rfl, hQ⟩ := hrel
        by_cases hlt : i < n
        · have o := hQ.out.1
          unfold Po at o
          rw [pcs_len] at o
          obtain ⟨qh, caph, eh⟩ := own_form o
          subst eh
          have O : Hid (wr.ownsRow w5.heap.size 78 3 (.slice qh i caph) i (flat (pcs t size i)) ∧ w5.heap.size ≤ wr.heap.size) := ⟨o, hQ.out.2.size⟩
          have cs : wr.cell? ⟨gg, i, none⟩ = some (.string (cut t size i)) := (hQ.out.2.cell (p := ⟨gg, i, none⟩) L5.out.2.2.2.2).trans (own_str L5.out.1 hlt)
          obtain ⟨x, ex⟩ : ∃ x, x = cut t size i := ⟨_, rfl⟩
          rw [← ex] at cs
          have EX : Hid (x = cut t size i) := ex
          have hi0 : (0 : Int) ≤ (i : Int) := by omega
          have hin' : (i : Int) < (n : Int) := by omega
          clear o ex
          go_wp2_with (at_builtin; refine wpList_append_lies _ rfl _ _ 63 rfl w5.heap.size 78 ip (.agg #[.int .i64 0, .int .i64 0, .string .empty]) 3 32 Tryd.underlying63 HP.out.1 HP.out.2.1 HP.out.2.2.1 HP.out.2.2.2 rfl (by decide) (.slice qh i caph) i (flat (pcs t size i)) rfl (by exact own_push O.out.1 rfl) ⟨wr.heap.size, 0, none⟩ 1 1 (flat [((i : Int), (n : Int), x)]) rfl rfl (by exact new_pc _ _ rfl _ _ _ _) (flat_one _) (by omega) (by unfold maxLen; omega) (by omega) (by have := O.out.2; simp; omega) (wr.heap.size + 1) (by simp) ?_; intro g6 c6 w6 hown hgrow hat _; have G6 : Hid ((wr.alloc (.cells #[.int .i64 (i : Int), .int .i64 (n : Int), .string x] 78)).grownBy w6 (Value.slice qh i caph).ownBlock) := hgrow; have O6 : Hid (w6.ownsRow w5.heap.size 78 3 (.slice (some ⟨g6, 0, none⟩) (i + 1) c6) (i + 1) (flat (pcs t size i) ++ flat [((i : Int), (n : Int), x)])) := hown; clear hown hgrow hat)
          go_roundw
          case rel =>
            refine ⟨i + 1, by omega, by go_num, ?_, ?_⟩
            · have o := O6.out
              rw [← flat_append, EX.out, L5.out.2.2.1, ← pcs_succ] at o
              unfold Po
              rw [pcs_len]
              exact o
            · exact (hQ.out.2.alloc hQ.out.2.size _).grown G6.out (by have := O.out.2; simp; omega) fun b hb => (own_lt O.out.1 b hb).1
          case measure => simp [intOf]; omega
        · have hi : i = n := by omega
          subst hi
          go_wp2
          go_ret
          refine ⟨_, rfl, ?_, L5.out.2.1.trans (hQ.out.2.mono L5.out.2.1.size)⟩
          rw [← L5.out.2.2.1]
          exact own_mono hQ.out.1 L5.out.2.1.size
end Go.Proofs.YtnchnmccconcdaeDoor.Pie
