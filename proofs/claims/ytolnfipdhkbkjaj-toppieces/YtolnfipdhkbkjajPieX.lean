/-
  New, Text, Lacks.
-/
import Derived.Test.YtolnfipdhkbkjajPieU
import Derived.Deep.AppendLies
namespace Go.Proofs.Ytolnfipdhkbkjaj.Pie
open Go.RowKit Go.Maps
open Go.Proofs.Ytolnfipdhkbkjaj.Fif (own_lt own_block own_form own_mono Kp ret_bool)
set_option linter.unusedVariables false
variable {w w' : World} {base P mb : Nat} {j : J}

theorem MP.start : MP (.map []) (fun _ => none) := ⟨tidy_empty, fun _ => rfl, fun i t h => absurd h (by simp), rfl⟩
set_option maxRecDepth 100000 in
theorem newJ (w : World) : Calls Try.prog 7 #[] w fun x w' => ∃ P fp, x = .returned (.pointer (some ⟨P, 0, none⟩)) ∧ JS w' w.heap.size P start fp ∧ Below w.heap.size w w' := by
  have hmk : ∀ W : World, (Instr.makeMap 47 none).run Try.prog W = .ok (.map (some W.heap.size)) (W.alloc (.map #[] 0)) := fun _ => rfl
  have A0 : Hid (((w.alloc (.map #[] 0)).alloc (.cells #[.int .i64 0, .map (some w.heap.size)] 49)).rowIs (w.heap.size + 1) 49 2 (jv 0 w.heap.size)) := by
    have q := World.rowIs_alloc (w.alloc (.map #[] 0)) #[.int .i64 0, .map (some w.heap.size)] 49 (jv 0 w.heap.size) (fun i hi => by
      rcases i with _ | _ | i <;> first | rfl | (exfalso; have : _ < 2 := hi; omega))
    show World.rowIs _ _ _ _ _
    simpa using q
  go_enter Try.func7, Try.ntmps7
  go_wp2
  go_ret
  refine ⟨w.heap.size + 1, _, rfl, ⟨w.heap.size, rfl, A0.out, ⟨.map [], own_heap (World.ownsMap_made w _ _ _) ?_, MP.start⟩, ⟨Nat.le_succ _, Nat.le_refl _⟩, fun q => absurd rfl q⟩, ((Below.refl _ _).alloc (Nat.le_refl _) _).alloc (by simp) _⟩
  rw [Below.heap_alloc _ _ _ (by simp)]
def numX (l : List Nat) : List Value := l.map fun n : Nat => Value.int .i64 (n : Int)
theorem numX_lacks (j : J) : (lacks j).map (Value.int .i64) = numX (lackN j j.of) := by simp [lacks, numX]
theorem lacks_lenX (j : J) : (lacks j).length = (lackN j j.of).length := by simp [lacks]
theorem oneX (n : Nat) : ∀ u ∈ numX [n], u.oneCell' = true := by
  intro u hu
  obtain rfl := List.mem_singleton.1 hu
  rfl
theorem newX (w : World) (B : Nat) (hB : B = w.heap.size) (x : Value) (t : TypeId) : ∀ j u, [x][j]? = some u → (w.alloc (.cells #[x] t)).cell? ((⟨B, 0, none⟩ : Addr).add j) = some u := by
  subst hB
  intro j u hj
  rw [Addr.add_lit, Nat.zero_add]
  rcases j with _ | j
  · simpa using hj
  · simp at hj
theorem pushX {ob : Obj} {t : TypeId} {s n : Nat} {v : Value} {xs : List Value} (o : w.ownsRow base t s v n xs) (e : w'.heap = w.heap.push ob) : w'.ownsRow base t s v n xs := own_block o fun k hk => by
  rw [e, Array.getElem?_push_lt (own_lt o k hk).2, Array.getElem?_eq_getElem (own_lt o k hk).2]
theorem lack_nil {j : J} {k i : Nat} (h : lackN j k = []) (hi : i < k) : ∃ t, j.T i = some t := by
  cases q : j.T i with
  | some t => exact ⟨t, rfl⟩
  | none =>
    have : i ∈ lackN j k := by
      unfold lackN
      rw [List.mem_filter]
      exact ⟨List.mem_range.2 hi, by rw [q]; rfl⟩
    rw [h] at this
    exact absurd this List.not_mem_nil
theorem isB_heap {B b : Nat} {bs : List Value} (h : IsB B b bs w) (e : w'.heap = w.heap) : IsB B b bs w' := by
  rcases h with ⟨h1, v, h2, h3, h4⟩ | ⟨h1, v, h2, h3, h4⟩
  · exact .inl ⟨h1, v, by rw [e]; exact h2, own_block h3 fun k _ => by rw [e], h4⟩
  · exact .inr ⟨h1, v, by rw [e]; exact h2, own_block h3 fun k _ => by rw [e], h4⟩
def txt (j : J) (i : Nat) : List Value := Lib.byteCells (joined j i).data.toList
theorem txt_succ {j : J} {i : Nat} {t : ByteArray} (h : j.T i = some t) : txt j (i + 1) = txt j i ++ Lib.strCells t := by
  have e : joined j (i + 1) = joined j i ++ (j.T i).getD .empty := rfl
  unfold txt
  rw [e, h]
  simp [Lib.byteCells, Lib.strCells, ByteArray.data_append]
theorem txt_len {j : J} (g : JInv j) (i : Nat) : (txt j i).length ≤ i * 12 := by
  unfold txt
  rw [Lib.byteCells_length]
  exact joined_size g i
set_option maxRecDepth 100000 in
theorem text_no (h : JF w base P mb j) (hi : JInv j) (hc : textC j = 5) : Calls Try.prog 9 #[.pointer (some ⟨P, 0, none⟩)] w fun x w' => x = .returned (.tuple #[.string .empty, .iface 42 (.int .i64 5)]) ∧ Below w.heap.size w w' := by
  have hcnt := hi.cnt
  have hof := cnt_of h hi
  obtain ⟨n, en⟩ : ∃ n, n = cN j.T 60 := ⟨_, rfl⟩
  obtain ⟨o, eo⟩ : ∃ o, o = j.of := ⟨_, rfl⟩
  have c0 := h.c0.1
  have c1 := h.c1.1
  rw [← eo] at c0
  have hl : ∀ W : World, W.heap[mb]? = w.heap[mb]? → (Builtin.len_ #[47] 3 #[.map (some mb)]).run Try.prog W = .ok (.int .i64 (n : Nat)) W := by rw [en]; exact h.map.len 3
  have hl1 := fun k : Nat => hl (w.drewN k) rfl
  have hl0 := hl w rfl
  rw [← en] at hof hcnt
  rw [← eo] at hof
  have key : n = 0 ∨ n < o := by
    unfold textC at hc
    split at hc
    · rename_i q
      rcases q with q | q
      · left; omega
      · right
        have : 0 < (lackN j j.of).length := List.length_pos_iff.2 q
        omega
    · omega
  clear hl h hi hcnt hof en eo hc
  by_cases hn : n = 0
  · have dn : ((n : Int) == 0) = true := by simp [hn]
    clear key
    go_enter Try.func9, Try.ntmps9
    go_wp2_with fail
    go_quiet (fail)
    go_wp2
    go_ret2
    exact ⟨rfl, drewsP (Below.refl _ _) _⟩
  · have dn : ((n : Int) == 0) = false := by simp [hn]
    have d2 : n < o := by omega
    clear key hn
    go_enter Try.func9, Try.ntmps9
    go_wp2_with fail
    go_quiet (fail)
    go_wp2
    go_ret2
    exact ⟨rfl, drewsP (Below.refl _ _) _⟩
set_option maxRecDepth 100000 in
theorem text_ok (h : JF w base P mb j) (hi : JInv j) (hc : textC j = 0) : Calls Try.prog 9 #[.pointer (some ⟨P, 0, none⟩)] w fun x w' => x = .returned (.tuple #[.string (joined j j.of), .nilIface]) ∧ Below w.heap.size w w' := by
  have hcnt := hi.cnt
  have hof := cnt_of h hi
  have hq : j.of ≠ 0 ∧ lackN j j.of = [] := by
    unfold textC at hc
    split at hc
    · omega
    · rename_i q
      exact ⟨fun a => q (.inl a), Decidable.byContradiction fun a => q (.inr a)⟩
  rw [hq.2] at hcnt
  obtain ⟨n, en⟩ : ∃ n, n = cN j.T 60 := ⟨_, rfl⟩
  obtain ⟨o, eo⟩ : ∃ o, o = j.of := ⟨_, rfl⟩
  have HH : Hid (JF w base P mb j ∧ JInv j ∧ (∀ i, i < o → ∃ t, j.T i = some t)) := ⟨h, hi, fun i hi' => lack_nil hq.2 (by rw [← eo]; exact hi')⟩
  have c0 := h.c0.1
  have c1 := h.c1.1
  rw [← eo] at c0 ⊢
  have hl : ∀ W : World, W.heap[mb]? = w.heap[mb]? → (Builtin.len_ #[47] 3 #[.map (some mb)]).run Try.prog W = .ok (.int .i64 (n : Nat)) W := by rw [en]; exact h.map.len 3
  have hl1 := fun k : Nat => hl (w.drewN k) rfl
  have hl0 := hl w rfl
  rw [← en, ← eo] at hcnt
  simp only [List.length_nil, Nat.add_zero] at hcnt
  subst hcnt
  have hn60 : n ≤ 60 := by rw [eo]; exact hi.of60
  have dn : ((n : Int) == 0) = false := by simp; omega
  have hP := h.lt.1
  clear hl h hi hof hc en eo hq
  go_enter Try.func9, Try.ntmps9
  go_wp2_with fail
  go_quiet (fail)
  have I0 : Hid (IsB w.heap.size w.heap.size (txt j 0) (w.alloc (.cells #[.pointer none, .slice none 0 0] 53))) := Lib.fresh_isBuilder 53 5 w
  have q0 : ((w.drewN nq).alloc (.cells #[.pointer none, .slice none 0 0] 53)).cell? ⟨P, 0, none⟩ = some (.int .i64 (n : Int)) := (World.cell?_alloc_lt (w.drewN nq) _ ⟨P, 0, none⟩ hP).trans c0
  go_wp2
  go_loopw [29] (fun x wr => ∃ i : Nat, i ≤ n ∧ x = .int .i64 (i : Int) ∧ Hid (IsB w.heap.size w.heap.size (txt j i) wr ∧ Below w.heap.size w wr)) (fun x _ => n - (intOf x).toNat)
  case atStart => exact ⟨0, by omega, rfl, isB_heap I0.out rfl, (drewsP (Below.refl w.heap.size w) nq).alloc (Nat.le_refl _) _⟩
  case round =>
    obtain ⟨i, hin, rfl, hQ⟩ := hrel
    by_cases hlt : i < n
    · have hi0 : (0 : Int) ≤ (i : Int) := by omega
      have hin' : (i : Int) < (n : Int) := by omega
      have h1 := HH.out.1.later hQ.out.2
      obtain ⟨t, ht⟩ := HH.out.2.2 i hlt
      have d1 := h1.c1.1
      obtain ⟨a, b, hlk⟩ := h1.map.look (show i < 1000 by omega) ht
      have hlk0 := hlk wr rfl
      have fld := fld_t a b t
      have HT : Hid (j.T i = some t ∧ t.size ≤ 12) := ⟨ht, (HH.out.2.1.has i t ht).2⟩
      clear hlk h1 ht
      go_wp2_with (refine (write_any w.heap.size w.heap.size (txt j i) t wr hQ.out.1 (by have := txt_len HH.out.2.1 i; have := HT.out.2; omega) hQ.out.2.size).mono ?_)
      rintro e w2 ⟨rfl, h2, hb2⟩
      have H2 : Hid (IsB w.heap.size w.heap.size (txt j (i + 1)) w2 ∧ Below w.heap.size w w2) := by
        rw [txt_succ HT.out.1]
        exact ⟨.inr h2, hQ.out.2.trans hb2⟩
      clear h2 hb2
      go_wp2
      go_roundw
      case rel => exact ⟨i + 1, by omega, by go_num, H2.out⟩
      case measure => simp [intOf]; omega
    · have hi : i = n := by omega
      subst hi
      go_wp2_with (refine (said_any w.heap.size w.heap.size (joined j i).data.toList wr hQ.out.1 hQ.out.2.size).mono ?_)
      rintro e w2 ⟨rfl, hb2⟩
      go_wp2
      go_ret2
      exact ⟨rfl, hQ.out.2.trans hb2⟩
theorem textP_any (base P : Nat) (j : J) (fp : List Nat) (w : World) (h : JS w base P j fp) (hi : JInv j) : Calls Try.prog 9 #[.pointer (some ⟨P, 0, none⟩)] w fun x w' => x = .returned (.tuple #[.string (textS j), errF (textC j)]) ∧ Below w.heap.size w w' := by
  obtain ⟨mb, rfl, h⟩ := h
  by_cases hc : textC j = 0
  · have e : textS j = joined j j.of := if_pos hc
    rw [e, hc, errF_ok]
    exact text_ok h hi hc
  · have e : textS j = .empty := if_neg hc
    have e5 : textC j = 5 := by
      unfold textC at hc ⊢
      split at hc
      · rename_i q
        rw [if_pos q]
      · exact absurd rfl hc
    rw [e, e5, errF_no (by omega)]
    exact text_no h hi e5
end Go.Proofs.Ytolnfipdhkbkjaj.Pie
