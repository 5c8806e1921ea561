/-
  The Sender: NewSender, Say, Ask, Free (the library's maps.DeleteFunc).
-/
import Derived.Test.YtdhlfbpflngmbafDoorAgaH
import Derived.Test.YtdhlfbpflngmbafDoorAgaL
namespace Go.Proofs.YtdhlfbpflngmbafDoor.Aga
open Go.RowKit Go.Maps
open Go.Proofs.YtdhlfbpflngmbafDoor.MapI (MM MP putT delT kl kl_inj turned_below g_of_turned)
open Go.Proofs.YtdhlfbpflngmbafDoor.Sep (KpL NewL)
set_option linter.unusedVariables false
variable {w w' : World} {base P mb : Nat} {said : List Int} {free : Nat}

set_option maxRecDepth 100000 in
theorem newS (w : World) : Calls Tryd.prog 4 #[] w fun x w' => ∃ P fp, x = .returned (.pointer (some ⟨P, 0, none⟩)) ∧ SS w' w.heap.size P [] 0 fp ∧ Below w.heap.size w w' := by
  have hmk : ∀ W : World, (Instr.makeMap 52 none).run Tryd.prog W = .ok (.map (some W.heap.size)) (W.alloc (.map #[] 0)) := fun _ => rfl
  have A0 : Hid (NM ((w.alloc (.map #[] 0)).alloc (.cells #[.int .i64 0, .map (some w.heap.size)] 54)) 54 w.heap.size (w.heap.size + 1) w.heap.size 0 (fun _ => none) 0) := NM.made w _ 0
  go_enter Tryd.func4, Tryd.ntmps4
  go_wp2
  go_ret
  refine ⟨w.heap.size + 1, _, rfl, ⟨w.heap.size, rfl, A0.out.congr (fun i => ?_) rfl⟩, ((Below.refl _ _).alloc (Nat.le_refl _) _).alloc (by simp) _⟩
  unfold kt
  rw [if_neg (by simp)]
theorem sayS_bad (P : Nat) (word : Int) (w : World) (hb : word < 1 ∨ 30 < word) : Calls Tryd.prog 6 #[.pointer (some ⟨P, 0, none⟩), .int .i64 word] w fun x w' => x = .returned (.tuple #[.int .i64 0, errF 1]) ∧ w' = w := by
  rw [errF_no (by decide)]
  go_enter Tryd.func6, Tryd.ntmps6
  go_wp2_with fail
  refine (word_no word w hb).mono ?_
  rintro e w ⟨rfl, rfl⟩
  go_wp2
  go_ret2
  exact ⟨rfl, rfl⟩
set_option maxRecDepth 100000 in
theorem sayS_full (g : SF w base P mb said free) (word : Int) (hw : 1 ≤ word ∧ word ≤ 30) (hl : said.length ≤ 1000) (h40 : 40 ≤ said.length - free) : Calls Tryd.prog 6 #[.pointer (some ⟨P, 0, none⟩), .int .i64 word] w fun x w' => x = .returned (.tuple #[.int .i64 0, errF 4]) ∧ w' = w := by
  rw [errF_no (by decide)]
  obtain ⟨ll, el⟩ : ∃ ll, ll = said.length - free := ⟨_, rfl⟩
  have hl40 : (40 : Int) ≤ (ll : Int) := by omega
  have hlen : (Builtin.len_ #[52] 3 #[.map (some mb)]).run Tryd.prog w = .ok (.int .i64 (ll : Nat)) w := by rw [el]; exact g.map.len _ w rfl
  obtain ⟨c1, z1⟩ := g.c1
  clear g el h40
  go_enter Tryd.func6, Tryd.ntmps6
  go_wp2_with fail
  refine (word_yes word w hw.1 hw.2).mono ?_
  rintro e w ⟨rfl, rfl⟩
  go_wp2
  go_ret2
  exact ⟨rfl, rfl⟩
set_option maxRecDepth 100000 in
theorem sayS_ok (g : SF w base P mb said free) (word : Int) (hw : 1 ≤ word ∧ word ≤ 30) (hl : said.length ≤ 1000) (hf : free ≤ said.length) (h40 : said.length - free < 40) : Calls Tryd.prog 6 #[.pointer (some ⟨P, 0, none⟩), .int .i64 word] w fun x w' => x = .returned (.tuple #[.int .i64 ((said.length : Int) + 1), .nilIface]) ∧ SF w' base P mb (said ++ [word]) free ∧ Below base w w' ∧ KpL w w' [P, mb] := by
  obtain ⟨ll, el⟩ : ∃ ll, ll = said.length - free := ⟨_, rfl⟩
  obtain ⟨n, en⟩ : ∃ n, n = said.length := ⟨_, rfl⟩
  have hl40 : ¬ (40 : Int) ≤ (ll : Int) := by omega
  have hlen : (Builtin.len_ #[52] 3 #[.map (some mb)]).run Tryd.prog w = .ok (.int .i64 (ll : Nat)) w := by rw [el]; exact g.map.len _ w rfl
  obtain ⟨c0, z0⟩ := g.c0
  obtain ⟨c1, z1⟩ := g.c1
  rw [← en] at c0 ⊢
  have hn : n ≤ 1000 := by omega
  obtain ⟨W3, eW3⟩ : ∃ W3, W3 = w.setCell ⟨P, 0, none⟩ (.int .i64 ((n : Int) + 1)) := ⟨_, rfl⟩
  have F3 : NM W3 54 base P mb ((n : Int) + 1) (kt said free) (said.length - free) := by
    rw [eW3]
    exact g.setX _
  have hwf : (Lit.int .i64 ((n : Int) + 1)).wf = true := wfI (by omega) (by omega)
  have hnone : kt said free ((n : Int) + 1) = none := if_neg (by omega)
  have hput : ∃ w', (Instr.mapUpdate 52 (.map (some mb)) (.int .i64 ((n : Int) + 1)) (.int .i64 word)).run Tryd.prog W3.drew = .ok () w' ∧ SF w' base P mb (said ++ [word]) free ∧ W3.drew.mapTurned w' mb := by
    obtain ⟨w', e, g', t'⟩ := NM.put (w := W3.drew) (F3.heap rfl) hwf word (by omega)
    refine ⟨w', e, ⟨?_, (g'.congr (T' := kt (said ++ [word]) free) (c' := (said ++ [word]).length - free) (fun i => by rw [en]; exact kt_put said free hf word i) ?_).map, g'.low⟩, t'⟩
    · have r := g'.row
      have e1 : (((said ++ [word]).length : Nat) : Int) = (n : Int) + 1 := by rw [List.length_append, en]; simp
      rw [e1]
      exact r
    · rw [hnone, List.length_append]
      simp
      omega
  obtain ⟨W4, hput1, hf2⟩ := hput
  have HD : Hid (SF W4 base P mb (said ++ [word]) free ∧ W3.drew.mapTurned W4 mb) := hf2
  have HG : Hid (SF w base P mb said free) := g
  have d0 := F3.c0.1
  have d1 := F3.c1.1
  have HN : Hid (n = said.length) := en
  have EW : Hid (W3 = w.setCell ⟨P, 0, none⟩ (.int .i64 ((n : Int) + 1))) := eW3
  have k0 : W4.cell? ⟨P, 0, none⟩ = some (.int .i64 ((n : Int) + 1)) := by
    have q := HD.out.1.c0.1
    rw [show (((said ++ [word]).length : Nat) : Int) = (n : Int) + 1 by rw [List.length_append, HN.out]; simp] at q
    exact q
  clear hf2 g el hf h40 hwf hnone F3 en
  go_enter Tryd.func6, Tryd.ntmps6
  go_wp2_with fail
  refine (word_yes word w hw.1 hw.2).mono ?_
  rintro e w ⟨rfl, rfl⟩
  go_wp2_with fail
  rw [← eW3]
  clear eW3 c0 z0 c1 z1 hlen
  go_region
  go_wp2
  go_ret2
  have b3 : Below base w W3.drew := by
    rw [EW.out]
    exact ((Below.refl base w).setCell (p := ⟨P, 0, none⟩) HG.out.low.1 _).drew
  have k3 : KpL w W3.drew [P, mb] := by
    rw [EW.out]
    exact kp2_heap (kp2_set w 0 _) rfl
  exact ⟨rfl, HD.out.1, b3.trans (turned_below HD.out.2 HG.out.low.2), kp2_trans k3 (kp2_turned HD.out.2)⟩
theorem sayS (base P : Nat) (said : List Int) (free : Nat) (fp : List Nat) (word : Int) (w : World) (g : SS w base P said free fp) (hi : SInv said free) (hl : said.length ≤ 1000) (hbw : base ≤ w.heap.size) : Calls Tryd.prog 6 #[.pointer (some ⟨P, 0, none⟩), .int .i64 word] w fun x w' => ∃ fp', x = .returned (.tuple #[.int .i64 (sayN said free word), errF (sayC said free word)]) ∧ SS w' base P (sayL said free word) free fp' ∧ Below base w w' ∧ KpL w w' fp ∧ NewL w fp fp' := by
  obtain ⟨mb, rfl, g⟩ := g
  by_cases hb : word < 1 ∨ 30 < word
  · have e1 : sayC said free word = 1 := if_pos hb
    have e2 : sayN said free word = 0 := if_neg (by rw [e1]; decide)
    have e3 : sayL said free word = said := if_neg (by rw [e1]; decide)
    rw [e1, e2, e3]
    refine (sayS_bad P word w hb).mono ?_
    rintro x w' ⟨rfl, rfl⟩
    exact ⟨_, rfl, ⟨mb, rfl, g⟩, Below.refl _ _, kp2_refl _ _ _, NewL.refl _ _⟩
  · by_cases h40 : 40 ≤ said.length - free
    · have e1 : sayC said free word = 4 := by unfold sayC; rw [if_neg hb, if_pos h40]
      have e2 : sayN said free word = 0 := if_neg (by rw [e1]; decide)
      have e3 : sayL said free word = said := if_neg (by rw [e1]; decide)
      rw [e1, e2, e3]
      refine (sayS_full g word (by omega) hl h40).mono ?_
      rintro x w' ⟨rfl, rfl⟩
      exact ⟨_, rfl, ⟨mb, rfl, g⟩, Below.refl _ _, kp2_refl _ _ _, NewL.refl _ _⟩
    · have e1 : sayC said free word = 0 := by unfold sayC; rw [if_neg hb, if_neg h40]
      have e2 : sayN said free word = (said.length : Int) + 1 := if_pos e1
      have e3 : sayL said free word = said ++ [word] := if_pos e1
      rw [e1, e2, e3, errF_ok]
      refine (sayS_ok g word (by omega) hl hi.free (by omega)).mono ?_
      rintro x w' ⟨rfl, g', hb', hk⟩
      exact ⟨_, rfl, ⟨mb, rfl, g'⟩, hb', hk, NewL.refl _ _⟩
theorem askS_bad (g : SF w base P mb said free) (n : Int) (hl : said.length ≤ 1000) (hb : n < 1 ∨ (said.length : Int) < n) : Calls Tryd.prog 8 #[.pointer (some ⟨P, 0, none⟩), .int .i64 n] w fun x w' => x = .returned (.tuple #[.int .i64 0, errF 1]) ∧ w' = w := by
  rw [errF_no (by decide)]
  obtain ⟨c0, z0⟩ := g.c0
  obtain ⟨m, em⟩ : ∃ m, m = said.length := ⟨_, rfl⟩
  rw [← em] at c0 hb hl
  clear g em
  by_cases h1 : n < 1
  · clear hb
    go_enter Tryd.func8, Tryd.ntmps8
    go_wp2
    go_ret2
    exact ⟨rfl, rfl⟩
  · have h2 : (m : Int) < n := by omega
    clear hb
    go_enter Tryd.func8, Tryd.ntmps8
    go_wp2
    go_ret2
    exact ⟨rfl, rfl⟩
set_option maxRecDepth 100000 in
theorem askS_none (g : SF w base P mb said free) (n : Int) (hl : said.length ≤ 1000) (hn : 1 ≤ n ∧ n ≤ (said.length : Int)) (ho : kt said free n = none) : Calls Tryd.prog 8 #[.pointer (some ⟨P, 0, none⟩), .int .i64 n] w fun x w' => x = .returned (.tuple #[.int .i64 0, errF 5]) ∧ w' = w := by
  obtain ⟨c0, z0⟩ := g.c0
  obtain ⟨c1, z1⟩ := g.c1
  obtain ⟨m, em⟩ : ∃ m, m = said.length := ⟨_, rfl⟩
  rw [← em] at c0 hn hl
  have hlk : (Instr.lookup 52 (.map (some mb)) (.int .i64 n) true).run Tryd.prog w = .ok (.tuple #[.int .i64 0, .bool false]) w := by
    have q := g.map.look_ok (wfI (i := n) (by omega) (by omega)) w rfl
    rw [ho] at q
    exact q
  have h1 := hn.1
  have h2 := hn.2
  rw [errF_no (by decide)]
  clear g em hn ho
  go_enter Tryd.func8, Tryd.ntmps8
  go_wp2
  go_ret2
  exact ⟨rfl, rfl⟩
set_option maxRecDepth 100000 in
theorem askS_some (g : SF w base P mb said free) (n : Int) (hl : said.length ≤ 1000) (hn : 1 ≤ n ∧ n ≤ (said.length : Int)) (x : Int) (ho : kt said free n = some x) : Calls Tryd.prog 8 #[.pointer (some ⟨P, 0, none⟩), .int .i64 n] w fun y w' => y = .returned (.tuple #[.int .i64 x, .nilIface]) ∧ w' = w := by
  obtain ⟨c0, z0⟩ := g.c0
  obtain ⟨c1, z1⟩ := g.c1
  obtain ⟨m, em⟩ : ∃ m, m = said.length := ⟨_, rfl⟩
  rw [← em] at c0 hn hl
  have hlk : (Instr.lookup 52 (.map (some mb)) (.int .i64 n) true).run Tryd.prog w = .ok (.tuple #[.int .i64 x, .bool true]) w := by
    have q := g.map.look_ok (wfI (i := n) (by omega) (by omega)) w rfl
    rw [ho] at q
    exact q
  have h1 := hn.1
  have h2 := hn.2
  clear g em hn ho
  go_enter Tryd.func8, Tryd.ntmps8
  go_wp2
  go_ret2
  exact ⟨rfl, rfl⟩
theorem askS (base P : Nat) (said : List Int) (free : Nat) (fp : List Nat) (n : Int) (w : World) (g : SS w base P said free fp) (hi : SInv said free) (hl : said.length ≤ 1000) : Calls Tryd.prog 8 #[.pointer (some ⟨P, 0, none⟩), .int .i64 n] w fun x w' => x = .returned (.tuple #[.int .i64 (askW said free n), errF (askC said free n)]) ∧ Below w.heap.size w w' := by
  obtain ⟨mb, rfl, g⟩ := g
  by_cases hb : n < 1 ∨ (said.length : Int) < n
  · have e1 : askC said free n = 1 := if_pos hb
    have e2 : askW said free n = 0 := if_neg (by rw [e1]; decide)
    rw [e1, e2]
    refine (askS_bad g n hl hb).mono ?_
    rintro x w' ⟨rfl, rfl⟩
    exact ⟨rfl, Below.refl _ _⟩
  · by_cases hf : n ≤ (free : Int)
    · have e1 : askC said free n = 5 := by unfold askC; rw [if_neg hb, if_pos hf]
      have e2 : askW said free n = 0 := if_neg (by rw [e1]; decide)
      rw [e1, e2]
      refine (askS_none g n hl (by omega) (if_neg (by omega))).mono ?_
      rintro x w' ⟨rfl, rfl⟩
      exact ⟨rfl, Below.refl _ _⟩
    · have e1 : askC said free n = 0 := by unfold askC; rw [if_neg hb, if_neg hf]
      have e2 : askW said free n = said.getD (n.toNat - 1) 0 := if_pos e1
      rw [e1, e2]
      refine (askS_some g n hl (by omega) (said.getD (n.toNat - 1) 0) (if_pos (by omega))).mono ?_
      rintro x w' ⟨rfl, rfl⟩
      exact ⟨rfl, Below.refl _ _⟩

/-! Free -/
/-- is this number among those that go? -/
def upto (n : Int) (l : Lit) (_ : DataW Value) : Bool := match l with
  | .int .i64 v => decide (v ≤ n)
  | _ => false
theorem upto_key {n : Int} {l : Lit} {d : DataW Value} (h : upto n l d = true) : ∃ v, l = kl v ∧ v ≤ n := by
  unfold upto at h
  split at h
  · rename_i v
    exact ⟨v, rfl, by simpa using h⟩
  · cases h
theorem kl_key (v : Int) : WideAt.IsKeyLit (kl v) := trivial
theorem kt_free (said : List Int) (free : Nat) : kt said free ((free : Int) + 1) = if free < said.length then some (said.getD free 0) else none := by
  unfold kt
  by_cases h : free < said.length
  · rw [if_pos (by omega), if_pos h, show ((free : Int) + 1).toNat - 1 = free by omega]
  · rw [if_neg (by omega), if_neg h]
theorem kt_next (said : List Int) (free : Nat) (i : Int) : kt said (free + 1) i = delT (kt said free) ((free : Int) + 1) i := by
  unfold kt delT
  by_cases e : i = (free : Int) + 1
  · rw [if_pos e, if_neg (by omega)]
  · rw [if_neg e]
    show _ = if (free : Int) < i ∧ i ≤ (said.length : Int) then some (said.getD (i.toNat - 1) 0) else none
    by_cases q : (free : Int) < i ∧ i ≤ (said.length : Int)
    · rw [if_pos q, if_pos (by omega)]
    · rw [if_neg q, if_neg (by omega)]
theorem go1 {D : DataW Value} (h : MP D (kt said free) (said.length - free)) (hf : free < said.length) : MP (D.del (kl ((free : Int) + 1))) (kt said (free + 1)) (said.length - (free + 1)) := by
  refine ⟨h.tidy.del _, fun y => ?_, fun y z hy => ?_, ?_⟩
  · rw [kt_next]
    unfold delT
    by_cases e : y = (free : Int) + 1
    · rw [if_pos e, e]
      exact has_del_same ..
    · rw [if_neg e, has_del_other (fun q => e (kl_inj q)), h.has]
  · rw [kt_next] at hy
    unfold delT at hy
    by_cases e : y = (free : Int) + 1
    · rw [if_pos e] at hy; cases hy
    · rw [if_neg e] at hy
      intro z'
      rw [atKey_del_other (fun q => e (kl_inj q)), h.at_ y z hy]
  · have h1 := size_del (k := kl ((free : Int) + 1)) h.tidy
    rw [h.has, h.size, kt_free, if_pos hf] at h1
    simp at h1
    omega
/-- nothing goes where all are behind -/
theorem del_none {D : DataW Value} {c : Nat} (h : MP D (kt said free) c) (hk : ∃ es, D = .map es ∧ es.Pairwise (fun p q => p.1 ≠ q.1) ∧ ∀ p ∈ es, WideAt.IsKeyLit p.1) {n : Int} (hn : n ≤ (free : Int)) : Lib.deleteFuncD (upto n) D = D := by
  obtain ⟨es, rfl, _, hkey⟩ := hk
  show DataW.map (es.filter fun p => !upto n p.1 p.2) = DataW.map es
  congr 1
  refine List.filter_eq_self.2 fun p hp => ?_
  cases q : upto n p.1 p.2
  · rfl
  · obtain ⟨v, e, hv⟩ := upto_key q
    have h1 : Maps.has (DataW.map es) p.1 = true := List.any_eq_true.2 ⟨p, hp, WideAt.sameKey_self (hkey p hp)⟩
    rw [e, h.has] at h1
    unfold kt at h1
    rw [if_neg (by omega)] at h1
    cases h1
theorem upto_next (n : Int) (l : Lit) (d : DataW Value) : upto (n + 1) l d = (upto n l d || l.sameKey (kl (n + 1))) := by
  cases hs : l.sameKey (kl (n + 1))
  · rw [Bool.or_false]
    unfold upto
    split
    · rename_i v
      have : v ≠ n + 1 := fun e => by
        rw [e] at hs
        have q := WideAt.sameKey_self (kl_key (n + 1))
        unfold kl at q hs
        rw [q] at hs
        cases hs
      rw [decide_eq_decide]
      omega
    · rfl
  · rw [Bool.or_true, WideAt.sameKey_eq hs]
    unfold upto kl
    simp
theorem del_next (es : List (Lit × DataW Value)) (n : Int) : Lib.deleteFuncD (upto (n + 1)) (.map es) = (Lib.deleteFuncD (upto n) (.map es)).del (kl (n + 1)) := by
  show DataW.map (es.filter fun p => !upto (n + 1) p.1 p.2) = DataW.map ((es.filter fun p => !upto n p.1 p.2).filter fun p => !p.1.sameKey (kl (n + 1)))
  rw [List.filter_filter]
  congr 1
  refine List.filter_congr fun p _ => ?_
  rw [upto_next]
  cases upto n p.1 p.2 <;> simp
/-- all up to a number go -/
theorem del_upto {D : DataW Value} (h : MP D (kt said free) (said.length - free)) (hk : ∃ es, D = .map es ∧ es.Pairwise (fun p q => p.1 ≠ q.1) ∧ ∀ p ∈ es, WideAt.IsKeyLit p.1) (d : Nat) (hd : free + d ≤ said.length) : MP (Lib.deleteFuncD (upto ((free + d : Nat) : Int)) D) (kt said (free + d)) (said.length - (free + d)) := by
  induction d with
  | zero =>
    rw [del_none h hk (by omega)]
    exact h
  | succ d ih =>
    obtain ⟨es, rfl, _⟩ := hk
    have := go1 (ih (by omega)) (by omega)
    rw [show ((free + (d + 1) : Nat) : Int) = ((free + d : Nat) : Int) + 1 by omega, del_next]
    exact this
theorem freS_bad (g : SF w base P mb said free) (n : Int) (hl : said.length ≤ 1000) (hb : n < 0 ∨ (said.length : Int) < n) : Calls Tryd.prog 9 #[.pointer (some ⟨P, 0, none⟩), .int .i64 n] w fun x w' => x = .returned (errF 1) ∧ Below w.heap.size w w' := by
  rw [errF_no (by decide)]
  obtain ⟨m, em⟩ : ∃ m, m = said.length := ⟨_, rfl⟩
  have B1 : Hid (Below w.heap.size w (w.alloc (.cells #[.int .i64 n] 3))) := (Below.refl _ _).alloc (Nat.le_refl _) _
  obtain ⟨W, eW⟩ : ∃ W, W = w.alloc (.cells #[.int .i64 n] 3) := ⟨_, rfl⟩
  have g1 : SF W base P mb said free := by rw [eW]; exact g.later B1.out
  have c0 := g1.c0.1
  have b0 : W.cell? ⟨w.heap.size, 0, none⟩ = some (.int .i64 n) := by rw [eW]; go_cell
  rw [← em] at c0 hb hl
  clear g g1 em
  by_cases h1 : n < 0
  · have d1 : decide (n < 0) = true := by simp [h1]
    clear hb
    go_enter Tryd.func9, Tryd.ntmps9
    go_wp2_with fail
    rw [← eW]
    have EW : Hid (W = w.alloc (.cells #[.int .i64 n] 3)) := eW
    clear eW
    go_quiet (fail)
    go_wp2
    go_ret
    exact ⟨rfl, by rw [EW.out]; exact drewsF B1.out _⟩
  · have d1 : decide (n < 0) = false := by simp; omega
    have d2 : decide (n > (m : Int)) = true := by simp; omega
    have d3 : (m : Int) < n := by omega
    clear hb
    go_enter Tryd.func9, Tryd.ntmps9
    go_wp2_with fail
    rw [← eW]
    have EW : Hid (W = w.alloc (.cells #[.int .i64 n] 3)) := eW
    clear eW
    go_quiet (fail)
    go_wp2
    go_ret
    exact ⟨rfl, by rw [EW.out]; exact drewsF B1.out _⟩
set_option maxRecDepth 100000 in
/-- the closure: is it among those that go? -/
theorem gone_any (key n : Int) (val : Value) (bx : Nat) (W : World) (hx : W.cell? ⟨bx, 0, none⟩ = some (.int .i64 n)) : Calls Tryd.prog 17 (#[.int .i64 key, val] ++ #[.pointer (some ⟨bx, 0, none⟩)]) W fun e w' => e = .returned (.bool (decide (key ≤ n))) ∧ w' = W := by
  show Calls Tryd.prog 17 #[.int .i64 key, val, .pointer (some ⟨bx, 0, none⟩)] W _
  go_enter Tryd.func17, Tryd.ntmps17
  go_wp2
  go_ret
  exact ⟨rfl, rfl⟩
theorem del_call {D : DataW Value} (m bx : Nat) (n : Int) (W : World) (hown : W.ownsMap Tryd.prog 3 MapI.RV mb m D) (hx : W.cell? ⟨bx, 0, none⟩ = some (.int .i64 n)) (hne : bx ≠ mb) : Calls Tryd.prog 16 #[.map (some mb), .func (.func 17) #[] #[.pointer (some ⟨bx, 0, none⟩)]] W fun e w' => e = .returned (.tuple #[]) ∧ w'.ownsMap Tryd.prog 3 MapI.RV mb m (Lib.deleteFuncD (upto n) D) ∧ W.grownBy w' (some mb) := by
  have eg : ∀ args w, (callFunc 17 args).run Tryd.prog w = .ok (.enter 17 args) w := enters_of Tryd.func17 (by kernel_rfl) rfl
  exact AnyDf.maps_DeleteFunc Tryd.delL MapI.law MapI.RV (upto n) 17 #[.pointer (some ⟨bx, 0, none⟩)] mb m D W eg hown (fun W' key val l yd yp hgW hkey _ => by
    obtain ⟨x, rfl, rfl, _⟩ := Maps.keyOf_int_inv Tryd.underlying3 hkey
    exact (gone_any x n val bx W' (hgW.cell hx (fun e => hne (Option.some.inj e)))).mono fun _ _ ⟨he, hw⟩ => ⟨he, hw ▸ World.grownBy.refl _ _⟩)
set_option maxRecDepth 100000 in
theorem freS_ok (g : SF w base P mb said free) (n : Int) (hl : said.length ≤ 1000) (hf : free ≤ said.length) (hbw : base ≤ w.heap.size) (h0 : 0 ≤ n) (h1 : n ≤ (said.length : Int)) (f' : Nat) (ef : f' = freN said free n) : Calls Tryd.prog 9 #[.pointer (some ⟨P, 0, none⟩), .int .i64 n] w fun x w' => x = .returned .nilIface ∧ SF w' base P mb said f' ∧ Below base w w' ∧ KpL w w' [P, mb] := by
  obtain ⟨m, em⟩ : ∃ m, m = said.length := ⟨_, rfl⟩
  have B1 : Hid (Below w.heap.size w (w.alloc (.cells #[.int .i64 n] 3))) := (Below.refl _ _).alloc (Nat.le_refl _) _
  obtain ⟨W, eW⟩ : ∃ W, W = w.alloc (.cells #[.int .i64 n] 3) := ⟨_, rfl⟩
  have g1 : SF W base P mb said free := by rw [eW]; exact g.later B1.out
  have c0 := g1.c0.1
  have c1 := g1.c1.1
  have b0 : W.cell? ⟨w.heap.size, 0, none⟩ = some (.int .i64 n) := by rw [eW]; go_cell
  obtain ⟨D, hown, hMP⟩ := g1.map
  have hP : MP (Lib.deleteFuncD (upto n) D) (kt said f') (said.length - f') := by
    have hk := hown.entries MapI.law
    have e0 : freC said n = 0 := if_neg (by omega)
    by_cases q : (free : Int) < n
    · have e : f' = n.toNat := by rw [ef]; exact if_pos ⟨e0, q⟩
      rw [e]
      have := del_upto hMP hk (n.toNat - free) (by omega)
      rw [show free + (n.toNat - free) = n.toNat by omega, show ((n.toNat : Nat) : Int) = n by omega] at this
      exact this
    · have e : f' = free := by rw [ef]; exact if_neg (fun e => q e.2)
      rw [e, del_none hMP hk (by omega)]
      exact hMP
  have HC : Hid (W.ownsMap Tryd.prog 3 MapI.RV mb (Maps.size D) D ∧ w.heap.size ≠ mb ∧ W.cell? ⟨w.heap.size, 0, none⟩ = some (.int .i64 n)) := ⟨hown, Nat.ne_of_gt g.lt.2, b0⟩
  have HP : Hid (MP (Lib.deleteFuncD (upto n) D) (kt said f') (said.length - f')) := hP
  have HG : Hid (SF w base P mb said free ∧ base ≤ w.heap.size ∧ SF W base P mb said free) := ⟨g, hbw, g1⟩
  rw [← em] at c0 h1 hl
  have d1 : decide (n < 0) = false := by simp; omega
  have d2 : decide (n > (m : Int)) = false := by simp; omega
  have d3 : ¬ (m : Int) < n := by omega
  have EM : Hid (m = said.length) := em
  clear g g1 em hown hMP hP ef hf hbw
  go_enter Tryd.func9, Tryd.ntmps9
  go_wp2_with fail
  rw [← eW]
  have EW : Hid (W = w.alloc (.cells #[.int .i64 n] 3)) := eW
  clear eW
  go_quiet (fail)
  have HC2 : Hid ((W.drewN nq).ownsMap Tryd.prog 3 MapI.RV mb (Maps.size D) D) := MapI.own_heap HC.out.1 rfl
  go_wp2_with fail
  refine (del_call (Maps.size D) w.heap.size n (W.drewN nq) HC2.out HC.out.2.2 HC.out.2.1).mono ?_
  rintro e w2 ⟨rfl, ho, hg⟩
  have R2 : Hid _ := And.intro ho hg
  clear ho hg
  go_wp2
  go_ret
  have hW := HG.out.2.2
  have b1 : Below base w (W.drewN nq) := by
    rw [EW.out]
    exact drewsF (B1.out.mono HG.out.2.1) _
  have hsz : w.heap.size ≤ W.heap.size := by rw [EW.out]; simp
  refine ⟨rfl, ⟨World.rowIs.of_block hW.row (R2.out.2.block P hW.lt.1 (fun e => hW.ne (Option.some.inj e))), ⟨_, MapI.own_norm R2.out.1, HP.out⟩, hW.low⟩, b1.grown R2.out.2 (Nat.le_trans HG.out.2.1 hsz) (fun k e => by cases e; exact hW.low.2), Nat.le_trans hsz R2.out.2.size, fun b hb hn => ?_⟩
  have hne : some b ≠ some mb := fun e => hn (by simp [Option.some.inj e])
  refine (R2.out.2.block b (Nat.lt_of_lt_of_le hb hsz) hne).trans ?_
  show W.heap[b]? = _
  rw [EW.out]
  exact B1.out.block b hb
theorem freeS (base P : Nat) (said : List Int) (free : Nat) (fp : List Nat) (n : Int) (w : World) (g : SS w base P said free fp) (hi : SInv said free) (hl : said.length ≤ 1000) (hbw : base ≤ w.heap.size) : Calls Tryd.prog 9 #[.pointer (some ⟨P, 0, none⟩), .int .i64 n] w fun x w' => ∃ fp', x = .returned (errF (freC said n)) ∧ SS w' base P said (freN said free n) fp' ∧ Below base w w' ∧ KpL w w' fp ∧ NewL w fp fp' := by
  obtain ⟨mb, rfl, g⟩ := g
  by_cases hb : n < 0 ∨ (said.length : Int) < n
  · have e1 : freC said n = 1 := if_pos hb
    have e2 : freN said free n = free := if_neg (fun q => by rw [e1] at q; exact absurd q.1 (by decide))
    rw [e1, e2]
    refine (freS_bad g n hl hb).mono ?_
    rintro x w' ⟨rfl, hb'⟩
    exact ⟨_, rfl, ⟨mb, rfl, g.later hb'⟩, hb'.mono hbw, KpL.below hb' _, NewL.refl _ _⟩
  · have e1 : freC said n = 0 := if_neg hb
    rw [e1, errF_ok]
    refine (freS_ok g n hl hi.free hbw (by omega) (by omega) _ rfl).mono ?_
    rintro x w' ⟨rfl, g', hb', hk⟩
    exact ⟨_, rfl, ⟨mb, rfl, g'⟩, hb', hk, NewL.refl _ _⟩
end Go.Proofs.YtdhlfbpflngmbafDoor.Aga
