/-
  Contracts of package picture's New and Sum.
-/
import Derived.Test.YtgcdbcljneoifajDoorPicH
import Derived.Maps.RangeWalk
namespace Go.Proofs.YtgcdbcljneoifajDoor.Pic
open Go.RowKit Go.Maps
open Go.Proofs.YtgcdbcljneoifajDoor.Fif (own_lt own_block own_form own_mono own_vw ret_bool info_int new_int int_one)
open Go.Proofs.YtgcdbcljneoifajDoor.Vec (Vw)
open Go.Proofs.YtgcdbcljneoifajDoor.Sep (KpL NewL)
open Go.Proofs.YtgcdbcljneoifajDoor.Ldr (errF errF_ok errF_no Sl)
open Go.Proofs.YtgcdbcljneoifajDoor.Off (OR)
open Go.Proofs.YtgcdbcljneoifajDoor.MapV (RV kl strike strike_new strike_old strike_self kl_key ranges_blocks next_cases wfI)
set_option linter.unusedVariables false
variable {w w' : World} {base P bG cG mO mW mS : Nat} {rv : Nat → Value} {g : G}

/-! New -/
def offG (x : Int) : Bool := decide (x < 0) || decide (1000 < x)
theorem newC_any (l : List Int) (h : ¬ (l.length < 2 ∨ 5 < l.length)) : newC l = if l.any offG = true then 1 else 0 := by
  unfold newC
  rw [if_neg h]
  by_cases q : ∀ x ∈ l, 0 ≤ x ∧ x ≤ 1000
  · rw [if_pos q, if_neg]
    intro z
    obtain ⟨x, hx, hz⟩ := List.any_eq_true.1 z
    have := q x hx
    unfold offG at hz
    simp at hz
    omega
  · rw [if_neg q, if_pos]
    obtain ⟨x, hx⟩ := Classical.not_forall.1 q
    obtain ⟨hx, hz⟩ := Classical.not_imp.1 hx
    refine List.any_eq_true.2 ⟨x, hx, ?_⟩
    unfold offG
    simp
    omega
theorem gone1 (x : Int) (w : World) : Calls Tryd.prog 19 #[.int .i64 x] w fun e w' => e = .returned (.bool (offG x)) ∧ w' = w := by
  by_cases h1 : x < 0
  · go_enter Tryd.func19, Tryd.ntmps19
    go_wp2
    go_ret
    exact ⟨ret_bool (by simp [offG]; omega), rfl⟩
  · go_enter Tryd.func19, Tryd.ntmps19
    go_wp2
    go_ret
    exact ⟨ret_bool (by rw [Bool.eq_iff_iff]; simp [offG]; omega), rfl⟩
theorem goneIdx (p : Option Addr) (n pcap : Nat) (xs : List Int) (w : World) (hm : n ≤ 1000) (hx : Vw w p n xs) :
    Calls Tryd.prog 29 #[.slice p n pcap, .func (.func 19) #[] #[]] w fun e w' => (∃ z : Int, e = .returned (.int .i64 z) ∧ (xs.any offG = decide (0 ≤ z))) ∧ w' = w := by
  have HX : Hid (Vw w p n xs) := hx
  clear hx
  go_enter Tryd.func29, Tryd.ntmps29
  go_wp2
  go_loopw [8] (fun i wr => ∃ k : Nat, k ≤ n ∧ i = .int .i64 k ∧ wr = w ∧ Hid (∀ j, j < k → offG (xs.getD j 0) = false)) (fun i _ => n - (intOf i).toNat)
  case atStart => exact ⟨0, by omega, rfl, rfl, fun j hj => absurd hj (by omega)⟩
  case round =>
    obtain ⟨k, hk, rfl, rfl, hp⟩ := hrel
    by_cases hlt : k < n
    · obtain ⟨b, off, rfl, hpb, hcs⟩ := HX.out.2 (by omega)
      have c0 := hcs k hlt
      obtain ⟨x, ex⟩ : ∃ x, x = xs.getD k 0 := ⟨_, rfl⟩
      rw [← ex] at c0
      have EX : Hid (x = xs.getD k 0) := ex
      clear hcs ex hpb
      have hk0 : (0 : Int) ≤ (k : Int) := by omega
      have hkl : (k : Int) < (n : Int) := by omega
      cases hb : offG x
      · go_wp2_with (go_at_call 19; refine (gone1 x _).mono ?_; rintro e w' ⟨rfl, rfl⟩; rw [hb])
        go_roundw
        case rel => exact ⟨k + 1, by omega, by go_num, by first | rfl | trivial, fun j hj => if e : j < k then hp.out j e else by rw [show j = k by omega, ← EX.out]; exact hb⟩
        case measure => simp [intOf]; omega
      · go_wp2_with (go_at_call 19; refine (gone1 x _).mono ?_; rintro e w' ⟨rfl, rfl⟩; rw [hb])
        go_ret
        refine ⟨⟨(k : Int), rfl, ?_⟩, rfl⟩
        rw [decide_eq_true (by omega)]
        refine List.any_eq_true.2 ⟨xs[k]'(by rw [HX.out.1]; exact hlt), List.getElem_mem _, ?_⟩
        have e : xs.getD k 0 = xs[k]'(by rw [HX.out.1]; exact hlt) := by simp [List.getD, HX.out.1, hlt]
        rw [← e, ← EX.out]
        exact hb
    · go_wp2
      go_ret
      refine ⟨⟨-1, rfl, ?_⟩, rfl⟩
      rw [decide_eq_false (by omega), List.any_eq_false]
      intro y hy
      obtain ⟨j, hj, rfl⟩ := List.getElem_of_mem hy
      have := hp.out j (by have := HX.out.1; omega)
      simpa [List.getD, hj] using this
theorem goneAny (p : Option Addr) (n pcap : Nat) (xs : List Int) (w : World) (hm : n ≤ 1000) (hx : Vw w p n xs) :
    Calls Tryd.prog 18 #[.slice p n pcap, .func (.func 19) #[] #[]] w fun e w' => e = .returned (.bool (xs.any offG)) ∧ w' = w := by
  go_enter Tryd.func18, Tryd.ntmps18
  go_wp2_with fail
  refine (goneIdx p n pcap xs _ hm hx).mono ?_
  rintro e w1 ⟨⟨z, rfl, hz⟩, rfl⟩
  have HZ : Hid (xs.any offG = decide (0 ≤ z)) := hz
  clear hx hz
  go_wp2
  go_ret
  exact ⟨ret_bool HZ.out.symm, rfl⟩
theorem sl_n {w : World} {q : Option Addr} {k c : Nat} {l : List Int} (h : Sl w (.slice q k c) l) : k = l.length ∧ Vw w q k l := by
  obtain ⟨a', c', e, h1, h2, hv⟩ := h
  injection e with e1 e2 e3
  subst e1 e2
  exact ⟨rfl, hv⟩
set_option maxRecDepth 100000 in
theorem newG_no (l : List Int) (q : Option Addr) (k c : Nat) (w : World) (hs : Sl w (.slice q k c) l) (hc : newC l ≠ 0) : Calls Tryd.prog 4 #[.slice q k c] w fun x w' => x = .returned (.tuple #[.pointer none, errF 1]) ∧ Below w.heap.size w w' := by
  obtain ⟨ek, hv⟩ := sl_n hs
  rw [errF_no (by decide)]
  by_cases h2 : (k : Int) < 2
  · clear hs hc hv ek
    go_enter Tryd.func4, Tryd.ntmps4
    go_wp2
    go_ret2
    exact ⟨rfl, Below.refl _ _⟩
  · by_cases h5 : (k : Int) > 5
    · clear hs hc hv ek
      go_enter Tryd.func4, Tryd.ntmps4
      go_wp2
      go_ret2
      exact ⟨rfl, Below.refl _ _⟩
    · have ha : l.any offG = true := by
        rw [newC_any l (by omega)] at hc
        by_cases z : l.any offG = true
        · exact z
        · rw [if_neg z] at hc; exact absurd rfl hc
      have HA : Hid (l.any offG = true ∧ Vw w q k l ∧ k ≤ 1000) := ⟨ha, hv, by omega⟩
      clear hs hc hv ek ha
      go_enter Tryd.func4, Tryd.ntmps4
      go_wp2_with fail
      refine (goneAny q k c l w HA.out.2.2 HA.out.2.1).mono ?_
      rintro e w ⟨rfl, rfl⟩
      rw [HA.out.1]
      go_wp2
      go_ret2
      exact ⟨rfl, Below.refl _ _⟩
/-- made anew -/
theorem GP.made {w0 w1 : World} {l : List Int} {v : Value} (hb : Below w0.heap.size w0 w1) (ho : OwC w1 w0.heap.size v l) (h2 : 2 ≤ l.length ∧ l.length ≤ 5) : ∃ bG cG, v = .slice (some ⟨bG, 0, none⟩) l.length cG ∧ GP ((((w1.alloc (.map #[] 0)).alloc (.map #[] 0)).alloc (.map #[] 0)).alloc (.cells #[v, .map (some w1.heap.size), .map (some (w1.heap.size + 1)), .map (some (w1.heap.size + 1 + 1)), .int .i64 0] 66)) w0.heap.size (w1.heap.size + 1 + 1 + 1) bG cG w1.heap.size (w1.heap.size + 1) (w1.heap.size + 1 + 1) (fun _ => nilP) (start l) ∧ Below w0.heap.size w0 ((((w1.alloc (.map #[] 0)).alloc (.map #[] 0)).alloc (.map #[] 0)).alloc (.cells #[v, .map (some w1.heap.size), .map (some (w1.heap.size + 1)), .map (some (w1.heap.size + 1 + 1)), .int .i64 0] 66)) := by
  obtain ⟨W1, e1⟩ : ∃ W1, W1 = w1.alloc (.map #[] 0) := ⟨_, rfl⟩
  obtain ⟨W2, e2⟩ : ∃ W2, W2 = W1.alloc (.map #[] 0) := ⟨_, rfl⟩
  obtain ⟨W3, e3⟩ : ∃ W3, W3 = W2.alloc (.map #[] 0) := ⟨_, rfl⟩
  rw [← e1, ← e2, ← e3]
  have b1 : Below w1.heap.size w1 W1 := by rw [e1]; exact (Below.refl _ _).alloc (Nat.le_refl _) _
  have b2 : Below W1.heap.size W1 W2 := by rw [e2]; exact (Below.refl _ _).alloc (Nat.le_refl _) _
  have b3 : Below W2.heap.size W2 W3 := by rw [e3]; exact (Below.refl _ _).alloc (Nat.le_refl _) _
  have s1 : W1.heap.size = w1.heap.size + 1 := by rw [e1]; simp
  have s2 : W2.heap.size = w1.heap.size + 1 + 1 := by rw [e2]; simp [s1]
  have s3 : W3.heap.size = w1.heap.size + 1 + 1 + 1 := by rw [e3]; simp [s2]
  have m1 : MapW.MM W1 w1.heap.size (fun _ _ => none) 0 := by rw [e1]; exact MapW.MM.made w1
  have m2 : MapV.MM W2 (w1.heap.size + 1) (fun _ => none) 0 := by rw [e2, ← s1]; exact MapV.MM.made W1
  have m3 : MapW.MM W3 (w1.heap.size + 1 + 1) (fun _ _ => none) 0 := by rw [e3, ← s2]; exact MapW.MM.made W2
  obtain ⟨W4, e4⟩ : ∃ W4, W4 = W3.alloc (.cells #[v, .map (some w1.heap.size), .map (some (w1.heap.size + 1)), .map (some (w1.heap.size + 1 + 1)), .int .i64 0] 66) := ⟨_, rfl⟩
  have b4 : Below W3.heap.size W3 W4 := by rw [e4]; exact (Below.refl _ _).alloc (Nat.le_refl _) _
  have r4 := World.rowIs_alloc W3 #[v, .map (some w1.heap.size), .map (some (w1.heap.size + 1)), .map (some (w1.heap.size + 1 + 1)), .int .i64 0] 66 (gvP v w1.heap.size (w1.heap.size + 1) (w1.heap.size + 1 + 1) 0) (fun i hi => by rcases i with _ | _ | _ | _ | _ | i <;> first | rfl | (exfalso; have : _ < 5 := hi; omega))
  rw [← e4, s3] at r4
  rw [← e4]
  have b01 : Below w1.heap.size w1 W4 := ((b1.trans (b2.mono (by omega))).trans (b3.mono (by omega))).trans (b4.mono (by omega))
  have hsz := hb.size
  rcases ho.2 with ⟨-, e⟩ | ⟨bG, cG, cur, ev, hbG, hh, hn, hcm, hsc, hpre⟩
  · omega
  · rw [Nat.mul_one] at hsc hpre
    subst ev
    have hlG : bG < w1.heap.size := (Array.getElem?_eq_some_iff.1 hh).1
    refine ⟨bG, cG, rfl, ?_, hb.trans (b01.mono hsz)⟩
    have hgold : W4.rowIs bG 3 cG (fun j => if j < l.length then .int .i64 (l.getD j 0) else cur.getD j .nilIface) := by
      refine ⟨cur, by rw [b01.block bG hlG]; exact hh, hsc, fun i hi => ?_⟩
      dsimp only
      by_cases e : i < l.length
      · rw [if_pos e]
        have z : (cur.toList.take l.length)[i]? = (l.map (Value.int .i64))[i]? := by rw [hpre]
        rw [List.getElem?_take_of_lt e, Array.getElem?_toList] at z
        rw [z, List.getElem?_map, List.getElem?_eq_getElem e, getDC e]
        rfl
      · rw [if_neg e]
        simp [Array.getD, hsc, hi]
    exact
    { row := r4
      gold := ⟨_, hgold⟩
      room := ⟨hn, hcm, h2.2⟩
      ways := fun k _ => OR.nil _ _
      sep := fun k k' _ _ _ b q => by cases q
      gsep := fun k _ q => by cases q
      onw := MapW.MM.congr (m1.of_block (((b4.block _ (by omega)).trans (b3.block _ (by omega))).trans (b2.block _ (by omega)))) (fun a b => if_neg (by rintro ⟨_, q⟩; cases q)) (cn2_zero.2 fun _ _ _ _ => rfl)
      wrt := MapV.MM.congr (m2.of_block ((b4.block _ (by omega)).trans (b3.block _ (by omega)))) (fun a => if_neg (by rintro ⟨_, q⟩; cases q)) (cnK_zero.2 fun _ _ => rfl)
      snc := MapW.MM.congr (m3.of_block (b4.block _ (by omega))) (fun a b => if_neg (by rintro ⟨_, q⟩; cases q)) (cn2_zero.2 fun _ _ _ _ => rfl)
      nil := fun _ _ _ => rfl
      low := ⟨by omega, hbG, by omega, by omega, by omega⟩
      ne := ⟨by omega, by omega, by omega⟩ }
theorem sum_start (l : List Int) (hc : newC l = 0) (h5 : l.length ≤ 5) : sumG0 (start l) ≤ 5000 := by
  have hle : ∀ i, i < l.length → (start l).gold i ≤ 1000 := by
    intro i hi
    have e : l.getD i 0 = l[i] := by simp [List.getD, hi]
    show l.getD i 0 ≤ 1000
    rw [e]
    exact ((len_start l hc).2 _ (List.getElem_mem hi)).2
  have h0 : S2 (fun i j => tot ((start l).way i j)) (start l).n = 0 := S2_none fun _ _ _ _ => rfl
  have h1 : ∀ n, n ≤ l.length → S (start l).gold n ≤ 1000 * (n : Int) := by
    intro n
    induction n with
    | zero => intro _; exact Int.le_refl _
    | succ n ih =>
      intro hn
      have a1 := ih (by omega)
      have a2 := hle n (by omega)
      show S (start l).gold n + (start l).gold n ≤ _
      omega
  unfold sumG0
  rw [h0]
  have := h1 l.length (Nat.le_refl _)
  show S (start l).gold l.length + 0 ≤ 5000
  omega
set_option maxRecDepth 100000 in
set_option maxHeartbeats 1000000 in
theorem newG_ok (l : List Int) (q : Option Addr) (k c : Nat) (w : World) (hs : Sl w (.slice q k c) l) (hc : newC l = 0) : Calls Tryd.prog 4 #[.slice q k c] w fun x w' => ∃ P fp, x = .returned (.tuple #[.pointer (some ⟨P, 0, none⟩), .nilIface]) ∧ TS w' w.heap.size P (start l) fp ∧ Below w.heap.size w w' := by
  obtain ⟨ek, hv⟩ := sl_n hs
  have h25 := (len_start l hc).1
  have d1 : ¬ (k : Int) < 2 := by omega
  have d2 : ¬ (k : Int) > 5 := by omega
  have ha : l.any offG = false := by
    rw [newC_any l (by omega)] at hc
    cases z : l.any offG
    · rfl
    · rw [z] at hc; simp at hc
  have hmk : ∀ W : World, (Instr.makeMap 62 none).run Tryd.prog W = .ok (.map (some W.heap.size)) (W.alloc (.map #[] 0)) := fun _ => rfl
  have hmk2 : ∀ W : World, (Instr.makeMap 63 none).run Tryd.prog W = .ok (.map (some W.heap.size)) (W.alloc (.map #[] 0)) := fun _ => rfl
  have hmk3 : ∀ W : World, (Instr.makeMap 64 none).run Tryd.prog W = .ok (.map (some W.heap.size)) (W.alloc (.map #[] 0)) := fun _ => rfl
  have HA : Hid (l.any offG = false ∧ Vw w q k l ∧ k ≤ 1000 ∧ Sl w (.slice q k c) l ∧ 2 ≤ l.length ∧ l.length ≤ 5 ∧ newC l = 0) := ⟨ha, hv, by omega, hs, by omega, by omega, hc⟩
  clear hs hc hv ek ha h25
  go_enter Tryd.func4, Tryd.ntmps4
  go_wp2_with fail
  refine (goneAny q k c l w HA.out.2.2.1 HA.out.2.1).mono ?_
  rintro e w ⟨rfl, rfl⟩
  rw [HA.out.1]
  go_wp2_with fail
  refine (cloneC (.slice q k c) l w HA.out.2.2.2.1 (by have := HA.out.2.2.2.2.1; omega) (by have := HA.out.2.2.2.2.2.1; omega)).mono ?_
  rintro e w1 ⟨v, rfl, ho, hb⟩
  obtain ⟨bG, cG, ev, hG, hB⟩ := GP.made hb ho ⟨HA.out.2.2.2.2.1, HA.out.2.2.2.2.2.1⟩
  subst ev
  have HM : Hid (_ ∧ _) := ⟨hG, hB⟩
  clear ho hb hG hB
  go_wp2
  go_ret2
  obtain ⟨hG, hB⟩ := HM.out
  exact ⟨_, _, rfl, ⟨bG, cG, _, _, _, _, rfl, hG, Rg.start l, sum_start l HA.out.2.2.2.2.2.2 HA.out.2.2.2.2.2.1⟩, hB⟩
end Go.Proofs.YtgcdbcljneoifajDoor.Pic
