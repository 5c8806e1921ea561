/-
  Plain facts on slices of numbers that the call owns.
-/
import Derived.Test.YtpjoaogiaacikakDoorHisC
import Derived.Test.YtpjoaogiaacikakDoorVecC
import Derived.Deep.AppendLies
namespace Go.Proofs.YtpjoaogiaacikakDoor.His
open Go.RowKit
open Go.Proofs.YtpjoaogiaacikakDoor.Vec

theorem own_vw {w : World} {base n : Nat} {t : TypeId} {v : Value} {xs : List Int} (h : w.ownsRow base t 1 v n (xs.map (Value.int .i64))) : ∃ a cap, v = .slice a n cap ∧ Vw w a n xs := by
  obtain ⟨h1, h2⟩ := h
  have hl : xs.length = n := by simpa using h1
  rcases h2 with ⟨h2, rfl⟩ | ⟨g, cap, cur, hv, _, hh, _, _, hsz, ht⟩
  · exact ⟨none, 0, h2, hl, fun q => absurd q (by omega)⟩
  · refine ⟨_, cap, hv, hl, fun _ => ⟨g, 0, rfl, ?_, fun k hk => ?_⟩⟩
    · rcases Nat.lt_or_ge g w.heap.size with hlt | hge
      · exact hlt
      · rw [Array.getElem?_eq_none hge] at hh; cases hh
    · rw [Nat.zero_add, World.cell?, hh]
      have : (cur.toList.take (n * 1))[k]? = (xs.map (Value.int .i64))[k]? := by rw [ht]
      rw [Nat.mul_one, List.getElem?_take_of_lt hk, List.getElem?_map] at this
      have hx : k < xs.length := by omega
      simp only [Option.isSome_none, Bool.false_eq_true, if_false]
      rw [← Array.getElem?_toList, this]
      simp [hx, List.getD]

theorem Vw.one (w : World) (x : Int) (t : TypeId) : Vw (w.alloc (.cells #[.int .i64 x] t)) (some ⟨w.heap.size, 0, none⟩) 1 [x] := by
  refine ⟨rfl, fun _ => ⟨_, _, rfl, by simp, fun k hk => ?_⟩⟩
  rcases k with _ | k
  · simp
  · omega
theorem infoI : (Tryd.prog.info? 3).map (fun i => (i.zero, i.size, i.bytes)) = some (some (.int .i64 0), 1, 8) := by kernel_rfl
theorem info_int : ∃ i, Tryd.prog.info? 3 = some i ∧ i.zero = some (.int .i64 0) ∧ i.size = 1 ∧ i.bytes = 8 := by
  obtain ⟨i, hi, hzz⟩ := Option.map_eq_some_iff.1 infoI
  simp only [Prod.mk.injEq] at hzz
  exact ⟨i, hi, hzz.1, hzz.2.1, hzz.2.2⟩
theorem new_int (w : World) (B : Nat) (hB : B = w.heap.size) (x : Int) (t : TypeId) : ∀ j u, [Value.int .i64 x][j]? = some u → (w.alloc (.cells #[.int .i64 x] t)).cell? ((⟨B, 0, none⟩ : Addr).add j) = some u := by
  subst hB
  intro j u hj
  rw [Addr.add_lit, Nat.zero_add]
  rcases j with _ | j
  · simpa using hj
  · simp at hj
theorem int_one (x : Int) : ∀ u ∈ [Value.int .i64 x], u.oneCell' = true := by
  intro u hu
  obtain rfl := List.mem_singleton.1 hu
  rfl
theorem own_base {w : World} {base : Nat} {t : TypeId} {s : Nat} {v : Value} {n : Nat} {xs : List Value} (o : w.ownsRow base t s v n xs) : ∀ k, v.ownBlock = some k → base ≤ k := by
  intro k hk
  rcases o.2 with ⟨h2, _⟩ | ⟨g', cap', cur, hv, hbg, _⟩
  · rw [h2] at hk; cases hk
  · rw [hv] at hk
    have : g' = k := by simpa [Value.ownBlock] using hk
    omega
theorem own_later {w w' : World} {base : Nat} {t : TypeId} {s : Nat} {v : Value} {n : Nat} {xs : List Value} (o : w.ownsRow base t s v n xs) (hb : Below w.heap.size w w') : w'.ownsRow base t s v n xs := by
  obtain ⟨h1, h2⟩ := o
  refine ⟨h1, ?_⟩
  rcases h2 with h2 | ⟨g', cap', cur, hv, hbg, hh, hc, hm, hsz, ht⟩
  · exact .inl h2
  · refine .inr ⟨g', cap', cur, hv, hbg, ?_, hc, hm, hsz, ht⟩
    rw [hb.block g' ?_]
    · exact hh
    · rcases Nat.lt_or_ge g' w.heap.size with hlt | hge
      · exact hlt
      · rw [Array.getElem?_eq_none hge] at hh; cases hh
end Go.Proofs.YtpjoaogiaacikakDoor.His
