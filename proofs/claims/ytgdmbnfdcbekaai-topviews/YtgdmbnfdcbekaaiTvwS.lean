/-
  A row of views that the call owns, each seen, apart from the group.
-/
import Derived.Test.YtgdmbnfdcbekaaiTvwM
import Derived.Test.YtgdmbnfdcbekaaiFluO
import Derived.Deep.AppendLies
namespace Go.Proofs.Ytgdmbnfdcbekaai.Flu
open Go.RowKit
open Go.Proofs.Ytgdmbnfdcbekaai.Fif (ret_bool own_lt own_block own_form)
open Go.Proofs.Ytgdmbnfdcbekaai.Vec (Vw)
open Go.Proofs.Ytgdmbnfdcbekaai.Sep (KpL NewL)
open Go.Proofs.Ytgdmbnfdcbekaai.Ldr (errF errF_ok errF_no Sl)
open Go.Proofs.Ytgdmbnfdcbekaai.Viw (Vi vw Vs)
set_option linter.unusedVariables false

/-- a view of the row: its number, where its list lies, how long, with which room -/
abbrev Et := Int × Option Addr × Nat × Nat
def et (es : List Et) (k : Nat) : Et := es.getD k (0, none, 0, 0)
def flatT (es : List Et) : List Value := es.flatMap fun e => [.int .i64 e.1, .slice e.2.1 e.2.2.1 e.2.2.2]
theorem flatT_append (l m : List Et) : flatT (l ++ m) = flatT l ++ flatT m := by simp [flatT]
theorem flatT_one (l : List Et) : ∀ u ∈ flatT l, u.oneCell' = true := by
  intro u hu
  obtain ⟨e, _, he⟩ := List.mem_flatMap.1 hu
  simp at he
  rcases he with rfl | rfl <;> rfl
theorem flatT_get (l : List Et) : ∀ k, k < l.length → (flatT l)[k * 2]? = some (.int .i64 (et l k).1) ∧ (flatT l)[k * 2 + 1]? = some (.slice (et l k).2.1 (et l k).2.2.1 (et l k).2.2.2) := by
  induction l with
  | nil => intro k hk; simp at hk
  | cons e l ih =>
    intro k hk
    have e3 : flatT (e :: l) = .int .i64 e.1 :: .slice e.2.1 e.2.2.1 e.2.2.2 :: flatT l := rfl
    rw [e3]
    cases k with
    | zero => exact ⟨rfl, rfl⟩
    | succ k =>
      have := ih k (by simpa using hk)
      rw [show (k + 1) * 2 = k * 2 + 2 by omega]
      simpa [et] using this
theorem et_last {es : List Et} {x : Et} : et (es ++ [x]) es.length = x := by simp [et, List.getD]
theorem et_old {es : List Et} {x : Et} {k : Nat} (h : k < es.length) : et (es ++ [x]) k = et es k := by simp [et, List.getD, List.getElem?_append_left h]
theorem info_vt : ∃ i, Try.prog.info? 31 = some i ∧ i.zero = some (.agg #[.int .i64 0, .slice none 0 0]) ∧ i.size = 2 ∧ i.bytes = 32 := by
  have h : (Try.prog.info? 31).map (fun i => (i.zero, i.size, i.bytes)) = some (some (.agg #[.int .i64 0, .slice none 0 0]), 2, 32) := by kernel_rfl
  cases q : Try.prog.info? 31 with
  | none => rw [q] at h; cases h
  | some i =>
    rw [q] at h
    simp only [Option.map_some, Option.some.injEq, Prod.mk.injEq] at h
    exact ⟨i, rfl, h.1, h.2.1, h.2.2⟩
theorem sl_in {w : World} {q : Option Addr} {n c : Nat} {l : List Int} (h : Sl w (.slice q n c) l) {ad : Addr} (e : q = some ad) (hn : 0 < n) : ad.block < w.heap.size := by
  obtain ⟨_, hv, _, _⟩ := sl_vw h
  obtain ⟨b, off, e4, hlt, _⟩ := hv.2 hn
  rw [e4] at e
  cases e
  exact hlt
structure VL (w wr : World) (y : Value) (es : List Et) (l : List Vi) (fp : List Nat) : Prop where
  own : wr.ownsRow w.heap.size 31 2 y es.length (flatT es)
  len : es.length = l.length
  see : ∀ k, k < es.length → (et es k).1 = (vw l k).n ∧ Sl wr (.slice (et es k).2.1 (et es k).2.2.1 (et es k).2.2.2) (vw l k).has
  far : ∀ k, k < es.length → ∀ ad, (et es k).2.1 = some ad → 0 < (et es k).2.2.1 → ad.block ∉ fp ∧ y.ownBlock ≠ some ad.block
  apart : ∀ b, y.ownBlock = some b → b ∉ fp
variable {w wr w' : World} {y : Value} {es : List Et} {l : List Vi} {fp fp' : List Nat}
theorem VL.keep (h : VL w wr y es l fp) (hk : KpL wr w' fp) (hn : NewL wr fp fp') : VL w w' y es l fp' := by
  refine ⟨own_block h.own fun b hb => hk.2 b (own_lt h.own b hb).2 (h.apart b hb), h.len, fun k hk' => ⟨(h.see k hk').1, sl_block (h.see k hk').2 hk.1 fun ad e q => hk.2 _ (sl_in (h.see k hk').2 e q) (h.far k hk' ad e q).1⟩, fun k hk' ad e q => ⟨fun z => ?_, (h.far k hk' ad e q).2⟩, fun b hb z => ?_⟩
  · rcases hn _ z with a | a
    · exact (h.far k hk' ad e q).1 a
    · have := sl_in (h.see k hk').2 e q
      omega
  · rcases hn _ z with a | a
    · exact h.apart b hb a
    · have := (own_lt h.own b hb).2
      omega
theorem VL.later (h : VL w wr y es l fp) (hb : Below wr.heap.size wr w') : VL w w' y es l fp := h.keep (Sep.KpL.below hb fp) (Sep.NewL.refl _ _)
/-- all of them, as a slice that is seen -/
theorem VL.vs (h : VL w wr y es l fp) (hp : 0 < es.length) : ∃ a cap, y = .slice a es.length cap ∧ Vs wr a es.length l ∧ es.length ≤ cap ∧ cap ≤ maxLen := by
  rcases h.own.2 with ⟨h2, h3⟩ | ⟨g, cap, cur, hv, hb, hh, hc, hm, hsz, ht⟩
  · omega
  · refine ⟨_, cap, hv, ⟨h.len.symm, fun q => ⟨g, 0, rfl, (Array.getElem?_eq_some_iff.1 hh).1, fun k hk => ?_⟩⟩, hc, hm⟩
    obtain ⟨f0, f1⟩ := flatT_get es k hk
    have key : ∀ j u, j < es.length * 2 → (flatT es)[j]? = some u → wr.cell? ⟨g, j, none⟩ = some u := by
      intro j u hj hu
      rw [← ht, List.getElem?_take_of_lt hj] at hu
      simp only [World.cell?, hh]
      simpa using hu
    have hs := (h.see k hk).2
    have el := (sl_vw hs).1
    rw [Nat.zero_add]
    refine ⟨(et es k).2.1, (et es k).2.2.2, ?_, ?_, ?_⟩
    · rw [key _ _ (by omega) f0, (h.see k hk).1]
    · rw [key _ _ (by omega) f1, el]
    · rw [← el]
      exact hs
theorem new_vt {w w' : World} {e : Et} {t : TypeId} (h : w'.heap = w.heap.push (.cells #[.int .i64 e.1, .slice e.2.1 e.2.2.1 e.2.2.2] t)) : ∀ j u, (flatT [e])[j]? = some u → w'.cell? ((⟨w.heap.size, 0, none⟩ : Addr).add j) = some u := by
  have hb : w'.heap[w.heap.size]? = some (.cells #[.int .i64 e.1, .slice e.2.1 e.2.2.1 e.2.2.2] t) := by rw [h]; simp
  exact World.news_of_block hb
/-- the first one -/
theorem VL.first {x : Int} {q : Option Addr} {n c : Nat} {v : Vi} (hw : w.heap.size ≤ wr.heap.size) (hx : x = v.n) (hs : Sl wr (.slice q n c) v.has) (hq : ∀ ad, q = some ad → 0 < n → ad.block ∉ fp) (hf : ∀ b ∈ fp, b < wr.heap.size) : VL w (wr.alloc (.cells #[.int .i64 x, .slice q n c] 31)) (.slice (some ⟨wr.heap.size, 0, none⟩) 1 1) [(x, q, n, c)] [v] fp := by
  have ba := below_alu wr (.cells #[.int .i64 x, .slice q n c] 31)
  refine ⟨⟨rfl, .inr ⟨wr.heap.size, 1, #[.int .i64 x, .slice q n c], rfl, hw, ?_, Nat.le_refl _, by decide, rfl, rfl⟩⟩, rfl, fun k hk => ?_, fun k hk ad e hn => ?_, fun b hb z => ?_⟩
  · show (wr.heap.push _)[wr.heap.size]? = _
    simp
  · have e : k = 0 := by simpa using hk
    subst e
    exact ⟨hx, hs.later ba⟩
  · have e0 : k = 0 := by simpa using hk
    subst e0
    refine ⟨hq ad e hn, fun z => ?_⟩
    have z' : wr.heap.size = ad.block := by simpa [Value.ownBlock] using z
    have := sl_in hs e hn
    omega
  · have z' : wr.heap.size = b := by simpa [Value.ownBlock] using hb
    have := hf b z
    omega
/-- one more is put behind -/
theorem VL.push {w4 : World} {qy q : Option Addr} {ny cy g cap n c : Nat} {x : Int} {v : Vi} {ob : Obj} (h : VL w wr (.slice qy ny cy) es l fp) (ey : ny = es.length) (hx : x = v.n) (hs : Sl wr (.slice q n c) v.has) (hq : ∀ ad, q = some ad → 0 < n → ad.block ∉ fp ∧ (Value.slice qy ny cy).ownBlock ≠ some ad.block) (hf : ∀ b ∈ fp, b < wr.heap.size)
    (ho : w4.ownsRow w.heap.size 31 2 (.slice (some ⟨g, 0, none⟩) (ny + 1) cap) (ny + 1) (flatT es ++ flatT [(x, q, n, c)]))
    (hg : (wr.alloc ob).grownBy w4 (Value.slice qy ny cy).ownBlock) (hl : (Value.slice qy ny cy).ownBlock = some g ∨ g = wr.heap.size + 1) : VL w w4 (.slice (some ⟨g, 0, none⟩) (ny + 1) cap) (es ++ [(x, q, n, c)]) (l ++ [v]) fp ∧ (∀ b, b < wr.heap.size → (Value.slice qy ny cy).ownBlock ≠ some b → w4.heap[b]? = wr.heap[b]?) ∧ wr.heap.size ≤ w4.heap.size := by
  have hk : ∀ b, b < wr.heap.size → (Value.slice qy ny cy).ownBlock ≠ some b → w4.heap[b]? = wr.heap[b]? := fun b hb hne => (hg.block b (by simp; omega) (fun e => hne e.symm)).trans (Below.heap_alloc _ _ _ hb)
  have hsz : wr.heap.size ≤ w4.heap.size := by
    have := hg.size
    simp at this
    omega
  have el : (es ++ [(x, q, n, c)]).length = ny + 1 := by rw [List.length_append, ey]; rfl
  refine ⟨⟨?_, by rw [List.length_append, List.length_append, h.len]; rfl, fun k hk' => ?_, fun k hk' ad e hn => ?_, fun b hb z => ?_⟩, hk, hsz⟩
  · rw [el, flatT_append]
    exact ho
  · rw [el] at hk'
    by_cases z : k < es.length
    · rw [et_old z, vw_old (by rw [← h.len]; exact z)]
      exact ⟨(h.see k z).1, sl_block (h.see k z).2 hsz fun ad e hn => hk _ (sl_in (h.see k z).2 e hn) (h.far k z ad e hn).2⟩
    · have e : k = es.length := by omega
      rw [e, et_last, h.len, vw_last]
      exact ⟨hx, sl_block hs hsz fun ad e hn => hk _ (sl_in hs e hn) (hq ad e hn).2⟩
  · rw [el] at hk'
    have key : ∀ ad' : Addr, ad'.block < wr.heap.size → (Value.slice qy ny cy).ownBlock ≠ some ad'.block → (Value.slice (some ⟨g, 0, none⟩) (ny + 1) cap).ownBlock ≠ some ad'.block := by
      intro ad' h1 h2 z
      have z' : g = ad'.block := by simpa [Value.ownBlock] using z
      rcases hl with a | a
      · exact h2 (by rw [a, z'])
      · omega
    by_cases z : k < es.length
    · rw [et_old z] at e hn
      exact ⟨(h.far k z ad e hn).1, key ad (sl_in (h.see k z).2 e hn) (h.far k z ad e hn).2⟩
    · have e' : k = es.length := by omega
      rw [e', et_last] at e hn
      exact ⟨(hq ad e hn).1, key ad (sl_in hs e hn) (hq ad e hn).2⟩
  · have z' : g = b := by simpa [Value.ownBlock] using hb
    rcases hl with a | a
    · exact h.apart b (by rw [a, z']) z
    · have := hf b z
      omega
end Go.Proofs.Ytgdmbnfdcbekaai.Flu
