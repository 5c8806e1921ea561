/-
  Plain facts: words that one says, and that all hear in that order: such a history is right, fifo, causal and total.
-/
import Derived.Test.YtcccheeeagphpagMgH
namespace Go.Proofs.Ytcccheeeagphpag.His
set_option linter.unusedVariables false

def evs (who what : Int) (ws : List Int) : List Ev := ws.map fun x => (who, what, x)
theorem evs_len (who what : Int) (ws : List Int) : (evs who what ws).length = ws.length := by simp [evs]
/-- said by the last, then heard by three -/
def tH (ws : List Int) : List Ev := evs 4 2 ws ++ (evs 0 3 ws ++ (evs 1 3 ws ++ evs 2 3 ws))
theorem tH_len (ws : List Int) : (tH ws).length = 4 * ws.length := by
  unfold tH
  rw [List.length_append, List.length_append, List.length_append, evs_len, evs_len, evs_len, evs_len]
  omega
theorem evs_get {who what : Int} {ws : List Int} {i : Nat} (hi : i < ws.length) : (evs who what ws)[i]? = some (who, what, ws[i]) := by
  unfold evs
  rw [List.getElem?_map, List.getElem?_eq_getElem hi]
  rfl
theorem app_right {α : Type} {a b : List α} {n : Nat} (h : a.length ≤ n) : (a ++ b)[n]? = b[n - a.length]? := List.getElem?_append_right h
/-- which event stands where -/
theorem tH_ev {ws : List Int} {n : Nat} (hn : n < 4 * ws.length) : ∃ i, ∃ hi : i < ws.length, (n = i ∧ ev (tH ws) n = (4, 2, ws[i])) ∨ (∃ m : Nat, m < 3 ∧ n = (m + 1) * ws.length + i ∧ ev (tH ws) n = ((m : Int), 3, ws[i])) := by
  have key : ∀ {e : Ev}, (tH ws)[n]? = some e → ev (tH ws) n = e := fun {e} q => by
    show (tH ws).getD n _ = e
    rw [List.getD, q]
    rfl
  rcases Nat.lt_or_ge n ws.length with h1 | h1
  · refine ⟨n, h1, .inl ⟨rfl, key ?_⟩⟩
    unfold tH
    rw [List.getElem?_append_left (by rw [evs_len]; exact h1)]
    exact evs_get h1
  · rcases Nat.lt_or_ge n (2 * ws.length) with h2 | h2
    · refine ⟨n - ws.length, by omega, .inr ⟨0, by omega, by omega, key ?_⟩⟩
      unfold tH
      rw [app_right (by rw [evs_len]; exact h1), evs_len, List.getElem?_append_left (by rw [evs_len]; omega)]
      exact evs_get (by omega)
    · rcases Nat.lt_or_ge n (3 * ws.length) with h3 | h3
      · refine ⟨n - 2 * ws.length, by omega, .inr ⟨1, by omega, by omega, key ?_⟩⟩
        unfold tH
        rw [app_right (by rw [evs_len]; exact h1), evs_len, app_right (by rw [evs_len]; omega), evs_len, List.getElem?_append_left (by rw [evs_len]; omega), evs_get (show n - ws.length - ws.length < ws.length by omega)]
        have e : n - ws.length - ws.length = n - 2 * ws.length := by omega
        simp only [e]
        rfl
      · refine ⟨n - 3 * ws.length, by omega, .inr ⟨2, by omega, by omega, key ?_⟩⟩
        unfold tH
        rw [app_right (by rw [evs_len]; exact h1), evs_len, app_right (by rw [evs_len]; omega), evs_len, app_right (by rw [evs_len]; omega), evs_len, evs_get (show n - ws.length - ws.length - ws.length < ws.length by omega)]
        have e : n - ws.length - ws.length - ws.length = n - 3 * ws.length := by omega
        simp only [e]
        rfl
theorem nd_get {ws : List Int} (hd : ws.Nodup) {i j : Nat} (hi : i < ws.length) (hj : j < ws.length) (e : ws[i] = ws[j]) : i = j := (List.getElem_inj hd).1 e
theorem mem_take_tH {ws : List Int} {n : Nat} {x : Ev} (hn : n ≤ 4 * ws.length) (hx : x ∈ (tH ws).take n) : ∃ k, k < n ∧ ev (tH ws) k = x := by
  obtain ⟨k, hk, e⟩ := List.getElem_of_mem hx
  rw [List.length_take] at hk
  refine ⟨k, by omega, ?_⟩
  rw [List.getElem_take] at e
  rw [ev_get (by rw [tH_len]; omega)]
  exact e
theorem tH_good {ws : List Int} (hd : ws.Nodup) (hw : ∀ x ∈ ws, 1 ≤ x ∧ x ≤ 30) : Good (tH ws) (tH ws).length := by
  intro n hn
  rw [tH_len] at hn
  obtain ⟨i, hi, q⟩ := tH_ev hn
  have hwi := hw _ (List.getElem_mem hi)
  rcases q with ⟨en, e⟩ | ⟨m, hm, en, e⟩
  · rw [e]
    have h1 : isOne (4, 2, ws[i]) = true := by simp [isOne, hwi]
    have h2 : ((tH ws).take n).any (says ws[i]) = false := by
      rw [List.any_eq_false]
      intro x hx hs
      obtain ⟨k, hk, ek⟩ := mem_take_tH (by omega) hx
      obtain ⟨j, hj, z⟩ := tH_ev (ws := ws) (n := k) (by omega)
      rw [← ek] at hs
      rcases z with ⟨a, b⟩ | ⟨m', hm', a, b⟩
      · rw [b] at hs
        simp [says] at hs
        have := nd_get hd hj hi hs
        omega
      · rw [b] at hs
        simp [says] at hs
    unfold next
    rw [h1, if_neg (by decide)]
    show (if (2 : Int) = 2 ∧ ((tH ws).take n).any (says ws[i]) = true then _ else _) = _
    rw [h2, if_neg (fun q => by cases q.2), if_pos (by simp)]
  · rw [e]
    have h1 : isOne ((m : Int), 3, ws[i]) = true := by
      simp [isOne, hwi]
      omega
    have said : ∀ k, k < ws.length → ∃ hk : k < ws.length, ev (tH ws) k = (4, 2, ws[k]) := fun k hk => by
      refine ⟨hk, ?_⟩
      obtain ⟨j, hj, z⟩ := tH_ev (ws := ws) (n := k) (by omega)
      rcases z with ⟨a, b⟩ | ⟨m', hm', a, b⟩
      · subst a; exact b
      · have : ws.length ≤ (m' + 1) * ws.length := Nat.le_mul_of_pos_left _ (by omega)
        omega
    have hlt : ws.length ≤ n := by
      have : ws.length ≤ (m + 1) * ws.length := Nat.le_mul_of_pos_left _ (by omega)
      omega
    have h2 : ((tH ws).take n).any (fun y => y == ((m : Int), (3 : Int), ws[i])) = false := by
      rw [List.any_eq_false]
      intro x hx hs
      obtain ⟨k, hk, ek⟩ := mem_take_tH (by omega) hx
      obtain ⟨j, hj, z⟩ := tH_ev (ws := ws) (n := k) (by omega)
      have hs' : x = ((m : Int), (3 : Int), ws[i]) := by simpa using hs
      rw [← ek] at hs'
      rcases z with ⟨a, b⟩ | ⟨m', hm', a, b⟩
      · rw [b] at hs'
        have := congrArg (fun p : Ev => p.2.1) hs'
        simp at this
      · rw [b] at hs'
        have e1 : ((m' : Nat) : Int) = (m : Int) := congrArg (fun p : Ev => p.1) hs'
        have e2 : ws[j] = ws[i] := congrArg (fun p : Ev => p.2.2) hs'
        have := nd_get hd hj hi e2
        have e3 : m' = m := by omega
        rw [e3] at a
        omega
    have h3 : ((tH ws).take n).any (says ws[i]) = true := by
      obtain ⟨_, b⟩ := said i hi
      refine List.any_eq_true.2 ⟨ev (tH ws) i, mem_take_ev (by rw [tH_len]; omega) (by omega), ?_⟩
      rw [b]
      simp [says]
    have h4 : ((tH ws).take n).any (fun y => y == ((m : Int), (2 : Int), ws[i])) = false := by
      rw [List.any_eq_false]
      intro x hx hs
      obtain ⟨k, hk, ek⟩ := mem_take_tH (by omega) hx
      obtain ⟨j, hj, z⟩ := tH_ev (ws := ws) (n := k) (by omega)
      have hs' : x = ((m : Int), (2 : Int), ws[i]) := by simpa using hs
      rw [← ek] at hs'
      rcases z with ⟨a, b⟩ | ⟨m', hm', a, b⟩
      · rw [b] at hs'
        have : (4 : Int) = (m : Int) := congrArg (fun p : Ev => p.1) hs'
        omega
      · rw [b] at hs'
        have := congrArg (fun p : Ev => p.2.1) hs'
        simp at this
    unfold next
    rw [h1, if_neg (by decide), if_neg (fun q => by have := q.1; simp at this), if_neg (by simp), h2, if_neg (by decide), h3, if_neg (by decide), h4, if_neg (by decide)]
theorem hrd_evs (who what m : Int) (ws : List Int) : hrd (evs who what ws) m = if who = m ∧ what ≠ 1 then ws else [] := by
  unfold hrd evs
  by_cases q : who = m ∧ what ≠ 1
  · rw [if_pos q, List.filter_eq_self.2 (fun e he => by
      obtain ⟨x, _, rfl⟩ := List.mem_map.1 he
      simp [has, q.1, q.2]), List.map_map]
    show ws.map (fun x => x) = ws
    simp
  · rw [if_neg q, List.filter_eq_nil_iff.2 (fun e he => by
      obtain ⟨x, _, rfl⟩ := List.mem_map.1 he
      simp only [has, Bool.and_eq_true, decide_eq_true_eq]
      exact q)]
    rfl
theorem hrd_app (a b : List Ev) (m : Int) : hrd (a ++ b) m = hrd a m ++ hrd b m := by
  unfold hrd
  rw [List.filter_append, List.map_append]
theorem hrd_tH (ws : List Int) (m : Nat) (hm : m < 5) : hrd (tH ws) (m : Int) = if m = 3 then [] else ws := by
  unfold tH
  rw [hrd_app, hrd_app, hrd_app, hrd_evs, hrd_evs, hrd_evs, hrd_evs]
  rcases m with _ | _ | _ | _ | _ | m <;> simp
  omega
theorem tH_say {ws : List Int} {k : Nat} (hk : k < (tH ws).length) (h : (ev (tH ws) k).2.1 = 2) : ∃ h' : k < ws.length, ev (tH ws) k = (4, 2, ws[k]) := by
  rw [tH_len] at hk
  obtain ⟨j, hj, z⟩ := tH_ev (ws := ws) (n := k) hk
  rcases z with ⟨a, b⟩ | ⟨m', hm', a, b⟩
  · subst a; exact ⟨hj, b⟩
  · rw [b] at h
    simp at h
theorem tH_fifo {ws : List Int} (hd : ws.Nodup) (hw : ∀ x ∈ ws, 1 ≤ x ∧ x ≤ 30) : fifoB (tH ws) = true := by
  unfold fifoB
  rw [keep_iff]
  intro i k hik hk hi2 hk2 _
  obtain ⟨hk', ek⟩ := tH_say hk hk2
  obtain ⟨hi', ei⟩ := tH_say (by omega) hi2
  rw [ei, ek]
  unfold hv5
  rw [List.all_eq_true]
  intro m hm
  have hm5 := List.mem_range.1 hm
  rw [hrd_tH ws m hm5]
  unfold hv1
  by_cases e : m = 3
  · rw [if_pos e]
    simp
  · rw [if_neg e]
    have h1 : ix ws ws[k] = k := ix_of hd hk'
    show (decide (((m : Nat) : Int) = 4) || !(ws.contains ws[k]) || (ws.take (ix ws ws[k])).contains ws[i]) = true
    rw [h1]
    have h2 : (ws.take k).contains ws[i] = true := by
      rw [List.contains_iff_mem]
      have : ws[i] = (ws.take k)[i]'(by rw [List.length_take]; omega) := by rw [List.getElem_take]
      rw [this]
      exact List.getElem_mem _
    rw [h2]
    simp
theorem tH_caus {ws : List Int} (hd : ws.Nodup) (hw : ∀ x ∈ ws, 1 ≤ x ∧ x ≤ 30) : causB (tH ws) = true := by
  rw [← alone_fifo (tH_good hd hw) (fun i k hki hi hi2 hk2 => ?_)]
  · exact tH_fifo hd hw
  · obtain ⟨_, ei⟩ := tH_say hi hi2
    obtain ⟨_, ek⟩ := tH_say (by omega) hk2
    rw [ei, ek]
theorem tH_tot (ws : List Int) : totB (tH ws) = true := by
  rw [tot_iff]
  intro m o hm ho
  rw [hrd_tH ws m hm, hrd_tH ws o (by omega)]
  unfold ag1 both
  by_cases e : m = 3
  · rw [if_pos e]
    simp
  · rw [if_neg e]
    by_cases e' : o = 3
    · rw [if_pos e']
      simp
    · rw [if_neg e']
      simp
/-- with as many heard by the last as one likes -/
theorem tH_faces {ws : List Int} (hd : ws.Nodup) (hw : ∀ x ∈ ws, 1 ≤ x ∧ x ≤ 30) (hl : ws.length ≤ 10) {n : Nat} (hn : n ≤ (tH ws).length) : chkC ((tH ws).take n) = 0 ∧ fifoB ((tH ws).take n) = true ∧ causB ((tH ws).take n) = true ∧ totB ((tH ws).take n) = true := by
  have hg := tH_good hd hw
  refine ⟨(chk_ok (by rw [List.length_take, tH_len]; omega) (good_take hg hn)).1, fifo_take hg hn (tH_fifo hd hw), caus_take hg hn (tH_caus hd hw), tot_take hg hn (tH_tot ws)⟩
end Go.Proofs.Ytcccheeeagphpag.His
