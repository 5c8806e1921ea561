/-
  Plain facts on what members hear: what each has heard, in which order; whether whoever heard a word had those that were to be ahead of it; whether any two have in one order what both have.
-/
import Derived.Test.YtpjoaogiaacikakDoorHisM
namespace Go.Proofs.YtpjoaogiaacikakDoor.His

/-- what one has heard, or said -/
def has (who : Int) (e : Ev) : Bool := decide (e.1 = who) && decide (e.2.1 ≠ 1)
def hrd (h : List Ev) (who : Int) : List Int := (h.filter (has who)).map (·.2.2)
def ix (l : List Int) (x : Int) : Nat := l.findIdx (fun y => y == x)
def both (a b : List Int) : List Int := a.filter (fun x => b.contains x)
/-- of two words, and what one has heard: who heard the later one had the earlier one -/
def hv1 (words : List Int) (who lw : Int) (ew lword : Int) : Bool := decide (who = lw) || !(words.contains lword) || (words.take (ix words lword)).contains ew
def hv5 (h : List Ev) (e l : Ev) : Bool := (List.range 5).all fun m => hv1 (hrd h m) m l.1 e.2.2 l.2.2
def kp1 (h : List Ev) (needs : Nat → Nat → Bool) (i k : Nat) : Bool := !(decide ((ev h i).2.1 = 2) && decide ((ev h k).2.1 = 2) && needs i k) || hv5 h (ev h i) (ev h k)
def keepB (h : List Ev) (needs : Nat → Nat → Bool) : Bool := (List.range h.length).all fun k => (List.range k).all fun i => kp1 h needs i k
def smB (h : List Ev) (i k : Nat) : Bool := decide ((ev h i).1 = (ev h k).1)
def fifoB (h : List Ev) : Bool := keepB h (smB h)
def causB (h : List Ev) : Bool := keepB h (bef h)
def ag1 (a b : List Int) : Bool := both a b == both b a
def totB (h : List Ev) : Bool := (List.range 5).all fun m => (List.range m).all fun o => ag1 (hrd h m) (hrd h o)

theorem hrd_step (h : List Ev) (who : Int) {n : Nat} (hn : n < h.length) : hrd (h.take (n + 1)) who = hrd (h.take n) who ++ (if has who (ev h n) then [(ev h n).2.2] else []) := by
  have e : ev h n = h[n] := by
    show h.getD _ _ = _
    rw [List.getD, List.getElem?_eq_getElem hn]
    rfl
  rw [e, List.take_succ_eq_append_getElem hn]
  unfold hrd
  rw [List.filter_append, List.map_append]
  congr 1
  by_cases hh : has who h[n] = true
  · simp [hh]
  · simp [hh]
theorem hrd_len (h : List Ev) (who : Int) : (hrd h who).length ≤ h.length := by
  unfold hrd
  rw [List.length_map]
  exact List.length_filter_le _ _
theorem ev_get {h : List Ev} {i : Nat} (hi : i < h.length) : ev h i = h[i] := by
  show h.getD _ _ = _
  rw [List.getD, List.getElem?_eq_getElem hi]
  rfl
theorem mem_hrd {h : List Ev} {who x : Int} : x ∈ hrd h who ↔ ∃ j, j < h.length ∧ has who (ev h j) = true ∧ (ev h j).2.2 = x := by
  unfold hrd
  rw [List.mem_map]
  constructor
  · rintro ⟨e, he, rfl⟩
    obtain ⟨hm, hh⟩ := List.mem_filter.1 he
    obtain ⟨j, hj, rfl⟩ := List.getElem_of_mem hm
    exact ⟨j, hj, by rw [ev_get hj]; exact hh, by rw [ev_get hj]⟩
  · rintro ⟨j, hj, hh, rfl⟩
    rw [ev_get hj] at hh ⊢
    exact ⟨_, List.mem_filter.2 ⟨List.getElem_mem hj, hh⟩, rfl⟩
theorem ev_take' {h : List Ev} {k j : Nat} (hj : j < k) : ev (h.take k) j = ev h j := by
  simp [ev, List.getD, List.getElem?_take_of_lt hj]
theorem mem_hrd_take {h : List Ev} {who x : Int} {n : Nat} (hn : n ≤ h.length) : x ∈ hrd (h.take n) who ↔ ∃ j, j < n ∧ has who (ev h j) = true ∧ (ev h j).2.2 = x := by
  rw [mem_hrd, List.length_take, Nat.min_eq_left hn]
  constructor
  · rintro ⟨j, hj, a, b⟩
    rw [ev_take' hj] at a b
    exact ⟨j, hj, a, b⟩
  · rintro ⟨j, hj, a, b⟩
    refine ⟨j, hj, ?_, ?_⟩
    · rw [ev_take' hj]; exact a
    · rw [ev_take' hj]; exact b

/-- one begins as it began -/
theorem hrd_split (h : List Ev) (who : Int) (n : Nat) : hrd h who = hrd (h.take n) who ++ hrd (h.drop n) who := by
  unfold hrd
  rw [← List.map_append, ← List.filter_append, List.take_append_drop]

/-! nobody has a word twice -/
theorem mem_take_ev {h : List Ev} {i j : Nat} (hj : j < h.length) (hji : j < i) : ev h j ∈ h.take i := by
  have e : (h.take i)[j]? = some (ev h j) := by
    rw [List.getElem?_take_of_lt hji, ev_get hj, List.getElem?_eq_getElem hj]
  exact List.mem_of_getElem? e
theorem once {h : List Ev} {N : Nat} (hg : Good h N) (hN : N ≤ h.length) {j n : Nat} (hjn : j < n) (hn : n < N) {who : Int} (hj : has who (ev h j) = true) (hh : has who (ev h n) = true) : (ev h j).2.2 ≠ (ev h n).2.2 := by
  intro e
  have g1 := isOne_what (good_one hg (show j < N by omega))
  have g2 := isOne_what (good_one hg hn)
  simp only [has, Bool.and_eq_true, decide_eq_true_eq] at hj hh
  have hnx := hg n hn
  unfold next at hnx
  rw [if_neg (by rw [good_one hg hn]; decide)] at hnx
  have hmem : ev h j ∈ h.take n := mem_take_ev (by omega) hjn
  rcases g2 with ⟨a, _⟩ | ⟨a | a, _⟩
  · exact hh.2 a
  · -- said now
    have hs : (h.take n).any (says (ev h n).2.2) = true := by
      rcases g1 with ⟨b, _⟩ | ⟨b | b, _⟩
      · exact absurd b hj.2
      · exact List.any_eq_true.2 ⟨_, hmem, by simp [says, b, e]⟩
      · have := good_said hg (show j < N by omega) b
        obtain ⟨x, hx, hp⟩ := List.any_eq_true.1 this
        rw [e] at hp
        exact List.any_eq_true.2 ⟨x, List.mem_of_mem_take (by rw [List.take_take, Nat.min_eq_left (by omega)]; exact hx : x ∈ (h.take n).take j), hp⟩
    rw [if_pos ⟨a, hs⟩] at hnx
    omega
  · rw [if_neg (by omega), if_neg (by omega)] at hnx
    rcases g1 with ⟨b, _⟩ | ⟨b | b, _⟩
    · exact hj.2 b
    · split at hnx
      · omega
      · split at hnx
        · omega
        · rw [if_pos] at hnx
          · omega
          · refine List.any_eq_true.2 ⟨_, hmem, ?_⟩
            have : ev h j = ((ev h n).1, 2, (ev h n).2.2) := Prod.ext (by rw [hj.1, hh.1]) (Prod.ext b e)
            simp [this]
    · rw [if_pos] at hnx
      · omega
      · refine List.any_eq_true.2 ⟨_, hmem, ?_⟩
        have : ev h j = ev h n := Prod.ext (by rw [hj.1, hh.1]) (Prod.ext (by rw [a, b]) e)
        simp [this]
/-- where a word stands among what one has -/
theorem word_not {h : List Ev} (hg : Good h h.length) {j : Nat} (hj : j < h.length) {who : Int} (hh : has who (ev h j) = true) : (ev h j).2.2 ∉ hrd (h.take j) who := by
  rw [mem_hrd_take (by omega)]
  rintro ⟨m, hm, a, b⟩
  exact once hg (Nat.le_refl _) hm hj a hh b
theorem ix_not {l : List Int} {x : Int} (hx : x ∉ l) (r : List Int) : ix (l ++ x :: r) x = l.length := by
  unfold ix
  rw [List.findIdx_append]
  have h1 : l.findIdx (fun y => y == x) = l.length := by
    rw [List.findIdx_eq_length]
    intro y hy
    simp only [beq_eq_false_iff_ne]
    rintro rfl
    exact hx hy
  rw [h1, if_neg (by omega)]
  simp [List.findIdx_cons]
theorem hrd_at {h : List Ev} {j : Nat} (hj : j < h.length) {who : Int} (hh : has who (ev h j) = true) : hrd h who = hrd (h.take j) who ++ (ev h j).2.2 :: hrd (h.drop (j + 1)) who := by
  rw [hrd_split h who (j + 1), hrd_step h who hj, if_pos hh]
  simp
theorem take_ix {h : List Ev} (hg : Good h h.length) {j : Nat} (hj : j < h.length) {who : Int} (hh : has who (ev h j) = true) : (hrd h who).take (ix (hrd h who) (ev h j).2.2) = hrd (h.take j) who := by
  rw [hrd_at hj hh, ix_not (word_not hg hj hh), List.take_left']
  rfl
theorem hrd_nodup {h : List Ev} (hg : Good h h.length) (who : Int) : ∀ n, n ≤ h.length → (hrd (h.take n) who).Nodup := by
  intro n
  induction n with
  | zero => intro _; simp [hrd]
  | succ n ih =>
    intro hn
    rw [hrd_step h who (by omega)]
    by_cases hh : has who (ev h n) = true
    · rw [if_pos hh, List.nodup_append]
      refine ⟨ih (by omega), by simp, ?_⟩
      intro a ha b hb
      rw [List.mem_singleton] at hb
      rintro rfl
      rw [hb] at ha
      exact word_not hg (by omega) hh ha
    · rw [if_neg hh, List.append_nil]
      exact ih (by omega)
theorem hrd_nd {h : List Ev} (hg : Good h h.length) (who : Int) : (hrd h who).Nodup := by
  have := hrd_nodup hg who h.length (Nat.le_refl _)
  rwa [List.take_length] at this

/-! what is kept, told by events -/
theorem hv5_iff {h : List Ev} (hg : Good h h.length) (e l : Ev) : hv5 h e l = true ↔ ∀ j, j < h.length → (ev h j).2.1 ≠ 1 → (ev h j).1 ≠ l.1 → (ev h j).2.2 = l.2.2 → ∃ m, m < j ∧ has (ev h j).1 (ev h m) = true ∧ (ev h m).2.2 = e.2.2 := by
  unfold hv5
  rw [List.all_eq_true]
  constructor
  · intro ha j hj hne hw hword
    have hwho := isOne_who (good_one hg hj)
    have hh : has (ev h j).1 (ev h j) = true := by simp [has, hne]
    have := ha (ev h j).1.toNat (List.mem_range.2 (by omega))
    rw [show (((ev h j).1.toNat : Nat) : Int) = (ev h j).1 by omega] at this
    unfold hv1 at this
    rw [← hword, take_ix hg hj hh] at this
    simp only [Bool.or_eq_true, decide_eq_true_eq, Bool.not_eq_true', List.contains_eq_mem, decide_eq_false_iff_not] at this
    rcases this with (a | a) | a
    · exact absurd a hw
    · exact absurd (mem_hrd.2 ⟨j, hj, hh, rfl⟩) a
    · exact (mem_hrd_take (by omega)).1 a
  · intro hx m _
    unfold hv1
    simp only [Bool.or_eq_true, decide_eq_true_eq, Bool.not_eq_true', List.contains_eq_mem, decide_eq_false_iff_not]
    by_cases h1 : (m : Int) = l.1
    · exact .inl (.inl h1)
    · by_cases h2 : l.2.2 ∈ hrd h m
      · right
        obtain ⟨j, hj, hh, he⟩ := mem_hrd.1 h2
        have hhw : (ev h j).1 = (m : Int) ∧ (ev h j).2.1 ≠ 1 := by simpa [has] using hh
        have := hx j hj hhw.2 (by rw [hhw.1]; exact h1) he
        rw [← he, take_ix hg hj hh, mem_hrd_take (by omega), ← hhw.1]
        exact this
      · exact .inl (.inr h2)
theorem keep_iff {h : List Ev} {needs : Nat → Nat → Bool} : keepB h needs = true ↔ ∀ i k, i < k → k < h.length → (ev h i).2.1 = 2 → (ev h k).2.1 = 2 → needs i k = true → hv5 h (ev h i) (ev h k) = true := by
  unfold keepB
  simp only [List.all_eq_true, List.mem_range, kp1, Bool.or_eq_true, Bool.not_eq_true']
  constructor
  · intro ha i k hik hk h1 h2 h3
    rcases ha k hk i hik with a | a
    · simp [h1, h2, h3] at a
    · exact a
  · intro ha k hk i hik
    by_cases h1 : (ev h i).2.1 = 2
    · by_cases h2 : (ev h k).2.1 = 2
      · cases h3 : needs i k with
        | true => exact .inr (ha i k hik hk h1 h2 h3)
        | false => left; simp
      · left; simp [h2]
    · left; simp [h1]
theorem keep_of {h : List Ev} {p q : Nat → Nat → Bool} (hk : keepB h p = true) (hpq : ∀ i k, i < k → k < h.length → (ev h i).2.1 = 2 → (ev h k).2.1 = 2 → q i k = true → p i k = true) : keepB h q = true := by
  rw [keep_iff] at hk ⊢
  intro i k hik hkl h1 h2 h3
  exact hk i k hik hkl h1 h2 (hpq i k hik hkl h1 h2 h3)
theorem sm_bef {h : List Ev} (hg : Good h h.length) {i k : Nat} (hik : i < k) (hk : k < h.length) (hs : smB h i k = true) : bef h i k = true := by
  have hi : i < h.length := by omega
  have hw : W h i = W h k := by unfold W; rw [of_decide_eq_true hs]
  refine (bef_iff hg hi).2 ⟨by omega, ?_⟩
  rw [← row_self hg hi]
  exact mem_below hg k hk i (by omega) hw _
/-- what is causal is fifo -/
theorem caus_fifo {h : List Ev} (hg : Good h h.length) (hc : causB h = true) : fifoB h = true :=
  keep_of hc fun _ _ hik hk _ _ hs => sm_bef hg hik hk hs
/-- where only one speaks fifo is causal -/
theorem alone_fifo {h : List Ev} (hg : Good h h.length) (ha : ∀ i k, k < i → i < h.length → (ev h i).2.1 = 2 → (ev h k).2.1 = 2 → (ev h i).1 = (ev h k).1) : fifoB h = causB h := by
  rw [Bool.eq_iff_iff]
  constructor
  · intro hf
    exact keep_of hf fun i k hik hk h1 h2 _ => decide_eq_true (ha k i hik hk h2 h1).symm
  · exact caus_fifo hg

/-! what both have, in one order -/
theorem one_row {R : Int → Int → Prop} (htr : ∀ {x y z}, R x y → R y z → R x z) (hirr : ∀ x, ¬ R x x) : ∀ {a b : List Int}, a.Pairwise R → b.Pairwise R → (∀ i, i ∈ a ↔ i ∈ b) → a = b := by
  intro a
  induction a with
  | nil =>
    intro b _ _ hm
    cases b with
    | nil => rfl
    | cons x b => exact absurd ((hm x).2 (List.mem_cons_self ..)) (List.not_mem_nil)
  | cons x a ih =>
    intro b ha hb hm
    cases b with
    | nil => exact absurd ((hm x).1 (List.mem_cons_self ..)) (List.not_mem_nil)
    | cons y b =>
      rw [List.pairwise_cons] at ha hb
      have hxy : x = y := by
        rcases List.mem_cons.1 ((hm x).1 (List.mem_cons_self ..)) with e | e
        · exact e
        · rcases List.mem_cons.1 ((hm y).2 (List.mem_cons_self ..)) with e2 | e2
          · exact e2.symm
          · exact absurd (htr (ha.1 y e2) (hb.1 x e)) (hirr _)
      subst hxy
      congr 1
      refine ih ha.2 hb.2 fun i => ?_
      constructor
      · intro hi
        rcases List.mem_cons.1 ((hm i).1 (List.mem_cons_of_mem _ hi)) with e | e
        · exact absurd (e ▸ ha.1 i hi) (hirr _)
        · exact e
      · intro hi
        rcases List.mem_cons.1 ((hm i).2 (List.mem_cons_of_mem _ hi)) with e | e
        · exact absurd (e ▸ hb.1 i hi) (hirr _)
        · exact e
theorem ix_lt {l : List Int} {x : Int} (hx : x ∈ l) : ix l x < l.length := by
  unfold ix
  rw [List.findIdx_lt_length]
  exact ⟨x, hx, by simp⟩
theorem ix_get {l : List Int} {x : Int} (hx : x ∈ l) : l[ix l x]'(ix_lt hx) = x := by
  have := List.findIdx_getElem (p := fun y => y == x) (w := ix_lt hx)
  exact eq_of_beq this
theorem ix_inj {l : List Int} {x y : Int} (hx : x ∈ l) (hy : y ∈ l) (he : ix l x = ix l y) : x = y := by
  rw [← ix_get hx, ← ix_get hy]
  simp only [he]
theorem ix_of {l : List Int} (hl : l.Nodup) {i : Nat} (hi : i < l.length) : ix l l[i] = i := by
  have hm : l[i] ∈ l := List.getElem_mem hi
  have := ix_get hm
  exact (List.getElem_inj hl).1 this
theorem pw_self {l : List Int} (hl : l.Nodup) : l.Pairwise (fun x y => ix l x < ix l y) := by
  rw [List.pairwise_iff_getElem]
  intro i j hi hj hij
  rw [ix_of hl hi, ix_of hl hj]
  exact hij
/-- what both have is in one order just if no two are in unlike orders -/
theorem ag1_iff {a b : List Int} (ha : a.Nodup) (hb : b.Nodup) : ag1 a b = true ↔ a.Pairwise (fun x y => x ∈ b → y ∈ b → ix b x ≤ ix b y) := by
  unfold ag1
  rw [beq_iff_eq]
  constructor
  · intro he
    rw [List.pairwise_iff_forall_sublist]
    intro x y hxy hx hy
    have h1 : [x, y].Sublist (both b a) := by
      rw [← he]
      have := hxy.filter (fun z => b.contains z)
      simpa [both, hx, hy] using this
    have h2 : [x, y].Sublist b := h1.trans (List.filter_sublist ..)
    have := (pw_self hb).sublist h2
    simp at this
    omega
  · intro hp
    refine one_row (R := fun x y => ix b x < ix b y) (fun h1 h2 => Nat.lt_trans h1 h2) (fun x => Nat.lt_irrefl _) ?_ ?_ ?_
    · have h1 : (both a b).Pairwise (fun x y => x ≠ y ∧ (x ∈ b → y ∈ b → ix b x ≤ ix b y)) := (List.Pairwise.and ha hp).sublist (List.filter_sublist ..)
      refine h1.imp_of_mem ?_
      intro x y hx hy hh
      have hx' : x ∈ b := by simpa using (List.mem_filter.1 hx).2
      have hy' : y ∈ b := by simpa using (List.mem_filter.1 hy).2
      have := hh.2 hx' hy'
      rcases Nat.lt_or_ge (ix b x) (ix b y) with q | q
      · exact q
      · exact absurd (ix_inj hx' hy' (by omega)) hh.1
    · exact (pw_self hb).sublist (List.filter_sublist ..)
    · intro i
      simp only [both, List.mem_filter, List.contains_eq_mem, decide_eq_true_eq]
      exact ⟨fun ⟨p, q⟩ => ⟨q, p⟩, fun ⟨p, q⟩ => ⟨q, p⟩⟩

/-! a beginning -/
theorem good_take {h : List Ev} {n : Nat} (hg : Good h h.length) (hn : n ≤ h.length) : Good (h.take n) (h.take n).length := by
  rw [List.length_take, Nat.min_eq_left hn]
  intro i hi
  rw [List.take_take, Nat.min_eq_left (by omega), ev_take' hi]
  exact hg i (by omega)
theorem sayAt_take {h : List Ev} {n : Nat} (hg : Good h h.length) (hn : n ≤ h.length) {i : Nat} (hi : i < n) (h3 : (ev h i).2.1 = 3) : sayAt (h.take n) (ev h i).2.2 = sayAt h (ev h i).2.2 := by
  have hs := sayAt_lt hg (show i < h.length by omega) h3
  have hsp : ∀ w, h.findIdx (says w) = (h.take n ++ h.drop n).findIdx (says w) := fun w => by rw [List.take_append_drop]
  unfold sayAt
  rw [hsp, List.findIdx_append]
  have : (h.take n).findIdx (says (ev h i).2.2) < (h.take n).length := by
    rw [List.findIdx_lt_length]
    exact ⟨_, mem_take_ev hs.2.1 (show _ < n by omega), hs.2.2⟩
  rw [if_pos this]
theorem st_take {h : List Ev} {n : Nat} (hg : Good h h.length) (hn : n ≤ h.length) : ∀ i, i ≤ n → st (h.take n) i = st h i := by
  intro i
  induction i with
  | zero => intro _; rfl
  | succ i ih =>
    intro hi
    have e := ih (by omega)
    have hev : ev (h.take n) i = ev h i := ev_take' (by omega)
    have hW : W (h.take n) i = W h i := by unfold W; rw [hev]
    have hf : far (h.take n) i (st h i) = far h i (st h i) := by
      unfold far
      rw [hW, hev]
      by_cases h3 : (ev h i).2.1 = 3
      · rw [if_pos h3, if_pos h3, sayAt_take hg hn (by omega) h3]
      · rw [if_neg h3, if_neg h3]
    simp only [st, e, hf, hW]
theorem row_take {h : List Ev} {n : Nat} (hg : Good h h.length) (hn : n ≤ h.length) {i : Nat} (hi : i < n) : row (h.take n) i = row h i := by
  have e := st_take hg hn (i + 1) (by omega)
  have e1 : ((st (h.take n) (i + 1)).1).getD i zero5 = ((st h (i + 1)).1).getD i zero5 := by rw [e]
  rwa [st_get _ _ _ (by omega), st_get _ _ _ (by omega)] at e1
theorem bef_take {h : List Ev} {n : Nat} (hg : Good h h.length) (hn : n ≤ h.length) {i k : Nat} (hi : i < n) (hk : k < n) : bef (h.take n) i k = bef h i k := by
  have hW : W (h.take n) i = W h i := by unfold W; rw [ev_take' hi]
  unfold bef
  rw [row_take hg hn hi, row_take hg hn hk, hW]
theorem keep_take {h : List Ev} {n : Nat} (hg : Good h h.length) (hn : n ≤ h.length) {p q : Nat → Nat → Bool} (hpq : ∀ i k, i < n → k < n → q i k = p i k) (hk : keepB h p = true) : keepB (h.take n) q = true := by
  have hl : (h.take n).length = n := by rw [List.length_take]; omega
  rw [keep_iff] at hk ⊢
  intro i k hik hkl h1 h2 h3
  rw [hl] at hkl
  rw [ev_take' (by omega)] at h1
  rw [ev_take' hkl] at h2
  rw [hpq i k (by omega) hkl] at h3
  have := hk i k hik (by omega) h1 h2 h3
  rw [ev_take' (show i < n by omega), ev_take' hkl]
  rw [hv5_iff hg] at this
  rw [hv5_iff (good_take hg hn), hl]
  intro j hj g1 g2 g3
  rw [ev_take' hj] at g1 g2 g3 ⊢
  obtain ⟨m, a, b, c⟩ := this j (by omega) g1 g2 g3
  refine ⟨m, a, ?_, ?_⟩
  · rw [ev_take' (by omega)]; exact b
  · rw [ev_take' (by omega)]; exact c
theorem fifo_take {h : List Ev} {n : Nat} (hg : Good h h.length) (hn : n ≤ h.length) (hf : fifoB h = true) : fifoB (h.take n) = true := by
  refine keep_take hg hn (fun i k hi hk => ?_) hf
  unfold smB
  rw [ev_take' hi, ev_take' hk]
theorem caus_take {h : List Ev} {n : Nat} (hg : Good h h.length) (hn : n ≤ h.length) (hf : causB h = true) : causB (h.take n) = true :=
  keep_take hg hn (fun _ _ hi hk => bef_take hg hn hi hk) hf
theorem tot_iff {h : List Ev} : totB h = true ↔ ∀ m o : Nat, m < 5 → o < m → ag1 (hrd h m) (hrd h o) = true := by
  unfold totB
  simp only [List.all_eq_true, List.mem_range]
  exact ⟨fun ha m o hm ho => ha m hm o ho, fun ha m hm o ho => ha m o hm ho⟩
theorem ix_front {a b : List Int} {x : Int} (hx : x ∈ a) : ix (a ++ b) x = ix a x := by
  unfold ix
  rw [List.findIdx_append]
  exact if_pos (ix_lt hx)
theorem tot_take {h : List Ev} {n : Nat} (hg : Good h h.length) (hn : n ≤ h.length) (hf : totB h = true) : totB (h.take n) = true := by
  rw [tot_iff] at hf ⊢
  intro m o hm ho
  have hx := hf m o hm ho
  rw [ag1_iff (hrd_nd hg _) (hrd_nd hg _)] at hx
  rw [ag1_iff (hrd_nodup hg _ n hn) (hrd_nodup hg _ n hn)]
  have hp := hx.sublist (l₁ := hrd (h.take n) m) (by rw [hrd_split h m n]; exact List.sublist_append_left _ _)
  refine hp.imp ?_
  intro x y hxy g1 g2
  rw [hrd_split h o n] at hxy
  have := hxy (List.mem_append_left _ g1) (List.mem_append_left _ g2)
  rwa [ix_front g1, ix_front g2] at this
end Go.Proofs.YtpjoaogiaacikakDoor.His
