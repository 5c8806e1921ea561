/-
  Texts put together: HisN, ClkN, FacN.
-/
import Derived.Test.YtdmniblonikjlakGreatDoorPrB
import Derived.Test.YtdmniblonikjlakGreatDoorPrH


namespace Go.Proofs.YtdmniblonikjlakGreatDoor.His
def edge (h:List Ev) (i k:Nat):Bool := decide (i < k) && (decide ((ev h i).1 = (ev h k).1) || (decide ((ev h i).2.1 = 2) && decide ((ev h k).2.1 = 3) && decide ((ev h i).2.2 = (ev h k).2.2)))
def wa (h:List Ev) (n:Nat):Nat → Nat → Nat → Bool
 | 0 => fun i k => edge h i k && decide (k < n)
 | m + 1 => fun i k => wa h n m i k || (wa h n m i m && wa h n m m k)
theorem wa_lt (h:List Ev) (n m:Nat):∀ i k,wa h n m i k = true → i < k ∧ k < n := by
 induction m with
 | zero =>
  intro i k hk
  simp [wa,edge] at hk
  omega
 | succ m ih =>
  intro i k hk
  simp only [wa,Bool.or_eq_true,Bool.and_eq_true] at hk
  rcases hk with a | ⟨a,b⟩
  ·exact ih i k a
  ·have := ih i m a
   have := ih m k b
   omega
theorem wa_mono (h:List Ev) (n:Nat) {a b:Nat} (hab:a ≤ b) (i k:Nat) (hk:wa h n a i k = true):wa h n b i k = true := by
 induction hab with
 | refl => exact hk
 | step _ ih => simp only [wa,Bool.or_eq_true]; exact .inl ih
theorem wa_trans (h:List Ev) (n m:Nat):∀ p,p < m → ∀ i k,wa h n m i p = true → wa h n m p k = true → wa h n m i k = true := by
 induction m with
 | zero => intro p hp; omega
 | succ m ih =>
  intro p hp i k h1 h2
  have e1:wa h n m i p = true := by
   simp only [wa,Bool.or_eq_true,Bool.and_eq_true] at h1
   rcases h1 with a | ⟨_,b⟩
   ·exact a
   ·have := wa_lt h n m m p b
    omega
  simp only [wa,Bool.or_eq_true,Bool.and_eq_true] at h2 ⊢
  rcases h2 with a | ⟨a,b⟩
  ·rcases Nat.lt_succ_iff_lt_or_eq.1 hp with q | rfl
   ·exact .inl (ih p q i k e1 a)
   ·exact .inr ⟨e1,a⟩
  ·rcases Nat.lt_succ_iff_lt_or_eq.1 hp with q | rfl
   ·exact .inr ⟨ih p q i m e1 a,b⟩
   ·have := wa_lt h n p p p a
    omega
theorem edge_bef {h:List Ev} {N i k:Nat} (hg:Good h N) (hk:k < N) (he:edge h i k = true):bef h i k = true := by
 simp only [edge,Bool.and_eq_true,Bool.or_eq_true,decide_eq_true_eq] at he
 obtain ⟨hlt,hc⟩ := he
 have hi:i < N := by omega
 refine (bef_iff hg hi).2 ⟨by omega,?_⟩
 rcases hc with hw | ⟨⟨h2,h3⟩,hw⟩
 ·have hW:W h i = W h k := by unfold W; rw [hw]
  rw [← row_self hg hi]
  exact mem_below hg k hk i (by omega) hW _
 ·have hs := sayAt_lt hg hk h3
  have hsay:sayAt h (ev h k).2.2 = i := by
   rcases Nat.lt_trichotomy (sayAt h (ev h k).2.2) i with a | a | a
   ·exfalso
    have h7 := hg i hi
    unfold next at h7
    rw [if_neg (by rw [good_one hg hi]; decide),if_pos] at h7
    ·omega
    ·refine ⟨h2,List.any_eq_true.2 ⟨ev h (sayAt h (ev h k).2.2),?_,?_⟩⟩
     ·have e:(h.take i)[sayAt h (ev h k).2.2]? = some (ev h (sayAt h (ev h k).2.2)) := by
       rw [List.getElem?_take_of_lt a]
       show _ = some (h.getD _ _)
       rw [List.getD,List.getElem?_eq_getElem hs.2.1]
       rfl
      exact List.mem_of_getElem? e
     ·rw [hw]; exact hs.2.2
   ·exact a
   ·exfalso
    have:says (ev h k).2.2 (ev h i) = true := by simp [says,h2,hw]
    have hil:i < h.length := by omega
    have e:ev h i = h[i] := by
     show h.getD _ _ = _
     rw [List.getD,List.getElem?_eq_getElem hil]
     rfl
    rw [e] at this
    have := List.not_of_lt_findIdx a
    simp_all
  rw [← row_self hg hi]
  have := say_below hg hk h3 (W h i)
  rw [hsay] at this
  exact this
theorem wa_bef {h:List Ev} {N:Nat} (hg:Good h N) (m:Nat) (hm:m ≤ N):∀ i k,wa h N m i k = true → bef h i k = true := by
 induction m with
 | zero =>
  intro i k hk
  simp only [wa,Bool.and_eq_true,decide_eq_true_eq] at hk
  exact edge_bef hg hk.2 hk.1
 | succ m ih =>
  intro i k hk
  simp only [wa,Bool.or_eq_true,Bool.and_eq_true] at hk
  rcases hk with a | ⟨a,b⟩
  ·exact ih (by omega) i k a
  ·have l1 := wa_lt h N m i m a
   have l2 := wa_lt h N m m k b
   exact bef_trans hg (by omega) (by omega) l2.2 (ih (by omega) _ _ a) (ih (by omega) _ _ b)
theorem bef_wa {h:List Ev} {N:Nat} (hg:Good h N):∀ k,k < N → ∀ i,i < N → bef h i k = true → wa h N N i k = true := by
 intro k
 induction k using Nat.strongRecOn with
 | _ k ih =>
  intro hk i hi hb
  have hlt := bef_lt hg hi hk hb
  obtain ⟨hne,hown⟩ := (bef_iff hg hi).1 hb
  have step:∀ l,l < k → (l = i ∨ wa h N N i l = true) → edge h l k = true → wa h N N i k = true := by
   intro l hlk hil he
   have e:wa h N N l k = true := wa_mono h N (Nat.zero_le N) l k (by simp [wa,he,hk])
   rcases hil with rfl | a
   ·exact e
   ·exact wa_trans h N N l (by omega) i k a e
  have via:∀ l,l < k → own h i ≤ (row h l).getD (W h i) 0 → (l = i ∨ wa h N N i l = true) := by
   intro l hlk ho
   by_cases e:l = i
   ·exact .inl e
   ·exact .inr (ih l hlk (by omega) i hi ((bef_iff hg hi).2 ⟨fun q => e q.symm,ho⟩))
  by_cases hw:W h i = W h k
  ·refine step i hlt (.inl rfl) ?_
   have:(ev h i).1 = (ev h k).1 := by rw [← W_cast hg hi,← W_cast hg hk,hw]
   simp [edge,hlt,this]
  ·have hp := own_pos h i
   have hr := row_get hg hk (W h i)
   rw [if_neg (show ¬ W h k = W h i from fun e => hw e.symm)] at hr
   have hcase:own h i ≤ (last h k (W h k)).getD (W h i) 0 ∨ ((ev h k).2.1 = 3 ∧ own h i ≤ (row h (sayAt h (ev h k).2.2)).getD (W h i) 0) := by
    by_cases h3:(ev h k).2.1 = 3
    ·rw [if_pos h3] at hr
     rcases Int.le_total ((last h k (W h k)).getD (W h i) 0) ((row h (sayAt h (ev h k).2.2)).getD (W h i) 0) with a | a
     ·right; exact ⟨h3,by omega⟩
     ·left; omega
    ·rw [if_neg h3] at hr
     left; omega
   rcases hcase with hlst | ⟨h3,hlst⟩
   ·rcases last_spec h (W h k) k with ⟨l,h1,h2,_,h4⟩ | ⟨_,h2⟩
    ·rw [h4] at hlst
     refine step l h1 (via l h1 hlst) ?_
     have:(ev h l).1 = (ev h k).1 := by rw [← W_cast hg (show l < N by omega),← W_cast hg hk,h2]
     simp [edge,h1,this]
    ·rw [h2] at hlst
     generalize W h i = x at hlst
     rcases x with _ | _ | _ | _ | _ | x <;> simp [zero5] at hlst <;> omega
   ·have hs := sayAt_lt hg hk h3
    refine step _ hs.1 (via _ hs.1 hlst) ?_
    have := hs.2.2
    simp only [says,Bool.and_eq_true,decide_eq_true_eq] at this
    simp [edge,hs.1,h3,this.1,this.2]
theorem wa_eq {h:List Ev} {N i k:Nat} (hg:Good h N) (hi:i < N) (hk:k < N):wa h N N i k = bef h i k := by
 cases hb:bef h i k with
 | true => exact bef_wa hg k hk i hi hb
 | false =>
  cases hw:wa h N N i k with
  | false => rfl
  | true => rw [wa_bef hg N (Nat.le_refl _) i k hw] at hb; exact absurd hb (by decide)
end Go.Proofs.YtdmniblonikjlakGreatDoor.His


namespace Go.Proofs.YtdmniblonikjlakGreatDoor.His
def vcnt (h:List Ev) (k m:Nat):Nat → Int
 | 0 => 0
 | i + 1 => vcnt h k m i + if W h i = m ∧ (i = k ∨ bef h i k = true) then 1 else 0
theorem vcnt_step (h:List Ev) (k m i:Nat):vcnt h k m (i + 1) = vcnt h k m i + if W h i = m ∧ (i = k ∨ bef h i k = true) then 1 else 0 := rfl
theorem vcnt_min {h:List Ev} {N k:Nat} (hg:Good h N) (hk:k < N) (m:Nat):∀ i,i ≤ k + 1 → vcnt h k m i = min (cnt h m i) ((row h k).getD m 0) := by
 intro i
 induction i with
 | zero =>
  intro _
  have := row_nonneg hg hk m
  simp only [vcnt,cnt]
  omega
 | succ i ih =>
  intro hi
  have ih := ih (by omega)
  rw [vcnt_step,cnt_step,ih]
  by_cases hw:W h i = m
  ·have hown:(i = k ∨ bef h i k = true) ↔ cnt h m i + 1 ≤ (row h k).getD m 0 := by
    have e:own h i = cnt h m i + 1 := by rw [own_eq,hw]
    rw [← e,← hw]
    constructor
    ·rintro (rfl | b)
     ·rw [row_self hg hk]; exact Int.le_refl _
     ·exact ((bef_iff hg (show i < N by omega)).1 b).2
    ·intro b
     by_cases q:i = k
     ·exact .inl q
     ·exact .inr ((bef_iff hg (show i < N by omega)).2 ⟨q,b⟩)
   rw [if_pos hw]
   by_cases hc:cnt h m i + 1 ≤ (row h k).getD m 0
   ·rw [if_pos ⟨hw,hown.2 hc⟩]; omega
   ·rw [if_neg (fun q => hc (hown.1 q.2))]; omega
  ·rw [if_neg hw,if_neg (fun q => hw q.1)]; omega
theorem vcnt_row {h:List Ev} {N k:Nat} (hg:Good h N) (hk:k < N) (m:Nat):vcnt h k m (k + 1) = (row h k).getD m 0 := by
 rw [vcnt_min hg hk m (k + 1) (Nat.le_refl _)]
 have := row_le hg hk m
 omega
end Go.Proofs.YtdmniblonikjlakGreatDoor.His


namespace Go.Proofs.YtdmniblonikjlakGreatDoor.His
def hadB (h:List Ev) (i j:Nat) (n:Nat):Bool := (List.range n).any fun m => decide ((ev h m).1 = (ev h j).1) && decide ((ev h m).2.2 = (ev h i).2.2) && decide ((ev h m).2.1 ≠ 1)
def missB (h:List Ev) (i k j:Nat):Bool := decide (k < j) && decide ((ev h j).2.1 = 3) && decide ((ev h j).2.2 = (ev h k).2.2) && !(hadB h i j j)
def pairB (h:List Ev) (i k:Nat):Bool := decide (i < k) && decide ((ev h i).2.1 = 2) && decide ((ev h k).2.1 = 2) && bef h i k
def cJ (h:List Ev) (i k n:Nat):Bool := (List.range n).all fun j => !(missB h i k j)
def fJ (h:List Ev) (i k n:Nat):Bool := !(smB h i k) || cJ h i k n
def cK (h:List Ev) (N i n:Nat):Bool := (List.range n).all fun k => !(pairB h i k) || cJ h i k N
def fK (h:List Ev) (N i n:Nat):Bool := (List.range n).all fun k => !(pairB h i k) || fJ h i k N
def cI (h:List Ev) (N n:Nat):Bool := (List.range n).all fun i => cK h N i N
def fI (h:List Ev) (N n:Nat):Bool := (List.range n).all fun i => fK h N i N
theorem all_step (p:Nat → Bool) (n:Nat):(List.range (n + 1)).all p = ((List.range n).all p && p n) := by
 rw [List.range_succ,List.all_append]
 simp
theorem any_step (p:Nat → Bool) (n:Nat):(List.range (n + 1)).any p = ((List.range n).any p || p n) := by
 rw [List.range_succ,List.any_append]
 simp
theorem said_once {h:List Ev} {N i k:Nat} (hg:Good h N) (hN:N ≤ h.length) (hik:i < k) (hk:k < N) (h1:(ev h i).2.1 = 2) (h2:(ev h k).2.1 = 2):(ev h i).2.2 ≠ (ev h k).2.2 := by
 intro e
 have hnx := hg k hk
 unfold next at hnx
 rw [if_neg (by rw [good_one hg hk]; decide),if_pos] at hnx
 ·omega
 ·exact ⟨h2,List.any_eq_true.2 ⟨_,mem_take_ev (by omega) hik,by simp [says,h1,e]⟩⟩
theorem hear_other {h:List Ev} {N k j:Nat} (hg:Good h N) (hN:N ≤ h.length) (hkj:k < j) (hj:j < N) (h2:(ev h k).2.1 = 2) (h3:(ev h j).2.1 = 3) (hw:(ev h j).2.2 = (ev h k).2.2):(ev h j).1 ≠ (ev h k).1 := by
 intro e
 have a:has (ev h k).1 (ev h k) = true := by simp [has,h2]
 have b:has (ev h k).1 (ev h j) = true := by simp [has,h3,e]
 exact once hg hN hkj hj a b hw.symm
theorem hear_later {h:List Ev} {k j:Nat} (hg:Good h h.length) (hk:k < h.length) (hj:j < h.length) (h2:(ev h k).2.1 = 2) (hne:(ev h j).2.1 ≠ 1) (hwho:(ev h j).1 ≠ (ev h k).1) (hw:(ev h j).2.2 = (ev h k).2.2):k < j ∧ (ev h j).2.1 = 3 := by
 have h3:(ev h j).2.1 = 3 := by
  rcases isOne_what (good_one hg hj) with ⟨a,_⟩ | ⟨a | a,_⟩
  ·exact absurd a hne
  ·exfalso
   rcases Nat.lt_trichotomy j k with b | b | b
   ·exact said_once hg (Nat.le_refl _) b hk a h2 hw
   ·subst b; exact hwho rfl
   ·exact said_once hg (Nat.le_refl _) b hj h2 a hw.symm
  ·exact a
 refine ⟨?_,h3⟩
 have hs := sayAt_lt hg hj h3
 have hsy := hs.2.2
 simp only [says,Bool.and_eq_true,decide_eq_true_eq] at hsy
 rcases Nat.lt_trichotomy (sayAt h (ev h j).2.2) k with b | b | b
 ·exact absurd (hsy.2.trans hw) (said_once hg (Nat.le_refl _) b hk hsy.1 h2)
 ·omega
 ·omega
theorem hv5_cJ {h:List Ev} (hg:Good h h.length) {i k:Nat} (hk:k < h.length) (h2:(ev h k).2.1 = 2):hv5 h (ev h i) (ev h k) = cJ h i k h.length := by
 rw [Bool.eq_iff_iff,hv5_iff hg]
 unfold cJ
 simp only [List.all_eq_true,List.mem_range,Bool.not_eq_true',missB]
 constructor
 ·intro ha j hj
  by_cases hkj:k < j
  ·by_cases h3:(ev h j).2.1 = 3
   ·by_cases hw:(ev h j).2.2 = (ev h k).2.2
    ·obtain ⟨m,hm,hh,he⟩ := ha j hj (by omega) (hear_other hg (Nat.le_refl _) hkj hj h2 h3 hw) hw
     have:hadB h i j j = true := by
      unfold hadB
      rw [List.any_eq_true]
      refine ⟨m,List.mem_range.2 hm,?_⟩
      simp only [has,Bool.and_eq_true,decide_eq_true_eq] at hh
      simp [hh.1,hh.2,he]
     simp [this]
    ·simp [hw]
   ·simp [h3]
  ·simp [hkj]
 ·intro ha j hj hne hwho hw
  obtain ⟨hkj,h3⟩ := hear_later hg hk hj h2 hne hwho hw
  have := ha j hj
  simp only [hkj,h3,hw,decide_true,Bool.true_and,Bool.not_eq_false'] at this
  unfold hadB at this
  rw [List.any_eq_true] at this
  obtain ⟨m,hm,hh⟩ := this
  simp only [Bool.and_eq_true,decide_eq_true_eq] at hh
  refine ⟨m,List.mem_range.1 hm,?_,hh.1.2⟩
  simp only [has,Bool.and_eq_true,decide_eq_true_eq]
  exact ⟨hh.1.1,hh.2⟩
theorem caus_eq {h:List Ev} (hg:Good h h.length):causB h = cI h h.length h.length := by
 rw [Bool.eq_iff_iff]
 unfold causB
 rw [keep_iff]
 unfold cI cK
 simp only [List.all_eq_true,List.mem_range,Bool.or_eq_true,Bool.not_eq_true',pairB]
 constructor
 ·intro ha i hi k hk
  by_cases hik:i < k
  ·by_cases h1:(ev h i).2.1 = 2
   ·by_cases h2:(ev h k).2.1 = 2
    ·cases hb:bef h i k with
     | true => right; rw [← hv5_cJ hg hk h2]; exact ha i k hik hk h1 h2 hb
     | false => left; simp
    ·left; simp [h2]
   ·left; simp [h1]
  ·left; simp [hik]
 ·intro ha i k hik hk h1 h2 hb
  rw [hv5_cJ hg hk h2]
  rcases ha i (by omega) k hk with a | a
  ·simp [hik,h1,h2,hb] at a
  ·exact a
theorem fifo_eq {h:List Ev} (hg:Good h h.length):fifoB h = fI h h.length h.length := by
 rw [Bool.eq_iff_iff]
 unfold fifoB
 rw [keep_iff]
 unfold fI fK fJ
 simp only [List.all_eq_true,List.mem_range,Bool.or_eq_true,Bool.not_eq_true',pairB]
 constructor
 ·intro ha i hi k hk
  by_cases hik:i < k
  ·by_cases h1:(ev h i).2.1 = 2
   ·by_cases h2:(ev h k).2.1 = 2
    ·cases hb:smB h i k with
     | true => right; right; rw [← hv5_cJ hg hk h2]; exact ha i k hik hk h1 h2 hb
     | false => right; left; rfl
    ·left; simp [h2]
   ·left; simp [h1]
  ·left; simp [hik]
 ·intro ha i k hik hk h1 h2 hb
  rw [hv5_cJ hg hk h2]
  rcases ha i (by omega) k hk with a | a | a
  ·simp [hik,h1,h2,sm_bef hg hik hk hb] at a
  ·rw [hb] at a; exact absurd a (by decide)
  ·exact a
def unB (x y:List Int) (i k:Nat):Bool := decide (i < k) && decide (x.getD i 0 ∈ y) && decide (x.getD k 0 ∈ y) && decide (ix y (x.getD k 0) < ix y (x.getD i 0))
def tK (x y:List Int) (i n:Nat):Bool := (List.range n).all fun k => !(unB x y i k)
def tI (x y:List Int) (n:Nat):Bool := (List.range n).all fun i => tK x y i x.length
def tC (h:List Ev) (a n:Nat):Bool := (List.range n).all fun c => tI (hrd h a) (hrd h c) (hrd h a).length
def tA (h:List Ev) (n:Nat):Bool := (List.range n).all fun a => tC h a a
theorem ag1_tI {x y:List Int} (hx:x.Nodup) (hy:y.Nodup):ag1 x y = tI x y x.length := by
 rw [Bool.eq_iff_iff,ag1_iff hx hy,List.pairwise_iff_getElem]
 unfold tI tK
 simp only [List.all_eq_true,List.mem_range,Bool.not_eq_true',unB]
 have e:∀ j (hj:j < x.length),x.getD j 0 = x[j] := by
  intro j hj
  simp [List.getD,hj]
 constructor
 ·intro ha i hi k hk
  rw [e i hi,e k hk]
  by_cases hik:i < k
  ·by_cases h1:x[i] ∈ y
   ·by_cases h2:x[k] ∈ y
    ·have := ha i k hi hk hik h1 h2
     simp [h1,h2,hik,this]
    ·simp [h2]
   ·simp [h1]
  ·simp [hik]
 ·intro ha i k hi hk hik h1 h2
  have := ha i hi k hk
  rw [e i hi,e k hk] at this
  simp [h1,h2,hik] at this
  exact this
theorem tot_eq {h:List Ev} (hg:Good h h.length):totB h = tA h 5 := by
 unfold totB tA tC
 congr 1
 funext m
 congr 1
 funext o
 exact ag1_tI (hrd_nd hg _) (hrd_nd hg _)
end Go.Proofs.YtdmniblonikjlakGreatDoor.His
