/-
  Contract of package clock's Order: all events by their numbers, then by their members.
-/
import Derived.Test.YtibgdikahihgeabDoorClkD
namespace Go.Proofs.YtibgdikahihgeabDoor.His
open Go.RowKit
open Go.Proofs.YtibgdikahihgeabDoor.Vec
open Go.Sort (grow putRow Holds SWO PermIn SortedIn)

/-- what the order compares -/
def cf2 (h : List Ev) (len : Nat) (x y : Fin len) : Int := orI (cmpI (num h x) (num h y)) (cmpI (ev h x).1 (ev h y).1)
theorem cf2_lt {h : List Ev} {len : Nat} {x y : Fin len} : ltOf (cf2 h len) x y = true ↔ lt2 h x y := by
  unfold ltOf cf2 orI cmpI lt2
  rw [decide_eq_true_eq]
  by_cases h1 : num h x < num h y
  · simp [h1]
  · by_cases h2 : num h y < num h x
    · simp [h1, h2]; omega
    · have e : num h x = num h y := by omega
      rw [e]
      by_cases h3 : (ev h x).1 < (ev h y).1
      · simp [h3]
      · by_cases h4 : (ev h y).1 < (ev h x).1
        · simp [h3, h4]
        · simp [h3, h4]
theorem cf2_ge {h : List Ev} {len : Nat} {x y : Fin len} : ltOf (cf2 h len) x y = false ↔ ¬ lt2 h x y := by
  rw [← cf2_lt]
  cases ltOf (cf2 h len) x y <;> simp
theorem cf2_swo (h : List Ev) (len : Nat) : SWO (ltOf (cf2 h len)) where
  irrefl x := cf2_ge.2 lt2_irr
  trans x y z a b := cf2_lt.2 (lt2_trans (cf2_lt.1 a) (cf2_lt.1 b))
  ntrans x y z a b := by
    rw [cf2_ge] at *
    unfold lt2 at *
    omega
def encF (len : Nat) (x : Fin len) : Value := .int .i64 (x.val : Int)

/-- what is asked of a world that the sort passes through -/
theorem sw_cell {α : Type} [Inhabited α] (enc : α → Value) (w : World) (blk m : Nat) (dk : Array α) (os : Array Obj) (a : Addr) (h1 : a.block < w.heap.size) (h2 : a.block ≠ blk) : (sortWorld enc w blk 0 m dk os).cell? a = w.cell? a := by
  unfold sortWorld
  rw [Sort.cell?_grow _ _ _ (by simpa using h1), Sort.cell?_putRow_other _ _ _ _ _ _ (.inl h2)]
  rfl
theorem sw_size {α : Type} [Inhabited α] (enc : α → Value) (w : World) (blk m : Nat) (dk : Array α) (os : Array Obj) : w.heap.size ≤ (sortWorld enc w blk 0 m dk os).heap.size := by
  unfold sortWorld
  simp [Sort.ahead]
theorem sw_vw {α : Type} [Inhabited α] (enc : α → Value) (w : World) (blk m : Nat) (dk : Array α) (os : Array Obj) {A o n : Nat} {xs : List Int} (hv : Vw w (some ⟨A, o, none⟩) n xs) (hne : A ≠ blk) : Vw (sortWorld enc w blk 0 m dk os) (some ⟨A, o, none⟩) n xs := by
  refine ⟨hv.1, fun hn => ?_⟩
  obtain ⟨b, off, e, hlt, hc⟩ := hv.2 hn
  cases e
  refine ⟨A, o, rfl, Nat.lt_of_lt_of_le hlt (sw_size enc w blk m dk os), fun k hk => ?_⟩
  rw [sw_cell enc w blk m dk os _ hlt hne]
  exact hc k hk
theorem sw_ew {α : Type} [Inhabited α] (enc : α → Value) (w : World) (blk m : Nat) (dk : Array α) (os : Array Obj) {a : Option Addr} {n : Nat} {h : List Ev} (hv : Ew w a n h) (hne : ∀ x, a = some x → x.block ≠ blk) : Ew (sortWorld enc w blk 0 m dk os) a n h := by
  refine ⟨hv.1, fun hn => ?_⟩
  obtain ⟨b, off, rfl, hlt, hc⟩ := hv.2 hn
  have hb := hne _ rfl
  refine ⟨b, off, rfl, Nat.lt_of_lt_of_le hlt (sw_size enc w blk m dk os), fun k hk => ?_⟩
  rw [sw_cell enc w blk m dk os ⟨b, off + k * 3, none⟩ hlt hb, sw_cell enc w blk m dk os ⟨b, off + k * 3 + 1, none⟩ hlt hb, sw_cell enc w blk m dk os ⟨b, off + k * 3 + 2, none⟩ hlt hb]
  exact hc k hk
theorem sw_below {α : Type} [Inhabited α] (enc : α → Value) (w : World) (blk m : Nat) (dk : Array α) (os : Array Obj) (B : Nat) (hB : B ≤ blk) (hs : B ≤ w.heap.size) : Below B w (sortWorld enc w blk 0 m dk os) := by
  refine ⟨rfl, rfl, rfl, sw_size enc w blk m dk os, fun k hk => ?_⟩
  unfold sortWorld
  rw [Sort.heap_grow_old _ _ (by rw [Sort.size_putRow]; exact Nat.lt_of_lt_of_le hk hs)]
  show (w.heap.modify blk _)[k]? = _
  rw [Array.getElem?_modify, if_neg (by omega)]

theorem extract_all {α : Type} (d : Array α) (n : Nat) (h : d.size = n) : d.extract 0 n = d := by subst h; simp
def allF (len : Nat) : Array (Fin len) := (List.finRange len).toArray
theorem allF_size (len : Nat) : (allF len).size = len := by simp [allF]

/-- the sort, called by Order -/
theorem sort_call (a : Option Addr) (len cap : Nat) (h : List Ev) (A P1 P2 blk : Nat) (w : World) (hl0 : 0 < len) (hl60 : len ≤ 60) (hg : Good h len)
    (hp1 : w.cell? ⟨P1, 0, none⟩ = some (.slice (some ⟨A, 0, none⟩) len len)) (hp2 : w.cell? ⟨P2, 0, none⟩ = some (.slice a len cap)) (hn : Vw w (some ⟨A, 0, none⟩) len (nums h len)) (hv : Ew w a len h)
    (hP1 : P1 ≠ blk) (hP2 : P2 ≠ blk) (hA : A ≠ blk) (hb : ∀ x, a = some x → x.block ≠ blk) (hr : w.rowIs blk 3 len (fun i => .int .i64 (i : Int))) :
    Calls Tryd.prog 24 #[.slice (some ⟨blk, 0, none⟩) len len, .func (.func 25) #[] #[.pointer (some ⟨P1, 0, none⟩), .pointer (some ⟨P2, 0, none⟩)]] w fun e w' =>
      e = .returned (.tuple #[]) ∧ Below blk w w' ∧ ∃ o : List Nat, IsOrd h len o ∧ Vw w' (some ⟨blk, 0, none⟩) len (o.map Int.ofNat) := by
  haveI : Inhabited (Fin len) := ⟨⟨0, hl0⟩⟩
  have eg : ∀ args w, (callFunc 25 args).run Tryd.prog w = .ok (.enter 25 args) w := enters_of Tryd.func25 (by kernel_rfl) rfl
  have hget : ∀ j (hj : j < len), (allF len)[j]! = ⟨j, hj⟩ := by
    intro j hj
    rw [getElem!_pos _ j (by rw [allF_size]; exact hj)]
    simp [allF]
  have hH : Holds (encF len) w blk 0 (allF len) := by
    intro j hj
    rw [allF_size] at hj
    rw [hget j hj, Nat.zero_add]
    exact ⟨hr.cell hj, hr.frozen j⟩
  have hcmp : CmpLays1 Tryd.prog 25 #[.pointer (some ⟨P1, 0, none⟩), .pointer (some ⟨P2, 0, none⟩)] (encF len) (cf2 h len) blk 0 (allF len).size w := by
    intro m os dk _ x y
    have b1 := block_lt_of_cell hp1
    have b2 := block_lt_of_cell hp2
    exact order1 a len cap h A P1 P2 x.val y.val _ x.isLt y.isLt (by rw [sw_cell _ _ _ _ _ _ _ b1 hP1]; exact hp1) (by rw [sw_cell _ _ _ _ _ _ _ b2 hP2]; exact hp2) (sw_vw _ _ _ _ _ _ hn hA) (sw_ew _ _ _ _ _ _ hv hb)
  have hS := Any.slices_SortFunc Tryd.sortL (encF len) (fun _ => rfl) (cf2 h len) (cf2_swo h len) 25 #[.pointer (some ⟨P1, 0, none⟩), .pointer (some ⟨P2, 0, none⟩)] blk 0 len (allF len) w eg hcmp hH hr.lt (by rw [allF_size]; omega)
  rw [allF_size] at hS
  refine Calls.mono hS ?_
  rintro e w' ⟨rfl, d', n, os, hp, hs, rfl⟩
  have hsz : d'.size = len := by rw [hp.1, allF_size]
  have hperm : d'.toList.Perm (List.finRange len) := by
    have := hp.2.2
    rw [extract_all d' len hsz, extract_all (allF len) len (allF_size len)] at this
    simpa [allF] using this
  have hnd : d'.toList.Nodup := hperm.nodup_iff.2 (List.nodup_finRange len)
  refine ⟨rfl, sw_below _ _ _ _ _ _ blk (Nat.le_refl _) (Nat.le_of_lt hr.lt), d'.toList.map Fin.val, ⟨?_, ?_⟩, ?_⟩
  · rw [List.pairwise_map, List.pairwise_iff_getElem]
    intro i j hi hj hij
    have hi' : i < d'.size := by simpa using hi
    have hj' : j < d'.size := by simpa using hj
    have q := hs i j (Nat.zero_le _) hij (by omega)
    rw [getElem!_pos d' j hj', getElem!_pos d' i hi', cf2_ge] at q
    have ne : (d'[i]'hi').val ≠ (d'[j]'hj').val := by
      intro e
      have e2 : d'.toList[i] = d'.toList[j] := by simpa using Fin.ext e
      exact (List.pairwise_iff_getElem.1 hnd) i j hi hj hij e2
    have e1 : d'.toList[i] = d'[i]'hi' := by simp
    have e2 : d'.toList[j] = d'[j]'hj' := by simp
    rw [e1, e2]
    by_cases c : lt2 h (d'[i]'hi').val (d'[j]'hj').val
    · exact c
    · exact absurd (lt2_total hg (d'[i]'hi').isLt (d'[j]'hj').isLt c q) ne
  · intro i
    rw [List.mem_map]
    constructor
    · rintro ⟨x, _, rfl⟩
      exact x.isLt
    · intro hi
      exact ⟨⟨i, hi⟩, hperm.mem_iff.2 (List.mem_finRange _), rfl⟩
  · refine ⟨by simp [hsz], fun _ => ⟨blk, 0, rfl, Nat.lt_of_lt_of_le hr.lt (sw_size _ _ _ _ _ _), fun k hk => ?_⟩⟩
    unfold sortWorld
    rw [Sort.cell?_grow _ _ _ (by simpa using hr.lt)]
    have hH' : Holds (encF len) (Sort.ahead w n) blk 0 (allF len) := fun j hj => hH j hj
    rw [Sort.cell?_putRow _ _ _ _ _ _ hH' (by rw [hsz, allF_size]) k (by omega)]
    rw [getElem!_pos d' k (show k < d'.size by omega)]
    have : k < d'.size := by omega
    simp [encF, List.getD, this]

theorem rowIs_first {w : World} {B len k : Nat} {t : TypeId} (h : w.rowIs B t len (fun i => if i < k then .int .i64 (i : Int) else .int .i64 0)) : (w.setCell ⟨B, k, none⟩ (.int .i64 (k : Int))).rowIs B t len (fun i => if i < k + 1 then .int .i64 (i : Int) else .int .i64 0) := by
  refine (h.set k _).congr fun i _ => ?_
  by_cases e : i = k
  · subst e
    rw [if_pos rfl, if_pos (Nat.lt_succ_self _)]
  · rw [if_neg e]
    by_cases l : i < k
    · rw [if_pos l, if_pos (by omega)]
    · rw [if_neg l, if_neg (by omega)]

set_option maxRecDepth 100000 in
set_option maxHeartbeats 2000000 in
theorem order_ok (a : Option Addr) (len cap : Nat) (h : List Ev) (w : World) (hlc : len ≤ cap) (hm : cap ≤ maxLen) (hv : Ew w a len h) (hc : chkC h = 0) :
    Calls Tryd.prog 14 #[.slice a len cap] w fun e w' => (∃ B o, e = .returned (.tuple #[.slice (some ⟨B, 0, none⟩) len len, .nilIface]) ∧ IsOrd h len o ∧ Vw w' (some ⟨B, 0, none⟩) len (o.map Int.ofNat)) ∧ Below w.heap.size w w' := by
  obtain ⟨h60, hg⟩ := chk_zero hc
  rw [hv.1] at h60 hg
  have hmk := mk_ints len h60
  have HG : Hid (Good h len) := hg
  have B1 : Hid (Below w.heap.size w (w.alloc (.cells #[.slice a len cap] 22))) := (Below.refl _ _).alloc (Nat.le_refl _) _
  have V0 : Hid (Ew w a len h) := hv
  have P0 : Hid ((w.alloc (.cells #[.slice a len cap] 22)).cell? ⟨w.heap.size, 0, none⟩ = some (.slice a len cap)) := by simp [Hid]
  clear hg hv
  go_enter Tryd.func14, Tryd.ntmps14
  go_wp2_with fail
  refine (numbers_ok a len cap h _ hlc hm (V0.out.later B1.out) hc).mono ?_
  rintro e w1 ⟨A, rfl, hb, hn, hA1, hA2⟩
  have V1 : Hid (Below w.heap.size w w1) := below_up rfl B1.out hb
  have N1 : Hid (Vw w1 (some ⟨A, 0, none⟩) len (nums h len)) := hn
  have HA : Hid (A < w1.heap.size) := hA2
  have c1 : w1.cell? ⟨w.heap.size, 0, none⟩ = some (.slice a len cap) := (hb.cell (p := ⟨w.heap.size, 0, none⟩) (by simp)).trans P0.out
  have C1 : Hid (w1.cell? ⟨w.heap.size, 0, none⟩ = some (.slice a len cap)) := c1
  clear hb hn hA1 hA2
  have hw1 : w.heap.size < w1.heap.size := block_lt_of_cell c1
  go_wp2
  go_loopw [21] (fun i wr => ∃ k : Nat, k ≤ len ∧ i = .int .i64 k ∧ Hid (Below (w1.heap.size + 1) ((w1.alloc (.cells #[.slice (some ⟨A, 0, none⟩) len len] 33))) wr) ∧ Hid (wr.rowIs (w1.heap.size + 1) 3 len (fun i => if i < k then .int .i64 (i : Int) else .int .i64 0))) (fun i _ => len - (intOf i).toNat)
  case atStart =>
    refine ⟨0, by omega, rfl, (Below.refl _ _).alloc (by simp) _, ?_⟩
    have r := World.rowIs_made (w1.alloc (.cells #[.slice (some ⟨A, 0, none⟩) len len] 33)) (.int .i64 0) len 3
    rw [World.size_alloc] at r
    exact r.congr fun i _ => by simp
  case round =>
    obtain ⟨k, hk, rfl, hbel, hR⟩ := hrel
    clear hmk
    by_cases hlt : k < len
    · have hk0 : (0 : Int) ≤ (k : Int) := by omega
      have hkl : (k : Int) < (len : Int) := by omega
      have u0 := hR.out.cell hlt
      have z0 := hR.out.frozen k
      go_wp2
      go_roundw
      case rel =>
        exact ⟨k + 1, by omega, by go_num, hbel.out.setCell (p := ⟨_, _, none⟩) (Nat.le_refl _) _, rowIs_first hR.out⟩
      case measure => simp [intOf]; omega
    · have hkl : k = len := by omega
      subst hkl
      have R : Hid (wr.rowIs (w1.heap.size + 1) 3 k (fun i => .int .i64 (i : Int))) := hR.out.congr fun i hi => by rw [if_pos hi]
      have BB : Hid (Below w1.heap.size w1 wr) := ((Below.refl w1.heap.size w1).alloc (Nat.le_refl _) _).trans (hbel.out.mono (Nat.le_succ _))
      have p1 : wr.cell? ⟨w1.heap.size, 0, none⟩ = some (.slice (some ⟨A, 0, none⟩) k k) := (hbel.out.cell (p := ⟨w1.heap.size, 0, none⟩) (Nat.lt_succ_self _)).trans (by simp)
      have p2 : wr.cell? ⟨w.heap.size, 0, none⟩ = some (.slice a k cap) := (BB.out.cell (p := ⟨w.heap.size, 0, none⟩) hw1).trans C1.out
      have PP : Hid (wr.cell? ⟨w1.heap.size, 0, none⟩ = some (.slice (some ⟨A, 0, none⟩) k k) ∧ wr.cell? ⟨w.heap.size, 0, none⟩ = some (.slice a k cap)) := ⟨p1, p2⟩
      have VR : Hid (Below w.heap.size w wr) := below_up rfl V1.out BB.out
      have ES : Hid (∀ x, a = some x → 0 < k → x.block ≠ w1.heap.size + 1) := by
        intro x hx hk
        obtain ⟨b, off, e, hlt, _⟩ := V0.out.2 hk
        rw [hx] at e
        cases e
        show b ≠ _
        omega
      rcases Nat.eq_zero_or_pos k with h0 | h0
      · subst h0
        have hS := fun W => AnyF.slices_SortFunc_none (P := Tryd.prog) (ρ := Tryd.sortL_ren) { Tryd.sortL with } (some ⟨w1.heap.size + 1, 0, none⟩) 0 (.func (.func 25) #[] #[.pointer (some ⟨w1.heap.size, 0, none⟩), .pointer (some ⟨w.heap.size, 0, none⟩)]) W
        change ∀ W, Calls Tryd.prog 24 _ _ _ at hS
        go_wp2_with fail
        refine (hS _).mono ?_
        rintro e w3 ⟨rfl, rfl⟩
        clear hS c1 p1 p2
        go_wp2
        go_ret2
        exact ⟨⟨_, [], rfl, ⟨List.Pairwise.nil, fun i => by simp⟩, ⟨rfl, fun q => absurd q (by omega)⟩⟩, VR.out⟩
      · go_wp2_with fail
        refine (sort_call a k cap h A w1.heap.size w.heap.size (w1.heap.size + 1) _ h0 h60 HG.out PP.out.1 PP.out.2 (N1.out.later BB.out) (V0.out.later VR.out) (by omega) (by omega) (by have := HA.out; omega) (fun x hx => ES.out x hx h0) R.out).mono ?_
        rintro e w3 ⟨rfl, hb3, o, ho, hvo⟩
        have O3 : Hid (IsOrd h k o ∧ Vw w3 (some ⟨w1.heap.size + 1, 0, none⟩) k (o.map Int.ofNat)) := ⟨ho, hvo⟩
        have V3 : Hid (Below w.heap.size w w3) := VR.out.trans (hb3.mono (by omega))
        clear ho hvo hb3 c1 p1 p2
        go_wp2
        go_ret2
        exact ⟨⟨_, o, rfl, O3.out.1, O3.out.2⟩, V3.out⟩
set_option maxRecDepth 100000 in
theorem order_no (a : Option Addr) (len cap : Nat) (h : List Ev) (w : World) (hlc : len ≤ cap) (hm : cap ≤ maxLen) (hv : Ew w a len h) (hc : chkC h ≠ 0) :
    Calls Tryd.prog 14 #[.slice a len cap] w fun e w' => e = .returned (.tuple #[.slice none 0 0, .iface 43 (.int .i64 (chkC h))]) ∧ Below w.heap.size w w' := by
  have B1 : Hid (Below w.heap.size w (w.alloc (.cells #[.slice a len cap] 22))) := (Below.refl _ _).alloc (Nat.le_refl _) _
  have V0 : Hid (Ew w a len h) := hv
  clear hv
  go_enter Tryd.func14, Tryd.ntmps14
  go_wp2_with fail
  refine (numbers_no a len cap h _ hlc hm (V0.out.later B1.out) hc).mono ?_
  rintro e w1 ⟨rfl, hb⟩
  have V1 : Hid (Below w.heap.size w w1) := below_up rfl B1.out hb
  clear hb hc
  go_wp2
  go_ret2
  exact ⟨rfl, V1.out.alloc V1.out.size _⟩
end Go.Proofs.YtibgdikahihgeabDoor.His
