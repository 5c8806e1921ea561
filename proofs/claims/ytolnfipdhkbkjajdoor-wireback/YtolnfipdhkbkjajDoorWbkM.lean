/-
  Plain facts on bytes with one another one.
-/
import Derived.Test.YtolnfipdhkbkjajDoorWirM
namespace Go.Proofs.YtolnfipdhkbkjajDoor.Wir
open Go.Proofs.YtolnfipdhkbkjajDoor.Cau (Sd sdBad)
set_option linter.unusedVariables false

theorem bt_left {a b : ByteArray} {i : Nat} (h : i < a.size) : bt (a ++ b) i = bt a i := by
  rw [← bt_get (show i < (a ++ b).size by rw [ByteArray.size_append]; omega), ← bt_get h, ByteArray.getElem_append_left h]
theorem bt_right {a b : ByteArray} {i : Nat} (h : a.size ≤ i) (h' : i < a.size + b.size) : bt (a ++ b) i = bt b (i - a.size) := by
  rw [← bt_get (show i < (a ++ b).size by rw [ByteArray.size_append]; omega), ← bt_get (show i - a.size < b.size by omega), ByteArray.getElem_append_right h]
theorem bt_cut {t : ByteArray} {a b i : Nat} (h : a + i < b) (hb : b ≤ t.size) : bt (t.extract a b) i = bt t (a + i) := by
  rw [← bt_get (show i < (t.extract a b).size by rw [ByteArray.size_extract]; omega), ← bt_get (show a + i < t.size by omega), ByteArray.getElem_extract]
/-- bytes with another one at a place -/
def swap (t : ByteArray) (k : Nat) (to : Int) : ByteArray := t.extract 0 k ++ txt [to] ++ t.extract (k + 1) t.size
theorem swap_size {t : ByteArray} {k : Nat} (to : Int) (h : k < t.size) : (swap t k to).size = t.size := by
  unfold swap
  rw [ByteArray.size_append, ByteArray.size_append, ByteArray.size_extract, ByteArray.size_extract, txt_size]
  simp only [List.length_cons, List.length_nil]
  omega
theorem swap_at {t : ByteArray} {k : Nat} {to : Int} (h : k < t.size) (h0 : 0 ≤ to ∧ to < 256) : bt (swap t k to) k = to := by
  have e1 : (t.extract 0 k).size = k := by rw [ByteArray.size_extract]; omega
  have e2 : (txt [to]).size = 1 := txt_size _
  have hb : Byt [to] := fun n hn => by
    obtain rfl := List.mem_singleton.1 hn
    exact h0
  unfold swap
  rw [bt_left (by rw [ByteArray.size_append, e1, e2]; omega), bt_right (by omega) (by omega), e1, Nat.sub_self, bt_txt hb (by simp)]
  rfl
theorem swap_other {t : ByteArray} {k i : Nat} (to : Int) (h : k < t.size) (hi : i < t.size) (hne : i ≠ k) : bt (swap t k to) i = bt t i := by
  have e1 : (t.extract 0 k).size = k := by rw [ByteArray.size_extract]; omega
  have e2 : (txt [to]).size = 1 := txt_size _
  have e3 : (t.extract (k + 1) t.size).size = t.size - (k + 1) := by rw [ByteArray.size_extract]; omega
  unfold swap
  by_cases hlt : i < k
  · rw [bt_left (by rw [ByteArray.size_append, e1, e2]; omega), bt_left (by omega), bt_cut (by omega) (by omega), Nat.zero_add]
  · rw [bt_right (by rw [ByteArray.size_append, e1, e2]; omega) (by rw [ByteArray.size_append, e1, e2, e3]; omega), ByteArray.size_append, e1, e2, bt_cut (by omega) (by omega)]
    congr 1
    omega
/-- with one byte another one it is none -/
theorem swap_none {s : Sd} (h : packC s = 0) {k : Nat} {to : Int} (hk : k < 18) (h0 : 0 ≤ to ∧ to < 256) (hne : bt (txt (pk s)) k ≠ to) : okU (swap (txt (pk s)) k to) = false := by
  have hs : (txt (pk s)).size = 18 := by rw [txt_size, (pk_byt h).2]
  exact one_other (okU_pk h) hk (by rw [swap_at (by omega) h0]; exact fun e => hne e.symm) (fun i hi hn => swap_other to (by omega) (by omega) hn)
def fact : Sd := (1, 2, [0, 256, 0, 0, 0])
theorem fact_ok : packC fact = 0 := by decide
theorem fact_is : packS fact = txt (pk fact) := if_pos fact_ok
theorem fact_at : bt (packS fact) 6 = 1 ∧ bt (packS fact) 17 = 4 ∧ (packS fact).size = 18 := by
  rw [fact_is]
  decide
end Go.Proofs.YtolnfipdhkbkjajDoor.Wir
