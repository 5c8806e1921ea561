/-
  Plain facts on a question that is not heard ahead of its answer, and on histories in which only one speaks.
-/
import Derived.Test.YtmnjihkllojapabFacM
namespace Go.Proofs.Ytmnjihkllojapab.His

def oneH : List Ev := [(0, 2, 1), (1, 3, 1), (1, 2, 2), (2, 3, 2)]
theorem oneH_good : Good oneH 4 := by
  intro i hi
  rcases i with _ | _ | _ | _ | i <;> first | omega | decide
theorem oneH_caus : causB oneH = false := by decide
theorem oneH_fifo : fifoB oneH = true := by decide
theorem oneH_tot : totB oneH = true := by decide

/-- two words of two -/
def apB (h : List Ev) (i k : Nat) : Bool := decide ((ev h i).2.1 = 2) && decide ((ev h k).2.1 = 2) && !(decide ((ev h i).1 = (ev h k).1))
def alK (h : List Ev) (i n : Nat) : Bool := (List.range n).all fun k => !(apB h i k)
def alI (h : List Ev) (n : Nat) : Bool := (List.range n).all fun i => alK h i i
theorem alI_fifo {h : List Ev} (hg : Good h h.length) (ha : alI h h.length = true) : fifoB h = causB h := by
  refine alone_fifo hg fun i k hki hi h1 h2 => ?_
  unfold alI alK at ha
  simp only [List.all_eq_true, List.mem_range] at ha
  have := ha i hi k hki
  simp [apB, h1, h2] at this
  exact this
theorem nil_caus : causB [] = true := rfl
theorem nil_tot : totB [] = true := by decide
end Go.Proofs.Ytmnjihkllojapab.His
