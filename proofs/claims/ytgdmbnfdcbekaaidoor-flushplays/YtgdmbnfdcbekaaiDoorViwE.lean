/-
  Errors and lists of numbers as with a leader; views that are seen.
-/
import Derived.Test.YtgdmbnfdcbekaaiDoorViwM
import Derived.Test.YtgdmbnfdcbekaaiDoorLdrE
namespace Go.Proofs.YtgdmbnfdcbekaaiDoor.Viw
open Go.RowKit
open Go.Proofs.YtgdmbnfdcbekaaiDoor.Vec (Vw)
open Go.Proofs.YtgdmbnfdcbekaaiDoor.Ldr (errF errF_ok errF_no Sl)
set_option linter.unusedVariables false

/-- a slice of views, each seen -/
def Vs (w : World) (a : Option Addr) (len : Nat) (l : List Vi) : Prop :=
  l.length = len ∧ (0 < len → ∃ b off, a = some ⟨b, off, none⟩ ∧ b < w.heap.size ∧ ∀ k, k < len → ∃ q c, w.cell? ⟨b, off + k * 2, none⟩ = some (.int .i64 (vw l k).n) ∧ w.cell? ⟨b, off + k * 2 + 1, none⟩ = some (.slice q (vw l k).has.length c) ∧ Sl w (.slice q (vw l k).has.length c) (vw l k).has)
theorem Vs.later {w w' : World} {a : Option Addr} {len : Nat} {l : List Vi} (h : Vs w a len l) (hb : Below w.heap.size w w') : Vs w' a len l := by
  refine ⟨h.1, fun q => ?_⟩
  obtain ⟨b, off, e, hlt, hc⟩ := h.2 q
  refine ⟨b, off, e, Nat.lt_of_lt_of_le hlt hb.size, fun k hk => ?_⟩
  obtain ⟨x, c, h1, h2, h3⟩ := hc k hk
  exact ⟨x, c, (hb.cell (p := ⟨b, off + k * 2, none⟩) hlt).trans h1, (hb.cell (p := ⟨b, off + k * 2 + 1, none⟩) hlt).trans h2, h3.later hb⟩
theorem Vs.nil (w : World) : Vs w .none 0 [] := ⟨rfl, fun q => absurd q (by decide)⟩
def sv (n : Int) (u : Value) (j : Nat) : Value := if j = 0 then .int .i64 n else u
/-- a view in a variable -/
structure Bv (w : World) (B : Nat) (v : Vi) (u : Value) : Prop where
  row : w.rowIs B 30 2 (sv v.n u)
  sl : Sl w u v.has
theorem Bv.later {w w' : World} {B : Nat} {v : Vi} {u : Value} (h : Bv w B v u) (hb : Below w.heap.size w w') : Bv w' B v u := ⟨World.rowIs.of_block h.row (hb.block B (World.rowIs.lt h.row)), h.sl.later hb⟩
theorem Bv.made (w : World) {v : Vi} {u : Value} (h : Sl w u v.has) : Bv (w.alloc (.cells #[.int .i64 v.n, u] 30)) w.heap.size v u := ⟨World.rowIs_alloc w #[.int .i64 v.n, u] 30 (sv v.n u) (fun i hi => by rcases i with _ | _ | i <;> first | rfl | (exfalso; have : _ < 2 := hi; omega)), h.later ((Below.refl _ _).alloc (Nat.le_refl _) _)⟩
theorem Bv.c0 {w : World} {B : Nat} {v : Vi} {u : Value} (h : Bv w B v u) : w.cell? ⟨B, 0, none⟩ = some (.int .i64 v.n) := World.rowIs.cell h.row (i := 0) (by omega)
theorem Bv.c1 {w : World} {B : Nat} {v : Vi} {u : Value} (h : Bv w B v u) : w.cell? ⟨B, 1, none⟩ = some u := World.rowIs.cell h.row (i := 1) (by omega)
theorem Bv.lt {w : World} {B : Nat} {v : Vi} {u : Value} (h : Bv w B v u) : B < w.heap.size := World.rowIs.lt h.row
/-- two views, written out -/
theorem Vs.two (w : World) {v v' : Vi} {q q' : Option Addr} {c c' : Nat} (h : Sl w (.slice q v.has.length c) v.has) (h' : Sl w (.slice q' v'.has.length c') v'.has) (t : TypeId) : Vs (w.alloc (.cells #[.int .i64 v.n, .slice q v.has.length c, .int .i64 v'.n, .slice q' v'.has.length c'] t)) (some ⟨w.heap.size, 0, none⟩) 2 [v, v'] := by
  have hb : Below w.heap.size w (w.alloc (.cells #[.int .i64 v.n, .slice q v.has.length c, .int .i64 v'.n, .slice q' v'.has.length c'] t)) := (Below.refl _ _).alloc (Nat.le_refl _) _
  refine ⟨rfl, fun _ => ⟨w.heap.size, 0, rfl, by simp, fun k hk => ?_⟩⟩
  have r := World.rowIs_alloc w #[.int .i64 v.n, .slice q v.has.length c, .int .i64 v'.n, .slice q' v'.has.length c'] t (fun i => if i = 0 then .int .i64 v.n else if i = 1 then .slice q v.has.length c else if i = 2 then .int .i64 v'.n else .slice q' v'.has.length c') (fun i hi => by rcases i with _ | _ | _ | _ | i <;> first | rfl | (exfalso; have : _ < 4 := hi; omega))
  rcases (show k = 0 ∨ k = 1 by omega) with rfl | rfl
  · exact ⟨q, c, World.rowIs.cell r (i := 0) (by simp), World.rowIs.cell r (i := 1) (by simp), h.later hb⟩
  · exact ⟨q', c', World.rowIs.cell r (i := 2) (by simp), World.rowIs.cell r (i := 3) (by simp), h'.later hb⟩
theorem sl_len {w : World} {q : Option Addr} {n c : Nat} {l : List Int} (h : Sl w (.slice q n c) l) : n = l.length := by
  obtain ⟨_, _, e, _⟩ := h
  injection e
theorem Sl.form {w : World} {u : Value} {l : List Int} (h : Sl w u l) : ∃ q c, u = .slice q l.length c := by
  obtain ⟨q, c, e, _⟩ := h
  exact ⟨q, c, e⟩
end Go.Proofs.YtgdmbnfdcbekaaiDoor.Viw
