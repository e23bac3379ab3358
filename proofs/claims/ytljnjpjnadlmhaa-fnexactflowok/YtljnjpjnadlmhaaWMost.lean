/- Walk of impl.mostWays: one way more, again and again. -/
import Derived.Test.YtljnjpjnadlmhaaPartWWhere
import Derived.Test.YtljnjpjnadlmhaaPartWTell
namespace Go.Proofs.Ytljnjpjnadlmhaa
open Go.RowKit
set_option linter.unusedVariables false

theorem stepT_comm (S x y : Nat) : stepT S x y = stepT S y x := by unfold stepT pbit; rw [Int.min_comm, Int.max_comm]
theorem Flw.void (T : Nat → Nat → Bool) (a b : Nat) : Flw T a b (fun _ _ => 0) 0 := ⟨fun _ _ => by simp, fun _ _ => by simp, fun _ _ _ => rfl, fun _ _ _ _ => su_zero 8, su_zero 8⟩
theorem Fm.first (w : World) : Fm (w.alloc (.map #[] 0)) w.heap.size 0 (fun _ _ => 0) := ⟨.map [], World.ownsMap_made _ _ _ _, fun _ _ _ _ => rfl⟩
theorem Fm.next {w w' : World} {B n : Nat} {F : Nat → Nat → Int} (h : Fm w B n F) (hb : Below w.heap.size w w') : Fm w' B n F := h.below hb h.lt
/-- what stands: the set, the map of what goes, and its variable -/
structure Mst (w wr : World) (S n : Nat) (F : Nat → Nat → Int) : Prop where
  B : Below w.heap.size w wr
  sz : w.heap.size + 3 ≤ wr.heap.size
  set : wr.cell? ⟨w.heap.size, 0, none⟩ = some (.int .u64 (S : Int))
  f : wr.cell? ⟨w.heap.size + 2, 0, none⟩ = some (.map (some (w.heap.size + 1)))
  m : Fm wr (w.heap.size + 1) n F
theorem Mst.next {w wr w' : World} {S n : Nat} {F : Nat → Nat → Int} (h : Mst w wr S n F) (hb : Below wr.heap.size wr w') : Mst w w' S n F :=
  have hz := h.sz
  ⟨h.B.trans (hb.mono h.B.size), Nat.le_trans h.sz hb.size, (hb.cell (p := ⟨w.heap.size, 0, none⟩) (by show w.heap.size < _; omega)).trans h.set, (hb.cell (p := ⟨w.heap.size + 2, 0, none⟩) (by show w.heap.size + 2 < _; omega)).trans h.f, h.m.next hb⟩
theorem Mst.first (w : World) (S : Nat) (t1 t2 : TypeId) : Mst w (((w.alloc (.cells #[.int .u64 (S : Int)] t1)).alloc (.map #[] 0)).alloc (.cells #[.map (some (w.heap.size + 1))] t2)) S 0 (fun _ _ => 0) := by
  have b1 := below_one w (.cells #[.int .u64 (S : Int)] t1)
  have c1 : (w.alloc (.cells #[.int .u64 (S : Int)] t1)).cell? ⟨w.heap.size, 0, none⟩ = some (.int .u64 (S : Int)) := World.cell?_alloc_at _ _ _ _ rfl
  obtain ⟨W1, h1⟩ : ∃ W1, W1 = w.alloc (.cells #[.int .u64 (S : Int)] t1) := ⟨_, rfl⟩
  have s1 : W1.heap.size = w.heap.size + 1 := by rw [h1]; simp
  rw [← h1] at b1 c1 ⊢
  clear h1
  have b2 := below_one W1 (.map #[] 0)
  have m2 := Fm.first W1
  rw [s1] at m2
  obtain ⟨W2, h2⟩ : ∃ W2, W2 = W1.alloc (.map #[] 0) := ⟨_, rfl⟩
  have s2 : W2.heap.size = w.heap.size + 2 := by rw [h2]; simp; omega
  rw [← h2] at b2 m2 ⊢
  clear h2
  have b3 := below_one W2 (.cells #[.map (some (w.heap.size + 1))] t2)
  exact ⟨b1.trans ((b2.mono (by omega)).trans (b3.mono (by omega))), by simp; omega, (b3.cell (p := ⟨w.heap.size, 0, none⟩) (by show w.heap.size < _; omega)).trans ((b2.cell (p := ⟨w.heap.size, 0, none⟩) (by show w.heap.size < _; omega)).trans c1), World.cell?_alloc_at _ _ _ _ s2.symm, m2.next b3⟩
/-- what one was told: a way, or that there is none -/
def Wr (S : Nat) (F : Nat → Nat → Int) (a b : Nat) (l : List Int) (ok : Bool) : Prop := (ok = true ∧ ∃ M p, l = cI p ∧ WayF (stepT S) F a M p ∧ endW p = b) ∨ (ok = false ∧ ∃ M, Wq (stepT S) F a b M [] (fun _ => False))
end Go.Proofs.Ytljnjpjnadlmhaa
