/- Texts put together: WForest, WForest2. -/
import Derived.Test.YtljnjpjnadlmhaaPartWInts
import Derived.Test.YtljnjpjnadlmhaaPartWLeaf
import Derived.Test.YtljnjpjnadlmhaaMath5
import Derived.Test.YtljnjpjnadlmhaaPartWTies
/- Walks of impl.forest.least, impl.forest.join. -/
namespace Go.Proofs.Ytljnjpjnadlmhaa
open Go.RowKit
set_option linter.unusedVariables false

def pcellN (f : Nat → Nat) (j : Nat) : Value := .int .i64 (f j : Int)
theorem join_cells (f : Nat → Nat) (a b j : Nat) : (if j = max (top f a) (top f b) then Value.int .i64 ((min (top f a) (top f b) : Nat) : Int) else pcellN f j) = pcellN (join f a b) j := by
  unfold pcellN join
  by_cases e : j = max (top f a) (top f b)
  · rw [if_pos e, if_pos e]
  · rw [if_neg e, if_neg e]
def joinB (f : Nat → Nat) (a b : Nat) : Bool := decide (top f a ≠ top f b)
end Go.Proofs.Ytljnjpjnadlmhaa

/- Walk of impl.forestOf. -/
namespace Go.Proofs.Ytljnjpjnadlmhaa
open Go.RowKit
set_option linter.unusedVariables false

def zcell (_ : Nat) : Value := .int .i64 0
def idTo (k j : Nat) : Value := .int .i64 (if j < k then (j : Int) else 0)
theorem idTo_step (k j : Nat) : (if j = k then Value.int .i64 (k : Int) else idTo k j) = idTo (k + 1) j := by
  unfold idTo
  by_cases h : j = k
  · subst h; rw [if_pos rfl, if_pos (by omega)]
  · rw [if_neg h]
    by_cases h2 : j < k
    · rw [if_pos h2, if_pos (by omega)]
    · rw [if_neg h2, if_neg (by omega)]
/-- a forest as a value -/
def forestV (f : Nat → Nat) : Value := .agg #[.int .i64 ((f 0 : Nat) : Int), .int .i64 ((f 1 : Nat) : Int), .int .i64 ((f 2 : Nat) : Int), .int .i64 ((f 3 : Nat) : Int), .int .i64 ((f 4 : Nat) : Int), .int .i64 ((f 5 : Nat) : Int), .int .i64 ((f 6 : Nat) : Int), .int .i64 ((f 7 : Nat) : Int)]
theorem zeros_own (w : World) (t : TypeId) : OwnI (w.alloc (.cells #[.int .i64 0, .int .i64 0, .int .i64 0, .int .i64 0, .int .i64 0, .int .i64 0, .int .i64 0, .int .i64 0] t)) w.heap.size 8 zcell := by
  refine ⟨fun j hj => (World.cell?_alloc_at _ _ _ _ rfl).trans ?_, fun j => World.frozen?_alloc_at _ _ _ _ rfl, by simp⟩
  have : j = 0 ∨ j = 1 ∨ j = 2 ∨ j = 3 ∨ j = 4 ∨ j = 5 ∨ j = 6 ∨ j = 7 := by omega
  rcases this with rfl | rfl | rfl | rfl | rfl | rfl | rfl | rfl <;> rfl

/-- what stands while a forest is made: its own block A, the answer's block, all that was there -/
structure Fst (w wr : World) (A : Nat) (c : Nat → Value) : Prop where
  R : OwnI wr w.heap.size 8 zcell
  F : OwnI wr A 8 c
  B : Below w.heap.size w wr
  h : w.heap.size < A
theorem Fst.next {w wr w' : World} {A : Nat} {c : Nat → Value} (h : Fst w wr A c) (hb : Below wr.heap.size wr w') : Fst w w' A c :=
  ⟨h.R.below hb h.R.2.2, h.F.below hb h.F.2.2, h.B.trans (hb.mono h.B.size), h.h⟩
theorem Fst.turn {w wr w' : World} {A : Nat} {c c' : Nat → Value} (h : Fst w wr A c) (ht : Turned A (A + 1) wr w') (hF : OwnI w' A 8 c') : Fst w w' A c' :=
  ⟨h.R.turn ht (Or.inl h.h), hF, h.B.trans (ht.under (Nat.le_of_lt h.h) h.B.size), h.h⟩
theorem Fst.start (w : World) (t : TypeId) : Fst w ((w.alloc (.cells #[.int .i64 0, .int .i64 0, .int .i64 0, .int .i64 0, .int .i64 0, .int .i64 0, .int .i64 0, .int .i64 0] t)).alloc (.cells #[.int .i64 0, .int .i64 0, .int .i64 0, .int .i64 0, .int .i64 0, .int .i64 0, .int .i64 0, .int .i64 0] t)) (w.heap.size + 1) (idTo 0) := by
  refine ⟨(zeros_own w t).below (below_one _ _) (by simp), ?_, below_two _ _ _, by omega⟩
  have h := zeros_own (w.alloc (.cells #[.int .i64 0, .int .i64 0, .int .i64 0, .int .i64 0, .int .i64 0, .int .i64 0, .int .i64 0, .int .i64 0] t)) t
  have e : (w.alloc (.cells #[.int .i64 0, .int .i64 0, .int .i64 0, .int .i64 0, .int .i64 0, .int .i64 0, .int .i64 0, .int .i64 0] t)).heap.size = w.heap.size + 1 := by simp
  rw [e] at h
  exact h.congr (fun j _ => by simp [zcell, idTo])
theorem forest_own (w : World) (f : Nat → Nat) (t : TypeId) : OwnI (w.alloc (.cells #[.int .i64 ((f 0 : Nat) : Int), .int .i64 ((f 1 : Nat) : Int), .int .i64 ((f 2 : Nat) : Int), .int .i64 ((f 3 : Nat) : Int), .int .i64 ((f 4 : Nat) : Int), .int .i64 ((f 5 : Nat) : Int), .int .i64 ((f 6 : Nat) : Int), .int .i64 ((f 7 : Nat) : Int)] t)) w.heap.size 8 (pcellN f) := by
  refine ⟨fun j hj => (World.cell?_alloc_at _ _ _ _ rfl).trans ?_, fun j => World.frozen?_alloc_at _ _ _ _ rfl, by simp⟩
  have : j = 0 ∨ j = 1 ∨ j = 2 ∨ j = 3 ∨ j = 4 ∨ j = 5 ∨ j = 6 ∨ j = 7 := by omega
  rcases this with rfl | rfl | rfl | rfl | rfl | rfl | rfl | rfl <;> rfl
/-- the answer's block is there, a forest in a block of its own was laid -/
theorem Fst.laid (w w1 : World) (f : Nat → Nat) (t t' : TypeId) (hb : Below (w.alloc (.cells #[.int .i64 0, .int .i64 0, .int .i64 0, .int .i64 0, .int .i64 0, .int .i64 0, .int .i64 0, .int .i64 0] t)).heap.size (w.alloc (.cells #[.int .i64 0, .int .i64 0, .int .i64 0, .int .i64 0, .int .i64 0, .int .i64 0, .int .i64 0, .int .i64 0] t)) w1) :
    Fst w (w1.alloc (.cells #[.int .i64 ((f 0 : Nat) : Int), .int .i64 ((f 1 : Nat) : Int), .int .i64 ((f 2 : Nat) : Int), .int .i64 ((f 3 : Nat) : Int), .int .i64 ((f 4 : Nat) : Int), .int .i64 ((f 5 : Nat) : Int), .int .i64 ((f 6 : Nat) : Int), .int .i64 ((f 7 : Nat) : Int)] t')) w1.heap.size (pcellN f) := by
  have z := zeros_own w t
  have s := hb.size
  simp at s
  exact ⟨(z.below hb z.2.2).below (below_one _ _) (by omega), forest_own w1 f t', ((below_one w _).trans (hb.mono (by simp))).trans ((below_one w1 _).mono (by omega)), by omega⟩
end Go.Proofs.Ytljnjpjnadlmhaa
