/- Texts put together: WReach, WQuiet. -/
import Derived.Test.YtoldljbbjhipnaaDoorPartWRows
import Derived.Test.YtoldljbbjhipnaaDoorWSpecOk
import Derived.Deep.LoopGhost
import Derived.BigRegion
import Derived.Test.YtoldljbbjhipnaaDoorPartWLeaf
/- Walk of spec.WayReach. -/
namespace Go.Proofs.YtoldljbbjhipnaaDoor
open Go.RowKit
set_option linter.unusedVariables false

theorem Tryd.infoBool : (Tryd.prog.info? 4).map (fun i => (i.zero, i.size, i.bytes)) = some (some (.bool false), 1, 1) := by kernel_rfl
def bcell (M : Nat → Bool) (j : Nat) : Value := .bool (M j)
theorem OwnI.madeB {w : World} {g n cap : Nat} {base : Nat} (h : w.ownsRow base 4 1 (.slice (some ⟨g, 0, none⟩) n cap) n (madeCells #[.bool false] n).toList) : OwnI w g n (bcell fun _ => false) := by
  refine ⟨fun j hj => ?_, fun j => h.frozenAt j, ?_⟩
  · rw [h.cellAt j (by omega)]
    have hm : j % 1 = 0 := by omega
    simp [madeCells, hj, bcell, hm]
  · rcases h.2 with ⟨h', _⟩ | ⟨g', cap', cur, h', _, hg, _⟩
    · simp at h'
    · simp only [Value.slice.injEq, Option.some.injEq, Addr.mk.injEq, and_true, true_and] at h'
      obtain ⟨rfl, _⟩ := h'
      exact (Array.getElem?_eq_some_iff.1 hg).1
theorem mark_cells (M : Nat → Bool) (y j : Nat) : (if j = y then Value.bool true else bcell M j) = bcell (mark M y) j := by
  unfold bcell mark
  by_cases e : j = y
  · rw [if_pos e, if_pos e]
  · rw [if_neg e, if_neg e]
/-- how long the answer is -/
def reachN (K : Int) (ts : List (Int × Int)) (a : Int) : Nat := if (okB K ts && knotB a K) = true then K.toNat else 0
/-- a row of cells of the call's own -/
def OwnR (w : World) (lo hi : Nat) (ao : Option Addr) (n : Nat) (f : Nat → Value) : Prop :=
  (n = 0 ∧ ao = none) ∨ ∃ g, ao = some ⟨g, 0, none⟩ ∧ lo ≤ g ∧ g < hi ∧ OwnI w g n f
theorem own_new (w : World) (t : TypeId) (f : Nat → Value) : OwnI (w.alloc (.cells #[] t)) w.heap.size 0 f := ⟨fun j hj => absurd hj (by omega), fun j => World.frozen?_alloc_at _ _ _ _ rfl, by simp⟩

/-- what stands while a net is gone through: the box, the marks at O, the row that waits -/
structure Bst (w wr : World) (Kn : Nat) (nv : Value) (O : Nat) (ts : List (Int × Int)) (x : Nat) (M : Nat → Bool) (row : List Nat) (g off cap : Nat) (ex : Nat → Prop) : Prop where
  X : Bx w wr (Kn : Int) nv
  I : OwnI wr O Kn (bcell M)
  R : RowS wr (O + 1) g off cap row
  F : Bfs (Kn : Int) ts x M row ex
  hO : w.heap.size < O
theorem Bst.next {w wr w' : World} {Kn : Nat} {nv : Value} {O : Nat} {ts : List (Int × Int)} {x : Nat} {M : Nat → Bool} {row : List Nat} {g off cap : Nat} {ex : Nat → Prop} (h : Bst w wr Kn nv O ts x M row g off cap ex) (hb : Below wr.heap.size wr w') : Bst w w' Kn nv O ts x M row g off cap ex :=
  ⟨h.X.next hb, h.I.below hb h.I.2.2, h.R.next hb, h.F, h.hO⟩
theorem Bst.pop {w wr : World} {Kn : Nat} {nv : Value} {O : Nat} {ts : List (Int × Int)} {x : Nat} {M : Nat → Bool} {z : Nat} {row : List Nat} {g off c : Nat} (h : Bst w wr Kn nv O ts x M (z :: row) g off (c + 1) (fun _ => False)) : Bst w wr Kn nv O ts x M row g (off + 1) c (fun y => y = z) :=
  ⟨h.X, h.I, h.R.tail, h.F.pop, h.hO⟩
/-- one is marked -/
theorem Bst.set {w wr : World} {Kn : Nat} {nv : Value} {O : Nat} {ts : List (Int × Int)} {x : Nat} {M : Nat → Bool} {row : List Nat} {g off cap : Nat} {ex : Nat → Prop} (h : Bst w wr Kn nv O ts x M row g off cap ex) {y : Nat} (hy : y < Kn) :
    Bx w (wr.setCell ⟨O, y, none⟩ (.bool true)) (Kn : Int) nv ∧ OwnI (wr.setCell ⟨O, y, none⟩ (.bool true)) O Kn (bcell (mark M y)) ∧ RowS (wr.setCell ⟨O, y, none⟩ (.bool true)) (O + 1) g off cap row := by
  have ht : Turned O (O + 1) wr (wr.setCell ⟨O, y, none⟩ (.bool true)) := ⟨rfl, rfl, rfl, by simp [World.setCell], fun k _ hk => Below.heap_setCell _ _ _ _ (by show k ≠ O; omega)⟩
  exact ⟨h.X.turn ht h.hO, (h.I.set hy _).congr (fun j _ => mark_cells M y j), h.R.turn ht (Or.inr h.R.lo)⟩

end Go.Proofs.YtoldljbbjhipnaaDoor

/- A region that draws its order and whose callees make memory of their own but answer alike in every world of a class: one walk in the order of the text. -/
namespace Go.Proofs.YtoldljbbjhipnaaDoor
open Go.RowKit
set_option linter.unusedVariables false

/-- a world of the class -/
structure Cls (D : World → Prop) where
  w : World
  ok : D w

theorem wp_region_cls (D : World → Prop) {P : Program} {id : Nat} {Q : Exit → Act → World → Prop} {a : Act} {w : World} {l : List Oper} (hm : P.follows .mixedOrders = true) (hB : Region.lexB .any l.toArray = true) (h0 : D w.drew)
    (h : wpQuiet P l.toArray (fun w' => ∃ u : Cls D, w' = u.w) (fun a' => ∀ w', (∃ u : Cls D, w' = u.w) → Q .normal a' w') l a) : (Code.region id l.toArray true).wp P Q a w :=
  wp_region_quiet (C := fun w' => ∃ u : Cls D, w' = u.w) hm hB ⟨⟨w.drew, h0⟩, rfl⟩ (by simpa using h)
theorem Calls.cls {D : World → Prop} {P : Program} {f : FuncId} {args : Array Value} {w : World} {v : Value}
    (h : Calls P f args w fun e w' => e = .returned v ∧ D w') : Calls P f args w fun e w'' => e = .returned v ∧ ∃ u : Cls D, w'' = u.w :=
  h.mono fun _ w' ⟨he, hm⟩ => ⟨he, ⟨w', hm⟩, rfl⟩

end Go.Proofs.YtoldljbbjhipnaaDoor
