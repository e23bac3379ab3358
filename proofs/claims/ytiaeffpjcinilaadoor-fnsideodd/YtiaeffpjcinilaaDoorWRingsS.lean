/- Walk of spec.TreeRings. -/
import Derived.Test.YtiaeffpjcinilaaDoorWFind0
import Derived.Test.YtiaeffpjcinilaaDoorWRings
import Derived.Test.YtiaeffpjcinilaaDoorPartWTree
import Derived.Test.YtiaeffpjcinilaaDoorPartWReach2
import Derived.Test.YtiaeffpjcinilaaDoorPartWRows
import Derived.Test.YtiaeffpjcinilaaDoorWCutV
import Derived.Deep.RegionHeld3
namespace Go.Proofs.YtiaeffpjcinilaaDoor
open Go.RowKit
set_option linter.unusedVariables false

/-- the rings of the first ties -/
def ringsTo (K : Int) (ts : List (Int × Int)) (i : Nat) : List (List Nat) := ((ts.take i).filter (fun t => !decide (t ∈ treeTs K ts))).map fun t => findB K (treeTs K ts) t.2 t.1
theorem ringsTo_zero (K : Int) (ts : List (Int × Int)) : ringsTo K ts 0 = [] := rfl
theorem ringsTo_end {K : Int} {ts : List (Int × Int)} (h : okB K ts = true) : ringsTo K ts ts.length = ringsB K ts := by
  unfold ringsTo ringsB; rw [List.take_length, restTs_yes h]
theorem ringsTo_len (K : Int) (ts : List (Int × Int)) (i : Nat) : (ringsTo K ts i).length ≤ i := by
  unfold ringsTo
  rw [List.length_map]
  refine Nat.le_trans (List.length_filter_le _ _) ?_
  simp; omega
theorem ringsTo_in {K : Int} {ts : List (Int × Int)} {i : Nat} (hi : i < ts.length) (h : (tA ts i, tB ts i) ∈ treeTs K ts) : ringsTo K ts (i + 1) = ringsTo K ts i := by
  unfold ringsTo
  have e : ts[i] = (tA ts i, tB ts i) := by simp [tA, tB, hi]
  rw [List.take_add_one, List.getElem?_eq_getElem hi, List.filter_append, e]
  simp [h]
theorem ringsTo_out {K : Int} {ts : List (Int × Int)} {i : Nat} (hi : i < ts.length) (h : (tA ts i, tB ts i) ∉ treeTs K ts) : ringsTo K ts (i + 1) = ringsTo K ts i ++ [findB K (treeTs K ts) (tB ts i) (tA ts i)] := by
  unfold ringsTo
  have e : ts[i] = (tA ts i, tB ts i) := by simp [tA, tB, hi]
  rw [List.take_add_one, List.getElem?_eq_getElem hi, List.filter_append, e]
  simp [h]

theorem grown_on {w w1 w3 : World} {o : Obj} {row : Option Nat} (hb : Below w.heap.size w w1) (hgr : (w1.alloc o).grownBy w3 row) : w.grownBy w3 row :=
  ⟨hgr.os.trans hb.os, hgr.tape.trans hb.tape, hgr.output.trans hb.output, by have h1 := hb.size; have h2 := hgr.size; simp at h2; omega, fun k hk hne => by
    have h1 := hb.size
    exact (hgr.block k (by simp; omega) hne).trans ((Below.heap_alloc _ _ _ (by omega)).trans (hb.block k hk))⟩
theorem NetV.grown {w w' : World} {A r : Nat} {K : Int} {ao : Option Addr} {cap : Nat} {ts : List (Int × Int)} (h : NetV w A K ao cap ts) (g : w.grownBy w' (some r)) (hA : A ≠ r) (ha : ∀ b, ao = some b → b.block ≠ r) : NetV w' A K ao cap ts := by
  have e := g.block A h.lt (by simpa using hA)
  refine ⟨(World.cell?_of_block (a := ⟨A, 0, none⟩) e).trans h.c0, (World.cell?_of_block (a := ⟨A, 1, none⟩) e).trans h.c1, Nat.lt_of_lt_of_le h.lt g.size, fun j hj => ?_⟩
  obtain ⟨b, off, e2, hb, q0, q1⟩ := h.ties j hj
  have e3 := g.block b hb (by have := ha _ e2; simpa using this)
  exact ⟨b, off, e2, Nat.lt_of_lt_of_le hb g.size, (World.cell?_of_block (a := ⟨b, off + j * 2, none⟩) e3).trans q0, (World.cell?_of_block (a := ⟨b, off + j * 2 + 1, none⟩) e3).trans q1⟩
/-- the tree's net in its variable, all of it behind what lay there -/
def TreeSt (w0 W : World) (XB : Nat) (K : Int) (ao : Option Addr) (cap : Nat) (vs : List (Int × Int)) : Prop := CutSt w0 W XB K ao cap vs ∧ (∀ b, ao = some b → w0.heap.size ≤ b.block) ∧ w0.heap.size ≤ XB
theorem OwnN.low {w : World} {lo hi n : Nat} {ao : Option Addr} {f : Nat → Value} (h : OwnN w lo hi ao n f) : ∀ b, ao = some b → lo ≤ b.block := by
  intro b hb
  rcases h with ⟨_, e⟩ | ⟨g, e, h1, _⟩
  · rw [e] at hb; cases hb
  · rw [e] at hb; cases hb; exact h1
theorem alloc_lt {w wb : World} {u : Value} (hb : Below w.heap.size w wb) (h : wb.cell? ⟨w.heap.size, 0, none⟩ = some u) : w.heap.size + 1 ≤ wb.heap.size := by
  by_cases hl : w.heap.size < wb.heap.size
  · omega
  · have : wb.heap[w.heap.size]? = none := Array.getElem?_eq_none (by omega)
    simp [World.cell?, this] at h
theorem found_of {K : Int} {ts : List (Int × Int)} {a b : Int} (h : 0 < (findB K ts a b).length) : foundB K ts a b = true := by
  unfold findB at h; unfold foundB
  cases e : (waysB K ts a b).head? with
  | none => rw [e] at h; simp at h
  | some p => rfl
/-- what stands while rings are told: nothing but the row of rows has changed -/
structure Rgt (w w3 wr : World) (v : Value) (pre : List (List Nat)) (gs cs : Nat → Nat) : Prop where
  g : w3.grownBy wr (some (w.heap.size + 1))
  a : AccV wr (w.heap.size + 1) v pre gs cs
  o : ∀ k, v.ownBlock = some k → k = w.heap.size + 1 ∨ w3.heap.size ≤ k
theorem grown_wide {w3 wr wx : World} {r : Nat} {row : Option Nat} (h : w3.grownBy wr (some r)) (g : wr.grownBy wx row) (ho : ∀ k, row = some k → k = r ∨ w3.heap.size ≤ k) : w3.grownBy wx (some r) :=
  ⟨g.os.trans h.os, g.tape.trans h.tape, g.output.trans h.output, Nat.le_trans h.size g.size, fun k hk hne => by
    refine (g.block k (Nat.lt_of_lt_of_le hk h.size) (fun e => ?_)).trans (h.block k hk hne)
    rcases ho k e.symm with q | q
    · subst q; exact hne rfl
    · omega⟩
theorem below_grown {w3 wr wx : World} {r : Nat} (h : w3.grownBy wr (some r)) (hb : Below wr.heap.size wr wx) : w3.grownBy wx (some r) :=
  ⟨hb.os.trans h.os, hb.tape.trans h.tape, hb.output.trans h.output, Nat.le_trans h.size hb.size, fun k hk hne => (hb.block k (Nat.lt_of_lt_of_le hk h.size)).trans (h.block k hk hne)⟩
theorem grown_below {w3 wr : World} {r : Nat} (h : w3.grownBy wr (some r)) (hr : r ≤ w3.heap.size) : Below r w3 wr :=
  ⟨h.os, h.tape, h.output, h.size, fun k hk => h.block k (by omega) (by intro e; cases e; omega)⟩
theorem in_tree {K : Int} {ts vs : List (Int × Int)} (h : okB K vs = true) {x y : Nat} (hxy : x < y) : tieNB vs x y = true ↔ ((x : Int), (y : Int)) ∈ vs := by
  have e := hasB_mem (a := (x : Int)) (b := (y : Int)) h
  rw [hasB_ok h] at e
  have e2 : tieOf (x : Int) (y : Int) = ((x : Int), (y : Int)) := by unfold tieOf; rw [Int.min_eq_left (by omega), Int.max_eq_right (by omega)]
  rw [e2] at e; exact e

end Go.Proofs.YtiaeffpjcinilaaDoor
