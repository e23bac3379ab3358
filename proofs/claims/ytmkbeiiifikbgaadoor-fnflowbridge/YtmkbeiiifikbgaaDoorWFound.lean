/- What the laws of ways that are found share. -/
import Derived.Test.YtmkbeiiifikbgaaDoorWFindI
import Derived.Test.YtmkbeiiifikbgaaDoorPartWFar
import Derived.Test.YtmkbeiiifikbgaaDoorPartWDraw
import Derived.Test.YtmkbeiiifikbgaaDoorPartWLo
import Derived.Test.YtmkbeiiifikbgaaDoorPartMathP
namespace Go.Proofs.YtmkbeiiifikbgaaDoor
open Go.RowKit
set_option linter.unusedVariables false

theorem findB_le (K : Int) (ts : List (Int × Int)) (a b : Int) : (findB K ts a b).length ≤ 8 := by
  unfold findB
  cases h : waysB K ts a b with
  | nil => simp
  | cons q qs => exact (waysB_len (q := q) (by rw [h]; simp)).2
theorem pn_range (p : List Nat) : (List.range p.length).map (pn p) = p := by
  apply List.ext_getElem
  · simp
  · intro i h1 h2
    simp [pn, h2]
theorem row_seen {w : World} {lo g off cap : Nat} {p : List Nat} (h : RowS w lo g off cap p) : RowW w lo w.heap.size (some ⟨g, off, none⟩) p.length (pcellN (pn p)) := by
  have h' : RowS w lo g off cap ((List.range p.length).map (pn p)) := by rw [pn_range]; exact h
  exact h'.seen
theorem row_addr {w : World} {lo hi n : Nat} {ao : Option Addr} {p : List Nat} (h : RowW w lo hi ao n (pcellN (pn p))) (h0 : 0 < n) : ∃ aw offw, ao = some ⟨aw, offw, none⟩ ∧ aw < w.heap.size ∧ ∀ j, j < n → w.cell? ⟨aw, offw + j, none⟩ = some (.int .i64 (pn p j : Int)) := by
  obtain ⟨b, off, e, h1, h2, h3, h4⟩ := h 0 h0
  refine ⟨b, off, e, h3, fun j hj => ?_⟩
  obtain ⟨b', off', e', _, _, _, h5⟩ := h j hj
  rw [e] at e'
  cases e'
  exact h5
theorem row_ints {w : World} {lo hi : Nat} {ao : Option Addr} {p : List Nat} (h : RowW w lo hi ao p.length (pcellN (pn p))) : IntsIn w w.heap.size ao (p.map fun (x : Nat) => (x : Int)) := by
  have := h.row.ints
  have e : ((List.range p.length).map fun j => ((pn p j : Nat) : Int)) = p.map fun (x : Nat) => (x : Int) := by
    conv => rhs; rw [← pn_range p]
    rw [List.map_map]; rfl
  rw [e] at this
  exact this
end Go.Proofs.YtmkbeiiifikbgaaDoor
