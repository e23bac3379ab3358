/- A slice of ties of the call's own, wherever it lies; what turns where it is written. -/
import Derived.Test.YtljnjpjnadlmhaaWRow
namespace Go.Proofs.Ytljnjpjnadlmhaa
open Go.RowKit
set_option linter.unusedVariables false

/-- a slice of n ties, nil where n is 0, or a row of its own in a block from lo to below hi, f j at cell j -/
def OwnN (w : World) (lo hi : Nat) (ao : Option Addr) (n : Nat) (f : Nat → Value) : Prop :=
  (n = 0 ∧ ao = none) ∨ ∃ g, ao = some ⟨g, 0, none⟩ ∧ lo ≤ g ∧ g < hi ∧ OwnT w g n f
theorem OwnN.of_row {w : World} {base n cap : Nat} {ao : Option Addr} {ts : List (Int × Int)} (h : w.ownsRow base 37 2 (.slice ao n cap) n (clist ts n)) : OwnN w base w.heap.size ao n (tcell ts) := by
  rcases h.2 with ⟨e, e0⟩ | ⟨g, cap', cur, e, hg, hh, rest⟩
  · simp only [Value.slice.injEq] at e
    exact Or.inl ⟨e0, e.1⟩
  · simp only [Value.slice.injEq] at e
    obtain ⟨rfl, _, rfl⟩ := e
    have hlt : g < w.heap.size := (Array.getElem?_eq_some_iff.1 hh).1
    exact Or.inr ⟨g, rfl, hg, hlt, fun j hj => by rw [h.cellAt j hj, clist_get ts n j hj], fun j => h.frozenAt j, hlt⟩
theorem OwnN.of_T {w : World} {lo hi g n : Nat} {f : Nat → Value} (h : OwnT w g n f) (h1 : lo ≤ g) (h2 : g < hi) : OwnN w lo hi (some ⟨g, 0, none⟩) n f := Or.inr ⟨g, rfl, h1, h2, h⟩
theorem OwnN.next {w w' : World} {lo hi n : Nat} {ao : Option Addr} {f : Nat → Value} (h : OwnN w lo hi ao n f) (hb : Below w.heap.size w w') : OwnN w' lo hi ao n f := by
  rcases h with h | ⟨g, e, h1, h2, h3⟩
  · exact Or.inl h
  · exact Or.inr ⟨g, e, h1, h2, h3.below hb h3.2.2⟩
theorem OwnT.of_block {w w' : World} {g n : Nat} {f : Nat → Value} (h : OwnT w g n f) (e : w'.heap[g]? = w.heap[g]?) (hs : w.heap.size ≤ w'.heap.size) : OwnT w' g n f :=
  ⟨fun j hj => (World.cell?_of_block (a := ⟨g, j, none⟩) e).trans (h.1 j hj), fun j => (World.frozen?_of_block (a := ⟨g, j, none⟩) e).trans (h.2.1 j), Nat.lt_of_lt_of_le h.2.2 hs⟩
/-- blocks from lo to below hi may have turned, and others came; nothing else -/
structure Turned (lo hi : Nat) (w w' : World) : Prop where
  os : w'.os = w.os
  tape : w'.tape = w.tape
  output : w'.output = w.output
  size : w.heap.size ≤ w'.heap.size
  block : ∀ k, k < w.heap.size → k < lo ∨ hi ≤ k → w'.heap[k]? = w.heap[k]?
theorem Turned.refl (lo hi : Nat) (w : World) : Turned lo hi w w := ⟨rfl, rfl, rfl, Nat.le_refl _, fun _ _ _ => rfl⟩
theorem Turned.of_grown {lo hi r : Nat} {w w' : World} (h : w.grownBy w' (some r)) (h1 : lo ≤ r) (h2 : r < hi) : Turned lo hi w w' := ⟨h.os, h.tape, h.output, h.size, fun k hk ho => h.block k hk (by simp; omega)⟩
theorem Turned.cell {lo hi : Nat} {w w' : World} (h : Turned lo hi w w') {p : Addr} (hp : p.block < w.heap.size) (ho : p.block < lo ∨ hi ≤ p.block) : w'.cell? p = w.cell? p := World.cell?_of_block (h.block p.block hp ho)
theorem OwnN.aside {w w' : World} {lo hi l h n : Nat} {ao : Option Addr} {f : Nat → Value} (ho : OwnN w lo hi ao n f) (ht : Turned l h w w') (hr : hi ≤ l ∨ h ≤ lo) : OwnN w' lo hi ao n f := by
  rcases ho with ho | ⟨g, e, h1, h2, h3⟩
  · exact Or.inl ho
  · exact Or.inr ⟨g, e, h1, h2, h3.of_block (ht.block g h3.2.2 (by omega)) ht.size⟩
theorem OwnN.ties {w : World} {lo hi : Nat} {ao : Option Addr} {ts : List (Int × Int)} (h : OwnN w lo hi ao ts.length (tcell ts)) {B : Nat} (hB : hi ≤ B) : TiesIn w B ao ts := by
  rcases h with ⟨h, _⟩ | ⟨g, rfl, h1, h2, h3⟩
  · intro i hi; omega
  · exact h3.ties (by omega)

end Go.Proofs.Ytljnjpjnadlmhaa
