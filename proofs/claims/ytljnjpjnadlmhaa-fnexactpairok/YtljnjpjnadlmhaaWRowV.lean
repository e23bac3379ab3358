/- Rows of cells of the call's own, and rows that are only read. -/
import Derived.Test.YtljnjpjnadlmhaaWCount
import Derived.Test.YtljnjpjnadlmhaaWForest
namespace Go.Proofs.Ytljnjpjnadlmhaa
open Go.RowKit
set_option linter.unusedVariables false

def bmark (j : Nat) : Value := .bool ((1 + (j : Int)) % 3 == 0)
def imark (j : Nat) : Value := .int .i64 (1 + (j : Int))
def upTo (m f : Nat → Value) (k j : Nat) : Value := if j < k then m j else f j
theorem upTo_step (m f : Nat → Value) (k j : Nat) : (if j = k then m k else upTo m f k j) = upTo m f (k + 1) j := by
  unfold upTo
  by_cases h : j = k
  · subst h; rw [if_pos rfl, if_pos (by omega)]
  · rw [if_neg h]
    by_cases h2 : j < k
    · rw [if_pos h2, if_pos (by omega)]
    · rw [if_neg h2, if_neg (by omega)]
theorem OwnR.congr {w : World} {lo hi n : Nat} {ao : Option Addr} {f f' : Nat → Value} (h : OwnR w lo hi ao n f) (he : ∀ j, j < n → f j = f' j) : OwnR w lo hi ao n f' := by
  rcases h with h | ⟨g, e, h1, h2, h3⟩
  · exact Or.inl h
  · exact Or.inr ⟨g, e, h1, h2, h3.congr he⟩
theorem OwnR.next {w w' : World} {lo hi n : Nat} {ao : Option Addr} {f : Nat → Value} (h : OwnR w lo hi ao n f) (hb : Below w.heap.size w w') : OwnR w' lo hi ao n f := by
  rcases h with h | ⟨g, e, h1, h2, h3⟩
  · exact Or.inl h
  · exact Or.inr ⟨g, e, h1, h2, h3.below hb h3.2.2⟩
theorem OwnR.aside {w w' : World} {lo hi l h n : Nat} {ao : Option Addr} {f : Nat → Value} (ho : OwnR w lo hi ao n f) (ht : Turned l h w w') (hr : hi ≤ l ∨ h ≤ lo) : OwnR w' lo hi ao n f := by
  rcases ho with h' | ⟨g, e, h1, h2, h3⟩
  · exact Or.inl h'
  · exact Or.inr ⟨g, e, h1, h2, h3.turn ht (by omega)⟩
theorem OwnR.up {w : World} {lo hi hi' n : Nat} {ao : Option Addr} {f : Nat → Value} (h : OwnR w lo hi ao n f) (hh : hi ≤ hi') : OwnR w lo hi' ao n f := by
  rcases h with h | ⟨g, e, h1, h2, h3⟩
  · exact Or.inl h
  · exact Or.inr ⟨g, e, h1, by omega, h3⟩
/-- cells that can be read behind an address, below B -/
def RowV (w : World) (B : Nat) (ao : Option Addr) (n : Nat) (f : Nat → Value) : Prop :=
  ∀ j, j < n → ∃ b off, ao = some ⟨b, off, none⟩ ∧ b < B ∧ w.cell? ⟨b, off + j, none⟩ = some (f j)
theorem RowV.next {w w' : World} {B n : Nat} {ao : Option Addr} {f : Nat → Value} (h : RowV w B ao n f) (hb : Below B w w') : RowV w' B ao n f := by
  intro j hj
  obtain ⟨b, off, e, h1, h2⟩ := h j hj
  exact ⟨b, off, e, h1, (hb.cell (p := ⟨b, off + j, none⟩) h1).trans h2⟩
theorem RowV.wide {w : World} {B C n : Nat} {ao : Option Addr} {f : Nat → Value} (h : RowV w B ao n f) (hC : B ≤ C) : RowV w C ao n f := by
  intro j hj
  obtain ⟨b, off, e, h1, h2⟩ := h j hj
  exact ⟨b, off, e, by omega, h2⟩
theorem OwnR.row {w : World} {lo hi n : Nat} {ao : Option Addr} {f : Nat → Value} (h : OwnR w lo hi ao n f) {B : Nat} (hB : hi ≤ B) : RowV w B ao n f := by
  intro j hj
  rcases h with ⟨h0, _⟩ | ⟨g, e, h1, h2, h3⟩
  · omega
  · exact ⟨g, 0, e, by omega, by rw [show 0 + j = j by omega]; exact h3.1 j hj⟩
theorem RowV.ints {w : World} {B n : Nat} {ao : Option Addr} {g : Nat → Nat} (h : RowV w B ao n (pcellN g)) : IntsIn w B ao ((List.range n).map fun j => ((g j : Nat) : Int)) := by
  intro j hj
  have hj' : j < n := by simpa using hj
  obtain ⟨b, off, e, h1, h2⟩ := h j hj'
  exact ⟨b, off, e, h1, by rw [h2]; simp [pcellN, xi, hj']⟩
/-- a row that is read: behind an address from lo to below hi -/
def RowW (w : World) (lo hi : Nat) (ao : Option Addr) (n : Nat) (f : Nat → Value) : Prop :=
  ∀ j, j < n → ∃ b off, ao = some ⟨b, off, none⟩ ∧ lo ≤ b ∧ b < hi ∧ b < w.heap.size ∧ w.cell? ⟨b, off + j, none⟩ = some (f j)
theorem RowW.next {w w' : World} {lo hi n : Nat} {ao : Option Addr} {f : Nat → Value} (h : RowW w lo hi ao n f) (hb : Below w.heap.size w w') : RowW w' lo hi ao n f := by
  intro j hj
  obtain ⟨b, off, e, h1, h2, h3, h4⟩ := h j hj
  exact ⟨b, off, e, h1, h2, Nat.lt_of_lt_of_le h3 hb.size, (hb.cell (p := ⟨b, off + j, none⟩) h3).trans h4⟩
theorem RowW.aside {w w' : World} {lo hi l h n : Nat} {ao : Option Addr} {f : Nat → Value} (hr : RowW w lo hi ao n f) (ht : Turned l h w w') (ho : hi ≤ l ∨ h ≤ lo) : RowW w' lo hi ao n f := by
  intro j hj
  obtain ⟨b, off, e, h1, h2, h3, h4⟩ := hr j hj
  exact ⟨b, off, e, h1, h2, Nat.lt_of_lt_of_le h3 ht.size, (ht.cell (p := ⟨b, off + j, none⟩) h3 (by show b < l ∨ h ≤ b; omega)).trans h4⟩
theorem RowW.row {w : World} {lo hi n : Nat} {ao : Option Addr} {f : Nat → Value} (hr : RowW w lo hi ao n f) : RowV w w.heap.size ao n f := by
  intro j hj
  obtain ⟨b, off, e, h1, h2, h3, h4⟩ := hr j hj
  exact ⟨b, off, e, h3, h4⟩
theorem OwnR.seen {w : World} {lo hi n : Nat} {ao : Option Addr} {f : Nat → Value} (h : OwnR w lo hi ao n f) : RowW w lo hi ao n f := by
  intro j hj
  rcases h with ⟨h0, _⟩ | ⟨g, e, h1, h2, h3⟩
  · omega
  · exact ⟨g, 0, e, h1, h2, h3.2.2, by rw [show 0 + j = j by omega]; exact h3.1 j hj⟩
theorem RowS.seen {w : World} {lo g off cap n : Nat} {t : Nat → Nat} (h : RowS w lo g off cap ((List.range n).map t)) : RowW w lo w.heap.size (some ⟨g, off, none⟩) n (pcellN t) := by
  intro j hj
  refine ⟨g, off, rfl, h.lo, h.lt, h.lt, ?_⟩
  rw [h.cells j (by simpa using hj)]
  simp [ncell, pcellN, hj]
theorem OwnR.inside {w : World} {lo hi n : Nat} {ao : Option Addr} {f : Nat → Value} (h : OwnR w lo hi ao n f) : RowV w w.heap.size ao n f := h.seen.row

end Go.Proofs.Ytljnjpjnadlmhaa
