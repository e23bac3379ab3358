/- Rows of rows of numbers that come in; walks of laws.szIntSS, toIntSS, eqIntSS over them. -/
import Derived.Test.YtljnjpjnadlmhaaDoorPartWInts
import Derived.Deep.RegionHeld3
namespace Go.Proofs.YtljnjpjnadlmhaaDoor
open Go.RowKit
set_option linter.unusedVariables false

/-- rows of numbers that come in: each row's length at most its room -/
def RowsI (w : World) (B : Nat) (ao : Option Addr) (xss : List (List Int)) : Prop := ∀ i, i < xss.length → ∃ g off bo cap, ao = some ⟨g, off, none⟩ ∧ g < B ∧ w.cell? ⟨g, off + i, none⟩ = some (.slice bo (xss.getD i []).length cap) ∧ (xss.getD i []).length ≤ cap ∧ (xss.getD i []).length ≤ 1099511627776 ∧ IntsIn w B bo (xss.getD i [])
theorem RowsI.below {w w' : World} {B : Nat} {ao : Option Addr} {xss : List (List Int)} (h : RowsI w B ao xss) {C : Nat} (hb : Below C w w') (hC : B ≤ C) : RowsI w' B ao xss := by
  intro i hi
  obtain ⟨g, off, bo, cap, e, h1, h2, h3, h4, h5⟩ := h i hi
  exact ⟨g, off, bo, cap, e, h1, (hb.cell (p := ⟨g, off + i, none⟩) (Nat.lt_of_lt_of_le h1 hC)).trans h2, h3, h4, h5.below hb hC⟩
theorem RowsI.wide {w : World} {B C : Nat} {ao : Option Addr} {xss : List (List Int)} (h : RowsI w B ao xss) (hC : B ≤ C) : RowsI w C ao xss := by
  intro i hi
  obtain ⟨g, off, bo, cap, e, h1, h2, h3, h4, h5⟩ := h i hi
  exact ⟨g, off, bo, cap, e, Nat.lt_of_lt_of_le h1 hC, h2, h3, h4, h5.wide hC⟩
/-- rows of any length -/
def RowsM (w : World) (B : Nat) (ao : Option Addr) (xss : List (List Int)) : Prop := ∀ i, i < xss.length → ∃ g off bo cap, ao = some ⟨g, off, none⟩ ∧ g < B ∧ w.cell? ⟨g, off + i, none⟩ = some (.slice bo (xss.getD i []).length cap) ∧ (xss.getD i []).length ≤ cap ∧ (xss.getD i []).length ≤ maxLen ∧ IntsIn w B bo (xss.getD i [])
theorem RowsM.below {w w' : World} {B : Nat} {ao : Option Addr} {xss : List (List Int)} (h : RowsM w B ao xss) {C : Nat} (hb : Below C w w') (hC : B ≤ C) : RowsM w' B ao xss := by
  intro i hi
  obtain ⟨g, off, bo, cap, e, h1, h2, h3, h4, h5⟩ := h i hi
  exact ⟨g, off, bo, cap, e, h1, (hb.cell (p := ⟨g, off + i, none⟩) (Nat.lt_of_lt_of_le h1 hC)).trans h2, h3, h4, h5.below hb hC⟩
theorem RowsM.wide {w : World} {B C : Nat} {ao : Option Addr} {xss : List (List Int)} (h : RowsM w B ao xss) (hC : B ≤ C) : RowsM w C ao xss := by
  intro i hi
  obtain ⟨g, off, bo, cap, e, h1, h2, h3, h4, h5⟩ := h i hi
  exact ⟨g, off, bo, cap, e, Nat.lt_of_lt_of_le h1 hC, h2, h3, h4, h5.wide hC⟩
theorem RowsM.small {w : World} {B : Nat} {ao : Option Addr} {xss : List (List Int)} (h : RowsM w B ao xss) (hs : ∀ i, i < xss.length → (xss.getD i []).length ≤ 1048576) : RowsI w B ao xss := by
  intro i hi
  obtain ⟨g, off, bo, cap, e, h1, h2, h3, h4, h5⟩ := h i hi
  exact ⟨g, off, bo, cap, e, h1, h2, h3, by have := hs i hi; omega, h5⟩

theorem Tryd.infoRow2 : (Tryd.prog.info? 44).map (fun i => (i.zero, i.size, i.bytes)) = some (some (.slice none 0 0), 1, 24) := by kernel_rfl



end Go.Proofs.YtljnjpjnadlmhaaDoor
