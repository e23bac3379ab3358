/- What comes in: a row of whole numbers, opened. -/
import Derived.Test.YtiaeffpjcinilaaDoorWInts
import Derived.Test.YtiaeffpjcinilaaDoorWArg
import Derived.ChangeSlices
namespace Go.Proofs.YtiaeffpjcinilaaDoor
open Go.ChangeShapes Go.WideShapes Go.ChangeAt Go.RowKit
set_option linter.unusedVariables false

set_option maxRecDepth 100000 in
theorem open_row {H : Type} {enc : TypeId × Value → H} {W : World} {base : Nat} {v : Value} {d : DataW H} {p : List MemPlace}
    (hv : Value.okWide Tryd.prog W .any base 27 v) (h : DataW.Trod enc Tryd.prog W 0 (fun _ => true) true 27 v d p) :
    ∃ (ao : Option Addr) (cap : Nat) (xs : List Int), v = .slice ao xs.length cap ∧ xs.length ≤ maxLen ∧ IntsIn W W.heap.size ao xs := by
  obtain ⟨a0, len, cap, rfl⟩ := okWide_slice Tryd.underlying27 hv
  obtain ⟨fuel, hf⟩ := h
  rcases open_ints Tryd.underlying27 Tryd.underlying3 Tryd.cellsInt hf with ⟨hcs, hx⟩ | ⟨a, len', cap', zs, hcs, _, hl, hm, hz, hx, hcell, hwz⟩
  · simp [Value.cells] at hcs
    obtain ⟨rfl, rfl, rfl⟩ := hcs
    exact ⟨none, 0, [], rfl, by simp, fun i hi => absurd hi (by simp)⟩
  · simp [Value.cells] at hcs
    obtain ⟨rfl, rfl, rfl⟩ := hcs
    simp only [if_true] at hz
    have hlen : (zs.take len).length = len := by simp; omega
    refine ⟨some a, cap, zs.take len, by rw [hlen], by rw [hlen]; omega, ?_⟩
    intro i hi
    rw [hlen] at hi
    have c0 := hcell i (by omega)
    have hsp : a.spot = none := by
      have z0 := hcell 0 (by omega)
      simpa [Addr.add] using World.cell?_spot z0
    obtain ⟨b, off, spot⟩ := a
    simp only at hsp
    subst hsp
    have lt := cell_lt c0
    have f0 : (⟨b, off, none⟩ : Addr).add i = ⟨b, off + i, none⟩ := by
      unfold Addr.add; split
      · rename_i h; simp
      · rfl
    rw [f0] at c0 lt
    refine ⟨b, off, rfl, lt, ?_⟩
    rw [c0]
    simp only [xi, List.getD_eq_getElem?_getD]
    rw [List.getElem?_take_of_lt hi]

end Go.Proofs.YtiaeffpjcinilaaDoor
