/- What comes in: a row of rows of whole numbers, opened. -/
import Derived.Test.YtljnjpjnadlmhaaWRowsI
import Derived.Test.YtljnjpjnadlmhaaWArg
import Derived.Deep.Matrix
namespace Go.Proofs.Ytljnjpjnadlmhaa
open Go.ChangeShapes Go.WideShapes Go.ChangeAt Go.RowKit
set_option linter.unusedVariables false

theorem Try.cellsRow : Try.prog.cellsOf 30 = 1 := by kernel_rfl
set_option maxRecDepth 100000 in
theorem open_rows {H : Type} {enc : TypeId × Value → H} {W : World} {base : Nat} {v : Value} {d : DataW H} {p : List MemPlace}
    (hv : Value.okWide Try.prog W .any base 26 v) (h : DataW.Trod enc Try.prog W 0 (fun _ => true) true 26 v d p) :
    ∃ (ao : Option Addr) (cap : Nat) (xss : List (List Int)), v = .slice ao xss.length cap ∧ xss.length ≤ maxLen ∧ RowsM W W.heap.size ao xss := by
  obtain ⟨a0, len, cap, rfl⟩ := okWide_slice Try.underlying26 hv
  obtain ⟨fuel, hf⟩ := h
  rcases Go.Deep.open_int_rows Try.underlying26 Try.underlying30 Try.underlying3 Try.cellsRow Try.cellsInt hf with ⟨hcs, hx⟩ | ⟨a, len', cap', A, L, C, Z, hcs, _, hl, hm, hx, each⟩
  · simp [Value.cells] at hcs
    obtain ⟨rfl, rfl, rfl⟩ := hcs
    exact ⟨none, 0, [], rfl, by simp, fun i hi => absurd hi (by simp)⟩
  · simp [Value.cells] at hcs
    obtain ⟨rfl, rfl, rfl⟩ := hcs
    have hlen : ((List.range len).map fun r => (Z r).take (L r)).length = len := by simp
    refine ⟨some a, cap, (List.range len).map fun r => (Z r).take (L r), by rw [hlen], by rw [hlen]; omega, ?_⟩
    intro i hi
    rw [hlen] at hi
    obtain ⟨r1, r2, r3, r4, r5, r6, r7⟩ := each i (by omega)
    have hg : ((List.range len).map fun r => (Z r).take (L r)).getD i [] = (Z i).take (L i) := by
      simp [List.getD_eq_getElem?_getD, hi]
    have hll : ((Z i).take (L i)).length = L i := by rw [List.length_take, r4]; omega
    rw [hg, hll]
    have hsp : a.spot = none := by
      obtain ⟨z0, _⟩ := each 0 (by omega)
      simpa [Addr.add] using World.cell?_spot z0
    obtain ⟨b, off, spot⟩ := a
    simp only at hsp
    subst hsp
    have f0 : ∀ j : Nat, (⟨b, off, none⟩ : Addr).add j = ⟨b, off + j, none⟩ := fun j => by
      unfold Addr.add; split
      · rename_i h; simp
      · rfl
    rw [f0] at r1
    refine ⟨b, off, A i, C i, rfl, cell_lt r1, r1, r2, by omega, ?_⟩
    intro c hc
    rw [hll] at hc
    cases hA : A i with
    | none => have := r6 hA; omega
    | some a' =>
      obtain ⟨_, hcell⟩ := r7 a' hA
      have c0 := hcell c (by omega)
      have hsp' : a'.spot = none := by
        have z0 := hcell 0 (by omega)
        simpa [Addr.add] using World.cell?_spot z0
      obtain ⟨b', off', spot'⟩ := a'
      simp only at hsp'
      subst hsp'
      have f1 : ∀ j : Nat, (⟨b', off', none⟩ : Addr).add j = ⟨b', off' + j, none⟩ := fun j => by
        unfold Addr.add; split
        · rename_i h; simp
        · rfl
      rw [f1] at c0
      refine ⟨b', off', rfl, cell_lt c0, ?_⟩
      rw [c0]
      simp only [xi, List.getD_eq_getElem?_getD]
      rw [List.getElem?_take_of_lt hc]

end Go.Proofs.Ytljnjpjnadlmhaa
