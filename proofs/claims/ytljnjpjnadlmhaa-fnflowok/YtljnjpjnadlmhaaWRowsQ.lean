/- Rows of rows that came in, as values; pieces of them. -/
import Derived.Test.YtljnjpjnadlmhaaWDrawFo
namespace Go.Proofs.Ytljnjpjnadlmhaa
open Go.RowKit
set_option linter.unusedVariables false

theorem Stay.of_below {w w' : World} (h : Below w.heap.size w w') : Stay w.heap.size (fun _ => False) w w' := ⟨fun k hk _ => h.block k hk, h.size⟩
theorem GoodR.take {w0 : World} {lo S : Nat} {bad : Nat → Prop} {vs : List Value} {xss : List (List Int)} (h : GoodR w0 lo S bad vs xss) (k : Nat) : GoodR w0 lo S bad (vs.take k) (xss.take k) := by
  refine ⟨by simp [h.1], fun i hi => ?_⟩
  rw [List.length_take] at hi
  obtain ⟨u, h1, h2⟩ := h.2 i (by omega)
  refine ⟨u, by rw [List.getElem?_take_of_lt (by omega)]; exact h1, ?_⟩
  rw [List.getD_eq_getElem?_getD, List.getElem?_take_of_lt (by omega), ← List.getD_eq_getElem?_getD]; exact h2
theorem GoodR.drop {w0 : World} {lo S : Nat} {bad : Nat → Prop} {vs : List Value} {xss : List (List Int)} (h : GoodR w0 lo S bad vs xss) (k : Nat) : GoodR w0 lo S bad (vs.drop k) (xss.drop k) := by
  refine ⟨by simp [h.1], fun i hi => ?_⟩
  rw [List.length_drop] at hi
  obtain ⟨u, h1, h2⟩ := h.2 (k + i) (by omega)
  refine ⟨u, by rw [List.getElem?_drop]; exact h1, ?_⟩
  rw [List.getD_eq_getElem?_getD, List.getElem?_drop, ← List.getD_eq_getElem?_getD]; exact h2
theorem GoodR.append {w0 : World} {lo S : Nat} {bad : Nat → Prop} {vs vs' : List Value} {xss xss' : List (List Int)} (h : GoodR w0 lo S bad vs xss) (h' : GoodR w0 lo S bad vs' xss') : GoodR w0 lo S bad (vs ++ vs') (xss ++ xss') := by
  refine ⟨by simp [h.1, h'.1], fun i hi => ?_⟩
  rw [List.length_append] at hi
  by_cases e : i < xss.length
  · obtain ⟨u, h1, h2⟩ := h.2 i e
    refine ⟨u, by rw [List.getElem?_append_left (by rw [h.1]; exact e)]; exact h1, ?_⟩
    rw [List.getD_eq_getElem?_getD, List.getElem?_append_left e, ← List.getD_eq_getElem?_getD]; exact h2
  · obtain ⟨u, h1, h2⟩ := h'.2 (i - xss.length) (by omega)
    refine ⟨u, by rw [List.getElem?_append_right (by rw [h.1]; omega), h.1]; exact h1, ?_⟩
    rw [List.getD_eq_getElem?_getD, List.getElem?_append_right (by omega), ← List.getD_eq_getElem?_getD]; exact h2
/-- the values of rows that came in -/
theorem RowsI.vals {w : World} {g off : Nat} {xss : List (List Int)} (h : RowsI w w.heap.size (some ⟨g, off, none⟩) xss) (hs : ∀ i, i < xss.length → (xss.getD i []).length ≤ 1000) : ∃ vs, GoodR w 0 w.heap.size (fun _ => False) vs xss ∧ (0 < xss.length → g < w.heap.size) ∧ ∀ j u, vs[j]? = some u → w.cell? ((⟨g, off, none⟩ : Addr).add j) = some u := by
  have hadd : ∀ j : Nat, (⟨g, off, none⟩ : Addr).add j = ⟨g, off + j, none⟩ := fun j => by unfold Addr.add; split <;> simp_all
  refine ⟨(List.range xss.length).map (fun i => (w.cell? ⟨g, off + i, none⟩).getD undef), ⟨by simp, fun i hi => ?_⟩, fun h0 => ?_, fun j u hj => ?_⟩
  · obtain ⟨g', off', bo, cap, e, h1, h2, h3, h4, h5⟩ := h i hi
    cases e
    refine ⟨.slice bo (xss.getD i []).length cap, ?_, bo, cap, rfl, h3, hs i hi, fun j hj => ?_⟩
    · rw [List.getElem?_map, List.getElem?_range hi]
      simp [h2]
    · obtain ⟨b, of2, e2, q1, q2⟩ := h5 j hj
      exact ⟨b, of2, e2, Nat.zero_le _, q1, fun x => x, q2⟩
  · obtain ⟨g', off', _, _, e, h1, _⟩ := h 0 h0
    cases e; exact h1
  · rw [List.getElem?_map] at hj
    have hl : j < xss.length := by
      apply Decidable.byContradiction
      intro hn
      rw [List.getElem?_eq_none (by simp; omega)] at hj
      cases hj
    rw [List.getElem?_range hl] at hj
    obtain ⟨g', off', bo, cap, e, h1, h2, h3, h4, h5⟩ := h j hl
    cases e
    rw [hadd, h2]
    simp [h2] at hj
    rw [← hj]; simp
/-- room that is made, and what is put behind it, in either order -/
structure Rooms0 (w : World) (u : Value) : Prop where
  bC : Below w.heap.size w (w.alloc (.cells #[] 30))
  bT : Below w.heap.size w (w.alloc (.cells #[u] 30))
  bCT : Below w.heap.size w ((w.alloc (.cells #[] 30)).alloc (.cells #[u] 30))
  bTC : Below w.heap.size w ((w.alloc (.cells #[u] 30)).alloc (.cells #[] 30))
  i1 : (w.alloc (.cells #[] 30)).ownsRow w.heap.size 30 1 (.slice (some ⟨w.heap.size, 0, none⟩) 0 0) 0 []
  i2 : ((w.alloc (.cells #[] 30)).alloc (.cells #[u] 30)).ownsRow w.heap.size 30 1 (.slice (some ⟨w.heap.size, 0, none⟩) 0 0) 0 []
  i3 : ((w.alloc (.cells #[u] 30)).alloc (.cells #[] 30)).ownsRow w.heap.size 30 1 (.slice (some ⟨w.heap.size + 1, 0, none⟩) 0 0) 0 []
theorem Rooms0.of (w : World) (u : Value) : Rooms0 w u := by
  have bC : Below w.heap.size w (w.alloc (.cells #[] 30)) := below_one _ _
  have bT : Below w.heap.size w (w.alloc (.cells #[u] 30)) := below_one _ _
  have i1 : (w.alloc (.cells #[] 30)).ownsRow w.heap.size 30 1 (.slice (some ⟨w.heap.size, 0, none⟩) 0 0) 0 [] := World.ownsRow_lit w #[] 0 (base := w.heap.size) (e := 30) (size := 1) (Nat.le_refl _) (by simp) rfl
  have i3 := World.ownsRow_lit (w.alloc (.cells #[u] 30)) #[] 0 (base := w.heap.size) (e := 30) (size := 1) (by simp) (by simp) rfl
  rw [World.size_alloc] at i3
  exact ⟨bC, bT, bC.alloc bC.size _, bT.alloc bT.size _, i1, i1.alloc _, i3⟩

end Go.Proofs.Ytljnjpjnadlmhaa
