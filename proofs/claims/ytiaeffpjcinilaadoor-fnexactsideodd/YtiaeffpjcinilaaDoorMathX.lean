/- Plain mathematics of trees: each of their ties is a bridge. No program stands here. -/
import Derived.Test.YtiaeffpjcinilaaDoorPartMathT
import Derived.Test.YtiaeffpjcinilaaDoorPartMathE
namespace Go.Proofs.YtiaeffpjcinilaaDoor
set_option linter.unusedVariables false

theorem tree_bridge {K : Int} {us : List (Int × Int)} (hc : us.length + cnt us K.toNat = K.toNat) {a b : Int} (hh : hasB K us a b = true) : bridgeB K us a b = true := by
  have hC := cutOut (show cutB K us a b = true from hh)
  have hlow := cnt_low (okB_iff.1 hC.ok)
  have hl := hC.len
  unfold bridgeB
  rw [hh, Bool.true_and, decide_eq_true_eq]
  omega
theorem tree_less {K : Int} {ts us vs : List (Int × Int)} (h : treeOkB K ts us = true) (hl : vs.length + 1 = us.length) : treeOkB K ts vs = false := by
  unfold treeOkB at h ⊢
  simp only [Bool.and_eq_true, decide_eq_true_eq] at h
  have h1 := h.2
  have : decide (vs.length + cnt ts K.toNat = K.toNat) = false := by rw [decide_eq_false_iff_not]; omega
  rw [this, Bool.and_false]
/-- a tree has the net's parts, and as many ties as knots without parts -/
theorem tree_parts {K : Int} {ts us : List (Int × Int)} (h : treeOkB K ts us = true) : okB K ts = true ∧ okB K us = true ∧ (∀ k, k < K.toNat → topN us k = topN ts k) ∧ us.length + cnt ts K.toNat = K.toNat ∧ us.length + cnt us K.toNat = K.toNat := by
  unfold treeOkB at h
  simp only [Bool.and_eq_true, decide_eq_true_eq] at h
  obtain ⟨⟨⟨⟨h1, h2⟩, h3⟩, h4⟩, h5⟩ := h
  exact ⟨h1, h2, (parts_same (sub_iff.1 h3) K.toNat).2 h4, h5, by rw [h4]; exact h5⟩

end Go.Proofs.YtiaeffpjcinilaaDoor
