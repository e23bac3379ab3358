/- Plain mathematics of sides: the way from the least knot of a part has as many ties as the knot is deep. No program stands here. -/
import Derived.Test.YtiaeffpjcinilaaDoorMathSD
import Derived.Test.YtiaeffpjcinilaaDoorPartMathX
namespace Go.Proofs.YtiaeffpjcinilaaDoor
set_option linter.unusedVariables false

theorem Trn.wayTop {us : List (Int × Int)} (t : Trn 8 us 8) {v : Nat} (hv : v < 8) : (findB 8 us ((topN us v : Nat) : Int) (v : Int)).length = depN 8 us v + 1 := by
  have R := t.rt hv
  have ht := topN_le us v
  have htt : topN us (topN us v) = topN us v := topN_top us v
  have hroot : rtP 8 us (topN us v) = [topN us v] := by
    have Rt := t.rt (v := topN us v) (by omega)
    exact t.T.only _ _ Rt.pw (Pw.one _ _) Rt.pos (by simp) (by rw [Rt.fst]; rfl) (by rw [Rt.lst, htt]; rfl)
  have hp := R.pos
  have hl : (rtP 8 us v).getD ((rtP 8 us v).length - 1) 0 = topN us v := by
    have := R.lst
    rw [lastN_at hp] at this; exact this
  obtain ⟨h1, h2⟩ := t.upDown (a := topN us v) (b := v) (i := 0) (m := (rtP 8 us v).length - 1) (by omega) hv htt (by rw [hroot]; simp) (by omega) (by rw [hl, hroot]; rfl) (fun j hj => by omega)
  rw [← h1, upDown_len (by rw [hroot]; simp) (by omega)]
  unfold depN
  omega
/-- sides by the tree -/
def sdL (K : Int) (ts : List (Int × Int)) : List Nat := (List.range K.toNat).map (sdN (treeTs K ts))
theorem wayTop_side {K : Int} {ts : List (Int × Int)} (h : okB K ts = true) {k : Nat} (hk : k < K.toNat) : foundB K (treeTs K ts) ((topN ts k : Nat) : Int) (k : Int) = true ∧ ((findB K (treeTs K ts) ((topN ts k : Nat) : Int) (k : Int)).length + 1) % 2 = sdN (treeTs K ts) k ∧ (findB K (treeTs K ts) ((topN ts k : Nat) : Int) (k : Int)).length ≤ 8 := by
  have T := tree_trn h
  have hK8 := (okB_iff.1 h).2.1
  have hle := topN_le ts k
  have htop := tree_top h hk
  have htt : topN (treeTs K ts) (topN ts k) = topN (treeTs K ts) k := by rw [← htop]; exact topN_top _ k
  have W := T.find (a := topN ts k) (b := k) (by omega) hk htt (by omega)
  have e8 := T.find8 (a := topN ts k) (b := k) (by omega) hk htt (by omega)
  have hl := T.eight.wayTop (v := k) (by omega)
  rw [htop, e8] at hl
  refine ⟨?_, ?_, W.le⟩
  · cases hf : foundB K (treeTs K ts) ((topN ts k : Nat) : Int) (k : Int)
    · have := (found_no_reach hf (by rw [T.N.ok]; simp [knotB]; omega) k (by omega) rfl)
      rw [Int.toNat_natCast] at this
      have e := topN_reach (treeTs K ts) (topN ts k) k
      rw [this, htt] at e
      simp at e
    · rfl
  · rw [hl]
    unfold sdN
    omega

end Go.Proofs.YtiaeffpjcinilaaDoor
