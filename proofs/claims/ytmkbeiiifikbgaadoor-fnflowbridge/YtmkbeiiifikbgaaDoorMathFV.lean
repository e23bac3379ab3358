/- Plain mathematics of flows: the fewest ties that part two knots, as the program goes: the set of what is left, tie by tie, and the set of what was taken. No program stands here. -/
import Derived.Test.YtmkbeiiifikbgaaDoorMathFU
namespace Go.Proofs.YtmkbeiiifikbgaaDoor
set_option linter.unusedVariables false

/-- a tie struck out of the set -/
theorem minus_bits {K : Int} {ts : List (Int × Int)} (h : okB K ts = true) (t : Int × Int) (ht : t.1 < t.2) : strike (setN K ts) (pbit t.1 t.2) = setN K (minusT ts t) := by
  apply Nat.eq_of_testBit_eq
  intro j
  obtain ⟨k0, k8, hs⟩ := ok_parts h
  have e := bits_strike k8 hs.1 (setN_lt K ts) (set_bitsOf h) t.1 t.2 j
  have g : ts.filter (other (tieOf t.1 t.2)) = minusT ts t := by
    have q : tieOf t.1 t.2 = t := by
      unfold tieOf
      rw [Int.min_def, Int.max_def, if_pos (by omega), if_pos (by omega)]
    rw [q]; rfl
  rw [g] at e
  rw [Bool.eq_iff_iff, e, set_bitsOf (minus_ok h t) j]
theorem cutG_list (a b : Nat) : ∀ (r left : List (Int × Int)), List.Sublist (cutG a b r left) r := by
  intro r
  induction r with
  | nil => intro left; exact List.Sublist.refl _
  | cons s r ih =>
    intro left
    unfold cutG
    split
    · exact (ih _).cons_cons s
    · exact (ih _).cons s
theorem cutG_ok {K : Int} {ts : List (Int × Int)} (h : okB K ts = true) (a b : Nat) (left : List (Int × Int)) : okB K (cutG a b ts left) = true := by
  obtain ⟨k0, k8, hs⟩ := ok_parts h
  have hl := cutG_list a b ts left
  exact ok_of_srt k0 k8 ⟨fun t ht => hs.1 t (hl.subset ht), hs.2.sublist hl⟩
/-- what isn't left is what was taken -/
theorem cutG_off {K : Int} {ts : List (Int × Int)} (h : okB K ts = true) (a b : Nat) : offTs ts (leftG a b ts ts) = cutG a b ts ts := by
  obtain ⟨k0, k8, hs⟩ := ok_parts h
  refine srt_ext k8 _ _ (ok_parts (off_ok h _)).2.2 (ok_parts (cutG_ok h a b ts)).2.2 (fun t => ?_)
  rw [mem_off, leftG_mem]
  constructor
  · rintro ⟨h1, h2⟩
    by_cases q : t ∈ cutG a b ts ts
    · exact q
    · exact absurd ⟨h1, q⟩ h2
  · intro q
    exact ⟨cutG_sub a b ts ts t q, fun z => z.2 q⟩
theorem cutG_bits {K : Int} {ts : List (Int × Int)} (h : okB K ts = true) (a b : Nat) : strike (setN K ts) (setN K (leftG a b ts ts)) = setN K (cutG a b ts ts) := by
  rw [off_bits h (leftG_ok (ts := ts) ts ts h), cutG_off h]
/-- the row that is left behind the first ties -/
noncomputable def leftI (ts : List (Int × Int)) (a b i : Nat) : List (Int × Int) := leftG a b (ts.take i) ts
theorem leftI_zero (ts : List (Int × Int)) (a b : Nat) : leftI ts a b 0 = ts := rfl
theorem leftI_all (ts : List (Int × Int)) (a b : Nat) : leftI ts a b ts.length = leftG a b ts ts := by unfold leftI; rw [List.take_length]
theorem leftI_ok {K : Int} {ts : List (Int × Int)} (h : okB K ts = true) (a b i : Nat) : okB K (leftI ts a b i) = true := leftG_ok (ts := ts) _ _ h
theorem leftI_succ {ts : List (Int × Int)} {a b i : Nat} (hi : i < ts.length) : leftI ts a b (i + 1) = if flowV (minusT (leftI ts a b i) ts[i]) a b < flowV (leftI ts a b i) a b then minusT (leftI ts a b i) ts[i] else leftI ts a b i := by
  unfold leftI
  rw [List.take_succ_eq_append_getElem hi, leftG_snoc]
/-- a tie that is taken: one way less -/
theorem leftI_one {K : Int} {ts : List (Int × Int)} (hok : okB K ts = true) {a b i : Nat} (ha : a < 8) (hab : a ≠ b) (hi : i < ts.length) (h : flowV (minusT (leftI ts a b i) ts[i]) a b < flowV (leftI ts a b i) a b) : flowV (leftI ts a b i) a b - 1 = flowV (minusT (leftI ts a b i) ts[i]) a b := by
  have hs : TieOk K ts[i].1 ts[i].2 := (srt_of_good (okB_iff.1 hok).2.1 (okB_iff.1 hok).2.2).1 _ (List.getElem_mem hi)
  have k8 := (okB_iff.1 hok).2.1
  unfold TieOk at hs
  have l := flowV_less (leftI ts a b i) ts[i] (a := a) (b := b) ha hab hs.1 hs.2.1 (by omega)
  omega

end Go.Proofs.YtmkbeiiifikbgaaDoor
