/- Plain mathematics of ties that part two knots: a net without some of its ties. No program stands here. -/
import Derived.Test.YtljnjpjnadlmhaaPartMathE
import Derived.Test.YtljnjpjnadlmhaaPartMathT
namespace Go.Proofs.Ytljnjpjnadlmhaa
set_option linter.unusedVariables false

/-- of two knots that are not the same, of a net that is ok -/
def twoB (K : Int) (ts : List (Int × Int)) (a b : Int) : Bool := okB K ts && knotB a K && knotB b K && decide (a ≠ b)
/-- the ties without some of them -/
def offTs (ts us : List (Int × Int)) : List (Int × Int) := ts.filter (fun t => !decide (t ∈ us))
/-- the ties are of the net, in order, and part both -/
def partsB (K : Int) (ts : List (Int × Int)) (a b : Int) (us : List (Int × Int)) : Bool := twoB K ts a b && okB K us && us.all (fun t => decide (t ∈ ts)) && !reachB (offTs ts us) a.toNat b.toNat
theorem off_ok {K : Int} {ts : List (Int × Int)} (h : okB K ts = true) (us : List (Int × Int)) : okB K (offTs ts us) = true := by
  obtain ⟨k0, k8, hs⟩ := ok_parts h
  exact ok_of_srt k0 k8 (srt_filter hs _)
theorem mem_off {ts us : List (Int × Int)} (t : Int × Int) : t ∈ offTs ts us ↔ t ∈ ts ∧ t ∉ us := by
  unfold offTs; rw [List.mem_filter]; simp
theorem off_bits {K : Int} {ts us : List (Int × Int)} (h : okB K ts = true) (hu : okB K us = true) : strike (setN K ts) (setN K us) = setN K (offTs ts us) := by
  apply Nat.eq_of_testBit_eq
  intro j
  obtain ⟨k0, k8, hs⟩ := ok_parts h
  obtain ⟨_, _, hs'⟩ := ok_parts hu
  rw [strike_bit _ _ _ (setN_lt _ _) (setN_lt _ _)]
  rw [Bool.eq_iff_iff, Bool.and_eq_true, set_bitsOf h j, Bool.not_eq_true', ← Bool.not_eq_true, set_bitsOf hu j, set_bitsOf (off_ok h us) j]
  constructor
  · rintro ⟨⟨t, ht, rfl⟩, hno⟩
    exact ⟨t, (mem_off t).2 ⟨ht, fun hb => hno ⟨t, hb, rfl⟩⟩, rfl⟩
  · rintro ⟨t, ht, rfl⟩
    obtain ⟨h1, h2⟩ := (mem_off t).1 ht
    refine ⟨⟨t, h1, rfl⟩, ?_⟩
    rintro ⟨s, hs2, e⟩
    have : s = t := ix_inj k8 (hs'.1 s hs2) (hs.1 t h1) e
    subst this
    exact h2 hs2
theorem off_nil (ts : List (Int × Int)) : offTs ts [] = ts := by unfold offTs; simp
theorem off_len (ts us : List (Int × Int)) : (offTs ts us).length ≤ ts.length := by unfold offTs; exact List.length_filter_le _ _
theorem up_ne {K : Int} {us : List (Int × Int)} (hu : okB K us = true) {i : Nat} (hi : i < us.length) : (tA us i, tB us i) ∉ us.take i := by
  rw [List.mem_iff_getElem]
  rintro ⟨j, hj, e⟩
  have hj' : j < i := by simp at hj; omega
  have hp := List.pairwise_iff_getElem.1 (ok_parts hu).2.2.2 j i (by omega) hi hj'
  rw [List.getElem_take] at e
  rw [e, ← ix_get _ _ hi] at hp
  exact absurd hp (by unfold ix; simp)
/-- one tie more is cut -/
theorem off_step {K : Int} {ts us : List (Int × Int)} (h : okB K ts = true) (hu : okB K us = true) {i : Nat} (hi : i < us.length) (hm : (tA us i, tB us i) ∈ ts) :
    cutB K (offTs ts (us.take i)) (tA us i) (tB us i) = true ∧ cutTs K (offTs ts (us.take i)) (tA us i) (tB us i) = offTs ts (us.take (i + 1)) := by
  obtain ⟨x, y, hxy, _, et, eo, _⟩ := tie_form h hm
  have hmem : (tA us i, tB us i) ∈ offTs ts (us.take i) := (mem_off _).2 ⟨hm, up_ne hu hi⟩
  have hc : cutB K (offTs ts (us.take i)) (tA us i) (tB us i) = true := by
    show hasB K _ _ _ = true
    rw [hasB_mem (off_ok h _), eo]; exact hmem
  refine ⟨hc, ?_⟩
  rw [cutTs_yes hc, eo]
  unfold offTs
  rw [List.filter_filter]
  apply List.filter_congr
  intro t _
  have ht : us.take (i + 1) = us.take i ++ [(tA us i, tB us i)] := by
    rw [List.take_add_one, List.getElem?_eq_getElem hi, tA_get _ _ hi, tB_get _ _ hi]; rfl
  rw [ht]
  unfold other
  by_cases e : t = (tA us i, tB us i)
  · simp [e]
  · simp [e]
theorem off_stop {K : Int} {ts us : List (Int × Int)} (h : okB K ts = true) (hu : okB K us = true) {i : Nat} (hi : i < us.length) (hm : (tA us i, tB us i) ∉ ts) : cutB K (offTs ts (us.take i)) (tA us i) (tB us i) = false := by
  show hasB K _ _ _ = false
  obtain ⟨x, y, hxy, _, et, eo, _⟩ := tie_form hu (mem_at hi)
  rw [← Bool.not_eq_true, hasB_mem (off_ok h _)]
  intro q
  rw [show tieOf (tA us i) (tB us i) = (tA us i, tB us i) from eo] at q
  exact hm ((mem_off _).1 q).1
theorem partsB_no {K : Int} {ts us : List (Int × Int)} {a b : Int} (h : (twoB K ts a b && okB K us) = false) : partsB K ts a b us = false := by
  unfold partsB; rw [h]; rfl
theorem partsB_sub {K : Int} {ts us : List (Int × Int)} {a b : Int} {i : Nat} (hi : i < us.length) (hm : (tA us i, tB us i) ∉ ts) : partsB K ts a b us = false := by
  unfold partsB
  have : us.all (fun t => decide (t ∈ ts)) = false := by
    rw [← Bool.not_eq_true, List.all_eq_true]
    intro hh
    exact hm (of_decide_eq_true (hh _ (mem_at hi)))
  rw [this]; simp
theorem partsB_yes {K : Int} {ts us : List (Int × Int)} {a b : Int} (h : twoB K ts a b = true) (hu : okB K us = true) (hs : ∀ t, t ∈ us → t ∈ ts) : partsB K ts a b us = !reachB (offTs ts us) a.toNat b.toNat := by
  unfold partsB
  have : us.all (fun t => decide (t ∈ ts)) = true := by
    rw [List.all_eq_true]
    exact fun t ht => decide_eq_true (hs t ht)
  rw [h, hu, this]; rfl

end Go.Proofs.Ytljnjpjnadlmhaa
