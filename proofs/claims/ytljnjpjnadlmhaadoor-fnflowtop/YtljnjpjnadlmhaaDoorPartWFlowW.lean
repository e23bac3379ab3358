/- Texts put together: WFlowW, MathFS. -/
import Derived.Test.YtljnjpjnadlmhaaDoorPartWFlowCS
import Derived.Test.YtljnjpjnadlmhaaDoorPartMathFR
/- Walks of impl.FlowWeak, spec.FlowWeak. -/
namespace Go.Proofs.YtljnjpjnadlmhaaDoor
open Go.RowKit
set_option linter.unusedVariables false

/-- the least of all counts from the first knot -/
noncomputable def leastJ (ts : List (Int × Int)) : Nat → Int
  | 0 => flowV ts 0 1
  | j + 1 => min (leastJ ts j) (flowV ts 0 (j + 2))
/-- so many ties must be cut at least; -1, if it is not so -/
noncomputable def weakI (K : Int) (ts : List (Int × Int)) : Int := if (okB K ts && decide (2 ≤ K)) = true then leastJ ts (K.toNat - 2) else -1
theorem weakI_no {K : Int} {ts : List (Int × Int)} (h : okB K ts = false ∨ K < 2) : weakI K ts = -1 := by
  unfold weakI
  rw [if_neg]
  rw [Bool.and_eq_true, decide_eq_true_eq]
  rintro ⟨h1, h2⟩
  rcases h with h | h
  · rw [h1] at h; cases h
  · omega
theorem countI_zero {K : Int} {ts : List (Int × Int)} (h : okB K ts = true) {k : Nat} (h0 : 1 ≤ k) (hk : (k : Int) < K) : countI K ts 0 (k : Int) = flowV ts 0 k := by
  unfold countI twoB knotB
  rw [h, if_pos]
  · rfl
  · simp only [Bool.true_and, Bool.and_eq_true, decide_eq_true_eq]
    omega
theorem leastJ_le (ts : List (Int × Int)) : ∀ J i, i ≤ J → leastJ ts J ≤ flowV ts 0 (i + 1) := by
  intro J
  induction J with
  | zero => intro i hi; obtain rfl : i = 0 := by omega
            exact Int.le_refl _
  | succ J ih =>
    intro i hi
    show min (leastJ ts J) (flowV ts 0 (J + 2)) ≤ _
    by_cases e : i = J + 1
    · subst e; show min (leastJ ts J) (flowV ts 0 (J + 2)) ≤ flowV ts 0 (J + 2); omega
    · have := ih i (by omega); omega
theorem leastJ_is (ts : List (Int × Int)) : ∀ J, ∃ i, i ≤ J ∧ leastJ ts J = flowV ts 0 (i + 1) := by
  intro J
  induction J with
  | zero => exact ⟨0, Nat.le_refl _, rfl⟩
  | succ J ih =>
    obtain ⟨i, h1, h2⟩ := ih
    by_cases e : flowV ts 0 (J + 2) < leastJ ts J
    · exact ⟨J + 1, Nat.le_refl _, by show min (leastJ ts J) (flowV ts 0 (J + 2)) = flowV ts 0 (J + 2); omega⟩
    · exact ⟨i, by omega, by show min (leastJ ts J) (flowV ts 0 (J + 2)) = _; omega⟩
theorem weak_le {ts : List (Int × Int)} {Kn a b : Nat} (hK : Kn ≤ 8) (hba : b < a) (ha : a < Kn) : leastJ ts (Kn - 2) ≤ flowV ts a b := by
  have l1 : ∀ k, 1 ≤ k → k < Kn → leastJ ts (Kn - 2) ≤ flowV ts 0 k := fun k h1 h2 => by
    have := leastJ_le ts (Kn - 2) (k - 1) (by omega)
    rwa [show k - 1 + 1 = k by omega] at this
  have t : ∀ k, 1 ≤ k → k < Kn → flowV ts k 0 = flowV ts 0 k := fun k h1 h2 => flowV_turn ts (by omega) (by omega) (by omega)
  by_cases e : b = 0
  · rw [e, t a (by omega) ha]; exact l1 a (by omega) ha
  · rcases flow_three (tieNB_turn ts) (a := a) (b := b) (k := 0) (by omega) (by omega) (by omega) (by omega) (by omega) (by omega) with h | h
    · have h1 : flowV ts a 0 ≤ flowV ts a b := h
      rw [t a (by omega) ha] at h1
      exact Int.le_trans (l1 a (by omega) ha) h1
    · have h1 : flowV ts 0 b ≤ flowV ts a b := h
      exact Int.le_trans (l1 b (by omega) (by omega)) h1
theorem weak_is {ts : List (Int × Int)} {Kn : Nat} (hK : Kn ≤ 8) (h2 : 2 ≤ Kn) : ∃ k, 1 ≤ k ∧ k < Kn ∧ flowV ts k 0 = leastJ ts (Kn - 2) := by
  obtain ⟨i, h1, h3⟩ := leastJ_is ts (Kn - 2)
  exact ⟨i + 1, by omega, by omega, by rw [h3]; exact flowV_turn ts (by omega) (by omega) (by omega)⟩
theorem countI_two {Kn : Nat} {ts : List (Int × Int)} (h : okB (Kn : Int) ts = true) {a b : Nat} (ha : a < Kn) (hb : b < Kn) (hab : a ≠ b) : countI (Kn : Int) ts (a : Int) (b : Int) = flowV ts a b := by
  unfold countI twoB knotB
  rw [h, if_pos]
  · rfl
  · simp only [Bool.true_and, Bool.and_eq_true, decide_eq_true_eq]
    omega
theorem weakI_le8 (K : Int) (ts : List (Int × Int)) : -1 ≤ weakI K ts ∧ weakI K ts ≤ 8 := by
  unfold weakI
  split
  · rename_i h
    rw [Bool.and_eq_true, decide_eq_true_eq] at h
    have hK := (okB_iff.1 h.1).2.1
    obtain ⟨i, h1, h2⟩ := leastJ_is ts (K.toNat - 2)
    have e0 := flowV_nonneg ts (a := 0) (b := i + 1) (by omega) (by omega)
    obtain ⟨F, hF⟩ := (flowN_is (tieNB_turn ts) (a := 0) (b := i + 1) (by omega) (by omega)).2.1
    have e1 := hF.few
    have e2 : flowV ts 0 (i + 1) = flowN (tieNB ts) 0 (i + 1) := rfl
    omega
  · omega
theorem weakI_neg {K : Int} {ts : List (Int × Int)} (h : ¬ weakI K ts < 0) : okB K ts = true ∧ 2 ≤ K := by
  unfold weakI at h
  by_cases e : (okB K ts && decide (2 ≤ K)) = true
  · rw [Bool.and_eq_true, decide_eq_true_eq] at e; exact e
  · rw [if_neg e] at h; omega
end Go.Proofs.YtljnjpjnadlmhaaDoor

/- Plain mathematics of flows: the fewest ties that part a net; none if it has more parts, one just if it has a bridge. No program stands here. -/
namespace Go.Proofs.YtljnjpjnadlmhaaDoor
set_option linter.unusedVariables false

theorem cn_tie {K : Int} {ts : List (Int × Int)} (hok : okB K ts = true) (a z : Nat) : Cn (fun x y => tieNB ts x y = true) a z ↔ Cn (Tied ts ts.length) a z := by
  have hn := okB_iff.1 hok
  constructor
  · intro h
    induction h with
    | refl => exact .refl a
    | fwd _ e ih => exact ((tieNB_iff hn).1 e).elim (fun q => ih.fwd q) (fun q => ih.bwd q)
    | bwd _ e ih => exact ((tieNB_iff hn).1 e).elim (fun q => ih.bwd q) (fun q => ih.fwd q)
  · intro h
    induction h with
    | refl => exact .refl a
    | fwd _ e ih => exact ih.fwd ((tieNB_iff hn).2 (Or.inl e))
    | bwd _ e ih => exact ih.bwd ((tieNB_iff hn).2 (Or.inl e))
theorem reach_sym (ts : List (Int × Int)) (x y : Nat) : reachB ts x y = reachB ts y x := by
  unfold reachB
  exact decide_eq_decide.2 ⟨fun h => h.symm, fun h => h.symm⟩
theorem reach_zero (ts : List (Int × Int)) (k : Nat) : reachB ts 0 k = true ↔ topN ts k = 0 := by
  unfold reachB topN
  rw [decide_eq_true_eq]
  have h0 : top (forest ts ts.length) 0 = 0 := Nat.le_zero.1 (topN_le ts 0)
  rw [h0]
theorem cnt_pos {ts : List (Int × Int)} : ∀ n, 1 ≤ n → 1 ≤ cnt ts n := by
  intro n
  induction n with
  | zero => intro h; omega
  | succ n ih =>
    intro _
    by_cases e : n = 0
    · subst e
      rw [cnt_yes (Nat.le_zero.1 (topN_le ts 0))]; omega
    · have := ih (by omega)
      by_cases q : topN ts n = n
      · rw [cnt_yes q]; omega
      · rw [cnt_no q]; exact this
theorem cnt_more {ts : List (Int × Int)} : ∀ n, 1 ≤ n → (1 < cnt ts n ↔ ∃ k, 1 ≤ k ∧ k < n ∧ topN ts k = k) := by
  intro n
  induction n with
  | zero => intro h; omega
  | succ n ih =>
    intro _
    by_cases e : n = 0
    · subst e
      rw [cnt_yes (Nat.le_zero.1 (topN_le ts 0))]
      constructor
      · intro h; simp [cnt] at h
      · rintro ⟨k, h1, h2, _⟩; omega
    · have h1 := ih (by omega)
      have h2 := cnt_pos (ts := ts) n (by omega)
      by_cases q : topN ts n = n
      · rw [cnt_yes q]
        exact ⟨fun _ => ⟨n, by omega, by omega, q⟩, fun _ => by omega⟩
      · rw [cnt_no q, h1]
        constructor
        · rintro ⟨k, a1, a2, a3⟩; exact ⟨k, a1, by omega, a3⟩
        · rintro ⟨k, a1, a2, a3⟩
          exact ⟨k, a1, by rcases Nat.lt_or_ge k n with r | r; exact r; exact absurd (show topN ts n = n by rw [← show k = n by omega]; exact a3) q, a3⟩
theorem cnt_reach {ts : List (Int × Int)} {n : Nat} (hn : 1 ≤ n) : 1 < cnt ts n ↔ ∃ k, 1 ≤ k ∧ k < n ∧ reachB ts 0 k = false := by
  rw [cnt_more n hn]
  constructor
  · rintro ⟨k, h1, h2, h3⟩
    refine ⟨k, h1, h2, ?_⟩
    rw [← Bool.not_eq_true, reach_zero, h3]; omega
  · rintro ⟨k, h1, h2, h3⟩
    rw [← Bool.not_eq_true, reach_zero] at h3
    have := topN_le ts k
    exact ⟨topN ts k, by omega, by omega, topN_top ts k⟩
/-- with a tie that is no bridge cut one comes wherever one came -/
theorem cut_same {K : Int} {ts : List (Int × Int)} (hok : okB K ts = true) {t : Int × Int} {x y : Nat} (ht : tieOf (x : Int) (y : Int) = t) (h : reachB (minusT ts t) x y = true) {a b : Nat} (hr : reachB ts a b = true) : reachB (minusT ts t) a b = true := by
  have hok2 := minus_ok hok t
  have hxy := (cn_tie hok2 x y).2 ((reach_cn _ x y).1 h)
  have hab := (cn_tie hok a b).2 ((reach_cn ts a b).1 hr)
  refine (reach_cn _ a b).2 ((cn_tie hok2 a b).1 ?_)
  have edge : ∀ u v, tieNB ts u v = true → Cn (fun x y => tieNB (minusT ts t) x y = true) u v := fun u v e => by
    by_cases q : tieOf (u : Int) (v : Int) = t
    · have : (u = x ∧ v = y) ∨ (u = y ∧ v = x) := by
        rw [← ht] at q
        unfold tieOf at q
        injection q with q1 q2
        omega
      rcases this with ⟨e1, e2⟩ | ⟨e1, e2⟩
      · rw [e1, e2]; exact hxy
      · rw [e1, e2]; exact hxy.symm
    · exact (Cn.refl u).fwd ((tieNB_mem _ u v).2 (mem_minus.2 ⟨(tieNB_mem _ u v).1 e, q⟩))
  clear hr
  induction hab with
  | refl => exact .refl a
  | fwd _ e ih => exact ih.trans (edge _ _ e)
  | bwd _ e ih => exact ih.trans (edge _ _ e).symm

theorem cut_minus {K : Int} {ts : List (Int × Int)} {a b : Int} (h : hasB K ts a b = true) : cutTs K ts a b = minusT ts (tieOf a b) := by
  have hc : cutB K ts a b = true := h
  rw [cutTs_yes hc]; rfl
/-- a tie of the net whose ends one does not come between without it is a bridge, and so on -/
theorem bridge_minus {K : Int} {ts : List (Int × Int)} {x y : Nat} (h : hasB K ts (x : Int) (y : Int) = true) : bridgeB K ts (x : Int) (y : Int) = !reachB (minusT ts (tieOf (x : Int) (y : Int))) x y := by
  have := bridge_beside h
  rw [cut_minus h] at this
  rw [this, Bool.not_not]
theorem tie_knots {K : Int} {ts : List (Int × Int)} (hok : okB K ts = true) {t : Int × Int} (ht : t ∈ ts) : ∃ x y : Nat, t = ((x : Int), (y : Int)) ∧ x < y ∧ (y : Int) < K ∧ tieOf (x : Int) (y : Int) = t ∧ hasB K ts (x : Int) (y : Int) = true := by
  have hs : TieOk K t.1 t.2 := (srt_of_good (okB_iff.1 hok).2.1 (okB_iff.1 hok).2.2).1 t ht
  unfold TieOk at hs
  refine ⟨t.1.toNat, t.2.toNat, ?_, by omega, by omega, ?_, ?_⟩
  · rw [Int.toNat_of_nonneg hs.1, Int.toNat_of_nonneg (by omega)]
  · unfold tieOf
    rw [Int.toNat_of_nonneg hs.1, Int.toNat_of_nonneg (by omega), Int.min_eq_left (by omega), Int.max_eq_right (by omega)]
  · unfold hasB
    rw [hok, Bool.true_and]
    refine tied_mem.2 ?_
    rw [Int.toNat_of_nonneg hs.1, Int.toNat_of_nonneg (by omega), Int.min_eq_left (by omega), Int.max_eq_right (by omega)]
    exact ht
/-- none needs to be cut just if there is more than one part -/
theorem weak_zero {ts : List (Int × Int)} {Kn : Nat} (hok : okB (Kn : Int) ts = true) (h2 : 2 ≤ Kn) : (leastJ ts (Kn - 2) = 0 ↔ 1 < cnt ts Kn) ∧ 0 ≤ leastJ ts (Kn - 2) := by
  have hK8 : Kn ≤ 8 := by have := (okB_iff.1 hok).2.1; omega
  obtain ⟨k, k1, k2, k3⟩ := weak_is (ts := ts) hK8 h2
  have h0 := flowV_nonneg ts (a := k) (b := 0) (by omega) (by omega)
  refine ⟨?_, by omega⟩
  rw [cnt_reach (by omega)]
  constructor
  · intro h
    refine ⟨k, k1, k2, ?_⟩
    rw [reach_sym]
    exact (flowV_zero hok (by omega) (by omega) (by omega)).1 (by omega)
  · rintro ⟨j, j1, j2, j3⟩
    have e := (flowV_zero hok (a := 0) (b := j) (by omega) (by omega) (by omega)).2 j3
    have l := leastJ_le ts (Kn - 2) (j - 1) (by omega)
    rw [show j - 1 + 1 = j by omega] at l
    omega
/-- one just if there is one part, and a bridge -/
theorem weak_one {ts : List (Int × Int)} {Kn : Nat} (hok : okB (Kn : Int) ts = true) (h2 : 2 ≤ Kn) : leastJ ts (Kn - 2) = 1 ↔ cnt ts Kn = 1 ∧ 0 < (brTs (Kn : Int) ts).length := by
  have hK8 : Kn ≤ 8 := by have := (okB_iff.1 hok).2.1; omega
  have hz := weak_zero hok h2
  have hp := cnt_pos (ts := ts) Kn (by omega)
  constructor
  · intro h
    have hc : cnt ts Kn = 1 := by
      rcases Nat.lt_or_ge 1 (cnt ts Kn) with q | q
      · have := hz.1.2 q; omega
      · omega
    refine ⟨hc, ?_⟩
    obtain ⟨k, k1, k2, k3⟩ := weak_is (ts := ts) hK8 h2
    obtain ⟨r1, t, t1, t2⟩ := (flow_one hok (a := k) (b := 0) (by omega) (by omega) (by omega)).1 (by omega)
    obtain ⟨x, y, e1, e2, e3, e4, e5⟩ := tie_knots hok t1
    have hb : bridgeB (Kn : Int) ts (x : Int) (y : Int) = true := by
      rw [bridge_minus e5, e4]
      cases q : reachB (minusT ts t) x y with
      | false => rfl
      | true => have := cut_same hok e4 q r1; rw [t2] at this; cases this
    have hm : t ∈ brTs (Kn : Int) ts := by
      unfold brTs
      rw [if_pos hok]
      exact List.mem_filter.2 ⟨t1, by rw [e1]; exact hb⟩
    exact List.length_pos_of_mem hm
  · rintro ⟨hc, hb⟩
    obtain ⟨t, ht⟩ : ∃ t, t ∈ brTs (Kn : Int) ts := List.exists_mem_of_length_pos hb
    unfold brTs at ht
    rw [if_pos hok] at ht
    obtain ⟨t1, t2⟩ := List.mem_filter.1 ht
    obtain ⟨x, y, e1, e2, e3, e4, e5⟩ := tie_knots hok t1
    have hbr : bridgeB (Kn : Int) ts (x : Int) (y : Int) = true := by rw [e1] at t2; exact t2
    have all : ∀ k, k < Kn → reachB ts 0 k = true := fun k hk => by
      by_cases q : k = 0
      · rw [q]; exact (reach_zero ts 0).2 (Nat.le_zero.1 (topN_le ts 0))
      · cases q2 : reachB ts 0 k with
        | true => rfl
        | false => have := (cnt_reach (ts := ts) (n := Kn) (by omega)).2 ⟨k, by omega, hk, q2⟩; omega
    have hxy : reachB ts x y = true := by
      have a1 := all x (by omega)
      have a2 := all y (by omega)
      rw [reach_zero] at a1 a2
      unfold reachB
      exact decide_eq_true (show topN ts y = topN ts x by rw [a1, a2])
    rw [bridge_minus e5, e4] at hbr
    have hf : flowV ts x y = 1 := (flow_one hok (by omega) (by omega) (by omega)).2 ⟨hxy, t, t1, by simpa using hbr⟩
    have l := weak_le (ts := ts) (Kn := Kn) (a := y) (b := x) hK8 e2 (by omega)
    rw [flowV_turn ts (a := x) (b := y) (by omega) (by omega) (by omega)] at l
    have n0 : leastJ ts (Kn - 2) ≠ 0 := fun q => by have := hz.1.1 q; omega
    have := hz.2
    omega

end Go.Proofs.YtljnjpjnadlmhaaDoor
