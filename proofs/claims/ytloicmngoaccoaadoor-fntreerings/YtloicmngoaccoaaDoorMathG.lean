/- Plain mathematics of a net without its bridges. No program stands here. -/
import Derived.Test.YtloicmngoaccoaaDoorMathF
namespace Go.Proofs.YtloicmngoaccoaaDoor
set_option linter.unusedVariables false

/-- the ties that are no bridges -/
def nbTs (K : Int) (ts : List (Int × Int)) : List (Int × Int) := if okB K ts = true then ts.filter (fun t => !bridgeB K ts t.1 t.2) else []
def nbK (K : Int) (ts : List (Int × Int)) : Int := if okB K ts = true then K else 0
theorem nbTs_yes {K : Int} {ts : List (Int × Int)} (h : okB K ts = true) : nbTs K ts = ts.filter (fun t => !bridgeB K ts t.1 t.2) := if_pos h
theorem nbTs_no {K : Int} {ts : List (Int × Int)} (h : okB K ts = false) : nbTs K ts = [] := if_neg (by simp [h])
theorem nbK_yes {K : Int} {ts : List (Int × Int)} (h : okB K ts = true) : nbK K ts = K := if_pos h
theorem nbK_no {K : Int} {ts : List (Int × Int)} (h : okB K ts = false) : nbK K ts = 0 := if_neg (by simp [h])
theorem nbTs_ok {K : Int} {ts : List (Int × Int)} (h : okB K ts = true) : okB K (nbTs K ts) = true := by
  obtain ⟨k0, k8, hs⟩ := ok_parts h
  rw [nbTs_yes h]
  exact ok_of_srt k0 k8 (srt_filter hs _)
theorem nbTs_len (K : Int) (ts : List (Int × Int)) : (nbTs K ts).length ≤ 64 := by
  cases h : okB K ts
  · rw [nbTs_no h]; simp
  · exact ok_short (okB_iff.1 (nbTs_ok h))
theorem set_bitsOf {K : Int} {ts : List (Int × Int)} (h : okB K ts = true) : BitsOf (setN K ts) ts := by rw [setN_yes h]; exact mask_bitsOf ts
/-- the set without the bridges -/
theorem nb_bits {K : Int} {ts : List (Int × Int)} (h : okB K ts = true) : BitsOf (strike (setN K ts) (setN K (brTs K ts))) (nbTs K ts) := by
  intro j
  obtain ⟨k0, k8, hs⟩ := ok_parts h
  rw [strike_bit _ _ _ (setN_lt _ _) (setN_lt _ _), Bool.and_eq_true, set_bitsOf h j, Bool.not_eq_true', ← Bool.not_eq_true, set_bitsOf (brTs_ok h) j, nbTs_yes h]
  constructor
  · rintro ⟨⟨t, ht, rfl⟩, hno⟩
    refine ⟨t, List.mem_filter.2 ⟨ht, ?_⟩, rfl⟩
    rw [Bool.not_eq_true', ← Bool.not_eq_true]
    exact fun hb => hno ⟨t, (mem_brTs h t).2 ⟨ht, hb⟩, rfl⟩
  · rintro ⟨t, ht, rfl⟩
    obtain ⟨h1, h2⟩ := List.mem_filter.1 ht
    refine ⟨⟨t, h1, rfl⟩, ?_⟩
    rintro ⟨s, hs', e⟩
    obtain ⟨q1, q2⟩ := (mem_brTs h s).1 hs'
    have : s = t := ix_inj k8 (hs.1 s q1) (hs.1 t h1) e
    subst this
    rw [q2] at h2; simp at h2
/-- some of the bridges cut -/
def cutAll (K : Int) (ts : List (Int × Int)) (i : Nat) : List (Int × Int) := ts.filter (fun t => !decide (t ∈ (brTs K ts).take i))
theorem cutAll_zero (K : Int) (ts : List (Int × Int)) : cutAll K ts 0 = ts := by
  unfold cutAll
  rw [List.filter_eq_self]
  intro t _; simp
theorem cutAll_end {K : Int} {ts : List (Int × Int)} (h : okB K ts = true) : cutAll K ts (brTs K ts).length = nbTs K ts := by
  rw [nbTs_yes h]
  unfold cutAll
  rw [List.take_length]
  apply List.filter_congr
  intro t ht
  congr 1
  rw [Bool.eq_iff_iff, decide_eq_true_eq, mem_brTs h]
  exact ⟨fun q => q.2, fun q => ⟨ht, q⟩⟩
theorem cutAll_ok {K : Int} {ts : List (Int × Int)} (h : okB K ts = true) (i : Nat) : okB K (cutAll K ts i) = true := by
  obtain ⟨k0, k8, hs⟩ := ok_parts h
  exact ok_of_srt k0 k8 (srt_filter hs _)
theorem cutAll_step {K : Int} {ts : List (Int × Int)} (h : okB K ts = true) {i : Nat} (hi : i < (brTs K ts).length) :
    cutB K (cutAll K ts i) (tA (brTs K ts) i) (tB (brTs K ts) i) = true ∧ cutTs K (cutAll K ts i) (tA (brTs K ts) i) (tB (brTs K ts) i) = cutAll K ts (i + 1) := by
  have hm := mem_at hi
  obtain ⟨h1, h2⟩ := (mem_brTs h _).1 hm
  obtain ⟨x, y, hxy, _, et, eo, _⟩ := tie_form h h1
  have hne : ¬ (tA (brTs K ts) i, tB (brTs K ts) i) ∈ (brTs K ts).take i := by
    rw [List.mem_iff_getElem]
    rintro ⟨j, hj, e⟩
    have hj' : j < i := by simp at hj; omega
    have hp := List.pairwise_iff_getElem.1 (ok_parts (brTs_ok h)).2.2.2 j i (by omega) hi hj'
    rw [List.getElem_take] at e
    rw [e, ← ix_get _ _ hi] at hp
    exact absurd hp (by unfold ix; simp)
  have hmem : (tA (brTs K ts) i, tB (brTs K ts) i) ∈ cutAll K ts i := List.mem_filter.2 ⟨h1, by simp only [hne, decide_false, Bool.not_false]⟩
  have hc : cutB K (cutAll K ts i) (tA (brTs K ts) i) (tB (brTs K ts) i) = true := by
    show hasB K _ _ _ = true
    rw [hasB_mem (cutAll_ok h i), eo]; exact hmem
  refine ⟨hc, ?_⟩
  rw [cutTs_yes hc, eo]
  unfold cutAll
  rw [List.filter_filter]
  apply List.filter_congr
  intro t _
  have ht : (brTs K ts).take (i + 1) = (brTs K ts).take i ++ [(tA (brTs K ts) i, tB (brTs K ts) i)] := by
    rw [List.take_add_one, List.getElem?_eq_getElem hi, tA_get _ _ hi, tB_get _ _ hi]; rfl
  rw [ht]
  unfold other
  by_cases e : t = (tA (brTs K ts) i, tB (brTs K ts) i)
  · simp [e]
  · simp [e]

/-- without its bridges a net has as many parts more as it had bridges -/
theorem cutAll_cnt {K : Int} {ts : List (Int × Int)} (h : okB K ts = true) : ∀ i, i ≤ (brTs K ts).length → cnt (cutAll K ts i) K.toNat = cnt ts K.toNat + i := by
  intro i
  induction i with
  | zero => intro _; rw [cutAll_zero]; rfl
  | succ i ih =>
    intro hi
    have hlt : i < (brTs K ts).length := by omega
    obtain ⟨s1, s2⟩ := cutAll_step h hlt
    have hm := mem_at hlt
    obtain ⟨h1, h2⟩ := (mem_brTs h _).1 hm
    obtain ⟨x, y, hxy, _, et, eo, hh⟩ := tie_form h h1
    simp only [Prod.mk.injEq] at et
    have hnb : ¬ Nb (EE ts) x y := (bridge_nb hh).1 (by rw [← et.1, ← et.2]; exact h2)
    rw [et.1, et.2] at s1 s2
    have hb : bridgeB K (cutAll K ts i) (x : Int) (y : Int) = true := by
      rw [bridge_nb (show hasB K (cutAll K ts i) (x : Int) (y : Int) = true from s1)]
      exact fun q => hnb (nb_mono (EE_sub (fun t ht => (List.mem_filter.1 ht).1)) q)
    have hc := cnt_cut (show hasB K (cutAll K ts i) (x : Int) (y : Int) = true from s1)
    unfold bridgeB at hb
    rw [Bool.and_eq_true, decide_eq_true_eq, s2] at hb
    rw [s2] at hc
    have := ih (by omega)
    have h3 := hb.2
    split at hc <;> omega
theorem nb_cnt {K : Int} {ts : List (Int × Int)} (h : okB K ts = true) : cnt (nbTs K ts) K.toNat = cnt ts K.toNat + (brTs K ts).length := by
  rw [← cutAll_end h]; exact cutAll_cnt h _ (Nat.le_refl _)

end Go.Proofs.YtloicmngoaccoaaDoor
