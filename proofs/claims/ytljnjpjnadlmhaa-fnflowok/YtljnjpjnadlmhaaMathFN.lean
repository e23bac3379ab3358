/- Plain mathematics of flows: one tie less; no way; ties that part; the first of the fewest that part. No program stands here. -/
import Derived.Test.YtljnjpjnadlmhaaPartMathFL
import Derived.Test.YtljnjpjnadlmhaaMathFP
namespace Go.Proofs.Ytljnjpjnadlmhaa
set_option linter.unusedVariables false

/-- one tie less lets one way less be, or as many -/
theorem flow_less {T U : Nat → Nat → Bool} (hT : ∀ x y, T x y = T y x) (hU : ∀ x y, U x y = U y x) {c d : Nat} (hc : c < 8) (hd : d < 8) (h : ∀ x y, U x y = true → T x y = true ∨ (x = c ∧ y = d) ∨ (x = d ∧ y = c)) {a b : Nat} (ha : a < 8) (hab : a ≠ b) : flowN U a b ≤ flowN T a b + 1 := by
  obtain ⟨S, s1, s2, s3⟩ := (flowN_is hT ha hab).2.2
  have e1 := flowN_le hU ha hab s1 s2
  have e2 : cutN U S ≤ su 8 (fun x => su 8 (fun y => (if (S x && !S y && T x y) = true then 1 else 0) + ((if x = c then (if y = d then (if (S c && !S d) = true then 1 else 0) else 0) else 0) + (if x = d then (if y = c then (if (S d && !S c) = true then 1 else 0) else 0) else 0)))) := by
    refine su_le (fun x _ => su_le (fun y _ => ?_))
    have k1 : (0 : Int) ≤ (if x = c then (if y = d then (if (S c && !S d) = true then 1 else 0) else 0) else 0) := by (repeat' split) <;> decide
    have k2 : (0 : Int) ≤ (if x = d then (if y = c then (if (S d && !S c) = true then 1 else 0) else 0) else 0) := by (repeat' split) <;> decide
    have k3 : (0 : Int) ≤ (if (S x && !S y && T x y) = true then 1 else 0) := by split <;> decide
    by_cases q : (S x && !S y && U x y) = true
    · rw [if_pos q]
      have q2 := q
      rw [Bool.and_eq_true] at q2
      rcases h x y q2.2 with r | ⟨rfl, rfl⟩ | ⟨rfl, rfl⟩
      · rw [if_pos (by rw [Bool.and_eq_true]; exact ⟨q2.1, r⟩)]; omega
      · have : (if x = x then (if y = y then (if (S x && !S y) = true then (1 : Int) else 0) else 0) else 0) = 1 := by rw [if_pos rfl, if_pos rfl, if_pos q2.1]
        omega
      · have : (if x = x then (if y = y then (if (S x && !S y) = true then (1 : Int) else 0) else 0) else 0) = 1 := by rw [if_pos rfl, if_pos rfl, if_pos q2.1]
        omega
    · rw [if_neg q]; omega
  have one : ∀ (u v : Nat) (z : Int), u < 8 → v < 8 → su 8 (fun x => su 8 (fun y => if x = u then (if y = v then z else 0) else 0)) = z := by
    intro u v z hu hv
    refine Eq.trans (su_congr (fun x _ => ?_)) (su_one (n := 8) u z hu)
    by_cases q : x = u
    · rw [if_pos q]
      exact Eq.trans (su_congr (fun y _ => if_pos q)) (su_one (n := 8) v z hv)
    · rw [if_neg q]
      exact Eq.trans (su_congr (fun y _ => if_neg q)) (su_zero 8)
  have e3 : su 8 (fun x => su 8 (fun y => (if (S x && !S y && T x y) = true then 1 else 0) + ((if x = c then (if y = d then (if (S c && !S d) = true then 1 else 0) else 0) else 0) + (if x = d then (if y = c then (if (S d && !S c) = true then 1 else 0) else 0) else 0)))) = cutN T S + ((if (S c && !S d) = true then 1 else 0) + (if (S d && !S c) = true then 1 else 0)) := by
    have o1 := one c d (if (S c && !S d) = true then 1 else 0) hc hd
    have o2 := one d c (if (S d && !S c) = true then 1 else 0) hd hc
    refine Eq.trans ?_ (congrArg (cutN T S + ·) (congr (congrArg (· + ·) o1) o2))
    unfold cutN
    rw [← su_add, ← su_add]
    refine su_congr (fun x _ => ?_)
    rw [← su_add, ← su_add]
  have e4 : (if (S c && !S d) = true then (1 : Int) else 0) + (if (S d && !S c) = true then 1 else 0) ≤ 1 := by cases S c <;> cases S d <;> decide
  omega
open Classical in
/-- there is no way just if they don't hang together -/
theorem flow_zero {T : Nat → Nat → Bool} (hT : ∀ x y, T x y = T y x) {a b : Nat} (ha : a < 8) (hb : b < 8) (hab : a ≠ b) (h8 : ∀ x y, T x y = true → y < 8) : flowN T a b = 0 ↔ ¬ Cn (fun x y => T x y = true) a b := by
  obtain ⟨h0, hm⟩ := flowN_is hT ha hab
  constructor
  · intro hz
    obtain ⟨S, s1, s2, s3⟩ := hm.2
    have hno : ∀ x y, x < 8 → y < 8 → S x = true → T x y = true → S y = true := by
      intro x y hx hy h1 h2
      refine Decidable.byContradiction (fun h3 => ?_)
      have h4 : S y = false := by simpa using h3
      have : (1 : Int) ≤ cutN T S := by
        have e : su 8 (fun i => if i = x then (1 : Int) else 0) ≤ cutN T S := by
          refine su_le (fun i _ => ?_)
          by_cases q : i = x
          · subst q
            rw [if_pos rfl]
            have e : su 8 (fun j => if j = y then (1 : Int) else 0) ≤ su 8 (fun j => if (S i && !S j && T i j) = true then 1 else 0) := by
              refine su_le (fun j _ => ?_)
              by_cases q2 : j = y
              · subst q2; rw [if_pos rfl, if_pos (by rw [h1, h4, h2]; rfl)]; exact Int.le_refl _
              · rw [if_neg q2]; split <;> decide
            rw [su_one y 1 hy] at e
            exact e
          · rw [if_neg q]
            exact su_nonneg (fun j _ => by split <;> decide)
        rw [su_one x 1 hx] at e
        exact e
      omega
    intro hc
    have : ∀ z, Cn (fun x y => T x y = true) a z → z < 8 ∧ S z = true := by
      intro z hz2
      induction hz2 with
      | refl => exact ⟨ha, s1⟩
      | fwd _ e ih => exact ⟨h8 _ _ e, hno _ _ ih.1 (h8 _ _ e) ih.2 e⟩
      | bwd _ e ih => have e' := e; rw [hT] at e'; exact ⟨h8 _ _ e', hno _ _ ih.1 (h8 _ _ e') ih.2 e'⟩
    have := (this b hc).2
    rw [s2] at this; cases this
  · intro hno
    have e := flowN_le hT ha hab (S := fun x => decide (Cn (fun x y => T x y = true) a x)) (decide_eq_true (.refl a)) (decide_eq_false hno)
    have e2 : cutN T (fun x => decide (Cn (fun x y => T x y = true) a x)) = 0 := by
      rw [← su_zero 8]
      refine su_congr (fun x _ => ?_)
      refine Eq.trans (su_congr (fun y _ => ?_)) (su_zero 8)
      rw [if_neg]
      intro q
      simp only [Bool.and_eq_true, Bool.not_eq_true', decide_eq_true_eq, decide_eq_false_iff_not] at q
      exact q.1.2 (q.1.1.fwd q.2)
    omega

/-- how many ways there are at most by these ties -/
noncomputable def flowV (ts : List (Int × Int)) (a b : Nat) : Int := flowN (tieNB ts) a b
theorem tieNB_up {ts us : List (Int × Int)} (h : ∀ t, t ∈ us → t ∈ ts) (x y : Nat) (hx : tieNB us x y = true) : tieNB ts x y = true := (tieNB_mem _ _ _).2 (h _ ((tieNB_mem _ _ _).1 hx))
theorem flowV_zero {K : Int} {ts : List (Int × Int)} (hok : okB K ts = true) {a b : Nat} (ha : a < 8) (hb : b < 8) (hab : a ≠ b) : flowV ts a b = 0 ↔ reachB ts a b = false := by
  have hn := okB_iff.1 hok
  have hb8 : ∀ x y, tieNB ts x y = true → y < 8 := fun x y h => by
    have := hn.2.1
    rcases (tieNB_iff hn).1 h with q | q
    · have := (tied_lt hn q).2; omega
    · have := (tied_lt hn q).1; omega
  have key : ∀ z, Cn (fun x y => tieNB ts x y = true) a z ↔ Cn (Tied ts ts.length) a z := by
    intro z
    constructor
    · intro h
      induction h with
      | refl => exact .refl a
      | fwd _ e ih => exact ((tieNB_iff hn).1 e).elim (fun q => ih.fwd q) (fun q => ih.bwd q)
      | bwd _ e ih => exact ((tieNB_iff hn).1 e).elim (fun q => ih.bwd q) (fun q => ih.fwd q)
    · intro h
      induction h with
      | refl => exact .refl a
      | fwd _ e ih => exact ih.fwd ((tieNB_iff hn).2 (Or.inl e))
      | bwd _ e ih => exact ih.bwd ((tieNB_iff hn).2 (Or.inl e))
  unfold flowV
  rw [flow_zero (tieNB_turn ts) ha hb hab hb8, key, ← reach_cn, Bool.not_eq_true]
theorem flowV_nonneg (ts : List (Int × Int)) {a b : Nat} (ha : a < 8) (hab : a ≠ b) : 0 ≤ flowV ts a b := (flowN_is (tieNB_turn ts) ha hab).1
theorem flowV_up {ts us : List (Int × Int)} (h : ∀ t, t ∈ us → t ∈ ts) {a b : Nat} (ha : a < 8) (hab : a ≠ b) : flowV us a b ≤ flowV ts a b := flow_up (tieNB_turn us) (tieNB_turn ts) (tieNB_up h) ha hab
theorem flowV_turn (ts : List (Int × Int)) {a b : Nat} (ha : a < 8) (hb : b < 8) (hab : a ≠ b) : flowV ts b a = flowV ts a b := flow_turn (tieNB_turn ts) ha hb hab
/-- the ties without one -/
def minusT (ts : List (Int × Int)) (t : Int × Int) : List (Int × Int) := ts.filter (fun s => decide (s ≠ t))
theorem mem_minus {ts : List (Int × Int)} {t s : Int × Int} : s ∈ minusT ts t ↔ s ∈ ts ∧ s ≠ t := by unfold minusT; rw [List.mem_filter, decide_eq_true_eq]
theorem flowV_less (ts : List (Int × Int)) (t : Int × Int) {a b : Nat} (ha : a < 8) (hab : a ≠ b) (h0 : 0 ≤ t.1) (h1 : t.1 < t.2) (h2 : t.2 < 8) : flowV ts a b ≤ flowV (minusT ts t) a b + 1 := by
  refine flow_less (tieNB_turn _) (tieNB_turn _) (c := t.1.toNat) (d := t.2.toNat) (by omega) (by omega) (fun x y h => ?_) ha hab
  by_cases q : tieOf (x : Int) (y : Int) = t
  · right
    unfold tieOf at q
    rw [← q]
    dsimp only
    rcases Nat.le_total x y with e | e
    · rw [Int.min_eq_left (by omega), Int.max_eq_right (by omega)]; left; omega
    · rw [Int.min_eq_right (by omega), Int.max_eq_left (by omega)]; right; omega
  · left
    rw [tieNB_mem] at h ⊢
    exact mem_minus.2 ⟨h, q⟩
theorem minus_off {ts us : List (Int × Int)} {i : Nat} (hi : i < us.length) (s : Int × Int) : s ∈ minusT (offTs ts (us.take i)) (us[i]) ↔ s ∈ offTs ts (us.take (i + 1)) := by
  rw [mem_minus, mem_off, mem_off, List.take_add_one, List.getElem?_eq_getElem hi]
  simp only [Option.toList_some, List.mem_append, List.mem_singleton, not_or]
  exact ⟨fun h => ⟨h.1.1, h.1.2, h.2⟩, fun h => ⟨⟨h.1, h.2.1⟩, h.2.2⟩⟩
/-- so many ties less let at most so many ways less be -/
theorem flowV_off {ts us : List (Int × Int)} {a b : Nat} (ha : a < 8) (hab : a ≠ b) (hu : ∀ t, t ∈ us → 0 ≤ t.1 ∧ t.1 < t.2 ∧ t.2 < 8) : flowV ts a b ≤ flowV (offTs ts us) a b + (us.length : Int) := by
  have go : ∀ k, k ≤ us.length → flowV ts a b ≤ flowV (offTs ts (us.take k)) a b + (k : Int) := by
    intro k
    induction k with
    | zero => intro _; rw [List.take_zero, off_nil]; omega
    | succ k ih =>
      intro hk
      have h1 := ih (by omega)
      obtain ⟨q0, q1, q2⟩ := hu _ (List.getElem_mem (show k < us.length by omega))
      have h2 := flowV_less (offTs ts (us.take k)) (us[k]) ha hab q0 q1 q2
      have h3 : flowV (minusT (offTs ts (us.take k)) (us[k])) a b ≤ flowV (offTs ts (us.take (k + 1))) a b := flowV_up (fun s hs => (minus_off (by omega) s).1 hs) ha hab
      omega
  have := go us.length (Nat.le_refl _)
  rw [List.take_length] at this
  exact this
/-- what parts two knots is no fewer than the ways -/
theorem knot_nat' {K : Int} {ts : List (Int × Int)} {a b : Nat} (h : twoB K ts (a : Int) (b : Int) = true) : okB K ts = true ∧ a ≠ b := by
  unfold twoB at h
  simp only [Bool.and_eq_true, decide_eq_true_eq] at h
  exact ⟨h.1.1.1, fun e => h.2 (by rw [e])⟩
theorem parts_le {K : Int} {ts us : List (Int × Int)} {a b : Nat} (ha : a < 8) (hb : b < 8) (h : partsB K ts (a : Int) (b : Int) us = true) : flowV ts a b ≤ (us.length : Int) := by
  unfold partsB at h
  simp only [Bool.and_eq_true, Bool.not_eq_true'] at h
  obtain ⟨⟨⟨h1, h2⟩, h3⟩, h4⟩ := h
  have hok := (knot_nat' h1).1
  have hab : a ≠ b := (knot_nat' h1).2
  have hz := (flowV_zero (off_ok hok us) ha hb hab).2 (by simpa using h4)
  have := flowV_off (ts := ts) (us := us) ha hab (fun t ht => by
    obtain ⟨q0, q1, q2⟩ := (ok_parts h2).2.2.1 t ht
    have := (ok_parts h2).2.1
    omega)
  omega

end Go.Proofs.Ytljnjpjnadlmhaa
