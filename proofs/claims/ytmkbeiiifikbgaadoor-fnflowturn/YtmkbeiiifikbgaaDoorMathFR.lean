/- Plain mathematics of flows: there is just one way just if a tie parts both. No program stands here. -/
import Derived.Test.YtmkbeiiifikbgaaDoorPartMathFN
namespace Go.Proofs.YtmkbeiiifikbgaaDoor
set_option linter.unusedVariables false

theorem su_lt {n : Nat} {f g : Nat → Int} (h : ∀ i, i < n → f i ≤ g i) {i : Nat} (hi : i < n) (h1 : f i + 1 ≤ g i) : su n f + 1 ≤ su n g := by
  have e : su n (fun j => f j + if j = i then 1 else 0) ≤ su n g := su_le (fun j hj => by
    by_cases q : j = i
    · rw [if_pos q, q]; exact h1
    · rw [if_neg q]; have := h j hj; omega)
  rw [su_add, su_one i 1 hi] at e
  exact e
theorem su_pos {n : Nat} {f : Nat → Int} (h : ∀ i, i < n → 0 ≤ f i) (hp : 0 < su n f) : ∃ i, i < n ∧ 0 < f i := by
  refine Decidable.byContradiction (fun hc => ?_)
  have : su n f ≤ su n (fun _ => 0) := su_le (fun i hi => by
    have h1 := h i hi
    rcases Int.lt_or_le 0 (f i) with q | q
    · exact absurd ⟨i, hi, q⟩ hc
    · exact q)
  rw [su_zero] at this
  omega
/-- where a tie leads across, there is one less across without it -/
theorem cut_less {T U : Nat → Nat → Bool} (h : ∀ x y, U x y = true → T x y = true) {S : Nat → Bool} {x y : Nat} (hx : x < 8) (hy : y < 8) (hS : S x = true) (hS2 : S y = false) (hT : T x y = true) (hU : U x y = false) : cutN U S + 1 ≤ cutN T S := by
  have le : ∀ u v, (if (S u && !S v && U u v) = true then (1 : Int) else 0) ≤ (if (S u && !S v && T u v) = true then 1 else 0) := fun u v => by
    by_cases q : (S u && !S v && U u v) = true
    · rw [if_pos q, if_pos (by simp only [Bool.and_eq_true] at q ⊢; exact ⟨q.1, h u v q.2⟩)]; omega
    · rw [if_neg q]; split <;> omega
  unfold cutN
  refine su_lt (fun u _ => su_le (fun v _ => le u v)) hx (su_lt (fun v _ => le x v) hy ?_)
  rw [hS, hS2, hT, hU]; decide
theorem minus_ok {K : Int} {ts : List (Int × Int)} (h : okB K ts = true) (t : Int × Int) : okB K (minusT ts t) = true := by
  have e := off_ok h [t]
  have : offTs ts [t] = minusT ts t := by
    unfold offTs minusT
    refine List.filter_congr (fun s _ => ?_)
    simp
  rwa [this] at e
/-- there is just one way just if one comes there, and a tie parts both -/
theorem flow_one {K : Int} {ts : List (Int × Int)} (hok : okB K ts = true) {a b : Nat} (ha : a < 8) (hb : b < 8) (hab : a ≠ b) :
    flowV ts a b = 1 ↔ reachB ts a b = true ∧ ∃ t, t ∈ ts ∧ reachB (minusT ts t) a b = false := by
  have hz := flowV_zero hok ha hb hab
  have h0 := flowV_nonneg ts (a := a) (b := b) ha hab
  constructor
  · intro h
    refine ⟨?_, ?_⟩
    · cases e : reachB ts a b with
      | true => rfl
      | false => have := hz.2 e; omega
    · obtain ⟨_, S, s1, s2, s3⟩ := (flowN_is (tieNB_turn ts) (a := a) (b := b) ha hab).2
      have s3' : cutN (tieNB ts) S = 1 := by rw [← s3]; exact h
      obtain ⟨x, hx, hx1⟩ := su_pos (n := 8) (f := fun x => su 8 (fun y => if (S x && !S y && tieNB ts x y) = true then 1 else 0)) (fun i _ => su_nonneg (fun j _ => by split <;> omega)) (by show 0 < cutN (tieNB ts) S; omega)
      obtain ⟨y, hy, hy1⟩ := su_pos (n := 8) (f := fun y => if (S x && !S y && tieNB ts x y) = true then (1 : Int) else 0) (fun i _ => by split <;> omega) hx1
      have hq : (S x && !S y && tieNB ts x y) = true := by
        by_cases q : (S x && !S y && tieNB ts x y) = true
        · exact q
        · rw [if_neg q] at hy1; omega
      simp only [Bool.and_eq_true, Bool.not_eq_true'] at hq
      obtain ⟨⟨q1, q2⟩, q3⟩ := hq
      have hm := (tieNB_mem ts x y).1 q3
      refine ⟨_, hm, ?_⟩
      have hU : tieNB (minusT ts (tieOf (x : Int) (y : Int))) x y = false := by
        cases e : tieNB (minusT ts (tieOf (x : Int) (y : Int))) x y with
        | false => rfl
        | true => exact absurd rfl (mem_minus.1 ((tieNB_mem _ x y).1 e)).2
      have hc : cutN (tieNB (minusT ts (tieOf (x : Int) (y : Int)))) S + 1 ≤ cutN (tieNB ts) S := cut_less (T := tieNB ts) (fun u v => tieNB_up (fun t ht => (mem_minus.1 ht).1) u v) hx hy q1 q2 q3 hU
      have hle := flowN_le (tieNB_turn (minusT ts (tieOf (x : Int) (y : Int)))) ha hab (S := S) s1 s2
      have h2 := flowV_nonneg (minusT ts (tieOf (x : Int) (y : Int))) (a := a) (b := b) ha hab
      exact (flowV_zero (minus_ok hok _) ha hb hab).1 (by
        have e : flowV (minusT ts (tieOf (x : Int) (y : Int))) a b = flowN (tieNB (minusT ts (tieOf (x : Int) (y : Int)))) a b := rfl
        omega)
  · rintro ⟨h1, t, ht, h2⟩
    have hne : flowV ts a b ≠ 0 := fun e => by have := hz.1 e; rw [h1] at this; cases this
    have hm := (flowV_zero (minus_ok hok t) ha hb hab).2 h2
    obtain ⟨g0, g1, g2⟩ : 0 ≤ t.1 ∧ t.1 < t.2 ∧ t.2 < 8 := by
      have hn := okB_iff.1 hok
      have := hn.2.1
      have hs : TieOk K t.1 t.2 := (srt_of_good (okB_iff.1 hok).2.1 (okB_iff.1 hok).2.2).1 t ht
      unfold TieOk at hs
      omega
    have hl := flowV_less ts t (a := a) (b := b) ha hab g0 g1 g2
    omega

end Go.Proofs.YtmkbeiiifikbgaaDoor
