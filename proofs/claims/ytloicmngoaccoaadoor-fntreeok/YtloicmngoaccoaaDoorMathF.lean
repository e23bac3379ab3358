/- Plain mathematics of bridges: a tie more, a bridge less. No program stands here. -/
import Derived.Test.YtloicmngoaccoaaDoorMathE
namespace Go.Proofs.YtloicmngoaccoaaDoor
set_option linter.unusedVariables false

theorem nb_mono {E E' : Nat → Nat → Prop} (h : ∀ x y, E x y → E' x y) {a b : Nat} (hn : Nb E a b) : Nb E' a b :=
  Cn.mono (fun x y q => ⟨h x y q.1, q.2⟩) hn
theorem EE_sub {ts us : List (Int × Int)} (h : ∀ t, t ∈ ts → t ∈ us) (x y : Nat) (q : EE ts x y) : EE us x y := by
  unfold EE at *
  rw [tieNB_mem] at *
  exact h _ q
theorem mem_brTs {K : Int} {ts : List (Int × Int)} (h : okB K ts = true) (t : Int × Int) : t ∈ brTs K ts ↔ t ∈ ts ∧ bridgeB K ts t.1 t.2 = true := by
  rw [show brTs K ts = ts.filter (fun t => bridgeB K ts t.1 t.2) from if_pos h, List.mem_filter]
theorem tie_form {K : Int} {ts : List (Int × Int)} (h : okB K ts = true) {t : Int × Int} (ht : t ∈ ts) : ∃ x y : Nat, x < y ∧ y < 8 ∧ t = ((x : Int), (y : Int)) ∧ tieOf t.1 t.2 = t ∧ hasB K ts (x : Int) (y : Int) = true := by
  obtain ⟨k0, k8, hs⟩ := ok_parts h
  obtain ⟨q1, q2, q3⟩ := hs.1 t ht
  have e0 : tieOf t.1 t.2 = t := by unfold tieOf; rw [Int.min_eq_left (by omega), Int.max_eq_right (by omega)]
  have e1 : ((t.1.toNat : Nat) : Int) = t.1 := by omega
  have e2 : ((t.2.toNat : Nat) : Int) = t.2 := by omega
  refine ⟨t.1.toNat, t.2.toNat, by omega, by omega, by rw [e1, e2], e0, ?_⟩
  rw [e1, e2, hasB_mem h, e0]; exact ht
/-- a tie more makes no new bridge but itself -/
theorem few {K : Int} {ts : List (Int × Int)} {a b : Int} (h : addB K ts a b = true) {t : Int × Int} (ht : t ∈ brTs K (addTs K ts a b)) : t = tieOf a b ∨ t ∈ brTs K ts := by
  have hok := (addB_yes h).1
  have A := added h
  rw [mem_brTs A.ok] at ht
  obtain ⟨h1, h2⟩ := ht
  have hm : ∀ t, t ∈ addTs K ts a b ↔ t = tieOf a b ∨ t ∈ ts := fun t => by rw [addTs_yes h, mem_ins]
  rcases (hm t).1 h1 with e | h3
  · exact Or.inl e
  · right
    rw [mem_brTs hok]
    refine ⟨h3, ?_⟩
    obtain ⟨x, y, _, _, rfl, _, hh⟩ := tie_form hok h3
    obtain ⟨x', y', _, _, e', _, hh'⟩ := tie_form A.ok h1
    simp only [Prod.mk.injEq] at e'
    obtain ⟨ex, ey⟩ := e'
    have ex' : x = x' := by omega
    have ey' : y = y' := by omega
    subst ex'; subst ey'
    rw [bridge_nb hh]
    exact fun hn => (bridge_nb hh').1 h2 (nb_mono (EE_sub (fun t q => (hm t).2 (Or.inr q))) hn)
/-- the tie that is tied is a bridge just if both were in two parts -/
theorem few_new {K : Int} {ts : List (Int × Int)} {a b : Int} (h : addB K ts a b = true) : tiedB (brTs K (addTs K ts a b)) (min a b) (max a b) = !reachB ts a.toNat b.toNat := by
  have A := added h
  have e1 : tiedB (brTs K (addTs K ts a b)) (min a b) (max a b) = bridgeB K (addTs K ts a b) a b := by
    rw [← hasB_ok (brTs_ok A.ok), brTs_has A.ok]
  obtain ⟨h1, h2⟩ := add_cut h
  have h1' : hasB K (addTs K ts a b) a b = true := A.has
  have h2' : cutTs K (addTs K ts a b) a b = ts := by
    have : cutTs K (addTs K ts a b) a b = cutTs K (addTs K ts a b) b a := by unfold cutTs cutB; rw [hasB_turned, tieOf_turn]
    rw [this]; exact h2
  have hc := cnt_add h
  rw [e1]
  unfold bridgeB
  rw [h1', h2', Bool.true_and]
  cases hr : reachB ts a.toNat b.toNat
  · rw [hr, if_neg (by simp)] at hc; simp; omega
  · rw [hr, if_pos rfl] at hc; simp; omega

theorem reach_cn (ts : List (Int × Int)) (x y : Nat) : reachB ts x y = true ↔ Cn (Tied ts ts.length) x y := by
  unfold reachB
  rw [decide_eq_true_eq, forest_cn]
  exact ⟨Cn.symm, Cn.symm⟩
/-- without a bridge each knot of its part is of one end's, and not of both -/
theorem ends {K : Int} {ts : List (Int × Int)} (hok : okB K ts = true) {x y : Nat} (hxy : x < y) (ht : ((x : Int), (y : Int)) ∈ brTs K ts) (k : Nat) :
    reachB ts x k = (reachB (cutTs K ts x y) x k || reachB (cutTs K ts x y) y k) ∧ (reachB (cutTs K ts x y) x k && reachB (cutTs K ts x y) y k) = false := by
  obtain ⟨h1, h2⟩ := (mem_brTs hok _).1 ht
  have e0 : tieOf (x : Int) (y : Int) = ((x : Int), (y : Int)) := by unfold tieOf; rw [Int.min_eq_left (by omega), Int.max_eq_right (by omega)]
  have hh : hasB K ts (x : Int) (y : Int) = true := by rw [hasB_mem hok, e0]; exact h1
  have hnb := (bridge_nb hh).1 h2
  rw [nb_cut hh] at hnb
  have e := cutTs_yes (show cutB K ts (x : Int) (y : Int) = true from hh)
  have mem : ∀ t, t ∈ cutTs K ts x y ↔ t ∈ ts ∧ t ≠ ((x : Int), (y : Int)) := fun t => by
    rw [e, List.mem_filter, e0]; unfold other; rw [decide_eq_true_eq]
  have sub : ∀ p q, Tied (cutTs K ts x y) (cutTs K ts x y).length p q → Tied ts ts.length p q := fun p q h => by
    rw [tied_mem_iff] at *
    obtain ⟨t, q1, q2⟩ := h
    exact ⟨t, ((mem t).1 q1).1, q2⟩
  have hxyT : Tied ts ts.length x y := by rw [tied_mem_iff]; exact ⟨_, h1, by simp, by simp⟩
  have step : ∀ p q, Tied ts ts.length p q → Tied (cutTs K ts x y) (cutTs K ts x y).length p q ∨ (p = x ∧ q = y) := fun p q h => by
    rw [tied_mem_iff] at *
    obtain ⟨t, q1, q2, q3⟩ := h
    by_cases et : t = ((x : Int), (y : Int))
    · right; subst et; simp at q2 q3; exact ⟨q2.symm, q3.symm⟩
    · left; exact ⟨t, (mem t).2 ⟨q1, et⟩, q2, q3⟩
  have key : ∀ k, Cn (Tied ts ts.length) x k → Cn (Tied (cutTs K ts x y) (cutTs K ts x y).length) x k ∨ Cn (Tied (cutTs K ts x y) (cutTs K ts x y).length) y k := fun k hc => by
    induction hc with
    | refl => exact Or.inl (Cn.refl _)
    | fwd _ e ih =>
      rcases step _ _ e with e | ⟨rfl, rfl⟩
      · exact ih.elim (fun h => Or.inl (h.fwd e)) (fun h => Or.inr (h.fwd e))
      · exact Or.inr (Cn.refl _)
    | bwd _ e ih =>
      rcases step _ _ e with e | ⟨rfl, rfl⟩
      · exact ih.elim (fun h => Or.inl (h.bwd e)) (fun h => Or.inr (h.bwd e))
      · exact Or.inl (Cn.refl _)
  constructor
  · rw [Bool.eq_iff_iff, Bool.or_eq_true, reach_cn, reach_cn, reach_cn]
    refine ⟨key k, fun h => h.elim (Cn.mono sub) (fun h => ?_)⟩
    exact ((Cn.refl x).fwd hxyT).trans (Cn.mono sub h)
  · rw [← Bool.not_eq_true, Bool.and_eq_true, reach_cn, reach_cn]
    rintro ⟨q1, q2⟩
    exact hnb (q1.trans q2.symm)

end Go.Proofs.YtloicmngoaccoaaDoor
