/- Ways that have no tie twice are no more than the most. -/
import Derived.Test.YtljnjpjnadlmhaaDoorMathGB
import Derived.Test.YtljnjpjnadlmhaaDoorMathGC
import Derived.Test.YtljnjpjnadlmhaaDoorPartMathFN
namespace Go.Proofs.YtljnjpjnadlmhaaDoor
set_option linter.unusedVariables false

theorem canW_of_on {T : Nat → Nat → Bool} {F : Nat → Nat → Int} : ∀ (p : List Nat), (∀ u v, onP p u v → T u v = true ∧ F u v < 1) → canW T F p
  | [], _ => trivial
  | [_], _ => trivial
  | x :: y :: r, h => ⟨(h x y (Or.inl ⟨rfl, rfl⟩)).1, (h x y (Or.inl ⟨rfl, rfl⟩)).2, canW_of_on (y :: r) (fun u v hu => h u v (Or.inr (Or.inr hu)))⟩
theorem off_on {F : Nat → Nat → Int} (ha : ∀ x y, F y x = - F x y) : ∀ (p : List Nat) (u v : Nat), offP F p → onP p u v → F u v = 0
  | [], _, _, _, h => absurd h (fun h => h)
  | [_], _, _, _, h => absurd h (fun h => h)
  | x :: y :: r, u, v, ho, h => by
    rcases h with ⟨rfl, rfl⟩ | ⟨rfl, rfl⟩ | h
    · exact ho.1
    · rw [ha x y, ho.1]; rfl
    · exact off_on ha (y :: r) u v ho.2 h
theorem ways_flow {K : Int} {ts : List (Int × Int)} {a b : Nat} (hab : a ≠ b) : ∀ (xss : List (List Int)) (F : Nat → Nat → Int) (v : Int), Flw (tieNB ts) a b F v → goodW K ts (a : Int) (b : Int) F xss = true → ∃ F', Flw (tieNB ts) a b F' (v + (xss.length : Int)) := by
  intro xss
  induction xss with
  | nil => intro F v h _; exact ⟨F, by simpa using h⟩
  | cons xs r ih =>
    intro F v h hg
    unfold goodW at hg
    rw [Bool.and_eq_true, Bool.and_eq_true, Bool.not_eq_true'] at hg
    obtain ⟨⟨h1, h2⟩, h3⟩ := hg
    have N := from_nat h1
    have hoff := (met_off h.anti (natL xs)).1 h2
    have hcan : canW (tieNB ts) F (natL xs) := canW_of_on _ (fun u w hu => by
      have ht := from_tie h1 hu
      have hz := off_on h.anti _ u w hoff hu
      exact ⟨(tieNB_mem _ _ _).2 ht, by omega⟩)
    have hf : natL xs ≠ [] := by intro e; have := N.pos; rw [e] at this; simp at this
    unfold fromB at h1
    simp only [Bool.and_eq_true, decide_eq_true_eq] at h1
    have hl := N.len
    have hp := N.pos
    have hp2 : 0 < xs.length := by omega
    have e0 : (natL xs).getD 0 0 = a := by have := N.eq 0 (by omega); have h2 := h1.1.2; omega
    have e1 : (natL xs).getD (xs.length - 1) 0 = b := by have := N.eq (xs.length - 1) (by omega); have h2 := h1.2; omega
    obtain ⟨y, p, hyp⟩ : ∃ y p, natL xs = y :: p := by
      cases hh : natL xs with
      | nil => exact absurd hh hf
      | cons y p => exact ⟨y, p, rfl⟩
    have hy : y = a := by rw [hyp] at e0; simpa using e0
    subst hy
    have hlast : (y :: p).getLast (by simp) = b := by
      rw [List.getLast_eq_getElem]
      rw [hyp] at e1 hl
      have : xs.length - 1 < (y :: p).length := by omega
      rw [List.getD_eq_getElem?_getD, List.getElem?_eq_getElem this] at e1
      simp only [Option.getD_some] at e1
      rw [← e1]
      congr 1; omega
    have hlt := N.lt
    have hnd := N.nd
    rw [hyp] at hcan hlt hnd h3
    have hm := h.more (tieNB_turn ts) hlt hnd hlast hab hcan
    obtain ⟨F', hF'⟩ := ih _ _ hm h3
    refine ⟨F', ?_⟩
    have e : v + ((xs :: r).length : Int) = v + 1 + (r.length : Int) := by simp; omega
    rw [e]; exact hF'
/-- ways that have no tie twice are no more than the most -/
theorem ways_most {K : Int} {ts : List (Int × Int)} {a b : Nat} (ha : a < 8) (hab : a ≠ b) {xss : List (List Int)} (h : flowB K ts (a : Int) (b : Int) xss = true) : (xss.length : Int) ≤ flowV ts a b := by
  unfold flowB at h
  rw [Bool.and_eq_true] at h
  obtain ⟨F', hF⟩ := ways_flow hab xss _ 0 (Flw.none (tieNB ts) a b) h.2
  obtain ⟨_, _, S, h1, h2, h3⟩ := flowN_is (tieNB_turn ts) ha hab
  have := flow_le hF ha h1 h2
  show (xss.length : Int) ≤ flowN (tieNB ts) a b
  omega

end Go.Proofs.YtljnjpjnadlmhaaDoor
