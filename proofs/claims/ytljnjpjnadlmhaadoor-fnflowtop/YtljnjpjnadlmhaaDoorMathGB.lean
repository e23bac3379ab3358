/- Mathematics of flows: no two ways go over one tie just if each tie is gone over once at most. -/
import Derived.Test.YtljnjpjnadlmhaaDoorMathGA
import Derived.Test.YtljnjpjnadlmhaaDoorWUses
import Derived.Test.YtljnjpjnadlmhaaDoorPartMathE
namespace Go.Proofs.YtljnjpjnadlmhaaDoor
set_option linter.unusedVariables false

theorem few_pairwise {α : Type} (f : α → Bool) : ∀ l : List α, (l.filter f).length ≤ 1 ↔ l.Pairwise (fun p q => ¬ (f p = true ∧ f q = true))
  | [] => ⟨fun _ => List.Pairwise.nil, fun _ => by simp⟩
  | a :: r => by
    have ih := few_pairwise f r
    rw [List.pairwise_cons]
    cases ha : f a with
    | false =>
      rw [List.filter_cons_of_neg (by simp [ha])]
      constructor
      · intro h
        exact ⟨fun q _ e => (by cases e.1), ih.1 h⟩
      · rintro ⟨_, h⟩
        exact ih.2 h
    | true =>
      rw [List.filter_cons_of_pos ha, List.length_cons]
      constructor
      · intro h
        have hz : r.filter f = [] := List.length_eq_zero_iff.1 (by omega)
        refine ⟨fun q hq e => ?_, ih.1 (by rw [hz]; simp)⟩
        have := List.filter_eq_nil_iff.1 hz q hq
        exact this e.2
      · rintro ⟨h, _⟩
        have hz : r.filter f = [] := List.filter_eq_nil_iff.2 (fun q hq e => h q hq ⟨rfl, e⟩)
        rw [hz]; simp
theorem tieOf_pair {u v x y : Nat} (hxy : x < y) : tieOf (u : Int) (v : Int) = ((x : Int), (y : Int)) ↔ (u = x ∧ v = y) ∨ (u = y ∧ v = x) := by
  unfold tieOf
  simp only [Prod.mk.injEq]
  omega
theorem uses_nat {xs : List Int} (N : NatW xs) {x y : Nat} (hxy : x < y) : usesB xs ((x : Int), (y : Int)) = true ↔ onP (natL xs) x y := by
  rw [onP_iff]
  unfold usesB
  rw [List.any_eq_true]
  constructor
  · rintro ⟨k, hk, h⟩
    rw [List.mem_range] at hk
    rw [Bool.and_eq_true, decide_eq_true_eq, decide_eq_true_eq] at h
    obtain ⟨h1, h2⟩ := h
    obtain ⟨j, rfl⟩ : ∃ j, k = j + 1 := ⟨k - 1, by omega⟩
    rw [Nat.add_sub_cancel, N.eq j (by omega), N.eq (j + 1) hk, tieOf_pair hxy] at h2
    exact ⟨j, by rw [N.len]; exact hk, h2⟩
  · rintro ⟨k, hk, h⟩
    rw [N.len] at hk
    refine ⟨k + 1, List.mem_range.2 hk, ?_⟩
    rw [Bool.and_eq_true, decide_eq_true_eq, decide_eq_true_eq, Nat.add_sub_cancel, N.eq k (by omega), N.eq (k + 1) hk, tieOf_pair hxy]
    exact ⟨by omega, h⟩
/-- a way's ties are of the net -/
theorem from_tie {K : Int} {ts : List (Int × Int)} {a b : Int} {xs : List Int} (h : fromB K ts a b xs = true) {u v : Nat} (hu : onP (natL xs) u v) : tieOf (u : Int) (v : Int) ∈ ts := by
  have N := from_nat h
  unfold fromB at h
  simp only [Bool.and_eq_true] at h
  have W := wayB_iff.1 h.1.1
  obtain ⟨k, hk, e⟩ := (onP_iff _).1 hu
  rw [N.len] at hk
  have ht := (hasB_mem W.ok).1 (W.tie k hk)
  rw [N.eq k (by omega), N.eq (k + 1) hk] at ht
  rcases e with e | e
  · rw [e.1, e.2] at ht; exact ht
  · rw [e.1, e.2, tieOf_turn] at ht; exact ht
theorem apart_iff {K : Int} {ts : List (Int × Int)} {a b : Int} (hok : okB K ts = true) {xss : List (List Int)} (hf : ∀ xs, xs ∈ xss → fromB K ts a b xs = true) : xss.Pairwise (fun p q => Apart2 (natL p) (natL q)) ↔ ∀ t, t ∈ ts → (xss.filter (fun xs => usesB xs t)).length ≤ 1 := by
  constructor
  · intro h t ht
    obtain ⟨x, y, hxy, _, e, _, _⟩ := tie_form hok ht
    subst e
    rw [few_pairwise]
    rw [List.pairwise_iff_getElem] at h ⊢
    intro i j hi hj hij hh
    have Ni := from_nat (hf _ (List.getElem_mem hi))
    have Nj := from_nat (hf _ (List.getElem_mem hj))
    exact h i j hi hj hij x y ((uses_nat Ni hxy).1 hh.1) ((uses_nat Nj hxy).1 hh.2)
  · intro h
    rw [List.pairwise_iff_getElem]
    intro i j hi hj hij u v h1 h2
    have Ni := from_nat (hf _ (List.getElem_mem hi))
    have Nj := from_nat (hf _ (List.getElem_mem hj))
    have ht := from_tie (hf _ (List.getElem_mem hi)) h1
    have hp := (few_pairwise _ _).1 (h _ ht)
    rw [List.pairwise_iff_getElem] at hp
    refine hp i j hi hj hij ?_
    obtain ⟨x, y, hxy, _, e, _, _⟩ := tie_form hok ht
    rw [e]
    have hp2 := (tieOf_pair hxy).1 e
    rcases hp2 with ⟨rfl, rfl⟩ | ⟨rfl, rfl⟩
    · exact ⟨(uses_nat Ni hxy).2 h1, (uses_nat Nj hxy).2 h2⟩
    · exact ⟨(uses_nat Ni hxy).2 (onP_symm h1), (uses_nat Nj hxy).2 (onP_symm h2)⟩

end Go.Proofs.YtljnjpjnadlmhaaDoor
