/- Mathematics of flows: ways are good one behind the other just if no two of them go over one tie. -/
import Derived.Test.YtljnjpjnadlmhaaDoorWFlowOk
namespace Go.Proofs.YtljnjpjnadlmhaaDoor
set_option linter.unusedVariables false

theorem onP_symm {p : List Nat} {u v : Nat} (h : onP p u v) : onP p v u := by
  rw [onP_iff] at h ⊢
  obtain ⟨k, hk, h | h⟩ := h
  · exact ⟨k, hk, Or.inr h⟩
  · exact ⟨k, hk, Or.inl h⟩
/-- no tie is of both ways -/
def Apart2 (p q : List Nat) : Prop := ∀ u v, onP p u v → ¬ onP q u v
theorem off_sent {F : Nat → Nat → Int} (ha : ∀ x y, F y x = - F x y) {q : List Nat} (hn : q.Nodup) (ho : offP F q) (p : List Nat) : offP (goW F q) p ↔ offP F p ∧ Apart2 q p := by
  have hg := (goW_off q F ha hn ho).2
  rw [offP_iff, offP_iff]
  constructor
  · intro h
    refine ⟨fun k hk => ?_, fun u v hq hp => ?_⟩
    · have h1 := h k hk
      have h2 := (hg (p.getD k 0) (p.getD (k + 1) 0)).1
      by_cases e : F (p.getD k 0) (p.getD (k + 1) 0) = 0
      · exact e
      · exact absurd h1 (h2.2 (Or.inl e))
    · obtain ⟨k, hk, e | e⟩ := (onP_iff p).1 hp
      · have h1 := h k hk
        rw [e.1, e.2] at h1
        exact (hg u v).1.2 (Or.inr hq) h1
      · have h1 := h k hk
        rw [e.1, e.2] at h1
        exact (hg v u).1.2 (Or.inr (onP_symm hq)) h1
  · rintro ⟨h1, h2⟩ k hk
    by_cases e : goW F q (p.getD k 0) (p.getD (k + 1) 0) = 0
    · exact e
    · rcases (hg _ _).1.1 e with h | h
      · exact absurd (h1 k hk) h
      · exact absurd ((onP_iff p).2 ⟨k, hk, Or.inl ⟨rfl, rfl⟩⟩) (h2 _ _ h)
theorem from_nat {K : Int} {ts : List (Int × Int)} {a b : Int} {xs : List Int} (h : fromB K ts a b xs = true) : NatW xs := by
  unfold fromB at h
  simp only [Bool.and_eq_true] at h
  exact way_natI h.1.1
theorem good_iff {K : Int} {ts : List (Int × Int)} {a b : Int} : ∀ (xss : List (List Int)) (F : Nat → Nat → Int), (∀ x y, F y x = - F x y) →
    (goodW K ts a b F xss = true ↔ (∀ xs, xs ∈ xss → fromB K ts a b xs = true) ∧ (∀ xs, xs ∈ xss → offP F (natL xs)) ∧ xss.Pairwise (fun p q => Apart2 (natL p) (natL q)))
  | [], F, _ => ⟨fun _ => ⟨fun _ h => (by cases h), fun _ h => (by cases h), List.Pairwise.nil⟩, fun _ => rfl⟩
  | xs :: r, F, ha => by
    show (fromB K ts a b xs && !metB F (natL xs) && goodW K ts a b (goW F (natL xs)) r) = true ↔ _
    rw [Bool.and_eq_true, Bool.and_eq_true, Bool.not_eq_true', List.pairwise_cons]
    constructor
    · rintro ⟨⟨h1, h2⟩, h3⟩
      have N := from_nat h1
      have ho := (met_off ha _).1 h2
      obtain ⟨i1, i2, i3⟩ := (good_iff r _ (goW_off _ F ha N.nd ho).1).1 h3
      refine ⟨fun ys hy => ?_, fun ys hy => ?_, fun ys hy => ((off_sent ha N.nd ho _).1 (i2 ys hy)).2, i3⟩
      · rcases List.mem_cons.1 hy with rfl | hy
        · exact h1
        · exact i1 ys hy
      · rcases List.mem_cons.1 hy with rfl | hy
        · exact ho
        · exact ((off_sent ha N.nd ho _).1 (i2 ys hy)).1
    · rintro ⟨h1, h2, h3, h4⟩
      have hx := h1 xs (by simp)
      have N := from_nat hx
      have ho := h2 xs (by simp)
      refine ⟨⟨hx, (met_off ha _).2 ho⟩, (good_iff r _ (goW_off _ F ha N.nd ho).1).2 ⟨fun ys hy => h1 ys (List.mem_cons_of_mem _ hy), fun ys hy => (off_sent ha N.nd ho _).2 ⟨h2 ys (List.mem_cons_of_mem _ hy), h3 ys hy⟩, h4⟩⟩

end Go.Proofs.YtljnjpjnadlmhaaDoor
