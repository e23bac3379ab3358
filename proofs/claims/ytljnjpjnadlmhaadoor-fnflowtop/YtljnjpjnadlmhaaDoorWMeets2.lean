/- What impl.flow.meets tells: that something goes over a way's ties. -/
import Derived.Test.YtljnjpjnadlmhaaDoorWMeets
import Derived.Test.YtljnjpjnadlmhaaDoorMathFZ
namespace Go.Proofs.YtljnjpjnadlmhaaDoor
set_option linter.unusedVariables false

theorem offP_iff {F : Nat → Nat → Int} : ∀ (p : List Nat), offP F p ↔ ∀ k, k + 1 < p.length → F (p.getD k 0) (p.getD (k + 1) 0) = 0
  | [] => ⟨fun _ k hk => absurd hk (by simp), fun _ => trivial⟩
  | [_] => ⟨fun _ k hk => absurd hk (by simp), fun _ => trivial⟩
  | x :: y :: r => by
    have ih := offP_iff (F := F) (y :: r)
    constructor
    · rintro ⟨h1, h2⟩ k hk
      cases k with
      | zero => exact h1
      | succ k => exact ih.1 h2 k (by simpa using hk)
    · intro h
      exact ⟨h 0 (by simp), ih.2 (fun k hk => h (k + 1) (by simpa using hk))⟩
theorem onP_iff {u v : Nat} : ∀ (p : List Nat), onP p u v ↔ ∃ k, k + 1 < p.length ∧ ((p.getD k 0 = u ∧ p.getD (k + 1) 0 = v) ∨ (p.getD k 0 = v ∧ p.getD (k + 1) 0 = u))
  | [] => ⟨fun h => h.elim, fun ⟨k, hk, _⟩ => absurd hk (by simp)⟩
  | [_] => ⟨fun h => h.elim, fun ⟨k, hk, _⟩ => absurd hk (by simp)⟩
  | x :: y :: r => by
    have ih := onP_iff (u := u) (v := v) (y :: r)
    constructor
    · rintro (h | h | h)
      · exact ⟨0, by simp, Or.inl h⟩
      · exact ⟨0, by simp, Or.inr h⟩
      · obtain ⟨k, hk, e⟩ := ih.1 h
        exact ⟨k + 1, by simpa using hk, e⟩
    · rintro ⟨k, hk, e⟩
      cases k with
      | zero =>
        rcases e with e | e
        · exact Or.inl e
        · exact Or.inr (Or.inl e)
      | succ k => exact Or.inr (Or.inr (ih.2 ⟨k, by simpa using hk, e⟩))
theorem over_zero {F : Nat → Nat → Int} (ha : ∀ x y, F y x = - F x y) (p : List Nat) (k : Nat) : overP F p (k + 1) = 0 ↔ F (p.getD k 0) (p.getD (k + 1) 0) = 0 := by
  unfold overP
  rw [Nat.add_sub_cancel]
  generalize p.getD k 0 = a
  generalize p.getD (k + 1) 0 = b
  rcases Nat.le_total a b with h | h
  · rw [Nat.min_eq_left h, Nat.max_eq_right h]
  · rw [Nat.min_eq_right h, Nat.max_eq_left h, ha a b]; omega
theorem met_off {F : Nat → Nat → Int} (ha : ∀ x y, F y x = - F x y) (p : List Nat) : metB F p = false ↔ offP F p := by
  rw [offP_iff]
  constructor
  · intro h k hk
    rw [← over_zero ha]
    by_cases e : overP F p (k + 1) = 0
    · exact e
    · rw [met_at (by omega) hk e] at h; cases h
  · intro h
    refine met_no (fun k h1 hk => ?_)
    obtain ⟨j, rfl⟩ : ∃ j, k = j + 1 := ⟨k - 1, by omega⟩
    rw [over_zero ha]
    exact h j hk

end Go.Proofs.YtljnjpjnadlmhaaDoor
