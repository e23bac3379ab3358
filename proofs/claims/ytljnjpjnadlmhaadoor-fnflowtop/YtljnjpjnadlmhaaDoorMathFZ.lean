/- Plain mathematics of flows: ways sent along no tie twice. No program stands here. -/
import Derived.Test.YtljnjpjnadlmhaaDoorPartMathFL
namespace Go.Proofs.YtljnjpjnadlmhaaDoor
set_option linter.unusedVariables false

/-- a way goes over the tie of two knots, one way or the other -/
def onP : List Nat → Nat → Nat → Prop
  | x :: y :: r, u, v => (x = u ∧ y = v) ∨ (x = v ∧ y = u) ∨ onP (y :: r) u v
  | _, _, _ => False
/-- nothing goes over a way's ties -/
def offP (F : Nat → Nat → Int) : List Nat → Prop
  | x :: y :: r => F x y = 0 ∧ offP F (y :: r)
  | _ => True
theorem offP_congr {F F' : Nat → Nat → Int} : ∀ (p : List Nat), (∀ u v, u ∈ p → v ∈ p → F' u v = F u v) → offP F p → offP F' p
  | [], _, _ => trivial
  | [_], _, _ => trivial
  | x :: y :: r, h, ho => ⟨(h x y (by simp) (by simp)).trans ho.1, offP_congr (y :: r) (fun u v hu hv => h u v (List.mem_cons_of_mem _ hu) (List.mem_cons_of_mem _ hv)) ho.2⟩
theorem goE_off {F : Nat → Nat → Int} {x y : Nat} (ha : ∀ x y, F y x = - F x y) (hxy : x ≠ y) (h0 : F x y = 0) (u v : Nat) : (goE F x y u v ≠ 0 ↔ F u v ≠ 0 ∨ (x = u ∧ y = v) ∨ (x = v ∧ y = u)) ∧ ((-1 ≤ F u v ∧ F u v ≤ 1) → -1 ≤ goE F x y u v ∧ goE F x y u v ≤ 1) := by
  have h1 := ha x y
  unfold goE
  by_cases e1 : u = x ∧ v = y
  · obtain ⟨rfl, rfl⟩ := e1
    have e2 : ¬ (u = v ∧ v = u) := fun e => hxy e.1
    rw [if_pos ⟨rfl, rfl⟩, if_neg e2, h0]
    exact ⟨⟨fun _ => Or.inr (Or.inl ⟨rfl, rfl⟩), fun _ => by omega⟩, fun _ => by omega⟩
  · by_cases e2 : u = y ∧ v = x
    · obtain ⟨rfl, rfl⟩ := e2
      rw [if_neg e1, if_pos ⟨rfl, rfl⟩, h1, h0]
      exact ⟨⟨fun _ => Or.inr (Or.inr ⟨rfl, rfl⟩), fun _ => by omega⟩, fun _ => by omega⟩
    · rw [if_neg e1, if_neg e2]
      refine ⟨⟨fun h => Or.inl (by omega), fun h => ?_⟩, fun h => by omega⟩
      rcases h with h | ⟨rfl, rfl⟩ | ⟨rfl, rfl⟩
      · omega
      · exact absurd ⟨rfl, rfl⟩ e1
      · exact absurd ⟨rfl, rfl⟩ e2
/-- what goes over a tie when a way was sent over which nothing went -/
theorem goW_off : ∀ (p : List Nat) (F : Nat → Nat → Int), (∀ x y, F y x = - F x y) → p.Nodup → offP F p →
    (∀ x y, goW F p y x = - goW F p x y) ∧ ∀ u v, (goW F p u v ≠ 0 ↔ F u v ≠ 0 ∨ onP p u v) ∧ ((-1 ≤ F u v ∧ F u v ≤ 1) → -1 ≤ goW F p u v ∧ goW F p u v ≤ 1)
  | [], F, ha, _, _ => ⟨ha, fun u v => ⟨⟨Or.inl, fun h => h.elim id (fun h => h.elim)⟩, id⟩⟩
  | [_], F, ha, _, _ => ⟨ha, fun u v => ⟨⟨Or.inl, fun h => h.elim id (fun h => h.elim)⟩, id⟩⟩
  | x :: y :: r, F, ha, hn, ho => by
    obtain ⟨hx, hn'⟩ := List.nodup_cons.1 hn
    have hxy : x ≠ y := fun e => hx (by simp [e])
    have hoff : offP (goE F x y) (y :: r) := offP_congr (y :: r) (fun u v hu hv => by
      have hu' : u ≠ x := fun e => hx (e ▸ hu)
      have hv' : v ≠ x := fun e => hx (e ▸ hv)
      unfold goE
      rw [if_neg (fun e => hu' e.1), if_neg (fun e => hv' e.2)]; omega) ho.2
    obtain ⟨i1, i2⟩ := goW_off (y :: r) (goE F x y) (fun a b => goE_anti ha x y a b) hn' hoff
    refine ⟨i1, fun u v => ?_⟩
    obtain ⟨j1, j2⟩ := i2 u v
    obtain ⟨k1, k2⟩ := goE_off ha hxy ho.1 u v
    refine ⟨?_, fun h => j2 (k2 h)⟩
    show goW (goE F x y) (y :: r) u v ≠ 0 ↔ _
    rw [j1, k1]
    constructor
    · rintro ((h | h | h) | h)
      · exact Or.inl h
      · exact Or.inr (Or.inl h)
      · exact Or.inr (Or.inr (Or.inl h))
      · exact Or.inr (Or.inr (Or.inr h))
    · rintro (h | h | h | h)
      · exact Or.inl (Or.inl h)
      · exact Or.inl (Or.inr (Or.inl h))
      · exact Or.inl (Or.inr (Or.inr h))
      · exact Or.inr h

end Go.Proofs.YtljnjpjnadlmhaaDoor
