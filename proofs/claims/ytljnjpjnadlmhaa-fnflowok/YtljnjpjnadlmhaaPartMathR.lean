/- Texts put together: MathR, MathFZ. -/
import Derived.Test.YtljnjpjnadlmhaaPartWPath
import Derived.Test.YtljnjpjnadlmhaaPartMathFL
/- A way turned about is one; a piece of a way is one. -/
namespace Go.Proofs.Ytljnjpjnadlmhaa
open Go.RowKit
set_option linter.unusedVariables false

theorem hasB_side (K : Int) (ts : List (Int × Int)) (a b : Int) : hasB K ts b a = hasB K ts a b := by
  unfold hasB; rw [Int.min_comm b a, Int.max_comm b a]
structure IsWay (K : Int) (ts : List (Int × Int)) (xs : List Int) : Prop where
  ok : okB K ts = true
  pos : 0 < xs.length
  knot : ∀ i, i < xs.length → knotB (xi xs i) K = true
  one : ∀ i j, i < j → j < xs.length → xi xs i ≠ xi xs j
  tie : ∀ i, i + 1 < xs.length → hasB K ts (xi xs i) (xi xs (i + 1)) = true

theorem xi_get (xs : List Int) (i : Nat) (h : i < xs.length) : xi xs i = xs[i] := by simp [xi, h]
theorem inI_take {xs : List Int} {k : Int} {i : Nat} (hi : i ≤ xs.length) : inI (xs.take i) k = true ↔ ∃ j, j < i ∧ xi xs j = k := by
  rw [inI_iff]
  constructor
  · rintro ⟨j, hj, e⟩
    rw [List.length_take] at hj
    exact ⟨j, by omega, by rw [← e, xi_take (by omega)]⟩
  · rintro ⟨j, hj, e⟩
    exact ⟨j, by rw [List.length_take]; omega, by rw [xi_take hj]; exact e⟩
theorem wayB_iff {K : Int} {ts : List (Int × Int)} {xs : List Int} : wayB K ts xs = true ↔ IsWay K ts xs := by
  constructor
  · intro h
    simp only [wayB, Bool.and_eq_true, decide_eq_true_eq, List.all_eq_true, List.mem_range] at h
    obtain ⟨⟨hok, hp⟩, hs⟩ := h
    refine ⟨hok, hp, fun i hi => ?_, fun i j hij hj => ?_, fun i hi => ?_⟩
    · have := hs i hi; simp only [stepB, Bool.and_eq_true] at this; exact this.1.1
    · exact step_new (hs j hj) i hij (by omega)
    · have := hs (i + 1) hi
      simp only [stepB, Bool.and_eq_true, Bool.or_eq_true, decide_eq_true_eq] at this
      rcases this.2 with h0 | h0
      · omega
      · simpa using h0
  · intro h
    refine wayB_all h.ok h.pos fun i hi => ?_
    simp only [stepB, Bool.and_eq_true, Bool.or_eq_true, decide_eq_true_eq, Bool.not_eq_true']
    refine ⟨⟨h.knot i hi, ?_⟩, ?_⟩
    · cases hc : inI (xs.take i) (xi xs i)
      · rfl
      · obtain ⟨j, hj, e⟩ := (inI_take (by omega)).1 hc
        exact absurd e (h.one j i hj hi)
    · by_cases h0 : i = 0
      · exact Or.inl h0
      · have := h.tie (i - 1) (by omega)
        rw [show i - 1 + 1 = i by omega] at this
        exact Or.inr this
theorem xi_rev (xs : List Int) (i : Nat) (h : i < xs.length) : xi xs.reverse i = xi xs (xs.length - 1 - i) := by
  rw [xi_get _ _ (by simpa using h), xi_get _ _ (by omega), List.getElem_reverse]
theorem IsWay.rev {K : Int} {ts : List (Int × Int)} {xs : List Int} (h : IsWay K ts xs) : IsWay K ts xs.reverse := by
  have hp := h.pos
  refine ⟨h.ok, by simpa using h.pos, fun i hi => ?_, fun i j hij hj => ?_, fun i hi => ?_⟩
  · rw [List.length_reverse] at hi; rw [xi_rev _ _ hi]; exact h.knot _ (by omega)
  · rw [List.length_reverse] at hj; rw [xi_rev _ _ hj, xi_rev _ _ (by omega)]; exact (h.one _ _ (by omega) (by omega)).symm
  · rw [List.length_reverse] at hi
    rw [xi_rev _ _ (by omega), xi_rev _ _ hi, hasB_side]
    have := h.tie (xs.length - 1 - (i + 1)) (by omega)
    rw [show xs.length - 1 - (i + 1) + 1 = xs.length - 1 - i by omega] at this
    exact this
theorem wayB_rev (K : Int) (ts : List (Int × Int)) (xs : List Int) : wayB K ts xs.reverse = wayB K ts xs := by
  cases h : wayB K ts xs
  · cases h' : wayB K ts xs.reverse
    · rfl
    · have := wayB_iff.2 (wayB_iff.1 h').rev
      rw [List.reverse_reverse, h] at this; cases this
  · exact wayB_iff.2 (wayB_iff.1 h).rev
theorem xi_drop (xs : List Int) (k i : Nat) : xi (xs.drop k) i = xi xs (k + i) := by simp [xi]
theorem IsWay.drop {K : Int} {ts : List (Int × Int)} {xs : List Int} (h : IsWay K ts xs) {k : Nat} (hk : k < xs.length) : IsWay K ts (xs.drop k) := by
  refine ⟨h.ok, by simp; omega, fun i hi => ?_, fun i j hij hj => ?_, fun i hi => ?_⟩
  · rw [List.length_drop] at hi; rw [xi_drop]; exact h.knot _ (by omega)
  · rw [List.length_drop] at hj; rw [xi_drop, xi_drop]; exact h.one _ _ (by omega) (by omega)
  · rw [List.length_drop] at hi; rw [xi_drop, xi_drop]; exact h.tie _ (by omega)
theorem IsWay.take {K : Int} {ts : List (Int × Int)} {xs : List Int} (h : IsWay K ts xs) {k : Nat} (hk : k < xs.length) : IsWay K ts (xs.take (k + 1)) := by
  refine ⟨h.ok, by simp; omega, fun i hi => ?_, fun i j hij hj => ?_, fun i hi => ?_⟩
  · rw [List.length_take] at hi; rw [xi_take (by omega)]; exact h.knot _ (by omega)
  · rw [List.length_take] at hj; rw [xi_take (by omega), xi_take (by omega)]; exact h.one _ _ (by omega) (by omega)
  · rw [List.length_take] at hi; rw [xi_take (by omega), xi_take (by omega)]; exact h.tie _ (by omega)
theorem wayB_drop {K : Int} {ts : List (Int × Int)} {xs : List Int} (h : wayB K ts xs = true) {k : Nat} (hk : k < xs.length) : wayB K ts (xs.drop k) = true := wayB_iff.2 ((wayB_iff.1 h).drop hk)
theorem wayB_take {K : Int} {ts : List (Int × Int)} {xs : List Int} (h : wayB K ts xs = true) {k : Nat} (hk : k < xs.length) : wayB K ts (xs.take (k + 1)) = true := wayB_iff.2 ((wayB_iff.1 h).take hk)

end Go.Proofs.Ytljnjpjnadlmhaa

/- Plain mathematics of flows: ways sent along no tie twice. No program stands here. -/
namespace Go.Proofs.Ytljnjpjnadlmhaa
set_option linter.unusedVariables false

/-- a way goes over the tie of two knots, one way or the other -/
def onP : List Nat → Nat → Nat → Prop
  | x :: y :: r, u, v => (x = u ∧ y = v) ∨ (x = v ∧ y = u) ∨ onP (y :: r) u v
  | _, _, _ => False
/-- nothing goes over a way's ties -/
def offP (F : Nat → Nat → Int) : List Nat → Prop
  | x :: y :: r => F x y = 0 ∧ offP F (y :: r)
  | _ => True
theorem offP_congr {F F' : Nat → Nat → Int} : ∀ (p : List Nat), (∀ u v, u ∈ p → v ∈ p → F' u v = F u v) → offP F p → offP F' p
  | [], _, _ => trivial
  | [_], _, _ => trivial
  | x :: y :: r, h, ho => ⟨(h x y (by simp) (by simp)).trans ho.1, offP_congr (y :: r) (fun u v hu hv => h u v (List.mem_cons_of_mem _ hu) (List.mem_cons_of_mem _ hv)) ho.2⟩
theorem goE_off {F : Nat → Nat → Int} {x y : Nat} (ha : ∀ x y, F y x = - F x y) (hxy : x ≠ y) (h0 : F x y = 0) (u v : Nat) : (goE F x y u v ≠ 0 ↔ F u v ≠ 0 ∨ (x = u ∧ y = v) ∨ (x = v ∧ y = u)) ∧ ((-1 ≤ F u v ∧ F u v ≤ 1) → -1 ≤ goE F x y u v ∧ goE F x y u v ≤ 1) := by
  have h1 := ha x y
  unfold goE
  by_cases e1 : u = x ∧ v = y
  · obtain ⟨rfl, rfl⟩ := e1
    have e2 : ¬ (u = v ∧ v = u) := fun e => hxy e.1
    rw [if_pos ⟨rfl, rfl⟩, if_neg e2, h0]
    exact ⟨⟨fun _ => Or.inr (Or.inl ⟨rfl, rfl⟩), fun _ => by omega⟩, fun _ => by omega⟩
  · by_cases e2 : u = y ∧ v = x
    · obtain ⟨rfl, rfl⟩ := e2
      rw [if_neg e1, if_pos ⟨rfl, rfl⟩, h1, h0]
      exact ⟨⟨fun _ => Or.inr (Or.inr ⟨rfl, rfl⟩), fun _ => by omega⟩, fun _ => by omega⟩
    · rw [if_neg e1, if_neg e2]
      refine ⟨⟨fun h => Or.inl (by omega), fun h => ?_⟩, fun h => by omega⟩
      rcases h with h | ⟨rfl, rfl⟩ | ⟨rfl, rfl⟩
      · omega
      · exact absurd ⟨rfl, rfl⟩ e1
      · exact absurd ⟨rfl, rfl⟩ e2
/-- what goes over a tie when a way was sent over which nothing went -/
theorem goW_off : ∀ (p : List Nat) (F : Nat → Nat → Int), (∀ x y, F y x = - F x y) → p.Nodup → offP F p →
    (∀ x y, goW F p y x = - goW F p x y) ∧ ∀ u v, (goW F p u v ≠ 0 ↔ F u v ≠ 0 ∨ onP p u v) ∧ ((-1 ≤ F u v ∧ F u v ≤ 1) → -1 ≤ goW F p u v ∧ goW F p u v ≤ 1)
  | [], F, ha, _, _ => ⟨ha, fun u v => ⟨⟨Or.inl, fun h => h.elim id (fun h => h.elim)⟩, id⟩⟩
  | [_], F, ha, _, _ => ⟨ha, fun u v => ⟨⟨Or.inl, fun h => h.elim id (fun h => h.elim)⟩, id⟩⟩
  | x :: y :: r, F, ha, hn, ho => by
    obtain ⟨hx, hn'⟩ := List.nodup_cons.1 hn
    have hxy : x ≠ y := fun e => hx (by simp [e])
    have hoff : offP (goE F x y) (y :: r) := offP_congr (y :: r) (fun u v hu hv => by
      have hu' : u ≠ x := fun e => hx (e ▸ hu)
      have hv' : v ≠ x := fun e => hx (e ▸ hv)
      unfold goE
      rw [if_neg (fun e => hu' e.1), if_neg (fun e => hv' e.2)]; omega) ho.2
    obtain ⟨i1, i2⟩ := goW_off (y :: r) (goE F x y) (fun a b => goE_anti ha x y a b) hn' hoff
    refine ⟨i1, fun u v => ?_⟩
    obtain ⟨j1, j2⟩ := i2 u v
    obtain ⟨k1, k2⟩ := goE_off ha hxy ho.1 u v
    refine ⟨?_, fun h => j2 (k2 h)⟩
    show goW (goE F x y) (y :: r) u v ≠ 0 ↔ _
    rw [j1, k1]
    constructor
    · rintro ((h | h | h) | h)
      · exact Or.inl h
      · exact Or.inr (Or.inl h)
      · exact Or.inr (Or.inr (Or.inl h))
      · exact Or.inr (Or.inr (Or.inr h))
    · rintro (h | h | h | h)
      · exact Or.inl (Or.inl h)
      · exact Or.inl (Or.inr (Or.inl h))
      · exact Or.inl (Or.inr (Or.inr h))
      · exact Or.inr h

end Go.Proofs.Ytljnjpjnadlmhaa
