/- Plain mathematics of parts: a forest of parents, its tops, and what hangs together. No program stands here. -/
import Derived.Test.YtljnjpjnadlmhaaMath3
namespace Go.Proofs.Ytljnjpjnadlmhaa

/-- the top above k, by at most n steps -/
def topF (f : Nat → Nat) : Nat → Nat → Nat
  | 0, k => k
  | n + 1, k => if f k = k then k else topF f n (f k)
def top (f : Nat → Nat) (k : Nat) : Nat := topF f k k
def Low (f : Nat → Nat) : Prop := ∀ k, f k ≤ k

theorem topF_enough {f : Nat → Nat} (h : Low f) : ∀ n m k, k ≤ n → k ≤ m → topF f n k = topF f m k := by
  intro n
  induction n with
  | zero =>
    intro m k hn hm
    obtain rfl : k = 0 := by omega
    have h0 : f 0 = 0 := by have := h 0; omega
    cases m with
    | zero => rfl
    | succ m => simp [topF, h0]
  | succ n ih =>
    intro m k hn hm
    cases m with
    | zero =>
      obtain rfl : k = 0 := by omega
      have h0 : f 0 = 0 := by have := h 0; omega
      simp [topF, h0]
    | succ m =>
      simp only [topF]
      by_cases hk : f k = k
      · rw [if_pos hk, if_pos hk]
      · rw [if_neg hk, if_neg hk]
        have := h k
        exact ih m (f k) (by omega) (by omega)
theorem top_fix {f : Nat → Nat} {k : Nat} (hk : f k = k) : top f k = k := by
  unfold top
  cases k with
  | zero => rfl
  | succ k => simp [topF, hk]
theorem top_step {f : Nat → Nat} (h : Low f) {k : Nat} : top f k = top f (f k) := by
  by_cases hk : f k = k
  · rw [hk]
  · have h1 := h k
    obtain ⟨j, rfl⟩ : ∃ j, k = j + 1 := ⟨k - 1, by omega⟩
    unfold top
    rw [topF, if_neg hk]
    exact topF_enough h _ _ _ (by omega) (Nat.le_refl _)
theorem top_le {f : Nat → Nat} (h : Low f) : ∀ k, top f k ≤ k := by
  intro k
  induction k using Nat.strongRecOn with
  | ind k ih =>
    by_cases hk : f k = k
    · rw [top_fix hk]; exact Nat.le_refl _
    · have h1 := h k
      have := ih (f k) (by omega)
      rw [top_step h]; omega
theorem top_is {f : Nat → Nat} (h : Low f) : ∀ k, f (top f k) = top f k := by
  intro k
  induction k using Nat.strongRecOn with
  | ind k ih =>
    by_cases hk : f k = k
    · rw [top_fix hk]; exact hk
    · have h1 := h k
      rw [top_step h]; exact ih (f k) (by omega)
theorem top_top {f : Nat → Nat} (h : Low f) (k : Nat) : top f (top f k) = top f k := top_fix (top_is h k)

/-- two tops are made one -/
def join (f : Nat → Nat) (a b : Nat) : Nat → Nat := fun k => if k = max (top f a) (top f b) then min (top f a) (top f b) else f k
theorem join_low {f : Nat → Nat} (h : Low f) (a b : Nat) : Low (join f a b) := by
  intro k
  unfold join
  by_cases e : k = max (top f a) (top f b)
  · rw [if_pos e]; omega
  · rw [if_neg e]; exact h k
theorem join_top {f : Nat → Nat} (h : Low f) (a b : Nat) : ∀ k, top (join f a b) k = if top f k = max (top f a) (top f b) then min (top f a) (top f b) else top f k := by
  have ha := top_is h a
  have hb := top_is h b
  have hJ := join_low h a b
  intro k
  induction k using Nat.strongRecOn with
  | ind k ih =>
    by_cases e : k = max (top f a) (top f b)
    · have ej : join f a b k = min (top f a) (top f b) := by unfold join; rw [if_pos e]
      have fk : f k = k := by
        by_cases hm : top f a ≤ top f b
        · rw [Nat.max_eq_right hm] at e; rw [e]; exact hb
        · rw [Nat.max_eq_left (by omega)] at e; rw [e]; exact ha
      have tk : top f k = k := top_fix fk
      rw [tk, if_pos e, top_step hJ, ej]
      have fm : join f a b (min (top f a) (top f b)) = min (top f a) (top f b) := by
        unfold join
        by_cases e2 : min (top f a) (top f b) = max (top f a) (top f b)
        · rw [if_pos e2]
        · rw [if_neg e2]
          by_cases hm : top f a ≤ top f b
          · rw [Nat.min_eq_left hm]; exact ha
          · rw [Nat.min_eq_right (by omega)]; exact hb
      exact top_fix fm
    · have ej : join f a b k = f k := by unfold join; rw [if_neg e]
      by_cases fk : f k = k
      · rw [top_fix (ej.trans fk), top_fix fk, if_neg e]
      · have h1 := h k
        rw [top_step hJ, ej, ih (f k) (by omega), ← top_step h]

/-- hangs together by what is tied -/
inductive Cn (E : Nat → Nat → Prop) : Nat → Nat → Prop
  | refl (x : Nat) : Cn E x x
  | fwd {x y z : Nat} : Cn E x y → E y z → Cn E x z
  | bwd {x y z : Nat} : Cn E x y → E z y → Cn E x z
theorem Cn.trans {E : Nat → Nat → Prop} {x y z : Nat} (h : Cn E x y) (k : Cn E y z) : Cn E x z := by
  induction k with
  | refl => exact h
  | fwd _ e ih => exact ih.fwd e
  | bwd _ e ih => exact ih.bwd e
theorem Cn.symm {E : Nat → Nat → Prop} {x y : Nat} (h : Cn E x y) : Cn E y x := by
  induction h with
  | refl => exact Cn.refl _
  | fwd _ e ih => exact ((Cn.refl _).bwd e).trans ih
  | bwd _ e ih => exact ((Cn.refl _).fwd e).trans ih
theorem Cn.mono {E E' : Nat → Nat → Prop} (hE : ∀ x y, E x y → E' x y) {x y : Nat} (h : Cn E x y) : Cn E' x y := by
  induction h with
  | refl => exact Cn.refl _
  | fwd _ e ih => exact ih.fwd (hE _ _ e)
  | bwd _ e ih => exact ih.bwd (hE _ _ e)

/-- tied by one of the first m ties -/
def Tied (ts : List (Int × Int)) (m : Nat) (x y : Nat) : Prop := ∃ i, i < m ∧ (tA ts i).toNat = x ∧ (tB ts i).toNat = y
/-- the forest behind the first m ties -/
def forest (ts : List (Int × Int)) : Nat → Nat → Nat
  | 0 => fun k => k
  | m + 1 => join (forest ts m) (tA ts m).toNat (tB ts m).toNat
theorem forest_low (ts : List (Int × Int)) : ∀ m, Low (forest ts m) := by
  intro m
  induction m with
  | zero => intro k; exact Nat.le_refl _
  | succ m ih => exact join_low ih _ _
theorem forest_cn (ts : List (Int × Int)) : ∀ m x y, top (forest ts m) x = top (forest ts m) y ↔ Cn (Tied ts m) x y := by
  intro m
  induction m with
  | zero =>
    intro x y
    have e : ∀ k, top (forest ts 0) k = k := fun k => top_fix rfl
    rw [e, e]
    constructor
    · rintro rfl; exact Cn.refl _
    · intro h
      cases h with
      | refl => rfl
      | fwd _ e => obtain ⟨i, hi, _⟩ := e; omega
      | bwd _ e => obtain ⟨i, hi, _⟩ := e; omega
  | succ m ih =>
    intro x y
    have hl := forest_low ts m
    have hE : ∀ x y, Tied ts m x y → Tied ts (m + 1) x y := fun x y ⟨i, hi, e⟩ => ⟨i, by omega, e⟩
    have ec : ∀ k, Cn (Tied ts (m + 1)) k (top (forest ts m) k) := fun k => ((ih k _).1 (top_top hl k).symm).mono hE
    have eab : Cn (Tied ts (m + 1)) (top (forest ts m) (tA ts m).toNat) (top (forest ts m) (tB ts m).toNat) :=
      ((ec _).symm.fwd ⟨m, by omega, rfl, rfl⟩).trans (ec _)
    show top (join (forest ts m) (tA ts m).toNat (tB ts m).toNat) x = top (join (forest ts m) (tA ts m).toNat (tB ts m).toNat) y ↔ _
    rw [join_top hl, join_top hl]
    obtain ⟨a, ha⟩ : ∃ a, a = (tA ts m).toNat := ⟨_, rfl⟩
    obtain ⟨b, hb⟩ : ∃ b, b = (tB ts m).toNat := ⟨_, rfl⟩
    rw [← ha, ← hb] at eab ⊢
    constructor
    · intro h
      have emm : Cn (Tied ts (m + 1)) (max (top (forest ts m) a) (top (forest ts m) b)) (min (top (forest ts m) a) (top (forest ts m) b)) := by
        by_cases hm : top (forest ts m) a ≤ top (forest ts m) b
        · rw [Nat.max_eq_right hm, Nat.min_eq_left hm]; exact eab.symm
        · rw [Nat.max_eq_left (by omega), Nat.min_eq_right (by omega)]; exact eab
      have key : ∀ k, Cn (Tied ts (m + 1)) k (if top (forest ts m) k = max (top (forest ts m) a) (top (forest ts m) b) then min (top (forest ts m) a) (top (forest ts m) b) else top (forest ts m) k) := by
        intro k
        by_cases e : top (forest ts m) k = max (top (forest ts m) a) (top (forest ts m) b)
        · rw [if_pos e]; have := ec k; rw [e] at this; exact this.trans emm
        · rw [if_neg e]; exact ec k
      exact (key x).trans (h ▸ (key y).symm)
    · intro h
      have one : ∀ x y, Tied ts (m + 1) x y → (if top (forest ts m) x = max (top (forest ts m) a) (top (forest ts m) b) then min (top (forest ts m) a) (top (forest ts m) b) else top (forest ts m) x) = (if top (forest ts m) y = max (top (forest ts m) a) (top (forest ts m) b) then min (top (forest ts m) a) (top (forest ts m) b) else top (forest ts m) y) := by
        rintro x y ⟨i, hi, ex, ey⟩
        by_cases him : i = m
        · subst him
          rw [← ha] at ex
          rw [← hb] at ey
          subst ex
          subst ey
          by_cases hm : top (forest ts i) a ≤ top (forest ts i) b
          · rw [Nat.max_eq_right hm, Nat.min_eq_left hm, if_pos rfl]
            by_cases e : top (forest ts i) a = top (forest ts i) b
            · rw [if_pos e]
            · rw [if_neg e]
          · rw [Nat.max_eq_left (by omega), Nat.min_eq_right (by omega), if_pos rfl]
            by_cases e : top (forest ts i) b = top (forest ts i) a
            · rw [if_pos e]
            · rw [if_neg e]
        · have : top (forest ts m) x = top (forest ts m) y := (ih x y).2 ((Cn.refl x).fwd ⟨i, by omega, ex, ey⟩)
          rw [this]
      induction h with
      | refl => rfl
      | fwd _ e ih2 => exact ih2.trans (one _ _ e)
      | bwd _ e ih2 => exact ih2.trans (one _ _ e).symm

end Go.Proofs.Ytljnjpjnadlmhaa
