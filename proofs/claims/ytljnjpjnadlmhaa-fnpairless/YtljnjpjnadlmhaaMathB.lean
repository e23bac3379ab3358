/- Plain mathematics of going through a net: what is marked in the end is what hangs together. No program stands here. -/
import Derived.Test.YtljnjpjnadlmhaaMath5
namespace Go.Proofs.Ytljnjpjnadlmhaa
set_option linter.unusedVariables false

/-- two knots are tied, either way -/
def tieNB (ts : List (Int × Int)) (x y : Nat) : Bool := tiedB ts (min (x : Int) (y : Int)) (max (x : Int) (y : Int))
theorem tieNB_iff {K : Int} {ts : List (Int × Int)} (h : NetOk K ts) {x y : Nat} : tieNB ts x y = true ↔ Tied ts ts.length x y ∨ Tied ts ts.length y x := by
  obtain ⟨h0, h8, hg⟩ := h
  unfold tieNB
  rw [tiedB_iff]
  constructor
  · rintro ⟨i, hi, e1, e2⟩
    obtain ⟨q1, q2, q3⟩ := (hg i hi).1
    by_cases hxy : x ≤ y
    · left; exact ⟨i, hi, by omega, by omega⟩
    · right; exact ⟨i, hi, by omega, by omega⟩
  · rintro (⟨i, hi, e1, e2⟩ | ⟨i, hi, e1, e2⟩)
    · obtain ⟨q1, q2, q3⟩ := (hg i hi).1
      exact ⟨i, hi, by omega, by omega⟩
    · obtain ⟨q1, q2, q3⟩ := (hg i hi).1
      exact ⟨i, hi, by omega, by omega⟩
theorem tied_lt {K : Int} {ts : List (Int × Int)} (h : NetOk K ts) {x y : Nat} (ht : Tied ts ts.length x y) : x < K.toNat ∧ y < K.toNat := by
  obtain ⟨h0, h8, hg⟩ := h
  obtain ⟨i, hi, e1, e2⟩ := ht
  obtain ⟨q1, q2, q3⟩ := (hg i hi).1
  omega

/-- marked so far, and what waits; ex: what is under way -/
structure Bfs (K : Int) (ts : List (Int × Int)) (a : Nat) (M : Nat → Bool) (row : List Nat) (ex : Nat → Prop) : Prop where
  start : M a = true
  reach : ∀ y, M y = true → y < K.toNat ∧ Cn (Tied ts ts.length) a y
  inrow : ∀ y, y ∈ row → M y = true
  closed : ∀ y, M y = true → y ∈ row ∨ ex y ∨ ∀ z, z < K.toNat → tieNB ts y z = true → M z = true
def mark (M : Nat → Bool) (y : Nat) : Nat → Bool := fun j => if j = y then true else M j
theorem mark_old {M : Nat → Bool} {y j : Nat} (h : M j = true) : mark M y j = true := by unfold mark; split <;> simp_all
theorem Bfs.first {K : Int} {ts : List (Int × Int)} {a : Nat} (ha : a < K.toNat) : Bfs K ts a (mark (fun _ => false) a) [a] (fun _ => False) := by
  have h1 : ∀ y, mark (fun _ => false) a y = true → y = a := by intro y h; unfold mark at h; by_cases e : y = a; exact e; simp [e] at h
  refine ⟨by simp [mark], fun y h => ?_, fun y h => ?_, fun y h => ?_⟩
  · rw [h1 y h]; exact ⟨ha, Cn.refl _⟩
  · simp at h; simp [mark, h]
  · left; rw [h1 y h]; simp
theorem Bfs.pop {K : Int} {ts : List (Int × Int)} {a : Nat} {M : Nat → Bool} {x : Nat} {row : List Nat} (h : Bfs K ts a M (x :: row) (fun _ => False)) : Bfs K ts a M row (fun y => y = x) := by
  refine ⟨h.start, h.reach, fun y hy => h.inrow y (List.mem_cons_of_mem _ hy), fun y hy => ?_⟩
  rcases h.closed y hy with h1 | h1 | h1
  · rcases List.mem_cons.1 h1 with h2 | h2
    · exact Or.inr (Or.inl h2)
    · exact Or.inl h2
  · exact absurd h1 (by simp)
  · exact Or.inr (Or.inr h1)
theorem Bfs.push {K : Int} {ts : List (Int × Int)} (hok : NetOk K ts) {a : Nat} {M : Nat → Bool} {x y : Nat} {row : List Nat} {ex : Nat → Prop} (h : Bfs K ts a M row ex) (hx : M x = true) (hy : y < K.toNat) (hxy : tieNB ts x y = true) :
    Bfs K ts a (mark M y) (row ++ [y]) ex := by
  refine ⟨mark_old h.start, fun z hz => ?_, fun z hz => ?_, fun z hz => ?_⟩
  · by_cases e : z = y
    · subst e
      refine ⟨hy, ?_⟩
      have hc := (h.reach x hx).2
      rcases (tieNB_iff hok).1 hxy with h1 | h1
      · exact hc.fwd h1
      · exact hc.bwd h1
    · exact h.reach z (by unfold mark at hz; rwa [if_neg e] at hz)
  · rcases List.mem_append.1 hz with h1 | h1
    · exact mark_old (h.inrow z h1)
    · simp at h1; simp [mark, h1]
  · by_cases e : z = y
    · subst e; left; simp
    · have hz' : M z = true := by unfold mark at hz; rwa [if_neg e] at hz
      rcases h.closed z hz' with h1 | h1 | h1
      · exact Or.inl (List.mem_append_left _ h1)
      · exact Or.inr (Or.inl h1)
      · exact Or.inr (Or.inr fun u hu he => mark_old (h1 u hu he))
theorem Bfs.done {K : Int} {ts : List (Int × Int)} {a : Nat} {M : Nat → Bool} {x : Nat} {row : List Nat} (h : Bfs K ts a M row (fun y => y = x)) (hn : ∀ z, z < K.toNat → tieNB ts x z = true → M z = true) : Bfs K ts a M row (fun _ => False) := by
  refine ⟨h.start, h.reach, h.inrow, fun y hy => ?_⟩
  rcases h.closed y hy with h1 | h1 | h1
  · exact Or.inl h1
  · subst h1; exact Or.inr (Or.inr hn)
  · exact Or.inr (Or.inr h1)
theorem Bfs.all {K : Int} {ts : List (Int × Int)} (hok : NetOk K ts) {a : Nat} {M : Nat → Bool} (h : Bfs K ts a M [] (fun _ => False)) (y : Nat) : M y = true ↔ Cn (Tied ts ts.length) a y := by
  have hc : ∀ y, M y = true → ∀ z, z < K.toNat → tieNB ts y z = true → M z = true := by
    intro y hy
    rcases h.closed y hy with h1 | h1 | h1
    · simp at h1
    · exact absurd h1 (by simp)
    · exact h1
  constructor
  · exact fun hy => (h.reach y hy).2
  · intro hy
    induction hy with
    | refl => exact h.start
    | fwd _ e ih => exact hc _ ih _ (tied_lt hok e).2 ((tieNB_iff hok).2 (Or.inl e))
    | bwd _ e ih => exact hc _ ih _ (tied_lt hok e).1 ((tieNB_iff hok).2 (Or.inr e))
/-- the answer: as the forest has it -/
def reachB (ts : List (Int × Int)) (a y : Nat) : Bool := decide (top (forest ts ts.length) y = top (forest ts ts.length) a)
theorem Bfs.answer {K : Int} {ts : List (Int × Int)} (hok : NetOk K ts) {a : Nat} {M : Nat → Bool} (h : Bfs K ts a M [] (fun _ => False)) (y : Nat) : M y = reachB ts a y := by
  unfold reachB
  have h1 := h.all hok y
  have h2 := forest_cn ts ts.length a y
  by_cases e : top (forest ts ts.length) y = top (forest ts ts.length) a
  · rw [decide_eq_true e]; exact h1.2 (h2.1 e.symm)
  · rw [decide_eq_false e, ← Bool.not_eq_true]; exact fun hm => e (h2.2 (h1.1 hm)).symm

/-- how many are not marked -/
def unm (M : Nat → Bool) : Nat → Nat
  | 0 => 0
  | n + 1 => unm M n + if M n = true then 0 else 1
theorem unm_same (M : Nat → Bool) (y : Nat) : ∀ n, n ≤ y → unm (mark M y) n = unm M n := by
  intro n
  induction n with
  | zero => intro _; rfl
  | succ n ih =>
    intro h
    simp only [unm]
    rw [ih (by omega)]
    have : mark M y n = M n := by unfold mark; rw [if_neg (by omega)]
    rw [this]
theorem unm_mark (M : Nat → Bool) {y : Nat} (hM : M y = false) : ∀ n, y < n → unm (mark M y) n + 1 = unm M n := by
  intro n
  induction n with
  | zero => intro h; omega
  | succ n ih =>
    intro h
    simp only [unm]
    by_cases e : n = y
    · subst e
      rw [unm_same M n n (Nat.le_refl _), hM]
      simp [mark]
    · have h1 := ih (by omega)
      have : mark M y n = M n := by unfold mark; rw [if_neg e]
      rw [this]; omega
theorem unm_le (M : Nat → Bool) : ∀ n, unm M n ≤ n := by
  intro n
  induction n with
  | zero => exact Nat.le_refl _
  | succ n ih => simp only [unm]; split <;> omega

/-- all knots that one is tied to, ascending, of the first m -/
def nbrs (ts : List (Int × Int)) (x m : Nat) : List Nat := (List.range m).filter (fun i => tieNB ts x i)
theorem nbrs_yes {ts : List (Int × Int)} {x m : Nat} (h : tieNB ts x m = true) : nbrs ts x (m + 1) = nbrs ts x m ++ [m] := by
  unfold nbrs; rw [List.range_succ, List.filter_append]; simp [h]
theorem nbrs_no {ts : List (Int × Int)} {x m : Nat} (h : tieNB ts x m = false) : nbrs ts x (m + 1) = nbrs ts x m := by
  unfold nbrs; rw [List.range_succ, List.filter_append]; simp [h]
theorem mem_nbrs {ts : List (Int × Int)} {x m y : Nat} : y ∈ nbrs ts x m ↔ y < m ∧ tieNB ts x y = true := by
  unfold nbrs; rw [List.mem_filter, List.mem_range]
theorem nbrs_len (ts : List (Int × Int)) (x m : Nat) : (nbrs ts x m).length ≤ m := by
  have := List.length_filter_le (fun i => tieNB ts x i) (List.range m)
  simpa [nbrs] using this

end Go.Proofs.Ytljnjpjnadlmhaa
