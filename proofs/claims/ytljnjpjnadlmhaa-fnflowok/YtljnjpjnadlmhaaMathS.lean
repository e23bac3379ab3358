/- Plain mathematics of all ways: how many, in which order, and that each is told. No program stands here. -/
import Derived.Test.YtljnjpjnadlmhaaPartMathP
namespace Go.Proofs.Ytljnjpjnadlmhaa
set_option linter.unusedVariables false

theorem flat_few {α : Type} {g : Nat → List α} {m : Nat} : ∀ n, (∀ i, i < n → (g i).length ≤ m) → ((List.range n).flatMap g).length ≤ n * m := by
  intro n
  induction n with
  | zero => intro _; simp
  | succ n ih =>
    intro h
    rw [List.range_succ, List.flatMap_append, List.length_append]
    have h1 := ih (fun i hi => h i (by omega))
    have h2 := h n (by omega)
    simp only [List.flatMap_cons, List.flatMap_nil, List.append_nil]
    rw [Nat.add_mul]; omega
theorem onW_few {E : Nat → Nat → Bool} {b s : Nat} : ∀ f p, (onW E b s f p).length ≤ 8 ^ f := by
  intro f
  induction f with
  | zero =>
    intro p
    by_cases h : lastN p = b
    · rw [onW_end h]; split <;> simp
    · rw [onW_stop h]; simp
  | succ f ih =>
    intro p
    by_cases h : lastN p = b
    · rw [onW_end h]
      have : 1 ≤ 8 ^ (f + 1) := Nat.one_le_pow _ _ (by omega)
      split <;> simp <;> omega
    · rw [onW_go h]
      have := flat_few (g := onK E b s f p) (m := 8 ^ f) 8 (fun k hk => by
        by_cases hc : (E (lastN p) k && !decide (k ∈ p)) = true
        · rw [onK_yes hc]; exact ih _
        · rw [onK_no (by simpa using hc)]; simp)
      rw [Nat.pow_succ, Nat.mul_comm]; exact this
theorem waysB_few (K : Int) (ts : List (Int × Int)) (a b : Int) : (waysB K ts a b).length ≤ 20000000 := by
  cases hc : (okB K ts && knotB a K && knotB b K)
  · rw [waysB_no hc]; simp
  · rw [waysB_yes hc]
    have hok : okB K ts = true := by simp only [Bool.and_eq_true] at hc; exact hc.1.1
    have h8 : K.toNat ≤ 8 := by have := (okB_iff.1 hok).2.1; omega
    have := flat_few (g := fun i => onW (tieNB ts) b.toNat (i + 1) i [a.toNat]) (m := 8 ^ 7) K.toNat (fun i hi => Nat.le_trans (onW_few i _) (Nat.pow_le_pow_right (by omega) (by omega)))
    have h2 : K.toNat * 8 ^ 7 ≤ 8 * 8 ^ 7 := Nat.mul_le_mul_right _ h8
    have h3 : (8 : Nat) * 8 ^ 7 = 16777216 := by decide
    unfold allTo
    omega
/-- one row stands ahead of another: it is shorter, or less where they part first -/
def lexB : List Nat → List Nat → Bool
  | x :: xs, y :: ys => if x = y then lexB xs ys else decide (x < y)
  | _, _ => false
def aheadB (x y : List Nat) : Bool := if x.length = y.length then lexB x y else decide (x.length < y.length)
theorem lexB_pre (p : List Nat) : ∀ (x y : List Nat), lexB (p ++ x) (p ++ y) = lexB x y := by
  induction p with
  | nil => intro x y; rfl
  | cons z p ih => intro x y; simp [lexB, ih]
theorem lexB_self (x : List Nat) : lexB x x = false := by
  induction x with
  | nil => rfl
  | cons z x ih => simp [lexB, ih]
theorem onW_pre {E : Nat → Nat → Bool} {b s : Nat} : ∀ f p q, q ∈ onW E b s f p → ∃ r, q = p ++ r := by
  intro f
  induction f with
  | zero =>
    intro p q hq
    by_cases h : lastN p = b
    · rw [onW_end h] at hq
      split at hq
      · simp at hq; exact ⟨[], by simp [hq]⟩
      · simp at hq
    · rw [onW_stop h] at hq; simp at hq
  | succ f ih =>
    intro p q hq
    by_cases h : lastN p = b
    · rw [onW_end h] at hq
      split at hq
      · simp at hq; exact ⟨[], by simp [hq]⟩
      · simp at hq
    · rw [onW_go h, onTo, List.mem_flatMap] at hq
      obtain ⟨k, hk, hq⟩ := hq
      by_cases hc : (E (lastN p) k && !decide (k ∈ p)) = true
      · rw [onK_yes hc] at hq
        obtain ⟨r, hr⟩ := ih _ _ hq
        exact ⟨k :: r, by rw [hr]; simp⟩
      · rw [onK_no (by simpa using hc)] at hq; simp at hq
theorem flat_sorted {α : Type} {R : α → α → Prop} {g : Nat → List α} : ∀ n, (∀ i, i < n → (g i).Pairwise R) → (∀ i j, i < j → j < n → ∀ x y, x ∈ g i → y ∈ g j → R x y) → ((List.range n).flatMap g).Pairwise R := by
  intro n
  induction n with
  | zero => intro _ _; simp
  | succ n ih =>
    intro h1 h2
    rw [List.range_succ, List.flatMap_append, List.pairwise_append]
    refine ⟨ih (fun i hi => h1 i (by omega)) (fun i j hij hj => h2 i j hij (by omega)), by simpa using h1 n (by omega), fun x hx y hy => ?_⟩
    rw [List.mem_flatMap] at hx
    obtain ⟨i, hi, hx⟩ := hx
    simp at hy
    exact h2 i n (List.mem_range.1 hi) (by omega) x y hx hy
theorem onW_sorted {E : Nat → Nat → Bool} {b s : Nat} : ∀ f p, (onW E b s f p).Pairwise (fun x y => lexB y x = false) := by
  intro f
  induction f with
  | zero =>
    intro p
    by_cases h : lastN p = b
    · rw [onW_end h]; split <;> simp
    · rw [onW_stop h]; simp
  | succ f ih =>
    intro p
    by_cases h : lastN p = b
    · rw [onW_end h]; split <;> simp
    · rw [onW_go h]
      refine flat_sorted 8 (fun k hk => ?_) (fun i j hij hj x y hx hy => ?_)
      · by_cases hc : (E (lastN p) k && !decide (k ∈ p)) = true
        · rw [onK_yes hc]; exact ih _
        · rw [onK_no (by simpa using hc)]; simp
      · have form : ∀ k q, q ∈ onK E b s f p k → ∃ r, q = p ++ k :: r := by
          intro k q hq
          by_cases hc : (E (lastN p) k && !decide (k ∈ p)) = true
          · rw [onK_yes hc] at hq
            obtain ⟨r, hr⟩ := onW_pre _ _ _ hq
            exact ⟨r, by rw [hr]; simp⟩
          · rw [onK_no (by simpa using hc)] at hq; simp at hq
        obtain ⟨r1, rfl⟩ := form i x hx
        obtain ⟨r2, rfl⟩ := form j y hy
        rw [lexB_pre]
        simp only [lexB]
        rw [if_neg (by omega)]
        simp; omega
theorem onW_size {E : Nat → Nat → Bool} {b s : Nat} : ∀ f p q, q ∈ onW E b s f p → q.length = s := by
  intro f
  induction f with
  | zero =>
    intro p q hq
    by_cases h : lastN p = b
    · rw [onW_end h] at hq
      by_cases e : p.length = s
      · rw [if_pos e] at hq; simp at hq; subst hq; exact e
      · rw [if_neg e] at hq; simp at hq
    · rw [onW_stop h] at hq; simp at hq
  | succ f ih =>
    intro p q hq
    by_cases h : lastN p = b
    · rw [onW_end h] at hq
      by_cases e : p.length = s
      · rw [if_pos e] at hq; simp at hq; subst hq; exact e
      · rw [if_neg e] at hq; simp at hq
    · rw [onW_go h, onTo, List.mem_flatMap] at hq
      obtain ⟨k, hk, hq⟩ := hq
      by_cases hc : (E (lastN p) k && !decide (k ∈ p)) = true
      · rw [onK_yes hc] at hq; exact ih _ _ hq
      · rw [onK_no (by simpa using hc)] at hq; simp at hq
theorem allTo_sorted (E : Nat → Nat → Bool) (a b n : Nat) : (allTo E a b n).Pairwise (fun x y => aheadB y x = false) := by
  refine flat_sorted n (fun i hi => ?_) (fun i j hij hj x y hx hy => ?_)
  · refine (onW_sorted i [a]).imp_of_mem ?_
    intro x y hx hy h
    unfold aheadB
    rw [if_pos (by rw [onW_size _ _ _ hx, onW_size _ _ _ hy])]; exact h
  · have h1 := onW_size _ _ _ hx
    have h2 := onW_size _ _ _ hy
    unfold aheadB
    rw [if_neg (by omega)]; simp; omega
/-- none of all ways stands ahead of the first -/
theorem first_least {K : Int} {ts : List (Int × Int)} {a b : Int} {q : List Nat} (h : q ∈ waysB K ts a b) : aheadB q (findB K ts a b) = false := by
  have hs : (waysB K ts a b).Pairwise (fun x y => aheadB y x = false) := by
    cases hc : (okB K ts && knotB a K && knotB b K)
    · rw [waysB_no hc]; simp
    · rw [waysB_yes hc]; exact allTo_sorted _ _ _ _
  unfold findB
  cases e : waysB K ts a b with
  | nil => rw [e] at h; simp at h
  | cons z zs =>
    rw [e] at h hs
    simp only [List.head?_cons, Option.getD_some]
    rcases List.mem_cons.1 h with rfl | h
    · unfold aheadB; rw [if_pos rfl]; exact lexB_self _
    · exact (List.pairwise_cons.1 hs).1 q h
/-! ### each way is told -/
theorem Pw.last {E : Nat → Nat → Bool} {q : List Nat} (h : Pw E q) {i : Nat} (hi : i + 1 < q.length) : q.getD i 0 ≠ q.getD (q.length - 1) 0 := h.new i _ (by omega) (by omega)
theorem last_take' {q : List Nat} {m : Nat} (h0 : 0 < m) (h : m ≤ q.length) : lastN (q.take m) = q.getD (m - 1) 0 := by
  obtain ⟨k, rfl⟩ : ∃ k, m = k + 1 := ⟨m - 1, by omega⟩
  rw [List.take_succ_eq_append_getElem (by omega), lastN_snoc]
  have : k < q.length := by omega
  simp [this]
theorem onW_each {E : Nat → Nat → Bool} (hE8 : ∀ x y, E x y = true → y < 8) {q : List Nat} (h : Pw E q) : ∀ f, f < q.length → q ∈ onW E (q.getD (q.length - 1) 0) q.length f (q.take (q.length - f)) := by
  intro f
  induction f with
  | zero =>
    intro h0
    have e : q.take (q.length - 0) = q := by simp
    rw [e, onW_end (by rw [← e, last_take' (by omega) (by omega)]; simp)]
    simp
  | succ f ih =>
    intro hf
    have hm : q.length - (f + 1) < q.length := by omega
    have hl : lastN (q.take (q.length - (f + 1))) = q.getD (q.length - (f + 1) - 1) 0 := last_take' (by omega) (by omega)
    have hne : lastN (q.take (q.length - (f + 1))) ≠ q.getD (q.length - 1) 0 := by rw [hl]; exact h.last (by omega)
    rw [onW_go hne, onTo, List.mem_flatMap]
    have ht := h.tie (q.length - (f + 1) - 1) (by omega)
    rw [show q.length - (f + 1) - 1 + 1 = q.length - (f + 1) by omega] at ht
    refine ⟨q.getD (q.length - (f + 1)) 0, List.mem_range.2 (hE8 _ _ ht), ?_⟩
    have hnew : q.getD (q.length - (f + 1)) 0 ∉ q.take (q.length - (f + 1)) := by
      intro hmem
      obtain ⟨i, hi, e⟩ := List.mem_iff_getElem.1 hmem
      simp at hi
      have := h.new i (q.length - (f + 1)) (by omega) hm
      rw [List.getElem_take] at e
      apply this
      rw [← e]; simp [show i < q.length by omega]
    rw [onK_yes (by rw [hl, ht, Bool.true_and, decide_eq_false hnew]; rfl)]
    have := ih (by omega)
    have e : q.take (q.length - (f + 1)) ++ [q.getD (q.length - (f + 1)) 0] = q.take (q.length - f) := by
      rw [show q.length - f = q.length - (f + 1) + 1 by omega, List.take_succ_eq_append_getElem hm]
      simp [hm]
    rw [e]; exact this
theorem way_nat {K : Int} {ts : List (Int × Int)} {xs : List Int} (h : wayB K ts xs = true) : ∃ q : List Nat, xs = q.map (fun (x : Nat) => (x : Int)) ∧ Pw (tieNB ts) q ∧ 0 < q.length ∧ okB K ts = true ∧ ∀ i, i < q.length → ((q.getD i 0 : Nat) : Int) < K := by
  simp only [wayB, Bool.and_eq_true, decide_eq_true_eq, List.all_eq_true] at h
  obtain ⟨⟨hok, h0⟩, hs⟩ := h
  have hs' : ∀ i, i < xs.length → stepB K ts xs i = true := fun i hi => hs i (List.mem_range.2 hi)
  have kn : ∀ i, i < xs.length → 0 ≤ xi xs i ∧ xi xs i < K := fun i hi => step_knot (hs' i hi)
  have e : xs = (xs.map Int.toNat).map (fun (x : Nat) => (x : Int)) := by
    apply List.ext_getElem
    · simp
    · intro i h1 h2
      have := (kn i h1).1
      simp [xi, h1] at this
      simp; omega
  have gx : ∀ i, i < xs.length → (((xs.map Int.toNat).getD i 0 : Nat) : Int) = xi xs i := fun i hi => by
    have := (kn i hi).1
    rw [← xi_nat, ← e]
  refine ⟨xs.map Int.toNat, e, ⟨fun i hi => ?_, fun i j hij hj => ?_⟩, by simpa using h0, hok, fun i hi => ?_⟩
  · simp at hi
    have h1 := hs' (i + 1) hi
    simp only [stepB, Bool.and_eq_true, Bool.or_eq_true, decide_eq_true_eq] at h1
    rcases h1.2 with q | q
    · omega
    · rw [hasB_ok hok] at q
      show tiedB ts (min _ _) (max _ _) = true
      rw [gx i (by omega), gx (i + 1) hi]
      exact q
  · simp at hj
    have := step_new (hs' j hj) i hij (by omega)
    intro e2
    apply this
    rw [← gx i (by omega), ← gx j hj, e2]
  · simp at hi
    rw [gx i hi]; exact (kn i hi).2
/-- each way is told -/
theorem every_way {K : Int} {ts : List (Int × Int)} {xs : List Int} (h : wayB K ts xs = true) : ∃ q : List Nat, xs = q.map (fun (x : Nat) => (x : Int)) ∧ 0 < q.length ∧ q.length ≤ 8 ∧ q ∈ waysB K ts (xi xs 0) (xi xs (xs.length - 1)) := by
  obtain ⟨q, e, hp, h0, hok, hk⟩ := way_nat h
  have hnet := okB_iff.1 hok
  have hlen : q.length ≤ K.toNat := pigeon K.toNat q.length (fun i => q.getD i 0) (fun i hi => by have := hk i hi; show q.getD i 0 < K.toNat; omega) (fun i j hij hj => hp.new i j hij hj)
  have h8 : K.toNat ≤ 8 := by have := hnet.2.1; omega
  refine ⟨q, e, h0, by omega, ?_⟩
  have e0 : xi xs 0 = ((q.getD 0 0 : Nat) : Int) := by rw [e, xi_nat]
  have el : xi xs (xs.length - 1) = ((q.getD (q.length - 1) 0 : Nat) : Int) := by rw [e, xi_nat]; simp
  have k0 := hk 0 h0
  have kl := hk (q.length - 1) (by omega)
  rw [e0, el, waysB_yes (by rw [hok]; simp only [knotB, Bool.true_and]; rw [decide_eq_true (by omega), decide_eq_true (by omega), decide_eq_true (by omega), decide_eq_true (by omega)]; rfl), allTo, List.mem_flatMap]
  refine ⟨q.length - 1, List.mem_range.2 (by omega), ?_⟩
  rw [show q.length - 1 + 1 = q.length by omega, Int.toNat_natCast, Int.toNat_natCast]
  have := onW_each (fun _ _ q => tieNB_8 hnet q) hp (q.length - 1) (by omega)
  have e1 : q.take (q.length - (q.length - 1)) = [q.getD 0 0] := by
    rw [show q.length - (q.length - 1) = 1 by omega]
    cases q with
    | nil => simp at h0
    | cons z zs => simp
  rw [e1] at this
  exact this

end Go.Proofs.Ytljnjpjnadlmhaa
