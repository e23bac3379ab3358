/- Plain mathematics of parts: counted; a tie more. No program stands here. -/
import Derived.Test.YtdocfmhpafghgaaDoorWCount
import Derived.Test.YtdocfmhpafghgaaDoorMathL
namespace Go.Proofs.YtdocfmhpafghgaaDoor
set_option linter.unusedVariables false

theorem reachB_turn (ts : List (Int × Int)) (a b : Nat) : reachB ts a b = reachB ts b a := by
  unfold reachB
  by_cases h : top (forest ts ts.length) b = top (forest ts ts.length) a
  · rw [decide_eq_true h, decide_eq_true h.symm]
  · rw [decide_eq_false h, decide_eq_false (fun e => h e.symm)]
theorem reachB_self (ts : List (Int × Int)) (a : Nat) : reachB ts a a = true := by simp [reachB]
theorem reachB_tie (ts : List (Int × Int)) (k i : Nat) (hi : i < ts.length) : reachB ts k (tA ts i).toNat = reachB ts k (tB ts i).toNat := by
  have h : top (forest ts ts.length) (tA ts i).toNat = top (forest ts ts.length) (tB ts i).toNat := (forest_cn ts ts.length _ _).2 ((Cn.refl _).fwd ⟨i, hi, rfl, rfl⟩)
  unfold reachB; rw [h]
theorem topN_reach (ts : List (Int × Int)) (i k : Nat) : decide (topN ts i = topN ts k) = reachB ts i k := by
  unfold reachB topN
  by_cases h : top (forest ts ts.length) i = top (forest ts ts.length) k
  · rw [decide_eq_true h, decide_eq_true h.symm]
  · rw [decide_eq_false h, decide_eq_false (fun e => h e.symm)]
theorem topN_top (ts : List (Int × Int)) (k : Nat) : topN ts (topN ts k) = topN ts k := top_top (forest_low ts _) k

def cntF (f : Nat → Nat) : Nat → Nat
  | 0 => 0
  | n + 1 => cntF f n + if top f n = n then 1 else 0
theorem cnt_is (ts : List (Int × Int)) : ∀ n, cnt ts n = cntF (forest ts ts.length) n := by
  intro n
  induction n with
  | zero => rfl
  | succ n ih =>
    show cnt ts n + (if topN ts n = n then 1 else 0) = cntF (forest ts ts.length) n + (if top (forest ts ts.length) n = n then 1 else 0)
    rw [ih]; rfl
theorem cntF_congr {f g : Nat → Nat} : ∀ n, (∀ k, k < n → (top f k = k ↔ top g k = k)) → cntF f n = cntF g n := by
  intro n
  induction n with
  | zero => intro _; rfl
  | succ n ih =>
    intro h
    simp only [cntF]
    rw [ih (fun k hk => h k (by omega))]
    have := h n (by omega)
    by_cases e : top f n = n
    · rw [if_pos e, if_pos (this.1 e)]
    · rw [if_neg e, if_neg (fun e2 => e (this.2 e2))]
theorem cntF_less {f g : Nat → Nat} {m : Nat} (hf : top f m = m) (hg : ¬ top g m = m) (h : ∀ k, k ≠ m → (top f k = k ↔ top g k = k)) : ∀ n, m < n → cntF g n + 1 = cntF f n := by
  intro n
  induction n with
  | zero => intro h; omega
  | succ n ih =>
    intro hm
    simp only [cntF]
    by_cases e : n = m
    · subst e
      rw [if_pos hf, if_neg hg, cntF_congr (f := g) (g := f) n (fun k hk => (h k (by omega)).symm)]
    · have h1 := ih (by omega)
      have h2 := h n e
      by_cases e2 : top f n = n
      · rw [if_pos e2, if_pos (h2.1 e2)]; omega
      · rw [if_neg e2, if_neg (fun e3 => e2 (h2.2 e3))]; omega
theorem join_same {f : Nat → Nat} (hl : Low f) {a b : Nat} (h : top f a = top f b) (n : Nat) : cntF (join f a b) n = cntF f n := by
  refine cntF_congr n (fun k _ => ?_)
  rw [join_top hl]
  by_cases e : top f k = max (top f a) (top f b)
  · rw [if_pos e]
    have e2 : min (top f a) (top f b) = top f k := by omega
    rw [e2]
  · rw [if_neg e]
theorem join_less {f : Nat → Nat} (hl : Low f) {a b : Nat} (h : top f a ≠ top f b) {n : Nat} (ha : a < n) (hb : b < n) : cntF (join f a b) n + 1 = cntF f n := by
  have ra := top_top hl a
  have rb := top_top hl b
  have la := top_le hl a
  have lb := top_le hl b
  have hmx : top f (max (top f a) (top f b)) = max (top f a) (top f b) := by
    by_cases hm : top f a ≤ top f b
    · rw [Nat.max_eq_right hm]; exact rb
    · rw [Nat.max_eq_left (by omega)]; exact ra
  have hmn : top f (min (top f a) (top f b)) = min (top f a) (top f b) := by
    by_cases hm : top f a ≤ top f b
    · rw [Nat.min_eq_left hm]; exact ra
    · rw [Nat.min_eq_right (by omega)]; exact rb
  refine cntF_less hmx ?_ ?_ n (by omega)
  · rw [join_top hl, hmx, if_pos rfl]; omega
  · intro k hk
    rw [join_top hl]
    by_cases e : top f k = max (top f a) (top f b)
    · rw [if_pos e]
      constructor
      · intro e2; omega
      · intro e2
        rw [← e2, hmn] at e
        omega
    · rw [if_neg e]

/-- fewer parts by one a tie at most -/
theorem cnt_low {K : Int} {ts : List (Int × Int)} (h : NetOk K ts) : K.toNat ≤ cnt ts K.toNat + ts.length := by
  rw [cnt_is]
  have key : ∀ m, m ≤ ts.length → K.toNat ≤ cntF (forest ts m) K.toNat + m := by
    intro m
    induction m with
    | zero =>
      intro _
      have : ∀ n, cntF (forest ts 0) n = n := by
        intro n
        induction n with
        | zero => rfl
        | succ n ih => simp only [cntF]; rw [ih, if_pos (top_fix rfl)]
      rw [this]; omega
    | succ m ih =>
      intro hm
      have h1 := ih (by omega)
      obtain ⟨q1, q2, q3⟩ := (h.2.2 m (by omega)).1
      show K.toNat ≤ cntF (join (forest ts m) (tA ts m).toNat (tB ts m).toNat) K.toNat + (m + 1)
      by_cases e : top (forest ts m) (tA ts m).toNat = top (forest ts m) (tB ts m).toNat
      · rw [join_same (forest_low ts m) e]; omega
      · have := join_less (forest_low ts m) e (n := K.toNat) (by omega) (by omega)
        omega
  exact key ts.length (Nat.le_refl _)

/-- what is least in its part, by what hangs together -/
theorem top_self_iff (ts : List (Int × Int)) (m k : Nat) : top (forest ts m) k = k ↔ ∀ j, j < k → ¬ Cn (Tied ts m) j k := by
  constructor
  · intro h j hj hc
    have h1 := (forest_cn ts m j k).2 hc
    have h2 := top_le (forest_low ts m) j
    omega
  · intro h
    apply Decidable.byContradiction
    intro hne
    have h1 := top_le (forest_low ts m) k
    exact h (top (forest ts m) k) (by omega) ((forest_cn ts m _ _).1 (top_top (forest_low ts m) k))
theorem forest_same {ts us : List (Int × Int)} : ∀ m, (∀ i, i < m → tA ts i = tA us i ∧ tB ts i = tB us i) → forest ts m = forest us m := by
  intro m
  induction m with
  | zero => intro _; rfl
  | succ m ih =>
    intro h
    show join (forest ts m) _ _ = join (forest us m) _ _
    rw [ih (fun i hi => h i (by omega)), (h m (by omega)).1, (h m (by omega)).2]
theorem Cn.iff {E E' : Nat → Nat → Prop} (h : ∀ x y, E x y ↔ E' x y) (x y : Nat) : Cn E x y ↔ Cn E' x y := ⟨Cn.mono fun a b => (h a b).1, Cn.mono fun a b => (h a b).2⟩
theorem tied_mem_iff (ts : List (Int × Int)) (x y : Nat) : Tied ts ts.length x y ↔ ∃ t, t ∈ ts ∧ t.1.toNat = x ∧ t.2.toNat = y := by
  constructor
  · rintro ⟨i, hi, e1, e2⟩; exact ⟨(tA ts i, tB ts i), mem_at hi, e1, e2⟩
  · rintro ⟨t, ht, e1, e2⟩
    obtain ⟨i, hi, e⟩ := List.mem_iff_getElem.1 ht
    exact ⟨i, hi, by rw [tA_get ts i hi, e]; exact e1, by rw [tB_get ts i hi, e]; exact e2⟩
/-- a tie more: one part less just if both were in two -/
theorem cnt_add {K : Int} {ts : List (Int × Int)} {a b : Int} (h : addB K ts a b = true) :
    cnt (addTs K ts a b) K.toNat + (if reachB ts a.toNat b.toNat = true then 0 else 1) = cnt ts K.toNat := by
  obtain ⟨hok, a0, a1, b0, b1, hab, hno⟩ := addB_yes h
  have eus := addTs_yes h
  obtain ⟨us', hus'⟩ : ∃ us', us' = ts ++ [tieOf a b] := ⟨_, rfl⟩
  have hlen : us'.length = ts.length + 1 := by rw [hus']; simp
  have hc : cnt (addTs K ts a b) K.toNat = cnt us' K.toNat := by
    rw [cnt_is, cnt_is]
    refine cntF_congr _ (fun k _ => ?_)
    rw [top_self_iff, top_self_iff]
    have hE : ∀ x y, Tied (addTs K ts a b) (addTs K ts a b).length x y ↔ Tied us' us'.length x y := by
      intro x y
      rw [tied_mem_iff, tied_mem_iff]
      have hm : ∀ t, t ∈ addTs K ts a b ↔ t ∈ us' := by
        intro t
        rw [eus, mem_ins, hus', List.mem_append, List.mem_singleton]
        exact ⟨fun h => h.elim Or.inr Or.inl, fun h => h.elim Or.inr Or.inl⟩
      exact ⟨fun ⟨t, h1, h2⟩ => ⟨t, (hm t).1 h1, h2⟩, fun ⟨t, h1, h2⟩ => ⟨t, (hm t).2 h1, h2⟩⟩
    exact ⟨fun h j hj hc => h j hj ((Cn.iff hE j k).2 hc), fun h j hj hc => h j hj ((Cn.iff hE j k).1 hc)⟩
  have hpre : ∀ i, i < ts.length → tA us' i = tA ts i ∧ tB us' i = tB ts i := by
    intro i hi
    have : us'[i]? = ts[i]? := by rw [hus']; exact List.getElem?_append_left hi
    simp only [tA, tB, List.getD_eq_getElem?_getD, this, and_self]
  have hlast : tA us' ts.length = min a b ∧ tB us' ts.length = max a b := by
    have : us'[ts.length]? = some (tieOf a b) := by rw [hus']; simp
    simp only [tA, tB, List.getD_eq_getElem?_getD, this, Option.getD_some, tieOf, and_self]
  have hf : forest us' us'.length = join (forest ts ts.length) (min a b).toNat (max a b).toNat := by
    rw [hlen]
    show join (forest us' ts.length) (tA us' ts.length).toNat (tB us' ts.length).toNat = _
    rw [forest_same ts.length hpre, hlast.1, hlast.2]
  rw [hc, cnt_is, hf, cnt_is]
  have hl := forest_low ts ts.length
  have hr : reachB ts a.toNat b.toNat = decide (top (forest ts ts.length) (min a b).toNat = top (forest ts ts.length) (max a b).toNat) := by
    unfold reachB
    by_cases hm : a ≤ b
    · rw [Int.min_eq_left hm, Int.max_eq_right hm]
      by_cases e : top (forest ts ts.length) b.toNat = top (forest ts ts.length) a.toNat
      · rw [decide_eq_true e, decide_eq_true e.symm]
      · rw [decide_eq_false e, decide_eq_false (fun x => e x.symm)]
    · rw [Int.min_eq_right (by omega), Int.max_eq_left (by omega)]
  by_cases e : top (forest ts ts.length) (min a b).toNat = top (forest ts ts.length) (max a b).toNat
  · rw [hr, decide_eq_true e, if_pos rfl, join_same hl e]; rfl
  · rw [hr, decide_eq_false e, if_neg (by simp)]
    exact join_less hl e (by omega) (by omega)

end Go.Proofs.YtdocfmhpafghgaaDoor
