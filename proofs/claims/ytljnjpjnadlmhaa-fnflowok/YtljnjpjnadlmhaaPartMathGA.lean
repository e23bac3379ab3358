/- Texts put together: MathGA, MathGB, MathGC, MathGE. -/
import Derived.Test.YtljnjpjnadlmhaaWFlowOk
import Derived.Test.YtljnjpjnadlmhaaPartWEnds
import Derived.Test.YtljnjpjnadlmhaaPartMathE
import Derived.Test.YtljnjpjnadlmhaaPartMathR
/- Mathematics of flows: ways are good one behind the other just if no two of them go over one tie. -/
namespace Go.Proofs.Ytljnjpjnadlmhaa
set_option linter.unusedVariables false

theorem onP_symm {p : List Nat} {u v : Nat} (h : onP p u v) : onP p v u := by
  rw [onP_iff] at h ⊢
  obtain ⟨k, hk, h | h⟩ := h
  · exact ⟨k, hk, Or.inr h⟩
  · exact ⟨k, hk, Or.inl h⟩
/-- no tie is of both ways -/
def Apart2 (p q : List Nat) : Prop := ∀ u v, onP p u v → ¬ onP q u v
theorem off_sent {F : Nat → Nat → Int} (ha : ∀ x y, F y x = - F x y) {q : List Nat} (hn : q.Nodup) (ho : offP F q) (p : List Nat) : offP (goW F q) p ↔ offP F p ∧ Apart2 q p := by
  have hg := (goW_off q F ha hn ho).2
  rw [offP_iff, offP_iff]
  constructor
  · intro h
    refine ⟨fun k hk => ?_, fun u v hq hp => ?_⟩
    · have h1 := h k hk
      have h2 := (hg (p.getD k 0) (p.getD (k + 1) 0)).1
      by_cases e : F (p.getD k 0) (p.getD (k + 1) 0) = 0
      · exact e
      · exact absurd h1 (h2.2 (Or.inl e))
    · obtain ⟨k, hk, e | e⟩ := (onP_iff p).1 hp
      · have h1 := h k hk
        rw [e.1, e.2] at h1
        exact (hg u v).1.2 (Or.inr hq) h1
      · have h1 := h k hk
        rw [e.1, e.2] at h1
        exact (hg v u).1.2 (Or.inr (onP_symm hq)) h1
  · rintro ⟨h1, h2⟩ k hk
    by_cases e : goW F q (p.getD k 0) (p.getD (k + 1) 0) = 0
    · exact e
    · rcases (hg _ _).1.1 e with h | h
      · exact absurd (h1 k hk) h
      · exact absurd ((onP_iff p).2 ⟨k, hk, Or.inl ⟨rfl, rfl⟩⟩) (h2 _ _ h)
theorem from_nat {K : Int} {ts : List (Int × Int)} {a b : Int} {xs : List Int} (h : fromB K ts a b xs = true) : NatW xs := by
  unfold fromB at h
  simp only [Bool.and_eq_true] at h
  exact way_natI h.1.1
theorem good_iff {K : Int} {ts : List (Int × Int)} {a b : Int} : ∀ (xss : List (List Int)) (F : Nat → Nat → Int), (∀ x y, F y x = - F x y) →
    (goodW K ts a b F xss = true ↔ (∀ xs, xs ∈ xss → fromB K ts a b xs = true) ∧ (∀ xs, xs ∈ xss → offP F (natL xs)) ∧ xss.Pairwise (fun p q => Apart2 (natL p) (natL q)))
  | [], F, _ => ⟨fun _ => ⟨fun _ h => (by cases h), fun _ h => (by cases h), List.Pairwise.nil⟩, fun _ => rfl⟩
  | xs :: r, F, ha => by
    show (fromB K ts a b xs && !metB F (natL xs) && goodW K ts a b (goW F (natL xs)) r) = true ↔ _
    rw [Bool.and_eq_true, Bool.and_eq_true, Bool.not_eq_true', List.pairwise_cons]
    constructor
    · rintro ⟨⟨h1, h2⟩, h3⟩
      have N := from_nat h1
      have ho := (met_off ha _).1 h2
      obtain ⟨i1, i2, i3⟩ := (good_iff r _ (goW_off _ F ha N.nd ho).1).1 h3
      refine ⟨fun ys hy => ?_, fun ys hy => ?_, fun ys hy => ((off_sent ha N.nd ho _).1 (i2 ys hy)).2, i3⟩
      · rcases List.mem_cons.1 hy with rfl | hy
        · exact h1
        · exact i1 ys hy
      · rcases List.mem_cons.1 hy with rfl | hy
        · exact ho
        · exact ((off_sent ha N.nd ho _).1 (i2 ys hy)).1
    · rintro ⟨h1, h2, h3, h4⟩
      have hx := h1 xs (by simp)
      have N := from_nat hx
      have ho := h2 xs (by simp)
      refine ⟨⟨hx, (met_off ha _).2 ho⟩, (good_iff r _ (goW_off _ F ha N.nd ho).1).2 ⟨fun ys hy => h1 ys (List.mem_cons_of_mem _ hy), fun ys hy => (off_sent ha N.nd ho _).2 ⟨h2 ys (List.mem_cons_of_mem _ hy), h3 ys hy⟩, h4⟩⟩

end Go.Proofs.Ytljnjpjnadlmhaa

/- Mathematics of flows: no two ways go over one tie just if each tie is gone over once at most. -/
namespace Go.Proofs.Ytljnjpjnadlmhaa
set_option linter.unusedVariables false

theorem few_pairwise {α : Type} (f : α → Bool) : ∀ l : List α, (l.filter f).length ≤ 1 ↔ l.Pairwise (fun p q => ¬ (f p = true ∧ f q = true))
  | [] => ⟨fun _ => List.Pairwise.nil, fun _ => by simp⟩
  | a :: r => by
    have ih := few_pairwise f r
    rw [List.pairwise_cons]
    cases ha : f a with
    | false =>
      rw [List.filter_cons_of_neg (by simp [ha])]
      constructor
      · intro h
        exact ⟨fun q _ e => (by cases e.1), ih.1 h⟩
      · rintro ⟨_, h⟩
        exact ih.2 h
    | true =>
      rw [List.filter_cons_of_pos ha, List.length_cons]
      constructor
      · intro h
        have hz : r.filter f = [] := List.length_eq_zero_iff.1 (by omega)
        refine ⟨fun q hq e => ?_, ih.1 (by rw [hz]; simp)⟩
        have := List.filter_eq_nil_iff.1 hz q hq
        exact this e.2
      · rintro ⟨h, _⟩
        have hz : r.filter f = [] := List.filter_eq_nil_iff.2 (fun q hq e => h q hq ⟨rfl, e⟩)
        rw [hz]; simp
theorem tieOf_pair {u v x y : Nat} (hxy : x < y) : tieOf (u : Int) (v : Int) = ((x : Int), (y : Int)) ↔ (u = x ∧ v = y) ∨ (u = y ∧ v = x) := by
  unfold tieOf
  simp only [Prod.mk.injEq]
  omega
theorem uses_nat {xs : List Int} (N : NatW xs) {x y : Nat} (hxy : x < y) : usesB xs ((x : Int), (y : Int)) = true ↔ onP (natL xs) x y := by
  rw [onP_iff]
  unfold usesB
  rw [List.any_eq_true]
  constructor
  · rintro ⟨k, hk, h⟩
    rw [List.mem_range] at hk
    rw [Bool.and_eq_true, decide_eq_true_eq, decide_eq_true_eq] at h
    obtain ⟨h1, h2⟩ := h
    obtain ⟨j, rfl⟩ : ∃ j, k = j + 1 := ⟨k - 1, by omega⟩
    rw [Nat.add_sub_cancel, N.eq j (by omega), N.eq (j + 1) hk, tieOf_pair hxy] at h2
    exact ⟨j, by rw [N.len]; exact hk, h2⟩
  · rintro ⟨k, hk, h⟩
    rw [N.len] at hk
    refine ⟨k + 1, List.mem_range.2 hk, ?_⟩
    rw [Bool.and_eq_true, decide_eq_true_eq, decide_eq_true_eq, Nat.add_sub_cancel, N.eq k (by omega), N.eq (k + 1) hk, tieOf_pair hxy]
    exact ⟨by omega, h⟩
/-- a way's ties are of the net -/
theorem from_tie {K : Int} {ts : List (Int × Int)} {a b : Int} {xs : List Int} (h : fromB K ts a b xs = true) {u v : Nat} (hu : onP (natL xs) u v) : tieOf (u : Int) (v : Int) ∈ ts := by
  have N := from_nat h
  unfold fromB at h
  simp only [Bool.and_eq_true] at h
  have W := wayB_iff.1 h.1.1
  obtain ⟨k, hk, e⟩ := (onP_iff _).1 hu
  rw [N.len] at hk
  have ht := (hasB_mem W.ok).1 (W.tie k hk)
  rw [N.eq k (by omega), N.eq (k + 1) hk] at ht
  rcases e with e | e
  · rw [e.1, e.2] at ht; exact ht
  · rw [e.1, e.2, tieOf_turn] at ht; exact ht
theorem apart_iff {K : Int} {ts : List (Int × Int)} {a b : Int} (hok : okB K ts = true) {xss : List (List Int)} (hf : ∀ xs, xs ∈ xss → fromB K ts a b xs = true) : xss.Pairwise (fun p q => Apart2 (natL p) (natL q)) ↔ ∀ t, t ∈ ts → (xss.filter (fun xs => usesB xs t)).length ≤ 1 := by
  constructor
  · intro h t ht
    obtain ⟨x, y, hxy, _, e, _, _⟩ := tie_form hok ht
    subst e
    rw [few_pairwise]
    rw [List.pairwise_iff_getElem] at h ⊢
    intro i j hi hj hij hh
    have Ni := from_nat (hf _ (List.getElem_mem hi))
    have Nj := from_nat (hf _ (List.getElem_mem hj))
    exact h i j hi hj hij x y ((uses_nat Ni hxy).1 hh.1) ((uses_nat Nj hxy).1 hh.2)
  · intro h
    rw [List.pairwise_iff_getElem]
    intro i j hi hj hij u v h1 h2
    have Ni := from_nat (hf _ (List.getElem_mem hi))
    have Nj := from_nat (hf _ (List.getElem_mem hj))
    have ht := from_tie (hf _ (List.getElem_mem hi)) h1
    have hp := (few_pairwise _ _).1 (h _ ht)
    rw [List.pairwise_iff_getElem] at hp
    refine hp i j hi hj hij ?_
    obtain ⟨x, y, hxy, _, e, _, _⟩ := tie_form hok ht
    rw [e]
    have hp2 := (tieOf_pair hxy).1 e
    rcases hp2 with ⟨rfl, rfl⟩ | ⟨rfl, rfl⟩
    · exact ⟨(uses_nat Ni hxy).2 h1, (uses_nat Nj hxy).2 h2⟩
    · exact ⟨(uses_nat Ni hxy).2 (onP_symm h1), (uses_nat Nj hxy).2 (onP_symm h2)⟩

end Go.Proofs.Ytljnjpjnadlmhaa

/- Mathematics of flows: what impl.FlowOk tells is what the specification tells. -/
namespace Go.Proofs.Ytljnjpjnadlmhaa
set_option linter.unusedVariables false

/-- how many ways go over a tie -/
def usedN (xss : List (List Int)) (t : Int × Int) : Nat := (xss.filter (fun xs => usesB xs t)).length
theorem flow_is (K : Int) (ts : List (Int × Int)) (a b : Int) (xss : List (List Int)) : flowB K ts a b xss = (twoB K ts a b && decide (xss.length ≤ 8) && xss.all (fromB K ts a b) && ts.all (fun t => decide (usedN xss t ≤ 1))) := by
  unfold flowB
  cases h2 : twoB K ts a b with
  | false => rfl
  | true =>
    have hok : okB K ts = true := by
      unfold twoB at h2
      simp only [Bool.and_eq_true] at h2
      exact h2.1.1.1
    rw [Bool.true_and, Bool.and_assoc]
    congr 1
    rw [Bool.eq_iff_iff, good_iff xss _ (fun _ _ => rfl), Bool.and_eq_true, List.all_eq_true, List.all_eq_true]
    constructor
    · rintro ⟨h1, _, h3⟩
      exact ⟨h1, fun t ht => decide_eq_true ((apart_iff hok h1).1 h3 t ht)⟩
    · rintro ⟨h1, h3⟩
      refine ⟨h1, fun xs _ => (offP_iff _).2 (fun k hk => rfl), (apart_iff hok h1).2 (fun t ht => of_decide_eq_true (h3 t ht))⟩

end Go.Proofs.Ytljnjpjnadlmhaa

/- Ways that have no tie twice: in any order, turned about, with one less, with one twice. -/
namespace Go.Proofs.Ytljnjpjnadlmhaa
set_option linter.unusedVariables false

theorem flow_iff {K : Int} {ts : List (Int × Int)} {a b : Int} {xss : List (List Int)} : flowB K ts a b xss = true ↔ twoB K ts a b = true ∧ xss.length ≤ 8 ∧ (∀ xs, xs ∈ xss → fromB K ts a b xs = true) ∧ ∀ t, t ∈ ts → usedN xss t ≤ 1 := by
  rw [flow_is]
  simp only [Bool.and_eq_true, decide_eq_true_eq, List.all_eq_true]
  exact ⟨fun h => ⟨h.1.1.1, h.1.1.2, h.1.2, h.2⟩, fun h => ⟨⟨⟨h.1, h.2.1⟩, h.2.2.1⟩, h.2.2.2⟩⟩
theorem flow_sub {K : Int} {ts : List (Int × Int)} {a b : Int} {xss : List (List Int)} (h : flowB K ts a b xss = true) (k : Nat) : flowB K ts a b (xss.take k ++ xss.drop (k + 1)) = true := by
  obtain ⟨h1, h2, h3, h4⟩ := flow_iff.1 h
  have hs : (xss.take k ++ xss.drop (k + 1)).Sublist xss := by
    have h5 : (xss.drop (k + 1)).Sublist (xss.drop k) := by
      rw [← List.drop_drop]; exact List.drop_sublist _ _
    have := (List.Sublist.refl (xss.take k)).append h5
    rwa [List.take_append_drop] at this
  refine flow_iff.2 ⟨h1, Nat.le_trans hs.length_le h2, fun xs hx => h3 xs (hs.subset hx), fun t ht => Nat.le_trans ?_ (h4 t ht)⟩
  exact (hs.filter _).length_le
theorem two_turn (K : Int) (ts : List (Int × Int)) (a b : Int) : twoB K ts b a = twoB K ts a b := by
  unfold twoB
  rw [Bool.eq_iff_iff]
  simp only [Bool.and_eq_true, decide_eq_true_eq]
  exact ⟨fun h => ⟨⟨⟨h.1.1.1, h.1.2⟩, h.1.1.2⟩, fun e => h.2 e.symm⟩, fun h => ⟨⟨⟨h.1.1.1, h.1.2⟩, h.1.1.2⟩, fun e => h.2 e.symm⟩⟩
theorem from_rev {K : Int} {ts : List (Int × Int)} {a b : Int} {xs : List Int} (h : fromB K ts a b xs = true) : fromB K ts b a xs.reverse = true := by
  have hp := way_pos (K := K) (ts := ts) (xs := xs) (by unfold fromB at h; simp only [Bool.and_eq_true] at h; exact h.1.1)
  unfold fromB at h ⊢
  simp only [Bool.and_eq_true, decide_eq_true_eq] at h ⊢
  rw [wayB_rev, List.length_reverse, xi_rev _ _ hp, xi_rev _ _ (by omega)]
  refine ⟨⟨h.1.1, ?_⟩, ?_⟩
  · rw [Nat.sub_zero]; exact h.2
  · rw [show xs.length - 1 - (xs.length - 1) = 0 by omega]; exact h.1.2
theorem tieOf_about (a b : Int) : tieOf a b = tieOf b a := by unfold tieOf; rw [Int.min_comm, Int.max_comm]
theorem uses_iff {xs : List Int} {t : Int × Int} : usesB xs t = true ↔ ∃ k, 1 ≤ k ∧ k < xs.length ∧ tieOf (xi xs (k - 1)) (xi xs k) = t := by
  constructor
  · intro h
    apply Classical.byContradiction
    intro hn
    have := uses_no (xs := xs) (t := t) (fun k h1 h2 e => hn ⟨k, h1, h2, e⟩)
    rw [h] at this; cases this
  · rintro ⟨k, h1, h2, h3⟩; exact uses_at h1 h2 h3
theorem uses_rev1 {xs : List Int} {t : Int × Int} (h : usesB xs t = true) : usesB xs.reverse t = true := by
  obtain ⟨k, h1, h2, h3⟩ := uses_iff.1 h
  refine uses_iff.2 ⟨xs.length - k, by omega, by rw [List.length_reverse]; omega, ?_⟩
  rw [xi_rev _ _ (by omega), xi_rev _ _ (by omega), show xs.length - 1 - (xs.length - k - 1) = k by omega, show xs.length - 1 - (xs.length - k) = k - 1 by omega, tieOf_about]
  exact h3
theorem uses_rev (xs : List Int) (t : Int × Int) : usesB xs.reverse t = usesB xs t := by
  rw [Bool.eq_iff_iff]
  refine ⟨fun h => ?_, uses_rev1⟩
  have := uses_rev1 h
  rwa [List.reverse_reverse] at this
theorem flow_back {K : Int} {ts : List (Int × Int)} {a b : Int} {xss : List (List Int)} (h : flowB K ts a b xss = true) : flowB K ts b a (xss.reverse.map List.reverse) = true := by
  obtain ⟨h1, h2, h3, h4⟩ := flow_iff.1 h
  refine flow_iff.2 ⟨by rw [two_turn]; exact h1, by simpa using h2, fun xs hx => ?_, fun t ht => ?_⟩
  · obtain ⟨ys, hy, rfl⟩ := List.mem_map.1 hx
    exact from_rev (h3 ys (List.mem_reverse.1 hy))
  · have e : usedN (xss.reverse.map List.reverse) t = usedN xss t := by
      unfold usedN
      rw [List.filter_map, List.length_map]
      have : ((fun xs => usesB xs t) ∘ List.reverse) = fun xs => usesB xs t := by funext xs; exact uses_rev xs t
      rw [this, List.filter_reverse, List.length_reverse]
    rw [e]; exact h4 t ht
theorem flow_twice {K : Int} {ts : List (Int × Int)} {a b : Int} {xss : List (List Int)} {xs : List Int} (h : flowB K ts a b xss = true) (hx : xs ∈ xss) : flowB K ts a b (xss ++ [xs]) = false := by
  rw [← Bool.not_eq_true]
  intro hf
  obtain ⟨h1, _, h3, h4⟩ := flow_iff.1 hf
  have hfr := h3 xs (by simp)
  have hab : a ≠ b := by
    unfold twoB at h1
    simp only [Bool.and_eq_true, decide_eq_true_eq] at h1
    exact h1.2
  unfold fromB at hfr
  simp only [Bool.and_eq_true, decide_eq_true_eq] at hfr
  have hp := way_pos hfr.1.1
  have hl : 1 < xs.length := by
    apply Decidable.byContradiction
    intro hn
    have e : xs.length - 1 = 0 := by omega
    rw [e] at hfr
    exact hab (hfr.1.2.symm.trans hfr.2)
  have W := wayB_iff.1 hfr.1.1
  have ht := W.tie 0 hl
  have hu : usesB xs (tieOf (xi xs 0) (xi xs (0 + 1))) = true := uses_at (k := 1) (Nat.le_refl 1) hl rfl
  have hm : tieOf (xi xs 0) (xi xs (0 + 1)) ∈ ts := by
    have hok := W.ok
    rw [hasB_ok hok, tied_mem] at ht
    exact ht
  have := h4 _ hm
  unfold usedN at this
  rw [List.filter_append, List.length_append] at this
  have e1 : ([xs].filter fun ys => usesB ys (tieOf (xi xs 0) (xi xs (0 + 1)))).length = 1 := by simp [hu]
  have e2 : 0 < (xss.filter fun ys => usesB ys (tieOf (xi xs 0) (xi xs (0 + 1)))).length := List.length_pos_of_mem (List.mem_filter.2 ⟨hx, hu⟩)
  omega
theorem flow_short {K : Int} {ts : List (Int × Int)} {a b : Int} {xss : List (List Int)} (h : flowB K ts a b xss = true) : ∀ i, i < xss.length → (xss.getD i []).length ≤ 8 := by
  intro i hi
  obtain ⟨_, _, h3, _⟩ := flow_iff.1 h
  have hx := h3 (xss.getD i []) (by rw [List.getD_eq_getElem?_getD, List.getElem?_eq_getElem hi]; exact List.getElem_mem hi)
  have N := from_nat hx
  have := N.le
  have := N.len
  omega

end Go.Proofs.Ytljnjpjnadlmhaa
