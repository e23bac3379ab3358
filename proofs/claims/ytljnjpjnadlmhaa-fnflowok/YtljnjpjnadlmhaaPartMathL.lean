/- Texts put together: MathL, MathC. -/
import Derived.Test.YtljnjpjnadlmhaaPartWSpecAdd
import Derived.Test.YtljnjpjnadlmhaaMath4
import Derived.Test.YtljnjpjnadlmhaaPartWCount
/- Plain mathematics of nets that are tied and cut: what the laws say of them. No program stands here. -/
namespace Go.Proofs.Ytljnjpjnadlmhaa
set_option linter.unusedVariables false

theorem ok_of_srt {K : Int} {ts : List (Int × Int)} (h0 : 0 ≤ K) (h8 : K ≤ 8) (h : Srt K ts) : okB K ts = true := okB_iff.2 (ok_srt.2 ⟨h0, h8, h⟩)
theorem hasB_mem {K : Int} {ts : List (Int × Int)} {a b : Int} (h : okB K ts = true) : hasB K ts a b = true ↔ tieOf a b ∈ ts := by
  rw [hasB_ok h]; exact tied_mem
theorem hasB_not {K : Int} {ts : List (Int × Int)} {a b : Int} (h : okB K ts = true) : hasB K ts a b = false ↔ tieOf a b ∉ ts := by
  rw [← Bool.not_eq_true, hasB_mem h]
theorem tieOf_turn (a b : Int) : tieOf b a = tieOf a b := by unfold tieOf; rw [Int.min_comm b a, Int.max_comm b a]
theorem hasB_turned (K : Int) (ts : List (Int × Int)) (a b : Int) : hasB K ts b a = hasB K ts a b := by
  unfold hasB; rw [Int.min_comm b a, Int.max_comm b a]
theorem mem_at {ts : List (Int × Int)} {i : Nat} (h : i < ts.length) : (tA ts i, tB ts i) ∈ ts := by
  rw [tA_get ts i h, tB_get ts i h]; exact List.getElem_mem h

theorem addTs_yes {K : Int} {ts : List (Int × Int)} {a b : Int} (h : addB K ts a b = true) : addTs K ts a b = ins (tieOf a b) ts := if_pos h
theorem cutTs_yes {K : Int} {ts : List (Int × Int)} {a b : Int} (h : cutB K ts a b = true) : cutTs K ts a b = ts.filter (other (tieOf a b)) := if_pos h
/-- who ties two knots ties these alone -/
structure Added (K : Int) (ts us : List (Int × Int)) (a b : Int) : Prop where
  ok : okB K us = true
  len : us.length = ts.length + 1
  has : hasB K us a b = true
  again : addB K us b a = false
  each : ∀ i, i < us.length → (tA us i = min a b ∧ tB us i = max a b) ∨ tiedB ts (tA us i) (tB us i) = true
theorem added {K : Int} {ts : List (Int × Int)} {a b : Int} (h : addB K ts a b = true) : Added K ts (addTs K ts a b) a b := by
  obtain ⟨hok, _⟩ := addB_yes h
  obtain ⟨h0, h8, _⟩ := ok_parts hok
  have e : addTs K ts a b = ins (tieOf a b) ts := by simp [addTs, h]
  rw [e]
  have ok := ok_of_srt h0 h8 (add_good h).1
  have has : hasB K (ins (tieOf a b) ts) a b = true := (hasB_mem ok).2 ((mem_ins _ _ _).2 (Or.inl rfl))
  refine ⟨ok, ins_length _ _, has, ?_, ?_⟩
  · rw [← Bool.not_eq_true]
    intro h2
    have := (addB_yes h2).2.2.2.2.2.2
    rw [hasB_turned, has] at this; cases this
  · intro i hi
    rcases (mem_ins _ _ _).1 (mem_at hi) with e1 | m1
    · left; unfold tieOf at e1; simp only [Prod.mk.injEq] at e1; exact e1
    · exact Or.inr (tied_mem.2 m1)
theorem addK_yes {K : Int} {ts : List (Int × Int)} {a b : Int} (h : addB K ts a b = true) : addK K ts a b = K := by simp [addK, h]
theorem cutK_yes {K : Int} {ts : List (Int × Int)} {a b : Int} (h : cutB K ts a b = true) : cutK K ts a b = K := by simp [cutK, h]
theorem outK_yes {K : Int} {ts : List (Int × Int)} {k : Int} (h : outB K ts k = true) : outK K ts k = K := by simp [outK, h]

/-- one of a row without another like it taken out -/
theorem filter_one (t : Int × Int) : ∀ ts : List (Int × Int), ts.Pairwise (fun a b => ix a < ix b) → t ∈ ts → (ts.filter (other t)).length + 1 = ts.length := by
  intro ts
  induction ts with
  | nil => intro _ h; cases h
  | cons x xs ih =>
    intro hp hm
    rw [List.pairwise_cons] at hp
    by_cases e : x = t
    · subst e
      have : (xs.filter (other x)) = xs := by
        rw [List.filter_eq_self]
        intro y hy
        have := hp.1 y hy
        simp only [other, decide_eq_true_eq]
        rintro rfl; omega
      rw [List.filter_cons, if_neg (by simp [other]), this]; rfl
    · have hm' : t ∈ xs := by
        rcases List.mem_cons.1 hm with h | h
        · exact absurd h.symm e
        · exact h
      have := ih hp.2 hm'
      have ho : other t x = true := by simp [other, e]
      rw [List.filter_cons, if_pos ho, List.length_cons, List.length_cons]; omega

structure CutOut (K : Int) (ts us : List (Int × Int)) (a b : Int) : Prop where
  ok : okB K us = true
  len : us.length + 1 = ts.length
  has : hasB K us a b = false
  again : cutB K us a b = false
  each : ∀ i, i < us.length → tiedB ts (tA us i) (tB us i) = true
theorem cutOut {K : Int} {ts : List (Int × Int)} {a b : Int} (h : cutB K ts a b = true) : CutOut K ts (cutTs K ts a b) a b := by
  have hok := has_ok (h : hasB K ts a b = true)
  obtain ⟨h0, h8, hs⟩ := ok_parts hok
  have e : cutTs K ts a b = ts.filter (other (tieOf a b)) := by simp [cutTs, h]
  rw [e]
  have ok := ok_of_srt h0 h8 (cut_good (h : hasB K ts a b = true)).1
  have has : hasB K (ts.filter (other (tieOf a b))) a b = false := by
    rw [hasB_not ok, List.mem_filter]
    rintro ⟨_, h2⟩
    simp [other] at h2
  refine ⟨ok, filter_one _ _ hs.2 ((hasB_mem hok).1 h), has, has, ?_⟩
  intro i hi
  exact tied_mem.2 (List.mem_filter.1 (mem_at hi)).1

/-- two rows in order of the same ties are one -/
theorem srt_ext {K : Int} (hK : K ≤ 8) : ∀ xs ys : List (Int × Int), Srt K xs → Srt K ys → (∀ t, t ∈ xs ↔ t ∈ ys) → xs = ys := by
  intro xs
  induction xs with
  | nil =>
    intro ys _ _ h
    cases ys with
    | nil => rfl
    | cons y ys => exact absurd ((h y).2 (List.mem_cons_self ..)) (by simp)
  | cons x xs ih =>
    intro ys hx hy h
    cases ys with
    | nil => exact absurd ((h x).1 (List.mem_cons_self ..)) (by simp)
    | cons y ys =>
      have px := List.pairwise_cons.1 hx.2
      have py := List.pairwise_cons.1 hy.2
      have exy : x = y := by
        rcases List.mem_cons.1 ((h x).1 (List.mem_cons_self ..)) with e | m
        · exact e
        · rcases List.mem_cons.1 ((h y).2 (List.mem_cons_self ..)) with e2 | m2
          · exact e2.symm
          · have a1 := py.1 x m
            have a2 := px.1 y m2
            omega
      subst exy
      have hx' : Srt K xs := ⟨fun t ht => hx.1 t (List.mem_cons_of_mem _ ht), px.2⟩
      have hy' : Srt K ys := ⟨fun t ht => hy.1 t (List.mem_cons_of_mem _ ht), py.2⟩
      have : xs = ys := ih ys hx' hy' (by
        intro t
        constructor
        · intro ht
          rcases List.mem_cons.1 ((h t).1 (List.mem_cons_of_mem _ ht)) with e | m
          · have := px.1 t ht; rw [e] at this; omega
          · exact m
        · intro ht
          rcases List.mem_cons.1 ((h t).2 (List.mem_cons_of_mem _ ht)) with e | m
          · have := py.1 t ht; rw [e] at this; omega
          · exact m)
      rw [this]

/-- cut and tied again -/
theorem cut_add {K : Int} {ts : List (Int × Int)} {a b : Int} (h : cutB K ts a b = true) : addB K (cutTs K ts a b) b a = true ∧ addTs K (cutTs K ts a b) b a = ts := by
  have hok := has_ok (h : hasB K ts a b = true)
  obtain ⟨h0, h8, hs⟩ := ok_parts hok
  have C := cutOut h
  have hm := (hasB_mem hok).1 (h : hasB K ts a b = true)
  have hT := hs.1 _ hm
  unfold tieOf TieOk at hT
  simp only at hT
  have e : cutTs K ts a b = ts.filter (other (tieOf a b)) := by simp [cutTs, h]
  have ha : addB K (cutTs K ts a b) b a = true := by
    have n1 : hasB K (cutTs K ts a b) b a = false := by rw [hasB_turned]; exact C.has
    simp only [addB, knotB, C.ok, n1, Bool.and_eq_true, decide_eq_true_eq, Bool.not_false, and_true, true_and]
    omega
  refine ⟨ha, ?_⟩
  have e2 : addTs K (cutTs K ts a b) b a = ins (tieOf b a) (cutTs K ts a b) := addTs_yes ha
  rw [e2]
  refine srt_ext h8 _ _ (add_good ha).1 hs ?_
  intro t
  rw [mem_ins, e, List.mem_filter, tieOf_turn a b]
  constructor
  · rintro (rfl | h2)
    · exact hm
    · exact h2.1
  · intro h2
    by_cases e3 : t = tieOf a b
    · exact Or.inl e3
    · exact Or.inr ⟨h2, by simp [other, e3]⟩
/-- tied and cut again -/
theorem add_cut {K : Int} {ts : List (Int × Int)} {a b : Int} (h : addB K ts a b = true) : cutB K (addTs K ts a b) b a = true ∧ cutTs K (addTs K ts a b) b a = ts := by
  obtain ⟨hok, _, _, _, _, _, hno⟩ := addB_yes h
  obtain ⟨h0, h8, hs⟩ := ok_parts hok
  have A := added h
  have hc : cutB K (addTs K ts a b) b a = true := by show hasB K _ b a = true; rw [hasB_turned]; exact A.has
  refine ⟨hc, ?_⟩
  have e : addTs K ts a b = ins (tieOf a b) ts := by simp [addTs, h]
  have e2 : cutTs K (addTs K ts a b) b a = (addTs K ts a b).filter (other (tieOf b a)) := cutTs_yes hc
  have g := (cut_good (hc : hasB K _ b a = true)).1
  rw [e2]
  refine srt_ext h8 _ _ g hs ?_
  intro t
  rw [List.mem_filter, e, mem_ins, tieOf_turn a b]
  have hn := (hasB_not hok).1 hno
  constructor
  · rintro ⟨h2 | h2, h3⟩
    · simp [other, h2] at h3
    · exact h2
  · intro h2
    refine ⟨Or.inr h2, ?_⟩
    simp only [other, decide_eq_true_eq]
    rintro rfl; exact hn h2
theorem cut_not_add {K : Int} {ts : List (Int × Int)} {a b : Int} (h : cutB K ts a b = true) : addB K ts a b = false := by
  rw [← Bool.not_eq_true]
  intro h2
  have := (addB_yes h2).2.2.2.2.2.2
  rw [show hasB K ts a b = true from h] at this; cases this
/-- it does not matter which of two is tied first -/
theorem add_turn {K : Int} {ts : List (Int × Int)} {a b c d : Int} (h1 : addB K ts a b = true) (h2 : addB K (addTs K ts a b) c d = true) :
    addB K ts c d = true ∧ addB K (addTs K ts c d) a b = true ∧ addTs K (addTs K ts c d) a b = addTs K (addTs K ts a b) c d := by
  obtain ⟨hok, a0, a1, b0, b1, ab, hno⟩ := addB_yes h1
  obtain ⟨hok2, c0, c1, d0, d1, cd, hno2⟩ := addB_yes h2
  obtain ⟨h0, h8, hs⟩ := ok_parts hok
  have e : addTs K ts a b = ins (tieOf a b) ts := by simp [addTs, h1]
  have n1 := (hasB_not hok).1 hno
  have n2 := (hasB_not hok2).1 hno2
  rw [e, mem_ins] at n2
  have hcd : addB K ts c d = true := by
    have : hasB K ts c d = false := (hasB_not hok).2 (fun h => n2 (Or.inr h))
    simp only [addB, knotB, hok, this, Bool.and_eq_true, decide_eq_true_eq, Bool.not_false, and_true, true_and]
    omega
  have e3 : addTs K ts c d = ins (tieOf c d) ts := by simp [addTs, hcd]
  have A := added hcd
  have hab : addB K (addTs K ts c d) a b = true := by
    have : hasB K (addTs K ts c d) a b = false := by
      rw [hasB_not A.ok, e3, mem_ins]
      rintro (h | h)
      · exact n2 (Or.inl h.symm)
      · exact n1 h
    simp only [addB, knotB, A.ok, this, Bool.and_eq_true, decide_eq_true_eq, Bool.not_false, and_true, true_and]
    omega
  refine ⟨hcd, hab, ?_⟩
  have e4 : addTs K (addTs K ts c d) a b = ins (tieOf a b) (addTs K ts c d) := addTs_yes hab
  have e5 : addTs K (addTs K ts a b) c d = ins (tieOf c d) (addTs K ts a b) := addTs_yes h2
  rw [e4, e5]
  refine srt_ext h8 _ _ (add_good hab).1 (add_good h2).1 ?_
  intro t
  rw [mem_ins, mem_ins, e3, e, mem_ins, mem_ins]
  constructor
  · rintro (h | h | h)
    · exact Or.inr (Or.inl h)
    · exact Or.inl h
    · exact Or.inr (Or.inr h)
  · rintro (h | h | h)
    · exact Or.inr (Or.inl h)
    · exact Or.inl h
    · exact Or.inr (Or.inr h)

structure Without (K : Int) (ts us : List (Int × Int)) (k : Int) : Prop where
  ok : okB K us = true
  len : us.length ≤ ts.length
  each : ∀ i, i < ts.length → tiedB us (tA ts i) (tB ts i) = !(decide (tA ts i = k) || decide (tB ts i = k))
theorem without {K : Int} {ts : List (Int × Int)} {k : Int} (h : outB K ts k = true) : Without K ts (outTs K ts k) k := by
  obtain ⟨hok, _⟩ := out_ok h
  obtain ⟨h0, h8, hs⟩ := ok_parts hok
  have e : outTs K ts k = ts.filter (notOf k) := by simp [outTs, h]
  rw [e]
  refine ⟨ok_of_srt h0 h8 (srt_filter hs _), List.length_filter_le _ _, ?_⟩
  intro i hi
  have hm := mem_at hi
  by_cases hk : tA ts i = k ∨ tB ts i = k
  · have hf : tiedB (ts.filter (notOf k)) (tA ts i) (tB ts i) = false := by
      rw [← Bool.not_eq_true, tied_mem, List.mem_filter]
      rintro ⟨_, h2⟩
      simp [notOf] at h2
      rcases hk with h3 | h3
      · exact h2.1 h3
      · exact h2.2 h3
    rw [hf]
    rcases hk with h3 | h3 <;> simp [h3]
  · have hk1 : tA ts i ≠ k := fun e => hk (Or.inl e)
    have hk2 : tB ts i ≠ k := fun e => hk (Or.inr e)
    have hf : tiedB (ts.filter (notOf k)) (tA ts i) (tB ts i) = true := by
      rw [tied_mem, List.mem_filter]
      exact ⟨hm, by simp [notOf, hk1, hk2]⟩
    rw [hf]; simp [hk1, hk2]

end Go.Proofs.Ytljnjpjnadlmhaa

/- Plain mathematics of parts: counted; a tie more. No program stands here. -/
namespace Go.Proofs.Ytljnjpjnadlmhaa
set_option linter.unusedVariables false

theorem tied_mem_iff (ts : List (Int × Int)) (x y : Nat) : Tied ts ts.length x y ↔ ∃ t, t ∈ ts ∧ t.1.toNat = x ∧ t.2.toNat = y := by
  constructor
  · rintro ⟨i, hi, e1, e2⟩; exact ⟨(tA ts i, tB ts i), mem_at hi, e1, e2⟩
  · rintro ⟨t, ht, e1, e2⟩
    obtain ⟨i, hi, e⟩ := List.mem_iff_getElem.1 ht
    exact ⟨i, hi, by rw [tA_get ts i hi, e]; exact e1, by rw [tB_get ts i hi, e]; exact e2⟩
/-- a tie more: one part less just if both were in two -/
theorem cnt_add {K : Int} {ts : List (Int × Int)} {a b : Int} (h : addB K ts a b = true) :
    cnt (addTs K ts a b) K.toNat + (if reachB ts a.toNat b.toNat = true then 0 else 1) = cnt ts K.toNat := by
  obtain ⟨hok, a0, a1, b0, b1, hab, hno⟩ := addB_yes h
  have eus := addTs_yes h
  obtain ⟨us', hus'⟩ : ∃ us', us' = ts ++ [tieOf a b] := ⟨_, rfl⟩
  have hlen : us'.length = ts.length + 1 := by rw [hus']; simp
  have hc : cnt (addTs K ts a b) K.toNat = cnt us' K.toNat := by
    rw [cnt_is, cnt_is]
    refine cntF_congr _ (fun k _ => ?_)
    rw [top_self_iff, top_self_iff]
    have hE : ∀ x y, Tied (addTs K ts a b) (addTs K ts a b).length x y ↔ Tied us' us'.length x y := by
      intro x y
      rw [tied_mem_iff, tied_mem_iff]
      have hm : ∀ t, t ∈ addTs K ts a b ↔ t ∈ us' := by
        intro t
        rw [eus, mem_ins, hus', List.mem_append, List.mem_singleton]
        exact ⟨fun h => h.elim Or.inr Or.inl, fun h => h.elim Or.inr Or.inl⟩
      exact ⟨fun ⟨t, h1, h2⟩ => ⟨t, (hm t).1 h1, h2⟩, fun ⟨t, h1, h2⟩ => ⟨t, (hm t).2 h1, h2⟩⟩
    exact ⟨fun h j hj hc => h j hj ((Cn.iff hE j k).2 hc), fun h j hj hc => h j hj ((Cn.iff hE j k).1 hc)⟩
  have hpre : ∀ i, i < ts.length → tA us' i = tA ts i ∧ tB us' i = tB ts i := by
    intro i hi
    have : us'[i]? = ts[i]? := by rw [hus']; exact List.getElem?_append_left hi
    simp only [tA, tB, List.getD_eq_getElem?_getD, this, and_self]
  have hlast : tA us' ts.length = min a b ∧ tB us' ts.length = max a b := by
    have : us'[ts.length]? = some (tieOf a b) := by rw [hus']; simp
    simp only [tA, tB, List.getD_eq_getElem?_getD, this, Option.getD_some, tieOf, and_self]
  have hf : forest us' us'.length = join (forest ts ts.length) (min a b).toNat (max a b).toNat := by
    rw [hlen]
    show join (forest us' ts.length) (tA us' ts.length).toNat (tB us' ts.length).toNat = _
    rw [forest_same ts.length hpre, hlast.1, hlast.2]
  rw [hc, cnt_is, hf, cnt_is]
  have hl := forest_low ts ts.length
  have hr : reachB ts a.toNat b.toNat = decide (top (forest ts ts.length) (min a b).toNat = top (forest ts ts.length) (max a b).toNat) := by
    unfold reachB
    by_cases hm : a ≤ b
    · rw [Int.min_eq_left hm, Int.max_eq_right hm]
      by_cases e : top (forest ts ts.length) b.toNat = top (forest ts ts.length) a.toNat
      · rw [decide_eq_true e, decide_eq_true e.symm]
      · rw [decide_eq_false e, decide_eq_false (fun x => e x.symm)]
    · rw [Int.min_eq_right (by omega), Int.max_eq_left (by omega)]
  by_cases e : top (forest ts ts.length) (min a b).toNat = top (forest ts ts.length) (max a b).toNat
  · rw [hr, decide_eq_true e, if_pos rfl, join_same hl e]; rfl
  · rw [hr, decide_eq_false e, if_neg (by simp)]
    exact join_less hl e (by omega) (by omega)

end Go.Proofs.Ytljnjpjnadlmhaa
