/- Texts put together: MathSD, MathSE. -/
import Derived.Test.YtiaeffpjcinilaaDoorPartMathX
import Derived.Test.YtiaeffpjcinilaaDoorPartMathL
/- Plain mathematics of sides: going down a tree from the least knot of each part, sides go along. No program stands here. -/
namespace Go.Proofs.YtiaeffpjcinilaaDoor
set_option linter.unusedVariables false

/-- on which side a knot is by the ties of a tree -/
def sdN (us : List (Int × Int)) (k : Nat) : Nat := depN 8 us k % 2
/-- the ties that were not gone over: not both of their knots were come to -/
def leftC (us : List (Int × Int)) (C : Nat → Bool) : List (Int × Int) := us.filter (fun t => !(C t.1.toNat && C t.2.toNat))
theorem mem_leftC {us : List (Int × Int)} {C : Nat → Bool} {t : Int × Int} : t ∈ leftC us C ↔ t ∈ us ∧ (C t.1.toNat && C t.2.toNat) = false := by
  unfold leftC
  rw [List.mem_filter]
  cases (C t.1.toNat && C t.2.toNat) <;> simp
theorem leftC_none {us : List (Int × Int)} {C : Nat → Bool} (h : ∀ t, t ∈ us → (C t.1.toNat && C t.2.toNat) = false) : leftC us C = us := by
  unfold leftC
  refine List.filter_eq_self.2 (fun t ht => ?_)
  rw [h t ht]; rfl
theorem tie_left {us : List (Int × Int)} {C : Nat → Bool} {x y : Nat} : tieNB (leftC us C) x y = true ↔ tieNB us x y = true ∧ (C x && C y) = false := by
  rw [tieNB_mem, tieNB_mem, mem_leftC]
  have e : (C (tieOf (x : Int) (y : Int)).1.toNat && C (tieOf (x : Int) (y : Int)).2.toNat) = (C x && C y) := by
    unfold tieOf
    rcases Nat.le_total x y with h | h
    · have h1 : min (x : Int) (y : Int) = (x : Int) := Int.min_eq_left (by omega)
      have h2 : max (x : Int) (y : Int) = (y : Int) := Int.max_eq_right (by omega)
      rw [h1, h2]; rfl
    · have h1 : min (x : Int) (y : Int) = (y : Int) := Int.min_eq_right (by omega)
      have h2 : max (x : Int) (y : Int) = (x : Int) := Int.max_eq_left (by omega)
      rw [h1, h2, Bool.and_comm]; rfl
  rw [e]
theorem leftC_ok {us : List (Int × Int)} (h : okB 8 us = true) (C : Nat → Bool) : okB 8 (leftC us C) = true := by
  obtain ⟨k0, k8, hs⟩ := ok_parts h
  have hl : List.Sublist (leftC us C) us := List.filter_sublist
  exact ok_of_srt k0 k8 ⟨fun t ht => hs.1 t (hl.subset ht), hs.2.sublist hl⟩
def more1 (C : Nat → Bool) (k : Nat) : Nat → Bool := fun j => C j || decide (j = k)
/-- how many knots were come to -/
def cntC (C : Nat → Bool) : Nat := ((List.range 8).filter C).length
theorem cntC_le (C : Nat → Bool) : cntC C ≤ 8 := by
  have := List.length_filter_le C (List.range 8)
  simpa [cntC] using this
theorem cntC_more {C : Nat → Bool} {k : Nat} (hk : k < 8) (h : C k = false) : cntC (more1 C k) = cntC C + 1 := by
  have go : ∀ n, ((List.range n).filter (more1 C k)).length = ((List.range n).filter C).length + (if k < n then 1 else 0) := by
    intro n
    induction n with
    | zero => simp
    | succ n ih =>
      rw [List.range_succ, List.filter_append, List.filter_append, List.length_append, List.length_append, ih]
      by_cases e : n = k
      · subst e
        have : more1 C n n = true := by simp [more1]
        simp [this, h]
      · have : more1 C k n = C n := by simp [more1, e]
        by_cases hc : C n = true
        · simp [this, hc]; split <;> split <;> omega
        · simp [this, hc]; split <;> split <;> omega
  have := go 8
  rw [if_pos hk] at this
  exact this
/-- between two knots that are taken from what waits: who was come to, what waits -/
structure Sdv (us : List (Int × Int)) (C : Nat → Bool) (q : List Nat) : Prop where
  root : ∀ k, k < 8 → topN us k = k → C k = true
  par : ∀ k, C k = true → topN us k ≠ k → C (parN 8 us k) = true
  lt : ∀ k, C k = true → k < 8
  qin : ∀ x, x ∈ q → C x = true
  done : ∀ x, C x = true → x ∉ q → ∀ c, Kid 8 us 8 x c → C c = true
  few : q.length ≤ cntC C
/-- the knot at is gone on from, to the first k0 knots -/
structure Sdi (us : List (Int × Int)) (C : Nat → Bool) (q : List Nat) (a k0 : Nat) : Prop where
  root : ∀ k, k < 8 → topN us k = k → C k = true
  par : ∀ k, C k = true → topN us k ≠ k → C (parN 8 us k) = true
  lt : ∀ k, C k = true → k < 8
  qin : ∀ x, x ∈ q → C x = true
  done : ∀ x, C x = true → x ∉ q → x ≠ a → ∀ c, Kid 8 us 8 x c → C c = true
  kids : ∀ c, c < k0 → Kid 8 us 8 a c → C c = true
  here : C a = true
  few : q.length + 1 ≤ cntC C
theorem Sdv.take {us : List (Int × Int)} {C : Nat → Bool} {x : Nat} {q : List Nat} (h : Sdv us C (x :: q)) : Sdi us C q x 0 :=
  ⟨h.root, h.par, h.lt, fun y hy => h.qin y (List.mem_cons_of_mem _ hy), fun y hy hq hne => h.done y hy (by simp [hne, hq]), fun c hc => absurd hc (by omega), h.qin x (by simp), by have := h.few; simpa using this⟩
theorem Sdi.stay {us : List (Int × Int)} (t : Trn 8 us 8) {C : Nat → Bool} {q : List Nat} {a k0 : Nat} (h : Sdi us C q a k0) (hn : tieNB (leftC us C) a k0 = false) : Sdi us C q a (k0 + 1) := by
  refine ⟨h.root, h.par, h.lt, h.qin, h.done, fun c hc hk => ?_, h.here, h.few⟩
  rcases Nat.lt_or_ge c k0 with hc' | hc'
  · exact h.kids c hc' hk
  · obtain rfl : c = k0 := by omega
    have ht := ((t.kid (h.lt a h.here)).2 hk).1
    cases e : C c with
    | true => rfl
    | false =>
      have : tieNB (leftC us C) a c = true := tie_left.2 ⟨ht, by rw [e]; simp⟩
      rw [hn] at this; cases this
theorem Sdi.kid {us : List (Int × Int)} (t : Trn 8 us 8) {C : Nat → Bool} {q : List Nat} {a k0 : Nat} (h : Sdi us C q a k0) (hn : tieNB (leftC us C) a k0 = true) : k0 < 8 ∧ C k0 = false ∧ topN us k0 ≠ k0 ∧ parN 8 us k0 = a ∧ depN 8 us k0 = depN 8 us a + 1 := by
  obtain ⟨ht, hc⟩ := tie_left.1 hn
  rw [h.here, Bool.true_and] at hc
  have h8 : k0 < 8 := t.N.eK _ _ ht
  rcases t.tie ht with ⟨h1, h2, h3⟩ | ⟨h1, h2, h3⟩
  · exact ⟨h8, hc, h3, h1, h2⟩
  · have := h.par a h.here h3
    rw [h1, hc] at this; cases this
theorem Sdi.go {us : List (Int × Int)} (t : Trn 8 us 8) {C : Nat → Bool} {q : List Nat} {a k0 : Nat} (h : Sdi us C q a k0) (hn : tieNB (leftC us C) a k0 = true) : Sdi us (more1 C k0) (q ++ [k0]) a (k0 + 1) := by
  obtain ⟨h8, hc, h3, h1, _⟩ := h.kid t hn
  have up : ∀ j, C j = true → more1 C k0 j = true := fun j hj => by simp [more1, hj]
  refine ⟨fun k hk hr => up k (h.root k hk hr), fun k hk hr => ?_, fun k hk => ?_, fun x hx => ?_, fun x hx hq hne c hk => ?_, fun c hk0 hk => ?_, up a h.here, ?_⟩
  · simp only [more1, Bool.or_eq_true, decide_eq_true_eq] at hk
    rcases hk with hk | rfl
    · exact up _ (h.par k hk hr)
    · rw [h1]; exact up _ h.here
  · simp only [more1, Bool.or_eq_true, decide_eq_true_eq] at hk
    rcases hk with hk | rfl
    · exact h.lt k hk
    · exact h8
  · rcases List.mem_append.1 hx with hx | hx
    · exact up x (h.qin x hx)
    · simp at hx; subst hx; simp [more1]
  · simp only [more1, Bool.or_eq_true, decide_eq_true_eq] at hx
    rw [List.mem_append, not_or] at hq
    rcases hx with hx | rfl
    · exact up c (h.done x hx hq.1 hne c hk)
    · exact absurd (by simp) hq.2
  · rcases Nat.lt_or_ge c k0 with hc' | hc'
    · exact up c (h.kids c hc' hk)
    · obtain rfl : c = k0 := by omega
      simp [more1]
  · rw [cntC_more h8 hc, List.length_append]
    have := h.few
    simp; omega
theorem Sdi.fin {us : List (Int × Int)} {C : Nat → Bool} {q : List Nat} {a : Nat} (h : Sdi us C q a 8) : Sdv us C q :=
  ⟨h.root, h.par, h.lt, h.qin, fun x hx hq c hk => by
    by_cases e : x = a
    · subst e; exact h.kids c hk.1 hk
    · exact h.done x hx hq e c hk, by have := h.few; omega⟩
/-- where nothing waits all knots were come to -/
theorem Sdv.all {us : List (Int × Int)} (t : Trn 8 us 8) {C : Nat → Bool} (h : Sdv us C []) : ∀ n k, k < 8 → depN 8 us k ≤ n → C k = true := by
  intro n
  induction n with
  | zero =>
    intro k hk hd
    by_cases e : topN us k = k
    · exact h.root k hk e
    · have := (t.up hk e).2.2.2.1; omega
  | succ n ih =>
    intro k hk hd
    by_cases e : topN us k = k
    · exact h.root k hk e
    · have u := t.up hk e
      exact h.done _ (ih _ u.1 (by have := u.2.2.2.1; omega)) (by simp) k ⟨hk, e, rfl⟩
/-- one tie more is gone over -/
theorem left_go {us : List (Int × Int)} (t : Trn 8 us 8) (hok : okB 8 us = true) {C : Nat → Bool} {q : List Nat} {a k0 : Nat} (h : Sdi us C q a k0) (hn : tieNB (leftC us C) a k0 = true) : cutTs 8 (leftC us C) (a : Int) (k0 : Int) = leftC us (more1 C k0) ∧ hasB 8 (leftC us C) (a : Int) (k0 : Int) = true := by
  obtain ⟨h8, hc, h3, h1, _⟩ := h.kid t hn
  have hokl := leftC_ok hok C
  have hh : hasB 8 (leftC us C) (a : Int) (k0 : Int) = true := (hasB_mem hokl).2 ((tieNB_mem _ _ _).1 hn)
  refine ⟨?_, hh⟩
  have hcok : okB 8 (cutTs 8 (leftC us C) (a : Int) (k0 : Int)) = true := (cutOut (show cutB 8 (leftC us C) (a : Int) (k0 : Int) = true from hh)).ok
  refine srt_ext (by omega) _ _ (ok_parts hcok).2.2 (ok_parts (leftC_ok hok _)).2.2 (fun s => ?_)
  have e : cutTs 8 (leftC us C) (a : Int) (k0 : Int) = (leftC us C).filter (other (tieOf (a : Int) (k0 : Int))) := by
    exact if_pos (show cutB 8 (leftC us C) (a : Int) (k0 : Int) = true from hh)
  rw [e, List.mem_filter, mem_leftC, mem_leftC]
  have key : ∀ s, s ∈ us → ((C s.1.toNat && C s.2.toNat) = false ∧ other (tieOf (a : Int) (k0 : Int)) s = true ↔ (more1 C k0 s.1.toNat && more1 C k0 s.2.toNat) = false) := by
    intro s hs
    obtain ⟨x, y, hxy, hy8, es, eo, _⟩ := tie_form hok hs
    have htn : tieNB us x y = true := (tieNB_mem _ _ _).2 (by
      have : tieOf (x : Int) (y : Int) = s := by rw [es] at eo; rw [es]; exact eo
      rw [this]; exact hs)
    have hsx : s.1.toNat = x := by rw [es]; rfl
    have hsy : s.2.toNat = y := by rw [es]; rfl
    rw [hsx, hsy]
    have hoth : other (tieOf (a : Int) (k0 : Int)) s = true ↔ ¬ ((x = a ∧ y = k0) ∨ (x = k0 ∧ y = a)) := by
      have e1 : s = tieOf (x : Int) (y : Int) := by rw [es] at eo ⊢; exact eo.symm
      rw [show other (tieOf (a : Int) (k0 : Int)) s = decide (s ≠ tieOf (a : Int) (k0 : Int)) from rfl, decide_eq_true_eq, e1]
      exact not_congr tieOf_nat
    rw [hoth]
    have ha := h.here
    by_cases hx : x = k0
    · subst hx
      have m1 : more1 C x x = true := by simp [more1]
      have hxy' : y ≠ x := by omega
      have m2 : more1 C x y = C y := by simp [more1, hxy']
      rw [m1, m2, hc, Bool.true_and, Bool.false_and]
      constructor
      · rintro ⟨_, hne⟩
        cases e2 : C y with
        | false => rfl
        | true =>
          exfalso
          have hya : y ≠ a := fun e3 => hne (Or.inr ⟨rfl, e3⟩)
          rcases t.tie htn with ⟨p1, _, p3⟩ | ⟨p1, _, _⟩
          · have := h.par y e2 p3
            rw [p1, hc] at this; cases this
          · rw [h1] at p1; exact hya p1.symm
      · intro e2
        refine ⟨rfl, ?_⟩
        rintro (⟨e3, e4⟩ | ⟨_, e4⟩)
        · exact hxy' e4
        · rw [e4, ha] at e2; cases e2
    · by_cases hy : y = k0
      · subst hy
        have m1 : more1 C y y = true := by simp [more1]
        have m2 : more1 C y x = C x := by simp [more1, hx]
        rw [m1, m2, hc, Bool.and_true, Bool.and_false]
        constructor
        · rintro ⟨_, hne⟩
          cases e2 : C x with
          | false => rfl
          | true =>
            exfalso
            have hxa : x ≠ a := fun e3 => hne (Or.inl ⟨e3, rfl⟩)
            rcases t.tie htn with ⟨p1, _, _⟩ | ⟨p1, _, p3⟩
            · rw [h1] at p1; exact hxa p1.symm
            · have := h.par x e2 p3
              rw [p1, hc] at this; cases this
        · intro e2
          refine ⟨rfl, ?_⟩
          rintro (⟨e3, _⟩ | ⟨e3, e4⟩)
          · rw [e3, ha] at e2; cases e2
          · exact hx e3
      · have m1 : more1 C k0 x = C x := by simp [more1, hx]
        have m2 : more1 C k0 y = C y := by simp [more1, hy]
        rw [m1, m2]
        constructor
        · rintro ⟨h5, _⟩; exact h5
        · intro h5
          refine ⟨h5, ?_⟩
          rintro (⟨_, e4⟩ | ⟨e3, _⟩)
          · exact hy e4
          · exact hx e3
  constructor
  · rintro ⟨⟨h5, h6⟩, h7⟩; exact ⟨h5, (key s h5).1 ⟨h6, h7⟩⟩
  · rintro ⟨h5, h6⟩
    have := (key s h5).2 h6
    exact ⟨⟨h5, this.1⟩, this.2⟩
/-- how it begins: the least knots of the parts wait -/
def rootC (us : List (Int × Int)) (n : Nat) : Nat → Bool := fun k => decide (k < n) && decide (topN us k = k)
def rootQ (us : List (Int × Int)) (n : Nat) : List Nat := (List.range n).filter (fun k => decide (topN us k = k))
theorem rootQ_no {us : List (Int × Int)} {n : Nat} (h : topN us n ≠ n) : rootQ us (n + 1) = rootQ us n := by
  unfold rootQ; rw [List.range_succ, List.filter_append]; simp [h]
theorem rootQ_yes {us : List (Int × Int)} {n : Nat} (h : topN us n = n) : rootQ us (n + 1) = rootQ us n ++ [n] := by
  unfold rootQ; rw [List.range_succ, List.filter_append]; simp [h]
theorem rootQ_len (us : List (Int × Int)) (n : Nat) : (rootQ us n).length ≤ n := by
  have := List.length_filter_le (fun k => decide (topN us k = k)) (List.range n)
  simpa [rootQ] using this
theorem Sdv.start {us : List (Int × Int)} (t : Trn 8 us 8) : Sdv us (rootC us 8) (rootQ us 8) ∧ leftC us (rootC us 8) = us := by
  refine ⟨⟨fun k hk hr => by simp [rootC, hk, hr], fun k hk hr => ?_, fun k hk => ?_, fun x hx => ?_, fun x hx hq => ?_, ?_⟩, ?_⟩
  · simp [rootC] at hk; exact absurd hk.2 hr
  · simp [rootC] at hk; exact hk.1
  · simp [rootQ] at hx; simp [rootC, hx]
  · simp [rootC] at hx; exact absurd (by simp [rootQ, hx]) hq
  · refine Nat.le_of_eq ?_
    unfold rootQ cntC
    refine congrArg List.length (List.filter_congr (fun k hk => ?_))
    have : k < 8 := by simpa using hk
    simp [rootC, this]
  · refine leftC_none (fun s hs => ?_)
    obtain ⟨x, y, hxy, hy8, es, eo, _⟩ := tie_form t.N.ok hs
    have htn : tieNB us x y = true := (tieNB_mem _ _ _).2 (by
      have : tieOf (x : Int) (y : Int) = s := by rw [es] at eo; rw [es]; exact eo
      rw [this]; exact hs)
    have hsx : s.1.toNat = x := by rw [es]; rfl
    have hsy : s.2.toNat = y := by rw [es]; rfl
    rw [hsx, hsy]
    rcases t.tie htn with ⟨_, _, p3⟩ | ⟨_, _, p3⟩
    · simp [rootC, p3]
    · simp [rootC, p3]

end Go.Proofs.YtiaeffpjcinilaaDoor

/- Plain mathematics of sides: the way from the least knot of a part has as many ties as the knot is deep. No program stands here. -/
namespace Go.Proofs.YtiaeffpjcinilaaDoor
set_option linter.unusedVariables false

theorem Trn.wayTop {us : List (Int × Int)} (t : Trn 8 us 8) {v : Nat} (hv : v < 8) : (findB 8 us ((topN us v : Nat) : Int) (v : Int)).length = depN 8 us v + 1 := by
  have R := t.rt hv
  have ht := topN_le us v
  have htt : topN us (topN us v) = topN us v := topN_top us v
  have hroot : rtP 8 us (topN us v) = [topN us v] := by
    have Rt := t.rt (v := topN us v) (by omega)
    exact t.T.only _ _ Rt.pw (Pw.one _ _) Rt.pos (by simp) (by rw [Rt.fst]; rfl) (by rw [Rt.lst, htt]; rfl)
  have hp := R.pos
  have hl : (rtP 8 us v).getD ((rtP 8 us v).length - 1) 0 = topN us v := by
    have := R.lst
    rw [lastN_at hp] at this; exact this
  obtain ⟨h1, h2⟩ := t.upDown (a := topN us v) (b := v) (i := 0) (m := (rtP 8 us v).length - 1) (by omega) hv htt (by rw [hroot]; simp) (by omega) (by rw [hl, hroot]; rfl) (fun j hj => by omega)
  rw [← h1, upDown_len (by rw [hroot]; simp) (by omega)]
  unfold depN
  omega
/-- sides by the tree -/
def sdL (K : Int) (ts : List (Int × Int)) : List Nat := (List.range K.toNat).map (sdN (treeTs K ts))
theorem wayTop_side {K : Int} {ts : List (Int × Int)} (h : okB K ts = true) {k : Nat} (hk : k < K.toNat) : foundB K (treeTs K ts) ((topN ts k : Nat) : Int) (k : Int) = true ∧ ((findB K (treeTs K ts) ((topN ts k : Nat) : Int) (k : Int)).length + 1) % 2 = sdN (treeTs K ts) k ∧ (findB K (treeTs K ts) ((topN ts k : Nat) : Int) (k : Int)).length ≤ 8 := by
  have T := tree_trn h
  have hK8 := (okB_iff.1 h).2.1
  have hle := topN_le ts k
  have htop := tree_top h hk
  have htt : topN (treeTs K ts) (topN ts k) = topN (treeTs K ts) k := by rw [← htop]; exact topN_top _ k
  have W := T.find (a := topN ts k) (b := k) (by omega) hk htt (by omega)
  have e8 := T.find8 (a := topN ts k) (b := k) (by omega) hk htt (by omega)
  have hl := T.eight.wayTop (v := k) (by omega)
  rw [htop, e8] at hl
  refine ⟨?_, ?_, W.le⟩
  · cases hf : foundB K (treeTs K ts) ((topN ts k : Nat) : Int) (k : Int)
    · have := (found_no_reach hf (by rw [T.N.ok]; simp [knotB]; omega) k (by omega) rfl)
      rw [Int.toNat_natCast] at this
      have e := topN_reach (treeTs K ts) (topN ts k) k
      rw [this, htt] at e
      simp at e
    · rfl
  · rw [hl]
    unfold sdN
    omega

end Go.Proofs.YtiaeffpjcinilaaDoor
