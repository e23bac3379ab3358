/- Texts put together: MathX, MathY, MathZ, MathAA, MathAB, MathAC. -/
import Derived.Test.YtiaeffpjcinilaaDoorPartMathT
import Derived.Test.YtiaeffpjcinilaaDoorPartMathE
import Derived.Test.YtiaeffpjcinilaaDoorMathV
import Derived.Test.YtiaeffpjcinilaaDoorMathH
/- Plain mathematics of trees: each of their ties is a bridge. No program stands here. -/
namespace Go.Proofs.YtiaeffpjcinilaaDoor
set_option linter.unusedVariables false

theorem tree_bridge {K : Int} {us : List (Int × Int)} (hc : us.length + cnt us K.toNat = K.toNat) {a b : Int} (hh : hasB K us a b = true) : bridgeB K us a b = true := by
  have hC := cutOut (show cutB K us a b = true from hh)
  have hlow := cnt_low (okB_iff.1 hC.ok)
  have hl := hC.len
  unfold bridgeB
  rw [hh, Bool.true_and, decide_eq_true_eq]
  omega
theorem tree_less {K : Int} {ts us vs : List (Int × Int)} (h : treeOkB K ts us = true) (hl : vs.length + 1 = us.length) : treeOkB K ts vs = false := by
  unfold treeOkB at h ⊢
  simp only [Bool.and_eq_true, decide_eq_true_eq] at h
  have h1 := h.2
  have : decide (vs.length + cnt ts K.toNat = K.toNat) = false := by rw [decide_eq_false_iff_not]; omega
  rw [this, Bool.and_false]
/-- a tree has the net's parts, and as many ties as knots without parts -/
theorem tree_parts {K : Int} {ts us : List (Int × Int)} (h : treeOkB K ts us = true) : okB K ts = true ∧ okB K us = true ∧ (∀ k, k < K.toNat → topN us k = topN ts k) ∧ us.length + cnt ts K.toNat = K.toNat ∧ us.length + cnt us K.toNat = K.toNat := by
  unfold treeOkB at h
  simp only [Bool.and_eq_true, decide_eq_true_eq] at h
  obtain ⟨⟨⟨⟨h1, h2⟩, h3⟩, h4⟩, h5⟩ := h
  exact ⟨h1, h2, (parts_same (sub_iff.1 h3) K.toNat).2 h4, h5, by rw [h4]; exact h5⟩

end Go.Proofs.YtiaeffpjcinilaaDoor

/- Plain mathematics of trees: between two knots there is one way alone; of each knot the one above. No program stands here. -/
namespace Go.Proofs.YtiaeffpjcinilaaDoor
set_option linter.unusedVariables false

/-- a net of which each tie is a bridge -/
def Tre (E : Nat → Nat → Bool) : Prop := (∀ x y, E x y = true → E y x = true) ∧ ∀ x y, E x y = true → ¬ Nb (fun a b => E a b = true) x y
theorem Pw.tail {E : Nat → Nat → Bool} {x : Nat} {p : List Nat} (h : Pw E (x :: p)) : Pw E p := by
  refine ⟨fun i hi => ?_, fun i j hij hj => ?_⟩
  · have := h.tie (i + 1) (by simp; omega); simpa using this
  · have := h.new (i + 1) (j + 1) (by omega) (by simp; omega); simpa using this
theorem Pw.notin {E : Nat → Nat → Bool} {x : Nat} {p : List Nat} (h : Pw E (x :: p)) : x ∉ p := by
  intro hx
  obtain ⟨i, hi, e⟩ := List.mem_iff_getElem.1 hx
  have := h.new 0 (i + 1) (by omega) (by simp; omega)
  apply this
  simp [hi, e]
theorem Pw.cons {E : Nat → Nat → Bool} {x y : Nat} {p : List Nat} (h : Pw E (y :: p)) (he : E x y = true) (hx : x ∉ y :: p) : Pw E (x :: y :: p) := by
  refine ⟨fun i hi => ?_, fun i j hij hj => ?_⟩
  · cases i with
    | zero => simpa using he
    | succ i => have := h.tie i (by simpa using hi); simpa using this
  · cases j with
    | zero => omega
    | succ j =>
      cases i with
      | zero =>
        intro e
        apply hx
        have hj' : j < (y :: p).length := by simpa using hj
        have e2 : (x :: y :: p).getD (j + 1) 0 = (y :: p)[j] := by rw [List.getD_cons_succ, List.getD_eq_getElem?_getD, List.getElem?_eq_getElem hj']; rfl
        rw [e2] at e
        have e3 : x = (y :: p)[j] := by simpa using e
        rw [e3]; exact List.getElem_mem hj'
      | succ i => have := h.new i j (by omega) (by simpa using hj); simpa using this
/-- between two knots of a tree there is one way alone -/
theorem Tre.only {E : Nat → Nat → Bool} (T : Tre E) : ∀ (p q : List Nat), Pw E p → Pw E q → 0 < p.length → 0 < q.length → p.getD 0 0 = q.getD 0 0 → lastN p = lastN q → p = q := by
  intro p
  induction p with
  | nil => intro q _ _ h; simp at h
  | cons x p ih =>
    intro q hp hq _ hq0 hf hl
    match q, hq0 with
    | z :: q, _ =>
      have hxz : x = z := by simpa using hf
      subst hxz
      match p, q with
      | [], [] => rfl
      | [], z :: q =>
        exfalso
        have h1 : lastN (x :: z :: q) = (x :: z :: q).getD (q.length + 1) 0 := by rw [lastN_at (by simp)]; rfl
        have h2 : lastN [x] = x := rfl
        have := hq.new 0 (q.length + 1) (by omega) (by simp)
        apply this
        rw [← h1, ← hl, h2]; rfl
      | y :: p, [] =>
        exfalso
        have h1 : lastN (x :: y :: p) = (x :: y :: p).getD (p.length + 1) 0 := by rw [lastN_at (by simp)]; rfl
        have h2 : lastN [x] = x := rfl
        have := hp.new 0 (p.length + 1) (by omega) (by simp)
        apply this
        rw [← h1, hl, h2]; rfl
      | y :: p, z :: q =>
        have lp : lastN (x :: y :: p) = lastN (y :: p) := by rw [lastN_at (by simp), lastN_at (by simp)]; rfl
        have lq : lastN (x :: z :: q) = lastN (z :: q) := by rw [lastN_at (by simp), lastN_at (by simp)]; rfl
        by_cases hyz : y = z
        · subst hyz
          rw [ih (y :: q) hp.tail hq.tail (by simp) (by simp) rfl (by rw [← lp, hl, lq])]
        · exfalso
          have he : E x y = true := by have := hp.tie 0 (by simp); simpa using this
          refine T.2 x y he ?_
          have nx := hp.notin
          have mx := hq.notin
          have c1 := hq.cn (R := But (fun a b => E a b = true) x y) (fun i hi => by
            refine ⟨hq.tie i hi, fun ⟨e1, e2⟩ => ?_, fun ⟨e1, e2⟩ => ?_⟩
            · cases i with
              | zero => exact hyz (by simpa using e2.symm)
              | succ i => exact hq.new 0 (i + 1) (by omega) (by omega) (by rw [e1]; rfl)
            · exact hq.new 0 (i + 1) (by omega) (by omega) (by rw [e2]; rfl)) ((x :: z :: q).length - 1) (by simp)
          have c2 := hp.tail.cn (R := But (fun a b => E a b = true) x y) (fun i hi => by
            refine ⟨hp.tail.tie i hi, fun ⟨e1, e2⟩ => ?_, fun ⟨e1, e2⟩ => ?_⟩
            · exact hp.new 0 (i + 1) (by omega) (by simp at hi ⊢; omega) (by show x = (y :: p).getD i 0; rw [e1])
            · exact hp.new 0 (i + 2) (by omega) (by simp at hi ⊢; omega) (by show x = (y :: p).getD (i + 1) 0; rw [e2])) ((y :: p).length - 1) (by simp)
          rw [← lastN_at (by simp)] at c1 c2
          rw [← lp, hl] at c2
          exact Cn.trans c1 c2.symm

theorem Pw.take {E : Nat → Nat → Bool} {q : List Nat} (h : Pw E q) (m : Nat) : Pw E (q.take m) := by
  have g : ∀ i, i < (q.take m).length → (q.take m).getD i 0 = q.getD i 0 := fun i hi => by
    simp at hi
    rw [List.getD_eq_getElem?_getD, List.getD_eq_getElem?_getD, List.getElem?_take_of_lt (by omega)]
  refine ⟨fun i hi => ?_, fun i j hij hj => ?_⟩
  · rw [g i (by omega), g (i + 1) hi]; exact h.tie i (by simp at hi; omega)
  · rw [g i (by omega), g j hj]; exact h.new i j hij (by simp at hj; omega)
/-- a tree: a net without rings -/
structure Trn (K : Int) (us : List (Int × Int)) (Kn : Nat) : Prop where
  N : Nt K us Kn
  T : Tre (tieNB us)
theorem trn_of {K : Int} {us : List (Int × Int)} (hok : okB K us = true) (hc : us.length + cnt us K.toNat = K.toNat) : Trn K us K.toNat := by
  have h0 := (okB_iff.1 hok).1
  refine ⟨⟨hok, by omega⟩, fun x y h => tieNB_sym h, fun x y h => ?_⟩
  have hh : hasB K us (x : Int) (y : Int) = true := by rw [hasB_ok hok]; exact h
  exact (bridge_nb hh).1 (tree_bridge hc hh)
/-- the way from a knot to the least of its part -/
def rtP (K : Int) (us : List (Int × Int)) (v : Nat) : List Nat := findB K us (v : Int) ((topN us v : Nat) : Int)
def parN (K : Int) (us : List (Int × Int)) (v : Nat) : Nat := (rtP K us v).getD 1 v
def depN (K : Int) (us : List (Int × Int)) (v : Nat) : Nat := (rtP K us v).length - 1
theorem lastN_cons {y : Nat} {p : List Nat} (h : 0 < p.length) : lastN (y :: p) = lastN p := by
  cases p with
  | nil => simp at h
  | cons x r => rw [lastN_at (by simp), lastN_at (by simp)]; rfl
structure Rt (K : Int) (us : List (Int × Int)) (v : Nat) : Prop where
  pw : Pw (tieNB us) (rtP K us v)
  fst : (rtP K us v).getD 0 0 = v
  lst : lastN (rtP K us v) = topN us v
  pos : 0 < (rtP K us v).length
theorem Trn.rt {K : Int} {us : List (Int × Int)} {Kn : Nat} (t : Trn K us Kn) {v : Nat} (hv : v < Kn) : Rt K us v := by
  have ht := topN_le us v
  have hK := t.N.K
  have hf : foundB K us (v : Int) ((topN us v : Nat) : Int) = true := by
    cases h : foundB K us (v : Int) ((topN us v : Nat) : Int)
    · have := found_no_reach h (by rw [t.N.ok]; simp [knotB]; omega) (topN us v) (by omega) rfl
      rw [Int.toNat_natCast, reach_top] at this; cases this
    · rfl
  obtain ⟨h1, h2, h3, h4, _, _⟩ := ways_way (find_mem hf)
  exact ⟨h1, by unfold rtP; omega, by unfold rtP; omega, h4⟩
theorem cons_of {q : List Nat} (h : 0 < q.length) : q = q.getD 0 0 :: q.drop 1 := by
  cases q with
  | nil => simp at h
  | cons x q => rfl
theorem tie_top {us : List (Int × Int)} {K : Int} (hok : okB K us = true) {x y : Nat} (h : tieNB us x y = true) : topN us x = topN us y := by
  have hc : Cn (Tied us us.length) x y := by
    rcases (tieNB_iff (okB_iff.1 hok)).1 h with q | q
    · exact (Cn.refl _).fwd q
    · exact (Cn.refl _).bwd q
  have := topN_reach us x y
  rw [(reach_cn us x y).2 hc] at this
  exact of_decide_eq_true this
/-- what is behind the first knot of that way is the way of the next one -/
theorem Trn.step {K : Int} {us : List (Int × Int)} {Kn : Nat} (t : Trn K us Kn) {v u : Nat} {r : List Nat} (hv : v < Kn) (h : rtP K us v = v :: u :: r) : u < Kn ∧ tieNB us v u = true ∧ topN us u = topN us v ∧ rtP K us u = u :: r := by
  have R := t.rt hv
  have he : tieNB us v u = true := by have := R.pw.tie 0 (by rw [h]; simp); rw [h] at this; simpa using this
  have hu : u < Kn := t.N.eK _ _ he
  have htop := tie_top t.N.ok he
  have Ru := t.rt hu
  have hp : Pw (tieNB us) (u :: r) := by have := R.pw; rw [h] at this; exact this.tail
  refine ⟨hu, he, htop.symm, t.T.only _ _ Ru.pw hp Ru.pos (by simp) (by rw [Ru.fst]; rfl) ?_⟩
  rw [Ru.lst, ← htop, ← R.lst, h, lastN_at (by simp), lastN_at (by simp)]
  rfl
theorem Trn.root {K : Int} {us : List (Int × Int)} {Kn : Nat} (t : Trn K us Kn) {v : Nat} (hv : v < Kn) (h : topN us v = v) : parN K us v = v ∧ depN K us v = 0 := by
  have R := t.rt hv
  have : rtP K us v = [v] := t.T.only _ _ R.pw (Pw.one _ v) R.pos (by simp) (by rw [R.fst]; rfl) (by rw [R.lst, h]; rfl)
  unfold parN depN
  rw [this]; exact ⟨rfl, rfl⟩
theorem Trn.up {K : Int} {us : List (Int × Int)} {Kn : Nat} (t : Trn K us Kn) {v : Nat} (hv : v < Kn) (h : topN us v ≠ v) : parN K us v < Kn ∧ tieNB us v (parN K us v) = true ∧ topN us (parN K us v) = topN us v ∧ depN K us v = depN K us (parN K us v) + 1 ∧ rtP K us v = v :: rtP K us (parN K us v) := by
  have R := t.rt hv
  have e := cons_of R.pos
  rw [R.fst] at e
  cases hd : (rtP K us v).drop 1 with
  | nil =>
    rw [hd] at e
    have := R.lst
    rw [e] at this
    exact absurd this.symm h
  | cons u r =>
    rw [hd] at e
    obtain ⟨h1, h2, h3, h4⟩ := t.step hv e
    have ep : parN K us v = u := by unfold parN; rw [e]; rfl
    rw [ep]
    refine ⟨h1, h2, h3, ?_, by rw [h4]; exact e⟩
    unfold depN
    rw [e, h4]; simp
/-- of two knots that are tied one is above the other -/
theorem Trn.tie {K : Int} {us : List (Int × Int)} {Kn : Nat} (t : Trn K us Kn) {x y : Nat} (h : tieNB us x y = true) : (parN K us y = x ∧ depN K us y = depN K us x + 1 ∧ topN us y ≠ y) ∨ (parN K us x = y ∧ depN K us x = depN K us y + 1 ∧ topN us x ≠ x) := by
  have hy : y < Kn := t.N.eK _ _ h
  have hx : x < Kn := t.N.eK _ _ (t.N.sym _ _ h)
  have Rx := t.rt hx
  have Ry := t.rt hy
  have ex := cons_of Rx.pos
  rw [Rx.fst] at ex
  have htop := tie_top t.N.ok h
  by_cases hm : y ∈ rtP K us x
  · right
    obtain ⟨i, hi, e⟩ := List.mem_iff_getElem.1 hm
    have hg : (rtP K us x).getD i 0 = y := by rw [List.getD_eq_getElem?_getD, List.getElem?_eq_getElem hi]; exact e
    have hxy : x ≠ y := fun e => by
      have G := EE.gr (okB_iff.1 t.N.ok)
      subst e; exact G.irr x h
    have hp2 : Pw (tieNB us) [x, y] := by
      have := (Pw.one (tieNB us) y).cons h (by simpa using hxy)
      exact this
    have hl : ((rtP K us x).take (i + 1)).length = i + 1 := by simp; omega
    have := t.T.only _ _ (Rx.pw.take (i + 1)) hp2 (by rw [hl]; omega) (by simp) (by rw [List.getD_eq_getElem?_getD, List.getElem?_take_of_lt (by omega), ← List.getD_eq_getElem?_getD, Rx.fst]; rfl) (by rw [last_take' (by omega) (by omega), Nat.add_sub_cancel, hg]; rfl)
    have hi1 : i = 1 := by have := congrArg List.length this; rw [hl] at this; simp at this; exact this
    subst hi1
    have hne : topN us x ≠ x := fun e => by
      have : rtP K us x = [x] := t.T.only _ _ Rx.pw (Pw.one _ x) Rx.pos (by simp) (by rw [Rx.fst]; rfl) (by rw [Rx.lst, e]; rfl)
      rw [this] at hi; simp at hi
    obtain ⟨_, _, _, h4, _⟩ := t.up hx hne
    have ep : parN K us x = y := by
      unfold parN
      rw [List.getD_eq_getElem?_getD, List.getElem?_eq_getElem hi]; exact e
    rw [ep] at h4
    exact ⟨ep, h4, hne⟩
  · left
    have hp : Pw (tieNB us) (y :: rtP K us x) := by
      have := Rx.pw
      rw [ex] at this hm ⊢
      exact this.cons (t.N.sym _ _ h) hm
    have he : rtP K us y = y :: rtP K us x := t.T.only _ _ Ry.pw hp Ry.pos (by simp) (by rw [Ry.fst]; rfl) (by rw [Ry.lst, ← htop, ← Rx.lst, lastN_cons Rx.pos])
    have hne : topN us y ≠ y := fun e => by
      have : rtP K us y = [y] := t.T.only _ _ Ry.pw (Pw.one _ y) Ry.pos (by simp) (by rw [Ry.fst]; rfl) (by rw [Ry.lst, e]; rfl)
      rw [he] at this
      have h1 := congrArg List.length this
      have h2 := Rx.pos
      rw [List.length_cons, List.length_singleton] at h1
      omega
    refine ⟨?_, ?_, hne⟩
    · unfold parN; rw [he, ex]; rfl
    · unfold depN; rw [he]; have := Rx.pos; simp; omega

end Go.Proofs.YtiaeffpjcinilaaDoor

/- Plain mathematics of trees, of eight knots: who hangs below whom. No program stands here. -/
namespace Go.Proofs.YtiaeffpjcinilaaDoor
set_option linter.unusedVariables false

theorem ok_8 {K : Int} {us : List (Int × Int)} (h : okB K us = true) : okB 8 us = true := by
  obtain ⟨h0, h8, hg⟩ := okB_iff.1 h
  refine okB_iff.2 ⟨by omega, by omega, fun i hi => ?_⟩
  obtain ⟨⟨a, b, c⟩, d⟩ := hg i hi
  exact ⟨⟨a, b, by omega⟩, d⟩
theorem Trn.eight {K : Int} {us : List (Int × Int)} {Kn : Nat} (t : Trn K us Kn) : Trn 8 us 8 := ⟨⟨ok_8 t.N.ok, rfl⟩, t.T⟩
theorem Trn.at {K : Int} {us : List (Int × Int)} {Kn : Nat} (t : Trn K us Kn) {v : Nat} (hv : v < Kn) : v ∈ rtP K us v := by
  have R := t.rt hv
  have := cons_of R.pos
  rw [R.fst] at this
  rw [this]; simp
/-- c hangs from k -/
def Kid (K : Int) (us : List (Int × Int)) (Kn k c : Nat) : Prop := c < Kn ∧ topN us c ≠ c ∧ parN K us c = k
theorem Trn.kid {K : Int} {us : List (Int × Int)} {Kn : Nat} (t : Trn K us Kn) {k c : Nat} (hk : k < Kn) : (tieNB us k c = true ∧ c ≠ parN K us k) ↔ Kid K us Kn k c := by
  constructor
  · rintro ⟨h, hne⟩
    rcases t.tie h with ⟨h1, _, h3⟩ | ⟨h1, _, _⟩
    · exact ⟨t.N.eK _ _ h, h3, h1⟩
    · exact absurd h1.symm hne
  · rintro ⟨h1, h2, h3⟩
    obtain ⟨_, q2, _, q4, _⟩ := t.up h1 h2
    rw [h3] at q2 q4
    refine ⟨t.N.sym _ _ q2, fun e => ?_⟩
    by_cases hr : topN us k = k
    · rw [(t.root hk hr).1] at e
      subst e; exact h2 hr
    · obtain ⟨_, _, _, r4, _⟩ := t.up hk hr
      rw [← e] at r4; omega
/-- who hangs below a knot hangs from it, or below one that does -/
theorem Trn.below {K : Int} {us : List (Int × Int)} {Kn : Nat} (t : Trn K us Kn) {k : Nat} : ∀ (n v : Nat), depN K us v ≤ n → v < Kn → k ∈ rtP K us v → v ≠ k → ∃ c, Kid K us Kn k c ∧ (v = c ∨ (c ∈ rtP K us v ∧ v ≠ c)) := by
  intro n
  induction n with
  | zero =>
    intro v hd hv hm hne
    exfalso
    by_cases hr : topN us v = v
    · have R := t.rt hv
      have : rtP K us v = [v] := t.T.only _ _ R.pw (Pw.one _ v) R.pos (by simp) (by rw [R.fst]; rfl) (by rw [R.lst, hr]; rfl)
      rw [this] at hm; simp at hm; exact hne hm.symm
    · have := (t.up hv hr).2.2.2.1; omega
  | succ n ih =>
    intro v hd hv hm hne
    by_cases hr : topN us v = v
    · exfalso
      have R := t.rt hv
      have : rtP K us v = [v] := t.T.only _ _ R.pw (Pw.one _ v) R.pos (by simp) (by rw [R.fst]; rfl) (by rw [R.lst, hr]; rfl)
      rw [this] at hm; simp at hm; exact hne hm.symm
    · obtain ⟨h1, h2, h3, h4, h5⟩ := t.up hv hr
      rw [h5] at hm
      have hm' : k ∈ rtP K us (parN K us v) := by
        rcases List.mem_cons.1 hm with e | e
        · exact absurd e.symm hne
        · exact e
      by_cases hp : parN K us v = k
      · exact ⟨v, ⟨hv, hr, hp⟩, Or.inl rfl⟩
      · obtain ⟨c, hc, hor⟩ := ih (parN K us v) (by omega) h1 hm' hp
        refine ⟨c, hc, ?_⟩
        by_cases hvc : v = c
        · exact Or.inl hvc
        · refine Or.inr ⟨?_, hvc⟩
          rw [h5]
          refine List.mem_cons_of_mem _ ?_
          rcases hor with e | e
          · rw [← e]; exact t.at h1
          · exact e.1
/-- the knots above, as far as they are told: all that hang from k by numbers below c0, and all below these -/
def Hung (K : Int) (us : List (Int × Int)) (Kn : Nat) (f : Nat → Nat) (k c0 : Nat) : Prop := ∀ c, c < c0 → Kid K us Kn k c → f c = parN K us c ∧ ∀ v, v < Kn → c ∈ rtP K us v → v ≠ c → f v = parN K us v
theorem Hung.all {K : Int} {us : List (Int × Int)} {Kn : Nat} (t : Trn K us Kn) {f : Nat → Nat} {k : Nat} (h : Hung K us Kn f k Kn) {v : Nat} (hv : v < Kn) (hm : k ∈ rtP K us v) (hne : v ≠ k) : f v = parN K us v := by
  obtain ⟨c, hc, e | ⟨e1, e2⟩⟩ := t.below _ v (Nat.le_refl _) hv hm hne
  · subst e; exact (h v hc.1 hc).1
  · exact (h c hc.1 hc).2 v hv e1 e2
/-- what was told stays so -/
theorem Hung.keep {K : Int} {us : List (Int × Int)} {Kn : Nat} {f f' : Nat → Nat} {k c0 : Nat} (h : Hung K us Kn f k c0) (hf : ∀ v, f' v = f v ∨ f' v = parN K us v) : Hung K us Kn f' k c0 := by
  have st : ∀ v, f v = parN K us v → f' v = parN K us v := fun v e => by
    rcases hf v with q | q
    · rw [q]; exact e
    · exact q
  intro c hc hk
  exact ⟨st c (h c hc hk).1, fun v hv hm hne => st v ((h c hc hk).2 v hv hm hne)⟩
theorem Hung.step {K : Int} {us : List (Int × Int)} {Kn : Nat} {f : Nat → Nat} {k c0 : Nat} (h : Hung K us Kn f k c0) (hn : Kid K us Kn k c0 → f c0 = parN K us c0 ∧ ∀ v, v < Kn → c0 ∈ rtP K us v → v ≠ c0 → f v = parN K us v) : Hung K us Kn f k (c0 + 1) := by
  intro c hc hk
  by_cases e : c = c0
  · subst e; exact hn hk
  · exact h c (by omega) hk
theorem dep_lt {K : Int} {us : List (Int × Int)} {Kn : Nat} (t : Trn K us Kn) {v : Nat} (hv : v < Kn) : depN K us v < Kn := by
  have R := t.rt hv
  have : (rtP K us v).length ≤ Kn := by
    refine pigeon Kn (rtP K us v).length (fun i => (rtP K us v).getD i 0) (fun i hi => ?_) (fun i j hij hj => R.pw.new i j hij hj)
    cases i with
    | zero => show (rtP K us v).getD 0 0 < Kn; rw [R.fst]; exact hv
    | succ i => exact t.N.eK _ _ (R.pw.tie i hi)
  unfold depN
  have := R.pos
  omega

end Go.Proofs.YtiaeffpjcinilaaDoor

/- Plain mathematics of trees: the way between two knots of one part goes up, and down again. No program stands here. -/
namespace Go.Proofs.YtiaeffpjcinilaaDoor
set_option linter.unusedVariables false

theorem getD_take {q : List Nat} {i j : Nat} (h : j < i) : (q.take i).getD j 0 = q.getD j 0 := by
  rw [List.getD_eq_getElem?_getD, List.getD_eq_getElem?_getD, List.getElem?_take_of_lt h]
theorem getD_app_lt {p q : List Nat} {j : Nat} (h : j < p.length) : (p ++ q).getD j 0 = p.getD j 0 := by
  rw [List.getD_eq_getElem?_getD, List.getD_eq_getElem?_getD, List.getElem?_append_left h]
theorem getD_app_ge {p q : List Nat} {j : Nat} (h : p.length ≤ j) : (p ++ q).getD j 0 = q.getD (j - p.length) 0 := by
  rw [List.getD_eq_getElem?_getD, List.getD_eq_getElem?_getD, List.getElem?_append_right h]
theorem getD_rev {q : List Nat} {j : Nat} (h : j < q.length) : q.reverse.getD j 0 = q.getD (q.length - 1 - j) 0 := by
  rw [List.getD_eq_getElem?_getD, List.getD_eq_getElem?_getD, List.getElem?_reverse h]
theorem mem_getD {q : List Nat} {j : Nat} (h : j < q.length) : q.getD j 0 ∈ q := by
  rw [List.getD_eq_getElem?_getD, List.getElem?_eq_getElem h]; exact List.getElem_mem h
/-- up one way, and down the other one -/
def upDown (q r : List Nat) (i m : Nat) : List Nat := q.take (i + 1) ++ (r.take m).reverse
theorem upDown_len {q r : List Nat} {i m : Nat} (hi : i < q.length) (hm : m < r.length) : (upDown q r i m).length = i + 1 + m := by
  unfold upDown; simp; omega
theorem upDown_lo {q r : List Nat} {i m j : Nat} (hi : i < q.length) (h : j ≤ i) : (upDown q r i m).getD j 0 = q.getD j 0 := by
  unfold upDown
  rw [getD_app_lt (by simp; omega), getD_take (by omega)]
theorem upDown_hi {q r : List Nat} {i m j : Nat} (hi : i < q.length) (hm : m < r.length) (h : i < j) (hj : j < i + 1 + m) : (upDown q r i m).getD j 0 = r.getD (m - (j - i)) 0 := by
  unfold upDown
  have hl : (q.take (i + 1)).length = i + 1 := by simp; omega
  have hl2 : (r.take m).length = m := by simp; omega
  rw [getD_app_ge (by omega), hl, getD_rev (by omega), hl2, getD_take (by omega)]
  congr 1; omega
theorem upDown_pw {E : Nat → Nat → Bool} (hs : ∀ x y, E x y = true → E y x = true) {q r : List Nat} (hq : Pw E q) (hr : Pw E r) {i m : Nat} (hi : i < q.length) (hm : m < r.length) (he : q.getD i 0 = r.getD m 0) (hn : ∀ j, j < i → q.getD j 0 ∉ r) : Pw E (upDown q r i m) := by
  have hl := upDown_len (q := q) (r := r) hi hm
  refine ⟨fun j hj => ?_, fun j k hjk hk => ?_⟩
  · rw [hl] at hj
    by_cases h1 : j + 1 ≤ i
    · rw [upDown_lo hi (by omega), upDown_lo hi h1]; exact hq.tie j (by omega)
    · by_cases h2 : j = i
      · subst h2
        rw [upDown_lo hi (Nat.le_refl _), upDown_hi hi hm (by omega) (by omega), he]
        have := hs _ _ (hr.tie (m - 1) (by omega))
        rw [show m - 1 + 1 = m by omega] at this
        rw [show m - (j + 1 - j) = m - 1 by omega]; exact this
      · rw [upDown_hi hi hm (by omega) (by omega), upDown_hi hi hm (by omega) (by omega)]
        have := hs _ _ (hr.tie (m - (j + 1 - i)) (by omega))
        rw [show m - (j + 1 - i) + 1 = m - (j - i) by omega] at this
        exact this
  · rw [hl] at hk
    by_cases h1 : k ≤ i
    · rw [upDown_lo hi (by omega), upDown_lo hi h1]; exact hq.new j k hjk (by omega)
    · rw [upDown_hi hi hm (by omega) hk]
      by_cases h2 : j < i
      · rw [upDown_lo hi (by omega)]
        intro e
        exact hn j h2 (by rw [e]; exact mem_getD (by omega))
      · by_cases h3 : j = i
        · subst h3
          rw [upDown_lo hi (Nat.le_refl _), he]
          exact fun e => hr.new (m - (k - j)) m (by omega) hm e.symm
        · rw [upDown_hi hi hm (by omega) (by omega)]
          exact fun e => hr.new (m - (k - i)) (m - (j - i)) (by omega) (by omega) e.symm
theorem upDown_last {q r : List Nat} {i m : Nat} (hi : i < q.length) (hm : m < r.length) (he : q.getD i 0 = r.getD m 0) : lastN (upDown q r i m) = r.getD 0 0 := by
  have hl := upDown_len (q := q) (r := r) hi hm
  rw [lastN_at (by omega), hl]
  by_cases h : m = 0
  · subst h
    rw [upDown_lo hi (by omega)]
    rw [← he]; rfl
  · rw [upDown_hi hi hm (by omega) (by omega)]
    congr 1; omega
/-- between two knots of one part of a tree -/
structure Wy (us : List (Int × Int)) (a b : Nat) (p : List Nat) : Prop where
  pw : Pw (tieNB us) p
  fst : p.getD 0 0 = a
  lst : lastN p = b
  pos : 0 < p.length
  le : p.length ≤ 8
theorem pw_le {K : Int} {us : List (Int × Int)} {Kn : Nat} (t : Trn K us Kn) {p : List Nat} (h : Pw (tieNB us) p) {a : Nat} (ha : a < Kn) (hf : p.getD 0 0 = a) : p.length ≤ Kn := by
  refine pigeon Kn p.length (fun i => p.getD i 0) (fun i hi => ?_) h.new
  cases i with
  | zero => show p.getD 0 0 < Kn; omega
  | succ i => exact t.N.eK _ _ (h.tie i hi)
theorem Trn.find {K : Int} {us : List (Int × Int)} {Kn : Nat} (t : Trn K us Kn) {a b : Nat} (ha : a < Kn) (hb : b < Kn) (h : topN us a = topN us b) (h8 : Kn ≤ 8) : Wy us a b (findB K us (a : Int) (b : Int)) := by
  have hK := t.N.K
  have hf : foundB K us (a : Int) (b : Int) = true := by
    cases hh : foundB K us (a : Int) (b : Int)
    · have := found_no_reach hh (by rw [t.N.ok]; simp [knotB]; omega) b (by omega) rfl
      rw [Int.toNat_natCast] at this
      have e := topN_reach us a b
      rw [this] at e
      simp [h] at e
    · rfl
  obtain ⟨h1, h2, h3, h4, _, _⟩ := ways_way (find_mem hf)
  have hl := pw_le t h1 ha (by omega)
  exact ⟨h1, by omega, by omega, h4, by omega⟩
theorem Wy.only {us : List (Int × Int)} (T : Tre (tieNB us)) {a b : Nat} {p q : List Nat} (h : Wy us a b p) (k : Wy us a b q) : p = q :=
  T.only p q h.pw k.pw h.pos k.pos (h.fst.trans k.fst.symm) (h.lst.trans k.lst.symm)
theorem Trn.upDown {us : List (Int × Int)} (t : Trn 8 us 8) {a b i m : Nat} (ha : a < 8) (hb : b < 8) (h : topN us a = topN us b) (hi : i < (rtP 8 us a).length) (hm : m < (rtP 8 us b).length) (he : (rtP 8 us a).getD i 0 = (rtP 8 us b).getD m 0) (hn : ∀ j, j < i → (rtP 8 us a).getD j 0 ∉ rtP 8 us b) : Go.Proofs.YtiaeffpjcinilaaDoor.upDown (rtP 8 us a) (rtP 8 us b) i m = findB 8 us (a : Int) (b : Int) ∧ i + 1 + m ≤ 8 := by
  have Ra := t.rt ha
  have Rb := t.rt hb
  have hp := upDown_pw (fun x y => t.N.sym x y) Ra.pw Rb.pw hi hm he hn
  have hl := upDown_len (q := rtP 8 us a) (r := rtP 8 us b) hi hm
  have hf : (Go.Proofs.YtiaeffpjcinilaaDoor.upDown (rtP 8 us a) (rtP 8 us b) i m).getD 0 0 = a := by rw [upDown_lo hi (by omega)]; exact Ra.fst
  have h8 := pw_le t hp ha hf
  have W : Wy us a b (Go.Proofs.YtiaeffpjcinilaaDoor.upDown (rtP 8 us a) (rtP 8 us b) i m) := ⟨hp, hf, by rw [upDown_last hi hm he, Rb.fst], by omega, h8⟩
  exact ⟨W.only t.T (t.find ha hb h (by omega)), by omega⟩
/-- who is not on the other way has one above -/
theorem Trn.more {us : List (Int × Int)} (t : Trn 8 us 8) {a b i : Nat} (ha : a < 8) (hb : b < 8) (h : topN us a = topN us b) (hi : i < (rtP 8 us a).length) (hn : (rtP 8 us a).getD i 0 ∉ rtP 8 us b) : i + 1 < (rtP 8 us a).length := by
  have Ra := t.rt ha
  have Rb := t.rt hb
  by_cases e : i + 1 = (rtP 8 us a).length
  · exfalso
    apply hn
    have h1 : (rtP 8 us a).getD i 0 = topN us a := by
      have := Ra.lst
      rw [lastN_at Ra.pos, ← e] at this; exact this
    rw [h1, h, ← Rb.lst, lastN_at Rb.pos]
    exact mem_getD (by have := Rb.pos; omega)
  · omega
/-- the way in a tree does not hang on how many knots there are -/
theorem Trn.find8 {K : Int} {us : List (Int × Int)} {Kn : Nat} (t : Trn K us Kn) {a b : Nat} (ha : a < Kn) (hb : b < Kn) (h : topN us a = topN us b) (h8 : Kn ≤ 8) : findB 8 us (a : Int) (b : Int) = findB K us (a : Int) (b : Int) :=
  (t.eight.find (by omega) (by omega) h (Nat.le_refl _)).only t.T (t.find ha hb h h8)

end Go.Proofs.YtiaeffpjcinilaaDoor

/- Plain mathematics of tree rings: the ties that are not in the tree, and the ring of each. No program stands here. -/
namespace Go.Proofs.YtiaeffpjcinilaaDoor
set_option linter.unusedVariables false

/-- the ties that the tree does not have -/
def restTs (K : Int) (ts : List (Int × Int)) : List (Int × Int) := if okB K ts = true then ts.filter (fun t => !decide (t ∈ treeTs K ts)) else []
theorem restTs_yes {K : Int} {ts : List (Int × Int)} (h : okB K ts = true) : restTs K ts = ts.filter (fun t => !decide (t ∈ treeTs K ts)) := if_pos h
theorem restTs_no {K : Int} {ts : List (Int × Int)} (h : okB K ts = false) : restTs K ts = [] := if_neg (by simp [h])
theorem restTs_ok {K : Int} {ts : List (Int × Int)} (h : okB K ts = true) : okB K (restTs K ts) = true := by
  obtain ⟨k0, k8, hs⟩ := ok_parts h
  rw [restTs_yes h]
  exact ok_of_srt k0 k8 (srt_filter hs _)
theorem restTs_len (K : Int) (ts : List (Int × Int)) : (restTs K ts).length ≤ 64 := by
  cases h : okB K ts
  · rw [restTs_no h]; simp
  · exact ok_short (okB_iff.1 (restTs_ok h))
theorem mem_restTs {K : Int} {ts : List (Int × Int)} (h : okB K ts = true) (t : Int × Int) : t ∈ restTs K ts ↔ t ∈ ts ∧ t ∉ treeTs K ts := by
  rw [restTs_yes h, List.mem_filter]
  simp
theorem tree_mem {K : Int} {ts : List (Int × Int)} (h : okB K ts = true) {t : Int × Int} (ht : t ∈ treeTs K ts) : t ∈ ts := by
  rw [treeTs_yes h] at ht; exact treeTo_mem' ht
/-- the set without the tree -/
theorem rest_bits {K : Int} {ts : List (Int × Int)} (h : okB K ts = true) : BitsOf (strike (setN K ts) (setN K (treeTs K ts))) (restTs K ts) := by
  intro j
  obtain ⟨k0, k8, hs⟩ := ok_parts h
  rw [strike_bit _ _ _ (setN_lt _ _) (setN_lt _ _), Bool.and_eq_true, set_bitsOf h j, Bool.not_eq_true', ← Bool.not_eq_true, set_bitsOf (treeTs_ok h) j]
  constructor
  · rintro ⟨⟨t, ht, rfl⟩, hno⟩
    exact ⟨t, (mem_restTs h t).2 ⟨ht, fun hb => hno ⟨t, hb, rfl⟩⟩, rfl⟩
  · rintro ⟨t, ht, rfl⟩
    obtain ⟨h1, h2⟩ := (mem_restTs h t).1 ht
    refine ⟨⟨t, h1, rfl⟩, ?_⟩
    rintro ⟨s, hs', e⟩
    have : s = t := ix_inj k8 (hs.1 s (tree_mem h hs')) (hs.1 t h1) e
    subst this
    exact h2 hs'
theorem tree_trn {K : Int} {ts : List (Int × Int)} (h : okB K ts = true) : Trn K (treeTs K ts) K.toNat :=
  trn_of (treeTs_ok h) (tree_parts (tree_is h).1).2.2.2.2
theorem tree_top {K : Int} {ts : List (Int × Int)} (h : okB K ts = true) {k : Nat} (hk : k < K.toNat) : topN (treeTs K ts) k = topN ts k := (tree_parts (tree_is h).1).2.2.1 k hk
/-- a tie that the tree does not have -/
structure Rst (K : Int) (ts : List (Int × Int)) (t : Int × Int) (x y : Nat) : Prop where
  lt : x < y
  kn : y < K.toNat
  eq : t = ((x : Int), (y : Int))
  top : topN (treeTs K ts) y = topN (treeTs K ts) x
  way : Wy (treeTs K ts) y x (findB K (treeTs K ts) (y : Int) (x : Int))
  same : findB 8 (treeTs K ts) (y : Int) (x : Int) = findB K (treeTs K ts) (y : Int) (x : Int)
theorem rst_of {K : Int} {ts : List (Int × Int)} (h : okB K ts = true) {t : Int × Int} (ht : t ∈ ts) : ∃ x y : Nat, Rst K ts t x y := by
  obtain ⟨k0, k8, hs⟩ := ok_parts h
  obtain ⟨x, y, hxy, hy8, e, _, hh⟩ := tie_form h ht
  have hyK : y < K.toNat := by have := (hs.1 t ht).2.2; rw [e] at this; simp at this; omega
  have htop : topN (treeTs K ts) y = topN (treeTs K ts) x := by
    rw [tree_top h hyK, tree_top h (by omega)]
    exact (tie_top h (by rw [hasB_ok h] at hh; exact hh)).symm
  have T := tree_trn h
  exact ⟨x, y, hxy, hyK, e, htop, T.find hyK (by omega) htop (by omega), T.find8 hyK (by omega) htop (by omega)⟩
/-- the rings -/
def ringsB (K : Int) (ts : List (Int × Int)) : List (List Nat) := (restTs K ts).map fun t => findB K (treeTs K ts) t.2 t.1
theorem ringsB_len (K : Int) (ts : List (Int × Int)) : (ringsB K ts).length = (restTs K ts).length := by simp [ringsB]
theorem ringsB_no {K : Int} {ts : List (Int × Int)} (h : okB K ts = false) : ringsB K ts = [] := by unfold ringsB; rw [restTs_no h]; rfl
theorem ringsB_mem {K : Int} {ts : List (Int × Int)} {q : List Nat} (hq : q ∈ ringsB K ts) : 0 < q.length ∧ q.length ≤ 8 := by
  cases h : okB K ts
  · rw [ringsB_no h] at hq; cases hq
  · obtain ⟨t, ht, rfl⟩ := List.mem_map.1 hq
    obtain ⟨x, y, R⟩ := rst_of h ((mem_restTs h t).1 ht).1
    have e := R.eq
    have W := R.way
    subst e
    exact ⟨W.pos, W.le⟩
theorem ringsB_take {K : Int} {ts : List (Int × Int)} {i : Nat} (hi : i < (restTs K ts).length) : (ringsB K ts).take (i + 1) = (ringsB K ts).take i ++ [findB K (treeTs K ts) (tB (restTs K ts) i) (tA (restTs K ts) i)] := by
  have hl : i < (ringsB K ts).length := by rw [ringsB_len]; exact hi
  rw [List.take_add_one, List.getElem?_eq_getElem hl]
  congr 1
  simp [ringsB, tA, tB, hi]

end Go.Proofs.YtiaeffpjcinilaaDoor

/- Plain mathematics of trees and rings: the tree of a tree; no bridge is in a ring; a tie may stand for one of the ring that it closes. No program stands here. -/
namespace Go.Proofs.YtiaeffpjcinilaaDoor
set_option linter.unusedVariables false

theorem seg_cn {R : Nat → Nat → Prop} {p : List Nat} : ∀ (n i : Nat), i + n < p.length → (∀ j, i ≤ j → j < i + n → R (p.getD j 0) (p.getD (j + 1) 0)) → Cn R (p.getD i 0) (p.getD (i + n) 0) := by
  intro n
  induction n with
  | zero => intro i _ _; exact Cn.refl _
  | succ n ih =>
    intro i hi h
    exact (ih i (by omega) (fun j h1 h2 => h j h1 (by omega))).fwd (h (i + n) (by omega) (by omega))
/-- the two ends of a tie of a ring hang together without it -/
theorem ring_cn {R : Nat → Nat → Prop} {p : List Nat} {k : Nat} (hk : k + 1 < p.length) (h : ∀ i, i + 1 < p.length → i ≠ k → R (p.getD i 0) (p.getD (i + 1) 0)) (hc : Cn R (p.getD 0 0) (p.getD (p.length - 1) 0)) : Cn R (p.getD k 0) (p.getD (k + 1) 0) := by
  have h1 := seg_cn (R := R) (p := p) k 0 (by omega) (fun j _ hj => h j (by omega) (by omega))
  have h2 := seg_cn (R := R) (p := p) (p.length - 1 - (k + 1)) (k + 1) (by omega) (fun j hj hj2 => h j (by omega) (by omega))
  rw [Nat.zero_add] at h1
  rw [show k + 1 + (p.length - 1 - (k + 1)) = p.length - 1 by omega] at h2
  exact (h1.symm.trans hc).trans h2.symm
theorem Pw.inj {E : Nat → Nat → Bool} {q : List Nat} (h : Pw E q) {i j : Nat} (hi : i < q.length) (hj : j < q.length) (e : q.getD i 0 = q.getD j 0) : i = j := by
  rcases Nat.lt_trichotomy i j with q1 | q1 | q1
  · exact absurd e (h.new i j q1 hj)
  · exact q1
  · exact absurd e.symm (h.new j i q1 hi)
/-- all ties of a way but one -/
theorem Pw.but {E : Nat → Nat → Bool} {q : List Nat} (h : Pw E q) {k : Nat} (hk : k + 1 < q.length) : ∀ i, i + 1 < q.length → i ≠ k → But (fun a b => E a b = true) (q.getD k 0) (q.getD (k + 1) 0) (q.getD i 0) (q.getD (i + 1) 0) := by
  intro i hi hne
  refine ⟨h.tie i hi, fun ⟨e, _⟩ => hne (h.inj (by omega) (by omega) e), fun ⟨e1, e2⟩ => ?_⟩
  have q1 := h.inj (by omega) (by omega) e1
  have q2 := h.inj (by omega) (by omega) e2
  omega
theorem Pw.mono' {E E' : Nat → Nat → Bool} {q : List Nat} (h : Pw E q) (hE : ∀ x y, E x y = true → E' x y = true) : Pw E' q := ⟨fun i hi => hE _ _ (h.tie i hi), h.new⟩
theorem sub_tie {us ts : List (Int × Int)} (h : ∀ t, t ∈ us → t ∈ ts) (x y : Nat) (e : tieNB us x y = true) : tieNB ts x y = true := by
  rw [tieNB_mem] at e ⊢; exact h _ e
theorem cn_EE {K : Int} {us : List (Int × Int)} (h : okB K us = true) {x y : Nat} : Cn (Tied us us.length) x y ↔ Cn (EE us) x y := by
  constructor
  · exact cn_sym (fun x y h2 => Or.inl ((tieNB_iff (okB_iff.1 h)).2 (Or.inl h2)))
  · exact cn_sym (fun x y h2 => (tieNB_iff (okB_iff.1 h)).1 h2)
/-! ### the tree of a tree -/
theorem tree_twice {K : Int} {ts : List (Int × Int)} (h : okB K ts = true) : treeTs K (treeTs K ts) = treeTs K ts := by
  have hu := treeTs_ok h
  have h1 := (tree_parts (tree_is h).1).2.2.2.2
  have h2 := (tree_is hu).2
  obtain ⟨us, hus⟩ : ∃ us, us = treeTs K ts := ⟨_, rfl⟩
  rw [← hus] at hu h1 h2 ⊢
  rw [treeTs_yes hu] at h2 ⊢
  rw [treeTo_all us.length (Nat.le_refl _) (treeTo_full us.length (by omega)), List.take_length]
theorem tree_brs {K : Int} {ts : List (Int × Int)} (h : okB K ts = true) : brTs K (treeTs K ts) = treeTs K ts := by
  have hu := treeTs_ok h
  have h1 := (tree_parts (tree_is h).1).2.2.2.2
  have e : brTs K (treeTs K ts) = (treeTs K ts).filter (fun t => bridgeB K (treeTs K ts) t.1 t.2) := if_pos hu
  rw [e, List.filter_eq_self]
  intro t ht
  obtain ⟨x, y, _, _, e2, _, hh⟩ := tie_form hu ht
  subst e2
  exact tree_bridge h1 hh
theorem tree_rest {K : Int} {ts : List (Int × Int)} (h : okB K ts = true) : ringsB K (treeTs K ts) = [] := by
  unfold ringsB
  have : restTs K (treeTs K ts) = [] := by
    rw [restTs_yes (treeTs_ok h), tree_twice h, List.filter_eq_nil_iff]
    intro t ht
    simp [ht]
  rw [this]; rfl
theorem filter_two {α : Type} (p : α → Bool) : ∀ l : List α, (l.filter (fun t => !p t)).length + (l.filter p).length = l.length := by
  intro l
  induction l with
  | nil => rfl
  | cons a l ih =>
    cases h : p a
    · simp [h]; omega
    · simp [h]; omega
/-- the ties that are in the tree, and those that are not -/
theorem rest_len {K : Int} {ts : List (Int × Int)} (h : okB K ts = true) : (restTs K ts).length + (treeTs K ts).length = ts.length := by
  have hp : (treeTs K ts) = ts.filter (fun t => decide (t ∈ treeTs K ts)) := by
    obtain ⟨k0, k8, hs⟩ := ok_parts h
    refine srt_ext k8 _ _ (ok_parts (treeTs_ok h)).2.2 (srt_filter hs _) (fun t => ?_)
    rw [List.mem_filter, decide_eq_true_eq]
    exact ⟨fun q => ⟨tree_mem h q, q⟩, fun q => q.2⟩
  have := filter_two (fun t => decide (t ∈ treeTs K ts)) ts
  rw [restTs_yes h]
  rw [← hp] at this
  exact this
/-! ### rings -/
/-- the ring of a tie that the tree does not have -/
structure Rng (K : Int) (ts : List (Int × Int)) (x y : Nat) (q : List Nat) : Prop where
  lt : x < y
  kn : y < K.toNat
  mem : ((x : Int), (y : Int)) ∈ ts
  out : ((x : Int), (y : Int)) ∉ treeTs K ts
  pw : Pw (tieNB (treeTs K ts)) q
  fst : q.getD 0 0 = y
  lst : q.getD (q.length - 1) 0 = x
  len : 3 ≤ q.length
  le : q.length ≤ 8
theorem tieOf_lt {x y : Nat} (h : x < y) : tieOf (y : Int) (x : Int) = ((x : Int), (y : Int)) ∧ tieOf (x : Int) (y : Int) = ((x : Int), (y : Int)) := by
  unfold tieOf
  rw [Int.min_eq_right (by omega), Int.max_eq_left (by omega), Int.min_eq_left (by omega), Int.max_eq_right (by omega)]
  exact ⟨rfl, rfl⟩
theorem rng_of {K : Int} {ts : List (Int × Int)} (h : okB K ts = true) {i : Nat} (hi : i < (restTs K ts).length) : ∃ x y : Nat, (tA (restTs K ts) i, tB (restTs K ts) i) = ((x : Int), (y : Int)) ∧ Rng K ts x y (findB K (treeTs K ts) (tB (restTs K ts) i) (tA (restTs K ts) i)) := by
  obtain ⟨m1, m2⟩ := (mem_restTs h _).1 (mem_at hi)
  obtain ⟨x, y, R⟩ := rst_of h m1
  have e := R.eq
  simp only [Prod.mk.injEq] at e
  obtain ⟨e1, e2⟩ := e
  have hw := R.way
  rw [e1, e2] at m1 m2 ⊢
  have hout : tieNB (treeTs K ts) y x = false := by
    rw [← Bool.not_eq_true, tieNB_mem, (tieOf_lt R.lt).1]; exact m2
  have h1 : (findB K (treeTs K ts) (y : Int) (x : Int)).length ≠ 1 := fun e => by
    have hf := hw.fst
    have hl := hw.lst
    rw [lastN_at hw.pos, e] at hl
    have := R.lt
    rw [hf] at hl; omega
  have h2 : (findB K (treeTs K ts) (y : Int) (x : Int)).length ≠ 2 := fun e => by
    have hf := hw.fst
    have hl := hw.lst
    rw [lastN_at hw.pos, e] at hl
    have := hw.pw.tie 0 (by omega)
    rw [hf, hl, hout] at this; cases this
  have h0 := hw.pos
  refine ⟨x, y, rfl, R.lt, R.kn, m1, m2, hw.pw, hw.fst, ?_, by omega, hw.le⟩
  rw [← lastN_at hw.pos]; exact hw.lst
theorem Rng.way {K : Int} {ts : List (Int × Int)} {x y : Nat} {q : List Nat} (h : okB K ts = true) (R : Rng K ts x y q) : wayB K ts (q.map fun (x : Nat) => (x : Int)) = true := by
  have hl := R.len
  refine (R.pw.mono' (sub_tie (fun t ht => tree_mem h ht))).way h (by omega) ?_
  have := (okB_iff.1 h).1
  have := R.kn
  rw [R.fst]; unfold knotB
  rw [decide_eq_true (by omega), decide_eq_true (by omega)]; rfl
theorem Rng.close {K : Int} {ts : List (Int × Int)} {x y : Nat} {q : List Nat} (R : Rng K ts x y q) : tieNB ts y x = true := by
  rw [tieNB_mem, (tieOf_lt R.lt).1]; exact R.mem
/-- no tie of a ring is a bridge -/
theorem Rng.nb {K : Int} {ts : List (Int × Int)} {x y : Nat} {q : List Nat} (h : okB K ts = true) (R : Rng K ts x y q) {k : Nat} (hk : k + 1 < q.length) : Nb (EE ts) (q.getD k 0) (q.getD (k + 1) 0) := by
  have hp := R.pw.mono' (sub_tie (fun t ht => tree_mem h ht))
  refine ring_cn (R := But (EE ts) (q.getD k 0) (q.getD (k + 1) 0)) hk (hp.but hk) ?_
  have hl := R.len
  have ht : EE ts (q.getD 0 0) (q.getD (q.length - 1) 0) := by rw [R.fst, R.lst]; exact R.close
  refine (Cn.refl _).fwd ⟨ht, fun ⟨e1, e2⟩ => ?_, fun ⟨e1, e2⟩ => ?_⟩
  · have q1 := R.pw.inj (by omega) (by omega) e1
    have q2 := R.pw.inj (by omega) (by omega) e2
    omega
  · have q1 := R.pw.inj (by omega) (by omega) e1
    omega
theorem Rng.bridge {K : Int} {ts : List (Int × Int)} {x y : Nat} {q : List Nat} (h : okB K ts = true) (R : Rng K ts x y q) {k : Nat} (hk : k + 1 < q.length) : tieOf ((q.getD k 0 : Nat) : Int) ((q.getD (k + 1) 0 : Nat) : Int) ∉ brTs K ts := by
  intro hm
  have hp := R.pw.mono' (sub_tie (fun t ht => tree_mem h ht))
  obtain ⟨m1, m2⟩ := (mem_brTs h _).1 hm
  have hh : hasB K ts ((q.getD k 0 : Nat) : Int) ((q.getD (k + 1) 0 : Nat) : Int) = true := (hasB_mem h).2 m1
  have hb : bridgeB K ts ((q.getD k 0 : Nat) : Int) ((q.getD (k + 1) 0 : Nat) : Int) = true := by
    unfold tieOf at m2
    rcases Nat.le_total (q.getD k 0) (q.getD (k + 1) 0) with e | e
    · rw [Int.min_eq_left (by omega), Int.max_eq_right (by omega)] at m2; exact m2
    · rw [Int.min_eq_right (by omega), Int.max_eq_left (by omega)] at m2; rw [bridge_turn]; exact m2
  exact (bridge_nb hh).1 hb (R.nb h hk)
/-- each bridge is in the tree -/
theorem bridge_in_tree {K : Int} {ts : List (Int × Int)} (h : okB K ts = true) {t : Int × Int} (ht : t ∈ brTs K ts) : t ∈ treeTs K ts := by
  obtain ⟨m1, m2⟩ := (mem_brTs h t).1 ht
  refine Decidable.byContradiction (fun hno => ?_)
  obtain ⟨x, y, R⟩ := rst_of h m1
  have e := R.eq
  subst e
  have hh : hasB K ts (x : Int) (y : Int) = true := (hasB_mem h).2 (by rw [(tieOf_lt R.lt).2]; exact m1)
  refine (bridge_nb hh).1 m2 ?_
  have hu := treeTs_ok h
  have hc : Cn (Tied (treeTs K ts) (treeTs K ts).length) x y := by
    have := topN_reach (treeTs K ts) x y
    rw [R.top, decide_eq_true rfl] at this
    exact (reach_cn _ _ _).1 this.symm
  refine ((cn_EE hu).1 hc).mono (fun a b hab => ?_)
  refine ⟨sub_tie (fun t ht => tree_mem h ht) a b hab, fun ⟨e1, e2⟩ => ?_, fun ⟨e1, e2⟩ => ?_⟩
  · subst e1; subst e2
    have := (tieNB_mem _ _ _).1 hab
    rw [(tieOf_lt R.lt).2] at this; exact hno this
  · subst e1; subst e2
    have := (tieNB_mem _ _ _).1 hab
    rw [(tieOf_lt R.lt).1] at this; exact hno this
/-! ### a tie may stand for one of the ring that it closes -/
structure Swp (K : Int) (ts : List (Int × Int)) (x y a b : Nat) : Prop where
  cut : cutB K (treeTs K ts) (a : Int) (b : Int) = true
  add : addB K (cutTs K (treeTs K ts) (a : Int) (b : Int)) (y : Int) (x : Int) = true
  ok : treeOkB K ts (addTs K (cutTs K (treeTs K ts) (a : Int) (b : Int)) (y : Int) (x : Int)) = true
theorem Rng.swap {K : Int} {ts : List (Int × Int)} {x y : Nat} {q : List Nat} (h : okB K ts = true) (R : Rng K ts x y q) {k : Nat} (hk : k + 1 < q.length) : Swp K ts x y (q.getD k 0) (q.getD (k + 1) 0) := by
  obtain ⟨a, ha⟩ : ∃ a, a = q.getD k 0 := ⟨_, rfl⟩
  obtain ⟨b, hb⟩ : ∃ b, b = q.getD (k + 1) 0 := ⟨_, rfl⟩
  have hu := treeTs_ok h
  have hpt := tree_parts (tree_is h).1
  have hbut := R.pw.but hk
  have htie := R.pw.tie k hk
  have hin := fun t (ht : t ∈ treeTs K ts) => tree_mem h ht
  obtain ⟨vs, hvs⟩ : ∃ vs, vs = treeTs K ts := ⟨_, rfl⟩
  have hout := R.out
  rw [← ha, ← hb] at hbut htie ⊢
  rw [← hvs] at hu hpt hbut htie hin hout
  have hh : hasB K vs (a : Int) (b : Int) = true := (hasB_mem hu).2 ((tieNB_mem _ _ _).1 htie)
  have hcut : cutB K vs (a : Int) (b : Int) = true := hh
  have hxs := cutTs_yes hcut
  have hcx := cnt_cut hh
  have hbr := tree_bridge hpt.2.2.2.2 hh
  have hnb := (bridge_nb hh).1 hbr
  obtain ⟨g0, g8, gs⟩ := ok_parts hu
  have hok : okB K (cutTs K vs (a : Int) (b : Int)) = true := by rw [hxs]; exact ok_of_srt g0 g8 (srt_filter gs _)
  have hbs : reachB (cutTs K vs a b) a b = false := by rw [bridge_beside hh, hbr]; rfl
  obtain ⟨xs, hxe⟩ : ∃ xs, xs = cutTs K vs (a : Int) (b : Int) := ⟨_, rfl⟩
  have hEE : ∀ p r, EE xs p r ↔ But (EE vs) a b p r := fun p r => by rw [hxe]; exact EE_cut hh p r
  rw [← hxe] at hok hcx hxs
  have hnr : reachB xs y x = false := by
    rw [← Bool.not_eq_true, reach_cn]
    intro hc
    have hc2 : Cn (But (EE vs) a b) (q.getD 0 0) (q.getD (q.length - 1) 0) := by
      rw [R.fst, R.lst]; exact ((cn_EE hok).1 hc).mono (fun p r => (hEE p r).1)
    have := ring_cn hk hbut hc2
    rw [← ha, ← hb] at this
    exact hnb this
  have hK : ((K.toNat : Nat) : Int) = K := by omega
  have hlt := R.lt
  have hkn := R.kn
  have hadd : addB K xs (y : Int) (x : Int) = true := by
    have hno : hasB K xs (y : Int) (x : Int) = false := by
      rw [← Bool.not_eq_true, hasB_mem hok, (tieOf_lt hlt).1, hxs]
      intro hm
      exact hout (List.mem_filter.1 hm).1
    unfold addB knotB
    rw [hok, hno, decide_eq_true (by omega), decide_eq_true (by omega), decide_eq_true (by omega), decide_eq_true (by omega), decide_eq_true (by omega)]; rfl
  have A := added hadd
  have hca := cnt_add hadd
  have hlen : xs.length + 1 = vs.length := by
    obtain ⟨c1, c2⟩ := cut_add hcut
    have A2 := added c1
    rw [c2, ← hxe] at A2
    exact A2.len.symm
  have hcx2 : cnt xs K.toNat = cnt vs K.toNat + 1 := by
    have e : reachB xs (b : Int).toNat (a : Int).toNat = false := by
      rw [Int.toNat_natCast, Int.toNat_natCast, ← Bool.not_eq_true, reach_cn]
      intro hc
      rw [← hxe, ← Bool.not_eq_true, reach_cn] at hbs
      exact hbs hc.symm
    rw [e] at hcx
    simp at hcx; omega
  have hca2 : cnt (addTs K xs (y : Int) (x : Int)) K.toNat + 1 = cnt xs K.toNat := by
    rw [Int.toNat_natCast, Int.toNat_natCast, hnr] at hca
    simpa using hca
  have hsub : ∀ t, t ∈ addTs K xs (y : Int) (x : Int) → t ∈ ts := by
    intro t ht
    rw [addTs_yes hadd, mem_ins] at ht
    rcases ht with e | e
    · rw [e, (tieOf_lt hlt).1]; exact R.mem
    · rw [hxs] at e; exact hin t (List.mem_filter.1 e).1
  have hcts : cnt vs K.toNat = cnt ts K.toNat := by have := hpt.2.2.2; omega
  have hl2 := A.len
  refine ⟨by rw [← hvs]; exact hcut, by rw [← hvs, ← hxe]; exact hadd, ?_⟩
  rw [← hvs, ← hxe]
  unfold treeOkB
  rw [h, A.ok, sub_iff.2 hsub, decide_eq_true (by omega), decide_eq_true (by have := hpt.2.2.2.2; omega)]; rfl

end Go.Proofs.YtiaeffpjcinilaaDoor
