/- Plain mathematics of trees: between two knots there is one way alone; of each knot the one above. No program stands here. -/
import Derived.Test.YtiaeffpjcinilaaDoorMathX
import Derived.Test.YtiaeffpjcinilaaDoorMathV
namespace Go.Proofs.YtiaeffpjcinilaaDoor
set_option linter.unusedVariables false

/-- a net of which each tie is a bridge -/
def Tre (E : Nat → Nat → Bool) : Prop := (∀ x y, E x y = true → E y x = true) ∧ ∀ x y, E x y = true → ¬ Nb (fun a b => E a b = true) x y
theorem Pw.tail {E : Nat → Nat → Bool} {x : Nat} {p : List Nat} (h : Pw E (x :: p)) : Pw E p := by
  refine ⟨fun i hi => ?_, fun i j hij hj => ?_⟩
  · have := h.tie (i + 1) (by simp; omega); simpa using this
  · have := h.new (i + 1) (j + 1) (by omega) (by simp; omega); simpa using this
theorem Pw.notin {E : Nat → Nat → Bool} {x : Nat} {p : List Nat} (h : Pw E (x :: p)) : x ∉ p := by
  intro hx
  obtain ⟨i, hi, e⟩ := List.mem_iff_getElem.1 hx
  have := h.new 0 (i + 1) (by omega) (by simp; omega)
  apply this
  simp [hi, e]
theorem Pw.cons {E : Nat → Nat → Bool} {x y : Nat} {p : List Nat} (h : Pw E (y :: p)) (he : E x y = true) (hx : x ∉ y :: p) : Pw E (x :: y :: p) := by
  refine ⟨fun i hi => ?_, fun i j hij hj => ?_⟩
  · cases i with
    | zero => simpa using he
    | succ i => have := h.tie i (by simpa using hi); simpa using this
  · cases j with
    | zero => omega
    | succ j =>
      cases i with
      | zero =>
        intro e
        apply hx
        have hj' : j < (y :: p).length := by simpa using hj
        have e2 : (x :: y :: p).getD (j + 1) 0 = (y :: p)[j] := by rw [List.getD_cons_succ, List.getD_eq_getElem?_getD, List.getElem?_eq_getElem hj']; rfl
        rw [e2] at e
        have e3 : x = (y :: p)[j] := by simpa using e
        rw [e3]; exact List.getElem_mem hj'
      | succ i => have := h.new i j (by omega) (by simpa using hj); simpa using this
/-- between two knots of a tree there is one way alone -/
theorem Tre.only {E : Nat → Nat → Bool} (T : Tre E) : ∀ (p q : List Nat), Pw E p → Pw E q → 0 < p.length → 0 < q.length → p.getD 0 0 = q.getD 0 0 → lastN p = lastN q → p = q := by
  intro p
  induction p with
  | nil => intro q _ _ h; simp at h
  | cons x p ih =>
    intro q hp hq _ hq0 hf hl
    match q, hq0 with
    | z :: q, _ =>
      have hxz : x = z := by simpa using hf
      subst hxz
      match p, q with
      | [], [] => rfl
      | [], z :: q =>
        exfalso
        have h1 : lastN (x :: z :: q) = (x :: z :: q).getD (q.length + 1) 0 := by rw [lastN_at (by simp)]; rfl
        have h2 : lastN [x] = x := rfl
        have := hq.new 0 (q.length + 1) (by omega) (by simp)
        apply this
        rw [← h1, ← hl, h2]; rfl
      | y :: p, [] =>
        exfalso
        have h1 : lastN (x :: y :: p) = (x :: y :: p).getD (p.length + 1) 0 := by rw [lastN_at (by simp)]; rfl
        have h2 : lastN [x] = x := rfl
        have := hp.new 0 (p.length + 1) (by omega) (by simp)
        apply this
        rw [← h1, hl, h2]; rfl
      | y :: p, z :: q =>
        have lp : lastN (x :: y :: p) = lastN (y :: p) := by rw [lastN_at (by simp), lastN_at (by simp)]; rfl
        have lq : lastN (x :: z :: q) = lastN (z :: q) := by rw [lastN_at (by simp), lastN_at (by simp)]; rfl
        by_cases hyz : y = z
        · subst hyz
          rw [ih (y :: q) hp.tail hq.tail (by simp) (by simp) rfl (by rw [← lp, hl, lq])]
        · exfalso
          have he : E x y = true := by have := hp.tie 0 (by simp); simpa using this
          refine T.2 x y he ?_
          have nx := hp.notin
          have mx := hq.notin
          have c1 := hq.cn (R := But (fun a b => E a b = true) x y) (fun i hi => by
            refine ⟨hq.tie i hi, fun ⟨e1, e2⟩ => ?_, fun ⟨e1, e2⟩ => ?_⟩
            · cases i with
              | zero => exact hyz (by simpa using e2.symm)
              | succ i => exact hq.new 0 (i + 1) (by omega) (by omega) (by rw [e1]; rfl)
            · exact hq.new 0 (i + 1) (by omega) (by omega) (by rw [e2]; rfl)) ((x :: z :: q).length - 1) (by simp)
          have c2 := hp.tail.cn (R := But (fun a b => E a b = true) x y) (fun i hi => by
            refine ⟨hp.tail.tie i hi, fun ⟨e1, e2⟩ => ?_, fun ⟨e1, e2⟩ => ?_⟩
            · exact hp.new 0 (i + 1) (by omega) (by simp at hi ⊢; omega) (by show x = (y :: p).getD i 0; rw [e1])
            · exact hp.new 0 (i + 2) (by omega) (by simp at hi ⊢; omega) (by show x = (y :: p).getD (i + 1) 0; rw [e2])) ((y :: p).length - 1) (by simp)
          rw [← lastN_at (by simp)] at c1 c2
          rw [← lp, hl] at c2
          exact Cn.trans c1 c2.symm

theorem Pw.take {E : Nat → Nat → Bool} {q : List Nat} (h : Pw E q) (m : Nat) : Pw E (q.take m) := by
  have g : ∀ i, i < (q.take m).length → (q.take m).getD i 0 = q.getD i 0 := fun i hi => by
    simp at hi
    rw [List.getD_eq_getElem?_getD, List.getD_eq_getElem?_getD, List.getElem?_take_of_lt (by omega)]
  refine ⟨fun i hi => ?_, fun i j hij hj => ?_⟩
  · rw [g i (by omega), g (i + 1) hi]; exact h.tie i (by simp at hi; omega)
  · rw [g i (by omega), g j hj]; exact h.new i j hij (by simp at hj; omega)
/-- a tree: a net without rings -/
structure Trn (K : Int) (us : List (Int × Int)) (Kn : Nat) : Prop where
  N : Nt K us Kn
  T : Tre (tieNB us)
theorem trn_of {K : Int} {us : List (Int × Int)} (hok : okB K us = true) (hc : us.length + cnt us K.toNat = K.toNat) : Trn K us K.toNat := by
  have h0 := (okB_iff.1 hok).1
  refine ⟨⟨hok, by omega⟩, fun x y h => tieNB_sym h, fun x y h => ?_⟩
  have hh : hasB K us (x : Int) (y : Int) = true := by rw [hasB_ok hok]; exact h
  exact (bridge_nb hh).1 (tree_bridge hc hh)
/-- the way from a knot to the least of its part -/
def rtP (K : Int) (us : List (Int × Int)) (v : Nat) : List Nat := findB K us (v : Int) ((topN us v : Nat) : Int)
def parN (K : Int) (us : List (Int × Int)) (v : Nat) : Nat := (rtP K us v).getD 1 v
def depN (K : Int) (us : List (Int × Int)) (v : Nat) : Nat := (rtP K us v).length - 1
theorem lastN_cons {y : Nat} {p : List Nat} (h : 0 < p.length) : lastN (y :: p) = lastN p := by
  cases p with
  | nil => simp at h
  | cons x r => rw [lastN_at (by simp), lastN_at (by simp)]; rfl
structure Rt (K : Int) (us : List (Int × Int)) (v : Nat) : Prop where
  pw : Pw (tieNB us) (rtP K us v)
  fst : (rtP K us v).getD 0 0 = v
  lst : lastN (rtP K us v) = topN us v
  pos : 0 < (rtP K us v).length
theorem Trn.rt {K : Int} {us : List (Int × Int)} {Kn : Nat} (t : Trn K us Kn) {v : Nat} (hv : v < Kn) : Rt K us v := by
  have ht := topN_le us v
  have hK := t.N.K
  have hf : foundB K us (v : Int) ((topN us v : Nat) : Int) = true := by
    cases h : foundB K us (v : Int) ((topN us v : Nat) : Int)
    · have := found_no_reach h (by rw [t.N.ok]; simp [knotB]; omega) (topN us v) (by omega) rfl
      rw [Int.toNat_natCast, reach_top] at this; cases this
    · rfl
  obtain ⟨h1, h2, h3, h4, _, _⟩ := ways_way (find_mem hf)
  exact ⟨h1, by unfold rtP; omega, by unfold rtP; omega, h4⟩
theorem cons_of {q : List Nat} (h : 0 < q.length) : q = q.getD 0 0 :: q.drop 1 := by
  cases q with
  | nil => simp at h
  | cons x q => rfl
theorem tie_top {us : List (Int × Int)} {K : Int} (hok : okB K us = true) {x y : Nat} (h : tieNB us x y = true) : topN us x = topN us y := by
  have hc : Cn (Tied us us.length) x y := by
    rcases (tieNB_iff (okB_iff.1 hok)).1 h with q | q
    · exact (Cn.refl _).fwd q
    · exact (Cn.refl _).bwd q
  have := topN_reach us x y
  rw [(reach_cn us x y).2 hc] at this
  exact of_decide_eq_true this
/-- what is behind the first knot of that way is the way of the next one -/
theorem Trn.step {K : Int} {us : List (Int × Int)} {Kn : Nat} (t : Trn K us Kn) {v u : Nat} {r : List Nat} (hv : v < Kn) (h : rtP K us v = v :: u :: r) : u < Kn ∧ tieNB us v u = true ∧ topN us u = topN us v ∧ rtP K us u = u :: r := by
  have R := t.rt hv
  have he : tieNB us v u = true := by have := R.pw.tie 0 (by rw [h]; simp); rw [h] at this; simpa using this
  have hu : u < Kn := t.N.eK _ _ he
  have htop := tie_top t.N.ok he
  have Ru := t.rt hu
  have hp : Pw (tieNB us) (u :: r) := by have := R.pw; rw [h] at this; exact this.tail
  refine ⟨hu, he, htop.symm, t.T.only _ _ Ru.pw hp Ru.pos (by simp) (by rw [Ru.fst]; rfl) ?_⟩
  rw [Ru.lst, ← htop, ← R.lst, h, lastN_at (by simp), lastN_at (by simp)]
  rfl
theorem Trn.root {K : Int} {us : List (Int × Int)} {Kn : Nat} (t : Trn K us Kn) {v : Nat} (hv : v < Kn) (h : topN us v = v) : parN K us v = v ∧ depN K us v = 0 := by
  have R := t.rt hv
  have : rtP K us v = [v] := t.T.only _ _ R.pw (Pw.one _ v) R.pos (by simp) (by rw [R.fst]; rfl) (by rw [R.lst, h]; rfl)
  unfold parN depN
  rw [this]; exact ⟨rfl, rfl⟩
theorem Trn.up {K : Int} {us : List (Int × Int)} {Kn : Nat} (t : Trn K us Kn) {v : Nat} (hv : v < Kn) (h : topN us v ≠ v) : parN K us v < Kn ∧ tieNB us v (parN K us v) = true ∧ topN us (parN K us v) = topN us v ∧ depN K us v = depN K us (parN K us v) + 1 ∧ rtP K us v = v :: rtP K us (parN K us v) := by
  have R := t.rt hv
  have e := cons_of R.pos
  rw [R.fst] at e
  cases hd : (rtP K us v).drop 1 with
  | nil =>
    rw [hd] at e
    have := R.lst
    rw [e] at this
    exact absurd this.symm h
  | cons u r =>
    rw [hd] at e
    obtain ⟨h1, h2, h3, h4⟩ := t.step hv e
    have ep : parN K us v = u := by unfold parN; rw [e]; rfl
    rw [ep]
    refine ⟨h1, h2, h3, ?_, by rw [h4]; exact e⟩
    unfold depN
    rw [e, h4]; simp
/-- of two knots that are tied one is above the other -/
theorem Trn.tie {K : Int} {us : List (Int × Int)} {Kn : Nat} (t : Trn K us Kn) {x y : Nat} (h : tieNB us x y = true) : (parN K us y = x ∧ depN K us y = depN K us x + 1 ∧ topN us y ≠ y) ∨ (parN K us x = y ∧ depN K us x = depN K us y + 1 ∧ topN us x ≠ x) := by
  have hy : y < Kn := t.N.eK _ _ h
  have hx : x < Kn := t.N.eK _ _ (t.N.sym _ _ h)
  have Rx := t.rt hx
  have Ry := t.rt hy
  have ex := cons_of Rx.pos
  rw [Rx.fst] at ex
  have htop := tie_top t.N.ok h
  by_cases hm : y ∈ rtP K us x
  · right
    obtain ⟨i, hi, e⟩ := List.mem_iff_getElem.1 hm
    have hg : (rtP K us x).getD i 0 = y := by rw [List.getD_eq_getElem?_getD, List.getElem?_eq_getElem hi]; exact e
    have hxy : x ≠ y := fun e => by
      have G := EE.gr (okB_iff.1 t.N.ok)
      subst e; exact G.irr x h
    have hp2 : Pw (tieNB us) [x, y] := by
      have := (Pw.one (tieNB us) y).cons h (by simpa using hxy)
      exact this
    have hl : ((rtP K us x).take (i + 1)).length = i + 1 := by simp; omega
    have := t.T.only _ _ (Rx.pw.take (i + 1)) hp2 (by rw [hl]; omega) (by simp) (by rw [List.getD_eq_getElem?_getD, List.getElem?_take_of_lt (by omega), ← List.getD_eq_getElem?_getD, Rx.fst]; rfl) (by rw [last_take' (by omega) (by omega), Nat.add_sub_cancel, hg]; rfl)
    have hi1 : i = 1 := by have := congrArg List.length this; rw [hl] at this; simp at this; exact this
    subst hi1
    have hne : topN us x ≠ x := fun e => by
      have : rtP K us x = [x] := t.T.only _ _ Rx.pw (Pw.one _ x) Rx.pos (by simp) (by rw [Rx.fst]; rfl) (by rw [Rx.lst, e]; rfl)
      rw [this] at hi; simp at hi
    obtain ⟨_, _, _, h4, _⟩ := t.up hx hne
    have ep : parN K us x = y := by
      unfold parN
      rw [List.getD_eq_getElem?_getD, List.getElem?_eq_getElem hi]; exact e
    rw [ep] at h4
    exact ⟨ep, h4, hne⟩
  · left
    have hp : Pw (tieNB us) (y :: rtP K us x) := by
      have := Rx.pw
      rw [ex] at this hm ⊢
      exact this.cons (t.N.sym _ _ h) hm
    have he : rtP K us y = y :: rtP K us x := t.T.only _ _ Ry.pw hp Ry.pos (by simp) (by rw [Ry.fst]; rfl) (by rw [Ry.lst, ← htop, ← Rx.lst, lastN_cons Rx.pos])
    have hne : topN us y ≠ y := fun e => by
      have : rtP K us y = [y] := t.T.only _ _ Ry.pw (Pw.one _ y) Ry.pos (by simp) (by rw [Ry.fst]; rfl) (by rw [Ry.lst, e]; rfl)
      rw [he] at this
      have h1 := congrArg List.length this
      have h2 := Rx.pos
      rw [List.length_cons, List.length_singleton] at h1
      omega
    refine ⟨?_, ?_, hne⟩
    · unfold parN; rw [he, ex]; rfl
    · unfold depN; rw [he]; have := Rx.pos; simp; omega

end Go.Proofs.YtiaeffpjcinilaaDoor
