/- Plain mathematics of trees, of eight knots: who hangs below whom. No program stands here. -/
import Derived.Test.YtiaeffpjcinilaaDoorMathY
namespace Go.Proofs.YtiaeffpjcinilaaDoor
set_option linter.unusedVariables false

theorem ok_8 {K : Int} {us : List (Int × Int)} (h : okB K us = true) : okB 8 us = true := by
  obtain ⟨h0, h8, hg⟩ := okB_iff.1 h
  refine okB_iff.2 ⟨by omega, by omega, fun i hi => ?_⟩
  obtain ⟨⟨a, b, c⟩, d⟩ := hg i hi
  exact ⟨⟨a, b, by omega⟩, d⟩
theorem Trn.eight {K : Int} {us : List (Int × Int)} {Kn : Nat} (t : Trn K us Kn) : Trn 8 us 8 := ⟨⟨ok_8 t.N.ok, rfl⟩, t.T⟩
theorem Trn.at {K : Int} {us : List (Int × Int)} {Kn : Nat} (t : Trn K us Kn) {v : Nat} (hv : v < Kn) : v ∈ rtP K us v := by
  have R := t.rt hv
  have := cons_of R.pos
  rw [R.fst] at this
  rw [this]; simp
/-- c hangs from k -/
def Kid (K : Int) (us : List (Int × Int)) (Kn k c : Nat) : Prop := c < Kn ∧ topN us c ≠ c ∧ parN K us c = k
theorem Trn.kid {K : Int} {us : List (Int × Int)} {Kn : Nat} (t : Trn K us Kn) {k c : Nat} (hk : k < Kn) : (tieNB us k c = true ∧ c ≠ parN K us k) ↔ Kid K us Kn k c := by
  constructor
  · rintro ⟨h, hne⟩
    rcases t.tie h with ⟨h1, _, h3⟩ | ⟨h1, _, _⟩
    · exact ⟨t.N.eK _ _ h, h3, h1⟩
    · exact absurd h1.symm hne
  · rintro ⟨h1, h2, h3⟩
    obtain ⟨_, q2, _, q4, _⟩ := t.up h1 h2
    rw [h3] at q2 q4
    refine ⟨t.N.sym _ _ q2, fun e => ?_⟩
    by_cases hr : topN us k = k
    · rw [(t.root hk hr).1] at e
      subst e; exact h2 hr
    · obtain ⟨_, _, _, r4, _⟩ := t.up hk hr
      rw [← e] at r4; omega
/-- who hangs below a knot hangs from it, or below one that does -/
theorem Trn.below {K : Int} {us : List (Int × Int)} {Kn : Nat} (t : Trn K us Kn) {k : Nat} : ∀ (n v : Nat), depN K us v ≤ n → v < Kn → k ∈ rtP K us v → v ≠ k → ∃ c, Kid K us Kn k c ∧ (v = c ∨ (c ∈ rtP K us v ∧ v ≠ c)) := by
  intro n
  induction n with
  | zero =>
    intro v hd hv hm hne
    exfalso
    by_cases hr : topN us v = v
    · have R := t.rt hv
      have : rtP K us v = [v] := t.T.only _ _ R.pw (Pw.one _ v) R.pos (by simp) (by rw [R.fst]; rfl) (by rw [R.lst, hr]; rfl)
      rw [this] at hm; simp at hm; exact hne hm.symm
    · have := (t.up hv hr).2.2.2.1; omega
  | succ n ih =>
    intro v hd hv hm hne
    by_cases hr : topN us v = v
    · exfalso
      have R := t.rt hv
      have : rtP K us v = [v] := t.T.only _ _ R.pw (Pw.one _ v) R.pos (by simp) (by rw [R.fst]; rfl) (by rw [R.lst, hr]; rfl)
      rw [this] at hm; simp at hm; exact hne hm.symm
    · obtain ⟨h1, h2, h3, h4, h5⟩ := t.up hv hr
      rw [h5] at hm
      have hm' : k ∈ rtP K us (parN K us v) := by
        rcases List.mem_cons.1 hm with e | e
        · exact absurd e.symm hne
        · exact e
      by_cases hp : parN K us v = k
      · exact ⟨v, ⟨hv, hr, hp⟩, Or.inl rfl⟩
      · obtain ⟨c, hc, hor⟩ := ih (parN K us v) (by omega) h1 hm' hp
        refine ⟨c, hc, ?_⟩
        by_cases hvc : v = c
        · exact Or.inl hvc
        · refine Or.inr ⟨?_, hvc⟩
          rw [h5]
          refine List.mem_cons_of_mem _ ?_
          rcases hor with e | e
          · rw [← e]; exact t.at h1
          · exact e.1
/-- the knots above, as far as they are told: all that hang from k by numbers below c0, and all below these -/
def Hung (K : Int) (us : List (Int × Int)) (Kn : Nat) (f : Nat → Nat) (k c0 : Nat) : Prop := ∀ c, c < c0 → Kid K us Kn k c → f c = parN K us c ∧ ∀ v, v < Kn → c ∈ rtP K us v → v ≠ c → f v = parN K us v
theorem Hung.all {K : Int} {us : List (Int × Int)} {Kn : Nat} (t : Trn K us Kn) {f : Nat → Nat} {k : Nat} (h : Hung K us Kn f k Kn) {v : Nat} (hv : v < Kn) (hm : k ∈ rtP K us v) (hne : v ≠ k) : f v = parN K us v := by
  obtain ⟨c, hc, e | ⟨e1, e2⟩⟩ := t.below _ v (Nat.le_refl _) hv hm hne
  · subst e; exact (h v hc.1 hc).1
  · exact (h c hc.1 hc).2 v hv e1 e2
/-- what was told stays so -/
theorem Hung.keep {K : Int} {us : List (Int × Int)} {Kn : Nat} {f f' : Nat → Nat} {k c0 : Nat} (h : Hung K us Kn f k c0) (hf : ∀ v, f' v = f v ∨ f' v = parN K us v) : Hung K us Kn f' k c0 := by
  have st : ∀ v, f v = parN K us v → f' v = parN K us v := fun v e => by
    rcases hf v with q | q
    · rw [q]; exact e
    · exact q
  intro c hc hk
  exact ⟨st c (h c hc hk).1, fun v hv hm hne => st v ((h c hc hk).2 v hv hm hne)⟩
theorem Hung.step {K : Int} {us : List (Int × Int)} {Kn : Nat} {f : Nat → Nat} {k c0 : Nat} (h : Hung K us Kn f k c0) (hn : Kid K us Kn k c0 → f c0 = parN K us c0 ∧ ∀ v, v < Kn → c0 ∈ rtP K us v → v ≠ c0 → f v = parN K us v) : Hung K us Kn f k (c0 + 1) := by
  intro c hc hk
  by_cases e : c = c0
  · subst e; exact hn hk
  · exact h c (by omega) hk
theorem dep_lt {K : Int} {us : List (Int × Int)} {Kn : Nat} (t : Trn K us Kn) {v : Nat} (hv : v < Kn) : depN K us v < Kn := by
  have R := t.rt hv
  have : (rtP K us v).length ≤ Kn := by
    refine pigeon Kn (rtP K us v).length (fun i => (rtP K us v).getD i 0) (fun i hi => ?_) (fun i j hij hj => R.pw.new i j hij hj)
    cases i with
    | zero => show (rtP K us v).getD 0 0 < Kn; rw [R.fst]; exact hv
    | succ i => exact t.N.eK _ _ (R.pw.tie i hi)
  unfold depN
  have := R.pos
  omega

end Go.Proofs.YtiaeffpjcinilaaDoor
