/- Mathematics of sides: that there are sides at all, and that in one part there are no others. -/
import Derived.Test.YtiaeffpjcinilaaDoorPartWSideT
import Derived.Test.YtiaeffpjcinilaaDoorPartMathX
namespace Go.Proofs.YtiaeffpjcinilaaDoor
open Go.RowKit
set_option linter.unusedVariables false

/-- knots of two kinds, and no tie between two of one kind -/
def Two (ts : List (Int × Int)) (c : Nat → Bool) : Prop := ∀ x y : Nat, tieNB ts x y = true → c x ≠ c y
theorem Two.less {ts us : List (Int × Int)} {c : Nat → Bool} (h : Two ts c) (hs : ∀ x y : Nat, tieNB us x y = true → tieNB ts x y = true) : Two us c := fun x y e => h x y (hs x y e)
theorem Trn.two {us : List (Int × Int)} (t : Trn 8 us 8) {c : Nat → Bool} (h : Two us c) : ∀ (n v : Nat), v < 8 → depN 8 us v = n → (c v == c (topN us v)) = decide (n % 2 = 0) := by
  intro n
  induction n with
  | zero =>
    intro v hv hd
    by_cases e : topN us v = v
    · rw [e]; simp
    · have := (t.up hv e).2.2.2.1
      omega
  | succ n ih =>
    intro v hv hd
    have hne : topN us v ≠ v := fun e => by
      have := (t.root hv e).2
      omega
    obtain ⟨h1, h2, h3, h4, _⟩ := t.up hv hne
    have hi := ih (parN 8 us v) h1 (by omega)
    rw [h3] at hi
    have hc := h v (parN 8 us v) h2
    generalize c v = p at *
    generalize c (parN 8 us v) = q at *
    generalize c (topN us v) = r at *
    rcases Nat.mod_two_eq_zero_or_one n with e | e
    · rw [e] at hi
      rw [show (n + 1) % 2 = 1 by omega]
      cases p <;> cases q <;> cases r <;> simp_all
    · rw [e] at hi
      rw [show (n + 1) % 2 = 0 by omega]
      cases p <;> cases q <;> cases r <;> simp_all
theorem Trn.two' {us : List (Int × Int)} (t : Trn 8 us 8) {c : Nat → Bool} (h : Two us c) {v : Nat} (hv : v < 8) : (c v == c (topN us v)) = decide (sdN us v = 0) := t.two h _ v hv rfl
theorem tree_in {K : Int} {ts : List (Int × Int)} (h : okB K ts = true) {x y : Nat} (e : tieNB (treeTs K ts) x y = true) : tieNB ts x y = true := by
  rw [tieNB_mem] at e ⊢
  exact tree_mem h e
theorem sd_two (us : List (Int × Int)) (v : Nat) : sdN us v = 0 ∨ sdN us v = 1 := by
  have : sdN us v < 2 := Nat.mod_lt _ (by omega)
  omega
theorem Two.sides {K : Int} {ts : List (Int × Int)} (h : okB K ts = true) {c : Nat → Bool} (hc : Two ts c) {x y : Nat} (e : tieNB ts x y = true) (hx : x < K.toNat) (hy : y < K.toNat) : sdN (treeTs K ts) x ≠ sdN (treeTs K ts) y := by
  have h8 := (okB_iff.1 h).2.1
  have T := (tree_trn h).eight
  have hu : Two (treeTs K ts) c := hc.less (fun x y e => tree_in h e)
  have hxt := T.two' hu (v := x) (by omega)
  have hyt := T.two' hu (v := y) (by omega)
  have htop : topN (treeTs K ts) x = topN (treeTs K ts) y := by rw [tree_top h hx, tree_top h hy]; exact tie_top h e
  rw [htop] at hxt
  have hne := hc x y e
  intro es
  rw [es] at hxt
  have := hxt.trans hyt.symm
  generalize c (topN (treeTs K ts) y) = r at *
  generalize c x = p at *
  generalize c y = q at *
  cases p <;> cases q <;> cases r <;> simp_all
theorem Two.sideV {K : Int} {ts : List (Int × Int)} (h : okB K ts = true) {c : Nat → Bool} (hc : Two ts c) : sideV K ts = true := by
  unfold Go.Proofs.YtiaeffpjcinilaaDoor.sideV oddS
  rw [h]
  have : oddT ts (sd8 K ts) = none := by
    unfold oddT
    rw [List.find?_eq_none]
    intro t ht
    obtain ⟨x, y, hxy, hy8, e, _, hh⟩ := tie_form h ht
    have hyK : y < K.toNat := by have := ((ok_parts h).2.2.1 t ht).2.2; rw [e] at this; simp at this; omega
    rw [hasB_ok h] at hh
    have hne := hc.sides h hh (by omega) hyK
    subst e
    show ¬ ((xi (sd8 K ts) x == xi (sd8 K ts) y) = true)
    rw [xi_sd8 (by omega), xi_sd8 (by omega)]
    simp; omega
  rw [this]; rfl
/-- sides that are such are of two kinds -/
theorem two_of {K : Int} {ts : List (Int × Int)} {xs : List Int} (h : sideB K ts xs = true) : Two ts (fun k => xi xs k == 1) ∧ ∀ k, k < K.toNat → xi xs k = 0 ∨ xi xs k = 1 := by
  unfold sideB at h
  simp only [Bool.and_eq_true, Bool.not_eq_true', decide_eq_true_eq] at h
  obtain ⟨⟨⟨hok, hl⟩, h01⟩, ho⟩ := h
  have hv : ∀ k, k < K.toNat → xi xs k = 0 ∨ xi xs k = 1 := by
    intro k hk
    unfold in01 at h01
    rw [List.all_eq_true] at h01
    have hkl : k < xs.length := by omega
    have := h01 (xi xs k) (by
      have e : xi xs k = xs[k] := by unfold xi; rw [List.getD_eq_getElem?_getD, List.getElem?_eq_getElem hkl]; rfl
      rw [e]; exact List.getElem_mem hkl)
    unfold noSide at this
    simp only [Bool.not_eq_true', Bool.and_eq_false_iff, bne_eq_false_iff_eq] at this
    exact this
  refine ⟨fun x y e hxy => ?_, hv⟩
  have hno : oddT ts xs = none := by
    cases hq : oddT ts xs with
    | none => rfl
    | some t => rw [hq] at ho; cases ho
  unfold oddT at hno
  rw [List.find?_eq_none] at hno
  have hm := (tieNB_mem ts x y).1 e
  have hs := hno _ hm
  obtain ⟨x', y', hlt, hy8, he, _, _⟩ := tie_form hok hm
  have hyK : y' < K.toNat := by have := ((ok_parts hok).2.2.1 _ hm).2.2; rw [he] at this; simp at this; omega
  rw [he] at hs
  have hs' : ¬ (xi xs x' == xi xs y') = true := hs
  have hp : (x' = x ∧ y' = y) ∨ (x' = y ∧ y' = x) := by
    unfold tieOf at he
    simp only [Prod.mk.injEq] at he
    omega
  have hxy' : (xi xs x == 1) = (xi xs y == 1) := hxy
  have h1 := hv x' (by omega)
  have h2 := hv y' hyK
  rcases hp with ⟨rfl, rfl⟩ | ⟨rfl, rfl⟩
  · rcases h1 with e1 | e1 <;> rcases h2 with e2 | e2 <;> rw [e1, e2] at hs' hxy' <;> simp at hs' hxy'
  · rcases h1 with e1 | e1 <;> rcases h2 with e2 | e2 <;> rw [e1, e2] at hs' hxy' <;> simp at hs' hxy'
theorem side_sides {K : Int} {ts : List (Int × Int)} (h : sideV K ts = true) : okB K ts = true ∧ sideB K ts ((sdL K ts).map fun (x : Nat) => (x : Int)) = true := by
  have hok : okB K ts = true := by unfold sideV at h; rw [Bool.and_eq_true] at h; exact h.1
  exact ⟨hok, (side_sdL hok).trans h⟩
/-- sides stay such with less ties -/
theorem side_less {K : Int} {ts us : List (Int × Int)} {xs : List Int} (h : sideB K ts xs = true) (hu : okB K us = true) (hs : ∀ t, t ∈ us → t ∈ ts) : sideB K us xs = true := by
  unfold sideB at h ⊢
  simp only [Bool.and_eq_true, Bool.not_eq_true', decide_eq_true_eq] at h ⊢
  obtain ⟨⟨⟨hok, hl⟩, h01⟩, ho⟩ := h
  refine ⟨⟨⟨hu, hl⟩, h01⟩, ?_⟩
  have hno : oddT ts xs = none := by
    cases hq : oddT ts xs with
    | none => rfl
    | some t => rw [hq] at ho; cases ho
  have : oddT us xs = none := by
    unfold oddT at hno ⊢
    rw [List.find?_eq_none] at hno ⊢
    exact fun t ht => hno t (hs t ht)
  rw [this]; rfl
theorem side_v {K : Int} {ts : List (Int × Int)} {xs : List Int} (h : sideB K ts xs = true) : sideV K ts = true := by
  have hok : okB K ts = true := by
    unfold sideB at h
    simp only [Bool.and_eq_true] at h
    exact h.1.1.1
  exact (two_of h).1.sideV hok

end Go.Proofs.YtiaeffpjcinilaaDoor
