/- Plain mathematics of trees: the way between two knots of one part goes up, and down again. No program stands here. -/
import Derived.Test.YtiaeffpjcinilaaDoorMathZ
namespace Go.Proofs.YtiaeffpjcinilaaDoor
set_option linter.unusedVariables false

theorem getD_take {q : List Nat} {i j : Nat} (h : j < i) : (q.take i).getD j 0 = q.getD j 0 := by
  rw [List.getD_eq_getElem?_getD, List.getD_eq_getElem?_getD, List.getElem?_take_of_lt h]
theorem getD_app_lt {p q : List Nat} {j : Nat} (h : j < p.length) : (p ++ q).getD j 0 = p.getD j 0 := by
  rw [List.getD_eq_getElem?_getD, List.getD_eq_getElem?_getD, List.getElem?_append_left h]
theorem getD_app_ge {p q : List Nat} {j : Nat} (h : p.length ≤ j) : (p ++ q).getD j 0 = q.getD (j - p.length) 0 := by
  rw [List.getD_eq_getElem?_getD, List.getD_eq_getElem?_getD, List.getElem?_append_right h]
theorem getD_rev {q : List Nat} {j : Nat} (h : j < q.length) : q.reverse.getD j 0 = q.getD (q.length - 1 - j) 0 := by
  rw [List.getD_eq_getElem?_getD, List.getD_eq_getElem?_getD, List.getElem?_reverse h]
theorem mem_getD {q : List Nat} {j : Nat} (h : j < q.length) : q.getD j 0 ∈ q := by
  rw [List.getD_eq_getElem?_getD, List.getElem?_eq_getElem h]; exact List.getElem_mem h
/-- up one way, and down the other one -/
def upDown (q r : List Nat) (i m : Nat) : List Nat := q.take (i + 1) ++ (r.take m).reverse
theorem upDown_len {q r : List Nat} {i m : Nat} (hi : i < q.length) (hm : m < r.length) : (upDown q r i m).length = i + 1 + m := by
  unfold upDown; simp; omega
theorem upDown_lo {q r : List Nat} {i m j : Nat} (hi : i < q.length) (h : j ≤ i) : (upDown q r i m).getD j 0 = q.getD j 0 := by
  unfold upDown
  rw [getD_app_lt (by simp; omega), getD_take (by omega)]
theorem upDown_hi {q r : List Nat} {i m j : Nat} (hi : i < q.length) (hm : m < r.length) (h : i < j) (hj : j < i + 1 + m) : (upDown q r i m).getD j 0 = r.getD (m - (j - i)) 0 := by
  unfold upDown
  have hl : (q.take (i + 1)).length = i + 1 := by simp; omega
  have hl2 : (r.take m).length = m := by simp; omega
  rw [getD_app_ge (by omega), hl, getD_rev (by omega), hl2, getD_take (by omega)]
  congr 1; omega
theorem upDown_pw {E : Nat → Nat → Bool} (hs : ∀ x y, E x y = true → E y x = true) {q r : List Nat} (hq : Pw E q) (hr : Pw E r) {i m : Nat} (hi : i < q.length) (hm : m < r.length) (he : q.getD i 0 = r.getD m 0) (hn : ∀ j, j < i → q.getD j 0 ∉ r) : Pw E (upDown q r i m) := by
  have hl := upDown_len (q := q) (r := r) hi hm
  refine ⟨fun j hj => ?_, fun j k hjk hk => ?_⟩
  · rw [hl] at hj
    by_cases h1 : j + 1 ≤ i
    · rw [upDown_lo hi (by omega), upDown_lo hi h1]; exact hq.tie j (by omega)
    · by_cases h2 : j = i
      · subst h2
        rw [upDown_lo hi (Nat.le_refl _), upDown_hi hi hm (by omega) (by omega), he]
        have := hs _ _ (hr.tie (m - 1) (by omega))
        rw [show m - 1 + 1 = m by omega] at this
        rw [show m - (j + 1 - j) = m - 1 by omega]; exact this
      · rw [upDown_hi hi hm (by omega) (by omega), upDown_hi hi hm (by omega) (by omega)]
        have := hs _ _ (hr.tie (m - (j + 1 - i)) (by omega))
        rw [show m - (j + 1 - i) + 1 = m - (j - i) by omega] at this
        exact this
  · rw [hl] at hk
    by_cases h1 : k ≤ i
    · rw [upDown_lo hi (by omega), upDown_lo hi h1]; exact hq.new j k hjk (by omega)
    · rw [upDown_hi hi hm (by omega) hk]
      by_cases h2 : j < i
      · rw [upDown_lo hi (by omega)]
        intro e
        exact hn j h2 (by rw [e]; exact mem_getD (by omega))
      · by_cases h3 : j = i
        · subst h3
          rw [upDown_lo hi (Nat.le_refl _), he]
          exact fun e => hr.new (m - (k - j)) m (by omega) hm e.symm
        · rw [upDown_hi hi hm (by omega) (by omega)]
          exact fun e => hr.new (m - (k - i)) (m - (j - i)) (by omega) (by omega) e.symm
theorem upDown_last {q r : List Nat} {i m : Nat} (hi : i < q.length) (hm : m < r.length) (he : q.getD i 0 = r.getD m 0) : lastN (upDown q r i m) = r.getD 0 0 := by
  have hl := upDown_len (q := q) (r := r) hi hm
  rw [lastN_at (by omega), hl]
  by_cases h : m = 0
  · subst h
    rw [upDown_lo hi (by omega)]
    rw [← he]; rfl
  · rw [upDown_hi hi hm (by omega) (by omega)]
    congr 1; omega
/-- between two knots of one part of a tree -/
structure Wy (us : List (Int × Int)) (a b : Nat) (p : List Nat) : Prop where
  pw : Pw (tieNB us) p
  fst : p.getD 0 0 = a
  lst : lastN p = b
  pos : 0 < p.length
  le : p.length ≤ 8
theorem pw_le {K : Int} {us : List (Int × Int)} {Kn : Nat} (t : Trn K us Kn) {p : List Nat} (h : Pw (tieNB us) p) {a : Nat} (ha : a < Kn) (hf : p.getD 0 0 = a) : p.length ≤ Kn := by
  refine pigeon Kn p.length (fun i => p.getD i 0) (fun i hi => ?_) h.new
  cases i with
  | zero => show p.getD 0 0 < Kn; omega
  | succ i => exact t.N.eK _ _ (h.tie i hi)
theorem Trn.find {K : Int} {us : List (Int × Int)} {Kn : Nat} (t : Trn K us Kn) {a b : Nat} (ha : a < Kn) (hb : b < Kn) (h : topN us a = topN us b) (h8 : Kn ≤ 8) : Wy us a b (findB K us (a : Int) (b : Int)) := by
  have hK := t.N.K
  have hf : foundB K us (a : Int) (b : Int) = true := by
    cases hh : foundB K us (a : Int) (b : Int)
    · have := found_no_reach hh (by rw [t.N.ok]; simp [knotB]; omega) b (by omega) rfl
      rw [Int.toNat_natCast] at this
      have e := topN_reach us a b
      rw [this] at e
      simp [h] at e
    · rfl
  obtain ⟨h1, h2, h3, h4, _, _⟩ := ways_way (find_mem hf)
  have hl := pw_le t h1 ha (by omega)
  exact ⟨h1, by omega, by omega, h4, by omega⟩
theorem Wy.only {us : List (Int × Int)} (T : Tre (tieNB us)) {a b : Nat} {p q : List Nat} (h : Wy us a b p) (k : Wy us a b q) : p = q :=
  T.only p q h.pw k.pw h.pos k.pos (h.fst.trans k.fst.symm) (h.lst.trans k.lst.symm)
theorem Trn.upDown {us : List (Int × Int)} (t : Trn 8 us 8) {a b i m : Nat} (ha : a < 8) (hb : b < 8) (h : topN us a = topN us b) (hi : i < (rtP 8 us a).length) (hm : m < (rtP 8 us b).length) (he : (rtP 8 us a).getD i 0 = (rtP 8 us b).getD m 0) (hn : ∀ j, j < i → (rtP 8 us a).getD j 0 ∉ rtP 8 us b) : Go.Proofs.YtiaeffpjcinilaaDoor.upDown (rtP 8 us a) (rtP 8 us b) i m = findB 8 us (a : Int) (b : Int) ∧ i + 1 + m ≤ 8 := by
  have Ra := t.rt ha
  have Rb := t.rt hb
  have hp := upDown_pw (fun x y => t.N.sym x y) Ra.pw Rb.pw hi hm he hn
  have hl := upDown_len (q := rtP 8 us a) (r := rtP 8 us b) hi hm
  have hf : (Go.Proofs.YtiaeffpjcinilaaDoor.upDown (rtP 8 us a) (rtP 8 us b) i m).getD 0 0 = a := by rw [upDown_lo hi (by omega)]; exact Ra.fst
  have h8 := pw_le t hp ha hf
  have W : Wy us a b (Go.Proofs.YtiaeffpjcinilaaDoor.upDown (rtP 8 us a) (rtP 8 us b) i m) := ⟨hp, hf, by rw [upDown_last hi hm he, Rb.fst], by omega, h8⟩
  exact ⟨W.only t.T (t.find ha hb h (by omega)), by omega⟩
/-- who is not on the other way has one above -/
theorem Trn.more {us : List (Int × Int)} (t : Trn 8 us 8) {a b i : Nat} (ha : a < 8) (hb : b < 8) (h : topN us a = topN us b) (hi : i < (rtP 8 us a).length) (hn : (rtP 8 us a).getD i 0 ∉ rtP 8 us b) : i + 1 < (rtP 8 us a).length := by
  have Ra := t.rt ha
  have Rb := t.rt hb
  by_cases e : i + 1 = (rtP 8 us a).length
  · exfalso
    apply hn
    have h1 : (rtP 8 us a).getD i 0 = topN us a := by
      have := Ra.lst
      rw [lastN_at Ra.pos, ← e] at this; exact this
    rw [h1, h, ← Rb.lst, lastN_at Rb.pos]
    exact mem_getD (by have := Rb.pos; omega)
  · omega
/-- the way in a tree does not hang on how many knots there are -/
theorem Trn.find8 {K : Int} {us : List (Int × Int)} {Kn : Nat} (t : Trn K us Kn) {a b : Nat} (ha : a < Kn) (hb : b < Kn) (h : topN us a = topN us b) (h8 : Kn ≤ 8) : findB 8 us (a : Int) (b : Int) = findB K us (a : Int) (b : Int) :=
  (t.eight.find (by omega) (by omega) h (Nat.le_refl _)).only t.T (t.find ha hb h h8)

end Go.Proofs.YtiaeffpjcinilaaDoor
