/- Mathematics of pairs: ties of which no two have a knot in common. -/
import Derived.Test.YtljnjpjnadlmhaaPartMathT
import Derived.Test.YtljnjpjnadlmhaaMathB
namespace Go.Proofs.Ytljnjpjnadlmhaa
set_option linter.unusedVariables false

def touchB (us : List (Int × Int)) (k : Nat) : Bool := us.any fun t => decide (t.1 = (k : Int)) || decide (t.2 = (k : Int))
theorem touch_iff {us : List (Int × Int)} {k : Nat} : touchB us k = true ↔ ∃ t, t ∈ us ∧ (t.1 = (k : Int) ∨ t.2 = (k : Int)) := by
  simp [touchB]
theorem touch_nil (k : Nat) : touchB [] k = false := rfl
def loneAt (us : List (Int × Int)) (i : Nat) : Bool := !touchB (us.take i) (tA us i).toNat && !touchB (us.take i) (tB us i).toNat
def loneB (us : List (Int × Int)) : Bool := (List.range us.length).all (loneAt us)
theorem loneB_iff {us : List (Int × Int)} : loneB us = true ↔ ∀ i, i < us.length → loneAt us i = true := by simp [loneB]
theorem lone_bad {us : List (Int × Int)} {i : Nat} (hi : i < us.length) (h : loneAt us i = false) : loneB us = false := by
  rw [← Bool.not_eq_true, loneB_iff]; intro hh; have := hh i hi; rw [h] at this; cases this
theorem touch_snoc {us : List (Int × Int)} {i : Nat} (hi : i < us.length) (h : TieOk 8 (tA us i) (tB us i)) : touchB (us.take (i + 1)) = mark (mark (touchB (us.take i)) (tA us i).toNat) (tB us i).toNat := by
  funext j
  obtain ⟨h0, h1, h2⟩ := h
  rw [List.take_succ_eq_append_getElem hi]
  have e1 := tA_get us i hi
  have e2 := tB_get us i hi
  rw [Bool.eq_iff_iff]
  unfold mark
  by_cases c2 : j = (tB us i).toNat
  · rw [if_pos c2, touch_iff]
    refine ⟨fun _ => rfl, fun _ => ⟨us[i], List.mem_append.2 (Or.inr (List.mem_singleton.2 rfl)), Or.inr ?_⟩⟩
    rw [← e2]; omega
  · rw [if_neg c2]
    by_cases c1 : j = (tA us i).toNat
    · rw [if_pos c1, touch_iff]
      refine ⟨fun _ => rfl, fun _ => ⟨us[i], List.mem_append.2 (Or.inr (List.mem_singleton.2 rfl)), Or.inl ?_⟩⟩
      rw [← e1]; omega
    · rw [if_neg c1, touch_iff, touch_iff]
      constructor
      · rintro ⟨t, ht, h⟩
        rw [List.mem_append] at ht
        rcases ht with ht | ht
        · exact ⟨t, ht, h⟩
        · exfalso
          simp only [List.mem_singleton] at ht
          subst ht
          rw [← e1, ← e2] at h
          omega
      · rintro ⟨t, ht, h⟩
        exact ⟨t, by rw [List.mem_append]; exact Or.inl ht, h⟩
theorem mark_id {M : Nat → Bool} {y : Nat} (h : M y = true) : mark M y = M := by
  funext j; unfold mark; split
  · rename_i e; rw [e, h]
  · rfl
theorem unm_falls {M : Nat → Bool} {y : Nat} (h : y < 8) : unm M 8 ≤ unm (mark M y) 8 + 1 ∧ (unm M 8 = unm (mark M y) 8 + 1 ↔ M y = false) := by
  cases hM : M y
  · have := unm_mark M hM 8 h
    exact ⟨by omega, ⟨fun _ => rfl, fun _ => by omega⟩⟩
  · rw [mark_id hM]
    exact ⟨by omega, ⟨fun e => by omega, fun e => by cases e⟩⟩
theorem cover {us : List (Int × Int)} (h : ∀ i, i < us.length → TieOk 8 (tA us i) (tB us i)) : ∀ i, i ≤ us.length → 8 ≤ unm (touchB (us.take i)) 8 + 2 * i ∧ (unm (touchB (us.take i)) 8 + 2 * i = 8 ↔ ∀ j, j < i → loneAt us j = true) := by
  intro i
  induction i with
  | zero =>
    intro _
    have e : unm (touchB (us.take 0)) 8 = 8 := by
      have : touchB (us.take 0) = fun _ => false := by funext k; rw [List.take_zero]; rfl
      rw [this]; rfl
    rw [e]
    exact ⟨by omega, ⟨fun _ j hj => by omega, fun _ => by omega⟩⟩
  | succ i ih =>
    intro hi
    obtain ⟨h1, h2⟩ := ih (by omega)
    have ht := h i (by omega)
    obtain ⟨t0, t1, t2⟩ := ht
    have ht' : TieOk 8 (tA us i) (tB us i) := ⟨t0, t1, t2⟩
    rw [touch_snoc (by omega) ht']
    obtain ⟨a, ha⟩ : ∃ a, a = (tA us i).toNat := ⟨_, rfl⟩
    obtain ⟨b, hb⟩ : ∃ b, b = (tB us i).toNat := ⟨_, rfl⟩
    obtain ⟨M, hM⟩ : ∃ M, M = touchB (us.take i) := ⟨_, rfl⟩
    have hl : loneAt us i = (!M a && !M b) := by rw [ha, hb, hM]; rfl
    rw [← ha, ← hb, ← hM]
    rw [← hM] at h1 h2
    have hne : b ≠ a := by omega
    obtain ⟨f1, f2⟩ := unm_falls (M := M) (y := a) (by omega)
    obtain ⟨g1, g2⟩ := unm_falls (M := mark M a) (y := b) (by omega)
    have hmb : mark M a b = M b := by unfold mark; rw [if_neg hne]
    rw [hmb] at g2
    refine ⟨by omega, ⟨fun e j hj => ?_, fun hall => ?_⟩⟩
    · have e0 : unm M 8 + 2 * i = 8 := by omega
      have ea := f2.1 (by omega)
      have eb := g2.1 (by omega)
      by_cases hji : j = i
      · subst hji; rw [hl, ea, eb]; rfl
      · exact h2.1 e0 j (by omega)
    · have e0 := h2.2 (fun j hj => hall j (by omega))
      have el := hall i (by omega)
      rw [hl, Bool.and_eq_true, Bool.not_eq_true', Bool.not_eq_true'] at el
      have ea := f2.2 el.1
      have eb := g2.2 el.2
      omega
/-- ties of a net, in order, of which no two have a knot in common -/
def pairB (K : Int) (ts us : List (Int × Int)) : Bool := okB K ts && okB K us && us.all (fun t => tiedB ts t.1 t.2) && loneB us
theorem pair_eq {K : Int} {ts us : List (Int × Int)} (hok : okB K ts = true) (hus : okB K us = true) (hsub : ∀ t, t ∈ us → t ∈ ts) : pairB K ts us = decide (8 - unm (touchB us) 8 = 2 * us.length) := by
  have hn := okB_iff.1 hus
  have hall := sub_iff.2 hsub
  have hc := cover (us := us) (fun i hi => ⟨(hn.2.2 i hi).1.1, (hn.2.2 i hi).1.2.1, by have := (hn.2.2 i hi).1.2.2; have := hn.2.1; omega⟩) us.length (Nat.le_refl _)
  rw [List.take_length] at hc
  have hle := unm_le (touchB us) 8
  rw [pairB, hok, hus, hall, Bool.eq_iff_iff]
  simp only [Bool.true_and, decide_eq_true_eq]
  rw [loneB_iff, ← hc.2]
  omega
/-- no two have a knot in common, said of two -/
def freeOf (s t : Int × Int) : Prop := s.1 ≠ t.1 ∧ s.1 ≠ t.2 ∧ s.2 ≠ t.1 ∧ s.2 ≠ t.2
theorem lone_pw {us : List (Int × Int)} (h : ∀ i, i < us.length → TieOk 8 (tA us i) (tB us i)) : loneB us = true ↔ us.Pairwise freeOf := by
  rw [loneB_iff, List.pairwise_iff_getElem]
  have key : ∀ j, (hj : j < us.length) → (loneAt us j = true ↔ ∀ i, (hi : i < us.length) → i < j → freeOf us[i] us[j]) := by
    intro j hj
    obtain ⟨t0, t1, t2⟩ := h j hj
    have e1 := tA_get us j hj
    have e2 := tB_get us j hj
    unfold loneAt
    rw [Bool.and_eq_true, Bool.not_eq_true', Bool.not_eq_true', ← Bool.not_eq_true, ← Bool.not_eq_true, touch_iff, touch_iff]
    constructor
    · rintro ⟨q1, q2⟩ i hi hij
      have hm : us[i] ∈ us.take j := by rw [List.mem_take_iff_getElem]; exact ⟨i, by omega, rfl⟩
      refine ⟨fun e => q1 ⟨_, hm, Or.inl ?_⟩, fun e => q2 ⟨_, hm, Or.inl ?_⟩, fun e => q1 ⟨_, hm, Or.inr ?_⟩, fun e => q2 ⟨_, hm, Or.inr ?_⟩⟩
      · rw [e, ← e1]; omega
      · rw [e, ← e2]; omega
      · rw [e, ← e1]; omega
      · rw [e, ← e2]; omega
    · intro q
      constructor
      · rintro ⟨t, ht, e⟩
        rw [List.mem_take_iff_getElem] at ht
        obtain ⟨i, hi, rfl⟩ := ht
        obtain ⟨p1, p2, p3, p4⟩ := q i (by omega) (by omega)
        rcases e with e | e
        · exact p1 (by rw [e, ← e1]; omega)
        · exact p3 (by rw [e, ← e1]; omega)
      · rintro ⟨t, ht, e⟩
        rw [List.mem_take_iff_getElem] at ht
        obtain ⟨i, hi, rfl⟩ := ht
        obtain ⟨p1, p2, p3, p4⟩ := q i (by omega) (by omega)
        rcases e with e | e
        · exact p2 (by rw [e, ← e2]; omega)
        · exact p4 (by rw [e, ← e2]; omega)
  constructor
  · intro hh i j hi hj hij
    exact (key j hj).1 (hh j hj) i hi hij
  · intro hh j hj
    exact (key j hj).2 (fun i hi hij => hh i j hi hj hij)

end Go.Proofs.Ytljnjpjnadlmhaa
