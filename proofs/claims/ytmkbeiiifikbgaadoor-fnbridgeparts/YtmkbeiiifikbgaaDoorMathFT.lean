/- Plain mathematics of flows: two knots hang together without bridges just if two ways have no tie twice. No program stands here. -/
import Derived.Test.YtmkbeiiifikbgaaDoorPartWFlowW
import Derived.Test.YtmkbeiiifikbgaaDoorPartMathE
namespace Go.Proofs.YtmkbeiiifikbgaaDoor
set_option linter.unusedVariables false

/-- with a tie more: as without it, or over it one way or the other -/
theorem cn_split {E F : Nat → Nat → Prop} {x y : Nat} (h : ∀ u v, E u v → F u v ∨ (u = x ∧ v = y) ∨ (u = y ∧ v = x)) {a b : Nat} (hc : Cn E a b) : Cn F a b ∨ (Cn F a x ∧ Cn F y b) ∨ (Cn F a y ∧ Cn F x b) := by
  have step : ∀ u v, (F u v ∨ (u = x ∧ v = y) ∨ (u = y ∧ v = x)) → (Cn F a u ∨ (Cn F a x ∧ Cn F y u) ∨ (Cn F a y ∧ Cn F x u)) → (Cn F a v ∨ (Cn F a x ∧ Cn F y v) ∨ (Cn F a y ∧ Cn F x v)) := by
    intro u v e ih
    rcases e with e | ⟨rfl, rfl⟩ | ⟨rfl, rfl⟩
    · rcases ih with i | ⟨i1, i2⟩ | ⟨i1, i2⟩
      · exact Or.inl (i.fwd e)
      · exact Or.inr (Or.inl ⟨i1, i2.fwd e⟩)
      · exact Or.inr (Or.inr ⟨i1, i2.fwd e⟩)
    · rcases ih with i | ⟨i1, i2⟩ | ⟨i1, i2⟩
      · exact Or.inr (Or.inl ⟨i, .refl _⟩)
      · exact Or.inr (Or.inl ⟨i1, .refl _⟩)
      · exact Or.inl i1
    · rcases ih with i | ⟨i1, i2⟩ | ⟨i1, i2⟩
      · exact Or.inr (Or.inr ⟨i, .refl _⟩)
      · exact Or.inl i1
      · exact Or.inr (Or.inr ⟨i1, .refl _⟩)
  have back : ∀ u v, F u v → (Cn F a v ∨ (Cn F a x ∧ Cn F y v) ∨ (Cn F a y ∧ Cn F x v)) → (Cn F a u ∨ (Cn F a x ∧ Cn F y u) ∨ (Cn F a y ∧ Cn F x u)) := by
    intro u v e ih
    rcases ih with i | ⟨i1, i2⟩ | ⟨i1, i2⟩
    · exact Or.inl (i.bwd e)
    · exact Or.inr (Or.inl ⟨i1, i2.bwd e⟩)
    · exact Or.inr (Or.inr ⟨i1, i2.bwd e⟩)
  induction hc with
  | refl => exact Or.inl (.refl a)
  | fwd _ e ih => exact step _ _ (h _ _ e) ih
  | bwd _ e ih =>
    rcases h _ _ e with q | ⟨q1, q2⟩ | ⟨q1, q2⟩
    · exact back _ _ q ih
    · exact step _ _ (Or.inr (Or.inr ⟨q2, q1⟩)) ih
    · exact step _ _ (Or.inr (Or.inl ⟨q2, q1⟩)) ih
theorem cn_up {E F : Nat → Nat → Prop} (h : ∀ u v, E u v → F u v) {a b : Nat} (hc : Cn E a b) : Cn F a b := by
  induction hc with
  | refl => exact .refl a
  | fwd _ e ih => exact ih.fwd (h _ _ e)
  | bwd _ e ih => exact ih.bwd (h _ _ e)
theorem cutAll_mem {K : Int} {ts : List (Int × Int)} {i : Nat} {s : Int × Int} : s ∈ cutAll K ts i ↔ s ∈ ts ∧ s ∉ (brTs K ts).take i := by
  unfold cutAll
  rw [List.mem_filter, Bool.not_eq_true', decide_eq_false_iff_not]
/-- two knots hang together without bridges just if two ways have no tie twice -/
theorem nb_two {K : Int} {ts : List (Int × Int)} (hok : okB K ts = true) {a b : Nat} (ha : a < 8) (hb : b < 8) (hab : a ≠ b) : reachB (nbTs K ts) a b = true ↔ 2 ≤ flowV ts a b := by
  have hnb : okB K (nbTs K ts) = true := nbTs_ok hok
  have mem : ∀ s, s ∈ nbTs K ts ↔ s ∈ ts ∧ bridgeB K ts s.1 s.2 = false := fun s => by
    rw [nbTs_yes hok, List.mem_filter, Bool.not_eq_true']
  have h0 := flowV_nonneg ts (a := a) (b := b) ha hab
  have reach : ∀ {us : List (Int × Int)}, okB K us = true → (reachB us a b = true ↔ Cn (fun x y => tieNB us x y = true) a b) := fun h => by rw [cn_tie h, reach_cn]
  constructor
  · intro h
    have hc := (reach hnb).1 h
    have up : ∀ {us : List (Int × Int)}, okB K us = true → (∀ s, s ∈ nbTs K ts → s ∈ us) → reachB us a b = true := fun h1 h2 => (reach h1).2 (cn_up (fun u v e => tieNB_up h2 u v e) hc)
    have n0 : flowV ts a b ≠ 0 := fun e => by
      have := (flowV_zero hok ha hb hab).1 e
      rw [up hok (fun s hs => ((mem s).1 hs).1)] at this; cases this
    have n1 : flowV ts a b ≠ 1 := fun e => by
      obtain ⟨r, t, t1, t2⟩ := (flow_one hok ha hb hab).1 e
      obtain ⟨x, y, e1, e2, e3, e4, e5⟩ := tie_knots hok t1
      cases q : bridgeB K ts (x : Int) (y : Int) with
      | true =>
        have := up (minus_ok hok t) (fun s hs => mem_minus.2 ⟨((mem s).1 hs).1, fun q2 => by
          have := ((mem s).1 hs).2
          rw [q2, e1] at this
          rw [q] at this; cases this⟩)
        rw [t2] at this; cases this
      | false =>
        rw [bridge_minus e5, e4] at q
        have := cut_same hok e4 (by simpa using q) r
        rw [t2] at this; cases this
    omega
  · intro h
    have hr : reachB ts a b = true := by
      cases q : reachB ts a b with
      | true => rfl
      | false => have := (flowV_zero hok ha hb hab).2 q; omega
    have hm : ∀ t, t ∈ ts → reachB (minusT ts t) a b = true := fun t ht => by
      cases q : reachB (minusT ts t) a b with
      | true => rfl
      | false => have := (flow_one hok ha hb hab).2 ⟨hr, t, ht, q⟩; omega
    have all : ∀ i, i ≤ (brTs K ts).length → Cn (fun x y => tieNB (cutAll K ts i) x y = true) a b := by
      intro i
      induction i with
      | zero => intro _; rw [cutAll_zero]; exact (reach hok).1 hr
      | succ i ih =>
        intro hi
        have hci := ih (by omega)
        obtain ⟨t, ht⟩ : ∃ t, t = (brTs K ts)[i] := ⟨_, rfl⟩
        have htb : t ∈ brTs K ts := by rw [ht]; exact List.getElem_mem _
        have htt : t ∈ ts ∧ bridgeB K ts t.1 t.2 = true := by
          unfold brTs at htb
          rw [if_pos hok] at htb
          exact List.mem_filter.1 htb
        obtain ⟨x, y, e1, e2, e3, e4, e5⟩ := tie_knots hok htt.1
        have hstep : ∀ u v, tieNB (cutAll K ts i) u v = true → tieNB (cutAll K ts (i + 1)) u v = true ∨ (u = x ∧ v = y) ∨ (u = y ∧ v = x) := fun u v e => by
          have hm1 := cutAll_mem.1 ((tieNB_mem _ u v).1 e)
          by_cases q : tieOf (u : Int) (v : Int) = t
          · rw [← e4] at q
            unfold tieOf at q
            injection q with q1 q2
            exact Or.inr (by omega)
          · refine Or.inl ((tieNB_mem _ u v).2 (cutAll_mem.2 ⟨hm1.1, fun hq => ?_⟩))
            rw [List.take_succ_eq_append_getElem (by omega), List.mem_append, List.mem_singleton] at hq
            rcases hq with r | r
            · exact hm1.2 r
            · exact q (by rw [r, ht])
        have hsub : ∀ u v, tieNB (cutAll K ts (i + 1)) u v = true → tieNB (minusT ts t) u v = true := fun u v e => by
          have hm1 := cutAll_mem.1 ((tieNB_mem _ u v).1 e)
          refine (tieNB_mem _ u v).2 (mem_minus.2 ⟨hm1.1, fun q => hm1.2 ?_⟩)
          rw [q, List.take_succ_eq_append_getElem (by omega), ← ht]
          exact List.mem_append_right _ (List.mem_singleton.2 rfl)
        have hxy : ¬ Cn (fun u v => tieNB (minusT ts t) u v = true) x y := fun hc => by
          have hbr := htt.2
          rw [e1] at hbr
          have hbr2 : bridgeB K ts (x : Int) (y : Int) = true := hbr
          rw [bridge_minus e5, e4] at hbr2
          have : reachB (minusT ts t) x y = true := (reach_cn _ x y).2 ((cn_tie (minus_ok hok t) x y).1 hc)
          rw [this] at hbr2; cases hbr2
        have habm : Cn (fun u v => tieNB (minusT ts t) u v = true) a b := (reach (minus_ok hok t)).1 (hm t htt.1)
        rcases cn_split hstep hci with q | ⟨q1, q2⟩ | ⟨q1, q2⟩
        · exact q
        · exact absurd (((cn_up hsub q1).symm.trans habm).trans (cn_up hsub q2).symm) hxy
        · exact absurd (((cn_up hsub q2).trans habm.symm).trans (cn_up hsub q1)) hxy
    have := all _ (Nat.le_refl _)
    rw [cutAll_end hok] at this
    exact (reach hnb).2 this

end Go.Proofs.YtmkbeiiifikbgaaDoor
