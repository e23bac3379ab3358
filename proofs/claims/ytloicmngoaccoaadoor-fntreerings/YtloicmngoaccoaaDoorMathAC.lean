/- Plain mathematics of trees and rings: the tree of a tree; no bridge is in a ring; a tie may stand for one of the ring that it closes. No program stands here. -/
import Derived.Test.YtloicmngoaccoaaDoorMathAB
import Derived.Test.YtloicmngoaccoaaDoorMathH
import Derived.Test.YtloicmngoaccoaaDoorMathV
namespace Go.Proofs.YtloicmngoaccoaaDoor
set_option linter.unusedVariables false

theorem seg_cn {R : Nat → Nat → Prop} {p : List Nat} : ∀ (n i : Nat), i + n < p.length → (∀ j, i ≤ j → j < i + n → R (p.getD j 0) (p.getD (j + 1) 0)) → Cn R (p.getD i 0) (p.getD (i + n) 0) := by
  intro n
  induction n with
  | zero => intro i _ _; exact Cn.refl _
  | succ n ih =>
    intro i hi h
    exact (ih i (by omega) (fun j h1 h2 => h j h1 (by omega))).fwd (h (i + n) (by omega) (by omega))
/-- the two ends of a tie of a ring hang together without it -/
theorem ring_cn {R : Nat → Nat → Prop} {p : List Nat} {k : Nat} (hk : k + 1 < p.length) (h : ∀ i, i + 1 < p.length → i ≠ k → R (p.getD i 0) (p.getD (i + 1) 0)) (hc : Cn R (p.getD 0 0) (p.getD (p.length - 1) 0)) : Cn R (p.getD k 0) (p.getD (k + 1) 0) := by
  have h1 := seg_cn (R := R) (p := p) k 0 (by omega) (fun j _ hj => h j (by omega) (by omega))
  have h2 := seg_cn (R := R) (p := p) (p.length - 1 - (k + 1)) (k + 1) (by omega) (fun j hj hj2 => h j (by omega) (by omega))
  rw [Nat.zero_add] at h1
  rw [show k + 1 + (p.length - 1 - (k + 1)) = p.length - 1 by omega] at h2
  exact (h1.symm.trans hc).trans h2.symm
theorem Pw.inj {E : Nat → Nat → Bool} {q : List Nat} (h : Pw E q) {i j : Nat} (hi : i < q.length) (hj : j < q.length) (e : q.getD i 0 = q.getD j 0) : i = j := by
  rcases Nat.lt_trichotomy i j with q1 | q1 | q1
  · exact absurd e (h.new i j q1 hj)
  · exact q1
  · exact absurd e.symm (h.new j i q1 hi)
/-- all ties of a way but one -/
theorem Pw.but {E : Nat → Nat → Bool} {q : List Nat} (h : Pw E q) {k : Nat} (hk : k + 1 < q.length) : ∀ i, i + 1 < q.length → i ≠ k → But (fun a b => E a b = true) (q.getD k 0) (q.getD (k + 1) 0) (q.getD i 0) (q.getD (i + 1) 0) := by
  intro i hi hne
  refine ⟨h.tie i hi, fun ⟨e, _⟩ => hne (h.inj (by omega) (by omega) e), fun ⟨e1, e2⟩ => ?_⟩
  have q1 := h.inj (by omega) (by omega) e1
  have q2 := h.inj (by omega) (by omega) e2
  omega
theorem Pw.mono' {E E' : Nat → Nat → Bool} {q : List Nat} (h : Pw E q) (hE : ∀ x y, E x y = true → E' x y = true) : Pw E' q := ⟨fun i hi => hE _ _ (h.tie i hi), h.new⟩
theorem sub_tie {us ts : List (Int × Int)} (h : ∀ t, t ∈ us → t ∈ ts) (x y : Nat) (e : tieNB us x y = true) : tieNB ts x y = true := by
  rw [tieNB_mem] at e ⊢; exact h _ e
theorem cn_EE {K : Int} {us : List (Int × Int)} (h : okB K us = true) {x y : Nat} : Cn (Tied us us.length) x y ↔ Cn (EE us) x y := by
  constructor
  · exact cn_sym (fun x y h2 => Or.inl ((tieNB_iff (okB_iff.1 h)).2 (Or.inl h2)))
  · exact cn_sym (fun x y h2 => (tieNB_iff (okB_iff.1 h)).1 h2)
/-! ### the tree of a tree -/
theorem tree_twice {K : Int} {ts : List (Int × Int)} (h : okB K ts = true) : treeTs K (treeTs K ts) = treeTs K ts := by
  have hu := treeTs_ok h
  have h1 := (tree_parts (tree_is h).1).2.2.2.2
  have h2 := (tree_is hu).2
  obtain ⟨us, hus⟩ : ∃ us, us = treeTs K ts := ⟨_, rfl⟩
  rw [← hus] at hu h1 h2 ⊢
  rw [treeTs_yes hu] at h2 ⊢
  rw [treeTo_all us.length (Nat.le_refl _) (treeTo_full us.length (by omega)), List.take_length]
theorem tree_brs {K : Int} {ts : List (Int × Int)} (h : okB K ts = true) : brTs K (treeTs K ts) = treeTs K ts := by
  have hu := treeTs_ok h
  have h1 := (tree_parts (tree_is h).1).2.2.2.2
  have e : brTs K (treeTs K ts) = (treeTs K ts).filter (fun t => bridgeB K (treeTs K ts) t.1 t.2) := if_pos hu
  rw [e, List.filter_eq_self]
  intro t ht
  obtain ⟨x, y, _, _, e2, _, hh⟩ := tie_form hu ht
  subst e2
  exact tree_bridge h1 hh
theorem tree_rest {K : Int} {ts : List (Int × Int)} (h : okB K ts = true) : ringsB K (treeTs K ts) = [] := by
  unfold ringsB
  have : restTs K (treeTs K ts) = [] := by
    rw [restTs_yes (treeTs_ok h), tree_twice h, List.filter_eq_nil_iff]
    intro t ht
    simp [ht]
  rw [this]; rfl
theorem filter_two {α : Type} (p : α → Bool) : ∀ l : List α, (l.filter (fun t => !p t)).length + (l.filter p).length = l.length := by
  intro l
  induction l with
  | nil => rfl
  | cons a l ih =>
    cases h : p a
    · simp [h]; omega
    · simp [h]; omega
/-- the ties that are in the tree, and those that are not -/
theorem rest_len {K : Int} {ts : List (Int × Int)} (h : okB K ts = true) : (restTs K ts).length + (treeTs K ts).length = ts.length := by
  have hp : (treeTs K ts) = ts.filter (fun t => decide (t ∈ treeTs K ts)) := by
    obtain ⟨k0, k8, hs⟩ := ok_parts h
    refine srt_ext k8 _ _ (ok_parts (treeTs_ok h)).2.2 (srt_filter hs _) (fun t => ?_)
    rw [List.mem_filter, decide_eq_true_eq]
    exact ⟨fun q => ⟨tree_mem h q, q⟩, fun q => q.2⟩
  have := filter_two (fun t => decide (t ∈ treeTs K ts)) ts
  rw [restTs_yes h]
  rw [← hp] at this
  exact this
/-! ### rings -/
/-- the ring of a tie that the tree does not have -/
structure Rng (K : Int) (ts : List (Int × Int)) (x y : Nat) (q : List Nat) : Prop where
  lt : x < y
  kn : y < K.toNat
  mem : ((x : Int), (y : Int)) ∈ ts
  out : ((x : Int), (y : Int)) ∉ treeTs K ts
  pw : Pw (tieNB (treeTs K ts)) q
  fst : q.getD 0 0 = y
  lst : q.getD (q.length - 1) 0 = x
  len : 3 ≤ q.length
  le : q.length ≤ 8
theorem tieOf_lt {x y : Nat} (h : x < y) : tieOf (y : Int) (x : Int) = ((x : Int), (y : Int)) ∧ tieOf (x : Int) (y : Int) = ((x : Int), (y : Int)) := by
  unfold tieOf
  rw [Int.min_eq_right (by omega), Int.max_eq_left (by omega), Int.min_eq_left (by omega), Int.max_eq_right (by omega)]
  exact ⟨rfl, rfl⟩
theorem rng_of {K : Int} {ts : List (Int × Int)} (h : okB K ts = true) {i : Nat} (hi : i < (restTs K ts).length) : ∃ x y : Nat, (tA (restTs K ts) i, tB (restTs K ts) i) = ((x : Int), (y : Int)) ∧ Rng K ts x y (findB K (treeTs K ts) (tB (restTs K ts) i) (tA (restTs K ts) i)) := by
  obtain ⟨m1, m2⟩ := (mem_restTs h _).1 (mem_at hi)
  obtain ⟨x, y, R⟩ := rst_of h m1
  have e := R.eq
  simp only [Prod.mk.injEq] at e
  obtain ⟨e1, e2⟩ := e
  have hw := R.way
  rw [e1, e2] at m1 m2 ⊢
  have hout : tieNB (treeTs K ts) y x = false := by
    rw [← Bool.not_eq_true, tieNB_mem, (tieOf_lt R.lt).1]; exact m2
  have h1 : (findB K (treeTs K ts) (y : Int) (x : Int)).length ≠ 1 := fun e => by
    have hf := hw.fst
    have hl := hw.lst
    rw [lastN_at hw.pos, e] at hl
    have := R.lt
    rw [hf] at hl; omega
  have h2 : (findB K (treeTs K ts) (y : Int) (x : Int)).length ≠ 2 := fun e => by
    have hf := hw.fst
    have hl := hw.lst
    rw [lastN_at hw.pos, e] at hl
    have := hw.pw.tie 0 (by omega)
    rw [hf, hl, hout] at this; cases this
  have h0 := hw.pos
  refine ⟨x, y, rfl, R.lt, R.kn, m1, m2, hw.pw, hw.fst, ?_, by omega, hw.le⟩
  rw [← lastN_at hw.pos]; exact hw.lst
theorem Rng.way {K : Int} {ts : List (Int × Int)} {x y : Nat} {q : List Nat} (h : okB K ts = true) (R : Rng K ts x y q) : wayB K ts (q.map fun (x : Nat) => (x : Int)) = true := by
  have hl := R.len
  refine (R.pw.mono' (sub_tie (fun t ht => tree_mem h ht))).way h (by omega) ?_
  have := (okB_iff.1 h).1
  have := R.kn
  rw [R.fst]; unfold knotB
  rw [decide_eq_true (by omega), decide_eq_true (by omega)]; rfl
theorem Rng.close {K : Int} {ts : List (Int × Int)} {x y : Nat} {q : List Nat} (R : Rng K ts x y q) : tieNB ts y x = true := by
  rw [tieNB_mem, (tieOf_lt R.lt).1]; exact R.mem
/-- no tie of a ring is a bridge -/
theorem Rng.nb {K : Int} {ts : List (Int × Int)} {x y : Nat} {q : List Nat} (h : okB K ts = true) (R : Rng K ts x y q) {k : Nat} (hk : k + 1 < q.length) : Nb (EE ts) (q.getD k 0) (q.getD (k + 1) 0) := by
  have hp := R.pw.mono' (sub_tie (fun t ht => tree_mem h ht))
  refine ring_cn (R := But (EE ts) (q.getD k 0) (q.getD (k + 1) 0)) hk (hp.but hk) ?_
  have hl := R.len
  have ht : EE ts (q.getD 0 0) (q.getD (q.length - 1) 0) := by rw [R.fst, R.lst]; exact R.close
  refine (Cn.refl _).fwd ⟨ht, fun ⟨e1, e2⟩ => ?_, fun ⟨e1, e2⟩ => ?_⟩
  · have q1 := R.pw.inj (by omega) (by omega) e1
    have q2 := R.pw.inj (by omega) (by omega) e2
    omega
  · have q1 := R.pw.inj (by omega) (by omega) e1
    omega
theorem Rng.bridge {K : Int} {ts : List (Int × Int)} {x y : Nat} {q : List Nat} (h : okB K ts = true) (R : Rng K ts x y q) {k : Nat} (hk : k + 1 < q.length) : tieOf ((q.getD k 0 : Nat) : Int) ((q.getD (k + 1) 0 : Nat) : Int) ∉ brTs K ts := by
  intro hm
  have hp := R.pw.mono' (sub_tie (fun t ht => tree_mem h ht))
  obtain ⟨m1, m2⟩ := (mem_brTs h _).1 hm
  have hh : hasB K ts ((q.getD k 0 : Nat) : Int) ((q.getD (k + 1) 0 : Nat) : Int) = true := (hasB_mem h).2 m1
  have hb : bridgeB K ts ((q.getD k 0 : Nat) : Int) ((q.getD (k + 1) 0 : Nat) : Int) = true := by
    unfold tieOf at m2
    rcases Nat.le_total (q.getD k 0) (q.getD (k + 1) 0) with e | e
    · rw [Int.min_eq_left (by omega), Int.max_eq_right (by omega)] at m2; exact m2
    · rw [Int.min_eq_right (by omega), Int.max_eq_left (by omega)] at m2; rw [bridge_turn]; exact m2
  exact (bridge_nb hh).1 hb (R.nb h hk)
/-- each bridge is in the tree -/
theorem bridge_in_tree {K : Int} {ts : List (Int × Int)} (h : okB K ts = true) {t : Int × Int} (ht : t ∈ brTs K ts) : t ∈ treeTs K ts := by
  obtain ⟨m1, m2⟩ := (mem_brTs h t).1 ht
  refine Decidable.byContradiction (fun hno => ?_)
  obtain ⟨x, y, R⟩ := rst_of h m1
  have e := R.eq
  subst e
  have hh : hasB K ts (x : Int) (y : Int) = true := (hasB_mem h).2 (by rw [(tieOf_lt R.lt).2]; exact m1)
  refine (bridge_nb hh).1 m2 ?_
  have hu := treeTs_ok h
  have hc : Cn (Tied (treeTs K ts) (treeTs K ts).length) x y := by
    have := topN_reach (treeTs K ts) x y
    rw [R.top, decide_eq_true rfl] at this
    exact (reach_cn _ _ _).1 this.symm
  refine ((cn_EE hu).1 hc).mono (fun a b hab => ?_)
  refine ⟨sub_tie (fun t ht => tree_mem h ht) a b hab, fun ⟨e1, e2⟩ => ?_, fun ⟨e1, e2⟩ => ?_⟩
  · subst e1; subst e2
    have := (tieNB_mem _ _ _).1 hab
    rw [(tieOf_lt R.lt).2] at this; exact hno this
  · subst e1; subst e2
    have := (tieNB_mem _ _ _).1 hab
    rw [(tieOf_lt R.lt).1] at this; exact hno this
/-! ### a tie may stand for one of the ring that it closes -/
structure Swp (K : Int) (ts : List (Int × Int)) (x y a b : Nat) : Prop where
  cut : cutB K (treeTs K ts) (a : Int) (b : Int) = true
  add : addB K (cutTs K (treeTs K ts) (a : Int) (b : Int)) (y : Int) (x : Int) = true
  ok : treeOkB K ts (addTs K (cutTs K (treeTs K ts) (a : Int) (b : Int)) (y : Int) (x : Int)) = true
theorem Rng.swap {K : Int} {ts : List (Int × Int)} {x y : Nat} {q : List Nat} (h : okB K ts = true) (R : Rng K ts x y q) {k : Nat} (hk : k + 1 < q.length) : Swp K ts x y (q.getD k 0) (q.getD (k + 1) 0) := by
  obtain ⟨a, ha⟩ : ∃ a, a = q.getD k 0 := ⟨_, rfl⟩
  obtain ⟨b, hb⟩ : ∃ b, b = q.getD (k + 1) 0 := ⟨_, rfl⟩
  have hu := treeTs_ok h
  have hpt := tree_parts (tree_is h).1
  have hbut := R.pw.but hk
  have htie := R.pw.tie k hk
  have hin := fun t (ht : t ∈ treeTs K ts) => tree_mem h ht
  obtain ⟨vs, hvs⟩ : ∃ vs, vs = treeTs K ts := ⟨_, rfl⟩
  have hout := R.out
  rw [← ha, ← hb] at hbut htie ⊢
  rw [← hvs] at hu hpt hbut htie hin hout
  have hh : hasB K vs (a : Int) (b : Int) = true := (hasB_mem hu).2 ((tieNB_mem _ _ _).1 htie)
  have hcut : cutB K vs (a : Int) (b : Int) = true := hh
  have hxs := cutTs_yes hcut
  have hcx := cnt_cut hh
  have hbr := tree_bridge hpt.2.2.2.2 hh
  have hnb := (bridge_nb hh).1 hbr
  obtain ⟨g0, g8, gs⟩ := ok_parts hu
  have hok : okB K (cutTs K vs (a : Int) (b : Int)) = true := by rw [hxs]; exact ok_of_srt g0 g8 (srt_filter gs _)
  have hbs : reachB (cutTs K vs a b) a b = false := by rw [bridge_beside hh, hbr]; rfl
  obtain ⟨xs, hxe⟩ : ∃ xs, xs = cutTs K vs (a : Int) (b : Int) := ⟨_, rfl⟩
  have hEE : ∀ p r, EE xs p r ↔ But (EE vs) a b p r := fun p r => by rw [hxe]; exact EE_cut hh p r
  rw [← hxe] at hok hcx hxs
  have hnr : reachB xs y x = false := by
    rw [← Bool.not_eq_true, reach_cn]
    intro hc
    have hc2 : Cn (But (EE vs) a b) (q.getD 0 0) (q.getD (q.length - 1) 0) := by
      rw [R.fst, R.lst]; exact ((cn_EE hok).1 hc).mono (fun p r => (hEE p r).1)
    have := ring_cn hk hbut hc2
    rw [← ha, ← hb] at this
    exact hnb this
  have hK : ((K.toNat : Nat) : Int) = K := by omega
  have hlt := R.lt
  have hkn := R.kn
  have hadd : addB K xs (y : Int) (x : Int) = true := by
    have hno : hasB K xs (y : Int) (x : Int) = false := by
      rw [← Bool.not_eq_true, hasB_mem hok, (tieOf_lt hlt).1, hxs]
      intro hm
      exact hout (List.mem_filter.1 hm).1
    unfold addB knotB
    rw [hok, hno, decide_eq_true (by omega), decide_eq_true (by omega), decide_eq_true (by omega), decide_eq_true (by omega), decide_eq_true (by omega)]; rfl
  have A := added hadd
  have hca := cnt_add hadd
  have hlen : xs.length + 1 = vs.length := by
    obtain ⟨c1, c2⟩ := cut_add hcut
    have A2 := added c1
    rw [c2, ← hxe] at A2
    exact A2.len.symm
  have hcx2 : cnt xs K.toNat = cnt vs K.toNat + 1 := by
    have e : reachB xs (b : Int).toNat (a : Int).toNat = false := by
      rw [Int.toNat_natCast, Int.toNat_natCast, ← Bool.not_eq_true, reach_cn]
      intro hc
      rw [← hxe, ← Bool.not_eq_true, reach_cn] at hbs
      exact hbs hc.symm
    rw [e] at hcx
    simp at hcx; omega
  have hca2 : cnt (addTs K xs (y : Int) (x : Int)) K.toNat + 1 = cnt xs K.toNat := by
    rw [Int.toNat_natCast, Int.toNat_natCast, hnr] at hca
    simpa using hca
  have hsub : ∀ t, t ∈ addTs K xs (y : Int) (x : Int) → t ∈ ts := by
    intro t ht
    rw [addTs_yes hadd, mem_ins] at ht
    rcases ht with e | e
    · rw [e, (tieOf_lt hlt).1]; exact R.mem
    · rw [hxs] at e; exact hin t (List.mem_filter.1 e).1
  have hcts : cnt vs K.toNat = cnt ts K.toNat := by have := hpt.2.2.2; omega
  have hl2 := A.len
  refine ⟨by rw [← hvs]; exact hcut, by rw [← hvs, ← hxe]; exact hadd, ?_⟩
  rw [← hvs, ← hxe]
  unfold treeOkB
  rw [h, A.ok, sub_iff.2 hsub, decide_eq_true (by omega), decide_eq_true (by have := hpt.2.2.2.2; omega)]; rfl

end Go.Proofs.YtloicmngoaccoaaDoor
