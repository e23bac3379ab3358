/- Texts put together: MathFR, MathV. -/
import Derived.Test.YtljnjpjnadlmhaaDoorPartMathFN
import Derived.Test.YtljnjpjnadlmhaaDoorPartMathE
import Derived.Test.YtljnjpjnadlmhaaDoorPartMathP
/- Plain mathematics of flows: there is just one way just if a tie parts both. No program stands here. -/
namespace Go.Proofs.YtljnjpjnadlmhaaDoor
set_option linter.unusedVariables false

theorem su_lt {n : Nat} {f g : Nat → Int} (h : ∀ i, i < n → f i ≤ g i) {i : Nat} (hi : i < n) (h1 : f i + 1 ≤ g i) : su n f + 1 ≤ su n g := by
  have e : su n (fun j => f j + if j = i then 1 else 0) ≤ su n g := su_le (fun j hj => by
    by_cases q : j = i
    · rw [if_pos q, q]; exact h1
    · rw [if_neg q]; have := h j hj; omega)
  rw [su_add, su_one i 1 hi] at e
  exact e
theorem su_pos {n : Nat} {f : Nat → Int} (h : ∀ i, i < n → 0 ≤ f i) (hp : 0 < su n f) : ∃ i, i < n ∧ 0 < f i := by
  refine Decidable.byContradiction (fun hc => ?_)
  have : su n f ≤ su n (fun _ => 0) := su_le (fun i hi => by
    have h1 := h i hi
    rcases Int.lt_or_le 0 (f i) with q | q
    · exact absurd ⟨i, hi, q⟩ hc
    · exact q)
  rw [su_zero] at this
  omega
/-- where a tie leads across, there is one less across without it -/
theorem cut_less {T U : Nat → Nat → Bool} (h : ∀ x y, U x y = true → T x y = true) {S : Nat → Bool} {x y : Nat} (hx : x < 8) (hy : y < 8) (hS : S x = true) (hS2 : S y = false) (hT : T x y = true) (hU : U x y = false) : cutN U S + 1 ≤ cutN T S := by
  have le : ∀ u v, (if (S u && !S v && U u v) = true then (1 : Int) else 0) ≤ (if (S u && !S v && T u v) = true then 1 else 0) := fun u v => by
    by_cases q : (S u && !S v && U u v) = true
    · rw [if_pos q, if_pos (by simp only [Bool.and_eq_true] at q ⊢; exact ⟨q.1, h u v q.2⟩)]; omega
    · rw [if_neg q]; split <;> omega
  unfold cutN
  refine su_lt (fun u _ => su_le (fun v _ => le u v)) hx (su_lt (fun v _ => le x v) hy ?_)
  rw [hS, hS2, hT, hU]; decide
theorem minus_ok {K : Int} {ts : List (Int × Int)} (h : okB K ts = true) (t : Int × Int) : okB K (minusT ts t) = true := by
  have e := off_ok h [t]
  have : offTs ts [t] = minusT ts t := by
    unfold offTs minusT
    refine List.filter_congr (fun s _ => ?_)
    simp
  rwa [this] at e
/-- there is just one way just if one comes there, and a tie parts both -/
theorem flow_one {K : Int} {ts : List (Int × Int)} (hok : okB K ts = true) {a b : Nat} (ha : a < 8) (hb : b < 8) (hab : a ≠ b) :
    flowV ts a b = 1 ↔ reachB ts a b = true ∧ ∃ t, t ∈ ts ∧ reachB (minusT ts t) a b = false := by
  have hz := flowV_zero hok ha hb hab
  have h0 := flowV_nonneg ts (a := a) (b := b) ha hab
  constructor
  · intro h
    refine ⟨?_, ?_⟩
    · cases e : reachB ts a b with
      | true => rfl
      | false => have := hz.2 e; omega
    · obtain ⟨_, S, s1, s2, s3⟩ := (flowN_is (tieNB_turn ts) (a := a) (b := b) ha hab).2
      have s3' : cutN (tieNB ts) S = 1 := by rw [← s3]; exact h
      obtain ⟨x, hx, hx1⟩ := su_pos (n := 8) (f := fun x => su 8 (fun y => if (S x && !S y && tieNB ts x y) = true then 1 else 0)) (fun i _ => su_nonneg (fun j _ => by split <;> omega)) (by show 0 < cutN (tieNB ts) S; omega)
      obtain ⟨y, hy, hy1⟩ := su_pos (n := 8) (f := fun y => if (S x && !S y && tieNB ts x y) = true then (1 : Int) else 0) (fun i _ => by split <;> omega) hx1
      have hq : (S x && !S y && tieNB ts x y) = true := by
        by_cases q : (S x && !S y && tieNB ts x y) = true
        · exact q
        · rw [if_neg q] at hy1; omega
      simp only [Bool.and_eq_true, Bool.not_eq_true'] at hq
      obtain ⟨⟨q1, q2⟩, q3⟩ := hq
      have hm := (tieNB_mem ts x y).1 q3
      refine ⟨_, hm, ?_⟩
      have hU : tieNB (minusT ts (tieOf (x : Int) (y : Int))) x y = false := by
        cases e : tieNB (minusT ts (tieOf (x : Int) (y : Int))) x y with
        | false => rfl
        | true => exact absurd rfl (mem_minus.1 ((tieNB_mem _ x y).1 e)).2
      have hc : cutN (tieNB (minusT ts (tieOf (x : Int) (y : Int)))) S + 1 ≤ cutN (tieNB ts) S := cut_less (T := tieNB ts) (fun u v => tieNB_up (fun t ht => (mem_minus.1 ht).1) u v) hx hy q1 q2 q3 hU
      have hle := flowN_le (tieNB_turn (minusT ts (tieOf (x : Int) (y : Int)))) ha hab (S := S) s1 s2
      have h2 := flowV_nonneg (minusT ts (tieOf (x : Int) (y : Int))) (a := a) (b := b) ha hab
      exact (flowV_zero (minus_ok hok _) ha hb hab).1 (by
        have e : flowV (minusT ts (tieOf (x : Int) (y : Int))) a b = flowN (tieNB (minusT ts (tieOf (x : Int) (y : Int)))) a b := rfl
        omega)
  · rintro ⟨h1, t, ht, h2⟩
    have hne : flowV ts a b ≠ 0 := fun e => by have := hz.1 e; rw [h1] at this; cases this
    have hm := (flowV_zero (minus_ok hok t) ha hb hab).2 h2
    obtain ⟨g0, g1, g2⟩ : 0 ≤ t.1 ∧ t.1 < t.2 ∧ t.2 < 8 := by
      have hn := okB_iff.1 hok
      have := hn.2.1
      have hs : TieOk K t.1 t.2 := (srt_of_good (okB_iff.1 hok).2.1 (okB_iff.1 hok).2.2).1 t ht
      unfold TieOk at hs
      omega
    have hl := flowV_less ts t (a := a) (b := b) ha hab g0 g1 g2
    omega

end Go.Proofs.YtljnjpjnadlmhaaDoor

/- Plain mathematics: a tie is a bridge just if it is the only way over. No program stands here. -/
namespace Go.Proofs.YtljnjpjnadlmhaaDoor
set_option linter.unusedVariables false

theorem tie_cut {K : Int} {ts : List (Int × Int)} {a b : Nat} (hh : hasB K ts (a : Int) (b : Int) = true) (x y : Nat) : tieNB (cutTs K ts a b) x y = true ↔ But (EE ts) a b x y := by
  have e := cutTs_yes (show cutB K ts (a : Int) (b : Int) = true from hh)
  rw [tieNB_mem, e, List.mem_filter]
  unfold But EE
  rw [tieNB_mem]
  have : other (tieOf (a : Int) (b : Int)) (tieOf (x : Int) (y : Int)) = true ↔ ¬ (x = a ∧ y = b) ∧ ¬ (x = b ∧ y = a) := by
    unfold other
    rw [decide_eq_true_eq, ne_eq, tieOf_nat]
    constructor
    · intro h; exact ⟨fun q => h (Or.inl q), fun q => h (Or.inr q)⟩
    · rintro ⟨h1, h2⟩ (q | q)
      · exact h1 q
      · exact h2 q
  rw [this]
theorem cast_inj : ∀ (p q : List Nat), p.map (fun (x : Nat) => (x : Int)) = q.map (fun (x : Nat) => (x : Int)) → p = q := by
  intro p
  induction p with
  | nil =>
    intro q h
    cases q with
    | nil => rfl
    | cons y q => cases h
  | cons x p ih =>
    intro q h
    cases q with
    | nil => cases h
    | cons y q =>
      simp only [List.map_cons, List.cons.injEq] at h
      rw [ih q h.2, Int.ofNat.inj h.1]
/-- knots each tied to the next one are a way -/
theorem Pw.mem {K : Int} {ts : List (Int × Int)} {q : List Nat} (hok : okB K ts = true) (h : Pw (tieNB ts) q) (h0 : 0 < q.length) (hk : knotB ((q.getD 0 0 : Nat) : Int) K = true) : q ∈ waysB K ts ((q.getD 0 0 : Nat) : Int) ((q.getD (q.length - 1) 0 : Nat) : Int) := by
  have hw := h.way hok h0 hk
  obtain ⟨q', e, _, _, hm⟩ := every_way hw
  have := cast_inj _ _ e
  subst this
  rw [xi_nat, xi_nat] at hm
  simpa using hm
/-- who goes on a way hangs together -/
theorem Pw.cn {E : Nat → Nat → Bool} {R : Nat → Nat → Prop} {q : List Nat} (h : Pw E q) (hR : ∀ i, i + 1 < q.length → R (q.getD i 0) (q.getD (i + 1) 0)) : ∀ i, i < q.length → Cn R (q.getD 0 0) (q.getD i 0) := by
  intro i
  induction i with
  | zero => intro _; exact Cn.refl _
  | succ i ih => intro hi; exact (ih (by omega)).fwd (hR i hi)
theorem list_two {q : List Nat} (h : q.length = 2) : q = [q.getD 0 0, q.getD 1 0] := by
  match q, h with
  | [x, y], _ => rfl
theorem lastN_at {q : List Nat} (h : 0 < q.length) : lastN q = q.getD (q.length - 1) 0 := by
  have := last_take' (q := q) (m := q.length) h (Nat.le_refl _)
  rwa [List.take_length] at this
theorem ahead_self (x : List Nat) : aheadB x x = false := by unfold aheadB; rw [if_pos rfl, lexB_self]
theorem has_ne {K : Int} {ts : List (Int × Int)} {a b : Nat} (hh : hasB K ts (a : Int) (b : Int) = true) : a ≠ b := by
  intro e
  subst e
  have hok := has_ok hh
  have G := EE.gr (okB_iff.1 hok)
  refine G.irr a ?_
  show tieNB ts a a = true
  rw [hasB_ok hok] at hh
  exact hh
theorem cn_lp2 {K : Int} {ts : List (Int × Int)} (hok : NetOk K ts) {a b : Nat} (h : Cn (Tied ts ts.length) a b) : ∃ d, Lp (tieNB ts) b d a := by
  induction h with
  | refl => exact ⟨0, rfl⟩
  | fwd _ e ih => obtain ⟨d, hd⟩ := ih; exact ⟨d + 1, hd.snoc ((tieNB_iff hok).2 (Or.inl e))⟩
  | bwd _ e ih => obtain ⟨d, hd⟩ := ih; exact ⟨d + 1, hd.snoc ((tieNB_iff hok).2 (Or.inr e))⟩
theorem found_no_reach {K : Int} {ts : List (Int × Int)} {a b : Int} (h : foundB K ts a b = false) : (okB K ts && knotB a K) = true → ∀ y : Nat, (y : Int) < K → b = (y : Int) → reachB ts a.toNat y = false := by
  intro hc y hy hb
  simp only [Bool.and_eq_true, knotB, decide_eq_true_eq] at hc
  obtain ⟨hok, h0, h1⟩ := hc
  have N : Nt K ts K.toNat := ⟨hok, by omega⟩
  obtain ⟨x, rfl⟩ : ∃ x : Nat, a = (x : Int) := ⟨a.toNat, by omega⟩
  subst hb
  rw [← Bool.not_eq_true]
  intro hr
  unfold reachB at hr
  rw [decide_eq_true_eq, Int.toNat_natCast] at hr
  obtain ⟨d, hd⟩ := cn_lp2 N.net ((forest_cn ts ts.length x y).1 hr.symm)
  exact (N.found (a := x) (b := y) (by omega) (by omega)).2 h d hd
/-- on a bridge there is no other way -/
theorem way_only {K : Int} {ts : List (Int × Int)} {a b : Nat} (hh : hasB K ts (a : Int) (b : Int) = true) (hb : bridgeB K ts a b = true) {q : List Nat} (hq : q ∈ waysB K ts (a : Int) (b : Int)) : q = [a, b] := by
  obtain ⟨hp, hl, hf, h0, _, _⟩ := ways_way hq
  rw [lastN_at h0] at hl
  have hl' : q.getD (q.length - 1) 0 = b := by omega
  have hf' : q.getD 0 0 = a := by omega
  have hne := has_ne hh
  by_cases h1 : q.length = 1
  · rw [h1] at hl'
    exact absurd (hf'.symm.trans hl') hne
  · by_cases h2 : q.length = 2
    · rw [list_two h2, hf', ← hl', h2]
    · refine absurd ?_ ((bridge_nb hh).1 hb)
      have := hp.cn (R := But (EE ts) a b) (fun i hi => ?_) (q.length - 1) (by omega)
      · rw [hf', hl'] at this; exact this
      · refine ⟨hp.tie i hi, fun ⟨e1, e2⟩ => ?_, fun ⟨e1, e2⟩ => ?_⟩
        · have hi0 : i = 0 := by
            by_cases e : i = 0
            · exact e
            · exact absurd (hf'.trans e1.symm) (hp.new 0 i (by omega) (by omega))
          subst hi0
          exact absurd (e2.trans hl'.symm) (hp.new 1 (q.length - 1) (by omega) (by omega))
        · exact absurd (e1.trans hl'.symm) (hp.new i (q.length - 1) (by omega) (by omega))
theorem tie_way {K : Int} {ts : List (Int × Int)} {a b : Nat} (hh : hasB K ts (a : Int) (b : Int) = true) : [a, b] ∈ waysB K ts (a : Int) (b : Int) := by
  have hok := has_ok hh
  have hne := has_ne hh
  have hk := hasB_knot hh
  have hp : Pw (tieNB ts) [a, b] := by
    refine ⟨fun i hi => ?_, fun i j hij hj => ?_⟩
    · simp at hi
      have : i = 0 := by omega
      subst this
      rw [hasB_ok hok] at hh
      exact hh
    · simp at hj
      have : i = 0 ∧ j = 1 := by omega
      obtain ⟨rfl, rfl⟩ := this
      exact hne
  have := hp.mem hok (by simp) (by simp [knotB]; omega)
  simpa using this
theorem bridge_ways {K : Int} {ts : List (Int × Int)} {a b : Nat} (hh : hasB K ts (a : Int) (b : Int) = true) : decide ((waysB K ts (a : Int) (b : Int)).length = 1) = bridgeB K ts a b := by
  have hok := has_ok hh
  have ht := tie_way hh
  have hk := hasB_knot hh
  cases hb : bridgeB K ts a b
  · rw [decide_eq_false_iff_not]
    have hnb : Nb (EE ts) a b := by
      rcases Classical.em (Nb (EE ts) a b) with h | h
      · exact h
      · rw [(bridge_nb hh).2 h] at hb; cases hb
    have hC := cutOut (show cutB K ts (a : Int) (b : Int) = true from hh)
    have hr : reachB (cutTs K ts a b) a b = true := (reach_cn _ _ _).2 ((nb_cut hh).1 hnb)
    have hf : foundB K (cutTs K ts a b) (a : Int) (b : Int) = true := by
      cases h : foundB K (cutTs K ts a b) (a : Int) (b : Int)
      · have := found_no_reach h (by rw [hC.ok]; simp [knotB]; omega) b (by omega) rfl
        simp at this
        rw [this] at hr; cases hr
      · rfl
    have hm := find_mem hf
    obtain ⟨hp, hl, hfst, h0, _, _⟩ := ways_way hm
    rw [lastN_at h0] at hl
    have hp2 : Pw (tieNB ts) (findB K (cutTs K ts a b) (a : Int) (b : Int)) := ⟨fun i hi => ((tie_cut hh _ _).1 (hp.tie i hi)).1, hp.new⟩
    have hm2 := hp2.mem hok h0 (by rw [hfst]; simp [knotB]; omega)
    rw [hfst, hl] at hm2
    have hdif : findB K (cutTs K ts a b) (a : Int) (b : Int) ≠ [a, b] := fun e => by
      rw [e] at hp
      have := (tie_cut hh _ _).1 (hp.tie 0 (by simp))
      exact this.2.1 ⟨rfl, rfl⟩
    intro h1
    obtain ⟨x, hx⟩ := List.length_eq_one_iff.1 h1
    rw [hx] at hm2 ht
    simp at hm2 ht
    exact hdif (hm2.trans ht.symm)
  · rw [decide_eq_true_eq]
    have hs : (waysB K ts (a : Int) (b : Int)).Pairwise (fun x y => aheadB x y = true) := by
      rw [waysB_yes (by rw [hok]; simp [knotB]; omega)]; exact allTo_strict _ _ _ _
    have hall : ∀ q, q ∈ waysB K ts (a : Int) (b : Int) → q = [a, b] := fun q hq => way_only hh hb hq
    match hw : waysB K ts (a : Int) (b : Int), ht, hs, hall with
    | [], ht, _, _ => simp at ht
    | [x], _, _, _ => rfl
    | x :: y :: r, _, hs, hall =>
      have h1 := (List.pairwise_cons.1 hs).1 y (by simp)
      rw [hall x (by simp), hall y (by simp), ahead_self] at h1
      cases h1
/-- whether another way leads beside a tie -/
theorem bridge_beside {K : Int} {ts : List (Int × Int)} {a b : Nat} (hh : hasB K ts (a : Int) (b : Int) = true) : reachB (cutTs K ts a b) a b = !bridgeB K ts a b := by
  have h1 : reachB (cutTs K ts a b) a b = true ↔ Nb (EE ts) a b := (reach_cn _ _ _).trans (nb_cut hh).symm
  have h2 := bridge_nb hh
  cases e1 : reachB (cutTs K ts a b) a b <;> cases e2 : bridgeB K ts a b <;> simp_all

end Go.Proofs.YtljnjpjnadlmhaaDoor
