/- Texts put together: MathFN, MathFW, MathFQ. -/
import Derived.Test.YtljnjpjnadlmhaaDoorPartMathFL
import Derived.Test.YtljnjpjnadlmhaaDoorPartMathFP
/- Plain mathematics of flows: one tie less; no way; ties that part; the first of the fewest that part. No program stands here. -/
namespace Go.Proofs.YtljnjpjnadlmhaaDoor
set_option linter.unusedVariables false

/-- one tie less lets one way less be, or as many -/
theorem flow_less {T U : Nat → Nat → Bool} (hT : ∀ x y, T x y = T y x) (hU : ∀ x y, U x y = U y x) {c d : Nat} (hc : c < 8) (hd : d < 8) (h : ∀ x y, U x y = true → T x y = true ∨ (x = c ∧ y = d) ∨ (x = d ∧ y = c)) {a b : Nat} (ha : a < 8) (hab : a ≠ b) : flowN U a b ≤ flowN T a b + 1 := by
  obtain ⟨S, s1, s2, s3⟩ := (flowN_is hT ha hab).2.2
  have e1 := flowN_le hU ha hab s1 s2
  have e2 : cutN U S ≤ su 8 (fun x => su 8 (fun y => (if (S x && !S y && T x y) = true then 1 else 0) + ((if x = c then (if y = d then (if (S c && !S d) = true then 1 else 0) else 0) else 0) + (if x = d then (if y = c then (if (S d && !S c) = true then 1 else 0) else 0) else 0)))) := by
    refine su_le (fun x _ => su_le (fun y _ => ?_))
    have k1 : (0 : Int) ≤ (if x = c then (if y = d then (if (S c && !S d) = true then 1 else 0) else 0) else 0) := by (repeat' split) <;> decide
    have k2 : (0 : Int) ≤ (if x = d then (if y = c then (if (S d && !S c) = true then 1 else 0) else 0) else 0) := by (repeat' split) <;> decide
    have k3 : (0 : Int) ≤ (if (S x && !S y && T x y) = true then 1 else 0) := by split <;> decide
    by_cases q : (S x && !S y && U x y) = true
    · rw [if_pos q]
      have q2 := q
      rw [Bool.and_eq_true] at q2
      rcases h x y q2.2 with r | ⟨rfl, rfl⟩ | ⟨rfl, rfl⟩
      · rw [if_pos (by rw [Bool.and_eq_true]; exact ⟨q2.1, r⟩)]; omega
      · have : (if x = x then (if y = y then (if (S x && !S y) = true then (1 : Int) else 0) else 0) else 0) = 1 := by rw [if_pos rfl, if_pos rfl, if_pos q2.1]
        omega
      · have : (if x = x then (if y = y then (if (S x && !S y) = true then (1 : Int) else 0) else 0) else 0) = 1 := by rw [if_pos rfl, if_pos rfl, if_pos q2.1]
        omega
    · rw [if_neg q]; omega
  have one : ∀ (u v : Nat) (z : Int), u < 8 → v < 8 → su 8 (fun x => su 8 (fun y => if x = u then (if y = v then z else 0) else 0)) = z := by
    intro u v z hu hv
    refine Eq.trans (su_congr (fun x _ => ?_)) (su_one (n := 8) u z hu)
    by_cases q : x = u
    · rw [if_pos q]
      exact Eq.trans (su_congr (fun y _ => if_pos q)) (su_one (n := 8) v z hv)
    · rw [if_neg q]
      exact Eq.trans (su_congr (fun y _ => if_neg q)) (su_zero 8)
  have e3 : su 8 (fun x => su 8 (fun y => (if (S x && !S y && T x y) = true then 1 else 0) + ((if x = c then (if y = d then (if (S c && !S d) = true then 1 else 0) else 0) else 0) + (if x = d then (if y = c then (if (S d && !S c) = true then 1 else 0) else 0) else 0)))) = cutN T S + ((if (S c && !S d) = true then 1 else 0) + (if (S d && !S c) = true then 1 else 0)) := by
    have o1 := one c d (if (S c && !S d) = true then 1 else 0) hc hd
    have o2 := one d c (if (S d && !S c) = true then 1 else 0) hd hc
    refine Eq.trans ?_ (congrArg (cutN T S + ·) (congr (congrArg (· + ·) o1) o2))
    unfold cutN
    rw [← su_add, ← su_add]
    refine su_congr (fun x _ => ?_)
    rw [← su_add, ← su_add]
  have e4 : (if (S c && !S d) = true then (1 : Int) else 0) + (if (S d && !S c) = true then 1 else 0) ≤ 1 := by cases S c <;> cases S d <;> decide
  omega
open Classical in
/-- there is no way just if they don't hang together -/
theorem flow_zero {T : Nat → Nat → Bool} (hT : ∀ x y, T x y = T y x) {a b : Nat} (ha : a < 8) (hb : b < 8) (hab : a ≠ b) (h8 : ∀ x y, T x y = true → y < 8) : flowN T a b = 0 ↔ ¬ Cn (fun x y => T x y = true) a b := by
  obtain ⟨h0, hm⟩ := flowN_is hT ha hab
  constructor
  · intro hz
    obtain ⟨S, s1, s2, s3⟩ := hm.2
    have hno : ∀ x y, x < 8 → y < 8 → S x = true → T x y = true → S y = true := by
      intro x y hx hy h1 h2
      refine Decidable.byContradiction (fun h3 => ?_)
      have h4 : S y = false := by simpa using h3
      have : (1 : Int) ≤ cutN T S := by
        have e : su 8 (fun i => if i = x then (1 : Int) else 0) ≤ cutN T S := by
          refine su_le (fun i _ => ?_)
          by_cases q : i = x
          · subst q
            rw [if_pos rfl]
            have e : su 8 (fun j => if j = y then (1 : Int) else 0) ≤ su 8 (fun j => if (S i && !S j && T i j) = true then 1 else 0) := by
              refine su_le (fun j _ => ?_)
              by_cases q2 : j = y
              · subst q2; rw [if_pos rfl, if_pos (by rw [h1, h4, h2]; rfl)]; exact Int.le_refl _
              · rw [if_neg q2]; split <;> decide
            rw [su_one y 1 hy] at e
            exact e
          · rw [if_neg q]
            exact su_nonneg (fun j _ => by split <;> decide)
        rw [su_one x 1 hx] at e
        exact e
      omega
    intro hc
    have : ∀ z, Cn (fun x y => T x y = true) a z → z < 8 ∧ S z = true := by
      intro z hz2
      induction hz2 with
      | refl => exact ⟨ha, s1⟩
      | fwd _ e ih => exact ⟨h8 _ _ e, hno _ _ ih.1 (h8 _ _ e) ih.2 e⟩
      | bwd _ e ih => have e' := e; rw [hT] at e'; exact ⟨h8 _ _ e', hno _ _ ih.1 (h8 _ _ e') ih.2 e'⟩
    have := (this b hc).2
    rw [s2] at this; cases this
  · intro hno
    have e := flowN_le hT ha hab (S := fun x => decide (Cn (fun x y => T x y = true) a x)) (decide_eq_true (.refl a)) (decide_eq_false hno)
    have e2 : cutN T (fun x => decide (Cn (fun x y => T x y = true) a x)) = 0 := by
      rw [← su_zero 8]
      refine su_congr (fun x _ => ?_)
      refine Eq.trans (su_congr (fun y _ => ?_)) (su_zero 8)
      rw [if_neg]
      intro q
      simp only [Bool.and_eq_true, Bool.not_eq_true', decide_eq_true_eq, decide_eq_false_iff_not] at q
      exact q.1.2 (q.1.1.fwd q.2)
    omega

/-- how many ways there are at most by these ties -/
noncomputable def flowV (ts : List (Int × Int)) (a b : Nat) : Int := flowN (tieNB ts) a b
theorem tieNB_up {ts us : List (Int × Int)} (h : ∀ t, t ∈ us → t ∈ ts) (x y : Nat) (hx : tieNB us x y = true) : tieNB ts x y = true := (tieNB_mem _ _ _).2 (h _ ((tieNB_mem _ _ _).1 hx))
theorem flowV_zero {K : Int} {ts : List (Int × Int)} (hok : okB K ts = true) {a b : Nat} (ha : a < 8) (hb : b < 8) (hab : a ≠ b) : flowV ts a b = 0 ↔ reachB ts a b = false := by
  have hn := okB_iff.1 hok
  have hb8 : ∀ x y, tieNB ts x y = true → y < 8 := fun x y h => by
    have := hn.2.1
    rcases (tieNB_iff hn).1 h with q | q
    · have := (tied_lt hn q).2; omega
    · have := (tied_lt hn q).1; omega
  have key : ∀ z, Cn (fun x y => tieNB ts x y = true) a z ↔ Cn (Tied ts ts.length) a z := by
    intro z
    constructor
    · intro h
      induction h with
      | refl => exact .refl a
      | fwd _ e ih => exact ((tieNB_iff hn).1 e).elim (fun q => ih.fwd q) (fun q => ih.bwd q)
      | bwd _ e ih => exact ((tieNB_iff hn).1 e).elim (fun q => ih.bwd q) (fun q => ih.fwd q)
    · intro h
      induction h with
      | refl => exact .refl a
      | fwd _ e ih => exact ih.fwd ((tieNB_iff hn).2 (Or.inl e))
      | bwd _ e ih => exact ih.bwd ((tieNB_iff hn).2 (Or.inl e))
  unfold flowV
  rw [flow_zero (tieNB_turn ts) ha hb hab hb8, key, ← reach_cn, Bool.not_eq_true]
theorem flowV_nonneg (ts : List (Int × Int)) {a b : Nat} (ha : a < 8) (hab : a ≠ b) : 0 ≤ flowV ts a b := (flowN_is (tieNB_turn ts) ha hab).1
theorem flowV_up {ts us : List (Int × Int)} (h : ∀ t, t ∈ us → t ∈ ts) {a b : Nat} (ha : a < 8) (hab : a ≠ b) : flowV us a b ≤ flowV ts a b := flow_up (tieNB_turn us) (tieNB_turn ts) (tieNB_up h) ha hab
theorem flowV_turn (ts : List (Int × Int)) {a b : Nat} (ha : a < 8) (hb : b < 8) (hab : a ≠ b) : flowV ts b a = flowV ts a b := flow_turn (tieNB_turn ts) ha hb hab
/-- the ties without one -/
def minusT (ts : List (Int × Int)) (t : Int × Int) : List (Int × Int) := ts.filter (fun s => decide (s ≠ t))
theorem mem_minus {ts : List (Int × Int)} {t s : Int × Int} : s ∈ minusT ts t ↔ s ∈ ts ∧ s ≠ t := by unfold minusT; rw [List.mem_filter, decide_eq_true_eq]
theorem flowV_less (ts : List (Int × Int)) (t : Int × Int) {a b : Nat} (ha : a < 8) (hab : a ≠ b) (h0 : 0 ≤ t.1) (h1 : t.1 < t.2) (h2 : t.2 < 8) : flowV ts a b ≤ flowV (minusT ts t) a b + 1 := by
  refine flow_less (tieNB_turn _) (tieNB_turn _) (c := t.1.toNat) (d := t.2.toNat) (by omega) (by omega) (fun x y h => ?_) ha hab
  by_cases q : tieOf (x : Int) (y : Int) = t
  · right
    unfold tieOf at q
    rw [← q]
    dsimp only
    rcases Nat.le_total x y with e | e
    · rw [Int.min_eq_left (by omega), Int.max_eq_right (by omega)]; left; omega
    · rw [Int.min_eq_right (by omega), Int.max_eq_left (by omega)]; right; omega
  · left
    rw [tieNB_mem] at h ⊢
    exact mem_minus.2 ⟨h, q⟩
theorem minus_off {ts us : List (Int × Int)} {i : Nat} (hi : i < us.length) (s : Int × Int) : s ∈ minusT (offTs ts (us.take i)) (us[i]) ↔ s ∈ offTs ts (us.take (i + 1)) := by
  rw [mem_minus, mem_off, mem_off, List.take_add_one, List.getElem?_eq_getElem hi]
  simp only [Option.toList_some, List.mem_append, List.mem_singleton, not_or]
  exact ⟨fun h => ⟨h.1.1, h.1.2, h.2⟩, fun h => ⟨⟨h.1, h.2.1⟩, h.2.2⟩⟩
/-- so many ties less let at most so many ways less be -/
theorem flowV_off {ts us : List (Int × Int)} {a b : Nat} (ha : a < 8) (hab : a ≠ b) (hu : ∀ t, t ∈ us → 0 ≤ t.1 ∧ t.1 < t.2 ∧ t.2 < 8) : flowV ts a b ≤ flowV (offTs ts us) a b + (us.length : Int) := by
  have go : ∀ k, k ≤ us.length → flowV ts a b ≤ flowV (offTs ts (us.take k)) a b + (k : Int) := by
    intro k
    induction k with
    | zero => intro _; rw [List.take_zero, off_nil]; omega
    | succ k ih =>
      intro hk
      have h1 := ih (by omega)
      obtain ⟨q0, q1, q2⟩ := hu _ (List.getElem_mem (show k < us.length by omega))
      have h2 := flowV_less (offTs ts (us.take k)) (us[k]) ha hab q0 q1 q2
      have h3 : flowV (minusT (offTs ts (us.take k)) (us[k])) a b ≤ flowV (offTs ts (us.take (k + 1))) a b := flowV_up (fun s hs => (minus_off (by omega) s).1 hs) ha hab
      omega
  have := go us.length (Nat.le_refl _)
  rw [List.take_length] at this
  exact this
/-- what parts two knots is no fewer than the ways -/
theorem knot_nat' {K : Int} {ts : List (Int × Int)} {a b : Nat} (h : twoB K ts (a : Int) (b : Int) = true) : okB K ts = true ∧ a ≠ b := by
  unfold twoB at h
  simp only [Bool.and_eq_true, decide_eq_true_eq] at h
  exact ⟨h.1.1.1, fun e => h.2 (by rw [e])⟩
theorem parts_le {K : Int} {ts us : List (Int × Int)} {a b : Nat} (ha : a < 8) (hb : b < 8) (h : partsB K ts (a : Int) (b : Int) us = true) : flowV ts a b ≤ (us.length : Int) := by
  unfold partsB at h
  simp only [Bool.and_eq_true, Bool.not_eq_true'] at h
  obtain ⟨⟨⟨h1, h2⟩, h3⟩, h4⟩ := h
  have hok := (knot_nat' h1).1
  have hab : a ≠ b := (knot_nat' h1).2
  have hz := (flowV_zero (off_ok hok us) ha hb hab).2 (by simpa using h4)
  have := flowV_off (ts := ts) (us := us) ha hab (fun t ht => by
    obtain ⟨q0, q1, q2⟩ := (ok_parts h2).2.2.1 t ht
    have := (ok_parts h2).2.1
    omega)
  omega

end Go.Proofs.YtljnjpjnadlmhaaDoor

/- Plain mathematics of going through a net by steps that can be taken, way by way. No program stands here. -/
namespace Go.Proofs.YtljnjpjnadlmhaaDoor
set_option linter.unusedVariables false

/-- where a way ends -/
def endW (p : List Nat) : Nat := p.getLastD 0
/-- a way that begins at a knot, by steps that can be taken, with no knot twice, all of whose knots are known -/
structure WayF (T : Nat → Nat → Bool) (F : Nat → Nat → Int) (a : Nat) (M : Nat → Bool) (p : List Nat) : Prop where
  head : ∃ r, p = a :: r
  nodup : p.Nodup
  can : canW T F p
  known : ∀ z, z ∈ p → z < 8 ∧ M z = true
theorem WayF.one {T : Nat → Nat → Bool} {F : Nat → Nat → Int} {a : Nat} {M : Nat → Bool} (ha : a < 8) (hM : M a = true) : WayF T F a M [a] :=
  ⟨⟨[], rfl⟩, by simp, trivial, fun z hz => by rw [List.mem_singleton.1 hz]; exact ⟨ha, hM⟩⟩
theorem WayF.know {T : Nat → Nat → Bool} {F : Nat → Nat → Int} {a : Nat} {M : Nat → Bool} {p : List Nat} (h : WayF T F a M p) (y : Nat) : WayF T F a (mark M y) p :=
  ⟨h.head, h.nodup, h.can, fun z hz => ⟨(h.known z hz).1, mark_old (h.known z hz).2⟩⟩
theorem WayF.ne {T : Nat → Nat → Bool} {F : Nat → Nat → Int} {a : Nat} {M : Nat → Bool} {p : List Nat} (h : WayF T F a M p) : p ≠ [] := by
  obtain ⟨r, rfl⟩ := h.head; simp
theorem endW_snoc (p : List Nat) (k : Nat) : endW (p ++ [k]) = k := by
  unfold endW; rw [List.getLastD_eq_getLast?, List.getLast?_append]; simp
theorem endW_split {p : List Nat} (h : p ≠ []) : ∃ q, p = q ++ [endW p] := by
  refine ⟨p.dropLast, ?_⟩
  have e : endW p = p.getLast h := by unfold endW; rw [List.getLastD_eq_getLast?, List.getLast?_eq_some_getLast h]; rfl
  rw [e]; exact (List.dropLast_concat_getLast h).symm
theorem endW_mem {p : List Nat} (h : p ≠ []) : endW p ∈ p := by
  obtain ⟨q, e⟩ := endW_split h
  rw [e, endW_snoc]; simp
/-- on to a knot that is not known -/
theorem WayF.on {T : Nat → Nat → Bool} {F : Nat → Nat → Int} {a : Nat} {M : Nat → Bool} {p : List Nat} (h : WayF T F a M p) {k : Nat} (hk : k < 8) (hM : M k = false) (h1 : T (endW p) k = true) (h2 : F (endW p) k < 1) : WayF T F a (mark M k) (p ++ [k]) := by
  obtain ⟨r, hr⟩ := h.head
  have hno : k ∉ p := fun q => by have := (h.known k q).2; rw [hM] at this; cases this
  refine ⟨⟨r ++ [k], by rw [hr]; rfl⟩, ?_, ?_, fun z hz => ?_⟩
  · rw [List.nodup_append]
    exact ⟨h.nodup, by simp, fun x hx y hy e => hno (by rw [List.mem_singleton.1 hy] at e; rw [← e]; exact hx)⟩
  · obtain ⟨q, hq⟩ := endW_split h.ne
    have hc := h.can
    rw [hq] at hc
    rw [hq, List.append_assoc]
    exact canW_app q hc h1 h2
  · rcases List.mem_append.1 hz with q | q
    · exact ⟨(h.known z q).1, mark_old (h.known z q).2⟩
    · rw [List.mem_singleton.1 q]; exact ⟨hk, by simp [mark]⟩

/-- what is known, and the ways that wait; ex: what is under way -/
structure Wq (T : Nat → Nat → Bool) (F : Nat → Nat → Int) (a b : Nat) (M : Nat → Bool) (ws : List (List Nat)) (ex : Nat → Prop) : Prop where
  start : M a = true
  low : ∀ y, M y = true → y < 8
  ways : ∀ p, p ∈ ws → WayF T F a M p
  closed : ∀ y, M y = true → (∃ p, p ∈ ws ∧ endW p = y) ∨ ex y ∨ (y ≠ b ∧ ∀ z, z < 8 → T y z = true → F y z < 1 → M z = true)
theorem Wq.first {T : Nat → Nat → Bool} {F : Nat → Nat → Int} {a b : Nat} (ha : a < 8) : Wq T F a b (mark (fun _ => false) a) [[a]] (fun _ => False) := by
  have h1 : ∀ y, mark (fun _ => false) a y = true → y = a := by intro y h; unfold mark at h; by_cases e : y = a; exact e; simp [e] at h
  refine ⟨by simp [mark], fun y h => by rw [h1 y h]; exact ha, fun p hp => ?_, fun y h => Or.inl ⟨[a], by simp, by rw [h1 y h]; rfl⟩⟩
  rw [List.mem_singleton.1 hp]
  exact WayF.one ha (by simp [mark])
theorem Wq.take {T : Nat → Nat → Bool} {F : Nat → Nat → Int} {a b : Nat} {M : Nat → Bool} {p : List Nat} {ws : List (List Nat)} (h : Wq T F a b M (p :: ws) (fun _ => False)) : WayF T F a M p ∧ Wq T F a b M ws (fun y => y = endW p) := by
  refine ⟨h.ways p (by simp), h.start, h.low, fun q hq => h.ways q (List.mem_cons_of_mem _ hq), fun y hy => ?_⟩
  rcases h.closed y hy with ⟨q, h1, h2⟩ | h1 | h1
  · rcases List.mem_cons.1 h1 with e | e
    · exact Or.inr (Or.inl (by rw [← h2, e]))
    · exact Or.inl ⟨q, e, h2⟩
  · exact h1.elim
  · exact Or.inr (Or.inr h1)
theorem Wq.put {T : Nat → Nat → Bool} {F : Nat → Nat → Int} {a b : Nat} {M : Nat → Bool} {p : List Nat} {ws : List (List Nat)} {ex : Nat → Prop} (h : Wq T F a b M ws ex) (hp : WayF T F a M p) {k : Nat} (hk : k < 8) (hM : M k = false) (h1 : T (endW p) k = true) (h2 : F (endW p) k < 1) : Wq T F a b (mark M k) (ws ++ [p ++ [k]]) ex := by
  refine ⟨mark_old h.start, fun y hy => ?_, fun q hq => ?_, fun y hy => ?_⟩
  · by_cases e : y = k
    · rw [e]; exact hk
    · exact h.low y (by unfold mark at hy; rwa [if_neg e] at hy)
  · rcases List.mem_append.1 hq with e | e
    · exact (h.ways q e).know k
    · rw [List.mem_singleton.1 e]; exact hp.on hk hM h1 h2
  · by_cases e : y = k
    · exact Or.inl ⟨p ++ [k], by simp, by rw [endW_snoc, e]⟩
    · have hy' : M y = true := by unfold mark at hy; rwa [if_neg e] at hy
      rcases h.closed y hy' with ⟨q, q1, q2⟩ | q | ⟨q1, q2⟩
      · exact Or.inl ⟨q, List.mem_append_left _ q1, q2⟩
      · exact Or.inr (Or.inl q)
      · exact Or.inr (Or.inr ⟨q1, fun z hz z1 z2 => mark_old (q2 z hz z1 z2)⟩)
theorem Wq.done {T : Nat → Nat → Bool} {F : Nat → Nat → Int} {a b : Nat} {M : Nat → Bool} {x : Nat} {ws : List (List Nat)} (h : Wq T F a b M ws (fun y => y = x)) (hx : x ≠ b) (hn : ∀ z, z < 8 → T x z = true → F x z < 1 → M z = true) : Wq T F a b M ws (fun _ => False) := by
  refine ⟨h.start, h.low, h.ways, fun y hy => ?_⟩
  rcases h.closed y hy with q | q | q
  · exact Or.inl q
  · rw [q]; exact Or.inr (Or.inr ⟨hx, hn⟩)
  · exact Or.inr (Or.inr q)
/-- where none waits any more, there are no more ways -/
theorem Wq.most {T : Nat → Nat → Bool} {F : Nat → Nat → Int} {a b : Nat} {M : Nat → Bool} {v : Int} (h : Wq T F a b M [] (fun _ => False)) (hf : Flw T a b F v) (ha : a < 8) : MostW T a b v := by
  have hc : ∀ y, M y = true → y ≠ b ∧ ∀ z, z < 8 → T y z = true → F y z < 1 → M z = true := by
    intro y hy
    rcases h.closed y hy with ⟨q, q1, _⟩ | q | q
    · cases q1
    · exact q.elim
    · exact q
  have hb : M b = false := by
    cases e : M b with
    | false => rfl
    | true => exact absurd rfl (hc b e).1
  exact most_of hf ha h.start hb (fun x y hx hy h1 h2 h3 => (hc x h1).2 y hy h2 h3)
/-- a way that was found lets one more go -/
theorem WayF.more {T : Nat → Nat → Bool} {F : Nat → Nat → Int} {a b : Nat} {M : Nat → Bool} {p : List Nat} {v : Int} (h : WayF T F a M p) (hT : ∀ x y, T x y = T y x) (hf : Flw T a b F v) (hab : a ≠ b) (he : endW p = b) : Flw T a b (goW F p) (v + 1) := by
  obtain ⟨r, rfl⟩ := h.head
  refine hf.more hT (fun z hz => (h.known z hz).1) h.nodup ?_ hab h.can
  rw [← he]
  unfold endW
  rw [List.getLastD_eq_getLast?, List.getLast?_eq_some_getLast (by simp)]; rfl

end Go.Proofs.YtljnjpjnadlmhaaDoor

/- Plain mathematics of going through a net by steps that can be taken, each knot with the one from which one came. No program stands here. -/
namespace Go.Proofs.YtljnjpjnadlmhaaDoor
set_option linter.unusedVariables false

/-- from a knot back to a, by those from which one came -/
def Chn (fr : Nat → Int) (a : Nat) : List Nat → Prop
  | [] => False
  | [x] => x = a
  | x :: y :: q => x ≠ a ∧ fr x = (y : Int) ∧ Chn fr a (y :: q)
theorem Chn.keep {fr fr' : Nat → Int} {a : Nat} : ∀ {q : List Nat}, Chn fr a q → (∀ z, z ∈ q → fr' z = fr z) → Chn fr' a q := by
  intro q
  induction q with
  | nil => intro h _; exact h
  | cons x q ih =>
    cases q with
    | nil => intro h _; exact h
    | cons y q =>
      intro h hk
      exact ⟨h.1, (hk x (by simp)).trans h.2.1, ih h.2.2 (fun z hz => hk z (List.mem_cons_of_mem _ hz))⟩
theorem Chn.last {fr : Nat → Int} {a : Nat} : ∀ {q : List Nat} (hne : q ≠ []), Chn fr a q → q.getLast hne = a := by
  intro q
  induction q with
  | nil => intro hne _; exact absurd rfl hne
  | cons x q ih =>
    cases q with
    | nil => intro _ h; exact h
    | cons y q => intro _ h; rw [List.getLast_cons (by simp)]; exact ih (by simp) h.2.2
/-- at a place of the chain: the end, or the next one stands there -/
theorem Chn.at {fr : Nat → Int} {a : Nat} : ∀ {q : List Nat}, Chn fr a q → ∀ i, i < q.length → (i + 1 = q.length ∧ q.getD i 0 = a) ∨ (i + 1 < q.length ∧ q.getD i 0 ≠ a ∧ fr (q.getD i 0) = ((q.getD (i + 1) 0 : Nat) : Int)) := by
  intro q
  induction q with
  | nil => intro h i hi; simp at hi
  | cons x q ih =>
    cases q with
    | nil => intro h i hi; simp at hi; subst hi; exact Or.inl ⟨rfl, h⟩
    | cons y q =>
      intro h i hi
      cases i with
      | zero => exact Or.inr ⟨by simp, h.1, h.2.1⟩
      | succ i =>
        rcases ih h.2.2 i (by simpa using hi) with ⟨h1, h2⟩ | ⟨h1, h2, h3⟩
        · exact Or.inl ⟨by simp only [List.length_cons] at h1 ⊢; omega, h2⟩
        · exact Or.inr ⟨by simp only [List.length_cons] at h1 ⊢; omega, h2, h3⟩
/-- the part of a chain that was gone back along, a step more -/
theorem goB_take (F : Nat → Nat → Int) : ∀ (q : List Nat) (i : Nat), i + 1 < q.length → goB F (q.take (i + 2)) = goE (goB F (q.take (i + 1))) (q.getD (i + 1) 0) (q.getD i 0) := by
  intro q
  induction q generalizing F with
  | nil => intro i h; simp at h
  | cons x q ih =>
    cases q with
    | nil => intro i h; simp at h
    | cons y q =>
      intro i h
      cases i with
      | zero =>
        show goB (goE F y x) [y] = goE F y x
        rfl
      | succ i =>
        have := ih (goE F y x) i (by simpa using h)
        show goB (goE F y x) ((y :: q).take (i + 2)) = goE (goB (goE F y x) ((y :: q).take (i + 1))) _ _
        rw [this]; rfl

/-- who is known and from where; ex: who is under way -/
structure Bp (T : Nat → Nat → Bool) (F : Nat → Nat → Int) (a Kn : Nat) (fr : Nat → Int) (row : List Nat) (ex : Nat → Prop) : Prop where
  low : ∀ y, 0 ≤ fr y → y < Kn
  bnd : ∀ y, -1 ≤ fr y ∧ fr y < (Kn : Int)
  start : fr a = (a : Int)
  chain : ∀ y, 0 ≤ fr y → ∃ q, Chn fr a (y :: q) ∧ (y :: q).Nodup ∧ canR T F (y :: q) ∧ ∀ z, z ∈ y :: q → 0 ≤ fr z
  inrow : ∀ y, y ∈ row → 0 ≤ fr y
  closed : ∀ y, 0 ≤ fr y → y ∈ row ∨ ex y ∨ ∀ z, z < Kn → T y z = true → F y z < 1 → 0 ≤ fr z
theorem Bp.first {T : Nat → Nat → Bool} {F : Nat → Nat → Int} {a Kn : Nat} (ha : a < Kn) : Bp T F a Kn (fun y => if y = a then (a : Int) else -1) [a] (fun _ => False) := by
  have h1 : ∀ y, 0 ≤ (if y = a then (a : Int) else -1) → y = a := by intro y h; by_cases e : y = a; exact e; simp [e] at h
  refine ⟨fun y h => by rw [h1 y h]; exact ha, fun y => by split <;> omega, if_pos rfl, fun y h => ?_, fun y h => by rw [List.mem_singleton.1 h, if_pos rfl]; omega, fun y h => Or.inl (by rw [h1 y h]; simp)⟩
  rw [h1 y h]
  exact ⟨[], rfl, by simp, trivial, fun z hz => by rw [List.mem_singleton.1 hz, if_pos rfl]; omega⟩
theorem Bp.pop {T : Nat → Nat → Bool} {F : Nat → Nat → Int} {a Kn : Nat} {fr : Nat → Int} {x : Nat} {row : List Nat} (h : Bp T F a Kn fr (x :: row) (fun _ => False)) : 0 ≤ fr x ∧ Bp T F a Kn fr row (fun y => y = x) := by
  refine ⟨h.inrow x (by simp), h.low, h.bnd, h.start, h.chain, fun y hy => h.inrow y (List.mem_cons_of_mem _ hy), fun y hy => ?_⟩
  rcases h.closed y hy with q | q | q
  · rcases List.mem_cons.1 q with e | e
    · exact Or.inr (Or.inl e)
    · exact Or.inl e
  · exact q.elim
  · exact Or.inr (Or.inr q)
def setF (fr : Nat → Int) (k x : Nat) : Nat → Int := fun y => if y = k then (x : Int) else fr y
theorem setF_old {fr : Nat → Int} {k x y : Nat} (hk : fr k < 0) (h : 0 ≤ fr y) : setF fr k x y = fr y := by
  unfold setF; rw [if_neg (fun e => by rw [e] at h; omega)]
theorem setF_at {fr : Nat → Int} {k x : Nat} : setF fr k x k = (x : Int) := if_pos rfl
theorem setF_known {fr : Nat → Int} {k x y : Nat} (hk : fr k < 0) (h : 0 ≤ fr y) : 0 ≤ setF fr k x y := by rw [setF_old hk h]; exact h
theorem Bp.push {T : Nat → Nat → Bool} {F : Nat → Nat → Int} {a Kn : Nat} {fr : Nat → Int} {x k : Nat} {row : List Nat} {ex : Nat → Prop} (h : Bp T F a Kn fr row ex) (hx : 0 ≤ fr x) (hk : k < Kn) (hn : fr k < 0) (h1 : T x k = true) (h2 : F x k < 1) : Bp T F a Kn (setF fr k x) (row ++ [k]) ex := by
  have hxk := h.low x hx
  refine ⟨fun y hy => ?_, fun y => ?_, ?_, fun y hy => ?_, fun y hy => ?_, fun y hy => ?_⟩
  · by_cases e : y = k
    · rw [e]; exact hk
    · exact h.low y (by unfold setF at hy; rwa [if_neg e] at hy)
  · unfold setF
    by_cases e : y = k
    · rw [if_pos e]; omega
    · rw [if_neg e]; exact h.bnd y
  · rw [setF_old hn (by rw [h.start]; omega)]; exact h.start
  · by_cases e : y = k
    · subst e
      obtain ⟨q, q1, q2, q3, q4⟩ := h.chain x hx
      have hno : y ∉ x :: q := fun m => by have := q4 y m; omega
      have hya : y ≠ a := fun m => by rw [m, h.start] at hn; omega
      refine ⟨x :: q, ⟨hya, setF_at, q1.keep (fun z hz => setF_old hn (q4 z hz))⟩, List.nodup_cons.2 ⟨hno, q2⟩, ⟨h1, h2, q3⟩, fun z hz => ?_⟩
      rcases List.mem_cons.1 hz with m | m
      · rw [m, setF_at]; omega
      · exact setF_known hn (q4 z m)
    · have hy' : 0 ≤ fr y := by unfold setF at hy; rwa [if_neg e] at hy
      obtain ⟨q, q1, q2, q3, q4⟩ := h.chain y hy'
      exact ⟨q, q1.keep (fun z hz => setF_old hn (q4 z hz)), q2, q3, fun z hz => setF_known hn (q4 z hz)⟩
  · rcases List.mem_append.1 hy with m | m
    · exact setF_known hn (h.inrow y m)
    · rw [List.mem_singleton.1 m, setF_at]; omega
  · by_cases e : y = k
    · exact Or.inl (by rw [e]; simp)
    · have hy' : 0 ≤ fr y := by unfold setF at hy; rwa [if_neg e] at hy
      rcases h.closed y hy' with m | m | m
      · exact Or.inl (List.mem_append_left _ m)
      · exact Or.inr (Or.inl m)
      · exact Or.inr (Or.inr (fun z hz z1 z2 => setF_known hn (m z hz z1 z2)))
theorem Bp.done {T : Nat → Nat → Bool} {F : Nat → Nat → Int} {a Kn : Nat} {fr : Nat → Int} {x : Nat} {row : List Nat} (h : Bp T F a Kn fr row (fun y => y = x)) (hn : ∀ z, z < Kn → T x z = true → F x z < 1 → 0 ≤ fr z) : Bp T F a Kn fr row (fun _ => False) := by
  refine ⟨h.low, h.bnd, h.start, h.chain, h.inrow, fun y hy => ?_⟩
  rcases h.closed y hy with q | q | q
  · exact Or.inl q
  · rw [q]; exact Or.inr (Or.inr hn)
  · exact Or.inr (Or.inr q)
theorem Bp.most {T : Nat → Nat → Bool} {F : Nat → Nat → Int} {a b Kn : Nat} {fr : Nat → Int} {v : Int} (h : Bp T F a Kn fr [] (fun _ => False)) (hf : Flw T a b F v) (ha : a < 8) (hT8 : ∀ x y, T x y = true → y < Kn) (hb : fr b < 0) : MostW T a b v := by
  refine most_of (S := fun y => decide (0 ≤ fr y)) hf ha (by rw [h.start]; simp) (by simp; omega) (fun x y hx hy h1 h2 h3 => ?_)
  have h1' : 0 ≤ fr x := by simpa using h1
  rcases h.closed x h1' with q | q | q
  · simp at q
  · exact q.elim
  · simpa using q y (hT8 x y h2) h2 h3
theorem Bp.back {T : Nat → Nat → Bool} {F : Nat → Nat → Int} {a b Kn : Nat} {fr : Nat → Int} {v : Int} {row : List Nat} {ex : Nat → Prop} (h : Bp T F a Kn fr row ex) (hf : Flw T a b F v) (hT : ∀ x y, T x y = T y x) (hK : Kn ≤ 8) (hab : a ≠ b) (hb : 0 ≤ fr b) : ∃ q, Chn fr a (b :: q) ∧ (b :: q).Nodup ∧ (∀ z, z ∈ b :: q → z < Kn) ∧ Flw T a b (goB F (b :: q)) (v + 1) := by
  obtain ⟨q, q1, q2, q3, q4⟩ := h.chain b hb
  have h8 : ∀ z, z ∈ b :: q → z < 8 := fun z hz => Nat.lt_of_lt_of_le (h.low z (q4 z hz)) hK
  exact ⟨q, q1, q2, fun z hz => h.low z (q4 z hz), hf.moreB hT h8 q2 (q1.last (by simp)) hab q3⟩

theorem goB_bound (q : List Nat) {F : Nat → Nat → Int} {c : Int} (h : ∀ u v, -c ≤ F u v ∧ F u v ≤ c) : ∀ u v, -(c + (q.length : Int)) ≤ goB F q u v ∧ goB F q u v ≤ c + (q.length : Int) := by
  induction q generalizing F c with
  | nil => intro u v; have := h u v; show -(c + 0) ≤ F u v ∧ F u v ≤ c + 0; omega
  | cons y q ih =>
    cases q with
    | nil => intro u v; have := h u v; show -(c + 1) ≤ F u v ∧ F u v ≤ c + 1; omega
    | cons x q =>
      intro u v
      have h2 : ∀ u v, -(c + 1) ≤ goE F x y u v ∧ goE F x y u v ≤ c + 1 := by
        intro u v
        have := h u v
        unfold goE
        constructor
        · split <;> split <;> omega
        · split <;> split <;> omega
      have := ih h2 u v
      show -(c + (((x :: q).length + 1 : Nat) : Int)) ≤ goB (goE F x y) (x :: q) u v ∧ goB (goE F x y) (x :: q) u v ≤ c + (((x :: q).length + 1 : Nat) : Int)
      omega

end Go.Proofs.YtljnjpjnadlmhaaDoor
