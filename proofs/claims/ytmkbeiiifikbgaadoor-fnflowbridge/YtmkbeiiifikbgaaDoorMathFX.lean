/- Plain mathematics of flows: the bridge that parts two knots, where just one way leads from one to the other. No program stands here. -/
import Derived.Test.YtmkbeiiifikbgaaDoorPartWOne
import Derived.Test.YtmkbeiiifikbgaaDoorPartWFirst
import Derived.Test.YtmkbeiiifikbgaaDoorPartWFlowW
namespace Go.Proofs.YtmkbeiiifikbgaaDoor
set_option linter.unusedVariables false

/-- a tie that parts two knots -/
theorem ap_minus {K : Int} {ts : List (Int × Int)} (hok : okB K ts = true) {t : Int × Int} (ht : t ∈ ts) (a b : Int) : apB K ts a b t = !reachB (minusT ts t) a.toNat b.toNat := by
  obtain ⟨x, y, e, _, _, eo, hh⟩ := tie_knots hok ht
  unfold apB
  have h2 : cutTs K ts t.1 t.2 = minusT ts t := by
    rw [e]
    show cutTs K ts (x : Int) (y : Int) = _
    rw [cut_minus hh, eo, e]
  rw [h2]
/-- a tie that parts two knots, to one of which one comes from the other, is a bridge -/
theorem part_bridge {K : Int} {ts : List (Int × Int)} (hok : okB K ts = true) {t : Int × Int} (ht : t ∈ ts) {a b : Nat} (hr : reachB ts a b = true) (h : reachB (minusT ts t) a b = false) : t ∈ brTs K ts := by
  obtain ⟨x, y, e, _, _, eo, hh⟩ := tie_knots hok ht
  refine (mem_brTs hok t).2 ⟨ht, ?_⟩
  rw [e]
  show bridgeB K ts (x : Int) (y : Int) = true
  rw [bridge_minus hh, eo]
  cases q : reachB (minusT ts t) x y with
  | false => rfl
  | true =>
    have := cut_same hok (t := t) (x := x) (y := y) eo q hr
    rw [h] at this; cases this
theorem two_knots {K : Int} {ts : List (Int × Int)} {a b : Int} (h : twoB K ts a b = true) : knotB a K = true ∧ knotB b K = true := by
  unfold twoB at h
  simp only [Bool.and_eq_true, decide_eq_true_eq] at h
  exact ⟨h.1.1.2, h.1.2⟩
/-- the two knots, as numbers -/
theorem two_flow {K : Int} {ts : List (Int × Int)} {a b : Nat} (h : twoB K ts (a : Int) (b : Int) = true) : countI K ts (a : Int) (b : Int) = flowV ts a b := by
  unfold countI
  rw [if_pos h]; rfl
theorem apT_is {K : Int} {ts : List (Int × Int)} (hok : okB K ts = true) {a b : Nat} (ha : knotB (a : Int) K = true) (hb : knotB (b : Int) K = true) (hr : reachB ts a b = true) : apT K ts (a : Int) (b : Int) = ts.find? (fun t => !reachB (minusT ts t) a b) := by
  have hg : apGo K ts (a : Int) (b : Int) = true := by
    unfold apGo
    rw [hok, ha, hb]
    show (true && true && true && reachB ts a b) = true
    rw [hr]; rfl
  unfold apT
  rw [if_pos hg]
  have hbr : brTs K ts = ts.filter (fun t => bridgeB K ts t.1 t.2) := by unfold brTs; rw [if_pos hok]
  rw [hbr, List.find?_filter]
  have key : ∀ t, t ∈ ts → ((bridgeB K ts t.1 t.2 && apB K ts (a : Int) (b : Int) t) = !reachB (minusT ts t) a b) := by
    intro t ht
    rw [ap_minus hok ht]
    show (bridgeB K ts t.1 t.2 && !reachB (minusT ts t) a b) = _
    cases q : reachB (minusT ts t) a b with
    | true => simp
    | false =>
      have := (mem_brTs hok t).1 (part_bridge hok ht hr q)
      rw [this.2]; rfl
  clear hg hbr
  have aux : ∀ l : List (Int × Int), (∀ t, t ∈ l → t ∈ ts) → l.find? (fun t => decide (bridgeB K ts t.1 t.2 = true ∧ apB K ts (a : Int) (b : Int) t = true)) = l.find? (fun t => !reachB (minusT ts t) a b) := by
    intro l
    induction l with
    | nil => intro _; rfl
    | cons s l ih =>
      intro hl
      have hs := key s (hl s (by simp))
      rw [List.find?_cons, List.find?_cons, ih (fun t ht => hl t (List.mem_cons_of_mem _ ht))]
      have : decide (bridgeB K ts s.1 s.2 = true ∧ apB K ts (a : Int) (b : Int) s = true) = !reachB (minusT ts s) a b := by
        rw [← hs]; simp
      rw [this]
  have := aux ts (fun t h => h)
  simpa using this
/-- just one way leads there just if a bridge parts both -/
theorem one_apart {K : Int} {ts : List (Int × Int)} {a b : Nat} (h : twoB K ts (a : Int) (b : Int) = true) : flowV ts a b = 1 ↔ (apT K ts (a : Int) (b : Int)).isSome = true := by
  obtain ⟨hok, x, y, e1, e2, hx, hy, hxk, hyk, hxy⟩ := knot_nat h
  obtain rfl : a = x := by omega
  obtain rfl : b = y := by omega
  rw [flow_one hok hx hy hxy]
  cases hr : reachB ts a b with
  | false =>
    have hno : apT K ts (a : Int) (b : Int) = none := apT_no (by
      unfold apGo
      show (okB K ts && knotB (a : Int) K && knotB (b : Int) K && reachB ts a b) = false
      rw [hr]; simp)
    rw [hno]
    constructor
    · rintro ⟨h, _⟩; cases h
    · intro h; cases h
  | true =>
    rw [apT_is hok (two_knots h).1 (two_knots h).2 hr, List.find?_isSome]
    constructor
    · rintro ⟨_, t, ht, hq⟩; exact ⟨t, ht, by rw [hq]; rfl⟩
    · rintro ⟨t, ht, hq⟩; exact ⟨rfl, t, ht, by simpa using hq⟩
/-- where two knots are not two knots of it that are not the same no bridge parts them -/
theorem apart_none {K : Int} {ts : List (Int × Int)} {a b : Int} (h : twoB K ts a b = false) : apT K ts a b = none := by
  by_cases hg : apGo K ts a b = true
  · unfold apGo at hg
    simp only [Bool.and_eq_true] at hg
    obtain ⟨⟨⟨h1, h2⟩, h3⟩, h4⟩ := hg
    have hab : a = b := by
      refine Decidable.byContradiction (fun q => ?_)
      unfold twoB at h
      rw [h1, h2, h3, decide_eq_true q] at h
      cases h
    subst hab
    refine apT_end (fun j hj => ?_)
    unfold apB
    rw [Bool.not_eq_false']
    unfold reachB
    simp
  · exact apT_no (by simpa using hg)
/-- the number of ways is one just if a bridge parts both -/
theorem count_apart (K : Int) (ts : List (Int × Int)) (a b : Int) : countI K ts a b = 1 ↔ (apT K ts a b).isSome = true := by
  cases h : twoB K ts a b with
  | false =>
    rw [apart_none h]
    have hc : countI K ts a b = -1 := by unfold countI; rw [h]; rfl
    rw [hc]
    constructor
    · intro e; exact absurd e (by decide)
    · intro e; cases e
  | true =>
    obtain ⟨_, x, y, rfl, rfl, _⟩ := knot_nat h
    rw [two_flow h]; exact one_apart h
/-- what parts both is a tie, a bridge, and without it one doesn't come there -/
theorem apT_parts {K : Int} {ts : List (Int × Int)} {a b : Int} {t : Int × Int} (h : apT K ts a b = some t) : t ∈ ts ∧ hasB K ts t.1 t.2 = true ∧ bridgeB K ts t.1 t.2 = true ∧ reachB (cutTs K ts t.1 t.2) a.toNat b.toNat = false ∧ okB K ts = true ∧ knotB a K = true ∧ knotB b K = true := by
  unfold apT at h
  split at h
  · rename_i hg
    have hm := List.mem_of_find?_eq_some h
    have hq := List.find?_some h
    unfold apGo at hg
    simp only [Bool.and_eq_true] at hg
    obtain ⟨⟨⟨h1, h2⟩, h3⟩, _⟩ := hg
    obtain ⟨m1, m2⟩ := (mem_brTs h1 t).1 hm
    obtain ⟨x, y, e, _, _, _, hh⟩ := tie_knots h1 m1
    refine ⟨m1, by rw [e]; exact hh, m2, ?_, h1, h2, h3⟩
    unfold apB at hq
    simpa using hq
  · cases h
/-- where none can go nothing is taken -/
theorem cutG_stop {a b : Nat} (ha : a < 8) (hab : a ≠ b) : ∀ (r left : List (Int × Int)), flowV left a b ≤ 0 → cutG a b r left = [] := by
  intro r
  induction r with
  | nil => intro left _; rfl
  | cons s r ih =>
    intro left h
    have h0 := flowV_nonneg (minusT left s) (a := a) (b := b) ha hab
    unfold cutG
    rw [if_neg (by omega)]
    exact ih left h
/-- where just one way goes the first tie that parts both is taken, and nothing else -/
theorem cutG_one {K : Int} {ts : List (Int × Int)} (hok : okB K ts = true) {a b : Nat} (ha : a < 8) (hb : b < 8) (hab : a ≠ b) (h : flowV ts a b = 1) : ∀ r : List (Int × Int), cutG a b r ts = (r.find? (fun t => !reachB (minusT ts t) a b)).toList := by
  intro r
  induction r with
  | nil => rfl
  | cons s r ih =>
    have hz := flowV_zero (minus_ok hok s) ha hb hab
    have h0 := flowV_nonneg (minusT ts s) (a := a) (b := b) ha hab
    unfold cutG
    rw [List.find?_cons]
    cases q : reachB (minusT ts s) a b with
    | false =>
      have := hz.2 q
      rw [if_pos (by omega), cutG_stop ha hab r _ (by omega)]; rfl
    | true =>
      have : ¬ flowV (minusT ts s) a b < flowV ts a b := fun e => by
        have := hz.1 (by omega)
        rw [q] at this; cases this
      rw [if_neg this, ih]; rfl
/-- the fewest ties are that bridge alone -/
theorem cut_apart {K : Int} {ts : List (Int × Int)} {a b : Int} {t : Int × Int} (h : twoB K ts a b = true) (ht : apT K ts a b = some t) : cutI K ts a b = [t] := by
  obtain ⟨hok, x, y, rfl, rfl, hx, hy, hxk, hyk, hxy⟩ := knot_nat h
  have h1 : flowV ts x y = 1 := (one_apart h).2 (by rw [ht]; rfl)
  have hr := ((flow_one hok hx hy hxy).1 h1).1
  rw [apT_is hok (two_knots h).1 (two_knots h).2 hr] at ht
  unfold cutI
  rw [if_pos h]
  show cutG x y ts ts = [t]
  rw [cutG_one hok hx hy hxy h1, ht]; rfl
/-- none goes just if one doesn't come there -/
theorem count_zero {K : Int} {ts : List (Int × Int)} {a b : Nat} (h : twoB K ts (a : Int) (b : Int) = true) : (countI K ts (a : Int) (b : Int) = 0 ↔ reachB ts a b = false) := by
  obtain ⟨hok, x, y, e1, e2, hx, hy, hxk, hyk, hxy⟩ := knot_nat h
  obtain rfl : a = x := by omega
  obtain rfl : b = y := by omega
  rw [two_flow h]; exact flowV_zero hok hx hy hxy

end Go.Proofs.YtmkbeiiifikbgaaDoor
