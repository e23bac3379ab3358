/- Plain mathematics of the ways that are found: how long they are, and what they are. No program stands here. -/
import Derived.Test.YtoldljbbjhipnaaMathP
namespace Go.Proofs.Ytoldljbbjhipnaa
set_option linter.unusedVariables false

theorem Lp.snoc {E : Nat → Nat → Bool} {b c : Nat} : ∀ {d x}, Lp E b d x → E b c = true → Lp E c (d + 1) x := by
  intro d
  induction d with
  | zero => intro x h hc; obtain rfl : x = b := h; exact ⟨c, hc, rfl⟩
  | succ d ih => rintro x ⟨y, hy, h⟩ hc; exact ⟨y, hy, ih h hc⟩
theorem Lp.turn {E : Nat → Nat → Bool} (hsym : ∀ x y, E x y = true → E y x = true) {b : Nat} : ∀ {d x}, Lp E b d x → Lp E x d b := by
  intro d
  induction d with
  | zero => intro x h; exact h.symm
  | succ d ih => rintro x ⟨y, hy, h⟩; exact (ih h).snoc (hsym _ _ hy)
theorem Lp.comp {E : Nat → Nat → Bool} {k b : Nat} {e : Nat} (h2 : Lp E b e k) : ∀ {d x}, Lp E k d x → Lp E b (d + e) x := by
  intro d
  induction d with
  | zero => intro x h; obtain rfl : x = k := h; rw [Nat.zero_add]; exact h2
  | succ d ih => rintro x ⟨y, hy, h⟩; rw [Nat.succ_add]; exact ⟨y, hy, ih h⟩
theorem Lp.mono {E E' : Nat → Nat → Bool} (hE : ∀ x y, E x y = true → E' x y = true) {b : Nat} : ∀ {d x}, Lp E b d x → Lp E' b d x := by
  intro d
  induction d with
  | zero => intro x h; exact h
  | succ d ih => rintro x ⟨y, hy, h⟩; exact ⟨y, hE _ _ hy, ih h⟩
theorem least_of {p : Nat → Prop} : ∀ n, p n → ∃ d, p d ∧ ∀ e, p e → d ≤ e := by
  intro n
  induction n using Nat.strongRecOn with
  | _ n ih =>
    intro hn
    by_cases h : ∃ m, m < n ∧ p m
    · obtain ⟨m, hm, hp⟩ := h
      exact ih m hm hp
    · exact ⟨n, hn, fun e he => Nat.le_of_not_lt fun hlt => h ⟨e, hlt, he⟩⟩
theorem fr_some (E : Nat → Nat → Bool) (b : Nat) : ∃ F, Fr E b F := by
  have h : ∀ x, ∃ v : Int, (0 ≤ v → Lp E b v.toNat x) ∧ ∀ d, Lp E b d x → 0 ≤ v ∧ v ≤ d := by
    intro x
    by_cases hx : ∃ d, Lp E b d x
    · obtain ⟨n, hn⟩ := hx
      obtain ⟨d, hd, hm⟩ := least_of (p := fun d => Lp E b d x) n hn
      exact ⟨(d : Int), fun _ => by rw [Int.toNat_natCast]; exact hd, fun e he => ⟨by omega, by have := hm e he; omega⟩⟩
    · exact ⟨-1, fun h => by omega, fun d hd => absurd ⟨d, hd⟩ hx⟩
  refine ⟨fun x => (h x).choose, fun x hx => (h x).choose_spec.1 hx, fun x d hd => (h x).choose_spec.2 d hd⟩
/-- a net that is ok, as the ways see it -/
structure Nt (K : Int) (ts : List (Int × Int)) (Kn : Nat) : Prop where
  ok : okB K ts = true
  K : K = (Kn : Int)
theorem Nt.net {K : Int} {ts : List (Int × Int)} {Kn : Nat} (h : Nt K ts Kn) : NetOk K ts := okB_iff.1 h.ok
theorem Nt.e8 {K : Int} {ts : List (Int × Int)} {Kn : Nat} (h : Nt K ts Kn) : ∀ x y, tieNB ts x y = true → y < 8 := fun _ _ q => tieNB_8 h.net q
theorem Nt.eK {K : Int} {ts : List (Int × Int)} {Kn : Nat} (h : Nt K ts Kn) : ∀ x y, tieNB ts x y = true → y < Kn := fun _ _ q => by have := tieNB_lt h.net q; have := h.K; omega
theorem Nt.sym {K : Int} {ts : List (Int × Int)} {Kn : Nat} (h : Nt K ts Kn) : ∀ x y, tieNB ts x y = true → tieNB ts y x = true := fun _ _ q => tieNB_sym q
theorem Nt.ways {K : Int} {ts : List (Int × Int)} {Kn a b : Nat} (h : Nt K ts Kn) (ha : a < Kn) (hb : b < Kn) : waysB K ts (a : Int) (b : Int) = allTo (tieNB ts) a b Kn := by
  rw [waysB_yes (by rw [h.ok, h.K]; simp [knotB]; omega), h.K]; simp
/-- a way is found just if one leads there; it is as short as can be -/
theorem Nt.found {K : Int} {ts : List (Int × Int)} {Kn a b : Nat} (h : Nt K ts Kn) (ha : a < Kn) (hb : b < Kn) :
    (foundB K ts a b = true → Lp (tieNB ts) b ((findB K ts a b).length - 1) a ∧ 0 < (findB K ts a b).length ∧ ∀ d, Lp (tieNB ts) b d a → (findB K ts a b).length ≤ d + 1) ∧ (foundB K ts a b = false → ∀ d, ¬ Lp (tieNB ts) b d a) := by
  obtain ⟨F, hF⟩ := fr_some (tieNB ts) b
  by_cases hneg : F a < 0
  · have e : waysB K ts a b = [] := (h.ways ha hb).trans (find_no hF hneg)
    have e2 : foundB K ts a b = false := by unfold foundB; rw [e]; rfl
    exact ⟨fun q => absurd (e2.symm.trans q) (by simp), fun _ d hd => by have := hF.few a d hd; omega⟩
  · obtain ⟨D, hD⟩ : ∃ D : Nat, F a = (D : Int) := ⟨(F a).toNat, by omega⟩
    have e : (waysB K ts a b).head? = some (a :: geo (tieNB ts) F D a) := by rw [h.ways ha hb]; exact find_is h.e8 h.eK h.sym hF ha hD
    have e1 : findB K ts a b = a :: geo (tieNB ts) F D a := by unfold findB; rw [e]; rfl
    have e2 : foundB K ts a b = true := by unfold foundB; rw [e]; rfl
    have hl : ∀ d x, (geo (tieNB ts) F d x).length = d := by
      intro d
      induction d with
      | zero => intro x; rfl
      | succ d ih => intro x; simp [geo, ih]
    have hlen : (findB K ts a b).length = D + 1 := by rw [e1]; simp [hl]
    refine ⟨fun _ => ⟨?_, by omega, fun d hd => ?_⟩, fun q => by rw [e2] at q; cases q⟩
    · have := hF.far a (by omega)
      rw [hD, Int.toNat_natCast] at this
      rw [hlen]; exact this
    · have := hF.few a d hd; omega
theorem Nt.find_iff {K : Int} {ts : List (Int × Int)} {Kn a b : Nat} (h : Nt K ts Kn) (ha : a < Kn) (hb : b < Kn) : foundB K ts a b = true ↔ ∃ d, Lp (tieNB ts) b d a := by
  obtain ⟨h1, h2⟩ := h.found ha hb
  constructor
  · intro q; exact ⟨_, (h1 q).1⟩
  · rintro ⟨d, hd⟩
    cases q : foundB K ts a b
    · exact absurd hd (h2 q d)
    · rfl
/-- what is found in no net is found in none that is not ok, and of no other numbers -/
theorem found_net {K : Int} {ts : List (Int × Int)} {a b : Int} (h : foundB K ts a b = true) : ∃ Kn x y : Nat, Nt K ts Kn ∧ a = (x : Int) ∧ b = (y : Int) ∧ x < Kn ∧ y < Kn ∧ Kn ≤ 8 := by
  cases hc : (okB K ts && knotB a K && knotB b K)
  · unfold foundB at h; rw [waysB_no hc] at h; cases h
  · simp only [Bool.and_eq_true, knotB, decide_eq_true_eq] at hc
    obtain ⟨⟨h1, h2⟩, h3⟩ := hc
    have := okB_iff.1 h1
    exact ⟨K.toNat, a.toNat, b.toNat, ⟨h1, by omega⟩, by omega, by omega, by omega, by omega, by have := this.2.1; omega⟩
/-- a way by a third knot is not shorter -/
theorem way_three {K : Int} {ts : List (Int × Int)} {a b : Int} (h : foundB K ts a b = true) {k : Nat} (hk : (k : Int) < K) : foundB K ts a (k : Int) = foundB K ts (k : Int) b ∧ (foundB K ts a (k : Int) = true → (findB K ts a b).length ≤ (findB K ts a (k : Int)).length + (findB K ts (k : Int) b).length - 1 ∧ 0 < (findB K ts a (k : Int)).length) := by
  obtain ⟨Kn, x, y, N, rfl, rfl, hx, hy, h8⟩ := found_net h
  have hkK : k < Kn := by have := N.K; omega
  have hb := ((N.found hx hy).1 h)
  have e : foundB K ts (x : Int) (k : Int) = foundB K ts (k : Int) (y : Int) := by
    rw [Bool.eq_iff_iff, N.find_iff hx hkK, N.find_iff hkK hy]
    constructor
    · rintro ⟨d, hd⟩; exact ⟨_, Lp.comp hb.1 (hd.turn N.sym)⟩
    · rintro ⟨d, hd⟩; exact ⟨_, Lp.comp (hd.turn N.sym) hb.1⟩
  refine ⟨e, fun q => ?_⟩
  have h1 := (N.found hx hkK).1 q
  have h2 := (N.found hkK hy).1 (e ▸ q)
  have := hb.2.2 _ (Lp.comp h2.1 h1.1)
  omega
/-- to a knot that is tied to one it is one tie more, or less, or as far -/
theorem way_far {K : Int} {ts : List (Int × Int)} {a b : Int} (h : foundB K ts a b = true) {k : Nat} (ht : hasB K ts b (k : Int) = true) : foundB K ts a (k : Int) = true ∧ (findB K ts a (k : Int)).length ≤ (findB K ts a b).length + 1 ∧ (findB K ts a b).length ≤ (findB K ts a (k : Int)).length + 1 ∧ 0 < (findB K ts a b).length := by
  obtain ⟨Kn, x, y, N, rfl, rfl, hx, hy, h8⟩ := found_net h
  have hE : tieNB ts y k = true := by rw [hasB_ok N.ok] at ht; exact ht
  have hkK := N.eK _ _ hE
  have hb := ((N.found hx hy).1 h)
  have hf : foundB K ts (x : Int) (k : Int) = true := (N.find_iff hx hkK).2 ⟨_, hb.1.snoc hE⟩
  have hk := (N.found hx hkK).1 hf
  have h1 := hk.2.2 _ (hb.1.snoc hE)
  have h2 := hb.2.2 _ (hk.1.snoc (N.sym _ _ hE))
  exact ⟨hf, by omega, by omega, hb.2.1⟩
/-- with more ties no way gets longer, and none gets lost -/
theorem way_more {K : Int} {ts us : List (Int × Int)} {a b : Int} (h : foundB K ts a b = true) (hok : okB K us = true) (hE : ∀ x y, tieNB ts x y = true → tieNB us x y = true) : foundB K us a b = true ∧ (findB K us a b).length ≤ (findB K ts a b).length := by
  obtain ⟨Kn, x, y, N, rfl, rfl, hx, hy, h8⟩ := found_net h
  have N' : Nt K us Kn := ⟨hok, N.K⟩
  have hb := ((N.found hx hy).1 h)
  have hf := (N'.find_iff hx hy).2 ⟨_, hb.1.mono hE⟩
  have := ((N'.found hx hy).1 hf).2.2 _ (hb.1.mono hE)
  exact ⟨hf, by omega⟩
/-- what the first way is -/
theorem find_geo {K : Int} {ts : List (Int × Int)} {Kn x y : Nat} (N : Nt K ts Kn) (hx : x < Kn) (hy : y < Kn) (h : foundB K ts x y = true) {F : Nat → Int} (hF : Fr (tieNB ts) y F) : F x = ((findB K ts x y).length : Int) - 1 ∧ findB K ts x y = x :: geo (tieNB ts) F ((findB K ts x y).length - 1) x := by
  have h1 := (N.found hx hy).1 h
  have h2 := hF.few x _ h1.1
  obtain ⟨D, hD⟩ : ∃ D : Nat, F x = (D : Int) := ⟨(F x).toNat, by omega⟩
  have e : (waysB K ts x y).head? = some (x :: geo (tieNB ts) F D x) := by rw [N.ways hx hy]; exact find_is N.e8 N.eK N.sym hF hx hD
  have e1 : findB K ts x y = x :: geo (tieNB ts) F D x := by unfold findB; rw [e]; rfl
  have hl : ∀ d x, (geo (tieNB ts) F d x).length = d := by
    intro d
    induction d with
    | zero => intro x; rfl
    | succ d ih => intro x; simp [geo, ih]
  have hlen : (findB K ts x y).length = D + 1 := by rw [e1]; simp [hl]
  exact ⟨by omega, by rw [hlen, Nat.add_sub_cancel]; exact e1⟩
theorem geo_at {E : Nat → Nat → Bool} {F : Nat → Int} : ∀ i d x, i ≤ d → (x :: geo E F d x).getD i 0 = geoAt E F i x := by
  intro i
  induction i with
  | zero => intro d x _; rfl
  | succ i ih =>
    intro d x h
    obtain ⟨d, rfl⟩ : ∃ e, d = e + 1 := ⟨d - 1, by omega⟩
    show (near E F x :: geo E F d (near E F x)).getD i 0 = _
    exact ih d _ (by omega)
theorem geo_drop {E : Nat → Nat → Bool} {F : Nat → Int} : ∀ i d x, i ≤ d → (x :: geo E F d x).drop i = geoAt E F i x :: geo E F (d - i) (geoAt E F i x) := by
  intro i
  induction i with
  | zero => intro d x _; rfl
  | succ i ih =>
    intro d x h
    obtain ⟨d, rfl⟩ : ∃ e, d = e + 1 := ⟨d - 1, by omega⟩
    rw [Nat.succ_sub_succ]
    exact ih d _ (by omega)
theorem geo_lp {E : Nat → Nat → Bool} {F : Nat → Int} (hE8 : ∀ x y, E x y = true → y < 8) (hsym : ∀ x y, E x y = true → E y x = true) {b : Nat} (h : Fr E b F) : ∀ i x d, i ≤ d → F x = ((d : Nat) : Int) → Lp E (geoAt E F i x) i x := by
  intro i
  induction i with
  | zero => intro x d _ _; rfl
  | succ i ih =>
    intro x d hi hx
    obtain ⟨d, rfl⟩ : ∃ e, d = e + 1 := ⟨d - 1, by omega⟩
    obtain ⟨n1, n2, n3, n4⟩ := near_is hE8 h hsym (x := x) (d := d) (by rw [hx]; omega)
    exact ⟨_, n1, ih _ d (by omega) n2⟩
/-- a piece of the way that is found is as short as can be -/
theorem way_piece {K : Int} {ts : List (Int × Int)} {a b : Int} (h : foundB K ts a b = true) {k : Nat} (hk : k < (findB K ts a b).length) :
    foundB K ts a ((findB K ts a b).getD k 0 : Nat) = true ∧ foundB K ts ((findB K ts a b).getD k 0 : Nat) b = true ∧ (findB K ts a ((findB K ts a b).getD k 0 : Nat)).length = k + 1 ∧ findB K ts ((findB K ts a b).getD k 0 : Nat) b = (findB K ts a b).drop k := by
  obtain ⟨Kn, x, y, N, rfl, rfl, hx, hy, h8⟩ := found_net h
  obtain ⟨F, hF⟩ := fr_some (tieNB ts) y
  obtain ⟨g1, g2⟩ := find_geo N hx hy h hF
  obtain ⟨D, hD⟩ : ∃ D, (findB K ts x y).length = D + 1 := ⟨(findB K ts x y).length - 1, by omega⟩
  rw [hD, Nat.add_sub_cancel] at g2
  have hFx : F x = (D : Int) := by rw [g1, hD]; omega
  have hkD : k ≤ D := by omega
  have hz : (findB K ts x y).getD k 0 = geoAt (tieNB ts) F k x := by rw [g2]; exact geo_at k D x hkD
  have hzK := geoAt_knot (Kn := Kn) N.e8 N.eK N.sym hF k x D hkD hFx hx
  have hFz := geoAt_far N.e8 N.sym hF k x D hkD hFx
  have hlp := geo_lp N.e8 N.sym hF k x D hkD hFx
  rw [hz]
  obtain ⟨z, hzz⟩ : ∃ z, z = geoAt (tieNB ts) F k x := ⟨_, rfl⟩
  rw [← hzz] at hzK hFz hlp ⊢
  have hf1 : foundB K ts (x : Int) (z : Int) = true := (N.find_iff hx hzK).2 ⟨_, hlp⟩
  have hlz := hF.far z (by omega)
  rw [show (F z).toNat = D - k by omega] at hlz
  have hf2 : foundB K ts (z : Int) (y : Int) = true := (N.find_iff hzK hy).2 ⟨_, hlz⟩
  have h1 := (N.found hx hzK).1 hf1
  have h2 := h1.2.2 _ hlp
  have h3 := hF.few x _ (Lp.comp hlz h1.1)
  obtain ⟨q1, q2⟩ := find_geo N hzK hy hf2 hF
  have hl2 : (findB K ts (z : Int) (y : Int)).length = D - k + 1 := by omega
  refine ⟨hf1, hf2, by omega, ?_⟩
  rw [q2, hl2, Nat.add_sub_cancel, g2, geo_drop k D x hkD, ← hzz]

/-! ### what is told is a way -/
/-- knots of which each is tied to the next one, none twice -/
structure Pw (E : Nat → Nat → Bool) (q : List Nat) : Prop where
  tie : ∀ i, i + 1 < q.length → E (q.getD i 0) (q.getD (i + 1) 0) = true
  new : ∀ i j, i < j → j < q.length → q.getD i 0 ≠ q.getD j 0
theorem Pw.snoc {E : Nat → Nat → Bool} {p : List Nat} (h : Pw E p) (h0 : 0 < p.length) {k : Nat} (he : E (lastN p) k = true) (hn : k ∉ p) : Pw E (p ++ [k]) := by
  have gl : ∀ i, i < p.length → (p ++ [k]).getD i 0 = p.getD i 0 := fun i hi => by simp [List.getElem?_append_left hi]
  have ge : (p ++ [k]).getD p.length 0 = k := by simp
  have hl : p.getD (p.length - 1) 0 = lastN p := by
    obtain ⟨q, z, rfl⟩ : ∃ q z, p = q ++ [z] := ⟨p.dropLast, p.getLast (by intro e; simp [e] at h0), (List.dropLast_concat_getLast _).symm⟩
    rw [lastN_snoc]; simp
  refine ⟨fun i hi => ?_, fun i j hij hj => ?_⟩
  · simp at hi
    by_cases e : i + 1 = p.length
    · rw [gl i (by omega), e, ge, show i = p.length - 1 by omega, hl]; exact he
    · rw [gl i (by omega), gl (i + 1) (by omega)]; exact h.tie i (by omega)
  · simp at hj
    by_cases e : j = p.length
    · subst e
      rw [gl i hij, ge]
      intro e
      exact hn (by rw [← e]; simp [hij])
    · rw [gl i (by omega), gl j (by omega)]; exact h.new i j hij (by omega)
theorem Pw.one (E : Nat → Nat → Bool) (a : Nat) : Pw E [a] := ⟨fun i hi => by simp at hi, fun i j hij hj => by simp at hj; omega⟩
theorem onW_way {E : Nat → Nat → Bool} {b s : Nat} : ∀ f p, 0 < p.length → Pw E p → ∀ q, q ∈ onW E b s f p → Pw E q ∧ lastN q = b ∧ q.getD 0 0 = p.getD 0 0 ∧ 0 < q.length := by
  intro f
  induction f with
  | zero =>
    intro p h0 hp q hq
    by_cases h : lastN p = b
    · rw [onW_end h] at hq
      split at hq
      · simp at hq; subst hq; exact ⟨hp, h, rfl, h0⟩
      · simp at hq
    · rw [onW_stop h] at hq; simp at hq
  | succ f ih =>
    intro p h0 hp q hq
    by_cases h : lastN p = b
    · rw [onW_end h] at hq
      split at hq
      · simp at hq; subst hq; exact ⟨hp, h, rfl, h0⟩
      · simp at hq
    · rw [onW_go h, onTo, List.mem_flatMap] at hq
      obtain ⟨k, hk, hq⟩ := hq
      by_cases hc : (E (lastN p) k && !decide (k ∈ p)) = true
      · rw [onK_yes hc] at hq
        simp only [Bool.and_eq_true, Bool.not_eq_true', decide_eq_false_iff_not] at hc
        have := ih (p ++ [k]) (by simp) (hp.snoc h0 hc.1 hc.2) q hq
        refine ⟨this.1, this.2.1, ?_, this.2.2.2⟩
        rw [this.2.2.1, List.getD_eq_getElem?_getD, List.getD_eq_getElem?_getD, List.getElem?_append_left h0]
      · rw [onK_no (by simpa using hc)] at hq; simp at hq
theorem ways_way {K : Int} {ts : List (Int × Int)} {a b : Int} {q : List Nat} (hq : q ∈ waysB K ts a b) : Pw (tieNB ts) q ∧ ((lastN q : Nat) : Int) = b ∧ ((q.getD 0 0 : Nat) : Int) = a ∧ 0 < q.length ∧ okB K ts = true ∧ knotB a K = true := by
  cases hc : (okB K ts && knotB a K && knotB b K)
  · rw [waysB_no hc] at hq; simp at hq
  · rw [waysB_yes hc, allTo, List.mem_flatMap] at hq
    obtain ⟨i, hi, hq⟩ := hq
    simp only [Bool.and_eq_true] at hc
    have ka : 0 ≤ a ∧ a < K := by simpa [knotB] using hc.1.2
    have kb : 0 ≤ b ∧ b < K := by simpa [knotB] using hc.2
    have := onW_way i [a.toNat] (by simp) (Pw.one _ _) q hq
    refine ⟨this.1, by rw [this.2.1]; omega, by rw [this.2.2.1]; simp; omega, this.2.2.2, hc.1.1, hc.1.2⟩
theorem xi_nat (p : List Nat) (j : Nat) : xi (p.map fun (x : Nat) => (x : Int)) j = ((p.getD j 0 : Nat) : Int) := by
  unfold xi
  rw [List.getD_eq_getElem?_getD, List.getD_eq_getElem?_getD, List.getElem?_map]
  cases p[j]? <;> rfl
/-- it is a way of each net that has its ties -/
theorem Pw.way {K : Int} {us : List (Int × Int)} {q : List Nat} (hok : okB K us = true) (h : Pw (tieNB us) q) (h0 : 0 < q.length) (hk : knotB ((q.getD 0 0 : Nat) : Int) K = true) : wayB K us (q.map fun (x : Nat) => (x : Int)) = true := by
  have hnet := okB_iff.1 hok
  have hkn : ∀ i, i < q.length → knotB ((q.getD i 0 : Nat) : Int) K = true := by
    intro i hi
    by_cases e : i = 0
    · subst e; exact hk
    · have := h.tie (i - 1) (by omega)
      rw [show i - 1 + 1 = i by omega] at this
      have := tieNB_lt hnet this
      unfold knotB
      rw [decide_eq_true (by omega), decide_eq_true (by omega)]; rfl
  refine wayB_all hok (by simpa using h0) (fun i hi => ?_)
  simp at hi
  unfold stepB
  rw [xi_nat, hkn i hi]
  have hin : inI ((q.map fun (x : Nat) => (x : Int)).take i) ((q.getD i 0 : Nat) : Int) = false := by
    refine inI_none (fun j hj => ?_)
    simp at hj
    rw [xi_take (by omega), xi_nat]
    have := h.new j i (by omega) hi
    omega
  rw [hin]
  by_cases e : i = 0
  · simp [e]
  · have := h.tie (i - 1) (by omega)
    rw [show i - 1 + 1 = i by omega] at this
    rw [xi_nat, hasB_ok hok]
    have h2 : tiedB us (min ((q.getD (i - 1) 0 : Nat) : Int) ((q.getD i 0 : Nat) : Int)) (max ((q.getD (i - 1) 0 : Nat) : Int) ((q.getD i 0 : Nat) : Int)) = true := this
    rw [h2]; simp
theorem find_mem {K : Int} {ts : List (Int × Int)} {a b : Int} (h : foundB K ts a b = true) : findB K ts a b ∈ waysB K ts a b := by
  unfold foundB at h
  unfold findB
  cases e : waysB K ts a b with
  | nil => rw [e] at h; cases h
  | cons q qs => simp

end Go.Proofs.Ytoldljbbjhipnaa
