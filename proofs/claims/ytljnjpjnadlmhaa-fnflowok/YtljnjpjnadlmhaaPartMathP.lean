/- Texts put together: MathP, MathQ. -/
import Derived.Test.YtljnjpjnadlmhaaPartWPath
import Derived.Test.YtljnjpjnadlmhaaPartMath
/- Plain mathematics of all ways between two knots, and of the first of the shortest. No program stands here. -/
namespace Go.Proofs.Ytljnjpjnadlmhaa
set_option linter.unusedVariables false

def lastN (p : List Nat) : Nat := p.getLastD 0
theorem lastN_snoc (p : List Nat) (k : Nat) : lastN (p ++ [k]) = k := by simp [lastN]
/-- the ways of s knots that go on from p (f are still to come) and lead to b, in order -/
def onW (E : Nat → Nat → Bool) (b s : Nat) : Nat → List Nat → List (List Nat)
  | 0, p => if lastN p = b then (if p.length = s then [p] else []) else []
  | f + 1, p => if lastN p = b then (if p.length = s then [p] else []) else (List.range 8).flatMap fun k => if (E (lastN p) k && !decide (k ∈ p)) = true then onW E b s f (p ++ [k]) else []
/-- what the k-th knot adds -/
def onK (E : Nat → Nat → Bool) (b s f : Nat) (p : List Nat) (k : Nat) : List (List Nat) := if (E (lastN p) k && !decide (k ∈ p)) = true then onW E b s f (p ++ [k]) else []
def onTo (E : Nat → Nat → Bool) (b s f : Nat) (p : List Nat) (k : Nat) : List (List Nat) := (List.range k).flatMap (onK E b s f p)
theorem onTo_zero (E : Nat → Nat → Bool) (b s f : Nat) (p : List Nat) : onTo E b s f p 0 = [] := rfl
theorem onTo_succ (E : Nat → Nat → Bool) (b s f : Nat) (p : List Nat) (k : Nat) : onTo E b s f p (k + 1) = onTo E b s f p k ++ onK E b s f p k := by
  unfold onTo; rw [List.range_succ, List.flatMap_append]; simp
theorem onW_end {E : Nat → Nat → Bool} {b s f : Nat} {p : List Nat} (h : lastN p = b) : onW E b s f p = if p.length = s then [p] else [] := by
  cases f <;> simp [onW, h]
theorem onW_go {E : Nat → Nat → Bool} {b s f : Nat} {p : List Nat} (h : lastN p ≠ b) : onW E b s (f + 1) p = onTo E b s f p 8 := by
  unfold onW onTo; rw [if_neg h]; rfl
theorem onW_stop {E : Nat → Nat → Bool} {b s : Nat} {p : List Nat} (h : lastN p ≠ b) : onW E b s 0 p = [] := by
  unfold onW; rw [if_neg h]
theorem onK_yes {E : Nat → Nat → Bool} {b s f : Nat} {p : List Nat} {k : Nat} (h : (E (lastN p) k && !decide (k ∈ p)) = true) : onK E b s f p k = onW E b s f (p ++ [k]) := if_pos h
theorem onK_no {E : Nat → Nat → Bool} {b s f : Nat} {p : List Nat} {k : Nat} (h : (E (lastN p) k && !decide (k ∈ p)) = false) : onK E b s f p k = [] := if_neg (by rw [h]; simp)
/-- all ways -/
def allTo (E : Nat → Nat → Bool) (a b n : Nat) : List (List Nat) := (List.range n).flatMap fun i => onW E b (i + 1) i [a]
theorem allTo_zero (E : Nat → Nat → Bool) (a b : Nat) : allTo E a b 0 = [] := rfl
theorem allTo_succ (E : Nat → Nat → Bool) (a b n : Nat) : allTo E a b (n + 1) = allTo E a b n ++ onW E b (n + 1) n [a] := by
  unfold allTo; rw [List.range_succ, List.flatMap_append]; simp

/-- so many ties lead to b -/
def Lp (E : Nat → Nat → Bool) (b : Nat) : Nat → Nat → Prop
  | 0, x => x = b
  | d + 1, x => ∃ y, E x y = true ∧ Lp E b d y
theorem onW_lp {E : Nat → Nat → Bool} {b s : Nat} : ∀ f p, p.length + f = s → ∀ q, q ∈ onW E b s f p → Lp E b f (lastN p) := by
  intro f
  induction f with
  | zero =>
    intro p hp q hq
    by_cases h : lastN p = b
    · exact h
    · rw [onW_stop h] at hq; simp at hq
  | succ f ih =>
    intro p hp q hq
    by_cases h : lastN p = b
    · rw [onW_end h, if_neg (by omega)] at hq; simp at hq
    · rw [onW_go h, onTo, List.mem_flatMap] at hq
      obtain ⟨k, hk, hq⟩ := hq
      by_cases hc : (E (lastN p) k && !decide (k ∈ p)) = true
      · rw [onK_yes hc] at hq
        have := ih (p ++ [k]) (by simp; omega) q hq
        rw [lastN_snoc] at this
        simp only [Bool.and_eq_true] at hc
        exact ⟨k, hc.1, this⟩
      · rw [onK_no (by simpa using hc)] at hq; simp at hq
/-- how far it is to b, of each knot; less than none if no way leads there -/
structure Fr (E : Nat → Nat → Bool) (b : Nat) (F : Nat → Int) : Prop where
  far : ∀ x, 0 ≤ F x → Lp E b (F x).toNat x
  few : ∀ x d, Lp E b d x → 0 ≤ F x ∧ F x ≤ d
theorem Fr.at {E : Nat → Nat → Bool} {b : Nat} {F : Nat → Int} (h : Fr E b F) : F b = 0 := by
  have := h.few b 0 rfl; omega
theorem Fr.zero {E : Nat → Nat → Bool} {b : Nat} {F : Nat → Int} (h : Fr E b F) {x : Nat} (hx : F x = 0) : x = b := by
  have := h.far x (by omega); rw [hx] at this; exact this
theorem Fr.tie {E : Nat → Nat → Bool} {b : Nat} {F : Nat → Int} (h : Fr E b F) {x y : Nat} (hy : 0 ≤ F y) (he : E x y = true) : 0 ≤ F x ∧ F x ≤ F y + 1 := by
  have := h.few x ((F y).toNat + 1) ⟨y, he, h.far y hy⟩; omega
/-- the least knot from which one tie less lacks -/
def nearB (E : Nat → Nat → Bool) (F : Nat → Int) (x k : Nat) : Bool := E x k && decide (F k = F x - 1)
def near (E : Nat → Nat → Bool) (F : Nat → Int) (x : Nat) : Nat := ((List.range 8).find? (nearB E F x)).getD 0
def geo (E : Nat → Nat → Bool) (F : Nat → Int) : Nat → Nat → List Nat
  | 0, x => []
  | d + 1, x => near E F x :: geo E F d (near E F x)
theorem find_first {p : Nat → Bool} : ∀ n k, k < n → p k = true → ∃ m, (List.range n).find? p = some m ∧ p m = true ∧ m ≤ k ∧ ∀ j, j < m → p j = false := by
  intro n
  induction n with
  | zero => intro k hk; omega
  | succ n ih =>
    intro k hk hp
    rw [List.range_succ, List.find?_append]
    by_cases h : ∃ j, j < n ∧ p j = true
    · obtain ⟨j, hj, hpj⟩ := h
      obtain ⟨m, e, h1, h2, h3⟩ := ih j hj hpj
      refine ⟨m, by rw [e]; rfl, h1, ?_, h3⟩
      by_cases e2 : k < n
      · obtain ⟨m', e', _, h2', _⟩ := ih k e2 hp
        rw [e] at e'; cases e'; exact h2'
      · have := List.mem_range.1 (List.mem_of_find?_eq_some e); omega
    · have hn : (List.range n).find? p = none := by
        rw [List.find?_eq_none]; intro j hj hpj; exact h ⟨j, List.mem_range.1 hj, hpj⟩
      obtain rfl : k = n := by
        by_cases e : k < n
        · exact absurd ⟨k, e, hp⟩ h
        · omega
      exact ⟨k, by rw [hn]; simp [hp], hp, Nat.le_refl _, fun j hj => by
        rw [← Bool.not_eq_true]; exact fun hpj => h ⟨j, hj, hpj⟩⟩
theorem near_is {E : Nat → Nat → Bool} (hE8 : ∀ x y, E x y = true → y < 8) {b : Nat} {F : Nat → Int} (h : Fr E b F) (hsym : ∀ x y, E x y = true → E y x = true) {x : Nat} {d : Nat} (hx : F x = (d : Int) + 1) :
    E x (near E F x) = true ∧ F (near E F x) = (d : Int) ∧ near E F x < 8 ∧ ∀ j, j < near E F x → nearB E F x j = false := by
  have h1 := h.far x (by omega)
  rw [show (F x).toNat = d + 1 by omega] at h1
  obtain ⟨y, hy, hl⟩ := h1
  have h2 := h.few y d hl
  have h3 := h.tie (x := x) (y := y) h2.1 hy
  have hyk : nearB E F x y = true := by unfold nearB; rw [hy]; simp; omega
  obtain ⟨m, e, h4, h5, h6⟩ := find_first 8 y (hE8 _ _ hy) hyk
  have em : near E F x = m := by unfold near; rw [e]; rfl
  rw [em]
  unfold nearB at h4
  simp only [Bool.and_eq_true, decide_eq_true_eq] at h4
  exact ⟨h4.1, by omega, hE8 _ _ h4.1, h6⟩
theorem flat_none {α : Type} {g : Nat → List α} : ∀ n, (∀ i, i < n → g i = []) → (List.range n).flatMap g = [] := by
  intro n h
  rw [List.flatMap_eq_nil_iff]
  intro i hi; exact h i (List.mem_range.1 hi)
theorem flat_head {α : Type} {g : Nat → List α} {x : α} : ∀ n d, d < n → (∀ i, i < d → g i = []) → (g d).head? = some x → ((List.range n).flatMap g).head? = some x := by
  intro n
  induction n with
  | zero => intro d h; omega
  | succ n ih =>
    intro d hd h1 h2
    rw [List.range_succ, List.flatMap_append]
    by_cases e : d < n
    · have := ih d e h1 h2
      rw [List.head?_append, this]; rfl
    · obtain rfl : d = n := by omega
      rw [flat_none d h1]
      simpa using h2
theorem geo_first {E : Nat → Nat → Bool} (hE8 : ∀ x y, E x y = true → y < 8) (hsym : ∀ x y, E x y = true → E y x = true) {b : Nat} {F : Nat → Int} (h : Fr E b F) {s : Nat} : ∀ d p, p.length + d = s → F (lastN p) = (d : Int) → (∀ y, y ∈ p → (d : Int) ≤ F y) → (onW E b s d p).head? = some (p ++ geo E F d (lastN p)) := by
  intro d
  induction d with
  | zero =>
    intro p hp hl hy
    have := h.zero (x := lastN p) (by simpa using hl)
    rw [onW_end this, if_pos (by omega)]; simp [geo]
  | succ d ih =>
    intro p hp hl hy
    have hne : lastN p ≠ b := fun e => by rw [e, h.at] at hl; omega
    obtain ⟨n1, n2, n3, n4⟩ := near_is hE8 h hsym (x := lastN p) (d := d) (by rw [hl]; omega)
    rw [onW_go hne]
    refine flat_head 8 (near E F (lastN p)) n3 (fun k hk => ?_) ?_
    · by_cases hc : (E (lastN p) k && !decide (k ∈ p)) = true
      · rw [onK_yes hc]
        cases hq : onW E b s d (p ++ [k]) with
        | nil => rfl
        | cons q qs =>
          exfalso
          have h1 := onW_lp (s := s) d (p ++ [k]) (by simp; omega) q (by rw [hq]; simp)
          rw [lastN_snoc] at h1
          have h2 := h.few k d h1
          simp only [Bool.and_eq_true] at hc
          have h3 := h.tie (x := lastN p) (y := k) h2.1 hc.1
          have h4 := n4 k hk
          unfold nearB at h4
          rw [hc.1] at h4
          simp at h4
          omega
      · exact onK_no (by simpa using hc)
    · have hnew : near E F (lastN p) ∉ p := fun hm => by have := hy _ hm; omega
      rw [onK_yes (by rw [n1]; simp [hnew])]
      have := ih (p ++ [near E F (lastN p)]) (by simp; omega) (by rw [lastN_snoc]; exact n2) (fun y hm => by
        rw [List.mem_append] at hm
        rcases hm with hm | hm
        · have := hy y hm; omega
        · simp at hm; subst hm; omega)
      rw [this, lastN_snoc]
      simp [geo]
/-- the i-th knot of the shortest way -/
def geoAt (E : Nat → Nat → Bool) (F : Nat → Int) : Nat → Nat → Nat
  | 0, x => x
  | i + 1, x => geoAt E F i (near E F x)
theorem geoAt_far {E : Nat → Nat → Bool} (hE8 : ∀ x y, E x y = true → y < 8) (hsym : ∀ x y, E x y = true → E y x = true) {b : Nat} {F : Nat → Int} (h : Fr E b F) : ∀ (i x d : Nat), i ≤ d → F x = (d : Int) → F (geoAt E F i x) = (d : Int) - (i : Int) := by
  intro i
  induction i with
  | zero => intro x d _ hx; simpa [geoAt] using hx
  | succ i ih =>
    intro x d hi hx
    obtain ⟨d, rfl⟩ : ∃ e, d = e + 1 := ⟨d - 1, by omega⟩
    obtain ⟨n1, n2, n3, n4⟩ := near_is hE8 h hsym (x := x) (d := d) (by rw [hx]; omega)
    have := ih (near E F x) d (by omega) n2
    simp only [geoAt]; rw [this]; omega
theorem geoAt_knot {E : Nat → Nat → Bool} {Kn : Nat} (hE8 : ∀ x y, E x y = true → y < 8) (hEK : ∀ x y, E x y = true → y < Kn) (hsym : ∀ x y, E x y = true → E y x = true) {b : Nat} {F : Nat → Int} (h : Fr E b F) : ∀ (i x d : Nat), i ≤ d → F x = (d : Int) → x < Kn → geoAt E F i x < Kn := by
  intro i
  induction i with
  | zero => intro x d _ hx hk; exact hk
  | succ i ih =>
    intro x d hi hx hk
    obtain ⟨d, rfl⟩ : ∃ e, d = e + 1 := ⟨d - 1, by omega⟩
    obtain ⟨n1, n2, n3, n4⟩ := near_is hE8 h hsym (x := x) (d := d) (by rw [hx]; omega)
    exact ih (near E F x) d (by omega) n2 (hEK _ _ n1)
theorem far_lt {E : Nat → Nat → Bool} {Kn : Nat} (hE8 : ∀ x y, E x y = true → y < 8) (hEK : ∀ x y, E x y = true → y < Kn) (hsym : ∀ x y, E x y = true → E y x = true) {b : Nat} {F : Nat → Int} (h : Fr E b F) {a d : Nat} (ha : a < Kn) (hd : F a = (d : Int)) : d < Kn := by
  have := pigeon Kn (d + 1) (fun i => geoAt E F i a) (fun i hi => geoAt_knot hE8 hEK hsym h i a d (by omega) hd ha) (fun i j hij hj e => by
    have h1 := geoAt_far hE8 hsym h i a d (by omega) hd
    have h2 := geoAt_far hE8 hsym h j a d (by omega) hd
    have e' : geoAt E F i a = geoAt E F j a := e
    rw [e'] at h1; omega)
  omega
/-- the first of all ways is the one that is found step by step -/
theorem find_is {E : Nat → Nat → Bool} {Kn : Nat} (hE8 : ∀ x y, E x y = true → y < 8) (hEK : ∀ x y, E x y = true → y < Kn) (hsym : ∀ x y, E x y = true → E y x = true) {b : Nat} {F : Nat → Int} (h : Fr E b F) {a d : Nat} (ha : a < Kn) (hd : F a = (d : Int)) : (allTo E a b Kn).head? = some (a :: geo E F d a) := by
  refine flat_head Kn d (far_lt hE8 hEK hsym h ha hd) (fun i hi => ?_) ?_
  · cases hq : onW E b (i + 1) i [a] with
    | nil => rfl
    | cons q qs =>
      exfalso
      have h1 := onW_lp (s := i + 1) i [a] (by simp; omega) q (by rw [hq]; simp)
      have h2 := h.few a i (by simpa [lastN] using h1)
      omega
  · have := geo_first hE8 hsym h (s := d + 1) d [a] (by simp; omega) (by simpa [lastN] using hd) (fun y hy => by simp at hy; subst hy; omega)
    simpa [lastN] using this
theorem find_no {E : Nat → Nat → Bool} {Kn : Nat} {b : Nat} {F : Nat → Int} (h : Fr E b F) {a : Nat} (hd : F a < 0) : allTo E a b Kn = [] := by
  refine flat_none Kn (fun i hi => ?_)
  cases hq : onW E b (i + 1) i [a] with
  | nil => rfl
  | cons q qs =>
    exfalso
    have h1 := onW_lp (s := i + 1) i [a] (by simp; omega) q (by rw [hq]; simp)
    have h2 := h.few a i (by simpa [lastN] using h1)
    omega

/-- a net that is gone through with how far it is: the marks, the row that waits, the knot that is gone on from (m of its neighbours are done) -/
structure BfF (E : Nat → Nat → Bool) (Kn b : Nat) (F : Nat → Int) (row : List Nat) (ex : Nat → Prop) : Prop where
  far : ∀ y, 0 ≤ F y → Lp E b (F y).toNat y ∧ y < Kn
  src : F b = 0
  rowm : ∀ y, y ∈ row → 0 ≤ F y
  sort : row.Pairwise (fun x y => F x ≤ F y)
  top : ∀ x, x ∈ row → ∀ y, F y ≤ F x + 1
  clos : ∀ z, 0 ≤ F z → z ∉ row → ¬ ex z → ∀ y, E z y = true → 0 ≤ F y ∧ F y ≤ F z + 1
  neg : ∀ y, -1 ≤ F y
def updI (F : Nat → Int) (i : Nat) (v : Int) : Nat → Int := fun j => if j = i then v else F j
theorem updI_at (F : Nat → Int) (i : Nat) (v : Int) : updI F i v i = v := by simp [updI]
theorem updI_no (F : Nat → Int) {i j : Nat} (v : Int) (h : j ≠ i) : updI F i v j = F j := by simp [updI, h]
theorem BfF.first {E : Nat → Nat → Bool} {Kn b : Nat} (hb : b < Kn) : BfF E Kn b (updI (fun _ => -1) b 0) [b] (fun _ => False) := by
  have no : ∀ y, y ≠ b → updI (fun _ => -1) b 0 y = -1 := fun y hy => updI_no _ _ hy
  have at' : updI (fun _ => -1) b 0 b = 0 := updI_at _ _ _
  have le : ∀ y, updI (fun _ => -1) b 0 y ≤ 0 ∧ -1 ≤ updI (fun _ => -1) b 0 y := fun y => by
    by_cases e : y = b
    · rw [e, at']; omega
    · rw [no y e]; omega
  refine ⟨fun y hy => ?_, at', fun y hy => ?_, by simp, fun x hx y => ?_, fun z hz hr => ?_, fun y => (le y).2⟩
  · by_cases e : y = b
    · subst e; rw [at']; exact ⟨rfl, hb⟩
    · rw [no y e] at hy; omega
  · simp at hy; subst hy; rw [at']; omega
  · simp at hx; subst hx; rw [at']; have := (le y).1; omega
  · exfalso
    by_cases e : z = b
    · subst e; simp at hr
    · rw [no z e] at hz; omega
/-- the first that waits is taken -/
theorem BfF.pop {E : Nat → Nat → Bool} {Kn b : Nat} {F : Nat → Int} {x : Nat} {row : List Nat} (h : BfF E Kn b F (x :: row) (fun _ => False)) : BfF E Kn b F row (fun y => y = x) ∧ 0 ≤ F x ∧ (∀ y, F y ≤ F x + 1) ∧ ∀ y, y ∈ row → F x ≤ F y := by
  refine ⟨⟨h.far, h.src, fun y hy => h.rowm y (by simp [hy]), (List.pairwise_cons.1 h.sort).2, fun z hz => h.top z (by simp [hz]), fun z hz hr hn => h.clos z hz (fun hm => ?_) (fun e => e), h.neg⟩, h.rowm x (by simp), h.top x (by simp), (List.pairwise_cons.1 h.sort).1⟩
  rcases List.mem_cons.1 hm with e | e
  · exact hn e
  · exact hr e
/-- one that was not come to is put behind -/
theorem BfF.push {E : Nat → Nat → Bool} {Kn b : Nat} (hEK : ∀ x y, E x y = true → y < Kn) (hsym : ∀ x y, E x y = true → E y x = true) {F : Nat → Int} {x y : Nat} {row : List Nat} (h : BfF E Kn b F row (fun y => y = x)) (hx : 0 ≤ F x) (ht : ∀ y, F y ≤ F x + 1) (hl : ∀ y, y ∈ row → F x ≤ F y) (he : E x y = true) (hy : F y < 0) :
    BfF E Kn b (updI F y (F x + 1)) (row ++ [y]) (fun y => y = x) ∧ 0 ≤ updI F y (F x + 1) x ∧ (∀ z, updI F y (F x + 1) z ≤ updI F y (F x + 1) x + 1) ∧ (∀ z, z ∈ row ++ [y] → updI F y (F x + 1) x ≤ updI F y (F x + 1) z) := by
  obtain ⟨G, hG⟩ : ∃ G, G = updI F y (F x + 1) := ⟨_, rfl⟩
  have gy : G y = F x + 1 := by rw [hG]; exact updI_at _ _ _
  have gn : ∀ z, z ≠ y → G z = F z := fun z hz => by rw [hG]; exact updI_no _ _ hz
  have pos : ∀ z, 0 ≤ F z → z ≠ y := fun z hz e => by subst e; omega
  have gx : G x = F x := gn x (pos x hx)
  have up : ∀ z, G z ≤ F x + 1 := fun z => by
    by_cases e : z = y
    · subst e; omega
    · rw [gn z e]; exact ht z
  rw [← hG, gx]
  clear hG
  refine ⟨⟨fun z hz => ?_, ?_, fun z hz => ?_, ?_, fun z hz u => ?_, fun z hz hr hn u hu => ?_, fun z => ?_⟩, hx, fun z => up z, fun z hz => ?_⟩
  · by_cases e : z = y
    · subst e
      rw [gy, show (F x + 1).toNat = (F x).toNat + 1 by omega]
      exact ⟨⟨x, hsym _ _ he, (h.far x hx).1⟩, hEK _ _ he⟩
    · rw [gn z e] at hz ⊢; exact h.far z hz
  · rw [gn b (pos b (by rw [h.src]; omega))]; exact h.src
  · rcases List.mem_append.1 hz with hm | hm
    · have := h.rowm z hm; rw [gn z (pos z this)]; exact this
    · simp at hm; subst hm; omega
  · rw [List.pairwise_append]
    refine ⟨?_, by simp, fun u hu v hv => ?_⟩
    · refine h.sort.imp_of_mem ?_
      intro u v hu hv huv
      rw [gn u (pos u (h.rowm u hu)), gn v (pos v (h.rowm v hv))]; exact huv
    · simp at hv; subst hv
      rw [gn u (pos u (h.rowm u hu)), gy]; exact ht u
  · have h1 := up u
    rcases List.mem_append.1 hz with hm | hm
    · rw [gn z (pos z (h.rowm z hm))]; have := hl z hm; omega
    · simp at hm; subst hm; rw [gy]; omega
  · have hzr : z ∉ row ∧ z ≠ y := by
      rw [List.mem_append] at hr
      exact ⟨fun q => hr (Or.inl q), fun q => hr (Or.inr (by simp [q]))⟩
    rw [gn z hzr.2] at hz ⊢
    have := h.clos z hz hzr.1 hn u hu
    rw [gn u (pos u this.1)]; exact this
  · by_cases e : z = y
    · subst e; omega
    · rw [gn z e]; exact h.neg z
  · rcases List.mem_append.1 hz with hm | hm
    · rw [gn z (pos z (h.rowm z hm))]; exact hl z hm
    · simp at hm; subst hm; omega
/-- all neighbours are done -/
theorem BfF.done {E : Nat → Nat → Bool} {Kn b : Nat} {F : Nat → Int} {x : Nat} {row : List Nat} (h : BfF E Kn b F row (fun y => y = x)) (ht : ∀ y, F y ≤ F x + 1) (hn : ∀ z, E x z = true → 0 ≤ F z) : BfF E Kn b F row (fun _ => False) :=
  ⟨h.far, h.src, h.rowm, h.sort, h.top, fun z hz hr _ y hy => by
    by_cases e : z = x
    · subst e; exact ⟨hn y hy, ht y⟩
    · exact h.clos z hz hr e y hy, h.neg⟩
theorem BfF.answer {E : Nat → Nat → Bool} {Kn b : Nat} (hsym : ∀ x y, E x y = true → E y x = true) {F : Nat → Int} (h : BfF E Kn b F [] (fun _ => False)) : Fr E b F := by
  refine ⟨fun x hx => (h.far x hx).1, fun x d => ?_⟩
  induction d generalizing x with
  | zero => intro e; obtain rfl : x = b := e; rw [h.src]; omega
  | succ d ih =>
    rintro ⟨y, hy, hl⟩
    have h1 := ih y hl
    have h2 := h.clos y h1.1 (by simp) (by simp) x (hsym _ _ hy)
    exact ⟨h2.1, by omega⟩

/-! ### ties of a net that is ok -/
theorem tieNB_sym {ts : List (Int × Int)} {x y : Nat} (h : tieNB ts x y = true) : tieNB ts y x = true := by
  unfold tieNB at h ⊢; rw [Int.min_comm, Int.max_comm]; exact h
theorem tieNB_lt {K : Int} {ts : List (Int × Int)} (hok : NetOk K ts) {x y : Nat} (h : tieNB ts x y = true) : y < K.toNat := by
  rcases (tieNB_iff hok).1 h with h1 | h1
  · exact (tied_lt hok h1).2
  · exact (tied_lt hok h1).1
theorem tieNB_8 {K : Int} {ts : List (Int × Int)} (hok : NetOk K ts) {x y : Nat} (h : tieNB ts x y = true) : y < 8 := by
  have := tieNB_lt hok h; have := hok.2.1; omega
/-- all ways between two knots of a net -/
def waysB (K : Int) (ts : List (Int × Int)) (a b : Int) : List (List Nat) := if (okB K ts && knotB a K && knotB b K) = true then allTo (tieNB ts) a.toNat b.toNat K.toNat else []
theorem waysB_no {K : Int} {ts : List (Int × Int)} {a b : Int} (h : (okB K ts && knotB a K && knotB b K) = false) : waysB K ts a b = [] := if_neg (by rw [h]; simp)
theorem waysB_yes {K : Int} {ts : List (Int × Int)} {a b : Int} (h : (okB K ts && knotB a K && knotB b K) = true) : waysB K ts a b = allTo (tieNB ts) a.toNat b.toNat K.toNat := if_pos h
/-- the first of them -/
def findB (K : Int) (ts : List (Int × Int)) (a b : Int) : List Nat := (waysB K ts a b).head?.getD []
def foundB (K : Int) (ts : List (Int × Int)) (a b : Int) : Bool := (waysB K ts a b).head?.isSome

end Go.Proofs.Ytljnjpjnadlmhaa

/- Plain mathematics of the ways that are found: how long they are, and what they are. No program stands here. -/
namespace Go.Proofs.Ytljnjpjnadlmhaa
set_option linter.unusedVariables false

theorem Lp.snoc {E : Nat → Nat → Bool} {b c : Nat} : ∀ {d x}, Lp E b d x → E b c = true → Lp E c (d + 1) x := by
  intro d
  induction d with
  | zero => intro x h hc; obtain rfl : x = b := h; exact ⟨c, hc, rfl⟩
  | succ d ih => rintro x ⟨y, hy, h⟩ hc; exact ⟨y, hy, ih h hc⟩
theorem Lp.turn {E : Nat → Nat → Bool} (hsym : ∀ x y, E x y = true → E y x = true) {b : Nat} : ∀ {d x}, Lp E b d x → Lp E x d b := by
  intro d
  induction d with
  | zero => intro x h; exact h.symm
  | succ d ih => rintro x ⟨y, hy, h⟩; exact (ih h).snoc (hsym _ _ hy)
theorem Lp.comp {E : Nat → Nat → Bool} {k b : Nat} {e : Nat} (h2 : Lp E b e k) : ∀ {d x}, Lp E k d x → Lp E b (d + e) x := by
  intro d
  induction d with
  | zero => intro x h; obtain rfl : x = k := h; rw [Nat.zero_add]; exact h2
  | succ d ih => rintro x ⟨y, hy, h⟩; rw [Nat.succ_add]; exact ⟨y, hy, ih h⟩
theorem Lp.mono {E E' : Nat → Nat → Bool} (hE : ∀ x y, E x y = true → E' x y = true) {b : Nat} : ∀ {d x}, Lp E b d x → Lp E' b d x := by
  intro d
  induction d with
  | zero => intro x h; exact h
  | succ d ih => rintro x ⟨y, hy, h⟩; exact ⟨y, hE _ _ hy, ih h⟩
theorem least_of {p : Nat → Prop} : ∀ n, p n → ∃ d, p d ∧ ∀ e, p e → d ≤ e := by
  intro n
  induction n using Nat.strongRecOn with
  | _ n ih =>
    intro hn
    by_cases h : ∃ m, m < n ∧ p m
    · obtain ⟨m, hm, hp⟩ := h
      exact ih m hm hp
    · exact ⟨n, hn, fun e he => Nat.le_of_not_lt fun hlt => h ⟨e, hlt, he⟩⟩
theorem fr_some (E : Nat → Nat → Bool) (b : Nat) : ∃ F, Fr E b F := by
  have h : ∀ x, ∃ v : Int, (0 ≤ v → Lp E b v.toNat x) ∧ ∀ d, Lp E b d x → 0 ≤ v ∧ v ≤ d := by
    intro x
    by_cases hx : ∃ d, Lp E b d x
    · obtain ⟨n, hn⟩ := hx
      obtain ⟨d, hd, hm⟩ := least_of (p := fun d => Lp E b d x) n hn
      exact ⟨(d : Int), fun _ => by rw [Int.toNat_natCast]; exact hd, fun e he => ⟨by omega, by have := hm e he; omega⟩⟩
    · exact ⟨-1, fun h => by omega, fun d hd => absurd ⟨d, hd⟩ hx⟩
  refine ⟨fun x => (h x).choose, fun x hx => (h x).choose_spec.1 hx, fun x d hd => (h x).choose_spec.2 d hd⟩
/-- a net that is ok, as the ways see it -/
structure Nt (K : Int) (ts : List (Int × Int)) (Kn : Nat) : Prop where
  ok : okB K ts = true
  K : K = (Kn : Int)
theorem Nt.net {K : Int} {ts : List (Int × Int)} {Kn : Nat} (h : Nt K ts Kn) : NetOk K ts := okB_iff.1 h.ok
theorem Nt.e8 {K : Int} {ts : List (Int × Int)} {Kn : Nat} (h : Nt K ts Kn) : ∀ x y, tieNB ts x y = true → y < 8 := fun _ _ q => tieNB_8 h.net q
theorem Nt.eK {K : Int} {ts : List (Int × Int)} {Kn : Nat} (h : Nt K ts Kn) : ∀ x y, tieNB ts x y = true → y < Kn := fun _ _ q => by have := tieNB_lt h.net q; have := h.K; omega
theorem Nt.sym {K : Int} {ts : List (Int × Int)} {Kn : Nat} (h : Nt K ts Kn) : ∀ x y, tieNB ts x y = true → tieNB ts y x = true := fun _ _ q => tieNB_sym q
theorem Nt.ways {K : Int} {ts : List (Int × Int)} {Kn a b : Nat} (h : Nt K ts Kn) (ha : a < Kn) (hb : b < Kn) : waysB K ts (a : Int) (b : Int) = allTo (tieNB ts) a b Kn := by
  rw [waysB_yes (by rw [h.ok, h.K]; simp [knotB]; omega), h.K]; simp
/-- a way is found just if one leads there; it is as short as can be -/
theorem Nt.found {K : Int} {ts : List (Int × Int)} {Kn a b : Nat} (h : Nt K ts Kn) (ha : a < Kn) (hb : b < Kn) :
    (foundB K ts a b = true → Lp (tieNB ts) b ((findB K ts a b).length - 1) a ∧ 0 < (findB K ts a b).length ∧ ∀ d, Lp (tieNB ts) b d a → (findB K ts a b).length ≤ d + 1) ∧ (foundB K ts a b = false → ∀ d, ¬ Lp (tieNB ts) b d a) := by
  obtain ⟨F, hF⟩ := fr_some (tieNB ts) b
  by_cases hneg : F a < 0
  · have e : waysB K ts a b = [] := (h.ways ha hb).trans (find_no hF hneg)
    have e2 : foundB K ts a b = false := by unfold foundB; rw [e]; rfl
    exact ⟨fun q => absurd (e2.symm.trans q) (by simp), fun _ d hd => by have := hF.few a d hd; omega⟩
  · obtain ⟨D, hD⟩ : ∃ D : Nat, F a = (D : Int) := ⟨(F a).toNat, by omega⟩
    have e : (waysB K ts a b).head? = some (a :: geo (tieNB ts) F D a) := by rw [h.ways ha hb]; exact find_is h.e8 h.eK h.sym hF ha hD
    have e1 : findB K ts a b = a :: geo (tieNB ts) F D a := by unfold findB; rw [e]; rfl
    have e2 : foundB K ts a b = true := by unfold foundB; rw [e]; rfl
    have hl : ∀ d x, (geo (tieNB ts) F d x).length = d := by
      intro d
      induction d with
      | zero => intro x; rfl
      | succ d ih => intro x; simp [geo, ih]
    have hlen : (findB K ts a b).length = D + 1 := by rw [e1]; simp [hl]
    refine ⟨fun _ => ⟨?_, by omega, fun d hd => ?_⟩, fun q => by rw [e2] at q; cases q⟩
    · have := hF.far a (by omega)
      rw [hD, Int.toNat_natCast] at this
      rw [hlen]; exact this
    · have := hF.few a d hd; omega
theorem Nt.find_iff {K : Int} {ts : List (Int × Int)} {Kn a b : Nat} (h : Nt K ts Kn) (ha : a < Kn) (hb : b < Kn) : foundB K ts a b = true ↔ ∃ d, Lp (tieNB ts) b d a := by
  obtain ⟨h1, h2⟩ := h.found ha hb
  constructor
  · intro q; exact ⟨_, (h1 q).1⟩
  · rintro ⟨d, hd⟩
    cases q : foundB K ts a b
    · exact absurd hd (h2 q d)
    · rfl
/-- what is found in no net is found in none that is not ok, and of no other numbers -/
theorem found_net {K : Int} {ts : List (Int × Int)} {a b : Int} (h : foundB K ts a b = true) : ∃ Kn x y : Nat, Nt K ts Kn ∧ a = (x : Int) ∧ b = (y : Int) ∧ x < Kn ∧ y < Kn ∧ Kn ≤ 8 := by
  cases hc : (okB K ts && knotB a K && knotB b K)
  · unfold foundB at h; rw [waysB_no hc] at h; cases h
  · simp only [Bool.and_eq_true, knotB, decide_eq_true_eq] at hc
    obtain ⟨⟨h1, h2⟩, h3⟩ := hc
    have := okB_iff.1 h1
    exact ⟨K.toNat, a.toNat, b.toNat, ⟨h1, by omega⟩, by omega, by omega, by omega, by omega, by have := this.2.1; omega⟩
/-- a way by a third knot is not shorter -/
theorem way_three {K : Int} {ts : List (Int × Int)} {a b : Int} (h : foundB K ts a b = true) {k : Nat} (hk : (k : Int) < K) : foundB K ts a (k : Int) = foundB K ts (k : Int) b ∧ (foundB K ts a (k : Int) = true → (findB K ts a b).length ≤ (findB K ts a (k : Int)).length + (findB K ts (k : Int) b).length - 1 ∧ 0 < (findB K ts a (k : Int)).length) := by
  obtain ⟨Kn, x, y, N, rfl, rfl, hx, hy, h8⟩ := found_net h
  have hkK : k < Kn := by have := N.K; omega
  have hb := ((N.found hx hy).1 h)
  have e : foundB K ts (x : Int) (k : Int) = foundB K ts (k : Int) (y : Int) := by
    rw [Bool.eq_iff_iff, N.find_iff hx hkK, N.find_iff hkK hy]
    constructor
    · rintro ⟨d, hd⟩; exact ⟨_, Lp.comp hb.1 (hd.turn N.sym)⟩
    · rintro ⟨d, hd⟩; exact ⟨_, Lp.comp (hd.turn N.sym) hb.1⟩
  refine ⟨e, fun q => ?_⟩
  have h1 := (N.found hx hkK).1 q
  have h2 := (N.found hkK hy).1 (e ▸ q)
  have := hb.2.2 _ (Lp.comp h2.1 h1.1)
  omega
/-- to a knot that is tied to one it is one tie more, or less, or as far -/
theorem way_far {K : Int} {ts : List (Int × Int)} {a b : Int} (h : foundB K ts a b = true) {k : Nat} (ht : hasB K ts b (k : Int) = true) : foundB K ts a (k : Int) = true ∧ (findB K ts a (k : Int)).length ≤ (findB K ts a b).length + 1 ∧ (findB K ts a b).length ≤ (findB K ts a (k : Int)).length + 1 ∧ 0 < (findB K ts a b).length := by
  obtain ⟨Kn, x, y, N, rfl, rfl, hx, hy, h8⟩ := found_net h
  have hE : tieNB ts y k = true := by rw [hasB_ok N.ok] at ht; exact ht
  have hkK := N.eK _ _ hE
  have hb := ((N.found hx hy).1 h)
  have hf : foundB K ts (x : Int) (k : Int) = true := (N.find_iff hx hkK).2 ⟨_, hb.1.snoc hE⟩
  have hk := (N.found hx hkK).1 hf
  have h1 := hk.2.2 _ (hb.1.snoc hE)
  have h2 := hb.2.2 _ (hk.1.snoc (N.sym _ _ hE))
  exact ⟨hf, by omega, by omega, hb.2.1⟩
/-- with more ties no way gets longer, and none gets lost -/
theorem way_more {K : Int} {ts us : List (Int × Int)} {a b : Int} (h : foundB K ts a b = true) (hok : okB K us = true) (hE : ∀ x y, tieNB ts x y = true → tieNB us x y = true) : foundB K us a b = true ∧ (findB K us a b).length ≤ (findB K ts a b).length := by
  obtain ⟨Kn, x, y, N, rfl, rfl, hx, hy, h8⟩ := found_net h
  have N' : Nt K us Kn := ⟨hok, N.K⟩
  have hb := ((N.found hx hy).1 h)
  have hf := (N'.find_iff hx hy).2 ⟨_, hb.1.mono hE⟩
  have := ((N'.found hx hy).1 hf).2.2 _ (hb.1.mono hE)
  exact ⟨hf, by omega⟩
/-- what the first way is -/
theorem find_geo {K : Int} {ts : List (Int × Int)} {Kn x y : Nat} (N : Nt K ts Kn) (hx : x < Kn) (hy : y < Kn) (h : foundB K ts x y = true) {F : Nat → Int} (hF : Fr (tieNB ts) y F) : F x = ((findB K ts x y).length : Int) - 1 ∧ findB K ts x y = x :: geo (tieNB ts) F ((findB K ts x y).length - 1) x := by
  have h1 := (N.found hx hy).1 h
  have h2 := hF.few x _ h1.1
  obtain ⟨D, hD⟩ : ∃ D : Nat, F x = (D : Int) := ⟨(F x).toNat, by omega⟩
  have e : (waysB K ts x y).head? = some (x :: geo (tieNB ts) F D x) := by rw [N.ways hx hy]; exact find_is N.e8 N.eK N.sym hF hx hD
  have e1 : findB K ts x y = x :: geo (tieNB ts) F D x := by unfold findB; rw [e]; rfl
  have hl : ∀ d x, (geo (tieNB ts) F d x).length = d := by
    intro d
    induction d with
    | zero => intro x; rfl
    | succ d ih => intro x; simp [geo, ih]
  have hlen : (findB K ts x y).length = D + 1 := by rw [e1]; simp [hl]
  exact ⟨by omega, by rw [hlen, Nat.add_sub_cancel]; exact e1⟩
theorem geo_at {E : Nat → Nat → Bool} {F : Nat → Int} : ∀ i d x, i ≤ d → (x :: geo E F d x).getD i 0 = geoAt E F i x := by
  intro i
  induction i with
  | zero => intro d x _; rfl
  | succ i ih =>
    intro d x h
    obtain ⟨d, rfl⟩ : ∃ e, d = e + 1 := ⟨d - 1, by omega⟩
    show (near E F x :: geo E F d (near E F x)).getD i 0 = _
    exact ih d _ (by omega)
theorem geo_drop {E : Nat → Nat → Bool} {F : Nat → Int} : ∀ i d x, i ≤ d → (x :: geo E F d x).drop i = geoAt E F i x :: geo E F (d - i) (geoAt E F i x) := by
  intro i
  induction i with
  | zero => intro d x _; rfl
  | succ i ih =>
    intro d x h
    obtain ⟨d, rfl⟩ : ∃ e, d = e + 1 := ⟨d - 1, by omega⟩
    rw [Nat.succ_sub_succ]
    exact ih d _ (by omega)
theorem geo_lp {E : Nat → Nat → Bool} {F : Nat → Int} (hE8 : ∀ x y, E x y = true → y < 8) (hsym : ∀ x y, E x y = true → E y x = true) {b : Nat} (h : Fr E b F) : ∀ i x d, i ≤ d → F x = ((d : Nat) : Int) → Lp E (geoAt E F i x) i x := by
  intro i
  induction i with
  | zero => intro x d _ _; rfl
  | succ i ih =>
    intro x d hi hx
    obtain ⟨d, rfl⟩ : ∃ e, d = e + 1 := ⟨d - 1, by omega⟩
    obtain ⟨n1, n2, n3, n4⟩ := near_is hE8 h hsym (x := x) (d := d) (by rw [hx]; omega)
    exact ⟨_, n1, ih _ d (by omega) n2⟩
/-- a piece of the way that is found is as short as can be -/
theorem way_piece {K : Int} {ts : List (Int × Int)} {a b : Int} (h : foundB K ts a b = true) {k : Nat} (hk : k < (findB K ts a b).length) :
    foundB K ts a ((findB K ts a b).getD k 0 : Nat) = true ∧ foundB K ts ((findB K ts a b).getD k 0 : Nat) b = true ∧ (findB K ts a ((findB K ts a b).getD k 0 : Nat)).length = k + 1 ∧ findB K ts ((findB K ts a b).getD k 0 : Nat) b = (findB K ts a b).drop k := by
  obtain ⟨Kn, x, y, N, rfl, rfl, hx, hy, h8⟩ := found_net h
  obtain ⟨F, hF⟩ := fr_some (tieNB ts) y
  obtain ⟨g1, g2⟩ := find_geo N hx hy h hF
  obtain ⟨D, hD⟩ : ∃ D, (findB K ts x y).length = D + 1 := ⟨(findB K ts x y).length - 1, by omega⟩
  rw [hD, Nat.add_sub_cancel] at g2
  have hFx : F x = (D : Int) := by rw [g1, hD]; omega
  have hkD : k ≤ D := by omega
  have hz : (findB K ts x y).getD k 0 = geoAt (tieNB ts) F k x := by rw [g2]; exact geo_at k D x hkD
  have hzK := geoAt_knot (Kn := Kn) N.e8 N.eK N.sym hF k x D hkD hFx hx
  have hFz := geoAt_far N.e8 N.sym hF k x D hkD hFx
  have hlp := geo_lp N.e8 N.sym hF k x D hkD hFx
  rw [hz]
  obtain ⟨z, hzz⟩ : ∃ z, z = geoAt (tieNB ts) F k x := ⟨_, rfl⟩
  rw [← hzz] at hzK hFz hlp ⊢
  have hf1 : foundB K ts (x : Int) (z : Int) = true := (N.find_iff hx hzK).2 ⟨_, hlp⟩
  have hlz := hF.far z (by omega)
  rw [show (F z).toNat = D - k by omega] at hlz
  have hf2 : foundB K ts (z : Int) (y : Int) = true := (N.find_iff hzK hy).2 ⟨_, hlz⟩
  have h1 := (N.found hx hzK).1 hf1
  have h2 := h1.2.2 _ hlp
  have h3 := hF.few x _ (Lp.comp hlz h1.1)
  obtain ⟨q1, q2⟩ := find_geo N hzK hy hf2 hF
  have hl2 : (findB K ts (z : Int) (y : Int)).length = D - k + 1 := by omega
  refine ⟨hf1, hf2, by omega, ?_⟩
  rw [q2, hl2, Nat.add_sub_cancel, g2, geo_drop k D x hkD, ← hzz]

/-! ### what is told is a way -/
/-- knots of which each is tied to the next one, none twice -/
structure Pw (E : Nat → Nat → Bool) (q : List Nat) : Prop where
  tie : ∀ i, i + 1 < q.length → E (q.getD i 0) (q.getD (i + 1) 0) = true
  new : ∀ i j, i < j → j < q.length → q.getD i 0 ≠ q.getD j 0
theorem Pw.snoc {E : Nat → Nat → Bool} {p : List Nat} (h : Pw E p) (h0 : 0 < p.length) {k : Nat} (he : E (lastN p) k = true) (hn : k ∉ p) : Pw E (p ++ [k]) := by
  have gl : ∀ i, i < p.length → (p ++ [k]).getD i 0 = p.getD i 0 := fun i hi => by simp [List.getElem?_append_left hi]
  have ge : (p ++ [k]).getD p.length 0 = k := by simp
  have hl : p.getD (p.length - 1) 0 = lastN p := by
    obtain ⟨q, z, rfl⟩ : ∃ q z, p = q ++ [z] := ⟨p.dropLast, p.getLast (by intro e; simp [e] at h0), (List.dropLast_concat_getLast _).symm⟩
    rw [lastN_snoc]; simp
  refine ⟨fun i hi => ?_, fun i j hij hj => ?_⟩
  · simp at hi
    by_cases e : i + 1 = p.length
    · rw [gl i (by omega), e, ge, show i = p.length - 1 by omega, hl]; exact he
    · rw [gl i (by omega), gl (i + 1) (by omega)]; exact h.tie i (by omega)
  · simp at hj
    by_cases e : j = p.length
    · subst e
      rw [gl i hij, ge]
      intro e
      exact hn (by rw [← e]; simp [hij])
    · rw [gl i (by omega), gl j (by omega)]; exact h.new i j hij (by omega)
theorem Pw.one (E : Nat → Nat → Bool) (a : Nat) : Pw E [a] := ⟨fun i hi => by simp at hi, fun i j hij hj => by simp at hj; omega⟩
theorem onW_way {E : Nat → Nat → Bool} {b s : Nat} : ∀ f p, 0 < p.length → Pw E p → ∀ q, q ∈ onW E b s f p → Pw E q ∧ lastN q = b ∧ q.getD 0 0 = p.getD 0 0 ∧ 0 < q.length := by
  intro f
  induction f with
  | zero =>
    intro p h0 hp q hq
    by_cases h : lastN p = b
    · rw [onW_end h] at hq
      split at hq
      · simp at hq; subst hq; exact ⟨hp, h, rfl, h0⟩
      · simp at hq
    · rw [onW_stop h] at hq; simp at hq
  | succ f ih =>
    intro p h0 hp q hq
    by_cases h : lastN p = b
    · rw [onW_end h] at hq
      split at hq
      · simp at hq; subst hq; exact ⟨hp, h, rfl, h0⟩
      · simp at hq
    · rw [onW_go h, onTo, List.mem_flatMap] at hq
      obtain ⟨k, hk, hq⟩ := hq
      by_cases hc : (E (lastN p) k && !decide (k ∈ p)) = true
      · rw [onK_yes hc] at hq
        simp only [Bool.and_eq_true, Bool.not_eq_true', decide_eq_false_iff_not] at hc
        have := ih (p ++ [k]) (by simp) (hp.snoc h0 hc.1 hc.2) q hq
        refine ⟨this.1, this.2.1, ?_, this.2.2.2⟩
        rw [this.2.2.1, List.getD_eq_getElem?_getD, List.getD_eq_getElem?_getD, List.getElem?_append_left h0]
      · rw [onK_no (by simpa using hc)] at hq; simp at hq
theorem ways_way {K : Int} {ts : List (Int × Int)} {a b : Int} {q : List Nat} (hq : q ∈ waysB K ts a b) : Pw (tieNB ts) q ∧ ((lastN q : Nat) : Int) = b ∧ ((q.getD 0 0 : Nat) : Int) = a ∧ 0 < q.length ∧ okB K ts = true ∧ knotB a K = true := by
  cases hc : (okB K ts && knotB a K && knotB b K)
  · rw [waysB_no hc] at hq; simp at hq
  · rw [waysB_yes hc, allTo, List.mem_flatMap] at hq
    obtain ⟨i, hi, hq⟩ := hq
    simp only [Bool.and_eq_true] at hc
    have ka : 0 ≤ a ∧ a < K := by simpa [knotB] using hc.1.2
    have kb : 0 ≤ b ∧ b < K := by simpa [knotB] using hc.2
    have := onW_way i [a.toNat] (by simp) (Pw.one _ _) q hq
    refine ⟨this.1, by rw [this.2.1]; omega, by rw [this.2.2.1]; simp; omega, this.2.2.2, hc.1.1, hc.1.2⟩
theorem xi_nat (p : List Nat) (j : Nat) : xi (p.map fun (x : Nat) => (x : Int)) j = ((p.getD j 0 : Nat) : Int) := by
  unfold xi
  rw [List.getD_eq_getElem?_getD, List.getD_eq_getElem?_getD, List.getElem?_map]
  cases p[j]? <;> rfl
/-- it is a way of each net that has its ties -/
theorem Pw.way {K : Int} {us : List (Int × Int)} {q : List Nat} (hok : okB K us = true) (h : Pw (tieNB us) q) (h0 : 0 < q.length) (hk : knotB ((q.getD 0 0 : Nat) : Int) K = true) : wayB K us (q.map fun (x : Nat) => (x : Int)) = true := by
  have hnet := okB_iff.1 hok
  have hkn : ∀ i, i < q.length → knotB ((q.getD i 0 : Nat) : Int) K = true := by
    intro i hi
    by_cases e : i = 0
    · subst e; exact hk
    · have := h.tie (i - 1) (by omega)
      rw [show i - 1 + 1 = i by omega] at this
      have := tieNB_lt hnet this
      unfold knotB
      rw [decide_eq_true (by omega), decide_eq_true (by omega)]; rfl
  refine wayB_all hok (by simpa using h0) (fun i hi => ?_)
  simp at hi
  unfold stepB
  rw [xi_nat, hkn i hi]
  have hin : inI ((q.map fun (x : Nat) => (x : Int)).take i) ((q.getD i 0 : Nat) : Int) = false := by
    refine inI_none (fun j hj => ?_)
    simp at hj
    rw [xi_take (by omega), xi_nat]
    have := h.new j i (by omega) hi
    omega
  rw [hin]
  by_cases e : i = 0
  · simp [e]
  · have := h.tie (i - 1) (by omega)
    rw [show i - 1 + 1 = i by omega] at this
    rw [xi_nat, hasB_ok hok]
    have h2 : tiedB us (min ((q.getD (i - 1) 0 : Nat) : Int) ((q.getD i 0 : Nat) : Int)) (max ((q.getD (i - 1) 0 : Nat) : Int) ((q.getD i 0 : Nat) : Int)) = true := this
    rw [h2]; simp
theorem find_mem {K : Int} {ts : List (Int × Int)} {a b : Int} (h : foundB K ts a b = true) : findB K ts a b ∈ waysB K ts a b := by
  unfold foundB at h
  unfold findB
  cases e : waysB K ts a b with
  | nil => rw [e] at h; cases h
  | cons q qs => simp

end Go.Proofs.Ytljnjpjnadlmhaa
