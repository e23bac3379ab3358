/- Plain mathematics of all ways between two knots, and of the first of the shortest. No program stands here. -/
import Derived.Test.YtljnjpjnadlmhaaPartWPath
import Derived.Test.YtljnjpjnadlmhaaPartMath
namespace Go.Proofs.Ytljnjpjnadlmhaa
set_option linter.unusedVariables false

def lastN (p : List Nat) : Nat := p.getLastD 0
theorem lastN_snoc (p : List Nat) (k : Nat) : lastN (p ++ [k]) = k := by simp [lastN]
/-- the ways of s knots that go on from p (f are still to come) and lead to b, in order -/
def onW (E : Nat → Nat → Bool) (b s : Nat) : Nat → List Nat → List (List Nat)
  | 0, p => if lastN p = b then (if p.length = s then [p] else []) else []
  | f + 1, p => if lastN p = b then (if p.length = s then [p] else []) else (List.range 8).flatMap fun k => if (E (lastN p) k && !decide (k ∈ p)) = true then onW E b s f (p ++ [k]) else []
/-- what the k-th knot adds -/
def onK (E : Nat → Nat → Bool) (b s f : Nat) (p : List Nat) (k : Nat) : List (List Nat) := if (E (lastN p) k && !decide (k ∈ p)) = true then onW E b s f (p ++ [k]) else []
def onTo (E : Nat → Nat → Bool) (b s f : Nat) (p : List Nat) (k : Nat) : List (List Nat) := (List.range k).flatMap (onK E b s f p)
theorem onTo_zero (E : Nat → Nat → Bool) (b s f : Nat) (p : List Nat) : onTo E b s f p 0 = [] := rfl
theorem onTo_succ (E : Nat → Nat → Bool) (b s f : Nat) (p : List Nat) (k : Nat) : onTo E b s f p (k + 1) = onTo E b s f p k ++ onK E b s f p k := by
  unfold onTo; rw [List.range_succ, List.flatMap_append]; simp
theorem onW_end {E : Nat → Nat → Bool} {b s f : Nat} {p : List Nat} (h : lastN p = b) : onW E b s f p = if p.length = s then [p] else [] := by
  cases f <;> simp [onW, h]
theorem onW_go {E : Nat → Nat → Bool} {b s f : Nat} {p : List Nat} (h : lastN p ≠ b) : onW E b s (f + 1) p = onTo E b s f p 8 := by
  unfold onW onTo; rw [if_neg h]; rfl
theorem onW_stop {E : Nat → Nat → Bool} {b s : Nat} {p : List Nat} (h : lastN p ≠ b) : onW E b s 0 p = [] := by
  unfold onW; rw [if_neg h]
theorem onK_yes {E : Nat → Nat → Bool} {b s f : Nat} {p : List Nat} {k : Nat} (h : (E (lastN p) k && !decide (k ∈ p)) = true) : onK E b s f p k = onW E b s f (p ++ [k]) := if_pos h
theorem onK_no {E : Nat → Nat → Bool} {b s f : Nat} {p : List Nat} {k : Nat} (h : (E (lastN p) k && !decide (k ∈ p)) = false) : onK E b s f p k = [] := if_neg (by rw [h]; simp)
/-- all ways -/
def allTo (E : Nat → Nat → Bool) (a b n : Nat) : List (List Nat) := (List.range n).flatMap fun i => onW E b (i + 1) i [a]
theorem allTo_zero (E : Nat → Nat → Bool) (a b : Nat) : allTo E a b 0 = [] := rfl
theorem allTo_succ (E : Nat → Nat → Bool) (a b n : Nat) : allTo E a b (n + 1) = allTo E a b n ++ onW E b (n + 1) n [a] := by
  unfold allTo; rw [List.range_succ, List.flatMap_append]; simp

/-- so many ties lead to b -/
def Lp (E : Nat → Nat → Bool) (b : Nat) : Nat → Nat → Prop
  | 0, x => x = b
  | d + 1, x => ∃ y, E x y = true ∧ Lp E b d y
theorem onW_lp {E : Nat → Nat → Bool} {b s : Nat} : ∀ f p, p.length + f = s → ∀ q, q ∈ onW E b s f p → Lp E b f (lastN p) := by
  intro f
  induction f with
  | zero =>
    intro p hp q hq
    by_cases h : lastN p = b
    · exact h
    · rw [onW_stop h] at hq; simp at hq
  | succ f ih =>
    intro p hp q hq
    by_cases h : lastN p = b
    · rw [onW_end h, if_neg (by omega)] at hq; simp at hq
    · rw [onW_go h, onTo, List.mem_flatMap] at hq
      obtain ⟨k, hk, hq⟩ := hq
      by_cases hc : (E (lastN p) k && !decide (k ∈ p)) = true
      · rw [onK_yes hc] at hq
        have := ih (p ++ [k]) (by simp; omega) q hq
        rw [lastN_snoc] at this
        simp only [Bool.and_eq_true] at hc
        exact ⟨k, hc.1, this⟩
      · rw [onK_no (by simpa using hc)] at hq; simp at hq
/-- how far it is to b, of each knot; less than none if no way leads there -/
structure Fr (E : Nat → Nat → Bool) (b : Nat) (F : Nat → Int) : Prop where
  far : ∀ x, 0 ≤ F x → Lp E b (F x).toNat x
  few : ∀ x d, Lp E b d x → 0 ≤ F x ∧ F x ≤ d
theorem Fr.at {E : Nat → Nat → Bool} {b : Nat} {F : Nat → Int} (h : Fr E b F) : F b = 0 := by
  have := h.few b 0 rfl; omega
theorem Fr.zero {E : Nat → Nat → Bool} {b : Nat} {F : Nat → Int} (h : Fr E b F) {x : Nat} (hx : F x = 0) : x = b := by
  have := h.far x (by omega); rw [hx] at this; exact this
theorem Fr.tie {E : Nat → Nat → Bool} {b : Nat} {F : Nat → Int} (h : Fr E b F) {x y : Nat} (hy : 0 ≤ F y) (he : E x y = true) : 0 ≤ F x ∧ F x ≤ F y + 1 := by
  have := h.few x ((F y).toNat + 1) ⟨y, he, h.far y hy⟩; omega
/-- the least knot from which one tie less lacks -/
def nearB (E : Nat → Nat → Bool) (F : Nat → Int) (x k : Nat) : Bool := E x k && decide (F k = F x - 1)
def near (E : Nat → Nat → Bool) (F : Nat → Int) (x : Nat) : Nat := ((List.range 8).find? (nearB E F x)).getD 0
def geo (E : Nat → Nat → Bool) (F : Nat → Int) : Nat → Nat → List Nat
  | 0, x => []
  | d + 1, x => near E F x :: geo E F d (near E F x)
theorem find_first {p : Nat → Bool} : ∀ n k, k < n → p k = true → ∃ m, (List.range n).find? p = some m ∧ p m = true ∧ m ≤ k ∧ ∀ j, j < m → p j = false := by
  intro n
  induction n with
  | zero => intro k hk; omega
  | succ n ih =>
    intro k hk hp
    rw [List.range_succ, List.find?_append]
    by_cases h : ∃ j, j < n ∧ p j = true
    · obtain ⟨j, hj, hpj⟩ := h
      obtain ⟨m, e, h1, h2, h3⟩ := ih j hj hpj
      refine ⟨m, by rw [e]; rfl, h1, ?_, h3⟩
      by_cases e2 : k < n
      · obtain ⟨m', e', _, h2', _⟩ := ih k e2 hp
        rw [e] at e'; cases e'; exact h2'
      · have := List.mem_range.1 (List.mem_of_find?_eq_some e); omega
    · have hn : (List.range n).find? p = none := by
        rw [List.find?_eq_none]; intro j hj hpj; exact h ⟨j, List.mem_range.1 hj, hpj⟩
      obtain rfl : k = n := by
        by_cases e : k < n
        · exact absurd ⟨k, e, hp⟩ h
        · omega
      exact ⟨k, by rw [hn]; simp [hp], hp, Nat.le_refl _, fun j hj => by
        rw [← Bool.not_eq_true]; exact fun hpj => h ⟨j, hj, hpj⟩⟩
theorem near_is {E : Nat → Nat → Bool} (hE8 : ∀ x y, E x y = true → y < 8) {b : Nat} {F : Nat → Int} (h : Fr E b F) (hsym : ∀ x y, E x y = true → E y x = true) {x : Nat} {d : Nat} (hx : F x = (d : Int) + 1) :
    E x (near E F x) = true ∧ F (near E F x) = (d : Int) ∧ near E F x < 8 ∧ ∀ j, j < near E F x → nearB E F x j = false := by
  have h1 := h.far x (by omega)
  rw [show (F x).toNat = d + 1 by omega] at h1
  obtain ⟨y, hy, hl⟩ := h1
  have h2 := h.few y d hl
  have h3 := h.tie (x := x) (y := y) h2.1 hy
  have hyk : nearB E F x y = true := by unfold nearB; rw [hy]; simp; omega
  obtain ⟨m, e, h4, h5, h6⟩ := find_first 8 y (hE8 _ _ hy) hyk
  have em : near E F x = m := by unfold near; rw [e]; rfl
  rw [em]
  unfold nearB at h4
  simp only [Bool.and_eq_true, decide_eq_true_eq] at h4
  exact ⟨h4.1, by omega, hE8 _ _ h4.1, h6⟩
theorem flat_none {α : Type} {g : Nat → List α} : ∀ n, (∀ i, i < n → g i = []) → (List.range n).flatMap g = [] := by
  intro n h
  rw [List.flatMap_eq_nil_iff]
  intro i hi; exact h i (List.mem_range.1 hi)
theorem flat_head {α : Type} {g : Nat → List α} {x : α} : ∀ n d, d < n → (∀ i, i < d → g i = []) → (g d).head? = some x → ((List.range n).flatMap g).head? = some x := by
  intro n
  induction n with
  | zero => intro d h; omega
  | succ n ih =>
    intro d hd h1 h2
    rw [List.range_succ, List.flatMap_append]
    by_cases e : d < n
    · have := ih d e h1 h2
      rw [List.head?_append, this]; rfl
    · obtain rfl : d = n := by omega
      rw [flat_none d h1]
      simpa using h2
theorem geo_first {E : Nat → Nat → Bool} (hE8 : ∀ x y, E x y = true → y < 8) (hsym : ∀ x y, E x y = true → E y x = true) {b : Nat} {F : Nat → Int} (h : Fr E b F) {s : Nat} : ∀ d p, p.length + d = s → F (lastN p) = (d : Int) → (∀ y, y ∈ p → (d : Int) ≤ F y) → (onW E b s d p).head? = some (p ++ geo E F d (lastN p)) := by
  intro d
  induction d with
  | zero =>
    intro p hp hl hy
    have := h.zero (x := lastN p) (by simpa using hl)
    rw [onW_end this, if_pos (by omega)]; simp [geo]
  | succ d ih =>
    intro p hp hl hy
    have hne : lastN p ≠ b := fun e => by rw [e, h.at] at hl; omega
    obtain ⟨n1, n2, n3, n4⟩ := near_is hE8 h hsym (x := lastN p) (d := d) (by rw [hl]; omega)
    rw [onW_go hne]
    refine flat_head 8 (near E F (lastN p)) n3 (fun k hk => ?_) ?_
    · by_cases hc : (E (lastN p) k && !decide (k ∈ p)) = true
      · rw [onK_yes hc]
        cases hq : onW E b s d (p ++ [k]) with
        | nil => rfl
        | cons q qs =>
          exfalso
          have h1 := onW_lp (s := s) d (p ++ [k]) (by simp; omega) q (by rw [hq]; simp)
          rw [lastN_snoc] at h1
          have h2 := h.few k d h1
          simp only [Bool.and_eq_true] at hc
          have h3 := h.tie (x := lastN p) (y := k) h2.1 hc.1
          have h4 := n4 k hk
          unfold nearB at h4
          rw [hc.1] at h4
          simp at h4
          omega
      · exact onK_no (by simpa using hc)
    · have hnew : near E F (lastN p) ∉ p := fun hm => by have := hy _ hm; omega
      rw [onK_yes (by rw [n1]; simp [hnew])]
      have := ih (p ++ [near E F (lastN p)]) (by simp; omega) (by rw [lastN_snoc]; exact n2) (fun y hm => by
        rw [List.mem_append] at hm
        rcases hm with hm | hm
        · have := hy y hm; omega
        · simp at hm; subst hm; omega)
      rw [this, lastN_snoc]
      simp [geo]
/-- the i-th knot of the shortest way -/
def geoAt (E : Nat → Nat → Bool) (F : Nat → Int) : Nat → Nat → Nat
  | 0, x => x
  | i + 1, x => geoAt E F i (near E F x)
theorem geoAt_far {E : Nat → Nat → Bool} (hE8 : ∀ x y, E x y = true → y < 8) (hsym : ∀ x y, E x y = true → E y x = true) {b : Nat} {F : Nat → Int} (h : Fr E b F) : ∀ (i x d : Nat), i ≤ d → F x = (d : Int) → F (geoAt E F i x) = (d : Int) - (i : Int) := by
  intro i
  induction i with
  | zero => intro x d _ hx; simpa [geoAt] using hx
  | succ i ih =>
    intro x d hi hx
    obtain ⟨d, rfl⟩ : ∃ e, d = e + 1 := ⟨d - 1, by omega⟩
    obtain ⟨n1, n2, n3, n4⟩ := near_is hE8 h hsym (x := x) (d := d) (by rw [hx]; omega)
    have := ih (near E F x) d (by omega) n2
    simp only [geoAt]; rw [this]; omega
theorem geoAt_knot {E : Nat → Nat → Bool} {Kn : Nat} (hE8 : ∀ x y, E x y = true → y < 8) (hEK : ∀ x y, E x y = true → y < Kn) (hsym : ∀ x y, E x y = true → E y x = true) {b : Nat} {F : Nat → Int} (h : Fr E b F) : ∀ (i x d : Nat), i ≤ d → F x = (d : Int) → x < Kn → geoAt E F i x < Kn := by
  intro i
  induction i with
  | zero => intro x d _ hx hk; exact hk
  | succ i ih =>
    intro x d hi hx hk
    obtain ⟨d, rfl⟩ : ∃ e, d = e + 1 := ⟨d - 1, by omega⟩
    obtain ⟨n1, n2, n3, n4⟩ := near_is hE8 h hsym (x := x) (d := d) (by rw [hx]; omega)
    exact ih (near E F x) d (by omega) n2 (hEK _ _ n1)
theorem far_lt {E : Nat → Nat → Bool} {Kn : Nat} (hE8 : ∀ x y, E x y = true → y < 8) (hEK : ∀ x y, E x y = true → y < Kn) (hsym : ∀ x y, E x y = true → E y x = true) {b : Nat} {F : Nat → Int} (h : Fr E b F) {a d : Nat} (ha : a < Kn) (hd : F a = (d : Int)) : d < Kn := by
  have := pigeon Kn (d + 1) (fun i => geoAt E F i a) (fun i hi => geoAt_knot hE8 hEK hsym h i a d (by omega) hd ha) (fun i j hij hj e => by
    have h1 := geoAt_far hE8 hsym h i a d (by omega) hd
    have h2 := geoAt_far hE8 hsym h j a d (by omega) hd
    have e' : geoAt E F i a = geoAt E F j a := e
    rw [e'] at h1; omega)
  omega
/-- the first of all ways is the one that is found step by step -/
theorem find_is {E : Nat → Nat → Bool} {Kn : Nat} (hE8 : ∀ x y, E x y = true → y < 8) (hEK : ∀ x y, E x y = true → y < Kn) (hsym : ∀ x y, E x y = true → E y x = true) {b : Nat} {F : Nat → Int} (h : Fr E b F) {a d : Nat} (ha : a < Kn) (hd : F a = (d : Int)) : (allTo E a b Kn).head? = some (a :: geo E F d a) := by
  refine flat_head Kn d (far_lt hE8 hEK hsym h ha hd) (fun i hi => ?_) ?_
  · cases hq : onW E b (i + 1) i [a] with
    | nil => rfl
    | cons q qs =>
      exfalso
      have h1 := onW_lp (s := i + 1) i [a] (by simp; omega) q (by rw [hq]; simp)
      have h2 := h.few a i (by simpa [lastN] using h1)
      omega
  · have := geo_first hE8 hsym h (s := d + 1) d [a] (by simp; omega) (by simpa [lastN] using hd) (fun y hy => by simp at hy; subst hy; omega)
    simpa [lastN] using this
theorem find_no {E : Nat → Nat → Bool} {Kn : Nat} {b : Nat} {F : Nat → Int} (h : Fr E b F) {a : Nat} (hd : F a < 0) : allTo E a b Kn = [] := by
  refine flat_none Kn (fun i hi => ?_)
  cases hq : onW E b (i + 1) i [a] with
  | nil => rfl
  | cons q qs =>
    exfalso
    have h1 := onW_lp (s := i + 1) i [a] (by simp; omega) q (by rw [hq]; simp)
    have h2 := h.few a i (by simpa [lastN] using h1)
    omega

/-- a net that is gone through with how far it is: the marks, the row that waits, the knot that is gone on from (m of its neighbours are done) -/
structure BfF (E : Nat → Nat → Bool) (Kn b : Nat) (F : Nat → Int) (row : List Nat) (ex : Nat → Prop) : Prop where
  far : ∀ y, 0 ≤ F y → Lp E b (F y).toNat y ∧ y < Kn
  src : F b = 0
  rowm : ∀ y, y ∈ row → 0 ≤ F y
  sort : row.Pairwise (fun x y => F x ≤ F y)
  top : ∀ x, x ∈ row → ∀ y, F y ≤ F x + 1
  clos : ∀ z, 0 ≤ F z → z ∉ row → ¬ ex z → ∀ y, E z y = true → 0 ≤ F y ∧ F y ≤ F z + 1
  neg : ∀ y, -1 ≤ F y
def updI (F : Nat → Int) (i : Nat) (v : Int) : Nat → Int := fun j => if j = i then v else F j
theorem updI_at (F : Nat → Int) (i : Nat) (v : Int) : updI F i v i = v := by simp [updI]
theorem updI_no (F : Nat → Int) {i j : Nat} (v : Int) (h : j ≠ i) : updI F i v j = F j := by simp [updI, h]
theorem BfF.first {E : Nat → Nat → Bool} {Kn b : Nat} (hb : b < Kn) : BfF E Kn b (updI (fun _ => -1) b 0) [b] (fun _ => False) := by
  have no : ∀ y, y ≠ b → updI (fun _ => -1) b 0 y = -1 := fun y hy => updI_no _ _ hy
  have at' : updI (fun _ => -1) b 0 b = 0 := updI_at _ _ _
  have le : ∀ y, updI (fun _ => -1) b 0 y ≤ 0 ∧ -1 ≤ updI (fun _ => -1) b 0 y := fun y => by
    by_cases e : y = b
    · rw [e, at']; omega
    · rw [no y e]; omega
  refine ⟨fun y hy => ?_, at', fun y hy => ?_, by simp, fun x hx y => ?_, fun z hz hr => ?_, fun y => (le y).2⟩
  · by_cases e : y = b
    · subst e; rw [at']; exact ⟨rfl, hb⟩
    · rw [no y e] at hy; omega
  · simp at hy; subst hy; rw [at']; omega
  · simp at hx; subst hx; rw [at']; have := (le y).1; omega
  · exfalso
    by_cases e : z = b
    · subst e; simp at hr
    · rw [no z e] at hz; omega
/-- the first that waits is taken -/
theorem BfF.pop {E : Nat → Nat → Bool} {Kn b : Nat} {F : Nat → Int} {x : Nat} {row : List Nat} (h : BfF E Kn b F (x :: row) (fun _ => False)) : BfF E Kn b F row (fun y => y = x) ∧ 0 ≤ F x ∧ (∀ y, F y ≤ F x + 1) ∧ ∀ y, y ∈ row → F x ≤ F y := by
  refine ⟨⟨h.far, h.src, fun y hy => h.rowm y (by simp [hy]), (List.pairwise_cons.1 h.sort).2, fun z hz => h.top z (by simp [hz]), fun z hz hr hn => h.clos z hz (fun hm => ?_) (fun e => e), h.neg⟩, h.rowm x (by simp), h.top x (by simp), (List.pairwise_cons.1 h.sort).1⟩
  rcases List.mem_cons.1 hm with e | e
  · exact hn e
  · exact hr e
/-- one that was not come to is put behind -/
theorem BfF.push {E : Nat → Nat → Bool} {Kn b : Nat} (hEK : ∀ x y, E x y = true → y < Kn) (hsym : ∀ x y, E x y = true → E y x = true) {F : Nat → Int} {x y : Nat} {row : List Nat} (h : BfF E Kn b F row (fun y => y = x)) (hx : 0 ≤ F x) (ht : ∀ y, F y ≤ F x + 1) (hl : ∀ y, y ∈ row → F x ≤ F y) (he : E x y = true) (hy : F y < 0) :
    BfF E Kn b (updI F y (F x + 1)) (row ++ [y]) (fun y => y = x) ∧ 0 ≤ updI F y (F x + 1) x ∧ (∀ z, updI F y (F x + 1) z ≤ updI F y (F x + 1) x + 1) ∧ (∀ z, z ∈ row ++ [y] → updI F y (F x + 1) x ≤ updI F y (F x + 1) z) := by
  obtain ⟨G, hG⟩ : ∃ G, G = updI F y (F x + 1) := ⟨_, rfl⟩
  have gy : G y = F x + 1 := by rw [hG]; exact updI_at _ _ _
  have gn : ∀ z, z ≠ y → G z = F z := fun z hz => by rw [hG]; exact updI_no _ _ hz
  have pos : ∀ z, 0 ≤ F z → z ≠ y := fun z hz e => by subst e; omega
  have gx : G x = F x := gn x (pos x hx)
  have up : ∀ z, G z ≤ F x + 1 := fun z => by
    by_cases e : z = y
    · subst e; omega
    · rw [gn z e]; exact ht z
  rw [← hG, gx]
  clear hG
  refine ⟨⟨fun z hz => ?_, ?_, fun z hz => ?_, ?_, fun z hz u => ?_, fun z hz hr hn u hu => ?_, fun z => ?_⟩, hx, fun z => up z, fun z hz => ?_⟩
  · by_cases e : z = y
    · subst e
      rw [gy, show (F x + 1).toNat = (F x).toNat + 1 by omega]
      exact ⟨⟨x, hsym _ _ he, (h.far x hx).1⟩, hEK _ _ he⟩
    · rw [gn z e] at hz ⊢; exact h.far z hz
  · rw [gn b (pos b (by rw [h.src]; omega))]; exact h.src
  · rcases List.mem_append.1 hz with hm | hm
    · have := h.rowm z hm; rw [gn z (pos z this)]; exact this
    · simp at hm; subst hm; omega
  · rw [List.pairwise_append]
    refine ⟨?_, by simp, fun u hu v hv => ?_⟩
    · refine h.sort.imp_of_mem ?_
      intro u v hu hv huv
      rw [gn u (pos u (h.rowm u hu)), gn v (pos v (h.rowm v hv))]; exact huv
    · simp at hv; subst hv
      rw [gn u (pos u (h.rowm u hu)), gy]; exact ht u
  · have h1 := up u
    rcases List.mem_append.1 hz with hm | hm
    · rw [gn z (pos z (h.rowm z hm))]; have := hl z hm; omega
    · simp at hm; subst hm; rw [gy]; omega
  · have hzr : z ∉ row ∧ z ≠ y := by
      rw [List.mem_append] at hr
      exact ⟨fun q => hr (Or.inl q), fun q => hr (Or.inr (by simp [q]))⟩
    rw [gn z hzr.2] at hz ⊢
    have := h.clos z hz hzr.1 hn u hu
    rw [gn u (pos u this.1)]; exact this
  · by_cases e : z = y
    · subst e; omega
    · rw [gn z e]; exact h.neg z
  · rcases List.mem_append.1 hz with hm | hm
    · rw [gn z (pos z (h.rowm z hm))]; exact hl z hm
    · simp at hm; subst hm; omega
/-- all neighbours are done -/
theorem BfF.done {E : Nat → Nat → Bool} {Kn b : Nat} {F : Nat → Int} {x : Nat} {row : List Nat} (h : BfF E Kn b F row (fun y => y = x)) (ht : ∀ y, F y ≤ F x + 1) (hn : ∀ z, E x z = true → 0 ≤ F z) : BfF E Kn b F row (fun _ => False) :=
  ⟨h.far, h.src, h.rowm, h.sort, h.top, fun z hz hr _ y hy => by
    by_cases e : z = x
    · subst e; exact ⟨hn y hy, ht y⟩
    · exact h.clos z hz hr e y hy, h.neg⟩
theorem BfF.answer {E : Nat → Nat → Bool} {Kn b : Nat} (hsym : ∀ x y, E x y = true → E y x = true) {F : Nat → Int} (h : BfF E Kn b F [] (fun _ => False)) : Fr E b F := by
  refine ⟨fun x hx => (h.far x hx).1, fun x d => ?_⟩
  induction d generalizing x with
  | zero => intro e; obtain rfl : x = b := e; rw [h.src]; omega
  | succ d ih =>
    rintro ⟨y, hy, hl⟩
    have h1 := ih y hl
    have h2 := h.clos y h1.1 (by simp) (by simp) x (hsym _ _ hy)
    exact ⟨h2.1, by omega⟩

/-! ### ties of a net that is ok -/
theorem tieNB_sym {ts : List (Int × Int)} {x y : Nat} (h : tieNB ts x y = true) : tieNB ts y x = true := by
  unfold tieNB at h ⊢; rw [Int.min_comm, Int.max_comm]; exact h
theorem tieNB_lt {K : Int} {ts : List (Int × Int)} (hok : NetOk K ts) {x y : Nat} (h : tieNB ts x y = true) : y < K.toNat := by
  rcases (tieNB_iff hok).1 h with h1 | h1
  · exact (tied_lt hok h1).2
  · exact (tied_lt hok h1).1
theorem tieNB_8 {K : Int} {ts : List (Int × Int)} (hok : NetOk K ts) {x y : Nat} (h : tieNB ts x y = true) : y < 8 := by
  have := tieNB_lt hok h; have := hok.2.1; omega
/-- all ways between two knots of a net -/
def waysB (K : Int) (ts : List (Int × Int)) (a b : Int) : List (List Nat) := if (okB K ts && knotB a K && knotB b K) = true then allTo (tieNB ts) a.toNat b.toNat K.toNat else []
theorem waysB_no {K : Int} {ts : List (Int × Int)} {a b : Int} (h : (okB K ts && knotB a K && knotB b K) = false) : waysB K ts a b = [] := if_neg (by rw [h]; simp)
theorem waysB_yes {K : Int} {ts : List (Int × Int)} {a b : Int} (h : (okB K ts && knotB a K && knotB b K) = true) : waysB K ts a b = allTo (tieNB ts) a.toNat b.toNat K.toNat := if_pos h
/-- the first of them -/
def findB (K : Int) (ts : List (Int × Int)) (a b : Int) : List Nat := (waysB K ts a b).head?.getD []
def foundB (K : Int) (ts : List (Int × Int)) (a b : Int) : Bool := (waysB K ts a b).head?.isSome

end Go.Proofs.Ytljnjpjnadlmhaa
