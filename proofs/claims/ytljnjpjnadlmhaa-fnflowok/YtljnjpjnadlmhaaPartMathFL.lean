/- Texts put together: MathFL, MathFM. -/

/- Plain mathematics of flows: what goes over ties from one knot to another one; as much as the ties across least. No program stands here. -/
namespace Go.Proofs.Ytljnjpjnadlmhaa
set_option linter.unusedVariables false

/-- the sum of the first -/
def su : Nat → (Nat → Int) → Int
  | 0, _ => 0
  | n + 1, f => su n f + f n
theorem su_congr {n : Nat} {f g : Nat → Int} (h : ∀ i, i < n → f i = g i) : su n f = su n g := by
  induction n with
  | zero => rfl
  | succ n ih => show su n f + f n = su n g + g n; rw [ih (fun i hi => h i (by omega)), h n (by omega)]
theorem su_le {n : Nat} {f g : Nat → Int} (h : ∀ i, i < n → f i ≤ g i) : su n f ≤ su n g := by
  induction n with
  | zero => exact Int.le_refl _
  | succ n ih => show su n f + f n ≤ su n g + g n; have := ih (fun i hi => h i (by omega)); have := h n (by omega); omega
theorem su_add (n : Nat) (f g : Nat → Int) : su n (fun i => f i + g i) = su n f + su n g := by
  induction n with
  | zero => rfl
  | succ n ih => show su n _ + (f n + g n) = (su n f + f n) + (su n g + g n); rw [ih]; omega
theorem su_neg (n : Nat) (f : Nat → Int) : su n (fun i => - f i) = - su n f := by
  induction n with
  | zero => rfl
  | succ n ih => show su n _ + (- f n) = -(su n f + f n); rw [ih]; omega
theorem su_zero (n : Nat) : su n (fun _ => 0) = 0 := by
  induction n with
  | zero => rfl
  | succ n ih => show su n _ + 0 = 0; rw [ih]; rfl
theorem su_nonneg {n : Nat} {f : Nat → Int} (h : ∀ i, i < n → 0 ≤ f i) : 0 ≤ su n f := by
  rw [← su_zero n]; exact su_le h
/-- one alone is not nothing -/
theorem su_one {n : Nat} (x : Nat) (c : Int) (hx : x < n) : su n (fun i => if i = x then c else 0) = c := by
  induction n with
  | zero => omega
  | succ n ih =>
    show su n _ + (if n = x then c else 0) = c
    by_cases e : n = x
    · rw [if_pos e, su_congr (g := fun _ => 0) (fun i hi => if_neg (by omega)), su_zero]; omega
    · rw [if_neg e, ih (by omega)]; omega
theorem su_swap (n m : Nat) (f : Nat → Nat → Int) : su n (fun i => su m (f i)) = su m (fun j => su n (fun i => f i j)) := by
  induction n with
  | zero => exact (su_zero m).symm
  | succ n ih =>
    show su n _ + su m (f n) = su m (fun j => su n (fun i => f i j) + f n j)
    rw [ih, su_add]

/-- what goes over the ties T from a to b: v ways -/
structure Flw (T : Nat → Nat → Bool) (a b : Nat) (F : Nat → Nat → Int) (v : Int) : Prop where
  anti : ∀ x y, F y x = - F x y
  one : ∀ x y, F x y ≤ 1
  tie : ∀ x y, T x y = false → F x y = 0
  keep : ∀ x, x < 8 → x ≠ a → x ≠ b → su 8 (F x) = 0
  val : su 8 (F a) = v
/-- how many ties lead out of some knots -/
def cutN (T : Nat → Nat → Bool) (S : Nat → Bool) : Int := su 8 (fun x => su 8 (fun y => if (S x && !S y && T x y) = true then 1 else 0))
/-- what goes over within some knots is nothing in all -/
theorem inner_zero {F : Nat → Nat → Int} (h : ∀ x y, F y x = - F x y) (S : Nat → Bool) : su 8 (fun x => su 8 (fun y => if (S x && S y) = true then F x y else 0)) = 0 := by
  have e : su 8 (fun x => su 8 (fun y => if (S x && S y) = true then F x y else 0)) = - su 8 (fun x => su 8 (fun y => if (S x && S y) = true then F x y else 0)) := by
    conv => lhs; rw [su_swap]
    rw [← su_neg]
    refine su_congr (fun j _ => ?_)
    rw [← su_neg]
    refine su_congr (fun i _ => ?_)
    rw [Bool.and_comm]
    by_cases q : (S j && S i) = true
    · rw [if_pos q, if_pos q, h j i]
    · rw [if_neg q, if_neg q]; rfl
  omega
theorem out_sum {T : Nat → Nat → Bool} {a b : Nat} {F : Nat → Nat → Int} {v : Int} (h : Flw T a b F v) {S : Nat → Bool} (ha : a < 8) (hSa : S a = true) (hSb : S b = false) : su 8 (fun x => su 8 (fun y => if (S x && !S y) = true then F x y else 0)) = v := by
  have e1 : su 8 (fun x => if S x = true then su 8 (F x) else 0) = v := by
    rw [← su_one a v ha]
    refine su_congr (fun x hx => ?_)
    by_cases q : x = a
    · subst q; rw [if_pos hSa, if_pos rfl, h.val]
    · rw [if_neg q]
      by_cases s : S x = true
      · rw [if_pos s]; exact h.keep x hx q (fun e => by rw [e, hSb] at s; cases s)
      · rw [if_neg s]
  have e2 : su 8 (fun x => if S x = true then su 8 (F x) else 0) = su 8 (fun x => su 8 (fun y => if (S x && S y) = true then F x y else 0)) + su 8 (fun x => su 8 (fun y => if (S x && !S y) = true then F x y else 0)) := by
    rw [← su_add]
    refine su_congr (fun x _ => ?_)
    rw [← su_add]
    by_cases s : S x = true
    · rw [if_pos s]
      refine su_congr (fun y _ => ?_)
      rw [s]
      cases S y <;> simp
    · rw [if_neg s]
      refine Eq.trans (su_zero 8).symm (su_congr (fun y _ => ?_))
      rw [Bool.not_eq_true] at s
      simp [s]
  rw [inner_zero h.anti S] at e2
  omega
/-- no more goes than ties lead across -/
theorem flow_le {T : Nat → Nat → Bool} {a b : Nat} {F : Nat → Nat → Int} {v : Int} (h : Flw T a b F v) {S : Nat → Bool} (ha : a < 8) (hSa : S a = true) (hSb : S b = false) : v ≤ cutN T S := by
  rw [← out_sum h ha hSa hSb]
  refine su_le (fun x _ => su_le (fun y _ => ?_))
  have o := h.one x y
  have t := h.tie x y
  cases S x <;> cases S y <;> cases hT : T x y <;> simp_all
/-- as much goes, if each tie across is full -/
theorem flow_eq {T : Nat → Nat → Bool} {a b : Nat} {F : Nat → Nat → Int} {v : Int} (h : Flw T a b F v) {S : Nat → Bool} (ha : a < 8) (hSa : S a = true) (hSb : S b = false) (hf : ∀ x y, x < 8 → y < 8 → S x = true → S y = false → T x y = true → F x y = 1) : v = cutN T S := by
  rw [← out_sum h ha hSa hSb]
  refine su_congr (fun x hx => su_congr (fun y hy => ?_))
  by_cases q : (S x && !S y) = true
  · rw [if_pos q]
    cases hT : T x y with
    | false => rw [h.tie x y hT, if_neg (by simp)]
    | true =>
      have q2 := q
      simp only [Bool.and_eq_true, Bool.not_eq_true'] at q2
      rw [hf x y hx hy q2.1 q2.2 hT, if_pos (by rw [Bool.and_true]; exact q)]
  · rw [if_neg q, if_neg (fun e => q (by simp only [Bool.and_eq_true] at e ⊢; exact e.1))]

/-- one more from x to y -/
def goE (F : Nat → Nat → Int) (x y : Nat) : Nat → Nat → Int := fun u v => F u v + (if u = x ∧ v = y then 1 else 0) - (if u = y ∧ v = x then 1 else 0)
/-- one more along a way -/
def goW : (Nat → Nat → Int) → List Nat → Nat → Nat → Int
  | F, x :: y :: r => goW (goE F x y) (y :: r)
  | F, _ => F
theorem goE_row (F : Nat → Nat → Int) {x y : Nat} (hx : x < 8) (hy : y < 8) (u : Nat) : su 8 (goE F x y u) = su 8 (F u) + (if u = x then 1 else 0) - (if u = y then 1 else 0) := by
  have e1 : su 8 (fun v => if u = x ∧ v = y then (1 : Int) else 0) = if u = x then 1 else 0 := by
    by_cases q : u = x
    · rw [if_pos q]; exact Eq.trans (su_congr (fun v _ => by simp [q])) (su_one y 1 hy)
    · rw [if_neg q]; exact Eq.trans (su_congr (fun v _ => by simp [q])) (su_zero 8)
  have e2 : su 8 (fun v => - (if u = y ∧ v = x then (1 : Int) else 0)) = - if u = y then 1 else 0 := by
    rw [su_neg]
    by_cases q : u = y
    · rw [if_pos q]; exact congrArg _ (Eq.trans (su_congr (fun v _ => by simp [q])) (su_one x 1 hx))
    · rw [if_neg q]; exact congrArg _ (Eq.trans (su_congr (fun v _ => by simp [q])) (su_zero 8))
  have e3 : su 8 (goE F x y u) = su 8 (fun v => (F u v + (if u = x ∧ v = y then 1 else 0)) + (- (if u = y ∧ v = x then 1 else 0))) := su_congr (fun v _ => by unfold goE; omega)
  rw [e3, su_add, su_add, e1, e2]
  show su 8 (F u) + _ + _ = _
  omega
theorem goW_row (p : List Nat) : ∀ (F : Nat → Nat → Int) (x : Nat) (hp : ∀ z, z ∈ x :: p → z < 8) (u : Nat), su 8 (goW F (x :: p) u) = su 8 (F u) + (if u = x then 1 else 0) - (if u = (x :: p).getLast (by simp) then 1 else 0) := by
  induction p with
  | nil => intro F x hp u; show su 8 (F u) = su 8 (F u) + (if u = x then 1 else 0) - (if u = x then 1 else 0); omega
  | cons y r ih =>
    intro F x hp u
    show su 8 (goW (goE F x y) (y :: r) u) = _
    rw [ih (goE F x y) y (fun z hz => hp z (List.mem_cons_of_mem _ hz)) u, goE_row F (hp x (by simp)) (hp y (by simp)) u, List.getLast_cons (by simp : y :: r ≠ [])]
    omega
theorem goE_anti {F : Nat → Nat → Int} (h : ∀ x y, F y x = - F x y) (x y : Nat) : ∀ u v, goE F x y v u = - goE F x y u v := by
  intro u v
  have e := h u v
  unfold goE
  simp only [show (v = x ∧ u = y) = (u = y ∧ v = x) from propext and_comm, show (v = y ∧ u = x) = (u = x ∧ v = y) from propext and_comm]
  omega
/-- each step can be taken -/
def canW (T : Nat → Nat → Bool) (F : Nat → Nat → Int) : List Nat → Prop
  | x :: y :: r => T x y = true ∧ F x y < 1 ∧ canW T F (y :: r)
  | _ => True
theorem canW_congr {T : Nat → Nat → Bool} {F G : Nat → Nat → Int} (p : List Nat) (h : ∀ u v, u ∈ p → v ∈ p → F u v = G u v) (c : canW T F p) : canW T G p := by
  induction p with
  | nil => trivial
  | cons x r ih =>
    cases r with
    | nil => trivial
    | cons y r =>
      obtain ⟨c1, c2, c3⟩ := c
      exact ⟨c1, by rw [← h x y (by simp) (by simp)]; exact c2, ih (fun u v hu hv => h u v (List.mem_cons_of_mem _ hu) (List.mem_cons_of_mem _ hv)) c3⟩
theorem goW_ok {T : Nat → Nat → Bool} (hT : ∀ x y, T x y = T y x) (p : List Nat) : ∀ (F : Nat → Nat → Int), (∀ x y, F y x = - F x y) → (∀ x y, F x y ≤ 1) → (∀ x y, T x y = false → F x y = 0) → p.Nodup → canW T F p → (∀ x y, goW F p y x = - goW F p x y) ∧ (∀ x y, goW F p x y ≤ 1) ∧ (∀ x y, T x y = false → goW F p x y = 0) := by
  induction p with
  | nil => intro F h1 h2 h3 _ _; exact ⟨h1, h2, h3⟩
  | cons x r ih =>
    cases r with
    | nil => intro F h1 h2 h3 _ _; exact ⟨h1, h2, h3⟩
    | cons y r =>
      intro F h1 h2 h3 hn hc
      obtain ⟨c1, c2, c3⟩ := hc
      obtain ⟨n1, n2⟩ := List.nodup_cons.1 hn
      have hxy : x ≠ y := fun e => n1 (by simp [e])
      show (∀ u v, goW (goE F x y) (y :: r) v u = _) ∧ _
      refine ih (goE F x y) (goE_anti h1 x y) ?_ ?_ n2 (canW_congr _ (fun u v hu hv => ?_) c3)
      · intro u v
        have := h2 u v
        unfold goE
        by_cases q : u = x ∧ v = y
        · obtain ⟨rfl, rfl⟩ := q
          simp; split <;> omega
        · rw [if_neg q]; split <;> omega
      · intro u v huv
        have := h3 u v huv
        unfold goE
        rw [if_neg (by rintro ⟨rfl, rfl⟩; rw [c1] at huv; cases huv), if_neg (by rintro ⟨rfl, rfl⟩; rw [hT, c1] at huv; cases huv)]
        omega
      · have hux : u ≠ x := fun e => n1 (e ▸ hu)
        have hvx : v ≠ x := fun e => n1 (e ▸ hv)
        unfold goE
        rw [if_neg (fun q => hux q.1), if_neg (fun q => hvx q.2)]
        omega
/-- one way more -/
theorem Flw.more {T : Nat → Nat → Bool} {a b : Nat} {F : Nat → Nat → Int} {v : Int} (h : Flw T a b F v) (hT : ∀ x y, T x y = T y x) {p : List Nat} (hp : ∀ z, z ∈ a :: p → z < 8) (hn : (a :: p).Nodup) (hl : (a :: p).getLast (by simp) = b) (hab : a ≠ b) (hc : canW T F (a :: p)) : Flw T a b (goW F (a :: p)) (v + 1) := by
  obtain ⟨r1, r2, r3⟩ := goW_ok hT (a :: p) F h.anti h.one h.tie hn hc
  refine ⟨r1, r2, r3, fun x hx h1 h2 => ?_, ?_⟩
  · rw [goW_row p F a hp x, hl, if_neg h1, if_neg h2, h.keep x hx h1 h2]; rfl
  · rw [goW_row p F a hp a, hl, if_pos rfl, if_neg hab, h.val]; omega
theorem Flw.none (T : Nat → Nat → Bool) (a b : Nat) : Flw T a b (fun _ _ => 0) 0 :=
  ⟨fun _ _ => rfl, fun _ _ => by decide, fun _ _ _ => rfl, fun _ _ _ _ => su_zero 8, su_zero 8⟩

/-- so many ways there are at most -/
def MostW (T : Nat → Nat → Bool) (a b : Nat) (v : Int) : Prop := (∃ F, Flw T a b F v) ∧ ∃ S : Nat → Bool, S a = true ∧ S b = false ∧ v = cutN T S
theorem MostW.le {T : Nat → Nat → Bool} {a b : Nat} {v : Int} (ha : a < 8) (h : MostW T a b v) {S : Nat → Bool} (h1 : S a = true) (h2 : S b = false) : v ≤ cutN T S := by
  obtain ⟨⟨F, hF⟩, _⟩ := h
  exact flow_le hF ha h1 h2
theorem MostW.uniq {T : Nat → Nat → Bool} {a b : Nat} {v v' : Int} (ha : a < 8) (h : MostW T a b v) (h' : MostW T a b v') : v = v' := by
  obtain ⟨S, s1, s2, s3⟩ := h.2
  obtain ⟨S', t1, t2, t3⟩ := h'.2
  have e1 := h.le ha t1 t2
  have e2 := h'.le ha s1 s2
  omega

end Go.Proofs.Ytljnjpjnadlmhaa

/- Plain mathematics of flows: there is one that is the most; the laws of it. No program stands here. -/
namespace Go.Proofs.Ytljnjpjnadlmhaa
set_option linter.unusedVariables false

/-- where none can go on out of some knots, as many go as ties lead across -/
theorem most_of {T : Nat → Nat → Bool} {a b : Nat} {F : Nat → Nat → Int} {v : Int} (h : Flw T a b F v) {S : Nat → Bool} (ha : a < 8) (hSa : S a = true) (hSb : S b = false) (hc : ∀ x y, x < 8 → y < 8 → S x = true → T x y = true → F x y < 1 → S y = true) : MostW T a b v := by
  refine ⟨⟨F, h⟩, S, hSa, hSb, flow_eq h ha hSa hSb (fun x y hx hy h1 h2 h3 => ?_)⟩
  have := h.one x y
  rcases Decidable.em (F x y < 1) with q | q
  · rw [hc x y hx hy h1 h3 q] at h2; cases h2
  · omega

theorem goE_comm (F : Nat → Nat → Int) (x y z w : Nat) : goE (goE F x y) z w = goE (goE F z w) x y := by
  funext u v
  unfold goE
  omega
/-- one more along a way that is told from its end -/
def goB : (Nat → Nat → Int) → List Nat → Nat → Nat → Int
  | F, y :: x :: q => goB (goE F x y) (x :: q)
  | F, _ => F
theorem goB_goE (q : List Nat) : ∀ (F : Nat → Nat → Int) (x y : Nat), goB (goE F x y) q = goE (goB F q) x y := by
  induction q with
  | nil => intro F x y; rfl
  | cons z q ih =>
    cases q with
    | nil => intro F x y; rfl
    | cons w q => intro F x y; show goB (goE (goE F x y) w z) (w :: q) = goE (goB (goE F w z) (w :: q)) x y; rw [goE_comm, ih]
theorem goW_goE (p : List Nat) : ∀ (F : Nat → Nat → Int) (x y : Nat), goW (goE F x y) p = goE (goW F p) x y := by
  induction p with
  | nil => intro F x y; rfl
  | cons z q ih =>
    cases q with
    | nil => intro F x y; rfl
    | cons w q => intro F x y; show goW (goE (goE F x y) z w) (w :: q) = goE (goW (goE F z w) (w :: q)) x y; rw [goE_comm, ih]
theorem goW_app (p : List Nat) : ∀ (F : Nat → Nat → Int) (x y : Nat), goW F (p ++ [x, y]) = goE (goW F (p ++ [x])) x y := by
  induction p with
  | nil => intro F x y; rfl
  | cons z q ih =>
    cases q with
    | nil => intro F x y; show goE (goE F z x) x y = goE (goE F z x) x y; rfl
    | cons w q => intro F x y; exact ih (goE F z w) x y
theorem goB_rev (q : List Nat) : ∀ (F : Nat → Nat → Int), goB F q = goW F q.reverse := by
  induction q with
  | nil => intro F; rfl
  | cons y q ih =>
    cases q with
    | nil => intro F; rfl
    | cons x q =>
      intro F
      show goB (goE F x y) (x :: q) = _
      rw [goB_goE, ih, show (y :: x :: q).reverse = q.reverse ++ [x, y] by simp, show (x :: q).reverse = q.reverse ++ [x] by simp]
      exact (goW_app q.reverse F x y).symm
/-- each step can be taken, told from the end -/
def canR (T : Nat → Nat → Bool) (F : Nat → Nat → Int) : List Nat → Prop
  | y :: x :: q => T x y = true ∧ F x y < 1 ∧ canR T F (x :: q)
  | _ => True
theorem canW_app {T : Nat → Nat → Bool} {F : Nat → Nat → Int} (p : List Nat) {x y : Nat} (h : canW T F (p ++ [x])) (h1 : T x y = true) (h2 : F x y < 1) : canW T F (p ++ [x, y]) := by
  induction p with
  | nil => exact ⟨h1, h2, trivial⟩
  | cons z q ih =>
    cases q with
    | nil => exact ⟨h.1, h.2.1, h1, h2, trivial⟩
    | cons w q => exact ⟨h.1, h.2.1, ih h.2.2⟩
theorem canR_rev {T : Nat → Nat → Bool} {F : Nat → Nat → Int} (q : List Nat) (h : canR T F q) : canW T F q.reverse := by
  induction q with
  | nil => trivial
  | cons y q ih =>
    cases q with
    | nil => trivial
    | cons x q =>
      have := ih h.2.2
      rw [List.reverse_cons] at this
      rw [List.reverse_cons, List.reverse_cons, List.append_assoc]
      exact canW_app q.reverse this h.1 h.2.1
/-- one way more, told from its end -/
theorem Flw.moreB {T : Nat → Nat → Bool} {a b : Nat} {F : Nat → Nat → Int} {v : Int} (h : Flw T a b F v) (hT : ∀ x y, T x y = T y x) {q : List Nat} (hp : ∀ z, z ∈ b :: q → z < 8) (hn : (b :: q).Nodup) (hl : (b :: q).getLast (by simp) = a) (hab : a ≠ b) (hc : canR T F (b :: q)) : Flw T a b (goB F (b :: q)) (v + 1) := by
  have hcr := canR_rev _ hc
  rw [goB_rev]
  obtain ⟨p, hpq⟩ : ∃ p, (b :: q).reverse = a :: p := by
    cases e : (b :: q).reverse with
    | nil => simp at e
    | cons z p =>
      have h2 := List.head_reverse (l := b :: q) (by simp)
      simp only [e, List.head_cons] at h2
      rw [hl] at h2
      exact ⟨p, by rw [h2]⟩
  have hl2 : (a :: p).getLast (by simp) = b := by
    have h2 := List.getLast_reverse (l := b :: q) (by simp)
    simp only [hpq, List.head_cons] at h2
    exact h2
  rw [hpq] at hcr ⊢
  have hn2 : (a :: p).Nodup := by rw [← hpq]; exact List.pairwise_reverse.2 (hn.imp (fun h => Ne.symm h))
  exact h.more hT (fun z hz => hp z (by rw [← hpq] at hz; exact List.mem_reverse.1 hz)) hn2 hl2 hab hcr

/-- where one comes by steps that can be taken -/
inductive Cm (T : Nat → Nat → Bool) (F : Nat → Nat → Int) (a : Nat) : Nat → Prop
  | base : Cm T F a a
  | on {x y : Nat} : Cm T F a x → y < 8 → T x y = true → F x y < 1 → Cm T F a y
theorem cm_cut {T : Nat → Nat → Bool} {F : Nat → Nat → Int} {a : Nat} (q : List Nat) (y : Nat) (hy : y ∈ q) : ∀ (hne : q ≠ []), q.Nodup → canR T F q → q.getLast hne = a → (∀ z, z ∈ q → z < 8) → ∃ r, (y :: r).Nodup ∧ canR T F (y :: r) ∧ (y :: r).getLast (by simp) = a ∧ ∀ z, z ∈ y :: r → z < 8 := by
  induction q with
  | nil => cases hy
  | cons z q ih =>
    intro hne hn hc hl hp
    by_cases e : y = z
    · subst e; exact ⟨q, hn, hc, hl, hp⟩
    · have hy2 : y ∈ q := (List.mem_cons.1 hy).resolve_left e
      have hq : q ≠ [] := by intro h; rw [h] at hy2; cases hy2
      refine ih hy2 hq (List.nodup_cons.1 hn).2 ?_ (by rw [← hl, List.getLast_cons hq]) (fun w hw => hp w (List.mem_cons_of_mem _ hw))
      cases q with
      | nil => trivial
      | cons w q => exact hc.2.2
theorem cm_way {T : Nat → Nat → Bool} {F : Nat → Nat → Int} {a : Nat} (ha : a < 8) {y : Nat} (h : Cm T F a y) : ∃ r, (y :: r).Nodup ∧ canR T F (y :: r) ∧ (y :: r).getLast (by simp) = a ∧ ∀ z, z ∈ y :: r → z < 8 := by
  induction h with
  | base => exact ⟨[], by simp, trivial, rfl, fun z hz => by rw [List.mem_singleton.1 hz]; exact ha⟩
  | on hx hy h1 h2 ih =>
    rename_i x y
    obtain ⟨r, r1, r2, r3, r4⟩ := ih
    by_cases e : y ∈ x :: r
    · exact cm_cut (x :: r) y e (by simp) r1 r2 r3 r4
    · exact ⟨x :: r, List.nodup_cons.2 ⟨e, r1⟩, ⟨h1, h2, r2⟩, by rw [List.getLast_cons (by simp), r3], fun z hz => (List.mem_cons.1 hz).elim (fun q => by rw [q]; exact hy) (r4 z)⟩
theorem su_max {n : Nat} {f : Nat → Int} (h : ∀ i, i < n → f i ≤ 1) : su n f ≤ (n : Int) := by
  induction n with
  | zero => exact Int.le_refl _
  | succ n ih => show su n f + f n ≤ _; have := ih (fun i hi => h i (by omega)); have := h n (by omega); omega
theorem Flw.few {T : Nat → Nat → Bool} {a b : Nat} {F : Nat → Nat → Int} {v : Int} (h : Flw T a b F v) : v ≤ 8 := by
  rw [← h.val]; exact su_max (fun i _ => h.one a i)
open Classical in
theorem most_is {T : Nat → Nat → Bool} (hT : ∀ x y, T x y = T y x) {a b : Nat} (ha : a < 8) (hab : a ≠ b) : ∃ v, 0 ≤ v ∧ MostW T a b v := by
  have go : ∀ (n : Nat) (F : Nat → Nat → Int) (v : Int), Flw T a b F v → 0 ≤ v → (8 : Int) - v < (n : Int) → ∃ v, 0 ≤ v ∧ MostW T a b v := by
    intro n
    induction n with
    | zero => intro F v h _ hv; have := h.few; omega
    | succ n ih =>
      intro F v h h0 hv
      by_cases hb : Cm T F a b
      · obtain ⟨r, r1, r2, r3, r4⟩ := cm_way ha hb
        exact ih _ (v + 1) (h.moreB hT r4 r1 r3 hab r2) (by omega) (by omega)
      · exact ⟨v, h0, most_of h (S := fun x => decide (Cm T F a x)) ha (decide_eq_true .base) (decide_eq_false hb) (fun x y hx hy h1 h2 h3 => decide_eq_true ((of_decide_eq_true h1).on hy h2 h3))⟩
  exact go 9 _ 0 (Flw.none T a b) (Int.le_refl _) (by omega)
open Classical in
/-- how many ways there are at most that have no tie twice -/
noncomputable def flowN (T : Nat → Nat → Bool) (a b : Nat) : Int := if h : ∃ v, 0 ≤ v ∧ MostW T a b v then Classical.choose h else 0
theorem flowN_is {T : Nat → Nat → Bool} (hT : ∀ x y, T x y = T y x) {a b : Nat} (ha : a < 8) (hab : a ≠ b) : 0 ≤ flowN T a b ∧ MostW T a b (flowN T a b) := by
  have h := most_is hT ha hab
  unfold flowN
  rw [dif_pos h]
  exact Classical.choose_spec h
theorem flowN_eq {T : Nat → Nat → Bool} (hT : ∀ x y, T x y = T y x) {a b : Nat} (ha : a < 8) (hab : a ≠ b) {v : Int} (h : MostW T a b v) : flowN T a b = v :=
  MostW.uniq ha (flowN_is hT ha hab).2 h
theorem flowN_le {T : Nat → Nat → Bool} (hT : ∀ x y, T x y = T y x) {a b : Nat} (ha : a < 8) (hab : a ≠ b) {S : Nat → Bool} (h1 : S a = true) (h2 : S b = false) : flowN T a b ≤ cutN T S :=
  (flowN_is hT ha hab).2.le ha h1 h2
/-- the ties across some knots are as many as those across the others -/
theorem cutN_not {T : Nat → Nat → Bool} (hT : ∀ x y, T x y = T y x) (S : Nat → Bool) : cutN T (fun x => !S x) = cutN T S := by
  unfold cutN
  rw [su_swap]
  refine su_congr (fun x _ => su_congr (fun y _ => ?_))
  rw [hT y x]
  dsimp only
  rw [show (!S y && !!S x && T x y) = (S x && !S y && T x y) by cases S x <;> cases S y <;> rfl]
theorem flow_turn {T : Nat → Nat → Bool} (hT : ∀ x y, T x y = T y x) {a b : Nat} (ha : a < 8) (hb : b < 8) (hab : a ≠ b) : flowN T b a = flowN T a b := by
  obtain ⟨S, s1, s2, s3⟩ := (flowN_is hT ha hab).2.2
  obtain ⟨R, r1, r2, r3⟩ := (flowN_is hT hb (Ne.symm hab)).2.2
  have e1 := flowN_le hT hb (Ne.symm hab) (S := fun x => !S x) (by rw [s2]; rfl) (by rw [s1]; rfl)
  have e2 := flowN_le hT ha hab (S := fun x => !R x) (by rw [r2]; rfl) (by rw [r1]; rfl)
  rw [cutN_not hT] at e1 e2
  omega
/-- a third knot -/
theorem flow_three {T : Nat → Nat → Bool} (hT : ∀ x y, T x y = T y x) {a b k : Nat} (ha : a < 8) (hb : b < 8) (hk : k < 8) (hab : a ≠ b) (hak : k ≠ a) (hkb : k ≠ b) : flowN T a k ≤ flowN T a b ∨ flowN T k b ≤ flowN T a b := by
  obtain ⟨S, s1, s2, s3⟩ := (flowN_is hT ha hab).2.2
  cases e : S k with
  | true => exact Or.inr (by rw [s3]; exact flowN_le hT hk hkb e s2)
  | false => exact Or.inl (by rw [s3]; exact flowN_le hT ha (Ne.symm hak) s1 e)
/-- no more than a knot has ties -/
theorem flow_few {T : Nat → Nat → Bool} (hT : ∀ x y, T x y = T y x) {a b : Nat} (ha : a < 8) (hb : b < 8) (hab : a ≠ b) (hs : T a a = false) : flowN T a b ≤ su 8 (fun y => if T a y = true then 1 else 0) := by
  have e1 := flowN_le hT ha hab (S := fun x => decide (x = a)) (by simp) (by simp [Ne.symm hab])
  have e2 : cutN T (fun x => decide (x = a)) = su 8 (fun x => if x = a then su 8 (fun y => if T a y = true then 1 else 0) else 0) := by
    refine su_congr (fun x _ => ?_)
    by_cases q : x = a
    · subst q
      rw [if_pos rfl]
      refine su_congr (fun y _ => ?_)
      by_cases q2 : y = x
      · subst q2; simp [hs]
      · simp [q2]
    · rw [if_neg q]
      exact Eq.trans (su_congr (fun y _ => by simp [q])) (su_zero 8)
  rw [e2, su_one a _ ha] at e1
  exact e1
/-- more ties let more ways be, or as many -/
theorem flow_up {T U : Nat → Nat → Bool} (hT : ∀ x y, T x y = T y x) (hU : ∀ x y, U x y = U y x) (h : ∀ x y, T x y = true → U x y = true) {a b : Nat} (ha : a < 8) (hab : a ≠ b) : flowN T a b ≤ flowN U a b := by
  obtain ⟨S, s1, s2, s3⟩ := (flowN_is hU ha hab).2.2
  refine Int.le_trans (flowN_le hT ha hab s1 s2) ?_
  rw [s3]
  refine su_le (fun x _ => su_le (fun y _ => ?_))
  by_cases q : (S x && !S y && T x y) = true
  · rw [if_pos q, if_pos (by simp only [Bool.and_eq_true] at q ⊢; exact ⟨q.1, h x y q.2⟩)]; exact Int.le_refl _
  · rw [if_neg q]; split <;> omega

end Go.Proofs.Ytljnjpjnadlmhaa
