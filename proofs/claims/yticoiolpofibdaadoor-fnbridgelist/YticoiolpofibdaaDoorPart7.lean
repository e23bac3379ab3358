/- Texts put together: MathB, MathD, WInts, WForest. -/
import Derived.Test.YticoiolpofibdaaDoorPart6
import Derived.Test.YticoiolpofibdaaDoorPart2
import Derived.Test.YticoiolpofibdaaDoorPart1
import Derived.BigRegion
/- Plain mathematics of going through a net: what is marked in the end is what hangs together. No program stands here. -/
namespace Go.Proofs.YticoiolpofibdaaDoor
set_option linter.unusedVariables false

/-- two knots are tied, either way -/
def tieNB (ts : List (Int × Int)) (x y : Nat) : Bool := tiedB ts (min (x : Int) (y : Int)) (max (x : Int) (y : Int))
theorem tieNB_iff {K : Int} {ts : List (Int × Int)} (h : NetOk K ts) {x y : Nat} : tieNB ts x y = true ↔ Tied ts ts.length x y ∨ Tied ts ts.length y x := by
  obtain ⟨h0, h8, hg⟩ := h
  unfold tieNB
  rw [tiedB_iff]
  constructor
  · rintro ⟨i, hi, e1, e2⟩
    obtain ⟨q1, q2, q3⟩ := (hg i hi).1
    by_cases hxy : x ≤ y
    · left; exact ⟨i, hi, by omega, by omega⟩
    · right; exact ⟨i, hi, by omega, by omega⟩
  · rintro (⟨i, hi, e1, e2⟩ | ⟨i, hi, e1, e2⟩)
    · obtain ⟨q1, q2, q3⟩ := (hg i hi).1
      exact ⟨i, hi, by omega, by omega⟩
    · obtain ⟨q1, q2, q3⟩ := (hg i hi).1
      exact ⟨i, hi, by omega, by omega⟩
theorem tied_lt {K : Int} {ts : List (Int × Int)} (h : NetOk K ts) {x y : Nat} (ht : Tied ts ts.length x y) : x < K.toNat ∧ y < K.toNat := by
  obtain ⟨h0, h8, hg⟩ := h
  obtain ⟨i, hi, e1, e2⟩ := ht
  obtain ⟨q1, q2, q3⟩ := (hg i hi).1
  omega

/-- marked so far, and what waits; ex: what is under way -/
structure Bfs (K : Int) (ts : List (Int × Int)) (a : Nat) (M : Nat → Bool) (row : List Nat) (ex : Nat → Prop) : Prop where
  start : M a = true
  reach : ∀ y, M y = true → y < K.toNat ∧ Cn (Tied ts ts.length) a y
  inrow : ∀ y, y ∈ row → M y = true
  closed : ∀ y, M y = true → y ∈ row ∨ ex y ∨ ∀ z, z < K.toNat → tieNB ts y z = true → M z = true
def mark (M : Nat → Bool) (y : Nat) : Nat → Bool := fun j => if j = y then true else M j
theorem mark_old {M : Nat → Bool} {y j : Nat} (h : M j = true) : mark M y j = true := by unfold mark; split <;> simp_all
theorem Bfs.first {K : Int} {ts : List (Int × Int)} {a : Nat} (ha : a < K.toNat) : Bfs K ts a (mark (fun _ => false) a) [a] (fun _ => False) := by
  have h1 : ∀ y, mark (fun _ => false) a y = true → y = a := by intro y h; unfold mark at h; by_cases e : y = a; exact e; simp [e] at h
  refine ⟨by simp [mark], fun y h => ?_, fun y h => ?_, fun y h => ?_⟩
  · rw [h1 y h]; exact ⟨ha, Cn.refl _⟩
  · simp at h; simp [mark, h]
  · left; rw [h1 y h]; simp
theorem Bfs.pop {K : Int} {ts : List (Int × Int)} {a : Nat} {M : Nat → Bool} {x : Nat} {row : List Nat} (h : Bfs K ts a M (x :: row) (fun _ => False)) : Bfs K ts a M row (fun y => y = x) := by
  refine ⟨h.start, h.reach, fun y hy => h.inrow y (List.mem_cons_of_mem _ hy), fun y hy => ?_⟩
  rcases h.closed y hy with h1 | h1 | h1
  · rcases List.mem_cons.1 h1 with h2 | h2
    · exact Or.inr (Or.inl h2)
    · exact Or.inl h2
  · exact absurd h1 (by simp)
  · exact Or.inr (Or.inr h1)
theorem Bfs.push {K : Int} {ts : List (Int × Int)} (hok : NetOk K ts) {a : Nat} {M : Nat → Bool} {x y : Nat} {row : List Nat} {ex : Nat → Prop} (h : Bfs K ts a M row ex) (hx : M x = true) (hy : y < K.toNat) (hxy : tieNB ts x y = true) :
    Bfs K ts a (mark M y) (row ++ [y]) ex := by
  refine ⟨mark_old h.start, fun z hz => ?_, fun z hz => ?_, fun z hz => ?_⟩
  · by_cases e : z = y
    · subst e
      refine ⟨hy, ?_⟩
      have hc := (h.reach x hx).2
      rcases (tieNB_iff hok).1 hxy with h1 | h1
      · exact hc.fwd h1
      · exact hc.bwd h1
    · exact h.reach z (by unfold mark at hz; rwa [if_neg e] at hz)
  · rcases List.mem_append.1 hz with h1 | h1
    · exact mark_old (h.inrow z h1)
    · simp at h1; simp [mark, h1]
  · by_cases e : z = y
    · subst e; left; simp
    · have hz' : M z = true := by unfold mark at hz; rwa [if_neg e] at hz
      rcases h.closed z hz' with h1 | h1 | h1
      · exact Or.inl (List.mem_append_left _ h1)
      · exact Or.inr (Or.inl h1)
      · exact Or.inr (Or.inr fun u hu he => mark_old (h1 u hu he))
theorem Bfs.done {K : Int} {ts : List (Int × Int)} {a : Nat} {M : Nat → Bool} {x : Nat} {row : List Nat} (h : Bfs K ts a M row (fun y => y = x)) (hn : ∀ z, z < K.toNat → tieNB ts x z = true → M z = true) : Bfs K ts a M row (fun _ => False) := by
  refine ⟨h.start, h.reach, h.inrow, fun y hy => ?_⟩
  rcases h.closed y hy with h1 | h1 | h1
  · exact Or.inl h1
  · subst h1; exact Or.inr (Or.inr hn)
  · exact Or.inr (Or.inr h1)
theorem Bfs.all {K : Int} {ts : List (Int × Int)} (hok : NetOk K ts) {a : Nat} {M : Nat → Bool} (h : Bfs K ts a M [] (fun _ => False)) (y : Nat) : M y = true ↔ Cn (Tied ts ts.length) a y := by
  have hc : ∀ y, M y = true → ∀ z, z < K.toNat → tieNB ts y z = true → M z = true := by
    intro y hy
    rcases h.closed y hy with h1 | h1 | h1
    · simp at h1
    · exact absurd h1 (by simp)
    · exact h1
  constructor
  · exact fun hy => (h.reach y hy).2
  · intro hy
    induction hy with
    | refl => exact h.start
    | fwd _ e ih => exact hc _ ih _ (tied_lt hok e).2 ((tieNB_iff hok).2 (Or.inl e))
    | bwd _ e ih => exact hc _ ih _ (tied_lt hok e).1 ((tieNB_iff hok).2 (Or.inr e))
/-- the answer: as the forest has it -/
def reachB (ts : List (Int × Int)) (a y : Nat) : Bool := decide (top (forest ts ts.length) y = top (forest ts ts.length) a)
theorem Bfs.answer {K : Int} {ts : List (Int × Int)} (hok : NetOk K ts) {a : Nat} {M : Nat → Bool} (h : Bfs K ts a M [] (fun _ => False)) (y : Nat) : M y = reachB ts a y := by
  unfold reachB
  have h1 := h.all hok y
  have h2 := forest_cn ts ts.length a y
  by_cases e : top (forest ts ts.length) y = top (forest ts ts.length) a
  · rw [decide_eq_true e]; exact h1.2 (h2.1 e.symm)
  · rw [decide_eq_false e, ← Bool.not_eq_true]; exact fun hm => e (h2.2 (h1.1 hm)).symm

/-- how many are not marked -/
def unm (M : Nat → Bool) : Nat → Nat
  | 0 => 0
  | n + 1 => unm M n + if M n = true then 0 else 1
theorem unm_same (M : Nat → Bool) (y : Nat) : ∀ n, n ≤ y → unm (mark M y) n = unm M n := by
  intro n
  induction n with
  | zero => intro _; rfl
  | succ n ih =>
    intro h
    simp only [unm]
    rw [ih (by omega)]
    have : mark M y n = M n := by unfold mark; rw [if_neg (by omega)]
    rw [this]
theorem unm_mark (M : Nat → Bool) {y : Nat} (hM : M y = false) : ∀ n, y < n → unm (mark M y) n + 1 = unm M n := by
  intro n
  induction n with
  | zero => intro h; omega
  | succ n ih =>
    intro h
    simp only [unm]
    by_cases e : n = y
    · subst e
      rw [unm_same M n n (Nat.le_refl _), hM]
      simp [mark]
    · have h1 := ih (by omega)
      have : mark M y n = M n := by unfold mark; rw [if_neg e]
      rw [this]; omega
theorem unm_le (M : Nat → Bool) : ∀ n, unm M n ≤ n := by
  intro n
  induction n with
  | zero => exact Nat.le_refl _
  | succ n ih => simp only [unm]; split <;> omega

/-- all knots that one is tied to, ascending, of the first m -/
def nbrs (ts : List (Int × Int)) (x m : Nat) : List Nat := (List.range m).filter (fun i => tieNB ts x i)
theorem nbrs_yes {ts : List (Int × Int)} {x m : Nat} (h : tieNB ts x m = true) : nbrs ts x (m + 1) = nbrs ts x m ++ [m] := by
  unfold nbrs; rw [List.range_succ, List.filter_append]; simp [h]
theorem nbrs_no {ts : List (Int × Int)} {x m : Nat} (h : tieNB ts x m = false) : nbrs ts x (m + 1) = nbrs ts x m := by
  unfold nbrs; rw [List.range_succ, List.filter_append]; simp [h]
theorem mem_nbrs {ts : List (Int × Int)} {x m y : Nat} : y ∈ nbrs ts x m ↔ y < m ∧ tieNB ts x y = true := by
  unfold nbrs; rw [List.mem_filter, List.mem_range]
theorem nbrs_len (ts : List (Int × Int)) (x m : Nat) : (nbrs ts x m).length ≤ m := by
  have := List.length_filter_le (fun i => tieNB ts x i) (List.range m)
  simpa [nbrs] using this

end Go.Proofs.YticoiolpofibdaaDoor

/- Plain mathematics of going down through a net once: what is told in the end is just the bridges. No program stands here. -/
namespace Go.Proofs.YticoiolpofibdaaDoor
set_option linter.unusedVariables false

/-- all ties but one -/
def But (E : Nat → Nat → Prop) (a b : Nat) (x y : Nat) : Prop := E x y ∧ ¬ (x = a ∧ y = b) ∧ ¬ (x = b ∧ y = a)
/-- two knots hang together without the tie between them -/
def Nb (E : Nat → Nat → Prop) (a b : Nat) : Prop := Cn (But E a b) a b
theorem But.turn {E : Nat → Nat → Prop} {a b x y : Nat} (h : But E a b x y) : But E b a x y := ⟨h.1, h.2.2, h.2.1⟩
theorem Nb.turn {E : Nat → Nat → Prop} {a b : Nat} (h : Nb E a b) : Nb E b a := (Cn.mono (fun _ _ => But.turn) h).symm
/-- a net that is gone down through: m knots hang from each other (kn), each with the one above (fr), the next to look at (nx), the least turn (le); tu the turns, cn the last one; br the bridges; par of each knot the one above -/
structure Dv where
  m : Nat
  kn : Nat → Nat
  fr : Nat → Nat
  nx : Nat → Nat
  le : Nat → Nat
  tu : Nat → Nat
  cn : Nat
  br : Nat → Nat → Prop
  par : Nat → Nat
def upd (f : Nat → Nat) (i v : Nat) : Nat → Nat := fun j => if j = i then v else f j
theorem upd_at (f : Nat → Nat) (i v : Nat) : upd f i v i = v := by simp [upd]
theorem upd_no (f : Nat → Nat) {i j : Nat} (v : Nat) (h : j ≠ i) : upd f i v j = f j := by simp [upd, h]
/-- it was come to, and left -/
def Dn (d : Dv) (v : Nat) : Prop := 0 < d.tu v ∧ ∀ i, i < d.m → d.kn i ≠ v
/-- ties of which one end is not above the i-th knot, but the one to the knot above -/
def Ew (E : Nat → Nat → Prop) (tu : Nat → Nat) (k f : Nat) (x y : Nat) : Prop := E x y ∧ (tu k ≤ tu x ∨ tu k ≤ tu y) ∧ ¬ (x = f ∧ y = k) ∧ ¬ (x = k ∧ y = f)
structure Gr (E : Nat → Nat → Prop) : Prop where
  sym : ∀ x y, E x y → E y x
  irr : ∀ x, ¬ E x x
  inn : ∀ x y, E x y → x < 8
structure Inv (E : Nat → Nat → Prop) (d : Dv) : Prop where
  knk : ∀ i, i < d.m → d.kn i < 8 ∧ 0 < d.tu (d.kn i) ∧ d.fr i = d.par (d.kn i) ∧ d.nx i ≤ 8 ∧ d.le i ≤ d.tu (d.kn i) ∧ d.tu (d.kn 0) ≤ d.le i
  chain : ∀ i, i + 1 < d.m → d.fr (i + 1) = d.kn i ∧ E (d.kn i) (d.kn (i + 1)) ∧ d.tu (d.kn i) < d.tu (d.kn (i + 1))
  root : 0 < d.m → d.fr 0 = d.kn 0
  tucn : ∀ v, d.tu v ≤ d.cn
  tuinj : ∀ v w, 0 < d.tu v → d.tu v = d.tu w → v = w
  tu8 : ∀ v, 0 < d.tu v → v < 8
  tree : ∀ v, 0 < d.tu v → d.par v = v ∨ (E (d.par v) v ∧ 0 < d.tu (d.par v) ∧ d.tu (d.par v) < d.tu v)
  seg : 0 < d.m → ∀ v, d.tu (d.kn 0) ≤ d.tu v → v = d.kn 0 ∨ (d.par v ≠ v ∧ d.tu (d.kn 0) ≤ d.tu (d.par v))
  old : 0 < d.m → ∀ v x, 0 < d.tu v → d.tu v < d.tu (d.kn 0) → E v x → 0 < d.tu x ∧ d.tu x < d.tu (d.kn 0)
  done : ∀ v, Dn d v → ∀ x, E v x → 0 < d.tu x ∧ (d.par v = x ∨ d.par x = v ∨ Nb E v x)
  seen : ∀ i, i < d.m → ∀ x, x < d.nx i → E (d.kn i) x → 0 < d.tu x ∧ (d.par (d.kn i) = x ∨ d.par x = d.kn i ∨ Nb E (d.kn i) x) ∧ (x ≠ d.fr i → d.le i ≤ d.tu x)
  low : ∀ i, i < d.m → ∀ v, Dn d v → d.tu (d.kn i) ≤ d.tu v → (i + 1 < d.m → d.tu v < d.tu (d.kn (i + 1))) → ∀ x, E v x → d.le i ≤ d.tu x
  wit : ∀ i, i < d.m → ∃ u, d.tu u = d.le i ∧ Cn (Ew E d.tu (d.kn i) (d.fr i)) (d.kn i) u
  br1 : ∀ x y, d.br x y → E x y ∧ ¬ Nb E x y
  brs : ∀ x y, d.br x y → d.br y x
  br2 : ∀ v, Dn d v → d.par v ≠ v → d.br (d.par v) v ∨ Nb E (d.par v) v

theorem Inv.up {E : Nat → Nat → Prop} {d : Dv} (h : Inv E d) {i : Nat} : ∀ j, i < j → j < d.m → d.tu (d.kn i) < d.tu (d.kn j) := by
  intro j
  induction j with
  | zero => intro h0; omega
  | succ j ih =>
    intro hij hj
    have h1 := (h.chain j hj).2.2
    by_cases e : i = j
    · subst e; exact h1
    · have := ih (by omega) (by omega); omega
theorem Inv.le0 {E : Nat → Nat → Prop} {d : Dv} (h : Inv E d) {j : Nat} (hj : j < d.m) : d.tu (d.kn 0) ≤ d.tu (d.kn j) := by
  by_cases e : j = 0
  · subst e; exact Nat.le_refl _
  · have := h.up j (i := 0) (by omega) hj; omega
theorem Inv.knInj {E : Nat → Nat → Prop} {d : Dv} (h : Inv E d) {i j : Nat} (hi : i < d.m) (hj : j < d.m) (e : d.kn i = d.kn j) : i = j := by
  rcases Nat.lt_trichotomy i j with h1 | h1 | h1
  · have := h.up j h1 hj; rw [e] at this; omega
  · exact h1
  · have := h.up i h1 hi; rw [e] at this; omega
/-- the tie of a knot to the one above -/
def Up (E : Nat → Nat → Prop) (d : Dv) (b : Nat) (x y : Nat) : Prop := E x y ∧ d.par y = x ∧ d.tu y ≤ b ∧ d.tu x < d.tu y
/-- all that was come to since the first of the stack hangs together with it by ties to the knots above -/
theorem Inv.rooted {E : Nat → Nat → Prop} {d : Dv} (h : Inv E d) (hm : 0 < d.m) : ∀ n v, d.tu v ≤ n → d.tu (d.kn 0) ≤ d.tu v → Cn (Up E d (d.tu v)) (d.kn 0) v := by
  intro n
  have p0 := (h.knk 0 hm).2.1
  induction n with
  | zero => intro v hv h0; omega
  | succ n ih =>
    intro v hv h0
    rcases h.seg hm v h0 with rfl | ⟨hp, hp2⟩
    · exact Cn.refl _
    · rcases h.tree v (by omega) with e | ⟨e1, e2, e3⟩
      · exact absurd e hp
      · exact (Cn.mono (fun x y q => ⟨q.1, q.2.1, by have := q.2.2.1; omega, q.2.2.2⟩) (ih (d.par v) (by omega) hp2)).fwd ⟨e1, rfl, Nat.le_refl _, e3⟩

/-- what is put on the stack -/
def Dv.push (d : Dv) (k f : Nat) : Dv := { d with m := d.m + 1, kn := upd d.kn d.m k, fr := upd d.fr d.m f, nx := upd d.nx d.m 0, le := upd d.le d.m (d.cn + 1), tu := upd d.tu k (d.cn + 1), cn := d.cn + 1, par := upd d.par k f }
/-- the lowest looks at one more -/
def Dv.skip (d : Dv) (i x : Nat) : Dv := { d with nx := upd d.nx i (x + 1) }
def Dv.look (d : Dv) (i x : Nat) : Dv := { d with nx := upd d.nx i (x + 1), le := upd d.le i (min (d.le i) (d.tu x)) }

theorem inv_begin {E : Nat → Nat → Prop} (tu0 : Nat → Nat) (h0 : ∀ v, tu0 v = 0) (kn fr nx le par : Nat → Nat) : Inv E ⟨0, kn, fr, nx, le, tu0, 0, fun _ _ => False, par⟩ := by
  have hz : ∀ v, ¬ 0 < tu0 v := fun v => by rw [h0]; omega
  refine ⟨fun i hi => absurd hi (by simp), fun i hi => absurd hi (by simp), fun hi => absurd hi (by simp), fun v => by simp [h0], fun v w hv => absurd hv (hz v), fun v hv => absurd hv (hz v), fun v hv => absurd hv (hz v), fun hi => absurd hi (by simp), fun hi => absurd hi (by simp), fun v hv => absurd hv.1 (hz v), fun i hi => absurd hi (by simp), fun i hi => absurd hi (by simp), fun i hi => absurd hi (by simp), fun x y hb => absurd hb (by simp), fun x y hb => absurd hb (by simp), fun v hv => absurd hv.1 (hz v)⟩

theorem Inv.pushRoot {E : Nat → Nat → Prop} (G : Gr E) {d : Dv} (h : Inv E d) (hm : d.m = 0) {k : Nat} (hk : k < 8) (hz : d.tu k = 0) : Inv E (d.push k k) := by
  have hd : ∀ v, 0 < d.tu v → Dn d v := fun v hv => ⟨hv, fun i hi => by omega⟩
  obtain ⟨d', hd'⟩ : ∃ d', d' = d.push k k := ⟨_, rfl⟩
  have tk : d'.tu k = d.cn + 1 := by rw [hd']; exact upd_at _ _ _
  have tn : ∀ v, v ≠ k → d'.tu v = d.tu v := fun v hv => by rw [hd']; exact upd_no _ _ hv
  have pk : d'.par k = k := by rw [hd']; exact upd_at _ _ _
  have pn : ∀ v, v ≠ k → d'.par v = d.par v := fun v hv => by rw [hd']; exact upd_no _ _ hv
  have k0 : d'.kn 0 = k := by rw [hd']; show upd d.kn d.m k 0 = k; rw [hm]; exact upd_at _ _ _
  have f0 : d'.fr 0 = k := by rw [hd']; show upd d.fr d.m k 0 = k; rw [hm]; exact upd_at _ _ _
  have n0 : d'.nx 0 = 0 := by rw [hd']; show upd d.nx d.m 0 0 = 0; rw [hm]; exact upd_at _ _ _
  have l0 : d'.le 0 = d.cn + 1 := by rw [hd']; show upd d.le d.m (d.cn + 1) 0 = _; rw [hm]; exact upd_at _ _ _
  have m1 : d'.m = 1 := by rw [hd']; show d.m + 1 = 1; omega
  have c1 : d'.cn = d.cn + 1 := by rw [hd']; rfl
  have b1 : d'.br = d.br := by rw [hd']; rfl
  rw [← hd']
  clear hd'
  have dn : ∀ v, Dn d' v → v ≠ k ∧ Dn d v := by
    intro v hv
    have hvk : v ≠ k := fun e => hv.2 0 (by omega) (by rw [k0, e])
    exact ⟨hvk, hd v (by rw [← tn v hvk]; exact hv.1)⟩
  have nok : ∀ v, 0 < d.tu v → ¬ E v k := fun v hv he => by have := (h.done v (hd v hv) k he).1; omega
  refine ⟨?_, ?_, ?_, ?_, ?_, ?_, ?_, ?_, ?_, ?_, ?_, ?_, ?_, ?_, ?_, ?_⟩
  · intro i hi
    obtain rfl : i = 0 := by omega
    rw [k0, f0, n0, l0, tk, pk]; exact ⟨hk, by omega, rfl, by omega, Nat.le_refl _, Nat.le_refl _⟩
  · intro i hi; omega
  · intro _; rw [f0, k0]
  · intro v
    by_cases e : v = k
    · subst e; rw [tk, c1]; omega
    · rw [tn v e, c1]; have := h.tucn v; omega
  · intro v w hv e
    by_cases e1 : v = k
    · by_cases e2 : w = k
      · rw [e1, e2]
      · rw [e1, tk, tn w e2] at e; have := h.tucn w; omega
    · by_cases e2 : w = k
      · rw [e2, tk, tn v e1] at e; have := h.tucn v; omega
      · rw [tn v e1, tn w e2] at e; rw [tn v e1] at hv; exact h.tuinj v w hv e
  · intro v hv
    by_cases e : v = k
    · subst e; exact hk
    · rw [tn v e] at hv; exact h.tu8 v hv
  · intro v hv
    by_cases e : v = k
    · left; subst e; exact pk
    · rw [tn v e] at hv
      rw [pn v e]
      rcases h.tree v hv with h1 | ⟨h1, h2, h3⟩
      · left; exact h1
      · right
        have : d.par v ≠ k := fun e => by rw [e] at h2; omega
        rw [tn v e, tn _ this]; exact ⟨h1, h2, h3⟩
  · intro _ v hv
    rw [k0, tk] at hv
    left
    by_cases e : v = k
    · rw [k0]; exact e
    · rw [tn v e] at hv; have := h.tucn v; omega
  · intro _ v x hv hlt he
    rw [k0, tk] at hlt ⊢
    by_cases e : v = k
    · rw [e, tk] at hlt; omega
    · rw [tn v e] at hv
      have hx : x ≠ k := fun e2 => nok v hv (e2 ▸ he)
      rw [tn x hx]
      have h1 := (h.done v (hd v hv) x he).1
      have := h.tucn x
      exact ⟨h1, by omega⟩
  · intro v hv x he
    obtain ⟨hvk, hvd⟩ := dn v hv
    have hx : x ≠ k := fun e2 => nok v hvd.1 (e2 ▸ he)
    rw [tn x hx, pn v hvk, pn x hx]
    exact h.done v hvd x he
  · intro i hi x hx
    obtain rfl : i = 0 := by omega
    rw [n0] at hx; omega
  · intro i hi v hv hle
    obtain rfl : i = 0 := by omega
    obtain ⟨hvk, hvd⟩ := dn v hv
    rw [k0, tk, tn v hvk] at hle
    have := h.tucn v; omega
  · intro i hi
    obtain rfl : i = 0 := by omega
    rw [k0, l0]
    exact ⟨k, tk, Cn.refl _⟩
  · rw [b1]; exact h.br1
  · rw [b1]; exact h.brs
  · intro v hv hp
    obtain ⟨hvk, hvd⟩ := dn v hv
    rw [pn v hvk] at hp ⊢
    rw [b1]
    exact h.br2 v hvd hp

theorem Inv.pushChild {E : Nat → Nat → Prop} (G : Gr E) {d : Dv} (h : Inv E d) {i k : Nat} (hi : i + 1 = d.m) (he : E (d.kn i) k) (hz : d.tu k = 0) (hn : d.nx i = k) : Inv E ((d.skip i k).push k (d.kn i)) := by
  have hk : k < 8 := G.inn k (d.kn i) (G.sym _ _ he)
  have hkk : ∀ j, j < d.m → d.kn j ≠ k := fun j hj e => by have := (h.knk j hj).2.1; rw [e] at this; omega
  obtain ⟨d', hd'⟩ : ∃ d', d' = (d.skip i k).push k (d.kn i) := ⟨_, rfl⟩
  have m1 : d'.m = d.m + 1 := by rw [hd']; rfl
  have tk : d'.tu k = d.cn + 1 := by rw [hd']; exact upd_at _ _ _
  have tn : ∀ v, v ≠ k → d'.tu v = d.tu v := fun v hv => by rw [hd']; exact upd_no _ _ hv
  have pk : d'.par k = d.kn i := by rw [hd']; exact upd_at _ _ _
  have pn : ∀ v, v ≠ k → d'.par v = d.par v := fun v hv => by rw [hd']; exact upd_no _ _ hv
  have kt : d'.kn d.m = k := by rw [hd']; exact upd_at _ _ _
  have ko : ∀ j, j < d.m → d'.kn j = d.kn j := fun j hj => by rw [hd']; exact upd_no _ _ (by show j ≠ d.m; omega)
  have ft : d'.fr d.m = d.kn i := by rw [hd']; exact upd_at _ _ _
  have fo : ∀ j, j < d.m → d'.fr j = d.fr j := fun j hj => by rw [hd']; exact upd_no _ _ (by show j ≠ d.m; omega)
  have nt : d'.nx d.m = 0 := by rw [hd']; exact upd_at _ _ _
  have no : ∀ j, j < d.m → j ≠ i → d'.nx j = d.nx j := fun j hj hji => by rw [hd']; exact (upd_no _ _ (by show j ≠ d.m; omega)).trans (upd_no _ _ hji)
  have ni : d'.nx i = k + 1 := by rw [hd']; exact (upd_no _ _ (by show i ≠ d.m; omega)).trans (upd_at _ _ _)
  have lt : d'.le d.m = d.cn + 1 := by rw [hd']; exact upd_at _ _ _
  have lo : ∀ j, j < d.m → d'.le j = d.le j := fun j hj => by rw [hd']; exact upd_no _ _ (by show j ≠ d.m; omega)
  have c1 : d'.cn = d.cn + 1 := by rw [hd']; rfl
  have b1 : d'.br = d.br := by rw [hd']; rfl
  rw [← hd']
  clear hd'
  have him : i < d.m := by omega
  have hm0 : 0 < d.m := by omega
  have k0 : d'.kn 0 = d.kn 0 := ko 0 hm0
  have t0 : d'.tu (d.kn 0) = d.tu (d.kn 0) := tn _ (hkk 0 hm0)
  have pos : ∀ v, 0 < d.tu v → v ≠ k := fun v hv e => by rw [e] at hv; omega
  have dn : ∀ v, Dn d' v → v ≠ k ∧ Dn d v := by
    intro v hv
    have hvk : v ≠ k := fun e => hv.2 d.m (by omega) (by rw [kt, e])
    exact ⟨hvk, by rw [← tn v hvk]; exact hv.1, fun j hj => by rw [← ko j hj]; exact hv.2 j (by omega)⟩
  have nok : ∀ v, Dn d v → ¬ E v k := fun v hv he => by have := (h.done v hv k he).1; omega
  refine ⟨?_, ?_, ?_, ?_, ?_, ?_, ?_, ?_, ?_, ?_, ?_, ?_, ?_, ?_, ?_, ?_⟩
  · intro j hj
    rw [k0, t0]
    by_cases e : j = d.m
    · subst e
      rw [kt, ft, nt, lt, tk, pk]
      have := h.tucn (d.kn 0)
      exact ⟨hk, by omega, rfl, by omega, Nat.le_refl _, by omega⟩
    · have hj' : j < d.m := by omega
      obtain ⟨q1, q2, q3, q4, q5, q6⟩ := h.knk j hj'
      rw [ko j hj', fo j hj', lo j hj', tn _ (hkk j hj'), pn _ (hkk j hj')]
      refine ⟨q1, q2, q3, ?_, q5, q6⟩
      by_cases e2 : j = i
      · subst e2; rw [ni]; omega
      · rw [no j hj' e2]; exact q4
  · intro j hj
    by_cases e : j + 1 = d.m
    · obtain rfl : j = i := by omega
      rw [e, ft, kt, ko j him, tk, tn _ (hkk j him)]
      have := h.tucn (d.kn j)
      exact ⟨rfl, he, by omega⟩
    · have hj' : j + 1 < d.m := by omega
      rw [fo _ hj', ko _ hj', ko j (by omega), tn _ (hkk j (by omega)), tn _ (hkk _ hj')]
      exact h.chain j hj'
  · intro _; rw [k0, fo 0 hm0]; exact h.root hm0
  · intro v
    by_cases e : v = k
    · subst e; rw [tk, c1]; omega
    · rw [tn v e, c1]; have := h.tucn v; omega
  · intro v w hv e
    by_cases e1 : v = k
    · by_cases e2 : w = k
      · rw [e1, e2]
      · rw [e1, tk, tn w e2] at e; have := h.tucn w; omega
    · by_cases e2 : w = k
      · rw [e2, tk, tn v e1] at e; have := h.tucn v; omega
      · rw [tn v e1, tn w e2] at e; rw [tn v e1] at hv; exact h.tuinj v w hv e
  · intro v hv
    by_cases e : v = k
    · subst e; exact hk
    · rw [tn v e] at hv; exact h.tu8 v hv
  · intro v hv
    by_cases e : v = k
    · subst e
      right
      rw [pk, tk, tn _ (hkk i him)]
      have := h.tucn (d.kn i)
      exact ⟨he, (h.knk i him).2.1, by omega⟩
    · rw [tn v e] at hv
      rw [pn v e]
      rcases h.tree v hv with h1 | ⟨h1, h2, h3⟩
      · left; exact h1
      · right
        rw [tn v e, tn _ (pos _ h2)]; exact ⟨h1, h2, h3⟩
  · intro _ v hv
    rw [k0, t0] at hv ⊢
    by_cases e : v = k
    · subst e
      right
      rw [pk, tn _ (hkk i him)]
      exact ⟨fun e => hkk i him e, h.le0 him⟩
    · rw [tn v e] at hv
      rw [pn v e]
      rcases h.seg hm0 v hv with h1 | ⟨h1, h2⟩
      · left; exact h1
      · right
        have := (h.knk 0 hm0).2.1
        rw [tn _ (pos _ (by omega))]; exact ⟨h1, h2⟩
  · intro _ v x hv hlt hvx
    rw [k0, t0] at hlt ⊢
    by_cases e : v = k
    · rw [e, tk] at hlt; have := h.tucn (d.kn 0); omega
    · rw [tn v e] at hv hlt
      have := h.old hm0 v x hv hlt hvx
      rw [tn x (pos _ this.1)]; exact this
  · intro v hv x hvx
    obtain ⟨hvk, hvd⟩ := dn v hv
    have hx : x ≠ k := fun e2 => nok v hvd (e2 ▸ hvx)
    rw [tn x hx, pn v hvk, pn x hx]
    exact h.done v hvd x hvx
  · intro j hj x hx hjx
    by_cases e : j = d.m
    · subst e; rw [nt] at hx; omega
    · have hj' : j < d.m := by omega
      rw [ko j hj'] at hjx ⊢
      rw [fo j hj', lo j hj']
      by_cases exk : x = k
      · subst exk
        have hle := (h.knk j hj').2.2.2.2.1
        have hcn := h.tucn (d.kn j)
        by_cases e2 : j = i
        · subst e2
          rw [tk, pk]
          exact ⟨by omega, Or.inr (Or.inl rfl), fun _ => by omega⟩
        · rw [no j hj' e2] at hx
          have := (h.seen j hj' x hx hjx).1; omega
      · have hx' : x < d.nx j := by
          by_cases e2 : j = i
          · subst e2; rw [ni] at hx; omega
          · rw [no j hj' e2] at hx; exact hx
        rw [tn x exk, pn x exk, pn _ (hkk j hj')]
        exact h.seen j hj' x hx' hjx
  · intro j hj v hv hle hnx x hvx
    obtain ⟨hvk, hvd⟩ := dn v hv
    have hx : x ≠ k := fun e2 => nok v hvd (e2 ▸ hvx)
    rw [tn v hvk] at hle hnx
    rw [tn x hx]
    by_cases e : j = d.m
    · subst e; rw [kt, tk] at hle; have := h.tucn v; omega
    · have hj' : j < d.m := by omega
      rw [ko j hj', tn _ (hkk j hj')] at hle
      rw [lo j hj']
      refine h.low j hj' v hvd hle (fun hj2 => ?_) x hvx
      have := hnx (by omega)
      rw [ko _ hj2, tn _ (hkk _ hj2)] at this
      exact this
  · intro j hj
    by_cases e : j = d.m
    · subst e; rw [kt, lt]; exact ⟨k, tk, Cn.refl _⟩
    · have hj' : j < d.m := by omega
      obtain ⟨u, hu, hc⟩ := h.wit j hj'
      have hl := (h.knk j hj').2.2.2.2.2
      have h00 := (h.knk 0 hm0).2.1
      refine ⟨u, ?_, ?_⟩
      · rw [lo j hj', tn u (pos u (by omega))]; exact hu
      · rw [ko j hj', fo j hj']
        refine Cn.mono (fun x y hxy => ?_) hc
        obtain ⟨q1, q2, q3, q4⟩ := hxy
        refine ⟨q1, ?_, q3, q4⟩
        have hcn := h.tucn (d.kn j)
        rw [tn _ (hkk j hj')]
        rcases q2 with q2 | q2
        · left
          by_cases ex : x = k
          · rw [ex, tk]; omega
          · rw [tn x ex]; exact q2
        · right
          by_cases ey : y = k
          · rw [ey, tk]; omega
          · rw [tn y ey]; exact q2
  · rw [b1]; exact h.br1
  · rw [b1]; exact h.brs
  · intro v hv hp
    obtain ⟨hvk, hvd⟩ := dn v hv
    rw [pn v hvk] at hp ⊢
    rw [b1]
    exact h.br2 v hvd hp

/-- the parts that hang from turns, parents, bridges and the stack's knots stay, where only what is looked at changes -/
theorem Inv.skipTo {E : Nat → Nat → Prop} (G : Gr E) {d : Dv} (h : Inv E d) {i k : Nat} (hi : i + 1 = d.m) (hn : d.nx i = k) (hk : k < 8) (hno : ¬ E (d.kn i) k ∨ k = d.fr i) : Inv E (d.skip i k) := by
  have him : i < d.m := by omega
  have no : ∀ j, j ≠ i → (d.skip i k).nx j = d.nx j := fun j hj => upd_no _ _ hj
  have ni : (d.skip i k).nx i = k + 1 := upd_at _ _ _
  refine ⟨?_, h.chain, h.root, h.tucn, h.tuinj, h.tu8, h.tree, h.seg, h.old, h.done, ?_, h.low, h.wit, h.br1, h.brs, h.br2⟩
  · intro j hj
    obtain ⟨q1, q2, q3, q4, q5, q6⟩ := h.knk j hj
    refine ⟨q1, q2, q3, ?_, q5, q6⟩
    by_cases e : j = i
    · subst e; rw [ni]; omega
    · rw [no j e]; exact q4
  · intro j hj x hx hjx
    by_cases e : j = i
    · subst e
      rw [ni] at hx
      by_cases ex : x = k
      · subst ex
        rcases hno with h1 | h1
        · exact absurd hjx h1
        · have hp : d.par (d.kn j) = x := by rw [h1]; exact ((h.knk j hj).2.2.1).symm
          refine ⟨?_, Or.inl hp, fun hne => absurd h1 hne⟩
          have h2 := h.tree (d.kn j) (h.knk j hj).2.1
          rw [hp] at h2
          rcases h2 with h2 | h2
          · exact absurd (h2 ▸ hjx : E (d.kn j) (d.kn j)) (G.irr _)
          · exact h2.2.1
      · exact h.seen j hj x (by omega) hjx
    · rw [no j e] at hx; exact h.seen j hj x hx hjx

theorem Inv.lookAt {E : Nat → Nat → Prop} (G : Gr E) {d : Dv} (h : Inv E d) {i k : Nat} (hi : i + 1 = d.m) (hn : d.nx i = k) (hk : k < 8) (he : E (d.kn i) k) (hf : k ≠ d.fr i) (ht : 0 < d.tu k) : Inv E (d.look i k) := by
  have him : i < d.m := by omega
  have hm0 : 0 < d.m := by omega
  have no : ∀ j, j ≠ i → (d.look i k).nx j = d.nx j := fun j hj => upd_no _ _ hj
  have ni : (d.look i k).nx i = k + 1 := upd_at _ _ _
  have lo : ∀ j, j ≠ i → (d.look i k).le j = d.le j := fun j hj => upd_no _ _ hj
  have li : (d.look i k).le i = min (d.le i) (d.tu k) := upd_at _ _ _
  have q := h.knk i him
  have hseg : d.tu (d.kn 0) ≤ d.tu k := by
    apply Decidable.byContradiction
    intro hc
    have := (h.old hm0 k (d.kn i) ht (by omega) (G.sym _ _ he)).2
    have := h.le0 him
    omega
  have hnb : d.par (d.kn i) = k ∨ d.par k = d.kn i ∨ Nb E (d.kn i) k := by
    by_cases h1 : d.par (d.kn i) = k
    · exact Or.inl h1
    by_cases h2 : d.par k = d.kn i
    · exact Or.inr (Or.inl h2)
    right; right
    have cut : ∀ b x y, Up E d b x y → But E (d.kn i) k x y := by
      rintro b x y ⟨u1, u2, u3⟩
      refine ⟨u1, ?_, ?_⟩
      · rintro ⟨rfl, rfl⟩; exact h2 u2
      · rintro ⟨rfl, rfl⟩; exact h1 u2
    have c1 := Cn.mono (cut _) (h.rooted hm0 _ (d.kn i) (Nat.le_refl _) (h.le0 him))
    have c2 := Cn.mono (cut _) (h.rooted hm0 _ k (Nat.le_refl _) hseg)
    exact c1.symm.trans c2
  refine ⟨?_, h.chain, h.root, h.tucn, h.tuinj, h.tu8, h.tree, h.seg, h.old, h.done, ?_, ?_, ?_, h.br1, h.brs, h.br2⟩
  · intro j hj
    obtain ⟨q1, q2, q3, q4, q5, q6⟩ := h.knk j hj
    show d.kn j < 8 ∧ 0 < d.tu (d.kn j) ∧ d.fr j = d.par (d.kn j) ∧ (d.look i k).nx j ≤ 8 ∧ (d.look i k).le j ≤ d.tu (d.kn j) ∧ d.tu (d.kn 0) ≤ (d.look i k).le j
    by_cases e : j = i
    · subst e; rw [ni, li]; exact ⟨q1, q2, q3, by omega, by omega, by omega⟩
    · rw [no j e, lo j e]; exact ⟨q1, q2, q3, q4, q5, q6⟩
  · intro j hj x hx hjx
    show 0 < d.tu x ∧ (d.par (d.kn j) = x ∨ d.par x = d.kn j ∨ Nb E (d.kn j) x) ∧ (x ≠ d.fr j → (d.look i k).le j ≤ d.tu x)
    by_cases e : j = i
    · subst e
      rw [ni] at hx
      rw [li]
      by_cases ex : x = k
      · subst ex; exact ⟨ht, hnb, fun _ => by omega⟩
      · have := h.seen j hj x (by omega) hjx
        exact ⟨this.1, this.2.1, fun hne => by have := this.2.2 hne; omega⟩
    · rw [no j e] at hx; rw [lo j e]; exact h.seen j hj x hx hjx
  · intro j hj v hv hle hnx x hvx
    show (d.look i k).le j ≤ d.tu x
    have := h.low j hj v hv hle hnx x hvx
    by_cases e : j = i
    · subst e; rw [li]; omega
    · rw [lo j e]; exact this
  · intro j hj
    show ∃ u, d.tu u = (d.look i k).le j ∧ Cn (Ew E d.tu (d.kn j) (d.fr j)) (d.kn j) u
    by_cases e : j = i
    · subst e
      rw [li]
      by_cases hl : d.le j ≤ d.tu k
      · rw [Nat.min_eq_left hl]; exact h.wit j hj
      · rw [Nat.min_eq_right (by omega)]
        refine ⟨k, rfl, (Cn.refl _).fwd ⟨he, Or.inl (Nat.le_refl _), ?_, ?_⟩⟩
        · rintro ⟨_, rfl⟩; exact G.irr _ he
        · rintro ⟨_, e⟩; exact hf e
    · rw [lo j e]; exact h.wit j hj

/-- the lowest is left -/
def Dv.leave (d : Dv) (i : Nat) : Dv := { d with m := i + 1, le := upd d.le i (min (d.le i) (d.le (i + 1))), br := fun x y => d.br x y ∨ (d.le (i + 1) = d.tu (d.kn (i + 1)) ∧ ((x = d.fr (i + 1) ∧ y = d.kn (i + 1)) ∨ (x = d.kn (i + 1) ∧ y = d.fr (i + 1)))) }
theorem Inv.leaveTo {E : Nat → Nat → Prop} (G : Gr E) {d : Dv} (h : Inv E d) {i : Nat} (hi : i + 2 = d.m) (hn : d.nx (i + 1) = 8) : Inv E (d.leave i) := by
  have him : i < d.m := by omega
  have hjm : i + 1 < d.m := by omega
  have hm0 : 0 < d.m := by omega
  obtain ⟨f1, f2, f3⟩ := h.chain i hjm
  obtain ⟨q1, q2, q3, q4, q5, q6⟩ := h.knk (i + 1) hjm
  have p := h.knk i him
  have hp : d.par (d.kn (i + 1)) = d.kn i := by rw [← q3, f1]
  -- what lies not above the lowest is left, or it
  have hdn : ∀ w, d.tu (d.kn (i + 1)) ≤ d.tu w → w ≠ d.kn (i + 1) → Dn d w := by
    intro w hw hne
    refine ⟨by omega, fun j hj e => ?_⟩
    by_cases e1 : j = i + 1
    · subst e1; exact hne e.symm
    · have := h.up (i + 1) (i := j) (by omega) hjm; rw [e] at this; omega
  have hbr : d.le (i + 1) = d.tu (d.kn (i + 1)) → ¬ Nb E (d.kn i) (d.kn (i + 1)) := by
    intro hl hnb
    have key : ∀ y, Cn (But E (d.kn i) (d.kn (i + 1))) (d.kn (i + 1)) y → d.tu (d.kn (i + 1)) ≤ d.tu y := by
      have step : ∀ y z, d.tu (d.kn (i + 1)) ≤ d.tu y → E y z → ¬ (y = d.kn (i + 1) ∧ z = d.kn i) → d.tu (d.kn (i + 1)) ≤ d.tu z := by
        intro y z hy hyz hnot
        by_cases e : y = d.kn (i + 1)
        · subst e
          have hz8 : z < 8 := G.inn z _ (G.sym _ _ hyz)
          have := (h.seen (i + 1) hjm z (by omega) hyz).2.2 (fun e => hnot ⟨rfl, by rw [e, f1]⟩)
          omega
        · have := h.low (i + 1) hjm y (hdn y hy e) hy (fun hc => by omega) z hyz
          omega
      intro y hy
      induction hy with
      | refl => exact Nat.le_refl _
      | fwd _ e ih => exact step _ _ ih e.1 (fun hc => e.2.2 ⟨hc.1, hc.2⟩)
      | bwd _ e ih => exact step _ _ ih (G.sym _ _ e.1) (fun hc => e.2.1 ⟨hc.2, hc.1⟩)
    have := key _ (Cn.symm hnb)
    omega
  have hnb : d.le (i + 1) ≠ d.tu (d.kn (i + 1)) → Nb E (d.kn i) (d.kn (i + 1)) := by
    intro hl
    obtain ⟨u, hu, hc⟩ := h.wit (i + 1) hjm
    have hult : d.tu u < d.tu (d.kn (i + 1)) := by omega
    have c1 : Cn (But E (d.kn i) (d.kn (i + 1))) (d.kn (i + 1)) u := Cn.mono (fun x y hxy => ⟨hxy.1, by rw [← f1]; exact hxy.2.2.1, by rw [← f1]; exact hxy.2.2.2⟩) hc
    have cut : ∀ b x y, b < d.tu (d.kn (i + 1)) → Up E d b x y → But E (d.kn i) (d.kn (i + 1)) x y := by
      rintro b x y hb ⟨u1, u2, u3, u4⟩
      refine ⟨u1, ?_, ?_⟩
      · rintro ⟨rfl, rfl⟩; omega
      · rintro ⟨rfl, rfl⟩; omega
    have c2 := Cn.mono (fun x y => cut _ x y hult) (h.rooted hm0 _ u (Nat.le_refl _) (by omega))
    have c3 := Cn.mono (fun x y => cut _ x y f3) (h.rooted hm0 _ (d.kn i) (Nat.le_refl _) (h.le0 him))
    exact c3.symm.trans (c2.trans c1.symm)
  have lo : ∀ j, j ≠ i → (d.leave i).le j = d.le j := fun j hj => upd_no _ _ hj
  have li : (d.leave i).le i = min (d.le i) (d.le (i + 1)) := upd_at _ _ _
  have dn : ∀ v, Dn (d.leave i) v → v = d.kn (i + 1) ∨ Dn d v := by
    intro v hv
    by_cases e : v = d.kn (i + 1)
    · exact Or.inl e
    · refine Or.inr ⟨hv.1, fun j hj ej => ?_⟩
      by_cases e1 : j = i + 1
      · subst e1; exact e ej.symm
      · exact hv.2 j (by show j < i + 1; omega) ej
  refine ⟨?_, ?_, fun _ => h.root hm0, h.tucn, h.tuinj, h.tu8, h.tree, fun _ => h.seg hm0, fun _ => h.old hm0, ?_, ?_, ?_, ?_, ?_, ?_, ?_⟩
  · intro j hj
    have hj' : j < i + 1 := hj
    obtain ⟨r1, r2, r3, r4, r5, r6⟩ := h.knk j (by omega)
    show d.kn j < 8 ∧ 0 < d.tu (d.kn j) ∧ d.fr j = d.par (d.kn j) ∧ d.nx j ≤ 8 ∧ (d.leave i).le j ≤ d.tu (d.kn j) ∧ d.tu (d.kn 0) ≤ (d.leave i).le j
    by_cases e : j = i
    · subst e; rw [li]; exact ⟨r1, r2, r3, r4, by omega, by omega⟩
    · rw [lo j e]; exact ⟨r1, r2, r3, r4, r5, r6⟩
  · intro j hj
    have hj' : j + 1 < i + 1 := hj
    exact h.chain j (by omega)
  · intro v hv x hvx
    rcases dn v hv with rfl | hv'
    · have hx8 : x < 8 := G.inn x _ (G.sym _ _ hvx)
      have := h.seen (i + 1) hjm x (by omega) hvx
      exact ⟨this.1, this.2.1⟩
    · exact h.done v hv' x hvx
  · intro j hj x hx hjx
    have hj' : j < i + 1 := hj
    have := h.seen j (by omega) x hx hjx
    refine ⟨this.1, this.2.1, fun hne => ?_⟩
    show (d.leave i).le j ≤ d.tu x
    have h2 := this.2.2 hne
    by_cases e : j = i
    · subst e; rw [li]; omega
    · rw [lo j e]; exact h2
  · intro j hj v hv hle hnx x hvx
    have hj' : j < i + 1 := hj
    show (d.leave i).le j ≤ d.tu x
    by_cases e : j = i
    · subst e
      rw [li]
      rcases dn v hv with rfl | hv'
      · by_cases ex : x = d.kn j
        · subst ex; omega
        · have hx8 : x < 8 := G.inn x _ (G.sym _ _ hvx)
          have := (h.seen (j + 1) hjm x (by omega) hvx).2.2 (by rw [f1]; exact ex)
          omega
      · by_cases hc : d.tu v < d.tu (d.kn (j + 1))
        · have := h.low j him v hv' hle (fun _ => hc) x hvx; omega
        · have := h.low (j + 1) hjm v hv' (by omega) (fun hc => by omega) x hvx; omega
    · rw [lo j e]
      have hnx' := hnx (by show j + 1 < i + 1; omega)
      rcases dn v hv with rfl | hv'
      · have h3 : d.tu (d.kn (i + 1)) < d.tu (d.kn (j + 1)) := hnx'
        by_cases e2 : j + 1 = i
        · rw [e2] at h3; omega
        · have := h.up (i + 1) (i := j + 1) (by omega) hjm; omega
      · exact h.low j (by omega) v hv' hle (fun _ => hnx') x hvx
  · intro j hj
    have hj' : j < i + 1 := hj
    show ∃ u, d.tu u = (d.leave i).le j ∧ Cn (Ew E d.tu (d.kn j) (d.fr j)) (d.kn j) u
    by_cases e : j = i
    · subst e
      rw [li]
      by_cases hl : d.le j ≤ d.le (j + 1)
      · rw [Nat.min_eq_left hl]; exact h.wit j him
      · rw [Nat.min_eq_right (by omega)]
        obtain ⟨u, hu, hc⟩ := h.wit (j + 1) hjm
        refine ⟨u, hu, ?_⟩
        have hfr : d.tu (d.fr j) ≤ d.tu (d.kn j) := by
          rw [p.2.2.1]
          rcases h.tree (d.kn j) p.2.1 with e | e
          · rw [e]; exact Nat.le_refl _
          · omega
        have e1 : Ew E d.tu (d.kn j) (d.fr j) (d.kn j) (d.kn (j + 1)) := by
          refine ⟨f2, Or.inl (Nat.le_refl _), ?_, ?_⟩
          · rintro ⟨_, e⟩; rw [e] at f3; omega
          · rintro ⟨_, e⟩; rw [← e] at hfr; omega
        refine ((Cn.refl _).fwd e1).trans (Cn.mono ?_ hc)
        rintro x y ⟨g1, g2, g3, g4⟩
        refine ⟨g1, by omega, ?_, ?_⟩
        · rintro ⟨rfl, rfl⟩; omega
        · rintro ⟨rfl, rfl⟩; omega
    · rw [lo j e]; exact h.wit j (by omega)
  · rintro x y (hb | ⟨hl, hb⟩)
    · exact h.br1 x y hb
    · rcases hb with ⟨rfl, rfl⟩ | ⟨rfl, rfl⟩
      · rw [f1]; exact ⟨f2, hbr hl⟩
      · rw [f1]; exact ⟨G.sym _ _ f2, fun hc => hbr hl hc.turn⟩
  · rintro x y (hb | ⟨hl, hb⟩)
    · exact Or.inl (h.brs x y hb)
    · refine Or.inr ⟨hl, ?_⟩
      rcases hb with ⟨rfl, rfl⟩ | ⟨rfl, rfl⟩
      · exact Or.inr ⟨rfl, rfl⟩
      · exact Or.inl ⟨rfl, rfl⟩
  · intro v hv hpv
    rcases dn v hv with rfl | hv'
    · show (d.br (d.par (d.kn (i + 1))) (d.kn (i + 1)) ∨ _) ∨ Nb E (d.par (d.kn (i + 1))) (d.kn (i + 1))
      rw [hp]
      by_cases hl : d.le (i + 1) = d.tu (d.kn (i + 1))
      · exact Or.inl (Or.inr ⟨hl, Or.inl ⟨q3.symm, rfl⟩⟩)
      · exact Or.inr (hnb hl)
    · rcases h.br2 v hv' hpv with h1 | h1
      · exact Or.inl (Or.inl h1)
      · exact Or.inr h1

/-- the first is left -/
theorem Inv.leaveRoot {E : Nat → Nat → Prop} (G : Gr E) {d : Dv} (h : Inv E d) (hm : d.m = 1) (hn : d.nx 0 = 8) : Inv E { d with m := 0 } := by
  have q := h.knk 0 (by omega)
  have dn : ∀ v, Dn { d with m := 0 } v → v = d.kn 0 ∨ Dn d v := by
    intro v hv
    by_cases e : v = d.kn 0
    · exact Or.inl e
    · refine Or.inr ⟨hv.1, fun j hj ej => ?_⟩
      obtain rfl : j = 0 := by omega
      exact e ej.symm
  refine ⟨fun i hi => absurd hi (by simp), fun i hi => absurd hi (by simp), fun hi => absurd hi (by simp), h.tucn, h.tuinj, h.tu8, h.tree, fun hi => absurd hi (by simp), fun hi => absurd hi (by simp), ?_, fun i hi => absurd hi (by simp), fun i hi => absurd hi (by simp), fun i hi => absurd hi (by simp), h.br1, h.brs, ?_⟩
  · intro v hv x hvx
    rcases dn v hv with rfl | hv'
    · have hx8 : x < 8 := G.inn x _ (G.sym _ _ hvx)
      have := h.seen 0 (by omega) x (by omega) hvx
      exact ⟨this.1, this.2.1⟩
    · exact h.done v hv' x hvx
  · intro v hv hpv
    rcases dn v hv with rfl | hv'
    · exfalso
      apply hpv
      show d.par (d.kn 0) = d.kn 0
      rw [← q.2.2.1]; exact h.root (by omega)
    · exact h.br2 v hv' hpv
/-- in the end just the bridges are told -/
theorem Inv.answer {E : Nat → Nat → Prop} (G : Gr E) {d : Dv} (h : Inv E d) (hm : d.m = 0) (hall : ∀ v, v < 8 → 0 < d.tu v) (x y : Nat) : d.br x y ↔ E x y ∧ ¬ Nb E x y := by
  refine ⟨h.br1 x y, fun ⟨he, hn⟩ => ?_⟩
  have dn : ∀ v, v < 8 → Dn d v := fun v hv => ⟨hall v hv, fun i hi => by omega⟩
  have hx := G.inn x y he
  have hy := G.inn y x (G.sym _ _ he)
  rcases (h.done x (dn x hx) y he).2 with h1 | h1 | h1
  · rcases h.br2 x (dn x hx) (fun e => G.irr x (by rw [← h1, e] at he; exact he)) with h2 | h2
    · rw [h1] at h2; exact h.brs _ _ h2
    · rw [h1] at h2; exact absurd h2.turn hn
  · rcases h.br2 y (dn y hy) (fun e => G.irr y (by rw [← h1, e] at he; exact he)) with h2 | h2
    · rw [h1] at h2; exact h2
    · rw [h1] at h2; exact absurd h2 hn
  · exact absurd h1 hn

/-! ### How many are left -/
def vis (tu : Nat → Nat) (v : Nat) : Bool := decide (0 < tu v)
theorem vis_upd (tu : Nat → Nat) (k c : Nat) (hc : 0 < c) : vis (upd tu k c) = mark (vis tu) k := by
  funext j
  unfold vis mark upd
  by_cases e : j = k
  · simp [e, hc]
  · simp [e]
/-- looks that are still to come on the stack -/
def sm (nx : Nat → Nat) : Nat → Nat
  | 0 => 0
  | m + 1 => sm nx m + (9 - nx m)
theorem sm_above (nx : Nat → Nat) {i : Nat} (v : Nat) : ∀ m, m ≤ i → sm (upd nx i v) m = sm nx m := by
  intro m
  induction m with
  | zero => intro _; rfl
  | succ m ih =>
    intro h
    have e : upd nx i v m = nx m := upd_no nx v (by omega)
    simp only [sm, ih (by omega), e]
/-- what stands of the numbers -/
structure Aux (d : Dv) : Prop where
  mcn : d.m ≤ d.cn
  sum : d.cn + unm (vis d.tu) 8 = 8
def mu (d : Dv) : Nat := 10 * unm (vis d.tu) 8 + sm d.nx d.m
theorem Aux.push {d : Dv} (h : Aux d) {k f : Nat} (hk : k < 8) (hz : d.tu k = 0) : Aux (d.push k f) := by
  have h1 : (d.push k f).tu = upd d.tu k (d.cn + 1) := rfl
  have h2 := unm_mark (vis d.tu) (y := k) (by simp [vis, hz]) 8 hk
  refine ⟨by show d.m + 1 ≤ d.cn + 1; have := h.mcn; omega, ?_⟩
  rw [h1, vis_upd _ _ _ (by omega)]
  show d.cn + 1 + _ = 8
  have := h.sum; omega
theorem Aux.skip {d : Dv} (h : Aux d) (i x : Nat) : Aux (d.skip i x) := ⟨h.mcn, h.sum⟩
theorem Aux.look {d : Dv} (h : Aux d) (i x : Nat) : Aux (d.look i x) := ⟨h.mcn, h.sum⟩
theorem Aux.leave {d : Dv} (h : Aux d) {i : Nat} (hi : i + 2 = d.m) : Aux (d.leave i) := ⟨by show i + 1 ≤ d.cn; have := h.mcn; omega, h.sum⟩
theorem Aux.root {d : Dv} (h : Aux d) : Aux { d with m := 0 } := ⟨Nat.zero_le _, h.sum⟩
theorem mu_skip {d : Dv} {i x : Nat} (hi : i + 1 = d.m) (hn : d.nx i = x) (hx : x < 8) : mu (d.skip i x) < mu d := by
  unfold mu
  show 10 * unm (vis d.tu) 8 + sm (upd d.nx i (x + 1)) d.m < _
  rw [← hi]
  simp only [sm]
  rw [sm_above _ _ _ (Nat.le_refl _), upd_at, hn]; omega
theorem mu_look {d : Dv} {i x : Nat} (hi : i + 1 = d.m) (hn : d.nx i = x) (hx : x < 8) : mu (d.look i x) < mu d := mu_skip hi hn hx
theorem mu_push {d : Dv} {i k f : Nat} (hi : i + 1 = d.m) (hn : d.nx i = k) (hk : k < 8) (hz : d.tu k = 0) : mu ((d.skip i k).push k f) < mu d := by
  have h1 : ((d.skip i k).push k f).tu = upd d.tu k (d.cn + 1) := rfl
  have h2 := unm_mark (vis d.tu) (y := k) (by simp [vis, hz]) 8 hk
  have h3 := mu_skip (d := d) hi hn hk
  unfold mu at h3 ⊢
  rw [h1, vis_upd _ _ _ (by omega)]
  show 10 * unm (mark (vis d.tu) k) 8 + sm (upd (d.skip i k).nx d.m 0) (d.m + 1) < _
  simp only [sm]
  rw [sm_above _ _ _ (Nat.le_refl _), upd_at]
  have e : sm (d.skip i k).nx (d.skip i k).m = sm (d.skip i k).nx d.m := rfl
  have e2 : (d.skip i k).tu = d.tu := rfl
  rw [e, e2] at h3
  omega
theorem mu_leave {d : Dv} {i : Nat} (hi : i + 2 = d.m) (hn : d.nx (i + 1) = 8) : mu (d.leave i) < mu d := by
  unfold mu
  show 10 * unm (vis d.tu) 8 + sm d.nx (i + 1) < _
  rw [← hi]
  show _ < 10 * unm (vis d.tu) 8 + (sm d.nx (i + 1) + (9 - d.nx (i + 1)))
  rw [hn]; omega
theorem mu_root {d : Dv} (hm : d.m = 1) (hn : d.nx 0 = 8) : mu { d with m := 0 } < mu d := by
  unfold mu
  show 10 * unm (vis d.tu) 8 + 0 < _
  rw [hm]
  show _ < 10 * unm (vis d.tu) 8 + (0 + (9 - d.nx 0))
  rw [hn]; omega
theorem Aux.begin (tu0 : Nat → Nat) (h0 : ∀ v, tu0 v = 0) (kn fr nx le par : Nat → Nat) : Aux ⟨0, kn, fr, nx, le, tu0, 0, fun _ _ => False, par⟩ := by
  refine ⟨Nat.le_refl _, ?_⟩
  have : vis tu0 = fun _ => false := by funext v; simp [vis, h0]
  rw [this]
  show 0 + unm (fun _ => false) 8 = 8
  rfl

end Go.Proofs.YticoiolpofibdaaDoor

/- Rows of whole numbers in memory; walks of slices.Index, slices.Contains, spec.l2Has, laws.toIntS, laws.eqIntS over them. -/
namespace Go.Proofs.YticoiolpofibdaaDoor
open Go.RowKit
set_option linter.unusedVariables false

def xi (xs : List Int) (i : Nat) : Int := xs.getD i 0
/-- the numbers xs lie in w behind the address ao, in a block below B -/
def IntsIn (w : World) (B : Nat) (ao : Option Addr) (xs : List Int) : Prop :=
  ∀ i, i < xs.length → ∃ b off, ao = some ⟨b, off, none⟩ ∧ b < B ∧ w.cell? ⟨b, off + i, none⟩ = some (.int .i64 (xi xs i))
theorem IntsIn.below {w w' : World} {B : Nat} {ao : Option Addr} {xs : List Int} (h : IntsIn w B ao xs) {C : Nat} (hb : Below C w w') (hC : B ≤ C) : IntsIn w' B ao xs := by
  intro i hi
  obtain ⟨b, off, e, hlt, c0⟩ := h i hi
  exact ⟨b, off, e, hlt, (hb.cell (p := ⟨b, off + i, none⟩) (by simpa using Nat.lt_of_lt_of_le hlt hC)).trans c0⟩
theorem IntsIn.wide {w : World} {B C : Nat} {ao : Option Addr} {xs : List Int} (h : IntsIn w B ao xs) (hC : B ≤ C) : IntsIn w C ao xs := by
  intro i hi
  obtain ⟨b, off, e, hlt, c0⟩ := h i hi
  exact ⟨b, off, e, Nat.lt_of_lt_of_le hlt hC, c0⟩
theorem IntsIn.take {w : World} {B : Nat} {ao : Option Addr} {xs : List Int} (h : IntsIn w B ao xs) (k : Nat) : IntsIn w B ao (xs.take k) := by
  intro i hi
  simp only [List.length_take] at hi
  obtain ⟨b, off, e, hlt, c0⟩ := h i (by omega)
  refine ⟨b, off, e, hlt, c0.trans ?_⟩
  simp only [xi, List.getD_eq_getElem?_getD]
  rw [List.getElem?_take_of_lt (by omega)]

def inI (xs : List Int) (k : Int) : Bool := decide (∃ i, i < xs.length ∧ xi xs i = k)
theorem inI_at {xs : List Int} {k : Int} {i : Nat} (h : i < xs.length) (e : xi xs i = k) : inI xs k = true := by
  simp only [inI, decide_eq_true_eq]; exact ⟨i, h, e⟩
theorem inI_none {xs : List Int} {k : Int} (h : ∀ i, i < xs.length → xi xs i ≠ k) : inI xs k = false := by
  simp only [inI, decide_eq_false_iff_not]; rintro ⟨i, hi, e⟩; exact h i hi e
theorem inI_iff {xs : List Int} {k : Int} : inI xs k = true ↔ ∃ i, i < xs.length ∧ xi xs i = k := by simp [inI]

/-- block g of w holds n cells, f j at place j, none frozen -/
def OwnI (w : World) (g n : Nat) (f : Nat → Value) : Prop :=
  (∀ j, j < n → w.cell? ⟨g, j, none⟩ = some (f j)) ∧ (∀ j, w.frozen? ⟨g, j, none⟩ = false) ∧ g < w.heap.size
def icell (xs : List Int) (j : Nat) : Value := .int .i64 (xi xs j)
def icellTo (xs : List Int) (k j : Nat) : Value := if j < k then icell xs j else .int .i64 0
theorem OwnI.below {w w' : World} {g n : Nat} {f : Nat → Value} {B : Nat} (h : OwnI w g n f) (hb : Below B w w') (hg : g < B) : OwnI w' g n f :=
  ⟨fun j hj => (hb.cell (p := ⟨g, j, none⟩) hg).trans (h.1 j hj), fun j => (hb.frozen (p := ⟨g, j, none⟩) hg).trans (h.2.1 j), Nat.lt_of_lt_of_le h.2.2 hb.size⟩
theorem OwnI.congr {w : World} {g n : Nat} {f f' : Nat → Value} (h : OwnI w g n f) (he : ∀ j, j < n → f j = f' j) : OwnI w g n f' :=
  ⟨fun j hj => (h.1 j hj).trans (by rw [he j hj]), h.2⟩
theorem OwnI.set {w : World} {g n : Nat} {f : Nat → Value} (h : OwnI w g n f) {i : Nat} (hi : i < n) (u : Value) : OwnI (w.setCell ⟨g, i, none⟩ u) g n (fun j => if j = i then u else f j) := by
  refine ⟨fun j hj => ?_, fun j => ?_, by simpa using h.2.2⟩
  · by_cases hji : j = i
    · subst hji; simp only [if_true]; exact World.cell?_setCell_same w ⟨g, j, none⟩ u (h.1 j hj)
    · show _ = some (if j = i then u else f j)
      rw [if_neg hji, World.cell?_setCell_other _ _ _ _ (by simp)]; exact h.1 j hj
  · rw [World.frozen?_setCell]; exact h.2.1 j
theorem OwnI.other {w : World} {g n : Nat} {f : Nat → Value} (h : OwnI w g n f) {p : Addr} (hp : p.block ≠ g) (u : Value) : OwnI (w.setCell p u) g n f := by
  have e := Below.heap_setCell w p u g (fun e => hp e.symm)
  exact ⟨fun j hj => (World.cell?_of_block (a := ⟨g, j, none⟩) e).trans (h.1 j hj), fun j => (World.frozen?_of_block (a := ⟨g, j, none⟩) e).trans (h.2.1 j), by simpa using h.2.2⟩
theorem OwnI.ints {w : World} {g : Nat} {xs : List Int} (h : OwnI w g xs.length (icell xs)) {B : Nat} (hB : g < B) : IntsIn w B (some ⟨g, 0, none⟩) xs := by
  intro i hi
  refine ⟨g, 0, rfl, hB, ?_⟩
  rw [show 0 + i = i by omega, h.1 i hi]; rfl
theorem OwnI.made {w : World} {g n cap : Nat} {base : Nat} (h : w.ownsRow base 3 1 (.slice (some ⟨g, 0, none⟩) n cap) n (madeCells #[.int .i64 0] n).toList) (xs : List Int) : OwnI w g n (icellTo xs 0) := by
  refine ⟨fun j hj => ?_, fun j => h.frozenAt j, ?_⟩
  · rw [h.cellAt j (by omega)]
    have hm : j % 1 = 0 := by omega
    simp [madeCells, hj, icellTo, hm]
  · rcases h.2 with ⟨h', _⟩ | ⟨g', cap', cur, h', _, hg, _⟩
    · simp at h'
    · simp only [Value.slice.injEq, Option.some.injEq, Addr.mk.injEq, and_true, true_and] at h'
      obtain ⟨rfl, _⟩ := h'
      exact (Array.getElem?_eq_some_iff.1 hg).1
theorem ifill_step (xs : List Int) (k j : Nat) : (if j = k then Value.int .i64 (xi xs k) else icellTo xs k j) = icellTo xs (k + 1) j := by
  by_cases h1 : j = k
  · subst h1; rw [if_pos rfl, icellTo, if_pos (by omega)]; rfl
  · rw [if_neg h1]; unfold icellTo
    by_cases h3 : j < k
    · rw [if_pos h3, if_pos (by omega)]
    · rw [if_neg h3, if_neg (by omega)]
theorem ifill_end (xs : List Int) (n j : Nat) (hj : j < n) : icellTo xs n j = icell xs j := by rw [icellTo, if_pos hj]

set_option maxHeartbeats 400000 in
theorem index_any (ao : Option Addr) (cap : Nat) (xs : List Int) (k : Int) (w : World) (hn : xs.length ≤ 1099511627776) (hx : IntsIn w w.heap.size ao xs) :
    Calls Tryd.prog 99 #[.slice ao xs.length cap, .int .i64 k] w fun e w' => ∃ r : Int, e = .returned (.int .i64 r) ∧ decide (0 ≤ r) = inI xs k ∧ Below w.heap.size w w' := by
  obtain ⟨n, hnn⟩ : ∃ n, n = xs.length := ⟨_, rfl⟩
  have HN : Hid (n = xs.length) := hnn
  rw [← hnn] at hn ⊢
  clear hnn
  go_enter Tryd.func99, Tryd.ntmps99
  go_wp2
  go_loopw [8] (fun i wr => ∃ j : Nat, j ≤ n ∧ i = .int .i64 j ∧ (∀ i, i < j → xi xs i ≠ k) ∧ Below w.heap.size w wr)
    (fun i _ => n - (intOf i).toNat)
  case atStart => exact ⟨0, Nat.zero_le _, rfl, fun i hi => absurd hi (by omega), Below.refl _ _⟩
  case round =>
    obtain ⟨j, hj, rfl, hno, hbel⟩ := hrel
    by_cases hlt : j < n
    · have hjl : j < xs.length := by rw [← HN.out]; exact hlt
      obtain ⟨b, off, rfl, hbw, c0⟩ := hx j hjl
      have c0' : wr.cell? ⟨b, off + j, none⟩ = some (.int .i64 (xi xs j)) := (hbel.cell (p := ⟨b, off + j, none⟩) hbw).trans c0
      obtain ⟨x, hxx⟩ : ∃ x, x = xi xs j := ⟨_, rfl⟩
      rw [← hxx] at c0'
      have HX : Hid (x = xi xs j) := hxx
      clear c0 hxx hx
      by_cases hk : k = x
      · have HR : Hid (inI xs k = true) := inI_at hjl (by rw [← HX.out, hk])
        clear hno
        go_wp2
        go_ret
        exact ⟨_, rfl, by rw [HR.out]; simp, hbel⟩
      · have HR : Hid (∀ i, i < j + 1 → xi xs i ≠ k) := by
          intro i hi
          by_cases hij : i = j
          · subst hij; rw [← HX.out]; exact fun e => hk e.symm
          · exact hno i (by omega)
        clear hno
        go_wp2
        go_roundw
        case rel => exact ⟨j + 1, by omega, by go_num, HR.out, hbel⟩
        case measure => simp [intOf]; omega
    · have hjn : j = n := by omega
      subst hjn
      have HR : Hid (inI xs k = false) := inI_none (by rw [← HN.out]; exact hno)
      clear hno
      go_wp2
      go_ret
      exact ⟨_, rfl, by rw [HR.out]; simp, hbel⟩

set_option maxHeartbeats 400000 in
theorem contains_any (ao : Option Addr) (cap : Nat) (xs : List Int) (k : Int) (w : World) (hn : xs.length ≤ 1099511627776) (hx : IntsIn w w.heap.size ao xs) :
    Calls Tryd.prog 107 #[.slice ao xs.length cap, .int .i64 k] w fun e w' => e = .returned (.bool (inI xs k)) ∧ Below w.heap.size w w' := by
  go_enter Tryd.func107, Tryd.ntmps107
  go_wp2_with fail
  refine (index_any ao cap xs k _ hn hx).mono ?_
  rintro e w1 ⟨r, rfl, hr, hb⟩
  have HR : Hid (decide (0 ≤ r) = inI xs k) := hr
  clear hr
  go_wp2
  go_ret
  exact ⟨ret_bool HR.out, hb⟩


theorem Tryd.infoInt : (Tryd.prog.info? 3).map (fun i => (i.zero, i.size, i.bytes)) = some (some (.int .i64 0), 1, 8) := by kernel_rfl
theorem OwnI.same {w w' : World} {g n : Nat} {f : Nat → Value} (h : OwnI w g n f) (e : w'.heap[g]? = w.heap[g]?) (hs : w.heap.size ≤ w'.heap.size) : OwnI w' g n f :=
  ⟨fun j hj => (World.cell?_of_block (a := ⟨g, j, none⟩) e).trans (h.1 j hj), fun j => (World.frozen?_of_block (a := ⟨g, j, none⟩) e).trans (h.2.1 j), Nat.lt_of_lt_of_le h.2.2 hs⟩
theorem OwnI.turn {w w' : World} {g n lo hi : Nat} {f : Nat → Value} (h : OwnI w g n f) (ht : Turned lo hi w w') (hg : g < lo ∨ hi ≤ g) : OwnI w' g n f := h.same (ht.block g h.2.2 hg) ht.size
theorem Turned.under {lo hi B : Nat} {w w' : World} (h : Turned lo hi w w') (hB : B ≤ lo) (hl : B ≤ w.heap.size) : Below B w w' :=
  ⟨h.os, h.tape, h.output, h.size, fun k hk => h.block k (by omega) (Or.inl (by omega))⟩

end Go.Proofs.YticoiolpofibdaaDoor

/- Walks of impl.forest.least, impl.forest.join. -/
namespace Go.Proofs.YticoiolpofibdaaDoor
open Go.RowKit
set_option linter.unusedVariables false

def pcellN (f : Nat → Nat) (j : Nat) : Value := .int .i64 (f j : Int)
set_option maxHeartbeats 400000 in
theorem least_any (F : Nat) (f : Nat → Nat) (k : Nat) (w : World) (hF : OwnI w F 8 (pcellN f)) (hl : Low f) (hk : k < 8) :
    Calls Tryd.prog 61 #[.pointer (some ⟨F, 0, none⟩), .int .i64 (k : Int)] w fun e w' => e = .returned (.int .i64 (top f k : Int)) ∧ w' = w := by
  go_enter Tryd.func61, Tryd.ntmps61
  go_wp2
  go_loopw [1] (fun i wr => ∃ j : Nat, j < 8 ∧ i = .int .i64 j ∧ top f j = top f k ∧ wr = w)
    (fun i _ => (intOf i).toNat)
  case atStart => exact ⟨k, hk, rfl, rfl, rfl⟩
  case round =>
    obtain ⟨j, hj, rfl, htop, rfl⟩ := hrel
    have c0 : wr.cell? ⟨F, j, none⟩ = some (.int .i64 (f j : Int)) := hF.1 j hj
    have hj0 : (0 : Int) ≤ (j : Int) := by omega
    have hj8 : (j : Int) < 8 := by omega
    have HL := hideP hl
    have hlow := hl j
    by_cases hfj : f j = j
    · have HT : Hid (top f k = j) := by rw [← htop]; exact top_fix hfj
      have hne : ((f j : Int) != (j : Int)) = false := by simp [hfj]
      rw [hfj] at c0
      clear htop hlow hne hF hl
      go_wp2
      go_ret
      exact ⟨by rw [HT.out]; rfl, rfl⟩
    · have HT : Hid (top f (f j) = top f k) := by rw [← htop]; exact (top_step hl).symm
      have hne : ((f j : Int) == (j : Int)) = false := by simp; omega
      have hne2 : ¬ ((f j : Int) = (j : Int)) := by omega
      have hlt : f j < j := by omega
      obtain ⟨y, hy⟩ : ∃ y, y = f j := ⟨_, rfl⟩
      rw [← hy] at c0 hne hne2 hlt HT
      clear htop hlow hF hl hy hfj
      go_wp2
      go_roundw
      case rel => exact ⟨y, by omega, rfl, HT.out, trivial⟩
      case measure => simp [intOf]; omega

theorem join_cells (f : Nat → Nat) (a b j : Nat) : (if j = max (top f a) (top f b) then Value.int .i64 ((min (top f a) (top f b) : Nat) : Int) else pcellN f j) = pcellN (join f a b) j := by
  unfold pcellN join
  by_cases e : j = max (top f a) (top f b)
  · rw [if_pos e, if_pos e]
  · rw [if_neg e, if_neg e]
def joinB (f : Nat → Nat) (a b : Nat) : Bool := decide (top f a ≠ top f b)
set_option maxHeartbeats 400000 in
theorem join_any (F : Nat) (f : Nat → Nat) (a b : Nat) (w : World) (hF : OwnI w F 8 (pcellN f)) (hl : Low f) (ha : a < 8) (hb : b < 8) :
    Calls Tryd.prog 90 #[.pointer (some ⟨F, 0, none⟩), .int .i64 (a : Int), .int .i64 (b : Int)] w fun e w' => e = .returned (.bool (joinB f a b)) ∧ OwnI w' F 8 (pcellN (join f a b)) ∧ Turned F (F + 1) w w' := by
  have ra8 : top f a < 8 := Nat.lt_of_le_of_lt (top_le hl a) ha
  have rb8 : top f b < 8 := Nat.lt_of_le_of_lt (top_le hl b) hb
  have HJ : Hid (joinB f a b = decide (top f a ≠ top f b)) := rfl
  obtain ⟨r, hr⟩ : ∃ r, r = joinB f a b := ⟨_, rfl⟩
  rw [← hr] at HJ ⊢
  clear hr
  obtain ⟨mx, hmx⟩ : ∃ m, m = max (top f a) (top f b) := ⟨_, rfl⟩
  obtain ⟨mn, hmn⟩ : ∃ m, m = min (top f a) (top f b) := ⟨_, rfl⟩
  have mx8 : mx < 8 := by omega
  have c0 : w.cell? ⟨F, mx, none⟩ = some (.int .i64 (f mx : Int)) := hF.1 mx mx8
  have f0 := hF.2.1 mx
  have HO : Hid (OwnI (w.setCell ⟨F, mx, none⟩ (.int .i64 (mn : Int))) F 8 (pcellN (join f a b))) :=
    (hF.set (i := mx) mx8 (.int .i64 (mn : Int))).congr (fun j _ => by rw [hmx, hmn]; exact join_cells f a b j)
  have HTu : Hid (Turned F (F + 1) w (w.setCell ⟨F, mx, none⟩ (.int .i64 (mn : Int)))) :=
    ⟨rfl, rfl, rfl, by simp [World.setCell], fun k _ hk => Below.heap_setCell _ _ _ _ (by show k ≠ F; omega)⟩
  have la := fun w h => least_any F f a w h hl ha
  have lb := fun w h => least_any F f b w h hl hb
  obtain ⟨ra, hra⟩ : ∃ r, r = top f a := ⟨_, rfl⟩
  obtain ⟨rb, hrb⟩ : ∃ r, r = top f b := ⟨_, rfl⟩
  rw [← hra] at la hmx hmn ra8 HJ
  rw [← hrb] at lb hmx hmn rb8 HJ
  have LA := hideP (la w hF)
  have LB := hideP (lb w hF)
  have mx0 : (0 : Int) ≤ (mx : Int) := by omega
  have mx8' : (mx : Int) < 8 := by omega
  clear la lb hF hra hrb
  rcases Nat.lt_trichotomy ra rb with hab | hab | hab
  · obtain rfl : mx = rb := by omega
    obtain rfl : mn = ra := by omega
    have hab' : (mn : Int) < (mx : Int) := by omega
    have hne : Hid (((mn : Int) != (mx : Int)) = true) := by show ((mn : Int) != (mx : Int)) = true; rw [bne_iff_ne]; omega
    have HR : Hid (r = true) := by rw [HJ.out]; exact decide_eq_true (by omega)
    clear HJ
    clear hmx hmn
    go_enter Tryd.func90, Tryd.ntmps90
    go_wp2_with fail
    refine LA.out.mono ?_
    rintro e w1 ⟨rfl, rfl⟩
    go_wp2_with fail
    refine LB.out.mono ?_
    rintro e w2 ⟨rfl, rfl⟩
    go_wp2
    go_ret
    refine ⟨?_, HO.out, HTu.out⟩
    rw [HR.out]
    exact congrArg (fun b => Ending.returned (Value.bool b)) hne.out
  · obtain rfl : mx = rb := by omega
    obtain rfl : mn = ra := by omega
    obtain rfl : mn = mx := by omega
    have HR : Hid (r = false) := by rw [HJ.out]; exact decide_eq_false (by omega)
    clear HJ
    clear hmx hmn
    go_enter Tryd.func90, Tryd.ntmps90
    go_wp2_with fail
    refine LA.out.mono ?_
    rintro e w1 ⟨rfl, rfl⟩
    go_wp2_with fail
    refine LB.out.mono ?_
    rintro e w2 ⟨rfl, rfl⟩
    go_wp2
    go_ret
    refine ⟨?_, HO.out, HTu.out⟩
    rw [HR.out]
    rfl
  · obtain rfl : mx = ra := by omega
    obtain rfl : mn = rb := by omega
    have hab' : (mn : Int) < (mx : Int) := by omega
    have hne : Hid (((mx : Int) != (mn : Int)) = true) := by show ((mx : Int) != (mn : Int)) = true; rw [bne_iff_ne]; omega
    have HR : Hid (r = true) := by rw [HJ.out]; exact decide_eq_true (by omega)
    clear HJ
    clear hmx hmn
    go_enter Tryd.func90, Tryd.ntmps90
    go_wp2_with fail
    refine LA.out.mono ?_
    rintro e w1 ⟨rfl, rfl⟩
    go_wp2_with fail
    refine LB.out.mono ?_
    rintro e w2 ⟨rfl, rfl⟩
    go_wp2
    go_ret
    refine ⟨?_, HO.out, HTu.out⟩
    rw [HR.out]
    exact congrArg (fun b => Ending.returned (Value.bool b)) hne.out

end Go.Proofs.YticoiolpofibdaaDoor
