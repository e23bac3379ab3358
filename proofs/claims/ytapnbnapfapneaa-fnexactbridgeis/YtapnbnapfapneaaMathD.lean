/- Plain mathematics of going down through a net once: what is told in the end is just the bridges. No program stands here. -/
import Derived.Test.YtapnbnapfapneaaMathB
namespace Go.Proofs.Ytapnbnapfapneaa
set_option linter.unusedVariables false

/-- all ties but one -/
def But (E : Nat → Nat → Prop) (a b : Nat) (x y : Nat) : Prop := E x y ∧ ¬ (x = a ∧ y = b) ∧ ¬ (x = b ∧ y = a)
/-- two knots hang together without the tie between them -/
def Nb (E : Nat → Nat → Prop) (a b : Nat) : Prop := Cn (But E a b) a b
theorem But.turn {E : Nat → Nat → Prop} {a b x y : Nat} (h : But E a b x y) : But E b a x y := ⟨h.1, h.2.2, h.2.1⟩
theorem Nb.turn {E : Nat → Nat → Prop} {a b : Nat} (h : Nb E a b) : Nb E b a := (Cn.mono (fun _ _ => But.turn) h).symm
/-- a net that is gone down through: m knots hang from each other (kn), each with the one above (fr), the next to look at (nx), the least turn (le); tu the turns, cn the last one; br the bridges; par of each knot the one above -/
structure Dv where
  m : Nat
  kn : Nat → Nat
  fr : Nat → Nat
  nx : Nat → Nat
  le : Nat → Nat
  tu : Nat → Nat
  cn : Nat
  br : Nat → Nat → Prop
  par : Nat → Nat
def upd (f : Nat → Nat) (i v : Nat) : Nat → Nat := fun j => if j = i then v else f j
theorem upd_at (f : Nat → Nat) (i v : Nat) : upd f i v i = v := by simp [upd]
theorem upd_no (f : Nat → Nat) {i j : Nat} (v : Nat) (h : j ≠ i) : upd f i v j = f j := by simp [upd, h]
/-- it was come to, and left -/
def Dn (d : Dv) (v : Nat) : Prop := 0 < d.tu v ∧ ∀ i, i < d.m → d.kn i ≠ v
/-- ties of which one end is not above the i-th knot, but the one to the knot above -/
def Ew (E : Nat → Nat → Prop) (tu : Nat → Nat) (k f : Nat) (x y : Nat) : Prop := E x y ∧ (tu k ≤ tu x ∨ tu k ≤ tu y) ∧ ¬ (x = f ∧ y = k) ∧ ¬ (x = k ∧ y = f)
structure Gr (E : Nat → Nat → Prop) : Prop where
  sym : ∀ x y, E x y → E y x
  irr : ∀ x, ¬ E x x
  inn : ∀ x y, E x y → x < 8
structure Inv (E : Nat → Nat → Prop) (d : Dv) : Prop where
  knk : ∀ i, i < d.m → d.kn i < 8 ∧ 0 < d.tu (d.kn i) ∧ d.fr i = d.par (d.kn i) ∧ d.nx i ≤ 8 ∧ d.le i ≤ d.tu (d.kn i) ∧ d.tu (d.kn 0) ≤ d.le i
  chain : ∀ i, i + 1 < d.m → d.fr (i + 1) = d.kn i ∧ E (d.kn i) (d.kn (i + 1)) ∧ d.tu (d.kn i) < d.tu (d.kn (i + 1))
  root : 0 < d.m → d.fr 0 = d.kn 0
  tucn : ∀ v, d.tu v ≤ d.cn
  tuinj : ∀ v w, 0 < d.tu v → d.tu v = d.tu w → v = w
  tu8 : ∀ v, 0 < d.tu v → v < 8
  tree : ∀ v, 0 < d.tu v → d.par v = v ∨ (E (d.par v) v ∧ 0 < d.tu (d.par v) ∧ d.tu (d.par v) < d.tu v)
  seg : 0 < d.m → ∀ v, d.tu (d.kn 0) ≤ d.tu v → v = d.kn 0 ∨ (d.par v ≠ v ∧ d.tu (d.kn 0) ≤ d.tu (d.par v))
  old : 0 < d.m → ∀ v x, 0 < d.tu v → d.tu v < d.tu (d.kn 0) → E v x → 0 < d.tu x ∧ d.tu x < d.tu (d.kn 0)
  done : ∀ v, Dn d v → ∀ x, E v x → 0 < d.tu x ∧ (d.par v = x ∨ d.par x = v ∨ Nb E v x)
  seen : ∀ i, i < d.m → ∀ x, x < d.nx i → E (d.kn i) x → 0 < d.tu x ∧ (d.par (d.kn i) = x ∨ d.par x = d.kn i ∨ Nb E (d.kn i) x) ∧ (x ≠ d.fr i → d.le i ≤ d.tu x)
  low : ∀ i, i < d.m → ∀ v, Dn d v → d.tu (d.kn i) ≤ d.tu v → (i + 1 < d.m → d.tu v < d.tu (d.kn (i + 1))) → ∀ x, E v x → d.le i ≤ d.tu x
  wit : ∀ i, i < d.m → ∃ u, d.tu u = d.le i ∧ Cn (Ew E d.tu (d.kn i) (d.fr i)) (d.kn i) u
  br1 : ∀ x y, d.br x y → E x y ∧ ¬ Nb E x y
  brs : ∀ x y, d.br x y → d.br y x
  br2 : ∀ v, Dn d v → d.par v ≠ v → d.br (d.par v) v ∨ Nb E (d.par v) v

theorem Inv.up {E : Nat → Nat → Prop} {d : Dv} (h : Inv E d) {i : Nat} : ∀ j, i < j → j < d.m → d.tu (d.kn i) < d.tu (d.kn j) := by
  intro j
  induction j with
  | zero => intro h0; omega
  | succ j ih =>
    intro hij hj
    have h1 := (h.chain j hj).2.2
    by_cases e : i = j
    · subst e; exact h1
    · have := ih (by omega) (by omega); omega
theorem Inv.le0 {E : Nat → Nat → Prop} {d : Dv} (h : Inv E d) {j : Nat} (hj : j < d.m) : d.tu (d.kn 0) ≤ d.tu (d.kn j) := by
  by_cases e : j = 0
  · subst e; exact Nat.le_refl _
  · have := h.up j (i := 0) (by omega) hj; omega
theorem Inv.knInj {E : Nat → Nat → Prop} {d : Dv} (h : Inv E d) {i j : Nat} (hi : i < d.m) (hj : j < d.m) (e : d.kn i = d.kn j) : i = j := by
  rcases Nat.lt_trichotomy i j with h1 | h1 | h1
  · have := h.up j h1 hj; rw [e] at this; omega
  · exact h1
  · have := h.up i h1 hi; rw [e] at this; omega
/-- the tie of a knot to the one above -/
def Up (E : Nat → Nat → Prop) (d : Dv) (b : Nat) (x y : Nat) : Prop := E x y ∧ d.par y = x ∧ d.tu y ≤ b ∧ d.tu x < d.tu y
/-- all that was come to since the first of the stack hangs together with it by ties to the knots above -/
theorem Inv.rooted {E : Nat → Nat → Prop} {d : Dv} (h : Inv E d) (hm : 0 < d.m) : ∀ n v, d.tu v ≤ n → d.tu (d.kn 0) ≤ d.tu v → Cn (Up E d (d.tu v)) (d.kn 0) v := by
  intro n
  have p0 := (h.knk 0 hm).2.1
  induction n with
  | zero => intro v hv h0; omega
  | succ n ih =>
    intro v hv h0
    rcases h.seg hm v h0 with rfl | ⟨hp, hp2⟩
    · exact Cn.refl _
    · rcases h.tree v (by omega) with e | ⟨e1, e2, e3⟩
      · exact absurd e hp
      · exact (Cn.mono (fun x y q => ⟨q.1, q.2.1, by have := q.2.2.1; omega, q.2.2.2⟩) (ih (d.par v) (by omega) hp2)).fwd ⟨e1, rfl, Nat.le_refl _, e3⟩

/-- what is put on the stack -/
def Dv.push (d : Dv) (k f : Nat) : Dv := { d with m := d.m + 1, kn := upd d.kn d.m k, fr := upd d.fr d.m f, nx := upd d.nx d.m 0, le := upd d.le d.m (d.cn + 1), tu := upd d.tu k (d.cn + 1), cn := d.cn + 1, par := upd d.par k f }
/-- the lowest looks at one more -/
def Dv.skip (d : Dv) (i x : Nat) : Dv := { d with nx := upd d.nx i (x + 1) }
def Dv.look (d : Dv) (i x : Nat) : Dv := { d with nx := upd d.nx i (x + 1), le := upd d.le i (min (d.le i) (d.tu x)) }

theorem inv_begin {E : Nat → Nat → Prop} (tu0 : Nat → Nat) (h0 : ∀ v, tu0 v = 0) (kn fr nx le par : Nat → Nat) : Inv E ⟨0, kn, fr, nx, le, tu0, 0, fun _ _ => False, par⟩ := by
  have hz : ∀ v, ¬ 0 < tu0 v := fun v => by rw [h0]; omega
  refine ⟨fun i hi => absurd hi (by simp), fun i hi => absurd hi (by simp), fun hi => absurd hi (by simp), fun v => by simp [h0], fun v w hv => absurd hv (hz v), fun v hv => absurd hv (hz v), fun v hv => absurd hv (hz v), fun hi => absurd hi (by simp), fun hi => absurd hi (by simp), fun v hv => absurd hv.1 (hz v), fun i hi => absurd hi (by simp), fun i hi => absurd hi (by simp), fun i hi => absurd hi (by simp), fun x y hb => absurd hb (by simp), fun x y hb => absurd hb (by simp), fun v hv => absurd hv.1 (hz v)⟩

theorem Inv.pushRoot {E : Nat → Nat → Prop} (G : Gr E) {d : Dv} (h : Inv E d) (hm : d.m = 0) {k : Nat} (hk : k < 8) (hz : d.tu k = 0) : Inv E (d.push k k) := by
  have hd : ∀ v, 0 < d.tu v → Dn d v := fun v hv => ⟨hv, fun i hi => by omega⟩
  obtain ⟨d', hd'⟩ : ∃ d', d' = d.push k k := ⟨_, rfl⟩
  have tk : d'.tu k = d.cn + 1 := by rw [hd']; exact upd_at _ _ _
  have tn : ∀ v, v ≠ k → d'.tu v = d.tu v := fun v hv => by rw [hd']; exact upd_no _ _ hv
  have pk : d'.par k = k := by rw [hd']; exact upd_at _ _ _
  have pn : ∀ v, v ≠ k → d'.par v = d.par v := fun v hv => by rw [hd']; exact upd_no _ _ hv
  have k0 : d'.kn 0 = k := by rw [hd']; show upd d.kn d.m k 0 = k; rw [hm]; exact upd_at _ _ _
  have f0 : d'.fr 0 = k := by rw [hd']; show upd d.fr d.m k 0 = k; rw [hm]; exact upd_at _ _ _
  have n0 : d'.nx 0 = 0 := by rw [hd']; show upd d.nx d.m 0 0 = 0; rw [hm]; exact upd_at _ _ _
  have l0 : d'.le 0 = d.cn + 1 := by rw [hd']; show upd d.le d.m (d.cn + 1) 0 = _; rw [hm]; exact upd_at _ _ _
  have m1 : d'.m = 1 := by rw [hd']; show d.m + 1 = 1; omega
  have c1 : d'.cn = d.cn + 1 := by rw [hd']; rfl
  have b1 : d'.br = d.br := by rw [hd']; rfl
  rw [← hd']
  clear hd'
  have dn : ∀ v, Dn d' v → v ≠ k ∧ Dn d v := by
    intro v hv
    have hvk : v ≠ k := fun e => hv.2 0 (by omega) (by rw [k0, e])
    exact ⟨hvk, hd v (by rw [← tn v hvk]; exact hv.1)⟩
  have nok : ∀ v, 0 < d.tu v → ¬ E v k := fun v hv he => by have := (h.done v (hd v hv) k he).1; omega
  refine ⟨?_, ?_, ?_, ?_, ?_, ?_, ?_, ?_, ?_, ?_, ?_, ?_, ?_, ?_, ?_, ?_⟩
  · intro i hi
    obtain rfl : i = 0 := by omega
    rw [k0, f0, n0, l0, tk, pk]; exact ⟨hk, by omega, rfl, by omega, Nat.le_refl _, Nat.le_refl _⟩
  · intro i hi; omega
  · intro _; rw [f0, k0]
  · intro v
    by_cases e : v = k
    · subst e; rw [tk, c1]; omega
    · rw [tn v e, c1]; have := h.tucn v; omega
  · intro v w hv e
    by_cases e1 : v = k
    · by_cases e2 : w = k
      · rw [e1, e2]
      · rw [e1, tk, tn w e2] at e; have := h.tucn w; omega
    · by_cases e2 : w = k
      · rw [e2, tk, tn v e1] at e; have := h.tucn v; omega
      · rw [tn v e1, tn w e2] at e; rw [tn v e1] at hv; exact h.tuinj v w hv e
  · intro v hv
    by_cases e : v = k
    · subst e; exact hk
    · rw [tn v e] at hv; exact h.tu8 v hv
  · intro v hv
    by_cases e : v = k
    · left; subst e; exact pk
    · rw [tn v e] at hv
      rw [pn v e]
      rcases h.tree v hv with h1 | ⟨h1, h2, h3⟩
      · left; exact h1
      · right
        have : d.par v ≠ k := fun e => by rw [e] at h2; omega
        rw [tn v e, tn _ this]; exact ⟨h1, h2, h3⟩
  · intro _ v hv
    rw [k0, tk] at hv
    left
    by_cases e : v = k
    · rw [k0]; exact e
    · rw [tn v e] at hv; have := h.tucn v; omega
  · intro _ v x hv hlt he
    rw [k0, tk] at hlt ⊢
    by_cases e : v = k
    · rw [e, tk] at hlt; omega
    · rw [tn v e] at hv
      have hx : x ≠ k := fun e2 => nok v hv (e2 ▸ he)
      rw [tn x hx]
      have h1 := (h.done v (hd v hv) x he).1
      have := h.tucn x
      exact ⟨h1, by omega⟩
  · intro v hv x he
    obtain ⟨hvk, hvd⟩ := dn v hv
    have hx : x ≠ k := fun e2 => nok v hvd.1 (e2 ▸ he)
    rw [tn x hx, pn v hvk, pn x hx]
    exact h.done v hvd x he
  · intro i hi x hx
    obtain rfl : i = 0 := by omega
    rw [n0] at hx; omega
  · intro i hi v hv hle
    obtain rfl : i = 0 := by omega
    obtain ⟨hvk, hvd⟩ := dn v hv
    rw [k0, tk, tn v hvk] at hle
    have := h.tucn v; omega
  · intro i hi
    obtain rfl : i = 0 := by omega
    rw [k0, l0]
    exact ⟨k, tk, Cn.refl _⟩
  · rw [b1]; exact h.br1
  · rw [b1]; exact h.brs
  · intro v hv hp
    obtain ⟨hvk, hvd⟩ := dn v hv
    rw [pn v hvk] at hp ⊢
    rw [b1]
    exact h.br2 v hvd hp

theorem Inv.pushChild {E : Nat → Nat → Prop} (G : Gr E) {d : Dv} (h : Inv E d) {i k : Nat} (hi : i + 1 = d.m) (he : E (d.kn i) k) (hz : d.tu k = 0) (hn : d.nx i = k) : Inv E ((d.skip i k).push k (d.kn i)) := by
  have hk : k < 8 := G.inn k (d.kn i) (G.sym _ _ he)
  have hkk : ∀ j, j < d.m → d.kn j ≠ k := fun j hj e => by have := (h.knk j hj).2.1; rw [e] at this; omega
  obtain ⟨d', hd'⟩ : ∃ d', d' = (d.skip i k).push k (d.kn i) := ⟨_, rfl⟩
  have m1 : d'.m = d.m + 1 := by rw [hd']; rfl
  have tk : d'.tu k = d.cn + 1 := by rw [hd']; exact upd_at _ _ _
  have tn : ∀ v, v ≠ k → d'.tu v = d.tu v := fun v hv => by rw [hd']; exact upd_no _ _ hv
  have pk : d'.par k = d.kn i := by rw [hd']; exact upd_at _ _ _
  have pn : ∀ v, v ≠ k → d'.par v = d.par v := fun v hv => by rw [hd']; exact upd_no _ _ hv
  have kt : d'.kn d.m = k := by rw [hd']; exact upd_at _ _ _
  have ko : ∀ j, j < d.m → d'.kn j = d.kn j := fun j hj => by rw [hd']; exact upd_no _ _ (by show j ≠ d.m; omega)
  have ft : d'.fr d.m = d.kn i := by rw [hd']; exact upd_at _ _ _
  have fo : ∀ j, j < d.m → d'.fr j = d.fr j := fun j hj => by rw [hd']; exact upd_no _ _ (by show j ≠ d.m; omega)
  have nt : d'.nx d.m = 0 := by rw [hd']; exact upd_at _ _ _
  have no : ∀ j, j < d.m → j ≠ i → d'.nx j = d.nx j := fun j hj hji => by rw [hd']; exact (upd_no _ _ (by show j ≠ d.m; omega)).trans (upd_no _ _ hji)
  have ni : d'.nx i = k + 1 := by rw [hd']; exact (upd_no _ _ (by show i ≠ d.m; omega)).trans (upd_at _ _ _)
  have lt : d'.le d.m = d.cn + 1 := by rw [hd']; exact upd_at _ _ _
  have lo : ∀ j, j < d.m → d'.le j = d.le j := fun j hj => by rw [hd']; exact upd_no _ _ (by show j ≠ d.m; omega)
  have c1 : d'.cn = d.cn + 1 := by rw [hd']; rfl
  have b1 : d'.br = d.br := by rw [hd']; rfl
  rw [← hd']
  clear hd'
  have him : i < d.m := by omega
  have hm0 : 0 < d.m := by omega
  have k0 : d'.kn 0 = d.kn 0 := ko 0 hm0
  have t0 : d'.tu (d.kn 0) = d.tu (d.kn 0) := tn _ (hkk 0 hm0)
  have pos : ∀ v, 0 < d.tu v → v ≠ k := fun v hv e => by rw [e] at hv; omega
  have dn : ∀ v, Dn d' v → v ≠ k ∧ Dn d v := by
    intro v hv
    have hvk : v ≠ k := fun e => hv.2 d.m (by omega) (by rw [kt, e])
    exact ⟨hvk, by rw [← tn v hvk]; exact hv.1, fun j hj => by rw [← ko j hj]; exact hv.2 j (by omega)⟩
  have nok : ∀ v, Dn d v → ¬ E v k := fun v hv he => by have := (h.done v hv k he).1; omega
  refine ⟨?_, ?_, ?_, ?_, ?_, ?_, ?_, ?_, ?_, ?_, ?_, ?_, ?_, ?_, ?_, ?_⟩
  · intro j hj
    rw [k0, t0]
    by_cases e : j = d.m
    · subst e
      rw [kt, ft, nt, lt, tk, pk]
      have := h.tucn (d.kn 0)
      exact ⟨hk, by omega, rfl, by omega, Nat.le_refl _, by omega⟩
    · have hj' : j < d.m := by omega
      obtain ⟨q1, q2, q3, q4, q5, q6⟩ := h.knk j hj'
      rw [ko j hj', fo j hj', lo j hj', tn _ (hkk j hj'), pn _ (hkk j hj')]
      refine ⟨q1, q2, q3, ?_, q5, q6⟩
      by_cases e2 : j = i
      · subst e2; rw [ni]; omega
      · rw [no j hj' e2]; exact q4
  · intro j hj
    by_cases e : j + 1 = d.m
    · obtain rfl : j = i := by omega
      rw [e, ft, kt, ko j him, tk, tn _ (hkk j him)]
      have := h.tucn (d.kn j)
      exact ⟨rfl, he, by omega⟩
    · have hj' : j + 1 < d.m := by omega
      rw [fo _ hj', ko _ hj', ko j (by omega), tn _ (hkk j (by omega)), tn _ (hkk _ hj')]
      exact h.chain j hj'
  · intro _; rw [k0, fo 0 hm0]; exact h.root hm0
  · intro v
    by_cases e : v = k
    · subst e; rw [tk, c1]; omega
    · rw [tn v e, c1]; have := h.tucn v; omega
  · intro v w hv e
    by_cases e1 : v = k
    · by_cases e2 : w = k
      · rw [e1, e2]
      · rw [e1, tk, tn w e2] at e; have := h.tucn w; omega
    · by_cases e2 : w = k
      · rw [e2, tk, tn v e1] at e; have := h.tucn v; omega
      · rw [tn v e1, tn w e2] at e; rw [tn v e1] at hv; exact h.tuinj v w hv e
  · intro v hv
    by_cases e : v = k
    · subst e; exact hk
    · rw [tn v e] at hv; exact h.tu8 v hv
  · intro v hv
    by_cases e : v = k
    · subst e
      right
      rw [pk, tk, tn _ (hkk i him)]
      have := h.tucn (d.kn i)
      exact ⟨he, (h.knk i him).2.1, by omega⟩
    · rw [tn v e] at hv
      rw [pn v e]
      rcases h.tree v hv with h1 | ⟨h1, h2, h3⟩
      · left; exact h1
      · right
        rw [tn v e, tn _ (pos _ h2)]; exact ⟨h1, h2, h3⟩
  · intro _ v hv
    rw [k0, t0] at hv ⊢
    by_cases e : v = k
    · subst e
      right
      rw [pk, tn _ (hkk i him)]
      exact ⟨fun e => hkk i him e, h.le0 him⟩
    · rw [tn v e] at hv
      rw [pn v e]
      rcases h.seg hm0 v hv with h1 | ⟨h1, h2⟩
      · left; exact h1
      · right
        have := (h.knk 0 hm0).2.1
        rw [tn _ (pos _ (by omega))]; exact ⟨h1, h2⟩
  · intro _ v x hv hlt hvx
    rw [k0, t0] at hlt ⊢
    by_cases e : v = k
    · rw [e, tk] at hlt; have := h.tucn (d.kn 0); omega
    · rw [tn v e] at hv hlt
      have := h.old hm0 v x hv hlt hvx
      rw [tn x (pos _ this.1)]; exact this
  · intro v hv x hvx
    obtain ⟨hvk, hvd⟩ := dn v hv
    have hx : x ≠ k := fun e2 => nok v hvd (e2 ▸ hvx)
    rw [tn x hx, pn v hvk, pn x hx]
    exact h.done v hvd x hvx
  · intro j hj x hx hjx
    by_cases e : j = d.m
    · subst e; rw [nt] at hx; omega
    · have hj' : j < d.m := by omega
      rw [ko j hj'] at hjx ⊢
      rw [fo j hj', lo j hj']
      by_cases exk : x = k
      · subst exk
        have hle := (h.knk j hj').2.2.2.2.1
        have hcn := h.tucn (d.kn j)
        by_cases e2 : j = i
        · subst e2
          rw [tk, pk]
          exact ⟨by omega, Or.inr (Or.inl rfl), fun _ => by omega⟩
        · rw [no j hj' e2] at hx
          have := (h.seen j hj' x hx hjx).1; omega
      · have hx' : x < d.nx j := by
          by_cases e2 : j = i
          · subst e2; rw [ni] at hx; omega
          · rw [no j hj' e2] at hx; exact hx
        rw [tn x exk, pn x exk, pn _ (hkk j hj')]
        exact h.seen j hj' x hx' hjx
  · intro j hj v hv hle hnx x hvx
    obtain ⟨hvk, hvd⟩ := dn v hv
    have hx : x ≠ k := fun e2 => nok v hvd (e2 ▸ hvx)
    rw [tn v hvk] at hle hnx
    rw [tn x hx]
    by_cases e : j = d.m
    · subst e; rw [kt, tk] at hle; have := h.tucn v; omega
    · have hj' : j < d.m := by omega
      rw [ko j hj', tn _ (hkk j hj')] at hle
      rw [lo j hj']
      refine h.low j hj' v hvd hle (fun hj2 => ?_) x hvx
      have := hnx (by omega)
      rw [ko _ hj2, tn _ (hkk _ hj2)] at this
      exact this
  · intro j hj
    by_cases e : j = d.m
    · subst e; rw [kt, lt]; exact ⟨k, tk, Cn.refl _⟩
    · have hj' : j < d.m := by omega
      obtain ⟨u, hu, hc⟩ := h.wit j hj'
      have hl := (h.knk j hj').2.2.2.2.2
      have h00 := (h.knk 0 hm0).2.1
      refine ⟨u, ?_, ?_⟩
      · rw [lo j hj', tn u (pos u (by omega))]; exact hu
      · rw [ko j hj', fo j hj']
        refine Cn.mono (fun x y hxy => ?_) hc
        obtain ⟨q1, q2, q3, q4⟩ := hxy
        refine ⟨q1, ?_, q3, q4⟩
        have hcn := h.tucn (d.kn j)
        rw [tn _ (hkk j hj')]
        rcases q2 with q2 | q2
        · left
          by_cases ex : x = k
          · rw [ex, tk]; omega
          · rw [tn x ex]; exact q2
        · right
          by_cases ey : y = k
          · rw [ey, tk]; omega
          · rw [tn y ey]; exact q2
  · rw [b1]; exact h.br1
  · rw [b1]; exact h.brs
  · intro v hv hp
    obtain ⟨hvk, hvd⟩ := dn v hv
    rw [pn v hvk] at hp ⊢
    rw [b1]
    exact h.br2 v hvd hp

/-- the parts that hang from turns, parents, bridges and the stack's knots stay, where only what is looked at changes -/
theorem Inv.skipTo {E : Nat → Nat → Prop} (G : Gr E) {d : Dv} (h : Inv E d) {i k : Nat} (hi : i + 1 = d.m) (hn : d.nx i = k) (hk : k < 8) (hno : ¬ E (d.kn i) k ∨ k = d.fr i) : Inv E (d.skip i k) := by
  have him : i < d.m := by omega
  have no : ∀ j, j ≠ i → (d.skip i k).nx j = d.nx j := fun j hj => upd_no _ _ hj
  have ni : (d.skip i k).nx i = k + 1 := upd_at _ _ _
  refine ⟨?_, h.chain, h.root, h.tucn, h.tuinj, h.tu8, h.tree, h.seg, h.old, h.done, ?_, h.low, h.wit, h.br1, h.brs, h.br2⟩
  · intro j hj
    obtain ⟨q1, q2, q3, q4, q5, q6⟩ := h.knk j hj
    refine ⟨q1, q2, q3, ?_, q5, q6⟩
    by_cases e : j = i
    · subst e; rw [ni]; omega
    · rw [no j e]; exact q4
  · intro j hj x hx hjx
    by_cases e : j = i
    · subst e
      rw [ni] at hx
      by_cases ex : x = k
      · subst ex
        rcases hno with h1 | h1
        · exact absurd hjx h1
        · have hp : d.par (d.kn j) = x := by rw [h1]; exact ((h.knk j hj).2.2.1).symm
          refine ⟨?_, Or.inl hp, fun hne => absurd h1 hne⟩
          have h2 := h.tree (d.kn j) (h.knk j hj).2.1
          rw [hp] at h2
          rcases h2 with h2 | h2
          · exact absurd (h2 ▸ hjx : E (d.kn j) (d.kn j)) (G.irr _)
          · exact h2.2.1
      · exact h.seen j hj x (by omega) hjx
    · rw [no j e] at hx; exact h.seen j hj x hx hjx

theorem Inv.lookAt {E : Nat → Nat → Prop} (G : Gr E) {d : Dv} (h : Inv E d) {i k : Nat} (hi : i + 1 = d.m) (hn : d.nx i = k) (hk : k < 8) (he : E (d.kn i) k) (hf : k ≠ d.fr i) (ht : 0 < d.tu k) : Inv E (d.look i k) := by
  have him : i < d.m := by omega
  have hm0 : 0 < d.m := by omega
  have no : ∀ j, j ≠ i → (d.look i k).nx j = d.nx j := fun j hj => upd_no _ _ hj
  have ni : (d.look i k).nx i = k + 1 := upd_at _ _ _
  have lo : ∀ j, j ≠ i → (d.look i k).le j = d.le j := fun j hj => upd_no _ _ hj
  have li : (d.look i k).le i = min (d.le i) (d.tu k) := upd_at _ _ _
  have q := h.knk i him
  have hseg : d.tu (d.kn 0) ≤ d.tu k := by
    apply Decidable.byContradiction
    intro hc
    have := (h.old hm0 k (d.kn i) ht (by omega) (G.sym _ _ he)).2
    have := h.le0 him
    omega
  have hnb : d.par (d.kn i) = k ∨ d.par k = d.kn i ∨ Nb E (d.kn i) k := by
    by_cases h1 : d.par (d.kn i) = k
    · exact Or.inl h1
    by_cases h2 : d.par k = d.kn i
    · exact Or.inr (Or.inl h2)
    right; right
    have cut : ∀ b x y, Up E d b x y → But E (d.kn i) k x y := by
      rintro b x y ⟨u1, u2, u3⟩
      refine ⟨u1, ?_, ?_⟩
      · rintro ⟨rfl, rfl⟩; exact h2 u2
      · rintro ⟨rfl, rfl⟩; exact h1 u2
    have c1 := Cn.mono (cut _) (h.rooted hm0 _ (d.kn i) (Nat.le_refl _) (h.le0 him))
    have c2 := Cn.mono (cut _) (h.rooted hm0 _ k (Nat.le_refl _) hseg)
    exact c1.symm.trans c2
  refine ⟨?_, h.chain, h.root, h.tucn, h.tuinj, h.tu8, h.tree, h.seg, h.old, h.done, ?_, ?_, ?_, h.br1, h.brs, h.br2⟩
  · intro j hj
    obtain ⟨q1, q2, q3, q4, q5, q6⟩ := h.knk j hj
    show d.kn j < 8 ∧ 0 < d.tu (d.kn j) ∧ d.fr j = d.par (d.kn j) ∧ (d.look i k).nx j ≤ 8 ∧ (d.look i k).le j ≤ d.tu (d.kn j) ∧ d.tu (d.kn 0) ≤ (d.look i k).le j
    by_cases e : j = i
    · subst e; rw [ni, li]; exact ⟨q1, q2, q3, by omega, by omega, by omega⟩
    · rw [no j e, lo j e]; exact ⟨q1, q2, q3, q4, q5, q6⟩
  · intro j hj x hx hjx
    show 0 < d.tu x ∧ (d.par (d.kn j) = x ∨ d.par x = d.kn j ∨ Nb E (d.kn j) x) ∧ (x ≠ d.fr j → (d.look i k).le j ≤ d.tu x)
    by_cases e : j = i
    · subst e
      rw [ni] at hx
      rw [li]
      by_cases ex : x = k
      · subst ex; exact ⟨ht, hnb, fun _ => by omega⟩
      · have := h.seen j hj x (by omega) hjx
        exact ⟨this.1, this.2.1, fun hne => by have := this.2.2 hne; omega⟩
    · rw [no j e] at hx; rw [lo j e]; exact h.seen j hj x hx hjx
  · intro j hj v hv hle hnx x hvx
    show (d.look i k).le j ≤ d.tu x
    have := h.low j hj v hv hle hnx x hvx
    by_cases e : j = i
    · subst e; rw [li]; omega
    · rw [lo j e]; exact this
  · intro j hj
    show ∃ u, d.tu u = (d.look i k).le j ∧ Cn (Ew E d.tu (d.kn j) (d.fr j)) (d.kn j) u
    by_cases e : j = i
    · subst e
      rw [li]
      by_cases hl : d.le j ≤ d.tu k
      · rw [Nat.min_eq_left hl]; exact h.wit j hj
      · rw [Nat.min_eq_right (by omega)]
        refine ⟨k, rfl, (Cn.refl _).fwd ⟨he, Or.inl (Nat.le_refl _), ?_, ?_⟩⟩
        · rintro ⟨_, rfl⟩; exact G.irr _ he
        · rintro ⟨_, e⟩; exact hf e
    · rw [lo j e]; exact h.wit j hj

/-- the lowest is left -/
def Dv.leave (d : Dv) (i : Nat) : Dv := { d with m := i + 1, le := upd d.le i (min (d.le i) (d.le (i + 1))), br := fun x y => d.br x y ∨ (d.le (i + 1) = d.tu (d.kn (i + 1)) ∧ ((x = d.fr (i + 1) ∧ y = d.kn (i + 1)) ∨ (x = d.kn (i + 1) ∧ y = d.fr (i + 1)))) }
theorem Inv.leaveTo {E : Nat → Nat → Prop} (G : Gr E) {d : Dv} (h : Inv E d) {i : Nat} (hi : i + 2 = d.m) (hn : d.nx (i + 1) = 8) : Inv E (d.leave i) := by
  have him : i < d.m := by omega
  have hjm : i + 1 < d.m := by omega
  have hm0 : 0 < d.m := by omega
  obtain ⟨f1, f2, f3⟩ := h.chain i hjm
  obtain ⟨q1, q2, q3, q4, q5, q6⟩ := h.knk (i + 1) hjm
  have p := h.knk i him
  have hp : d.par (d.kn (i + 1)) = d.kn i := by rw [← q3, f1]
  -- what lies not above the lowest is left, or it
  have hdn : ∀ w, d.tu (d.kn (i + 1)) ≤ d.tu w → w ≠ d.kn (i + 1) → Dn d w := by
    intro w hw hne
    refine ⟨by omega, fun j hj e => ?_⟩
    by_cases e1 : j = i + 1
    · subst e1; exact hne e.symm
    · have := h.up (i + 1) (i := j) (by omega) hjm; rw [e] at this; omega
  have hbr : d.le (i + 1) = d.tu (d.kn (i + 1)) → ¬ Nb E (d.kn i) (d.kn (i + 1)) := by
    intro hl hnb
    have key : ∀ y, Cn (But E (d.kn i) (d.kn (i + 1))) (d.kn (i + 1)) y → d.tu (d.kn (i + 1)) ≤ d.tu y := by
      have step : ∀ y z, d.tu (d.kn (i + 1)) ≤ d.tu y → E y z → ¬ (y = d.kn (i + 1) ∧ z = d.kn i) → d.tu (d.kn (i + 1)) ≤ d.tu z := by
        intro y z hy hyz hnot
        by_cases e : y = d.kn (i + 1)
        · subst e
          have hz8 : z < 8 := G.inn z _ (G.sym _ _ hyz)
          have := (h.seen (i + 1) hjm z (by omega) hyz).2.2 (fun e => hnot ⟨rfl, by rw [e, f1]⟩)
          omega
        · have := h.low (i + 1) hjm y (hdn y hy e) hy (fun hc => by omega) z hyz
          omega
      intro y hy
      induction hy with
      | refl => exact Nat.le_refl _
      | fwd _ e ih => exact step _ _ ih e.1 (fun hc => e.2.2 ⟨hc.1, hc.2⟩)
      | bwd _ e ih => exact step _ _ ih (G.sym _ _ e.1) (fun hc => e.2.1 ⟨hc.2, hc.1⟩)
    have := key _ (Cn.symm hnb)
    omega
  have hnb : d.le (i + 1) ≠ d.tu (d.kn (i + 1)) → Nb E (d.kn i) (d.kn (i + 1)) := by
    intro hl
    obtain ⟨u, hu, hc⟩ := h.wit (i + 1) hjm
    have hult : d.tu u < d.tu (d.kn (i + 1)) := by omega
    have c1 : Cn (But E (d.kn i) (d.kn (i + 1))) (d.kn (i + 1)) u := Cn.mono (fun x y hxy => ⟨hxy.1, by rw [← f1]; exact hxy.2.2.1, by rw [← f1]; exact hxy.2.2.2⟩) hc
    have cut : ∀ b x y, b < d.tu (d.kn (i + 1)) → Up E d b x y → But E (d.kn i) (d.kn (i + 1)) x y := by
      rintro b x y hb ⟨u1, u2, u3, u4⟩
      refine ⟨u1, ?_, ?_⟩
      · rintro ⟨rfl, rfl⟩; omega
      · rintro ⟨rfl, rfl⟩; omega
    have c2 := Cn.mono (fun x y => cut _ x y hult) (h.rooted hm0 _ u (Nat.le_refl _) (by omega))
    have c3 := Cn.mono (fun x y => cut _ x y f3) (h.rooted hm0 _ (d.kn i) (Nat.le_refl _) (h.le0 him))
    exact c3.symm.trans (c2.trans c1.symm)
  have lo : ∀ j, j ≠ i → (d.leave i).le j = d.le j := fun j hj => upd_no _ _ hj
  have li : (d.leave i).le i = min (d.le i) (d.le (i + 1)) := upd_at _ _ _
  have dn : ∀ v, Dn (d.leave i) v → v = d.kn (i + 1) ∨ Dn d v := by
    intro v hv
    by_cases e : v = d.kn (i + 1)
    · exact Or.inl e
    · refine Or.inr ⟨hv.1, fun j hj ej => ?_⟩
      by_cases e1 : j = i + 1
      · subst e1; exact e ej.symm
      · exact hv.2 j (by show j < i + 1; omega) ej
  refine ⟨?_, ?_, fun _ => h.root hm0, h.tucn, h.tuinj, h.tu8, h.tree, fun _ => h.seg hm0, fun _ => h.old hm0, ?_, ?_, ?_, ?_, ?_, ?_, ?_⟩
  · intro j hj
    have hj' : j < i + 1 := hj
    obtain ⟨r1, r2, r3, r4, r5, r6⟩ := h.knk j (by omega)
    show d.kn j < 8 ∧ 0 < d.tu (d.kn j) ∧ d.fr j = d.par (d.kn j) ∧ d.nx j ≤ 8 ∧ (d.leave i).le j ≤ d.tu (d.kn j) ∧ d.tu (d.kn 0) ≤ (d.leave i).le j
    by_cases e : j = i
    · subst e; rw [li]; exact ⟨r1, r2, r3, r4, by omega, by omega⟩
    · rw [lo j e]; exact ⟨r1, r2, r3, r4, r5, r6⟩
  · intro j hj
    have hj' : j + 1 < i + 1 := hj
    exact h.chain j (by omega)
  · intro v hv x hvx
    rcases dn v hv with rfl | hv'
    · have hx8 : x < 8 := G.inn x _ (G.sym _ _ hvx)
      have := h.seen (i + 1) hjm x (by omega) hvx
      exact ⟨this.1, this.2.1⟩
    · exact h.done v hv' x hvx
  · intro j hj x hx hjx
    have hj' : j < i + 1 := hj
    have := h.seen j (by omega) x hx hjx
    refine ⟨this.1, this.2.1, fun hne => ?_⟩
    show (d.leave i).le j ≤ d.tu x
    have h2 := this.2.2 hne
    by_cases e : j = i
    · subst e; rw [li]; omega
    · rw [lo j e]; exact h2
  · intro j hj v hv hle hnx x hvx
    have hj' : j < i + 1 := hj
    show (d.leave i).le j ≤ d.tu x
    by_cases e : j = i
    · subst e
      rw [li]
      rcases dn v hv with rfl | hv'
      · by_cases ex : x = d.kn j
        · subst ex; omega
        · have hx8 : x < 8 := G.inn x _ (G.sym _ _ hvx)
          have := (h.seen (j + 1) hjm x (by omega) hvx).2.2 (by rw [f1]; exact ex)
          omega
      · by_cases hc : d.tu v < d.tu (d.kn (j + 1))
        · have := h.low j him v hv' hle (fun _ => hc) x hvx; omega
        · have := h.low (j + 1) hjm v hv' (by omega) (fun hc => by omega) x hvx; omega
    · rw [lo j e]
      have hnx' := hnx (by show j + 1 < i + 1; omega)
      rcases dn v hv with rfl | hv'
      · have h3 : d.tu (d.kn (i + 1)) < d.tu (d.kn (j + 1)) := hnx'
        by_cases e2 : j + 1 = i
        · rw [e2] at h3; omega
        · have := h.up (i + 1) (i := j + 1) (by omega) hjm; omega
      · exact h.low j (by omega) v hv' hle (fun _ => hnx') x hvx
  · intro j hj
    have hj' : j < i + 1 := hj
    show ∃ u, d.tu u = (d.leave i).le j ∧ Cn (Ew E d.tu (d.kn j) (d.fr j)) (d.kn j) u
    by_cases e : j = i
    · subst e
      rw [li]
      by_cases hl : d.le j ≤ d.le (j + 1)
      · rw [Nat.min_eq_left hl]; exact h.wit j him
      · rw [Nat.min_eq_right (by omega)]
        obtain ⟨u, hu, hc⟩ := h.wit (j + 1) hjm
        refine ⟨u, hu, ?_⟩
        have hfr : d.tu (d.fr j) ≤ d.tu (d.kn j) := by
          rw [p.2.2.1]
          rcases h.tree (d.kn j) p.2.1 with e | e
          · rw [e]; exact Nat.le_refl _
          · omega
        have e1 : Ew E d.tu (d.kn j) (d.fr j) (d.kn j) (d.kn (j + 1)) := by
          refine ⟨f2, Or.inl (Nat.le_refl _), ?_, ?_⟩
          · rintro ⟨_, e⟩; rw [e] at f3; omega
          · rintro ⟨_, e⟩; rw [← e] at hfr; omega
        refine ((Cn.refl _).fwd e1).trans (Cn.mono ?_ hc)
        rintro x y ⟨g1, g2, g3, g4⟩
        refine ⟨g1, by omega, ?_, ?_⟩
        · rintro ⟨rfl, rfl⟩; omega
        · rintro ⟨rfl, rfl⟩; omega
    · rw [lo j e]; exact h.wit j (by omega)
  · rintro x y (hb | ⟨hl, hb⟩)
    · exact h.br1 x y hb
    · rcases hb with ⟨rfl, rfl⟩ | ⟨rfl, rfl⟩
      · rw [f1]; exact ⟨f2, hbr hl⟩
      · rw [f1]; exact ⟨G.sym _ _ f2, fun hc => hbr hl hc.turn⟩
  · rintro x y (hb | ⟨hl, hb⟩)
    · exact Or.inl (h.brs x y hb)
    · refine Or.inr ⟨hl, ?_⟩
      rcases hb with ⟨rfl, rfl⟩ | ⟨rfl, rfl⟩
      · exact Or.inr ⟨rfl, rfl⟩
      · exact Or.inl ⟨rfl, rfl⟩
  · intro v hv hpv
    rcases dn v hv with rfl | hv'
    · show (d.br (d.par (d.kn (i + 1))) (d.kn (i + 1)) ∨ _) ∨ Nb E (d.par (d.kn (i + 1))) (d.kn (i + 1))
      rw [hp]
      by_cases hl : d.le (i + 1) = d.tu (d.kn (i + 1))
      · exact Or.inl (Or.inr ⟨hl, Or.inl ⟨q3.symm, rfl⟩⟩)
      · exact Or.inr (hnb hl)
    · rcases h.br2 v hv' hpv with h1 | h1
      · exact Or.inl (Or.inl h1)
      · exact Or.inr h1

/-- the first is left -/
theorem Inv.leaveRoot {E : Nat → Nat → Prop} (G : Gr E) {d : Dv} (h : Inv E d) (hm : d.m = 1) (hn : d.nx 0 = 8) : Inv E { d with m := 0 } := by
  have q := h.knk 0 (by omega)
  have dn : ∀ v, Dn { d with m := 0 } v → v = d.kn 0 ∨ Dn d v := by
    intro v hv
    by_cases e : v = d.kn 0
    · exact Or.inl e
    · refine Or.inr ⟨hv.1, fun j hj ej => ?_⟩
      obtain rfl : j = 0 := by omega
      exact e ej.symm
  refine ⟨fun i hi => absurd hi (by simp), fun i hi => absurd hi (by simp), fun hi => absurd hi (by simp), h.tucn, h.tuinj, h.tu8, h.tree, fun hi => absurd hi (by simp), fun hi => absurd hi (by simp), ?_, fun i hi => absurd hi (by simp), fun i hi => absurd hi (by simp), fun i hi => absurd hi (by simp), h.br1, h.brs, ?_⟩
  · intro v hv x hvx
    rcases dn v hv with rfl | hv'
    · have hx8 : x < 8 := G.inn x _ (G.sym _ _ hvx)
      have := h.seen 0 (by omega) x (by omega) hvx
      exact ⟨this.1, this.2.1⟩
    · exact h.done v hv' x hvx
  · intro v hv hpv
    rcases dn v hv with rfl | hv'
    · exfalso
      apply hpv
      show d.par (d.kn 0) = d.kn 0
      rw [← q.2.2.1]; exact h.root (by omega)
    · exact h.br2 v hv' hpv
/-- in the end just the bridges are told -/
theorem Inv.answer {E : Nat → Nat → Prop} (G : Gr E) {d : Dv} (h : Inv E d) (hm : d.m = 0) (hall : ∀ v, v < 8 → 0 < d.tu v) (x y : Nat) : d.br x y ↔ E x y ∧ ¬ Nb E x y := by
  refine ⟨h.br1 x y, fun ⟨he, hn⟩ => ?_⟩
  have dn : ∀ v, v < 8 → Dn d v := fun v hv => ⟨hall v hv, fun i hi => by omega⟩
  have hx := G.inn x y he
  have hy := G.inn y x (G.sym _ _ he)
  rcases (h.done x (dn x hx) y he).2 with h1 | h1 | h1
  · rcases h.br2 x (dn x hx) (fun e => G.irr x (by rw [← h1, e] at he; exact he)) with h2 | h2
    · rw [h1] at h2; exact h.brs _ _ h2
    · rw [h1] at h2; exact absurd h2.turn hn
  · rcases h.br2 y (dn y hy) (fun e => G.irr y (by rw [← h1, e] at he; exact he)) with h2 | h2
    · rw [h1] at h2; exact h2
    · rw [h1] at h2; exact absurd h2 hn
  · exact absurd h1 hn

/-! ### How many are left -/
def vis (tu : Nat → Nat) (v : Nat) : Bool := decide (0 < tu v)
theorem vis_upd (tu : Nat → Nat) (k c : Nat) (hc : 0 < c) : vis (upd tu k c) = mark (vis tu) k := by
  funext j
  unfold vis mark upd
  by_cases e : j = k
  · simp [e, hc]
  · simp [e]
/-- looks that are still to come on the stack -/
def sm (nx : Nat → Nat) : Nat → Nat
  | 0 => 0
  | m + 1 => sm nx m + (9 - nx m)
theorem sm_above (nx : Nat → Nat) {i : Nat} (v : Nat) : ∀ m, m ≤ i → sm (upd nx i v) m = sm nx m := by
  intro m
  induction m with
  | zero => intro _; rfl
  | succ m ih =>
    intro h
    have e : upd nx i v m = nx m := upd_no nx v (by omega)
    simp only [sm, ih (by omega), e]
/-- what stands of the numbers -/
structure Aux (d : Dv) : Prop where
  mcn : d.m ≤ d.cn
  sum : d.cn + unm (vis d.tu) 8 = 8
def mu (d : Dv) : Nat := 10 * unm (vis d.tu) 8 + sm d.nx d.m
theorem Aux.push {d : Dv} (h : Aux d) {k f : Nat} (hk : k < 8) (hz : d.tu k = 0) : Aux (d.push k f) := by
  have h1 : (d.push k f).tu = upd d.tu k (d.cn + 1) := rfl
  have h2 := unm_mark (vis d.tu) (y := k) (by simp [vis, hz]) 8 hk
  refine ⟨by show d.m + 1 ≤ d.cn + 1; have := h.mcn; omega, ?_⟩
  rw [h1, vis_upd _ _ _ (by omega)]
  show d.cn + 1 + _ = 8
  have := h.sum; omega
theorem Aux.skip {d : Dv} (h : Aux d) (i x : Nat) : Aux (d.skip i x) := ⟨h.mcn, h.sum⟩
theorem Aux.look {d : Dv} (h : Aux d) (i x : Nat) : Aux (d.look i x) := ⟨h.mcn, h.sum⟩
theorem Aux.leave {d : Dv} (h : Aux d) {i : Nat} (hi : i + 2 = d.m) : Aux (d.leave i) := ⟨by show i + 1 ≤ d.cn; have := h.mcn; omega, h.sum⟩
theorem Aux.root {d : Dv} (h : Aux d) : Aux { d with m := 0 } := ⟨Nat.zero_le _, h.sum⟩
theorem mu_skip {d : Dv} {i x : Nat} (hi : i + 1 = d.m) (hn : d.nx i = x) (hx : x < 8) : mu (d.skip i x) < mu d := by
  unfold mu
  show 10 * unm (vis d.tu) 8 + sm (upd d.nx i (x + 1)) d.m < _
  rw [← hi]
  simp only [sm]
  rw [sm_above _ _ _ (Nat.le_refl _), upd_at, hn]; omega
theorem mu_look {d : Dv} {i x : Nat} (hi : i + 1 = d.m) (hn : d.nx i = x) (hx : x < 8) : mu (d.look i x) < mu d := mu_skip hi hn hx
theorem mu_push {d : Dv} {i k f : Nat} (hi : i + 1 = d.m) (hn : d.nx i = k) (hk : k < 8) (hz : d.tu k = 0) : mu ((d.skip i k).push k f) < mu d := by
  have h1 : ((d.skip i k).push k f).tu = upd d.tu k (d.cn + 1) := rfl
  have h2 := unm_mark (vis d.tu) (y := k) (by simp [vis, hz]) 8 hk
  have h3 := mu_skip (d := d) hi hn hk
  unfold mu at h3 ⊢
  rw [h1, vis_upd _ _ _ (by omega)]
  show 10 * unm (mark (vis d.tu) k) 8 + sm (upd (d.skip i k).nx d.m 0) (d.m + 1) < _
  simp only [sm]
  rw [sm_above _ _ _ (Nat.le_refl _), upd_at]
  have e : sm (d.skip i k).nx (d.skip i k).m = sm (d.skip i k).nx d.m := rfl
  have e2 : (d.skip i k).tu = d.tu := rfl
  rw [e, e2] at h3
  omega
theorem mu_leave {d : Dv} {i : Nat} (hi : i + 2 = d.m) (hn : d.nx (i + 1) = 8) : mu (d.leave i) < mu d := by
  unfold mu
  show 10 * unm (vis d.tu) 8 + sm d.nx (i + 1) < _
  rw [← hi]
  show _ < 10 * unm (vis d.tu) 8 + (sm d.nx (i + 1) + (9 - d.nx (i + 1)))
  rw [hn]; omega
theorem mu_root {d : Dv} (hm : d.m = 1) (hn : d.nx 0 = 8) : mu { d with m := 0 } < mu d := by
  unfold mu
  show 10 * unm (vis d.tu) 8 + 0 < _
  rw [hm]
  show _ < 10 * unm (vis d.tu) 8 + (0 + (9 - d.nx 0))
  rw [hn]; omega
theorem Aux.begin (tu0 : Nat → Nat) (h0 : ∀ v, tu0 v = 0) (kn fr nx le par : Nat → Nat) : Aux ⟨0, kn, fr, nx, le, tu0, 0, fun _ _ => False, par⟩ := by
  refine ⟨Nat.le_refl _, ?_⟩
  have : vis tu0 = fun _ => false := by funext v; simp [vis, h0]
  rw [this]
  show 0 + unm (fun _ => false) 8 = 8
  rfl

/-- a move that is told: from a knot to another one; up, with the least turn below -/
structure Mv where
  f : Nat
  t : Nat
  u : Bool
  l : Nat
/-- one step of going down, and what is told of it -/
inductive Tr (E : Nat → Nat → Prop) (d : Dv) : Option Mv → Dv → Prop where
  | root {k : Nat} (hm : d.m = 0) (hk : k < 8) (hz : d.tu k = 0) : Tr E d none (d.push k k)
  | skip {i x : Nat} (hi : d.m = i + 1) (hn : d.nx i = x) (hx : x < 8) (hc : ¬ E (d.kn i) x ∨ x = d.fr i) : Tr E d none (d.skip i x)
  | later {i x : Nat} (hi : d.m = i + 1) (hn : d.nx i = x) (hx : x < 8) (he : E (d.kn i) x) (hf : x ≠ d.fr i) (ht : d.tu (d.kn i) < d.tu x) : Tr E d none (d.look i x)
  | down {i x : Nat} (hi : d.m = i + 1) (hn : d.nx i = x) (hx : x < 8) (he : E (d.kn i) x) (hf : x ≠ d.fr i) (ht : d.tu x = 0) : Tr E d (some ⟨d.kn i, x, false, 0⟩) ((d.skip i x).push x (d.kn i))
  | back {i x : Nat} (hi : d.m = i + 1) (hn : d.nx i = x) (hx : x < 8) (he : E (d.kn i) x) (hf : x ≠ d.fr i) (h0 : 0 < d.tu x) (ht : d.tu x ≤ d.tu (d.kn i)) : Tr E d (some ⟨d.kn i, x, false, 0⟩) (d.look i x)
  | up {i : Nat} (hi : d.m = i + 2) (hn : d.nx (i + 1) = 8) : Tr E d (some ⟨d.fr (i + 1), d.kn (i + 1), true, d.le (i + 1)⟩) (d.leave i)
  | out (hm : d.m = 1) (hn : d.nx 0 = 8) : Tr E d none { d with m := 0 }
theorem Tr.inv {E : Nat → Nat → Prop} (G : Gr E) {d d' : Dv} {o : Option Mv} (t : Tr E d o d') (h : Inv E d) : Inv E d' := by
  cases t with
  | root hm hk hz => exact h.pushRoot G hm hk hz
  | skip hi hn hx hc => exact h.skipTo G (by omega) hn hx hc
  | later hi hn hx he hf ht => exact h.lookAt G (by omega) hn hx he hf (by omega)
  | down hi hn hx he hf ht => exact h.pushChild G (by omega) he ht hn
  | back hi hn hx he hf h0 ht => exact h.lookAt G (by omega) hn hx he hf h0
  | up hi hn => exact h.leaveTo G (by omega) hn
  | out hm hn => exact h.leaveRoot G hm hn
theorem Tr.aux {E : Nat → Nat → Prop} {d d' : Dv} {o : Option Mv} (t : Tr E d o d') (h : Aux d) : Aux d' := by
  cases t with
  | root hm hk hz => exact h.push hk hz
  | skip hi hn hx hc => exact h.skip _ _
  | later hi hn hx he hf ht => exact h.look _ _
  | down hi hn hx he hf ht => exact (h.skip _ _).push hx ht
  | back hi hn hx he hf h0 ht => exact h.look _ _
  | up hi hn => exact h.leave (by omega)
  | out hm hn => exact h.root
theorem Tr.less {E : Nat → Nat → Prop} {d d' : Dv} {o : Option Mv} (t : Tr E d o d') (hm : 0 < d.m) : mu d' < mu d := by
  cases t with
  | root h0 hk hz => omega
  | skip hi hn hx hc => exact mu_skip (by omega) hn hx
  | later hi hn hx he hf ht => exact mu_look (by omega) hn hx
  | down hi hn hx he hf ht => exact mu_push (by omega) hn hx ht
  | back hi hn hx he hf h0 ht => exact mu_look (by omega) hn hx
  | up hi hn => exact mu_leave (by omega) hn
  | out h1 hn => exact mu_root h1 hn
theorem Tr.tu {E : Nat → Nat → Prop} {d d' : Dv} {o : Option Mv} (t : Tr E d o d') {y : Nat} (hy : 0 < d.tu y) : d'.tu y = d.tu y := by
  cases t with
  | root h0 hk hz => exact upd_no _ _ (fun e => by subst e; omega)
  | skip hi hn hx hc => rfl
  | later hi hn hx he hf ht => rfl
  | down hi hn hx he hf ht => exact upd_no _ _ (fun e => by subst e; omega)
  | back hi hn hx he hf h0 ht => rfl
  | up hi hn => rfl
  | out h1 hn => rfl

end Go.Proofs.Ytapnbnapfapneaa

