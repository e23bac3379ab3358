/- Plain mathematics of nets: ties as a list in order; inserting and striking ties; the bits of such lists. -/
import Derived.Test.YtljnjpjnadlmhaaMath
namespace Go.Proofs.Ytljnjpjnadlmhaa

def ix (t : Int × Int) : Nat := idx t.1 t.2
/-- ties of a net of K knots, in order, each once -/
def Srt (K : Int) (ts : List (Int × Int)) : Prop := (∀ t, t ∈ ts → TieOk K t.1 t.2) ∧ ts.Pairwise fun a b => ix a < ix b

theorem tA_get (ts : List (Int × Int)) (i : Nat) (h : i < ts.length) : tA ts i = ts[i].1 := by simp [tA, h]
theorem tB_get (ts : List (Int × Int)) (i : Nat) (h : i < ts.length) : tB ts i = ts[i].2 := by simp [tB, h]
theorem ix_get (ts : List (Int × Int)) (i : Nat) (h : i < ts.length) : idx (tA ts i) (tB ts i) = ix ts[i] := by rw [tA_get ts i h, tB_get ts i h]; rfl

theorem Srt.good {K : Int} {ts : List (Int × Int)} (hK : K ≤ 8) (h : Srt K ts) : GoodTo K ts ts.length := by
  intro i hi
  have t1 : TieOk K (tA ts i) (tB ts i) := by rw [tA_get ts i hi, tB_get ts i hi]; exact h.1 _ (List.getElem_mem hi)
  refine ⟨t1, fun h0 => ?_⟩
  have hj : i - 1 < ts.length := by omega
  have t2 : TieOk K (tA ts (i - 1)) (tB ts (i - 1)) := by rw [tA_get ts _ hj, tB_get ts _ hj]; exact h.1 _ (List.getElem_mem hj)
  rw [idx_less t2 t1 hK, ix_get ts _ hj, ix_get ts i hi]
  exact List.pairwise_iff_getElem.1 h.2 (i - 1) i hj hi (by omega)

theorem good_lt {K : Int} {ts : List (Int × Int)} (hK : K ≤ 8) (h : GoodTo K ts ts.length) (i : Nat) : ∀ j, i < j → j < ts.length → idx (tA ts i) (tB ts i) < idx (tA ts j) (tB ts j) := by
  intro j
  induction j with
  | zero => intro h0; omega
  | succ j ih =>
    intro hij hj
    have s := (idx_less (h j (by omega)).1 (h (j + 1) hj).1 hK).1 ((h (j + 1) hj).2 (by omega))
    by_cases e : i = j
    · subst e; exact s
    · have := ih (by omega) (by omega); omega

theorem srt_of_good {K : Int} {ts : List (Int × Int)} (hK : K ≤ 8) (h : GoodTo K ts ts.length) : Srt K ts := by
  constructor
  · intro t ht
    obtain ⟨i, hi, e⟩ := List.mem_iff_getElem.1 ht
    have := (h i hi).1
    rw [tA_get ts i hi, tB_get ts i hi, e] at this
    exact this
  · rw [List.pairwise_iff_getElem]
    intro i j hi hj hij
    have := good_lt hK h i j hij hj
    rwa [ix_get ts i hi, ix_get ts j hj] at this

theorem ok_srt {K : Int} {ts : List (Int × Int)} : NetOk K ts ↔ 0 ≤ K ∧ K ≤ 8 ∧ Srt K ts :=
  ⟨fun h => ⟨h.1, h.2.1, srt_of_good h.2.1 h.2.2⟩, fun h => ⟨h.1, h.2.1, h.2.2.good h.2.1⟩⟩

theorem ix_inj {K : Int} (hK : K ≤ 8) {s t : Int × Int} (hs : TieOk K s.1 s.2) (ht : TieOk K t.1 t.2) (e : ix s = ix t) : s = t := by
  obtain ⟨a, b, c⟩ := hs
  obtain ⟨a', b', c'⟩ := ht
  have := idx_inj a b (by omega) a' b' (by omega) e
  exact Prod.ext this.1 this.2
theorem ix_back {K : Int} (hK : K ≤ 8) {t : Int × Int} (ht : TieOk K t.1 t.2) : ((ix t / 8 : Nat) : Int) = t.1 ∧ ((ix t % 8 : Nat) : Int) = t.2 := by
  obtain ⟨a, b, c⟩ := ht
  unfold ix idx; omega
theorem ix_lt {K : Int} (hK : K ≤ 8) {t : Int × Int} (ht : TieOk K t.1 t.2) : ix t < 64 := idx_lt ht hK

theorem mem_get {ts : List (Int × Int)} {j : Nat} : (∃ i, i < ts.length ∧ idx (tA ts i) (tB ts i) = j) ↔ ∃ t, t ∈ ts ∧ ix t = j := by
  constructor
  · rintro ⟨i, hi, e⟩
    exact ⟨ts[i], List.getElem_mem hi, by rw [← ix_get ts i hi]; exact e⟩
  · rintro ⟨t, ht, e⟩
    obtain ⟨i, hi, rfl⟩ := List.mem_iff_getElem.1 ht
    exact ⟨i, hi, by rw [ix_get ts i hi]; exact e⟩

/-- the bits of m are just those of the ties ts -/
def BitsOf (m : Nat) (ts : List (Int × Int)) : Prop := ∀ j, m.testBit j = true ↔ ∃ t, t ∈ ts ∧ ix t = j
theorem mask_bitsOf (ts : List (Int × Int)) : BitsOf (maskN ts ts.length) ts := fun j => by rw [mask_bit, mem_get]

theorem tied_mem {ts : List (Int × Int)} {a b : Int} : tiedB ts a b = true ↔ (a, b) ∈ ts := by
  rw [tiedB_iff]
  constructor
  · rintro ⟨i, hi, ea, eb⟩
    rw [tA_get ts i hi] at ea
    rw [tB_get ts i hi] at eb
    rw [← ea, ← eb]
    exact List.getElem_mem hi
  · intro h
    obtain ⟨i, hi, e⟩ := List.mem_iff_getElem.1 h
    exact ⟨i, hi, by rw [tA_get ts i hi, e], by rw [tB_get ts i hi, e]⟩

/-! inserting -/
def lessT (s t : Int × Int) : Bool := lessB s.1 s.2 t.1 t.2
def ins (t : Int × Int) : List (Int × Int) → List (Int × Int)
  | [] => [t]
  | x :: r => if lessT t x = true then t :: x :: r else x :: ins t r
def insStep (t : Int × Int) (s : List (Int × Int) × Bool) (x : Int × Int) : List (Int × Int) × Bool :=
  if s.2 = false ∧ lessT t x = true then (s.1 ++ [t, x], true) else (s.1 ++ [x], s.2)
def insEnd (t : Int × Int) (s : List (Int × Int) × Bool) : List (Int × Int) := if s.2 = true then s.1 else s.1 ++ [t]
/-- what the model has behind k rounds -/
def insTo (t : Int × Int) (ts : List (Int × Int)) (k : Nat) : List (Int × Int) × Bool := (ts.take k).foldl (insStep t) ([], false)

theorem ins_done (t : Int × Int) : ∀ (r o : List (Int × Int)), r.foldl (insStep t) (o, true) = (o ++ r, true) := by
  intro r
  induction r with
  | nil => intro o; simp
  | cons x r ih => intro o; rw [List.foldl_cons]; simp only [insStep, Bool.true_eq_false, false_and, if_false]; rw [ih]; simp
theorem ins_fold (t : Int × Int) : ∀ (r o : List (Int × Int)), insEnd t (r.foldl (insStep t) (o, false)) = o ++ ins t r := by
  intro r
  induction r with
  | nil => intro o; simp [insEnd, ins]
  | cons x r ih =>
    intro o
    rw [List.foldl_cons]
    by_cases h : lessT t x = true
    · simp only [insStep, h, and_self, if_true, ins]
      rw [ins_done]; simp [insEnd]
    · simp only [insStep, h, and_false, if_false, ins, Bool.false_eq_true]
      rw [ih]; simp
theorem insTo_end (t : Int × Int) (ts : List (Int × Int)) : insEnd t (insTo t ts ts.length) = ins t ts := by
  unfold insTo; rw [List.take_length, ins_fold]; simp
theorem insTo_succ (t : Int × Int) (ts : List (Int × Int)) (k : Nat) (h : k < ts.length) : insTo t ts (k + 1) = insStep t (insTo t ts k) ts[k] := by
  unfold insTo; rw [List.take_succ_eq_append_getElem h, List.foldl_append]; rfl
theorem insTo_len (t : Int × Int) (ts : List (Int × Int)) : ∀ k, k ≤ ts.length → (insTo t ts k).1.length ≤ k + 1 := by
  have hd : ∀ k, k ≤ ts.length → (insTo t ts k).1.length = k + (if (insTo t ts k).2 = true then 1 else 0) := by
    intro k
    induction k with
    | zero => intro _; simp [insTo]
    | succ k ih =>
      intro hk
      have := ih (by omega)
      rw [insTo_succ t ts k (by omega)]
      unfold insStep
      cases hb : (insTo t ts k).2 <;> simp only [hb] at this ⊢
      · by_cases hl : lessT t ts[k] = true
        · simp [hl]; simp at this; omega
        · simp [hl]; simpa using this
      · simp; simp at this; omega
  intro k hk
  rw [hd k hk]; split <;> omega

theorem mem_ins (t x : Int × Int) (ts : List (Int × Int)) : x ∈ ins t ts ↔ x = t ∨ x ∈ ts := by
  induction ts with
  | nil => simp [ins]
  | cons y r ih =>
    unfold ins
    by_cases h : lessT t y = true
    · rw [if_pos h]; simp
    · rw [if_neg h]; simp only [List.mem_cons, ih]
      constructor
      · rintro (a | a | a)
        · exact Or.inr (Or.inl a)
        · exact Or.inl a
        · exact Or.inr (Or.inr a)
      · rintro (a | a | a)
        · exact Or.inr (Or.inl a)
        · exact Or.inl a
        · exact Or.inr (Or.inr a)
theorem ins_length (t : Int × Int) (ts : List (Int × Int)) : (ins t ts).length = ts.length + 1 := by
  induction ts with
  | nil => rfl
  | cons y r ih => unfold ins; split <;> simp [ih]
theorem lessT_iff {K : Int} (hK : K ≤ 8) {s t : Int × Int} (hs : TieOk K s.1 s.2) (ht : TieOk K t.1 t.2) : lessT s t = true ↔ ix s < ix t := idx_less hs ht hK
theorem srt_ins {K : Int} (hK : K ≤ 8) {t : Int × Int} (ht : TieOk K t.1 t.2) {ts : List (Int × Int)} (h : Srt K ts) (hn : t ∉ ts) : Srt K (ins t ts) := by
  refine ⟨fun x hx => ?_, ?_⟩
  · rcases (mem_ins t x ts).1 hx with rfl | e
    · exact ht
    · exact h.1 x e
  · obtain ⟨ha, hp⟩ := h
    induction ts with
    | nil => simp [ins]
    | cons y r ih =>
      have hy := ha y (by simp)
      have hp' := List.pairwise_cons.1 hp
      unfold ins
      by_cases hl : lessT t y = true
      · rw [if_pos hl]
        have hlt := (lessT_iff hK ht hy).1 hl
        refine List.pairwise_cons.2 ⟨fun z hz => ?_, hp⟩
        rcases List.mem_cons.1 hz with rfl | e
        · exact hlt
        · exact Nat.lt_trans hlt (hp'.1 z e)
      · rw [if_neg hl]
        refine List.pairwise_cons.2 ⟨fun z hz => ?_, ih (fun e => hn (by simp [e])) (fun x hx => ha x (by simp [hx])) hp'.2⟩
        rcases (mem_ins t z r).1 hz with rfl | e
        · have h1 : ¬ ix z < ix y := fun h => hl ((lessT_iff hK ht hy).2 h)
          have h2 : ix z ≠ ix y := fun e => hn (by simp [ix_inj hK ht hy e])
          omega
        · exact hp'.1 z e
theorem bits_ins {m : Nat} {ts : List (Int × Int)} (h : BitsOf m ts) (t : Int × Int) : BitsOf (m ||| 2 ^ ix t) (ins t ts) := by
  intro j
  rw [Nat.testBit_or, Bool.or_eq_true, h j, Nat.testBit_two_pow, decide_eq_true_eq]
  constructor
  · rintro (⟨x, hx, e⟩ | e)
    · exact ⟨x, (mem_ins t x ts).2 (Or.inr hx), e⟩
    · exact ⟨t, (mem_ins t t ts).2 (Or.inl rfl), e⟩
  · rintro ⟨x, hx, e⟩
    rcases (mem_ins t x ts).1 hx with rfl | hx'
    · exact Or.inr e
    · exact Or.inl ⟨x, hx', e⟩

/-! striking -/
theorem srt_filter {K : Int} {ts : List (Int × Int)} (h : Srt K ts) (p : Int × Int → Bool) : Srt K (ts.filter p) :=
  ⟨fun x hx => h.1 x (List.mem_filter.1 hx).1, h.2.filter p⟩
theorem filter_succ (p : Int × Int → Bool) (ts : List (Int × Int)) (k : Nat) (h : k < ts.length) : (ts.take (k + 1)).filter p = (ts.take k).filter p ++ if p ts[k] = true then [ts[k]] else [] := by
  rw [List.take_succ_eq_append_getElem h, List.filter_append]
  by_cases e : p ts[k] = true
  · simp [e]
  · simp [e]

/-! the lowest bit -/
theorem low_form {m c : Nat} (h0 : ∀ j, j < c → m.testBit j = false) (h1 : m.testBit c = true) : m = 2 ^ (c + 1) * (m / 2 ^ (c + 1)) + 2 ^ c := by
  apply Nat.eq_of_testBit_eq
  intro j
  rw [Nat.testBit_two_pow_mul_add _ (Nat.pow_lt_pow_right (by omega) (by omega)), Nat.testBit_two_pow, Nat.testBit_div_two_pow]
  by_cases hj : j < c + 1
  · rw [if_pos hj]
    by_cases e : c = j
    · subst e; simp [h1]
    · rw [h0 j (by omega)]; simp [e]
  · rw [if_neg hj]
    congr 1; omega
theorem low_pred (c q j : Nat) : (2 ^ (c + 1) * q + 2 ^ c - 1).testBit j = if j < c + 1 then decide (j < c) else q.testBit (j - (c + 1)) := by
  have e : 2 ^ (c + 1) * q + 2 ^ c - 1 = 2 ^ (c + 1) * q + (2 ^ c - 1) := by have := Nat.two_pow_pos c; omega
  rw [e, Nat.testBit_two_pow_mul_add _ (by have := Nat.two_pow_pos c; have : 2 ^ (c + 1) = 2 * 2 ^ c := by rw [Nat.pow_succ]; omega
                                           omega)]
  split
  · rw [Nat.testBit_two_pow_sub_one]
  · rfl
/-- the rest of the bits, without the lowest -/
theorem low_strike {m c : Nat} (h0 : ∀ j, j < c → m.testBit j = false) (h1 : m.testBit c = true) (j : Nat) : (m &&& (m - 1)).testBit j = (m.testBit j && decide (j ≠ c)) := by
  have hf := low_form h0 h1
  generalize m / 2 ^ (c + 1) = q at hf
  rw [Nat.testBit_and]
  have hp := low_pred c q j
  rw [← hf] at hp
  rw [hp]
  by_cases hj : j < c + 1
  · rw [if_pos hj]
    by_cases e : j = c
    · subst e; simp
    · rw [h0 j (by omega)]; simp
  · rw [if_neg hj]
    have : m.testBit j = q.testBit (j - (c + 1)) := by
      rw [hf, Nat.testBit_two_pow_mul_add _ (Nat.pow_lt_pow_right (by omega) (by omega)), if_neg hj]
    rw [this]
    have hne : j ≠ c := by omega
    simp [hne]
/-- a number and what stands against it have the lowest bit in common, and that alone -/
theorem low_only {m c : Nat} (h0 : ∀ j, j < c → m.testBit j = false) (h1 : m.testBit c = true) (hm : m < 2 ^ 64) : m &&& (2 ^ 64 - m) = 2 ^ c := by
  have hpos : 0 < m := by
    rcases Nat.eq_zero_or_pos m with e | e
    · subst e; simp at h1
    · exact e
  apply Nat.eq_of_testBit_eq
  intro j
  rw [Nat.testBit_and, Nat.testBit_two_pow]
  have e : 2 ^ 64 - m = 2 ^ 64 - ((m - 1) + 1) := by omega
  rw [e, Nat.testBit_two_pow_sub_succ (by omega)]
  have hs := low_strike h0 h1 j
  rw [Nat.testBit_and] at hs
  by_cases hj : j = c
  · subst hj
    have hlt : j < 64 := by
      apply Decidable.byContradiction
      intro hc
      have : m.testBit j = false := Nat.testBit_lt_two_pow (Nat.lt_of_lt_of_le hm (Nat.pow_le_pow_right (by omega) (by omega)))
      rw [this] at h1; simp at h1
    rw [h1] at hs ⊢
    simp at hs
    simp [hs, hlt]
  · have hne : ¬ c = j := fun h => hj h.symm
    cases hb : m.testBit j
    · simp [hne]
    · rw [hb] at hs
      simp [hj] at hs
      simp [hs, hne]
def strike (m q : Nat) : Nat := m &&& (18446744073709551615 - q)
theorem strike_lt (m q : Nat) (h : m < 2 ^ 64) : strike m q < 2 ^ 64 := Nat.lt_of_le_of_lt Nat.and_le_left h
theorem strike_bit (m q j : Nat) (hm : m < 2 ^ 64) (hq : q < 2 ^ 64) : (strike m q).testBit j = (m.testBit j && !(q.testBit j)) := by
  unfold strike
  have e : 18446744073709551615 - q = 2 ^ 64 - (q + 1) := by
    have : (2 : Nat) ^ 64 = 18446744073709551616 := by decide
    omega
  rw [Nat.testBit_and, e, Nat.testBit_two_pow_sub_succ hq]
  by_cases h : j < 64
  · simp [h]
  · have : m.testBit j = false := Nat.testBit_lt_two_pow (Nat.lt_of_lt_of_le hm (Nat.pow_le_pow_right (by omega) (by omega)))
    simp [this]

end Go.Proofs.Ytljnjpjnadlmhaa
