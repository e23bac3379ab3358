/- Texts put together: Math3, WRow, WOwn, WPick. -/
import Derived.Test.YticoiolpofibdaaDoorPart1
import Derived.Deep.AppendLies
import Derived.Laws.BitsLemmas
/- Plain mathematics of nets: ties as a list in order; inserting and striking ties; the bits of such lists. -/
namespace Go.Proofs.YticoiolpofibdaaDoor

def ix (t : Int × Int) : Nat := idx t.1 t.2
/-- ties of a net of K knots, in order, each once -/
def Srt (K : Int) (ts : List (Int × Int)) : Prop := (∀ t, t ∈ ts → TieOk K t.1 t.2) ∧ ts.Pairwise fun a b => ix a < ix b

theorem tA_get (ts : List (Int × Int)) (i : Nat) (h : i < ts.length) : tA ts i = ts[i].1 := by simp [tA, h]
theorem tB_get (ts : List (Int × Int)) (i : Nat) (h : i < ts.length) : tB ts i = ts[i].2 := by simp [tB, h]
theorem ix_get (ts : List (Int × Int)) (i : Nat) (h : i < ts.length) : idx (tA ts i) (tB ts i) = ix ts[i] := by rw [tA_get ts i h, tB_get ts i h]; rfl

theorem Srt.good {K : Int} {ts : List (Int × Int)} (hK : K ≤ 8) (h : Srt K ts) : GoodTo K ts ts.length := by
  intro i hi
  have t1 : TieOk K (tA ts i) (tB ts i) := by rw [tA_get ts i hi, tB_get ts i hi]; exact h.1 _ (List.getElem_mem hi)
  refine ⟨t1, fun h0 => ?_⟩
  have hj : i - 1 < ts.length := by omega
  have t2 : TieOk K (tA ts (i - 1)) (tB ts (i - 1)) := by rw [tA_get ts _ hj, tB_get ts _ hj]; exact h.1 _ (List.getElem_mem hj)
  rw [idx_less t2 t1 hK, ix_get ts _ hj, ix_get ts i hi]
  exact List.pairwise_iff_getElem.1 h.2 (i - 1) i hj hi (by omega)

theorem good_lt {K : Int} {ts : List (Int × Int)} (hK : K ≤ 8) (h : GoodTo K ts ts.length) (i : Nat) : ∀ j, i < j → j < ts.length → idx (tA ts i) (tB ts i) < idx (tA ts j) (tB ts j) := by
  intro j
  induction j with
  | zero => intro h0; omega
  | succ j ih =>
    intro hij hj
    have s := (idx_less (h j (by omega)).1 (h (j + 1) hj).1 hK).1 ((h (j + 1) hj).2 (by omega))
    by_cases e : i = j
    · subst e; exact s
    · have := ih (by omega) (by omega); omega

theorem srt_of_good {K : Int} {ts : List (Int × Int)} (hK : K ≤ 8) (h : GoodTo K ts ts.length) : Srt K ts := by
  constructor
  · intro t ht
    obtain ⟨i, hi, e⟩ := List.mem_iff_getElem.1 ht
    have := (h i hi).1
    rw [tA_get ts i hi, tB_get ts i hi, e] at this
    exact this
  · rw [List.pairwise_iff_getElem]
    intro i j hi hj hij
    have := good_lt hK h i j hij hj
    rwa [ix_get ts i hi, ix_get ts j hj] at this

theorem ok_srt {K : Int} {ts : List (Int × Int)} : NetOk K ts ↔ 0 ≤ K ∧ K ≤ 8 ∧ Srt K ts :=
  ⟨fun h => ⟨h.1, h.2.1, srt_of_good h.2.1 h.2.2⟩, fun h => ⟨h.1, h.2.1, h.2.2.good h.2.1⟩⟩

theorem ix_inj {K : Int} (hK : K ≤ 8) {s t : Int × Int} (hs : TieOk K s.1 s.2) (ht : TieOk K t.1 t.2) (e : ix s = ix t) : s = t := by
  obtain ⟨a, b, c⟩ := hs
  obtain ⟨a', b', c'⟩ := ht
  have := idx_inj a b (by omega) a' b' (by omega) e
  exact Prod.ext this.1 this.2
theorem ix_back {K : Int} (hK : K ≤ 8) {t : Int × Int} (ht : TieOk K t.1 t.2) : ((ix t / 8 : Nat) : Int) = t.1 ∧ ((ix t % 8 : Nat) : Int) = t.2 := by
  obtain ⟨a, b, c⟩ := ht
  unfold ix idx; omega
theorem ix_lt {K : Int} (hK : K ≤ 8) {t : Int × Int} (ht : TieOk K t.1 t.2) : ix t < 64 := idx_lt ht hK

theorem mem_get {ts : List (Int × Int)} {j : Nat} : (∃ i, i < ts.length ∧ idx (tA ts i) (tB ts i) = j) ↔ ∃ t, t ∈ ts ∧ ix t = j := by
  constructor
  · rintro ⟨i, hi, e⟩
    exact ⟨ts[i], List.getElem_mem hi, by rw [← ix_get ts i hi]; exact e⟩
  · rintro ⟨t, ht, e⟩
    obtain ⟨i, hi, rfl⟩ := List.mem_iff_getElem.1 ht
    exact ⟨i, hi, by rw [ix_get ts i hi]; exact e⟩

/-- the bits of m are just those of the ties ts -/
def BitsOf (m : Nat) (ts : List (Int × Int)) : Prop := ∀ j, m.testBit j = true ↔ ∃ t, t ∈ ts ∧ ix t = j
theorem mask_bitsOf (ts : List (Int × Int)) : BitsOf (maskN ts ts.length) ts := fun j => by rw [mask_bit, mem_get]

theorem tied_mem {ts : List (Int × Int)} {a b : Int} : tiedB ts a b = true ↔ (a, b) ∈ ts := by
  rw [tiedB_iff]
  constructor
  · rintro ⟨i, hi, ea, eb⟩
    rw [tA_get ts i hi] at ea
    rw [tB_get ts i hi] at eb
    rw [← ea, ← eb]
    exact List.getElem_mem hi
  · intro h
    obtain ⟨i, hi, e⟩ := List.mem_iff_getElem.1 h
    exact ⟨i, hi, by rw [tA_get ts i hi, e], by rw [tB_get ts i hi, e]⟩

/-! inserting -/
def lessT (s t : Int × Int) : Bool := lessB s.1 s.2 t.1 t.2
def ins (t : Int × Int) : List (Int × Int) → List (Int × Int)
  | [] => [t]
  | x :: r => if lessT t x = true then t :: x :: r else x :: ins t r
def insStep (t : Int × Int) (s : List (Int × Int) × Bool) (x : Int × Int) : List (Int × Int) × Bool :=
  if s.2 = false ∧ lessT t x = true then (s.1 ++ [t, x], true) else (s.1 ++ [x], s.2)
def insEnd (t : Int × Int) (s : List (Int × Int) × Bool) : List (Int × Int) := if s.2 = true then s.1 else s.1 ++ [t]
/-- what the model has behind k rounds -/
def insTo (t : Int × Int) (ts : List (Int × Int)) (k : Nat) : List (Int × Int) × Bool := (ts.take k).foldl (insStep t) ([], false)

theorem ins_done (t : Int × Int) : ∀ (r o : List (Int × Int)), r.foldl (insStep t) (o, true) = (o ++ r, true) := by
  intro r
  induction r with
  | nil => intro o; simp
  | cons x r ih => intro o; rw [List.foldl_cons]; simp only [insStep, Bool.true_eq_false, false_and, if_false]; rw [ih]; simp
theorem ins_fold (t : Int × Int) : ∀ (r o : List (Int × Int)), insEnd t (r.foldl (insStep t) (o, false)) = o ++ ins t r := by
  intro r
  induction r with
  | nil => intro o; simp [insEnd, ins]
  | cons x r ih =>
    intro o
    rw [List.foldl_cons]
    by_cases h : lessT t x = true
    · simp only [insStep, h, and_self, if_true, ins]
      rw [ins_done]; simp [insEnd]
    · simp only [insStep, h, and_false, if_false, ins, Bool.false_eq_true]
      rw [ih]; simp
theorem insTo_end (t : Int × Int) (ts : List (Int × Int)) : insEnd t (insTo t ts ts.length) = ins t ts := by
  unfold insTo; rw [List.take_length, ins_fold]; simp
theorem insTo_succ (t : Int × Int) (ts : List (Int × Int)) (k : Nat) (h : k < ts.length) : insTo t ts (k + 1) = insStep t (insTo t ts k) ts[k] := by
  unfold insTo; rw [List.take_succ_eq_append_getElem h, List.foldl_append]; rfl
theorem insTo_len (t : Int × Int) (ts : List (Int × Int)) : ∀ k, k ≤ ts.length → (insTo t ts k).1.length ≤ k + 1 := by
  have hd : ∀ k, k ≤ ts.length → (insTo t ts k).1.length = k + (if (insTo t ts k).2 = true then 1 else 0) := by
    intro k
    induction k with
    | zero => intro _; simp [insTo]
    | succ k ih =>
      intro hk
      have := ih (by omega)
      rw [insTo_succ t ts k (by omega)]
      unfold insStep
      cases hb : (insTo t ts k).2 <;> simp only [hb] at this ⊢
      · by_cases hl : lessT t ts[k] = true
        · simp [hl]; simp at this; omega
        · simp [hl]; simpa using this
      · simp; simp at this; omega
  intro k hk
  rw [hd k hk]; split <;> omega

theorem mem_ins (t x : Int × Int) (ts : List (Int × Int)) : x ∈ ins t ts ↔ x = t ∨ x ∈ ts := by
  induction ts with
  | nil => simp [ins]
  | cons y r ih =>
    unfold ins
    by_cases h : lessT t y = true
    · rw [if_pos h]; simp
    · rw [if_neg h]; simp only [List.mem_cons, ih]
      constructor
      · rintro (a | a | a)
        · exact Or.inr (Or.inl a)
        · exact Or.inl a
        · exact Or.inr (Or.inr a)
      · rintro (a | a | a)
        · exact Or.inr (Or.inl a)
        · exact Or.inl a
        · exact Or.inr (Or.inr a)
theorem ins_length (t : Int × Int) (ts : List (Int × Int)) : (ins t ts).length = ts.length + 1 := by
  induction ts with
  | nil => rfl
  | cons y r ih => unfold ins; split <;> simp [ih]
theorem lessT_iff {K : Int} (hK : K ≤ 8) {s t : Int × Int} (hs : TieOk K s.1 s.2) (ht : TieOk K t.1 t.2) : lessT s t = true ↔ ix s < ix t := idx_less hs ht hK
theorem srt_ins {K : Int} (hK : K ≤ 8) {t : Int × Int} (ht : TieOk K t.1 t.2) {ts : List (Int × Int)} (h : Srt K ts) (hn : t ∉ ts) : Srt K (ins t ts) := by
  refine ⟨fun x hx => ?_, ?_⟩
  · rcases (mem_ins t x ts).1 hx with rfl | e
    · exact ht
    · exact h.1 x e
  · obtain ⟨ha, hp⟩ := h
    induction ts with
    | nil => simp [ins]
    | cons y r ih =>
      have hy := ha y (by simp)
      have hp' := List.pairwise_cons.1 hp
      unfold ins
      by_cases hl : lessT t y = true
      · rw [if_pos hl]
        have hlt := (lessT_iff hK ht hy).1 hl
        refine List.pairwise_cons.2 ⟨fun z hz => ?_, hp⟩
        rcases List.mem_cons.1 hz with rfl | e
        · exact hlt
        · exact Nat.lt_trans hlt (hp'.1 z e)
      · rw [if_neg hl]
        refine List.pairwise_cons.2 ⟨fun z hz => ?_, ih (fun e => hn (by simp [e])) (fun x hx => ha x (by simp [hx])) hp'.2⟩
        rcases (mem_ins t z r).1 hz with rfl | e
        · have h1 : ¬ ix z < ix y := fun h => hl ((lessT_iff hK ht hy).2 h)
          have h2 : ix z ≠ ix y := fun e => hn (by simp [ix_inj hK ht hy e])
          omega
        · exact hp'.1 z e
theorem bits_ins {m : Nat} {ts : List (Int × Int)} (h : BitsOf m ts) (t : Int × Int) : BitsOf (m ||| 2 ^ ix t) (ins t ts) := by
  intro j
  rw [Nat.testBit_or, Bool.or_eq_true, h j, Nat.testBit_two_pow, decide_eq_true_eq]
  constructor
  · rintro (⟨x, hx, e⟩ | e)
    · exact ⟨x, (mem_ins t x ts).2 (Or.inr hx), e⟩
    · exact ⟨t, (mem_ins t t ts).2 (Or.inl rfl), e⟩
  · rintro ⟨x, hx, e⟩
    rcases (mem_ins t x ts).1 hx with rfl | hx'
    · exact Or.inr e
    · exact Or.inl ⟨x, hx', e⟩

/-! striking -/
theorem srt_filter {K : Int} {ts : List (Int × Int)} (h : Srt K ts) (p : Int × Int → Bool) : Srt K (ts.filter p) :=
  ⟨fun x hx => h.1 x (List.mem_filter.1 hx).1, h.2.filter p⟩
theorem filter_succ (p : Int × Int → Bool) (ts : List (Int × Int)) (k : Nat) (h : k < ts.length) : (ts.take (k + 1)).filter p = (ts.take k).filter p ++ if p ts[k] = true then [ts[k]] else [] := by
  rw [List.take_succ_eq_append_getElem h, List.filter_append]
  by_cases e : p ts[k] = true
  · simp [e]
  · simp [e]

/-! the lowest bit -/
theorem low_form {m c : Nat} (h0 : ∀ j, j < c → m.testBit j = false) (h1 : m.testBit c = true) : m = 2 ^ (c + 1) * (m / 2 ^ (c + 1)) + 2 ^ c := by
  apply Nat.eq_of_testBit_eq
  intro j
  rw [Nat.testBit_two_pow_mul_add _ (Nat.pow_lt_pow_right (by omega) (by omega)), Nat.testBit_two_pow, Nat.testBit_div_two_pow]
  by_cases hj : j < c + 1
  · rw [if_pos hj]
    by_cases e : c = j
    · subst e; simp [h1]
    · rw [h0 j (by omega)]; simp [e]
  · rw [if_neg hj]
    congr 1; omega
theorem low_pred (c q j : Nat) : (2 ^ (c + 1) * q + 2 ^ c - 1).testBit j = if j < c + 1 then decide (j < c) else q.testBit (j - (c + 1)) := by
  have e : 2 ^ (c + 1) * q + 2 ^ c - 1 = 2 ^ (c + 1) * q + (2 ^ c - 1) := by have := Nat.two_pow_pos c; omega
  rw [e, Nat.testBit_two_pow_mul_add _ (by have := Nat.two_pow_pos c; have : 2 ^ (c + 1) = 2 * 2 ^ c := by rw [Nat.pow_succ]; omega
                                           omega)]
  split
  · rw [Nat.testBit_two_pow_sub_one]
  · rfl
/-- the rest of the bits, without the lowest -/
theorem low_strike {m c : Nat} (h0 : ∀ j, j < c → m.testBit j = false) (h1 : m.testBit c = true) (j : Nat) : (m &&& (m - 1)).testBit j = (m.testBit j && decide (j ≠ c)) := by
  have hf := low_form h0 h1
  generalize m / 2 ^ (c + 1) = q at hf
  rw [Nat.testBit_and]
  have hp := low_pred c q j
  rw [← hf] at hp
  rw [hp]
  by_cases hj : j < c + 1
  · rw [if_pos hj]
    by_cases e : j = c
    · subst e; simp
    · rw [h0 j (by omega)]; simp
  · rw [if_neg hj]
    have : m.testBit j = q.testBit (j - (c + 1)) := by
      rw [hf, Nat.testBit_two_pow_mul_add _ (Nat.pow_lt_pow_right (by omega) (by omega)), if_neg hj]
    rw [this]
    have hne : j ≠ c := by omega
    simp [hne]
/-- a number and what stands against it have the lowest bit in common, and that alone -/
theorem low_only {m c : Nat} (h0 : ∀ j, j < c → m.testBit j = false) (h1 : m.testBit c = true) (hm : m < 2 ^ 64) : m &&& (2 ^ 64 - m) = 2 ^ c := by
  have hpos : 0 < m := by
    rcases Nat.eq_zero_or_pos m with e | e
    · subst e; simp at h1
    · exact e
  apply Nat.eq_of_testBit_eq
  intro j
  rw [Nat.testBit_and, Nat.testBit_two_pow]
  have e : 2 ^ 64 - m = 2 ^ 64 - ((m - 1) + 1) := by omega
  rw [e, Nat.testBit_two_pow_sub_succ (by omega)]
  have hs := low_strike h0 h1 j
  rw [Nat.testBit_and] at hs
  by_cases hj : j = c
  · subst hj
    have hlt : j < 64 := by
      apply Decidable.byContradiction
      intro hc
      have : m.testBit j = false := Nat.testBit_lt_two_pow (Nat.lt_of_lt_of_le hm (Nat.pow_le_pow_right (by omega) (by omega)))
      rw [this] at h1; simp at h1
    rw [h1] at hs ⊢
    simp at hs
    simp [hs, hlt]
  · have hne : ¬ c = j := fun h => hj h.symm
    cases hb : m.testBit j
    · simp [hne]
    · rw [hb] at hs
      simp [hj] at hs
      simp [hs, hne]
def strike (m q : Nat) : Nat := m &&& (18446744073709551615 - q)
theorem strike_lt (m q : Nat) (h : m < 2 ^ 64) : strike m q < 2 ^ 64 := Nat.lt_of_le_of_lt Nat.and_le_left h
theorem strike_bit (m q j : Nat) (hm : m < 2 ^ 64) (hq : q < 2 ^ 64) : (strike m q).testBit j = (m.testBit j && !(q.testBit j)) := by
  unfold strike
  have e : 18446744073709551615 - q = 2 ^ 64 - (q + 1) := by
    have : (2 : Nat) ^ 64 = 18446744073709551616 := by decide
    omega
  rw [Nat.testBit_and, e, Nat.testBit_two_pow_sub_succ hq]
  by_cases h : j < 64
  · simp [h]
  · have : m.testBit j = false := Nat.testBit_lt_two_pow (Nat.lt_of_lt_of_le hm (Nat.pow_le_pow_right (by omega) (by omega)))
    simp [this]

end Go.Proofs.YticoiolpofibdaaDoor

/- Rows of ties that a call owns. -/
namespace Go.Proofs.YticoiolpofibdaaDoor
open Go.RowKit
set_option linter.unusedVariables false

theorem hideP {p : Prop} (h : p) : Hid p := h
/-- the cells of the first k ties -/
def clist (ts : List (Int × Int)) (k : Nat) : List Value := (List.range (k * 2)).map (tcell ts)
theorem clist_succ (ts : List (Int × Int)) (k : Nat) : clist ts (k + 1) = clist ts k ++ [.int .i64 (tA ts k), .int .i64 (tB ts k)] := by
  unfold clist
  rw [show (k + 1) * 2 = k * 2 + 1 + 1 by omega, List.range_succ, List.range_succ]
  simp [tcell0, tcell1]
theorem clist_length (ts : List (Int × Int)) (k : Nat) : (clist ts k).length = k * 2 := by simp [clist]
theorem clist_get (ts : List (Int × Int)) (k j : Nat) (h : j < k * 2) : (clist ts k)[j]? = some (tcell ts j) := by simp [clist, h]
theorem own_ge {w : World} {base : Nat} {e : TypeId} {size : Nat} {v : Value} {n : Nat} {xs : List Value} (h : w.ownsRow base e size v n xs) : ∀ k, v.ownBlock = some k → base ≤ k := by
  intro k hk
  rcases h.2 with ⟨rfl, _⟩ | ⟨g, cap, cur, rfl, hg, _⟩
  · simp [Value.ownBlock] at hk
  · simp [Value.ownBlock] at hk; omega
theorem own_base {w : World} {base base' : Nat} {e : TypeId} {size : Nat} {v : Value} {n : Nat} {xs : List Value} (h : w.ownsRow base e size v n xs) (hb : base' ≤ base) : w.ownsRow base' e size v n xs := by
  refine ⟨h.1, ?_⟩
  rcases h.2 with h1 | ⟨g, cap, cur, h1, h2, h3⟩
  · exact Or.inl h1
  · exact Or.inr ⟨g, cap, cur, h1, Nat.le_trans hb h2, h3⟩
theorem own_slice {w : World} {base : Nat} {e : TypeId} {size : Nat} {v : Value} {n : Nat} {xs : List Value} (h : w.ownsRow base e size v n xs) : ∃ ao cap, v = .slice ao n cap := by
  rcases h.2 with ⟨rfl, rfl⟩ | ⟨g, cap, cur, rfl, _⟩
  · exact ⟨none, 0, rfl⟩
  · exact ⟨_, cap, rfl⟩

end Go.Proofs.YticoiolpofibdaaDoor

/- A slice of ties of the call's own, wherever it lies; what turns where it is written. -/
namespace Go.Proofs.YticoiolpofibdaaDoor
open Go.RowKit
set_option linter.unusedVariables false

/-- a slice of n ties, nil where n is 0, or a row of its own in a block from lo to below hi, f j at cell j -/
def OwnN (w : World) (lo hi : Nat) (ao : Option Addr) (n : Nat) (f : Nat → Value) : Prop :=
  (n = 0 ∧ ao = none) ∨ ∃ g, ao = some ⟨g, 0, none⟩ ∧ lo ≤ g ∧ g < hi ∧ OwnT w g n f
theorem OwnN.of_row {w : World} {base n cap : Nat} {ao : Option Addr} {ts : List (Int × Int)} (h : w.ownsRow base 35 2 (.slice ao n cap) n (clist ts n)) : OwnN w base w.heap.size ao n (tcell ts) := by
  rcases h.2 with ⟨e, e0⟩ | ⟨g, cap', cur, e, hg, hh, rest⟩
  · simp only [Value.slice.injEq] at e
    exact Or.inl ⟨e0, e.1⟩
  · simp only [Value.slice.injEq] at e
    obtain ⟨rfl, _, rfl⟩ := e
    have hlt : g < w.heap.size := (Array.getElem?_eq_some_iff.1 hh).1
    exact Or.inr ⟨g, rfl, hg, hlt, fun j hj => by rw [h.cellAt j hj, clist_get ts n j hj], fun j => h.frozenAt j, hlt⟩
theorem OwnN.of_T {w : World} {lo hi g n : Nat} {f : Nat → Value} (h : OwnT w g n f) (h1 : lo ≤ g) (h2 : g < hi) : OwnN w lo hi (some ⟨g, 0, none⟩) n f := Or.inr ⟨g, rfl, h1, h2, h⟩
theorem OwnN.next {w w' : World} {lo hi n : Nat} {ao : Option Addr} {f : Nat → Value} (h : OwnN w lo hi ao n f) (hb : Below w.heap.size w w') : OwnN w' lo hi ao n f := by
  rcases h with h | ⟨g, e, h1, h2, h3⟩
  · exact Or.inl h
  · exact Or.inr ⟨g, e, h1, h2, h3.below hb h3.2.2⟩
theorem OwnT.of_block {w w' : World} {g n : Nat} {f : Nat → Value} (h : OwnT w g n f) (e : w'.heap[g]? = w.heap[g]?) (hs : w.heap.size ≤ w'.heap.size) : OwnT w' g n f :=
  ⟨fun j hj => (World.cell?_of_block (a := ⟨g, j, none⟩) e).trans (h.1 j hj), fun j => (World.frozen?_of_block (a := ⟨g, j, none⟩) e).trans (h.2.1 j), Nat.lt_of_lt_of_le h.2.2 hs⟩
/-- blocks from lo to below hi may have turned, and others came; nothing else -/
structure Turned (lo hi : Nat) (w w' : World) : Prop where
  os : w'.os = w.os
  tape : w'.tape = w.tape
  output : w'.output = w.output
  size : w.heap.size ≤ w'.heap.size
  block : ∀ k, k < w.heap.size → k < lo ∨ hi ≤ k → w'.heap[k]? = w.heap[k]?
theorem Turned.refl (lo hi : Nat) (w : World) : Turned lo hi w w := ⟨rfl, rfl, rfl, Nat.le_refl _, fun _ _ _ => rfl⟩
theorem Turned.of_grown {lo hi r : Nat} {w w' : World} (h : w.grownBy w' (some r)) (h1 : lo ≤ r) (h2 : r < hi) : Turned lo hi w w' := ⟨h.os, h.tape, h.output, h.size, fun k hk ho => h.block k hk (by simp; omega)⟩
theorem Turned.cell {lo hi : Nat} {w w' : World} (h : Turned lo hi w w') {p : Addr} (hp : p.block < w.heap.size) (ho : p.block < lo ∨ hi ≤ p.block) : w'.cell? p = w.cell? p := World.cell?_of_block (h.block p.block hp ho)
theorem OwnN.aside {w w' : World} {lo hi l h n : Nat} {ao : Option Addr} {f : Nat → Value} (ho : OwnN w lo hi ao n f) (ht : Turned l h w w') (hr : hi ≤ l ∨ h ≤ lo) : OwnN w' lo hi ao n f := by
  rcases ho with ho | ⟨g, e, h1, h2, h3⟩
  · exact Or.inl ho
  · exact Or.inr ⟨g, e, h1, h2, h3.of_block (ht.block g h3.2.2 (by omega)) ht.size⟩
theorem OwnN.ties {w : World} {lo hi : Nat} {ao : Option Addr} {ts : List (Int × Int)} (h : OwnN w lo hi ao ts.length (tcell ts)) {B : Nat} (hB : hi ≤ B) : TiesIn w B ao ts := by
  rcases h with ⟨h, _⟩ | ⟨g, rfl, h1, h2, h3⟩
  · intro i hi; omega
  · exact h3.ties (by omega)

end Go.Proofs.YticoiolpofibdaaDoor

/- Walk of (*l6Rd).pick: it answers a number from 0 to below n, and counts on. -/
namespace Go.Proofs.YticoiolpofibdaaDoor
open Go.RowKit
set_option linter.unusedVariables false

/-- a reader at block R: its bytes, and how many it has taken -/
structure Rdr (w : World) (R : Nat) (bo : Option Addr) (bn bcap : Nat) (p : Nat) : Prop where
  c0 : w.cell? ⟨R, 0, none⟩ = some (.slice bo bn bcap)
  c1 : w.cell? ⟨R, 1, none⟩ = some (.int .i64 (p : Int))
  f1 : w.frozen? ⟨R, 1, none⟩ = false
  lt : R < w.heap.size
  short : bn ≤ 2000
  bytes : ∀ i, i < bn → ∃ b off v, bo = some ⟨b, off, none⟩ ∧ b < R ∧ w.cell? ⟨b, off + i, none⟩ = some (.int .u8 v) ∧ 0 ≤ v ∧ v ≤ 255
theorem Rdr.next {w w' : World} {R : Nat} {bo : Option Addr} {bn bcap p : Nat} (h : Rdr w R bo bn bcap p) (hb : Below w.heap.size w w') : Rdr w' R bo bn bcap p :=
  ⟨(hb.cell (p := ⟨R, 0, none⟩) h.lt).trans h.c0, (hb.cell (p := ⟨R, 1, none⟩) h.lt).trans h.c1, (hb.frozen (p := ⟨R, 1, none⟩) h.lt).trans h.f1, Nat.lt_of_lt_of_le h.lt hb.size, h.short, fun i hi => by
    obtain ⟨b, off, v, e, h1, h3, h4⟩ := h.bytes i hi
    exact ⟨b, off, v, e, h1, (hb.cell (p := ⟨b, off + i, none⟩) (Nat.lt_trans h1 h.lt)).trans h3, h4⟩⟩
theorem Rdr.count {w : World} {R : Nat} {bo : Option Addr} {bn bcap p : Nat} (h : Rdr w R bo bn bcap p) : Rdr (w.setCell ⟨R, 1, none⟩ (.int .i64 ((p : Int) + 1))) R bo bn bcap (p + 1) := by
  refine ⟨?_, ?_, ?_, by simpa [World.setCell] using h.lt, h.short, fun i hi => ?_⟩
  · rw [World.cell?_setCell_other _ _ _ _ (by simp)]; exact h.c0
  · rw [World.cell?_setCell_same w ⟨R, 1, none⟩ _ h.c1]; simp
  · rw [World.frozen?_setCell]; exact h.f1
  · obtain ⟨b, off, v, e, h1, h3, h4⟩ := h.bytes i hi
    exact ⟨b, off, v, e, h1, by rw [World.cell?_setCell_other _ _ _ _ (by simp only [ne_eq, Addr.mk.injEq, not_and]; intro e; omega)]; exact h3, h4⟩
theorem Turned.count (w : World) (R : Nat) (u : Value) : Turned R (R + 1) w (w.setCell ⟨R, 1, none⟩ u) :=
  ⟨rfl, rfl, rfl, by simp [World.setCell], fun k hk ho => Below.heap_setCell w ⟨R, 1, none⟩ u k (by show k ≠ R; omega)⟩
theorem Turned.drewN {lo hi : Nat} {w w' : World} (h : Turned lo hi w w') (n : Nat) : Turned lo hi w (w'.drewN n) := ⟨h.os, h.tape, h.output, h.size, h.block⟩
theorem mod_in {x n : Int} (hn : 1 ≤ n) : 0 ≤ x % n ∧ x % n < n := by
  exact ⟨Int.emod_nonneg _ (by omega), Int.emod_lt_of_pos _ (by omega)⟩

theorem xor_nat (a b : Nat) (ha : a < 2 ^ 62) (hb : b < 2 ^ 62) : bits .xor .i64 (a : Int) (b : Int) = ((a ^^^ b : Nat) : Int) := by
  have hx : a ^^^ b < 2 ^ 62 := Nat.xor_lt_two_pow ha hb
  have h1 : (BitVec.ofInt 64 (a : Int)).toNat = a := by
    rw [BitVec.ofInt_natCast, BitVec.toNat_ofNat]; exact Nat.mod_eq_of_lt (by omega)
  have h2 : (BitVec.ofInt 64 (b : Int)).toNat = b := by
    rw [BitVec.ofInt_natCast, BitVec.toNat_ofNat]; exact Nat.mod_eq_of_lt (by omega)
  show IntKind.i64.wrap ((BitVec.ofInt 64 (a : Int) ^^^ BitVec.ofInt 64 (b : Int)).toNat : Int) = _
  rw [BitVec.toNat_xor, h1, h2, IntKind.wrap_i64]
  omega
theorem xor_in (x : Int) (h0 : 0 ≤ x) (h1 : x < 1000000000) : 0 ≤ bits .xor .i64 x (x / 64) ∧ bits .xor .i64 x (x / 64) < 4611686018427387904 := by
  obtain ⟨a, rfl⟩ := Int.eq_ofNat_of_zero_le h0
  have ha : a < 2 ^ 62 := by omega
  have hb : a / 64 < 2 ^ 62 := by omega
  have e : ((a : Int) / 64) = ((a / 64 : Nat) : Int) := by omega
  rw [e, xor_nat a (a / 64) ha hb]
  have hx : a ^^^ a / 64 < 2 ^ 62 := Nat.xor_lt_two_pow ha hb
  omega

set_option maxHeartbeats 1600000 in
theorem pick_any (R : Nat) (bo : Option Addr) (bn bcap p : Nat) (n : Int) (w : World) (h : Rdr w R bo bn bcap p) (hp : p ≤ 1000000) :
    Calls Tryd.prog 52 #[.pointer (some ⟨R, 0, none⟩), .int .i64 n] w fun e w' => ∃ v : Int, e = .returned (.int .i64 v) ∧ 0 ≤ v ∧ (1 ≤ n → v < n) ∧ Rdr w' R bo bn bcap (p + 1) ∧ Turned R (R + 1) w w' := by
  have hc := hideP h.count
  have ht := hideP (Turned.count w R (.int .i64 ((p : Int) + 1)))
  have c0 := h.c0
  have c1 := h.c1
  have f1 := h.f1
  have hlt := h.lt
  have hp0 : (0 : Int) ≤ (p : Int) := by omega
  have hp1 : (p : Int) ≤ 1000000 := by omega
  by_cases hn : n < 1
  · clear h
    go_enter Tryd.func52, Tryd.ntmps52
    go_wp2
    go_ret
    exact ⟨0, rfl, by omega, by omega, hc.out, ht.out⟩
  · have hn1 : 1 ≤ n := by omega
    have hdn : decide (n < 1) = false := by simp; omega
    clear hn
    by_cases hb0 : bn = 0
    · have he : ((bn : Int) == 0) = true := by simp [hb0]
      clear h
      go_enter Tryd.func52, Tryd.ntmps52
      go_wp2
      go_ret
      exact ⟨0, rfl, by omega, by omega, hc.out, ht.out⟩
    · have he : ((bn : Int) == 0) = false := by simp [hb0]
      by_cases hk : p < bn
      · obtain ⟨b, off, v, rfl, h2, h3, h4, h5⟩ := h.bytes p hk
        have h1 : b ≠ R := by omega
        have hk' : (p : Int) < (bn : Int) := by omega
        have hm := mod_in (x := v) hn1
        have hne : ¬ n = 0 := by omega
        have hnb : (n == 0) = false := by simp [hne]
        clear h
        go_enter Tryd.func52, Tryd.ntmps52
        go_wp2
        go_ret
        exact ⟨v % n, rfl, hm.1, fun _ => hm.2, hc.out, ht.out⟩
      · have hbp : 0 < bn := by omega
        have l1 : p % bn < bn := Nat.mod_lt _ hbp
        have l2 : (p * 7 + 3) % bn < bn := Nat.mod_lt _ hbp
        obtain ⟨i1, hi1⟩ : ∃ i1, i1 = p % bn := ⟨_, rfl⟩
        obtain ⟨i2, hi2⟩ : ∃ i2, i2 = (p * 7 + 3) % bn := ⟨_, rfl⟩
        rw [← hi1] at l1
        rw [← hi2] at l2
        obtain ⟨b, off, v, rfl, h2, h3, h4, h5⟩ := h.bytes i1 l1
        obtain ⟨b', off', v', hbo, h2', h3', h4', h5'⟩ := h.bytes i2 l2
        have h1 : b ≠ R := by omega
        simp only [Option.some.injEq, Addr.mk.injEq, and_true] at hbo
        obtain ⟨rfl, rfl⟩ := hbo
        have e1 : (p : Int).tmod (bn : Int) = (i1 : Int) := by rw [hi1]; simp [Int.tmod]
        have e2 : ((p : Int) * 7 + 3).tmod (bn : Int) = (i2 : Int) := by
          rw [hi2, show ((p : Int) * 7 + 3) = ((p * 7 + 3 : Nat) : Int) by omega]; simp [Int.tmod]
        have hnb : (n == 0) = false := by simp; omega
        have hk' : ¬ ((p : Int) < (bn : Int)) := by omega
        have l1' : (i1 : Int) < (bn : Int) := by omega
        have l2' : (i2 : Int) < (bn : Int) := by omega
        have wr1 : IntKind.i64.wrap ((p : Int) * 7) = (p : Int) * 7 := by rw [IntKind.wrap_i64]; omega
        have wr2 : IntKind.i64.wrap ((p : Int) * 7 + 3) = (p : Int) * 7 + 3 := by rw [IntKind.wrap_i64]; omega
        obtain ⟨q, hq⟩ : ∃ q : Int, q = (p : Int) / (bn : Int) := ⟨_, rfl⟩
        have hq0 : 0 ≤ (p : Int) / (bn : Int) := Int.ediv_nonneg (by omega) (by omega)
        have hq1 : (p : Int) / (bn : Int) ≤ 1000000 := Int.le_trans (Int.ediv_le_self _ (by omega)) hp1
        obtain ⟨x, hx⟩ : ∃ x : Int, x = v * 131 + v' * 1117 + (p : Int) * 29 + (p : Int) / (bn : Int) * 53 := ⟨_, rfl⟩
        have hx0 : 0 ≤ x := by rw [hx]; omega
        have hx1 : x < 1000000000 := by rw [hx]; omega
        have hX := xor_in x hx0 hx1
        have HX := hideP hx
        have hm := hideP (mod_in (x := bits .xor .i64 x (x / 64)) hn1)
        clear h hi1 hi2 hq hx
        go_enter Tryd.func52, Tryd.ntmps52
        go_wp2
        go_quiet (fail)
        rw [← HX.out]
        go_wp2
        go_ret
        exact ⟨_, rfl, hm.out.1, fun _ => hm.out.2, hc.out.next (below_drewN (Below.refl _ _) nq), ht.out.drewN nq⟩

end Go.Proofs.YticoiolpofibdaaDoor
