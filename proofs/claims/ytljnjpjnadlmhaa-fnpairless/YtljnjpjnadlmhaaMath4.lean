/- Plain mathematics of nets: striking one tie, and all ties of a knot, from the set of bits. -/
import Derived.Test.YtljnjpjnadlmhaaPartWSpecOk
import Derived.Test.YtljnjpjnadlmhaaMath3
namespace Go.Proofs.Ytljnjpjnadlmhaa

def isPair (a b : Int) : Prop := 0 ≤ min a b ∧ min a b < max a b ∧ max a b < 8
theorem pbit_bit (a b : Int) (j : Nat) : (pbit a b).testBit j = true ↔ isPair a b ∧ ix (tieOf a b) = j := by
  by_cases h : isPair a b
  · rw [pbit_yes h.1 h.2.1 h.2.2]
    unfold pb
    rw [Nat.testBit_two_pow, decide_eq_true_eq]
    exact ⟨fun e => ⟨h, e⟩, fun e => e.2⟩
  · rw [pbit_no (by unfold isPair at h; omega)]
    simp [h]
def other (t : Int × Int) (x : Int × Int) : Bool := decide (x ≠ t)
theorem bits_strike {K : Int} (hK : K ≤ 8) {m : Nat} {ts : List (Int × Int)} (hs : ∀ t, t ∈ ts → TieOk K t.1 t.2) (hm : m < 2 ^ 64) (h : BitsOf m ts) (a b : Int) : BitsOf (strike m (pbit a b)) (ts.filter (other (tieOf a b))) := by
  intro j
  rw [strike_bit m _ j hm (pbit_lt a b), Bool.and_eq_true, h j, Bool.not_eq_true', ← Bool.not_eq_true, pbit_bit]
  constructor
  · rintro ⟨⟨x, hx, e⟩, hn⟩
    refine ⟨x, List.mem_filter.2 ⟨hx, ?_⟩, e⟩
    simp only [other, decide_eq_true_eq]
    intro hxe
    apply hn
    obtain ⟨a0, a1, a2⟩ := hs x hx
    rw [hxe] at a0 a1 a2
    unfold tieOf at a0 a1 a2
    simp only at a0 a1 a2
    exact ⟨⟨a0, a1, by omega⟩, by rw [← hxe]; exact e⟩
  · rintro ⟨x, hx, e⟩
    obtain ⟨hx1, hx2⟩ := List.mem_filter.1 hx
    simp only [other, decide_eq_true_eq] at hx2
    refine ⟨⟨x, hx1, e⟩, fun ⟨hp, he⟩ => hx2 ?_⟩
    obtain ⟨a0, a1, a2⟩ := hs x hx1
    have := idx_inj a0 a1 (by omega) hp.1 hp.2.1 hp.2.2 (e.trans he.symm)
    exact Prod.ext this.1 this.2

/-- not tied to k by any of the first i -/
def apartTo (k : Int) (i : Nat) (x : Int × Int) : Bool := (List.range i).all fun o => other (tieOf k (o : Int)) x
theorem apart_succ (k : Int) (i : Nat) (ts : List (Int × Int)) : ts.filter (apartTo k (i + 1)) = (ts.filter (apartTo k i)).filter (other (tieOf k (i : Int))) := by
  rw [List.filter_filter]
  apply List.filter_congr
  intro x _
  simp only [apartTo, List.range_succ, List.all_append, List.all_cons, List.all_nil, Bool.and_true]
  rw [Bool.and_comm]
def notOf (k : Int) (x : Int × Int) : Bool := decide (x.1 ≠ k) && decide (x.2 ≠ k)
theorem apart_all {K : Int} (hK : K ≤ 8) (k : Int) {ts : List (Int × Int)} (hs : ∀ t, t ∈ ts → TieOk K t.1 t.2) : ts.filter (apartTo k 8) = ts.filter (notOf k) := by
  apply List.filter_congr
  intro x hx
  obtain ⟨a0, a1, a2⟩ := hs x hx
  rw [Bool.eq_iff_iff]
  simp only [apartTo, notOf, other, List.all_eq_true, List.mem_range, Bool.and_eq_true, decide_eq_true_eq]
  constructor
  · intro h
    constructor
    · intro e
      apply h x.2.toNat (by omega)
      have : ((x.2.toNat : Nat) : Int) = x.2 := by omega
      rw [this]
      apply Prod.ext
      · show x.1 = min k x.2; omega
      · show x.2 = max k x.2; omega
    · intro e
      apply h x.1.toNat (by omega)
      have : ((x.1.toNat : Nat) : Int) = x.1 := by omega
      rw [this]
      apply Prod.ext
      · show x.1 = min k x.1; omega
      · show x.2 = max k x.1; omega
  · rintro ⟨h1, h2⟩ o _ e
    have e1 : x.1 = min k (o : Int) := congrArg Prod.fst e
    have e2 : x.2 = max k (o : Int) := congrArg Prod.snd e
    omega
theorem filter_len (p : Int × Int → Bool) (ts : List (Int × Int)) : (ts.filter p).length ≤ ts.length := List.length_filter_le p ts

def cutB (K : Int) (ts : List (Int × Int)) (a b : Int) : Bool := hasB K ts a b
def cutK (K : Int) (ts : List (Int × Int)) (a b : Int) : Int := if cutB K ts a b = true then K else 0
def cutTs (K : Int) (ts : List (Int × Int)) (a b : Int) : List (Int × Int) := if cutB K ts a b = true then ts.filter (other (tieOf a b)) else []
theorem has_ok {K : Int} {ts : List (Int × Int)} {a b : Int} (h : hasB K ts a b = true) : okB K ts = true := by
  unfold hasB at h; simp only [Bool.and_eq_true] at h; exact h.1
theorem cutTs_len (K : Int) (ts : List (Int × Int)) (a b : Int) : (cutTs K ts a b).length ≤ 65 := by
  unfold cutTs
  split
  · rename_i h
    have := ok_short (okB_iff.1 (has_ok h))
    have := filter_len (other (tieOf a b)) ts
    omega
  · simp
theorem cut_good {K : Int} {ts : List (Int × Int)} {a b : Int} (h : hasB K ts a b = true) : Srt K (ts.filter (other (tieOf a b))) ∧ K ≤ 8 ∧ BitsOf (strike (setN K ts) (pbit a b)) (ts.filter (other (tieOf a b))) := by
  have hok := has_ok h
  obtain ⟨k0, k8, hs⟩ := ok_parts hok
  refine ⟨srt_filter hs _, k8, bits_strike k8 hs.1 (setN_lt K ts) ?_ a b⟩
  rw [setN_yes hok]; exact mask_bitsOf ts
def outB (K : Int) (ts : List (Int × Int)) (k : Int) : Bool := okB K ts && knotB k K
def outK (K : Int) (ts : List (Int × Int)) (k : Int) : Int := if outB K ts k = true then K else 0
def outTs (K : Int) (ts : List (Int × Int)) (k : Int) : List (Int × Int) := if outB K ts k = true then ts.filter (notOf k) else []
theorem out_ok {K : Int} {ts : List (Int × Int)} {k : Int} (h : outB K ts k = true) : okB K ts = true ∧ knotB k K = true := by
  unfold outB at h; simpa using h
theorem outTs_len (K : Int) (ts : List (Int × Int)) (k : Int) : (outTs K ts k).length ≤ 65 := by
  unfold outTs
  split
  · rename_i h
    have := ok_short (okB_iff.1 (out_ok h).1)
    have := filter_len (notOf k) ts
    omega
  · simp

end Go.Proofs.Ytljnjpjnadlmhaa
