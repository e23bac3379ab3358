/- Plain mathematics of bridges: what is told, held against cutting and counting. No program stands here. -/
import Derived.Test.YtloicmngoaccoaaDoorPartMath
import Derived.Test.YtloicmngoaccoaaDoorMathC
import Derived.Test.YtloicmngoaccoaaDoorMath4
namespace Go.Proofs.YtloicmngoaccoaaDoor
set_option linter.unusedVariables false

/-- bits of pairs of which something is so -/
def BrBits (m : Nat) (br : Nat → Nat → Prop) : Prop := ∀ j, m.testBit j = true ↔ ∃ x y : Nat, x < y ∧ y < 8 ∧ x * 8 + y = j ∧ br x y
theorem BrBits.none : BrBits 0 (fun _ _ => False) := by intro j; simp
theorem BrBits.same {m : Nat} {br br' : Nat → Nat → Prop} (h : BrBits m br) (e : ∀ x y, br x y ↔ br' x y) : BrBits m br' := by
  intro j; rw [h j]
  exact ⟨fun ⟨x, y, h1, h2, h3, h4⟩ => ⟨x, y, h1, h2, h3, (e x y).1 h4⟩, fun ⟨x, y, h1, h2, h3, h4⟩ => ⟨x, y, h1, h2, h3, (e x y).2 h4⟩⟩
theorem BrBits.with {m : Nat} {br : Nat → Nat → Prop} (h : BrBits m br) {a b : Nat} (ha : a < 8) (hb : b < 8) (hab : a ≠ b) : BrBits (m ||| pbit (a : Int) (b : Int)) (fun x y => br x y ∨ ((x = a ∧ y = b) ∨ (x = b ∧ y = a))) := by
  intro j
  rw [Nat.testBit_or, Bool.or_eq_true, h j, pbit_bit]
  constructor
  · rintro (⟨x, y, h1, h2, h3, h4⟩ | ⟨⟨p1, p2, p3⟩, e⟩)
    · exact ⟨x, y, h1, h2, h3, Or.inl h4⟩
    · unfold tieOf ix idx at e
      by_cases hl : a < b
      · exact ⟨a, b, hl, hb, by omega, Or.inr (Or.inl ⟨rfl, rfl⟩)⟩
      · exact ⟨b, a, by omega, ha, by omega, Or.inr (Or.inr ⟨rfl, rfl⟩)⟩
  · rintro ⟨x, y, h1, h2, h3, h4 | (⟨rfl, rfl⟩ | ⟨rfl, rfl⟩)⟩
    · exact Or.inl ⟨x, y, h1, h2, h3, h4⟩
    · right
      refine ⟨⟨by omega, by omega, by omega⟩, ?_⟩
      unfold tieOf ix idx; omega
    · right
      refine ⟨⟨by omega, by omega, by omega⟩, ?_⟩
      unfold tieOf ix idx; omega
/-- a tie is a bridge: with it cut there is one part more -/
def bridgeB (K : Int) (ts : List (Int × Int)) (a b : Int) : Bool := hasB K ts a b && decide (cnt ts K.toNat < cnt (cutTs K ts a b) K.toNat)
def brTs (K : Int) (ts : List (Int × Int)) : List (Int × Int) := if okB K ts = true then ts.filter (fun t => bridgeB K ts t.1 t.2) else []
/-- the ties of a net, either way -/
def EE (ts : List (Int × Int)) (x y : Nat) : Prop := tieNB ts x y = true
theorem tieNB_turn (ts : List (Int × Int)) (x y : Nat) : tieNB ts x y = tieNB ts y x := by unfold tieNB; rw [Int.min_comm, Int.max_comm]
theorem tieNB_mem (ts : List (Int × Int)) (x y : Nat) : tieNB ts x y = true ↔ tieOf (x : Int) (y : Int) ∈ ts := by unfold tieNB; rw [tied_mem]; rfl
theorem EE.gr {K : Int} {ts : List (Int × Int)} (h : NetOk K ts) : Gr (EE ts) := by
  have h8 := h.2.1
  have key : ∀ x y, EE ts x y → x < K.toNat ∧ y < K.toNat ∧ x ≠ y := by
    intro x y hxy
    unfold EE tieNB at hxy
    rw [tiedB_iff] at hxy
    obtain ⟨i, hi, e1, e2⟩ := hxy
    obtain ⟨q1, q2, q3⟩ := (h.2.2 i hi).1
    omega
  refine ⟨fun x y hxy => by unfold EE at *; rw [tieNB_turn]; exact hxy, fun x hx => (key x x hx).2.2 rfl, fun x y hxy => by have := (key x y hxy).1; omega⟩
theorem cn_sym {E E' : Nat → Nat → Prop} (h : ∀ x y, E x y → E' x y ∨ E' y x) {x y : Nat} (hc : Cn E x y) : Cn E' x y := by
  induction hc with
  | refl => exact Cn.refl _
  | fwd _ e ih => rcases h _ _ e with e | e; exact ih.fwd e; exact ih.bwd e
  | bwd _ e ih => rcases h _ _ e with e | e; exact ih.bwd e; exact ih.fwd e
theorem tieOf_nat {a b x y : Nat} : tieOf (x : Int) (y : Int) = tieOf (a : Int) (b : Int) ↔ (x = a ∧ y = b) ∨ (x = b ∧ y = a) := by
  unfold tieOf
  simp only [Prod.mk.injEq]
  omega
/-- two knots hang together without their tie just if they do in the net with that cut -/
theorem nb_cut {K : Int} {ts : List (Int × Int)} {a b : Nat} (hh : hasB K ts (a : Int) (b : Int) = true) : Nb (EE ts) a b ↔ Cn (Tied (cutTs K ts a b) (cutTs K ts a b).length) a b := by
  have hok := has_ok hh
  have hC := cutOut (show cutB K ts (a : Int) (b : Int) = true from hh)
  have e := cutTs_yes (show cutB K ts (a : Int) (b : Int) = true from hh)
  have hco := okB_iff.1 hC.ok
  have mem : ∀ x y : Nat, But (EE ts) a b x y ↔ tieNB (cutTs K ts a b) x y = true := by
    intro x y
    rw [tieNB_mem, e, List.mem_filter]
    unfold But EE
    rw [tieNB_mem]
    have : other (tieOf (a : Int) (b : Int)) (tieOf (x : Int) (y : Int)) = true ↔ ¬ (x = a ∧ y = b) ∧ ¬ (x = b ∧ y = a) := by
      unfold other
      rw [decide_eq_true_eq, ne_eq, tieOf_nat]
      constructor
      · intro h; exact ⟨fun q => h (Or.inl q), fun q => h (Or.inr q)⟩
      · rintro ⟨h1, h2⟩ (q | q)
        · exact h1 q
        · exact h2 q
    rw [this]
  unfold Nb
  constructor
  · exact cn_sym (fun x y h => (tieNB_iff hco).1 ((mem x y).1 h))
  · refine cn_sym (fun x y h => Or.inl ((mem x y).2 ((tieNB_iff hco).2 (Or.inl h))))
theorem cnt_cut {K : Int} {ts : List (Int × Int)} {a b : Int} (hh : hasB K ts a b = true) : cnt ts K.toNat + (if reachB (cutTs K ts a b) b.toNat a.toNat = true then 0 else 1) = cnt (cutTs K ts a b) K.toNat := by
  obtain ⟨h1, h2⟩ := cut_add (show cutB K ts a b = true from hh)
  have := cnt_add h1
  rw [h2] at this
  exact this
theorem bridge_nb {K : Int} {ts : List (Int × Int)} {a b : Nat} (hh : hasB K ts (a : Int) (b : Int) = true) : bridgeB K ts a b = true ↔ ¬ Nb (EE ts) a b := by
  have h1 := cnt_cut hh
  rw [nb_cut hh]
  have h2 : reachB (cutTs K ts a b) (b : Int).toNat (a : Int).toNat = true ↔ Cn (Tied (cutTs K ts a b) (cutTs K ts a b).length) a b := by
    unfold reachB
    rw [decide_eq_true_eq, forest_cn]; simp
  unfold bridgeB
  rw [hh, Bool.true_and, decide_eq_true_eq, ← h2]
  cases e : reachB (cutTs K ts a b) (b : Int).toNat (a : Int).toNat
  · rw [e, if_neg (by simp)] at h1; simp; omega
  · rw [e, if_pos rfl] at h1; simp; omega
theorem bridge_turn (K : Int) (ts : List (Int × Int)) (a b : Int) : bridgeB K ts b a = bridgeB K ts a b := by
  unfold bridgeB cutTs cutB
  rw [hasB_turned, tieOf_turn]
/-- the bits that are told in the end are those of the bridges -/
theorem br_bits {K : Int} {ts : List (Int × Int)} (hok : okB K ts = true) {m : Nat} {br : Nat → Nat → Prop} (hb : BrBits m br) (ha : ∀ x y, br x y ↔ EE ts x y ∧ ¬ Nb (EE ts) x y) : BitsOf m (brTs K ts) := by
  intro j
  rw [hb j]
  have hnet := okB_iff.1 hok
  obtain ⟨k0, k8, hs⟩ := ok_parts hok
  have e : brTs K ts = ts.filter (fun t => bridgeB K ts t.1 t.2) := if_pos hok
  rw [e]
  constructor
  · rintro ⟨x, y, h1, h2, h3, h4⟩
    obtain ⟨q1, q2⟩ := (ha x y).1 h4
    have hm := (tieNB_mem ts x y).1 q1
    have ht : tieOf (x : Int) (y : Int) = ((x : Int), (y : Int)) := by unfold tieOf; rw [Int.min_eq_left (by omega), Int.max_eq_right (by omega)]
    have hh : hasB K ts (x : Int) (y : Int) = true := (hasB_mem hok).2 hm
    refine ⟨((x : Int), (y : Int)), List.mem_filter.2 ⟨ht ▸ hm, (bridge_nb hh).2 q2⟩, ?_⟩
    unfold ix idx; omega
  · rintro ⟨t, ht, rfl⟩
    obtain ⟨h1, h2⟩ := List.mem_filter.1 ht
    obtain ⟨q1, q2, q3⟩ := hs.1 t h1
    have e1 : ((t.1.toNat : Nat) : Int) = t.1 := by omega
    have e2 : ((t.2.toNat : Nat) : Int) = t.2 := by omega
    have hm : tieOf ((t.1.toNat : Nat) : Int) ((t.2.toNat : Nat) : Int) ∈ ts := by
      rw [e1, e2]; unfold tieOf; rw [Int.min_eq_left (by omega), Int.max_eq_right (by omega)]; exact h1
    have hh : hasB K ts ((t.1.toNat : Nat) : Int) ((t.2.toNat : Nat) : Int) = true := (hasB_mem hok).2 hm
    refine ⟨t.1.toNat, t.2.toNat, by omega, by omega, by unfold ix idx; omega, (ha _ _).2 ⟨(tieNB_mem ts _ _).2 hm, (bridge_nb hh).1 ?_⟩⟩
    rw [e1, e2]; exact h2
theorem brTs_ok {K : Int} {ts : List (Int × Int)} (h : okB K ts = true) : okB K (brTs K ts) = true := by
  obtain ⟨k0, k8, hs⟩ := ok_parts h
  rw [show brTs K ts = ts.filter (fun t => bridgeB K ts t.1 t.2) from if_pos h]
  exact ok_of_srt k0 k8 (srt_filter hs _)
theorem brTs_len (K : Int) (ts : List (Int × Int)) : (brTs K ts).length ≤ 64 := by
  cases h : okB K ts
  · rw [show brTs K ts = [] by simp [brTs, h]]; simp
  · exact ok_short (okB_iff.1 (brTs_ok h))
theorem brTs_has {K : Int} {ts : List (Int × Int)} (h : okB K ts = true) (a b : Int) : hasB K (brTs K ts) a b = bridgeB K ts a b := by
  rw [Bool.eq_iff_iff, hasB_mem (brTs_ok h), show brTs K ts = ts.filter (fun t => bridgeB K ts t.1 t.2) from if_pos h, List.mem_filter]
  have e : bridgeB K ts (tieOf a b).1 (tieOf a b).2 = bridgeB K ts a b := by
    unfold tieOf
    by_cases hab : a ≤ b
    · rw [Int.min_eq_left hab, Int.max_eq_right hab]
    · rw [Int.min_eq_right (by omega), Int.max_eq_left (by omega)]; exact bridge_turn K ts a b
  rw [e, ← hasB_mem h]
  constructor
  · exact fun q => q.2
  · intro q
    refine ⟨?_, q⟩
    unfold bridgeB at q
    rw [Bool.and_eq_true] at q
    exact q.1

end Go.Proofs.YtloicmngoaccoaaDoor
