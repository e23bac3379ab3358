/- Texts put together: MathE, MathF, MathG. -/
import Derived.Test.YtljnjpjnadlmhaaPartMath
import Derived.Test.YtljnjpjnadlmhaaPartMathL
import Derived.Test.YtljnjpjnadlmhaaMath4
/- Plain mathematics of bridges: what is told, held against cutting and counting. No program stands here. -/
namespace Go.Proofs.Ytljnjpjnadlmhaa
set_option linter.unusedVariables false

/-- bits of pairs of which something is so -/
def BrBits (m : Nat) (br : Nat → Nat → Prop) : Prop := ∀ j, m.testBit j = true ↔ ∃ x y : Nat, x < y ∧ y < 8 ∧ x * 8 + y = j ∧ br x y
theorem BrBits.none : BrBits 0 (fun _ _ => False) := by intro j; simp
theorem BrBits.same {m : Nat} {br br' : Nat → Nat → Prop} (h : BrBits m br) (e : ∀ x y, br x y ↔ br' x y) : BrBits m br' := by
  intro j; rw [h j]
  exact ⟨fun ⟨x, y, h1, h2, h3, h4⟩ => ⟨x, y, h1, h2, h3, (e x y).1 h4⟩, fun ⟨x, y, h1, h2, h3, h4⟩ => ⟨x, y, h1, h2, h3, (e x y).2 h4⟩⟩
theorem BrBits.with {m : Nat} {br : Nat → Nat → Prop} (h : BrBits m br) {a b : Nat} (ha : a < 8) (hb : b < 8) (hab : a ≠ b) : BrBits (m ||| pbit (a : Int) (b : Int)) (fun x y => br x y ∨ ((x = a ∧ y = b) ∨ (x = b ∧ y = a))) := by
  intro j
  rw [Nat.testBit_or, Bool.or_eq_true, h j, pbit_bit]
  constructor
  · rintro (⟨x, y, h1, h2, h3, h4⟩ | ⟨⟨p1, p2, p3⟩, e⟩)
    · exact ⟨x, y, h1, h2, h3, Or.inl h4⟩
    · unfold tieOf ix idx at e
      by_cases hl : a < b
      · exact ⟨a, b, hl, hb, by omega, Or.inr (Or.inl ⟨rfl, rfl⟩)⟩
      · exact ⟨b, a, by omega, ha, by omega, Or.inr (Or.inr ⟨rfl, rfl⟩)⟩
  · rintro ⟨x, y, h1, h2, h3, h4 | (⟨rfl, rfl⟩ | ⟨rfl, rfl⟩)⟩
    · exact Or.inl ⟨x, y, h1, h2, h3, h4⟩
    · right
      refine ⟨⟨by omega, by omega, by omega⟩, ?_⟩
      unfold tieOf ix idx; omega
    · right
      refine ⟨⟨by omega, by omega, by omega⟩, ?_⟩
      unfold tieOf ix idx; omega
/-- a tie is a bridge: with it cut there is one part more -/
def bridgeB (K : Int) (ts : List (Int × Int)) (a b : Int) : Bool := hasB K ts a b && decide (cnt ts K.toNat < cnt (cutTs K ts a b) K.toNat)
def brTs (K : Int) (ts : List (Int × Int)) : List (Int × Int) := if okB K ts = true then ts.filter (fun t => bridgeB K ts t.1 t.2) else []
/-- the ties of a net, either way -/
def EE (ts : List (Int × Int)) (x y : Nat) : Prop := tieNB ts x y = true
theorem tieNB_turn (ts : List (Int × Int)) (x y : Nat) : tieNB ts x y = tieNB ts y x := by unfold tieNB; rw [Int.min_comm, Int.max_comm]
theorem tieNB_mem (ts : List (Int × Int)) (x y : Nat) : tieNB ts x y = true ↔ tieOf (x : Int) (y : Int) ∈ ts := by unfold tieNB; rw [tied_mem]; rfl
theorem EE.gr {K : Int} {ts : List (Int × Int)} (h : NetOk K ts) : Gr (EE ts) := by
  have h8 := h.2.1
  have key : ∀ x y, EE ts x y → x < K.toNat ∧ y < K.toNat ∧ x ≠ y := by
    intro x y hxy
    unfold EE tieNB at hxy
    rw [tiedB_iff] at hxy
    obtain ⟨i, hi, e1, e2⟩ := hxy
    obtain ⟨q1, q2, q3⟩ := (h.2.2 i hi).1
    omega
  refine ⟨fun x y hxy => by unfold EE at *; rw [tieNB_turn]; exact hxy, fun x hx => (key x x hx).2.2 rfl, fun x y hxy => by have := (key x y hxy).1; omega⟩
theorem cn_sym {E E' : Nat → Nat → Prop} (h : ∀ x y, E x y → E' x y ∨ E' y x) {x y : Nat} (hc : Cn E x y) : Cn E' x y := by
  induction hc with
  | refl => exact Cn.refl _
  | fwd _ e ih => rcases h _ _ e with e | e; exact ih.fwd e; exact ih.bwd e
  | bwd _ e ih => rcases h _ _ e with e | e; exact ih.bwd e; exact ih.fwd e
theorem tieOf_nat {a b x y : Nat} : tieOf (x : Int) (y : Int) = tieOf (a : Int) (b : Int) ↔ (x = a ∧ y = b) ∨ (x = b ∧ y = a) := by
  unfold tieOf
  simp only [Prod.mk.injEq]
  omega
/-- two knots hang together without their tie just if they do in the net with that cut -/
theorem nb_cut {K : Int} {ts : List (Int × Int)} {a b : Nat} (hh : hasB K ts (a : Int) (b : Int) = true) : Nb (EE ts) a b ↔ Cn (Tied (cutTs K ts a b) (cutTs K ts a b).length) a b := by
  have hok := has_ok hh
  have hC := cutOut (show cutB K ts (a : Int) (b : Int) = true from hh)
  have e := cutTs_yes (show cutB K ts (a : Int) (b : Int) = true from hh)
  have hco := okB_iff.1 hC.ok
  have mem : ∀ x y : Nat, But (EE ts) a b x y ↔ tieNB (cutTs K ts a b) x y = true := by
    intro x y
    rw [tieNB_mem, e, List.mem_filter]
    unfold But EE
    rw [tieNB_mem]
    have : other (tieOf (a : Int) (b : Int)) (tieOf (x : Int) (y : Int)) = true ↔ ¬ (x = a ∧ y = b) ∧ ¬ (x = b ∧ y = a) := by
      unfold other
      rw [decide_eq_true_eq, ne_eq, tieOf_nat]
      constructor
      · intro h; exact ⟨fun q => h (Or.inl q), fun q => h (Or.inr q)⟩
      · rintro ⟨h1, h2⟩ (q | q)
        · exact h1 q
        · exact h2 q
    rw [this]
  unfold Nb
  constructor
  · exact cn_sym (fun x y h => (tieNB_iff hco).1 ((mem x y).1 h))
  · refine cn_sym (fun x y h => Or.inl ((mem x y).2 ((tieNB_iff hco).2 (Or.inl h))))
theorem cnt_cut {K : Int} {ts : List (Int × Int)} {a b : Int} (hh : hasB K ts a b = true) : cnt ts K.toNat + (if reachB (cutTs K ts a b) b.toNat a.toNat = true then 0 else 1) = cnt (cutTs K ts a b) K.toNat := by
  obtain ⟨h1, h2⟩ := cut_add (show cutB K ts a b = true from hh)
  have := cnt_add h1
  rw [h2] at this
  exact this
theorem bridge_nb {K : Int} {ts : List (Int × Int)} {a b : Nat} (hh : hasB K ts (a : Int) (b : Int) = true) : bridgeB K ts a b = true ↔ ¬ Nb (EE ts) a b := by
  have h1 := cnt_cut hh
  rw [nb_cut hh]
  have h2 : reachB (cutTs K ts a b) (b : Int).toNat (a : Int).toNat = true ↔ Cn (Tied (cutTs K ts a b) (cutTs K ts a b).length) a b := by
    unfold reachB
    rw [decide_eq_true_eq, forest_cn]; simp
  unfold bridgeB
  rw [hh, Bool.true_and, decide_eq_true_eq, ← h2]
  cases e : reachB (cutTs K ts a b) (b : Int).toNat (a : Int).toNat
  · rw [e, if_neg (by simp)] at h1; simp; omega
  · rw [e, if_pos rfl] at h1; simp; omega
theorem bridge_turn (K : Int) (ts : List (Int × Int)) (a b : Int) : bridgeB K ts b a = bridgeB K ts a b := by
  unfold bridgeB cutTs cutB
  rw [hasB_turned, tieOf_turn]
/-- the bits that are told in the end are those of the bridges -/
theorem br_bits {K : Int} {ts : List (Int × Int)} (hok : okB K ts = true) {m : Nat} {br : Nat → Nat → Prop} (hb : BrBits m br) (ha : ∀ x y, br x y ↔ EE ts x y ∧ ¬ Nb (EE ts) x y) : BitsOf m (brTs K ts) := by
  intro j
  rw [hb j]
  have hnet := okB_iff.1 hok
  obtain ⟨k0, k8, hs⟩ := ok_parts hok
  have e : brTs K ts = ts.filter (fun t => bridgeB K ts t.1 t.2) := if_pos hok
  rw [e]
  constructor
  · rintro ⟨x, y, h1, h2, h3, h4⟩
    obtain ⟨q1, q2⟩ := (ha x y).1 h4
    have hm := (tieNB_mem ts x y).1 q1
    have ht : tieOf (x : Int) (y : Int) = ((x : Int), (y : Int)) := by unfold tieOf; rw [Int.min_eq_left (by omega), Int.max_eq_right (by omega)]
    have hh : hasB K ts (x : Int) (y : Int) = true := (hasB_mem hok).2 hm
    refine ⟨((x : Int), (y : Int)), List.mem_filter.2 ⟨ht ▸ hm, (bridge_nb hh).2 q2⟩, ?_⟩
    unfold ix idx; omega
  · rintro ⟨t, ht, rfl⟩
    obtain ⟨h1, h2⟩ := List.mem_filter.1 ht
    obtain ⟨q1, q2, q3⟩ := hs.1 t h1
    have e1 : ((t.1.toNat : Nat) : Int) = t.1 := by omega
    have e2 : ((t.2.toNat : Nat) : Int) = t.2 := by omega
    have hm : tieOf ((t.1.toNat : Nat) : Int) ((t.2.toNat : Nat) : Int) ∈ ts := by
      rw [e1, e2]; unfold tieOf; rw [Int.min_eq_left (by omega), Int.max_eq_right (by omega)]; exact h1
    have hh : hasB K ts ((t.1.toNat : Nat) : Int) ((t.2.toNat : Nat) : Int) = true := (hasB_mem hok).2 hm
    refine ⟨t.1.toNat, t.2.toNat, by omega, by omega, by unfold ix idx; omega, (ha _ _).2 ⟨(tieNB_mem ts _ _).2 hm, (bridge_nb hh).1 ?_⟩⟩
    rw [e1, e2]; exact h2
theorem brTs_ok {K : Int} {ts : List (Int × Int)} (h : okB K ts = true) : okB K (brTs K ts) = true := by
  obtain ⟨k0, k8, hs⟩ := ok_parts h
  rw [show brTs K ts = ts.filter (fun t => bridgeB K ts t.1 t.2) from if_pos h]
  exact ok_of_srt k0 k8 (srt_filter hs _)
theorem brTs_len (K : Int) (ts : List (Int × Int)) : (brTs K ts).length ≤ 64 := by
  cases h : okB K ts
  · rw [show brTs K ts = [] by simp [brTs, h]]; simp
  · exact ok_short (okB_iff.1 (brTs_ok h))
theorem brTs_has {K : Int} {ts : List (Int × Int)} (h : okB K ts = true) (a b : Int) : hasB K (brTs K ts) a b = bridgeB K ts a b := by
  rw [Bool.eq_iff_iff, hasB_mem (brTs_ok h), show brTs K ts = ts.filter (fun t => bridgeB K ts t.1 t.2) from if_pos h, List.mem_filter]
  have e : bridgeB K ts (tieOf a b).1 (tieOf a b).2 = bridgeB K ts a b := by
    unfold tieOf
    by_cases hab : a ≤ b
    · rw [Int.min_eq_left hab, Int.max_eq_right hab]
    · rw [Int.min_eq_right (by omega), Int.max_eq_left (by omega)]; exact bridge_turn K ts a b
  rw [e, ← hasB_mem h]
  constructor
  · exact fun q => q.2
  · intro q
    refine ⟨?_, q⟩
    unfold bridgeB at q
    rw [Bool.and_eq_true] at q
    exact q.1

end Go.Proofs.Ytljnjpjnadlmhaa

/- Plain mathematics of bridges: a tie more, a bridge less. No program stands here. -/
namespace Go.Proofs.Ytljnjpjnadlmhaa
set_option linter.unusedVariables false

theorem nb_mono {E E' : Nat → Nat → Prop} (h : ∀ x y, E x y → E' x y) {a b : Nat} (hn : Nb E a b) : Nb E' a b :=
  Cn.mono (fun x y q => ⟨h x y q.1, q.2⟩) hn
theorem EE_sub {ts us : List (Int × Int)} (h : ∀ t, t ∈ ts → t ∈ us) (x y : Nat) (q : EE ts x y) : EE us x y := by
  unfold EE at *
  rw [tieNB_mem] at *
  exact h _ q
theorem mem_brTs {K : Int} {ts : List (Int × Int)} (h : okB K ts = true) (t : Int × Int) : t ∈ brTs K ts ↔ t ∈ ts ∧ bridgeB K ts t.1 t.2 = true := by
  rw [show brTs K ts = ts.filter (fun t => bridgeB K ts t.1 t.2) from if_pos h, List.mem_filter]
theorem tie_form {K : Int} {ts : List (Int × Int)} (h : okB K ts = true) {t : Int × Int} (ht : t ∈ ts) : ∃ x y : Nat, x < y ∧ y < 8 ∧ t = ((x : Int), (y : Int)) ∧ tieOf t.1 t.2 = t ∧ hasB K ts (x : Int) (y : Int) = true := by
  obtain ⟨k0, k8, hs⟩ := ok_parts h
  obtain ⟨q1, q2, q3⟩ := hs.1 t ht
  have e0 : tieOf t.1 t.2 = t := by unfold tieOf; rw [Int.min_eq_left (by omega), Int.max_eq_right (by omega)]
  have e1 : ((t.1.toNat : Nat) : Int) = t.1 := by omega
  have e2 : ((t.2.toNat : Nat) : Int) = t.2 := by omega
  refine ⟨t.1.toNat, t.2.toNat, by omega, by omega, by rw [e1, e2], e0, ?_⟩
  rw [e1, e2, hasB_mem h, e0]; exact ht
/-- a tie more makes no new bridge but itself -/
theorem few {K : Int} {ts : List (Int × Int)} {a b : Int} (h : addB K ts a b = true) {t : Int × Int} (ht : t ∈ brTs K (addTs K ts a b)) : t = tieOf a b ∨ t ∈ brTs K ts := by
  have hok := (addB_yes h).1
  have A := added h
  rw [mem_brTs A.ok] at ht
  obtain ⟨h1, h2⟩ := ht
  have hm : ∀ t, t ∈ addTs K ts a b ↔ t = tieOf a b ∨ t ∈ ts := fun t => by rw [addTs_yes h, mem_ins]
  rcases (hm t).1 h1 with e | h3
  · exact Or.inl e
  · right
    rw [mem_brTs hok]
    refine ⟨h3, ?_⟩
    obtain ⟨x, y, _, _, rfl, _, hh⟩ := tie_form hok h3
    obtain ⟨x', y', _, _, e', _, hh'⟩ := tie_form A.ok h1
    simp only [Prod.mk.injEq] at e'
    obtain ⟨ex, ey⟩ := e'
    have ex' : x = x' := by omega
    have ey' : y = y' := by omega
    subst ex'; subst ey'
    rw [bridge_nb hh]
    exact fun hn => (bridge_nb hh').1 h2 (nb_mono (EE_sub (fun t q => (hm t).2 (Or.inr q))) hn)
/-- the tie that is tied is a bridge just if both were in two parts -/
theorem few_new {K : Int} {ts : List (Int × Int)} {a b : Int} (h : addB K ts a b = true) : tiedB (brTs K (addTs K ts a b)) (min a b) (max a b) = !reachB ts a.toNat b.toNat := by
  have A := added h
  have e1 : tiedB (brTs K (addTs K ts a b)) (min a b) (max a b) = bridgeB K (addTs K ts a b) a b := by
    rw [← hasB_ok (brTs_ok A.ok), brTs_has A.ok]
  obtain ⟨h1, h2⟩ := add_cut h
  have h1' : hasB K (addTs K ts a b) a b = true := A.has
  have h2' : cutTs K (addTs K ts a b) a b = ts := by
    have : cutTs K (addTs K ts a b) a b = cutTs K (addTs K ts a b) b a := by unfold cutTs cutB; rw [hasB_turned, tieOf_turn]
    rw [this]; exact h2
  have hc := cnt_add h
  rw [e1]
  unfold bridgeB
  rw [h1', h2', Bool.true_and]
  cases hr : reachB ts a.toNat b.toNat
  · rw [hr, if_neg (by simp)] at hc; simp; omega
  · rw [hr, if_pos rfl] at hc; simp; omega

theorem reach_cn (ts : List (Int × Int)) (x y : Nat) : reachB ts x y = true ↔ Cn (Tied ts ts.length) x y := by
  unfold reachB
  rw [decide_eq_true_eq, forest_cn]
  exact ⟨Cn.symm, Cn.symm⟩
/-- without a bridge each knot of its part is of one end's, and not of both -/
theorem ends {K : Int} {ts : List (Int × Int)} (hok : okB K ts = true) {x y : Nat} (hxy : x < y) (ht : ((x : Int), (y : Int)) ∈ brTs K ts) (k : Nat) :
    reachB ts x k = (reachB (cutTs K ts x y) x k || reachB (cutTs K ts x y) y k) ∧ (reachB (cutTs K ts x y) x k && reachB (cutTs K ts x y) y k) = false := by
  obtain ⟨h1, h2⟩ := (mem_brTs hok _).1 ht
  have e0 : tieOf (x : Int) (y : Int) = ((x : Int), (y : Int)) := by unfold tieOf; rw [Int.min_eq_left (by omega), Int.max_eq_right (by omega)]
  have hh : hasB K ts (x : Int) (y : Int) = true := by rw [hasB_mem hok, e0]; exact h1
  have hnb := (bridge_nb hh).1 h2
  rw [nb_cut hh] at hnb
  have e := cutTs_yes (show cutB K ts (x : Int) (y : Int) = true from hh)
  have mem : ∀ t, t ∈ cutTs K ts x y ↔ t ∈ ts ∧ t ≠ ((x : Int), (y : Int)) := fun t => by
    rw [e, List.mem_filter, e0]; unfold other; rw [decide_eq_true_eq]
  have sub : ∀ p q, Tied (cutTs K ts x y) (cutTs K ts x y).length p q → Tied ts ts.length p q := fun p q h => by
    rw [tied_mem_iff] at *
    obtain ⟨t, q1, q2⟩ := h
    exact ⟨t, ((mem t).1 q1).1, q2⟩
  have hxyT : Tied ts ts.length x y := by rw [tied_mem_iff]; exact ⟨_, h1, by simp, by simp⟩
  have step : ∀ p q, Tied ts ts.length p q → Tied (cutTs K ts x y) (cutTs K ts x y).length p q ∨ (p = x ∧ q = y) := fun p q h => by
    rw [tied_mem_iff] at *
    obtain ⟨t, q1, q2, q3⟩ := h
    by_cases et : t = ((x : Int), (y : Int))
    · right; subst et; simp at q2 q3; exact ⟨q2.symm, q3.symm⟩
    · left; exact ⟨t, (mem t).2 ⟨q1, et⟩, q2, q3⟩
  have key : ∀ k, Cn (Tied ts ts.length) x k → Cn (Tied (cutTs K ts x y) (cutTs K ts x y).length) x k ∨ Cn (Tied (cutTs K ts x y) (cutTs K ts x y).length) y k := fun k hc => by
    induction hc with
    | refl => exact Or.inl (Cn.refl _)
    | fwd _ e ih =>
      rcases step _ _ e with e | ⟨rfl, rfl⟩
      · exact ih.elim (fun h => Or.inl (h.fwd e)) (fun h => Or.inr (h.fwd e))
      · exact Or.inr (Cn.refl _)
    | bwd _ e ih =>
      rcases step _ _ e with e | ⟨rfl, rfl⟩
      · exact ih.elim (fun h => Or.inl (h.bwd e)) (fun h => Or.inr (h.bwd e))
      · exact Or.inl (Cn.refl _)
  constructor
  · rw [Bool.eq_iff_iff, Bool.or_eq_true, reach_cn, reach_cn, reach_cn]
    refine ⟨key k, fun h => h.elim (Cn.mono sub) (fun h => ?_)⟩
    exact ((Cn.refl x).fwd hxyT).trans (Cn.mono sub h)
  · rw [← Bool.not_eq_true, Bool.and_eq_true, reach_cn, reach_cn]
    rintro ⟨q1, q2⟩
    exact hnb (q1.trans q2.symm)

end Go.Proofs.Ytljnjpjnadlmhaa

/- Plain mathematics of a net without its bridges. No program stands here. -/
namespace Go.Proofs.Ytljnjpjnadlmhaa
set_option linter.unusedVariables false

/-- the ties that are no bridges -/
def nbTs (K : Int) (ts : List (Int × Int)) : List (Int × Int) := if okB K ts = true then ts.filter (fun t => !bridgeB K ts t.1 t.2) else []
def nbK (K : Int) (ts : List (Int × Int)) : Int := if okB K ts = true then K else 0
theorem nbTs_yes {K : Int} {ts : List (Int × Int)} (h : okB K ts = true) : nbTs K ts = ts.filter (fun t => !bridgeB K ts t.1 t.2) := if_pos h
theorem nbTs_no {K : Int} {ts : List (Int × Int)} (h : okB K ts = false) : nbTs K ts = [] := if_neg (by simp [h])
theorem nbK_yes {K : Int} {ts : List (Int × Int)} (h : okB K ts = true) : nbK K ts = K := if_pos h
theorem nbK_no {K : Int} {ts : List (Int × Int)} (h : okB K ts = false) : nbK K ts = 0 := if_neg (by simp [h])
theorem nbTs_ok {K : Int} {ts : List (Int × Int)} (h : okB K ts = true) : okB K (nbTs K ts) = true := by
  obtain ⟨k0, k8, hs⟩ := ok_parts h
  rw [nbTs_yes h]
  exact ok_of_srt k0 k8 (srt_filter hs _)
theorem nbTs_len (K : Int) (ts : List (Int × Int)) : (nbTs K ts).length ≤ 64 := by
  cases h : okB K ts
  · rw [nbTs_no h]; simp
  · exact ok_short (okB_iff.1 (nbTs_ok h))
theorem set_bitsOf {K : Int} {ts : List (Int × Int)} (h : okB K ts = true) : BitsOf (setN K ts) ts := by rw [setN_yes h]; exact mask_bitsOf ts
/-- the set without the bridges -/
theorem nb_bits {K : Int} {ts : List (Int × Int)} (h : okB K ts = true) : BitsOf (strike (setN K ts) (setN K (brTs K ts))) (nbTs K ts) := by
  intro j
  obtain ⟨k0, k8, hs⟩ := ok_parts h
  rw [strike_bit _ _ _ (setN_lt _ _) (setN_lt _ _), Bool.and_eq_true, set_bitsOf h j, Bool.not_eq_true', ← Bool.not_eq_true, set_bitsOf (brTs_ok h) j, nbTs_yes h]
  constructor
  · rintro ⟨⟨t, ht, rfl⟩, hno⟩
    refine ⟨t, List.mem_filter.2 ⟨ht, ?_⟩, rfl⟩
    rw [Bool.not_eq_true', ← Bool.not_eq_true]
    exact fun hb => hno ⟨t, (mem_brTs h t).2 ⟨ht, hb⟩, rfl⟩
  · rintro ⟨t, ht, rfl⟩
    obtain ⟨h1, h2⟩ := List.mem_filter.1 ht
    refine ⟨⟨t, h1, rfl⟩, ?_⟩
    rintro ⟨s, hs', e⟩
    obtain ⟨q1, q2⟩ := (mem_brTs h s).1 hs'
    have : s = t := ix_inj k8 (hs.1 s q1) (hs.1 t h1) e
    subst this
    rw [q2] at h2; simp at h2
/-- some of the bridges cut -/
def cutAll (K : Int) (ts : List (Int × Int)) (i : Nat) : List (Int × Int) := ts.filter (fun t => !decide (t ∈ (brTs K ts).take i))
theorem cutAll_zero (K : Int) (ts : List (Int × Int)) : cutAll K ts 0 = ts := by
  unfold cutAll
  rw [List.filter_eq_self]
  intro t _; simp
theorem cutAll_end {K : Int} {ts : List (Int × Int)} (h : okB K ts = true) : cutAll K ts (brTs K ts).length = nbTs K ts := by
  rw [nbTs_yes h]
  unfold cutAll
  rw [List.take_length]
  apply List.filter_congr
  intro t ht
  congr 1
  rw [Bool.eq_iff_iff, decide_eq_true_eq, mem_brTs h]
  exact ⟨fun q => q.2, fun q => ⟨ht, q⟩⟩
theorem cutAll_ok {K : Int} {ts : List (Int × Int)} (h : okB K ts = true) (i : Nat) : okB K (cutAll K ts i) = true := by
  obtain ⟨k0, k8, hs⟩ := ok_parts h
  exact ok_of_srt k0 k8 (srt_filter hs _)
theorem cutAll_step {K : Int} {ts : List (Int × Int)} (h : okB K ts = true) {i : Nat} (hi : i < (brTs K ts).length) :
    cutB K (cutAll K ts i) (tA (brTs K ts) i) (tB (brTs K ts) i) = true ∧ cutTs K (cutAll K ts i) (tA (brTs K ts) i) (tB (brTs K ts) i) = cutAll K ts (i + 1) := by
  have hm := mem_at hi
  obtain ⟨h1, h2⟩ := (mem_brTs h _).1 hm
  obtain ⟨x, y, hxy, _, et, eo, _⟩ := tie_form h h1
  have hne : ¬ (tA (brTs K ts) i, tB (brTs K ts) i) ∈ (brTs K ts).take i := by
    rw [List.mem_iff_getElem]
    rintro ⟨j, hj, e⟩
    have hj' : j < i := by simp at hj; omega
    have hp := List.pairwise_iff_getElem.1 (ok_parts (brTs_ok h)).2.2.2 j i (by omega) hi hj'
    rw [List.getElem_take] at e
    rw [e, ← ix_get _ _ hi] at hp
    exact absurd hp (by unfold ix; simp)
  have hmem : (tA (brTs K ts) i, tB (brTs K ts) i) ∈ cutAll K ts i := List.mem_filter.2 ⟨h1, by simp only [hne, decide_false, Bool.not_false]⟩
  have hc : cutB K (cutAll K ts i) (tA (brTs K ts) i) (tB (brTs K ts) i) = true := by
    show hasB K _ _ _ = true
    rw [hasB_mem (cutAll_ok h i), eo]; exact hmem
  refine ⟨hc, ?_⟩
  rw [cutTs_yes hc, eo]
  unfold cutAll
  rw [List.filter_filter]
  apply List.filter_congr
  intro t _
  have ht : (brTs K ts).take (i + 1) = (brTs K ts).take i ++ [(tA (brTs K ts) i, tB (brTs K ts) i)] := by
    rw [List.take_add_one, List.getElem?_eq_getElem hi, tA_get _ _ hi, tB_get _ _ hi]; rfl
  rw [ht]
  unfold other
  by_cases e : t = (tA (brTs K ts) i, tB (brTs K ts) i)
  · simp [e]
  · simp [e]

/-- without its bridges a net has as many parts more as it had bridges -/
theorem cutAll_cnt {K : Int} {ts : List (Int × Int)} (h : okB K ts = true) : ∀ i, i ≤ (brTs K ts).length → cnt (cutAll K ts i) K.toNat = cnt ts K.toNat + i := by
  intro i
  induction i with
  | zero => intro _; rw [cutAll_zero]; rfl
  | succ i ih =>
    intro hi
    have hlt : i < (brTs K ts).length := by omega
    obtain ⟨s1, s2⟩ := cutAll_step h hlt
    have hm := mem_at hlt
    obtain ⟨h1, h2⟩ := (mem_brTs h _).1 hm
    obtain ⟨x, y, hxy, _, et, eo, hh⟩ := tie_form h h1
    simp only [Prod.mk.injEq] at et
    have hnb : ¬ Nb (EE ts) x y := (bridge_nb hh).1 (by rw [← et.1, ← et.2]; exact h2)
    rw [et.1, et.2] at s1 s2
    have hb : bridgeB K (cutAll K ts i) (x : Int) (y : Int) = true := by
      rw [bridge_nb (show hasB K (cutAll K ts i) (x : Int) (y : Int) = true from s1)]
      exact fun q => hnb (nb_mono (EE_sub (fun t ht => (List.mem_filter.1 ht).1)) q)
    have hc := cnt_cut (show hasB K (cutAll K ts i) (x : Int) (y : Int) = true from s1)
    unfold bridgeB at hb
    rw [Bool.and_eq_true, decide_eq_true_eq, s2] at hb
    rw [s2] at hc
    have := ih (by omega)
    have h3 := hb.2
    split at hc <;> omega
theorem nb_cnt {K : Int} {ts : List (Int × Int)} (h : okB K ts = true) : cnt (nbTs K ts) K.toNat = cnt ts K.toNat + (brTs K ts).length := by
  rw [← cutAll_end h]; exact cutAll_cnt h _ (Nat.le_refl _)

end Go.Proofs.Ytljnjpjnadlmhaa
