/- Texts put together: MathFP, WOne, WTreeOk, WFlowP. -/
import Derived.Test.YtljnjpjnadlmhaaDoorPartMathE
import Derived.Test.YtljnjpjnadlmhaaDoorPartMathT
import Derived.Test.YtljnjpjnadlmhaaDoorPartWForest
import Derived.Test.YtljnjpjnadlmhaaDoorPartWReach2
import Derived.Laws.BitsAllLaws
import Derived.Deep.RegionHeld3
/- Plain mathematics of ties that part two knots: a net without some of its ties. No program stands here. -/
namespace Go.Proofs.YtljnjpjnadlmhaaDoor
set_option linter.unusedVariables false

/-- of two knots that are not the same, of a net that is ok -/
def twoB (K : Int) (ts : List (Int × Int)) (a b : Int) : Bool := okB K ts && knotB a K && knotB b K && decide (a ≠ b)
/-- the ties without some of them -/
def offTs (ts us : List (Int × Int)) : List (Int × Int) := ts.filter (fun t => !decide (t ∈ us))
/-- the ties are of the net, in order, and part both -/
def partsB (K : Int) (ts : List (Int × Int)) (a b : Int) (us : List (Int × Int)) : Bool := twoB K ts a b && okB K us && us.all (fun t => decide (t ∈ ts)) && !reachB (offTs ts us) a.toNat b.toNat
theorem off_ok {K : Int} {ts : List (Int × Int)} (h : okB K ts = true) (us : List (Int × Int)) : okB K (offTs ts us) = true := by
  obtain ⟨k0, k8, hs⟩ := ok_parts h
  exact ok_of_srt k0 k8 (srt_filter hs _)
theorem mem_off {ts us : List (Int × Int)} (t : Int × Int) : t ∈ offTs ts us ↔ t ∈ ts ∧ t ∉ us := by
  unfold offTs; rw [List.mem_filter]; simp
theorem off_bits {K : Int} {ts us : List (Int × Int)} (h : okB K ts = true) (hu : okB K us = true) : strike (setN K ts) (setN K us) = setN K (offTs ts us) := by
  apply Nat.eq_of_testBit_eq
  intro j
  obtain ⟨k0, k8, hs⟩ := ok_parts h
  obtain ⟨_, _, hs'⟩ := ok_parts hu
  rw [strike_bit _ _ _ (setN_lt _ _) (setN_lt _ _)]
  rw [Bool.eq_iff_iff, Bool.and_eq_true, set_bitsOf h j, Bool.not_eq_true', ← Bool.not_eq_true, set_bitsOf hu j, set_bitsOf (off_ok h us) j]
  constructor
  · rintro ⟨⟨t, ht, rfl⟩, hno⟩
    exact ⟨t, (mem_off t).2 ⟨ht, fun hb => hno ⟨t, hb, rfl⟩⟩, rfl⟩
  · rintro ⟨t, ht, rfl⟩
    obtain ⟨h1, h2⟩ := (mem_off t).1 ht
    refine ⟨⟨t, h1, rfl⟩, ?_⟩
    rintro ⟨s, hs2, e⟩
    have : s = t := ix_inj k8 (hs'.1 s hs2) (hs.1 t h1) e
    subst this
    exact h2 hs2
theorem off_nil (ts : List (Int × Int)) : offTs ts [] = ts := by unfold offTs; simp
theorem off_len (ts us : List (Int × Int)) : (offTs ts us).length ≤ ts.length := by unfold offTs; exact List.length_filter_le _ _
theorem up_ne {K : Int} {us : List (Int × Int)} (hu : okB K us = true) {i : Nat} (hi : i < us.length) : (tA us i, tB us i) ∉ us.take i := by
  rw [List.mem_iff_getElem]
  rintro ⟨j, hj, e⟩
  have hj' : j < i := by simp at hj; omega
  have hp := List.pairwise_iff_getElem.1 (ok_parts hu).2.2.2 j i (by omega) hi hj'
  rw [List.getElem_take] at e
  rw [e, ← ix_get _ _ hi] at hp
  exact absurd hp (by unfold ix; simp)
/-- one tie more is cut -/
theorem off_step {K : Int} {ts us : List (Int × Int)} (h : okB K ts = true) (hu : okB K us = true) {i : Nat} (hi : i < us.length) (hm : (tA us i, tB us i) ∈ ts) :
    cutB K (offTs ts (us.take i)) (tA us i) (tB us i) = true ∧ cutTs K (offTs ts (us.take i)) (tA us i) (tB us i) = offTs ts (us.take (i + 1)) := by
  obtain ⟨x, y, hxy, _, et, eo, _⟩ := tie_form h hm
  have hmem : (tA us i, tB us i) ∈ offTs ts (us.take i) := (mem_off _).2 ⟨hm, up_ne hu hi⟩
  have hc : cutB K (offTs ts (us.take i)) (tA us i) (tB us i) = true := by
    show hasB K _ _ _ = true
    rw [hasB_mem (off_ok h _), eo]; exact hmem
  refine ⟨hc, ?_⟩
  rw [cutTs_yes hc, eo]
  unfold offTs
  rw [List.filter_filter]
  apply List.filter_congr
  intro t _
  have ht : us.take (i + 1) = us.take i ++ [(tA us i, tB us i)] := by
    rw [List.take_add_one, List.getElem?_eq_getElem hi, tA_get _ _ hi, tB_get _ _ hi]; rfl
  rw [ht]
  unfold other
  by_cases e : t = (tA us i, tB us i)
  · simp [e]
  · simp [e]
theorem off_stop {K : Int} {ts us : List (Int × Int)} (h : okB K ts = true) (hu : okB K us = true) {i : Nat} (hi : i < us.length) (hm : (tA us i, tB us i) ∉ ts) : cutB K (offTs ts (us.take i)) (tA us i) (tB us i) = false := by
  show hasB K _ _ _ = false
  obtain ⟨x, y, hxy, _, et, eo, _⟩ := tie_form hu (mem_at hi)
  rw [← Bool.not_eq_true, hasB_mem (off_ok h _)]
  intro q
  rw [show tieOf (tA us i) (tB us i) = (tA us i, tB us i) from eo] at q
  exact hm ((mem_off _).1 q).1
theorem partsB_no {K : Int} {ts us : List (Int × Int)} {a b : Int} (h : (twoB K ts a b && okB K us) = false) : partsB K ts a b us = false := by
  unfold partsB; rw [h]; rfl
theorem partsB_sub {K : Int} {ts us : List (Int × Int)} {a b : Int} {i : Nat} (hi : i < us.length) (hm : (tA us i, tB us i) ∉ ts) : partsB K ts a b us = false := by
  unfold partsB
  have : us.all (fun t => decide (t ∈ ts)) = false := by
    rw [← Bool.not_eq_true, List.all_eq_true]
    intro hh
    exact hm (of_decide_eq_true (hh _ (mem_at hi)))
  rw [this]; simp
theorem partsB_yes {K : Int} {ts us : List (Int × Int)} {a b : Int} (h : twoB K ts a b = true) (hu : okB K us = true) (hs : ∀ t, t ∈ us → t ∈ ts) : partsB K ts a b us = !reachB (offTs ts us) a.toNat b.toNat := by
  unfold partsB
  have : us.all (fun t => decide (t ∈ ts)) = true := by
    rw [List.all_eq_true]
    exact fun t ht => decide_eq_true (hs t ht)
  rw [h, hu, this]; rfl

end Go.Proofs.YtljnjpjnadlmhaaDoor

/- Walk of impl.onePart; which bridge parts two knots. -/
namespace Go.Proofs.YtljnjpjnadlmhaaDoor
open Go.RowKit
set_option linter.unusedVariables false

set_option maxHeartbeats 400000 in
theorem onePart_any (K : Int) (ts : List (Int × Int)) (x y : Nat) (w : World) (hT : Tab w) (hok : okB K ts = true) (hx : x < 8) (hy : y < 8) :
    Calls Tryd.prog 37 #[.int .u64 ((setN K ts : Nat) : Int), .int .i64 (x : Int), .int .i64 (y : Int)] w fun e w' => e = .returned (.bool (reachB ts x y)) ∧ Below w.heap.size w w' := by
  have HR : Hid (reachB ts x y = decide (top (forest ts ts.length) y = top (forest ts ts.length) x)) := rfl
  obtain ⟨r, hr⟩ : ∃ r, r = reachB ts x y := ⟨_, rfl⟩
  rw [← hr] at HR ⊢
  clear hr
  go_enter Tryd.func37, Tryd.ntmps37
  go_wp2_with fail
  refine (forestOf_ok K ts _ hT hok).mono ?_
  rintro e w1 ⟨rfl, hb1⟩
  obtain ⟨f, hf⟩ : ∃ f, f = forest ts ts.length := ⟨_, rfl⟩
  have HLow : Hid (Low f) := by show Low f; rw [hf]; exact forest_low ts _
  rw [← hf] at HR ⊢
  clear hf
  unfold forestV
  have FO := hideP (fun t => forest_own w1 f t)
  have BO := hideP (fun t => hb1.trans ((below_one w1 (.cells #[.int .i64 ((f 0 : Nat) : Int), .int .i64 ((f 1 : Nat) : Int), .int .i64 ((f 2 : Nat) : Int), .int .i64 ((f 3 : Nat) : Int), .int .i64 ((f 4 : Nat) : Int), .int .i64 ((f 5 : Nat) : Int), .int .i64 ((f 6 : Nat) : Int), .int .i64 ((f 7 : Nat) : Int)] t)).mono hb1.size))
  clear hb1
  go_wp2_with fail
  refine (least_any w1.heap.size f x _ (FO.out _) HLow.out hx).mono ?_
  rintro e w2 ⟨rfl, rfl⟩
  go_wp2_with fail
  refine (least_any w1.heap.size f y _ (FO.out _) HLow.out hy).mono ?_
  rintro e w3 ⟨rfl, rfl⟩
  have HV : Hid ((((top f x : Nat) : Int) == ((top f y : Nat) : Int)) = r) := by
    show (((top f x : Nat) : Int) == ((top f y : Nat) : Int)) = r
    rw [HR.out]
    by_cases e : top f y = top f x
    · rw [e]; simp
    · rw [decide_eq_false e, beq_eq_false_iff_ne]; omega
  go_wp2
  go_ret
  exact ⟨congrArg (fun b => Ending.returned (Value.bool b)) HV.out, (BO.out _)⟩

def apB (K : Int) (ts : List (Int × Int)) (a b : Int) (t : Int × Int) : Bool := !reachB (cutTs K ts t.1 t.2) a.toNat b.toNat
def apGo (K : Int) (ts : List (Int × Int)) (a b : Int) : Bool := okB K ts && knotB a K && knotB b K && reachB ts a.toNat b.toNat
/-- the first bridge that parts two knots -/
def apT (K : Int) (ts : List (Int × Int)) (a b : Int) : Option (Int × Int) := if apGo K ts a b = true then (brTs K ts).find? (apB K ts a b) else none
theorem apT_no {K : Int} {ts : List (Int × Int)} {a b : Int} (h : apGo K ts a b = false) : apT K ts a b = none := if_neg (by simp [h])
theorem apT_at {K : Int} {ts : List (Int × Int)} {a b : Int} (h : apGo K ts a b = true) {k : Nat} (hk : k < (brTs K ts).length) (hp : ∀ j, j < k → apB K ts a b (tA (brTs K ts) j, tB (brTs K ts) j) = false) (hy : apB K ts a b (tA (brTs K ts) k, tB (brTs K ts) k) = true) : apT K ts a b = some (tA (brTs K ts) k, tB (brTs K ts) k) := by
  unfold apT
  rw [if_pos h, List.find?_eq_some_iff_getElem]
  refine ⟨hy, k, hk, by rw [tA_get _ _ hk, tB_get _ _ hk], fun j hj => ?_⟩
  have := hp j hj
  rw [tA_get _ _ (by omega), tB_get _ _ (by omega)] at this
  simp only [this, Bool.not_false]
theorem apT_end {K : Int} {ts : List (Int × Int)} {a b : Int} (hp : ∀ j, j < (brTs K ts).length → apB K ts a b (tA (brTs K ts) j, tB (brTs K ts) j) = false) : apT K ts a b = none := by
  unfold apT
  split
  · rw [List.find?_eq_none]
    intro t ht
    obtain ⟨j, hj, e⟩ := List.mem_iff_getElem.1 ht
    have := hp j hj
    rw [tA_get _ _ hj, tB_get _ _ hj] at this
    rw [← e, this]; simp
  · rfl
/-- a bridge cut from the set -/
theorem set_cut {K : Int} {ts : List (Int × Int)} {a b : Int} (h : hasB K ts a b = true) : strike (setN K ts) (pbit a b) = setN K (cutTs K ts a b) := by
  have hC := cutOut (show cutB K ts a b = true from h)
  rw [setN_yes hC.ok, cutTs_yes (show cutB K ts a b = true from h)]
  apply Nat.eq_of_testBit_eq
  intro j
  rw [Bool.eq_iff_iff, (cut_good h).2.2 j, mask_bitsOf _ j]

end Go.Proofs.YtljnjpjnadlmhaaDoor

/- Walks of impl.TreeOk and what it calls. -/
namespace Go.Proofs.YtljnjpjnadlmhaaDoor
open Go.RowKit
set_option linter.unusedVariables false

theorem strike_nat (p q : Nat) (hp : p < 2 ^ 64) (hq : q < 2 ^ 64) : bits .andNot .u64 (p : Int) (q : Int) = ((strike p q : Nat) : Int) := by
  have : (2 : Nat) ^ 64 = 18446744073709551616 := by decide
  exact u64_andNot_nat p q (by omega) (by omega)
set_option maxHeartbeats 400000 in
theorem hasAll_v (v : Bool) (p q : Nat) (w : World) (hp : p < 2 ^ 64) (hq : q < 2 ^ 64) (h : decide (strike q p = 0) = v) :
    Calls Tryd.prog 36 #[.int .u64 (p : Int), .int .u64 (q : Int)] w fun e w' => e = .returned (.bool v) ∧ w' = w := by
  have ha := strike_nat q p hq hp
  have HV : Hid ((((strike q p : Nat) : Int) == 0) = v) := by
    show (((strike q p : Nat) : Int) == 0) = v
    rw [← h]
    by_cases e : strike q p = 0
    · rw [decide_eq_true e, e]; rfl
    · rw [decide_eq_false e]; simp; exact e
  clear hp hq h
  obtain ⟨s, hs⟩ : ∃ s, s = strike q p := ⟨_, rfl⟩
  rw [← hs] at ha HV
  clear hs
  go_enter Tryd.func36, Tryd.ntmps36
  go_wp2
  go_ret
  exact ⟨congrArg (fun b => Ending.returned (Value.bool b)) HV.out, rfl⟩
def eqTo (f g : Nat → Nat) (n : Nat) : Bool := (List.range n).all fun j => decide (f j = g j)
theorem eqTo_iff {f g : Nat → Nat} {n : Nat} : eqTo f g n = true ↔ ∀ j, j < n → f j = g j := by simp [eqTo]
theorem eqTo_bad {f g : Nat → Nat} {n j : Nat} (hj : j < n) (h : f j ≠ g j) : eqTo f g n = false := by
  rw [← Bool.not_eq_true, eqTo_iff]; exact fun e => h (e j hj)
/-- a net in its box, ties of the same knots in another one -/
structure Hx (w wr : World) (K : Int) (nv hv : Value) : Prop where
  X : Bx w wr K nv
  d0 : wr.cell? ⟨w.heap.size + 1, 0, none⟩ = some (.int .i64 K)
  d1 : wr.cell? ⟨w.heap.size + 1, 1, none⟩ = some hv
  lt : w.heap.size + 1 < wr.heap.size
theorem Hx.next {w wr w' : World} {K : Int} {nv hv : Value} (h : Hx w wr K nv hv) (hb : Below wr.heap.size wr w') : Hx w w' K nv hv :=
  ⟨h.X.next hb, (hb.cell (p := ⟨w.heap.size + 1, 0, none⟩) h.lt).trans h.d0, (hb.cell (p := ⟨w.heap.size + 1, 1, none⟩) h.lt).trans h.d1, Nat.lt_of_lt_of_le h.lt hb.size⟩
theorem Hx.start (w : World) (K : Int) (nv hv : Value) (t u : TypeId) : Hx w ((w.alloc (.cells #[.int .i64 K, nv] t)).alloc (.cells #[.int .i64 K, hv] u)) K nv hv := by
  refine ⟨(Bx.start w K nv t).next (below_one _ _), ?_, ?_, by simp⟩
  · rw [World.cell?_alloc_at _ _ _ _ (by simp)]; rfl
  · rw [World.cell?_alloc_at _ _ _ _ (by simp)]; rfl
end Go.Proofs.YtljnjpjnadlmhaaDoor

/- Walks of impl.twoKnotsOf, impl.FlowParts. -/
namespace Go.Proofs.YtljnjpjnadlmhaaDoor
open Go.RowKit
set_option linter.unusedVariables false

set_option maxRecDepth 100000 in
set_option maxHeartbeats 1600000 in
theorem twoKnots_any (K : Int) (ao : Option Addr) (cap : Nat) (ts : List (Int × Int)) (a b : Int) (w : World) (hn : ts.length ≤ 1099511627776) (ht : TiesIn w w.heap.size ao ts) :
    Calls Tryd.prog 21 #[.agg #[.int .i64 K, .slice ao ts.length cap], .int .i64 a, .int .i64 b] w fun e w' => e = .returned (.tuple #[.int .u64 ((setN K ts : Nat) : Int), .bool (twoB K ts a b)]) ∧ Below w.heap.size w w' := by
  have HT := hideP ht
  have HV : Hid (twoB K ts a b = (okB K ts && knotB a K && knotB b K && decide (a ≠ b))) := rfl
  obtain ⟨r, hr⟩ : ∃ r, r = twoB K ts a b := ⟨_, rfl⟩
  rw [← hr] at HV ⊢
  clear hr ht
  have X0 := fun (t : TypeId) => Bx.start w K (.slice ao ts.length cap) t
  have HX0 := hideP X0
  clear X0
  go_enter Tryd.func21, Tryd.ntmps21
  go_wp2_with fail
  refine (pairsOf_any K ao cap ts _ hn ((HT.out.below (HX0.out _).B (Nat.le_refl _)).wide (Nat.le_of_lt (HX0.out _).lt))).mono ?_
  rintro e w2 ⟨rfl, hb1⟩
  have X2 := hideP ((HX0.out _).next hb1)
  clear hb1 HX0
  obtain ⟨r1, hr1⟩ : ∃ r1, r1 = okB K ts := ⟨_, rfl⟩
  obtain ⟨r2, hr2⟩ : ∃ r2, r2 = knotB a K := ⟨_, rfl⟩
  obtain ⟨r3, hr3⟩ : ∃ r3, r3 = knotB b K := ⟨_, rfl⟩
  rw [← hr1, ← hr2, ← hr3] at HV
  rw [← hr1]
  have HA := hideP hr2.symm
  have HB := hideP hr3.symm
  clear hr1 hr2 hr3
  cases r1
  · have HR : Hid (r = false) := by rw [HV.out]; exact hideP rfl
    have HBZ := hideP X2.out.B
    clear X2
    go_wp2
    exact bodyPost_ret (v := .tuple #[.int .u64 ((setN K ts : Nat) : Int), .bool false]) (by simp [results, Tryd.results21, go_sem]) rfl ⟨by rw [HR.out], HBZ.out⟩
  cases r2
  · have HR : Hid (r = false) := by rw [HV.out]; exact hideP rfl
    have c0 := X2.out.c0
    have c1 := X2.out.c1
    go_wp2_with fail
    refine (hasKnot_b false K _ a _ HA.out).mono ?_
    rintro e w3 ⟨rfl, hb⟩
    have X3 := hideP (X2.out.next hb)
    clear hb c0 c1 X2
    have HBZ := hideP X3.out.B
    clear X3
    go_wp2
    exact bodyPost_ret (v := .tuple #[.int .u64 ((setN K ts : Nat) : Int), .bool false]) (by simp [results, Tryd.results21, go_sem]) rfl ⟨by rw [HR.out], HBZ.out⟩
  have c0 := X2.out.c0
  have c1 := X2.out.c1
  go_wp2_with fail
  refine (hasKnot_b true K _ a _ HA.out).mono ?_
  rintro e w3 ⟨rfl, hb⟩
  have X3 := hideP (X2.out.next hb)
  clear hb c0 c1 X2
  cases r3
  · have HR : Hid (r = false) := by rw [HV.out]; exact hideP rfl
    have c0 := X3.out.c0
    have c1 := X3.out.c1
    go_wp2_with fail
    refine (hasKnot_b false K _ b _ HB.out).mono ?_
    rintro e w4 ⟨rfl, hb⟩
    have X4 := hideP (X3.out.next hb)
    clear hb c0 c1 X3
    have HBZ := hideP X4.out.B
    clear X4
    go_wp2
    exact bodyPost_ret (v := .tuple #[.int .u64 ((setN K ts : Nat) : Int), .bool false]) (by simp [results, Tryd.results21, go_sem]) rfl ⟨by rw [HR.out], HBZ.out⟩
  have c0 := X3.out.c0
  have c1 := X3.out.c1
  go_wp2_with fail
  refine (hasKnot_b true K _ b _ HB.out).mono ?_
  rintro e w4 ⟨rfl, hb⟩
  have X4 := hideP (X3.out.next hb)
  clear hb c0 c1 X3
  have HBZ := hideP X4.out.B
  clear X4
  by_cases hab : a = b
  · have HR : Hid (r = false) := by rw [HV.out, hab]; exact hideP (by simp)
    subst hab
    go_wp2
    exact bodyPost_ret (v := .tuple #[.int .u64 ((setN K ts : Nat) : Int), .bool false]) (by simp [results, Tryd.results21, go_sem]) rfl ⟨by rw [HR.out], HBZ.out⟩
  · have HR : Hid (r = true) := by rw [HV.out]; exact hideP (by simp [hab])
    have hab2 : (a == b) = false := by simpa using hab
    go_wp2
    exact bodyPost_ret (v := .tuple #[.int .u64 ((setN K ts : Nat) : Int), .bool true]) (by simp [results, Tryd.results21, go_sem, hab]) rfl ⟨by rw [HR.out], HBZ.out⟩

theorem knot_nat {K : Int} {ts : List (Int × Int)} {a b : Int} (h : twoB K ts a b = true) : okB K ts = true ∧ ∃ x y : Nat, a = (x : Int) ∧ b = (y : Int) ∧ x < 8 ∧ y < 8 ∧ x < K.toNat ∧ y < K.toNat ∧ x ≠ y := by
  unfold twoB knotB at h
  simp only [Bool.and_eq_true, decide_eq_true_eq] at h
  obtain ⟨⟨⟨h1, h2⟩, h3⟩, h4⟩ := h
  have := (okB_iff.1 h1).2.1
  exact ⟨h1, a.toNat, b.toNat, by omega, by omega, by omega, by omega, by omega, by omega, by omega⟩
set_option maxHeartbeats 1600000 in
theorem implFlowParts_any (K : Int) (ao bo : Option Addr) (cap cap2 : Nat) (ts us : List (Int × Int)) (a b : Int) (w : World) (hn : ts.length ≤ 1099511627776) (ht : TiesIn w w.heap.size ao ts) (hn2 : us.length ≤ 1099511627776) (hu : TiesIn w w.heap.size bo us) (hT : Tab w) :
    Calls Tryd.prog 12 #[.agg #[.int .i64 K, .slice ao ts.length cap], .int .i64 a, .int .i64 b, .slice bo us.length cap2] w fun e w' => e = .returned (.bool (partsB K ts a b us)) ∧ Below w.heap.size w w' := by
  have HT := hideP ht
  have HU := hideP hu
  have HTab := hideP hT
  obtain ⟨r, hr⟩ : ∃ r, r = partsB K ts a b us := ⟨_, rfl⟩
  have HV := hideP hr
  rw [← hr]
  clear hr ht hu hT
  have X0 := fun (t : TypeId) => Bx.start w K (.slice ao ts.length cap) t
  have HX0 := hideP X0
  clear X0
  obtain ⟨p, hp⟩ : ∃ p, p = twoB K ts a b := ⟨_, rfl⟩
  obtain ⟨q, hq⟩ : ∃ q, q = okB K us := ⟨_, rfl⟩
  have HP := hideP hp
  have HQ := hideP hq
  clear hp hq
  go_enter Tryd.func12, Tryd.ntmps12
  go_wp2_with fail
  refine (twoKnots_any K ao cap ts a b _ hn ((HT.out.below (HX0.out _).B (Nat.le_refl _)).wide (Nat.le_of_lt (HX0.out _).lt))).mono ?_
  rw [← HP.out]
  rintro e w2 ⟨rfl, hb1⟩
  have X2 := hideP ((HX0.out _).next hb1)
  clear hb1 HX0
  have c0 := X2.out.c0
  go_wp2_with fail
  refine (pairsOf_any K bo cap2 us _ hn2 ((HU.out.below X2.out.B (Nat.le_refl _)).wide (Nat.le_of_lt X2.out.lt))).mono ?_
  rw [← HQ.out]
  rintro e w3 ⟨rfl, hb2⟩
  have X3 := hideP (X2.out.next hb2)
  have T3 := hideP (HTab.out.below X3.out.B HTab.out.2)
  clear hb2 c0 X2
  cases p
  · have HR : Hid (r = false) := by rw [HV.out]; exact hideP (partsB_no (by rw [← HP.out]; rfl))
    have HB := hideP X3.out.B
    clear X3 T3
    go_wp2
    go_ret
    exact ⟨by rw [HR.out]; rfl, HB.out⟩
  cases q
  · have HR : Hid (r = false) := by rw [HV.out]; exact hideP (partsB_no (by rw [← HQ.out, Bool.and_false]))
    have HB := hideP X3.out.B
    clear X3 T3
    go_wp2
    go_ret
    exact ⟨by rw [HR.out]; rfl, HB.out⟩
  obtain ⟨hok, x, y, rfl, rfl, hx8, hy8, _, _, _⟩ := knot_nat HP.out.symm
  have HOK := hideP hok
  obtain ⟨s, hs⟩ : ∃ s, s = decide (strike (setN K us) (setN K ts) = 0) := ⟨_, rfl⟩
  have HS := hideP hs
  clear hs hok
  go_wp2_with fail
  refine (hasAll_v s (setN K ts) (setN K us) _ (setN_lt _ _) (setN_lt _ _) HS.out.symm).mono ?_
  rintro e w4 ⟨rfl, rfl⟩
  cases s
  · have HR : Hid (r = false) := by
      rw [HV.out]
      have hno : ¬ (strike (setN K us) (setN K ts) = 0) := of_decide_eq_false HS.out.symm
      rw [strike_sub HOK.out HQ.out.symm] at hno
      unfold partsB
      have : us.all (fun t => decide (t ∈ ts)) = false := by
        rw [← Bool.not_eq_true, List.all_eq_true]
        intro hh
        exact hno (fun t ht => of_decide_eq_true (hh t ht))
      rw [this]; exact hideP (by simp)
    have HB := hideP X3.out.B
    clear X3 T3
    go_wp2
    go_ret
    exact ⟨by rw [HR.out]; rfl, HB.out⟩
  have HSUB := hideP ((strike_sub HOK.out HQ.out.symm).1 (of_decide_eq_true HS.out.symm))
  have HRV : Hid (r = !reachB (offTs ts us) x y) := by
    rw [HV.out, partsB_yes HP.out.symm HQ.out.symm HSUB.out]; exact hideP rfl
  have hand := andNot_nat (setN K ts) (setN K us) (setN_lt _ _) (setN_lt _ _)
  rw [off_bits HOK.out HQ.out.symm] at hand
  have HOF := hideP (off_ok HOK.out us)
  obtain ⟨zs, hzs⟩ : ∃ zs, zs = offTs ts us := ⟨_, rfl⟩
  rw [← hzs] at hand HRV HOF
  clear hzs
  obtain ⟨v, hv⟩ : ∃ v, v = reachB zs x y := ⟨_, rfl⟩
  have ONE := hideP (onePart_any K zs x y _ T3.out HOF.out hx8 hy8)
  rw [← hv] at ONE HRV
  clear hv
  go_wp2_with fail
  refine ONE.out.mono ?_
  rintro e w5 ⟨rfl, hb5⟩
  have HB := hideP (X3.out.next hb5).B
  clear hb5 X3 T3 ONE
  cases v
  · go_wp2
    go_ret
    exact ⟨by rw [HRV.out]; rfl, HB.out⟩
  · go_wp2
    go_ret
    exact ⟨by rw [HRV.out]; rfl, HB.out⟩

end Go.Proofs.YtljnjpjnadlmhaaDoor
