/- Texts put together: WOne, WFlowP. -/
import Derived.Test.YtljnjpjnadlmhaaPartMathE
import Derived.Test.YtljnjpjnadlmhaaPartWForest
import Derived.Test.YtljnjpjnadlmhaaPartWReach2
import Derived.Test.YtljnjpjnadlmhaaMathFP
import Derived.Test.YtljnjpjnadlmhaaPartWTree
import Derived.Deep.RegionHeld3
/- Walk of impl.onePart; which bridge parts two knots. -/
namespace Go.Proofs.Ytljnjpjnadlmhaa
open Go.RowKit
set_option linter.unusedVariables false

def apB (K : Int) (ts : List (Int × Int)) (a b : Int) (t : Int × Int) : Bool := !reachB (cutTs K ts t.1 t.2) a.toNat b.toNat
def apGo (K : Int) (ts : List (Int × Int)) (a b : Int) : Bool := okB K ts && knotB a K && knotB b K && reachB ts a.toNat b.toNat
/-- the first bridge that parts two knots -/
def apT (K : Int) (ts : List (Int × Int)) (a b : Int) : Option (Int × Int) := if apGo K ts a b = true then (brTs K ts).find? (apB K ts a b) else none
theorem apT_no {K : Int} {ts : List (Int × Int)} {a b : Int} (h : apGo K ts a b = false) : apT K ts a b = none := if_neg (by simp [h])
theorem apT_at {K : Int} {ts : List (Int × Int)} {a b : Int} (h : apGo K ts a b = true) {k : Nat} (hk : k < (brTs K ts).length) (hp : ∀ j, j < k → apB K ts a b (tA (brTs K ts) j, tB (brTs K ts) j) = false) (hy : apB K ts a b (tA (brTs K ts) k, tB (brTs K ts) k) = true) : apT K ts a b = some (tA (brTs K ts) k, tB (brTs K ts) k) := by
  unfold apT
  rw [if_pos h, List.find?_eq_some_iff_getElem]
  refine ⟨hy, k, hk, by rw [tA_get _ _ hk, tB_get _ _ hk], fun j hj => ?_⟩
  have := hp j hj
  rw [tA_get _ _ (by omega), tB_get _ _ (by omega)] at this
  simp only [this, Bool.not_false]
theorem apT_end {K : Int} {ts : List (Int × Int)} {a b : Int} (hp : ∀ j, j < (brTs K ts).length → apB K ts a b (tA (brTs K ts) j, tB (brTs K ts) j) = false) : apT K ts a b = none := by
  unfold apT
  split
  · rw [List.find?_eq_none]
    intro t ht
    obtain ⟨j, hj, e⟩ := List.mem_iff_getElem.1 ht
    have := hp j hj
    rw [tA_get _ _ hj, tB_get _ _ hj] at this
    rw [← e, this]; simp
  · rfl
/-- a bridge cut from the set -/
theorem set_cut {K : Int} {ts : List (Int × Int)} {a b : Int} (h : hasB K ts a b = true) : strike (setN K ts) (pbit a b) = setN K (cutTs K ts a b) := by
  have hC := cutOut (show cutB K ts a b = true from h)
  rw [setN_yes hC.ok, cutTs_yes (show cutB K ts a b = true from h)]
  apply Nat.eq_of_testBit_eq
  intro j
  rw [Bool.eq_iff_iff, (cut_good h).2.2 j, mask_bitsOf _ j]

end Go.Proofs.Ytljnjpjnadlmhaa

/- Walks of impl.twoKnotsOf, impl.FlowParts. -/
namespace Go.Proofs.Ytljnjpjnadlmhaa
open Go.RowKit
set_option linter.unusedVariables false

set_option maxRecDepth 100000 in
set_option maxHeartbeats 1600000 in
theorem twoKnots_any (K : Int) (ao : Option Addr) (cap : Nat) (ts : List (Int × Int)) (a b : Int) (w : World) (hn : ts.length ≤ 1099511627776) (ht : TiesIn w w.heap.size ao ts) :
    Calls Try.prog 28 #[.agg #[.int .i64 K, .slice ao ts.length cap], .int .i64 a, .int .i64 b] w fun e w' => e = .returned (.tuple #[.int .u64 ((setN K ts : Nat) : Int), .bool (twoB K ts a b)]) ∧ Below w.heap.size w w' := by
  have HT := hideP ht
  have HV : Hid (twoB K ts a b = (okB K ts && knotB a K && knotB b K && decide (a ≠ b))) := rfl
  obtain ⟨r, hr⟩ : ∃ r, r = twoB K ts a b := ⟨_, rfl⟩
  rw [← hr] at HV ⊢
  clear hr ht
  have X0 := fun (t : TypeId) => Bx.start w K (.slice ao ts.length cap) t
  have HX0 := hideP X0
  clear X0
  go_enter Try.func28, Try.ntmps28
  go_wp2_with fail
  refine (pairsOf_any K ao cap ts _ hn ((HT.out.below (HX0.out _).B (Nat.le_refl _)).wide (Nat.le_of_lt (HX0.out _).lt))).mono ?_
  rintro e w2 ⟨rfl, hb1⟩
  have X2 := hideP ((HX0.out _).next hb1)
  clear hb1 HX0
  obtain ⟨r1, hr1⟩ : ∃ r1, r1 = okB K ts := ⟨_, rfl⟩
  obtain ⟨r2, hr2⟩ : ∃ r2, r2 = knotB a K := ⟨_, rfl⟩
  obtain ⟨r3, hr3⟩ : ∃ r3, r3 = knotB b K := ⟨_, rfl⟩
  rw [← hr1, ← hr2, ← hr3] at HV
  rw [← hr1]
  have HA := hideP hr2.symm
  have HB := hideP hr3.symm
  clear hr1 hr2 hr3
  cases r1
  · have HR : Hid (r = false) := by rw [HV.out]; exact hideP rfl
    have HBZ := hideP X2.out.B
    clear X2
    go_wp2
    exact bodyPost_ret (v := .tuple #[.int .u64 ((setN K ts : Nat) : Int), .bool false]) (by simp [results, Try.results28, go_sem]) rfl ⟨by rw [HR.out], HBZ.out⟩
  cases r2
  · have HR : Hid (r = false) := by rw [HV.out]; exact hideP rfl
    have c0 := X2.out.c0
    have c1 := X2.out.c1
    go_wp2_with fail
    refine (hasKnot_b false K _ a _ HA.out).mono ?_
    rintro e w3 ⟨rfl, hb⟩
    have X3 := hideP (X2.out.next hb)
    clear hb c0 c1 X2
    have HBZ := hideP X3.out.B
    clear X3
    go_wp2
    exact bodyPost_ret (v := .tuple #[.int .u64 ((setN K ts : Nat) : Int), .bool false]) (by simp [results, Try.results28, go_sem]) rfl ⟨by rw [HR.out], HBZ.out⟩
  have c0 := X2.out.c0
  have c1 := X2.out.c1
  go_wp2_with fail
  refine (hasKnot_b true K _ a _ HA.out).mono ?_
  rintro e w3 ⟨rfl, hb⟩
  have X3 := hideP (X2.out.next hb)
  clear hb c0 c1 X2
  cases r3
  · have HR : Hid (r = false) := by rw [HV.out]; exact hideP rfl
    have c0 := X3.out.c0
    have c1 := X3.out.c1
    go_wp2_with fail
    refine (hasKnot_b false K _ b _ HB.out).mono ?_
    rintro e w4 ⟨rfl, hb⟩
    have X4 := hideP (X3.out.next hb)
    clear hb c0 c1 X3
    have HBZ := hideP X4.out.B
    clear X4
    go_wp2
    exact bodyPost_ret (v := .tuple #[.int .u64 ((setN K ts : Nat) : Int), .bool false]) (by simp [results, Try.results28, go_sem]) rfl ⟨by rw [HR.out], HBZ.out⟩
  have c0 := X3.out.c0
  have c1 := X3.out.c1
  go_wp2_with fail
  refine (hasKnot_b true K _ b _ HB.out).mono ?_
  rintro e w4 ⟨rfl, hb⟩
  have X4 := hideP (X3.out.next hb)
  clear hb c0 c1 X3
  have HBZ := hideP X4.out.B
  clear X4
  by_cases hab : a = b
  · have HR : Hid (r = false) := by rw [HV.out, hab]; exact hideP (by simp)
    subst hab
    go_wp2
    exact bodyPost_ret (v := .tuple #[.int .u64 ((setN K ts : Nat) : Int), .bool false]) (by simp [results, Try.results28, go_sem]) rfl ⟨by rw [HR.out], HBZ.out⟩
  · have HR : Hid (r = true) := by rw [HV.out]; exact hideP (by simp [hab])
    have hab2 : (a == b) = false := by simpa using hab
    go_wp2
    exact bodyPost_ret (v := .tuple #[.int .u64 ((setN K ts : Nat) : Int), .bool true]) (by simp [results, Try.results28, go_sem, hab]) rfl ⟨by rw [HR.out], HBZ.out⟩

theorem knot_nat {K : Int} {ts : List (Int × Int)} {a b : Int} (h : twoB K ts a b = true) : okB K ts = true ∧ ∃ x y : Nat, a = (x : Int) ∧ b = (y : Int) ∧ x < 8 ∧ y < 8 ∧ x < K.toNat ∧ y < K.toNat ∧ x ≠ y := by
  unfold twoB knotB at h
  simp only [Bool.and_eq_true, decide_eq_true_eq] at h
  obtain ⟨⟨⟨h1, h2⟩, h3⟩, h4⟩ := h
  have := (okB_iff.1 h1).2.1
  exact ⟨h1, a.toNat, b.toNat, by omega, by omega, by omega, by omega, by omega, by omega, by omega⟩
end Go.Proofs.Ytljnjpjnadlmhaa
