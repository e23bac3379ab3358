/- Walk of laws.FnNetHas: it returns true. -/
import Derived.Test.YtmmbbhkgfkhipaaWDraw
import Derived.Test.YtmmbbhkgfkhipaaWQuiet
namespace Go.Proofs.Ytmmbbhkgfkhipaa
open Go.RowKit
set_option linter.unusedVariables false

theorem hasB_turn (K : Int) (ts : List (Int × Int)) (a b : Int) : hasB K ts b a = hasB K ts a b := by
  unfold hasB; rw [Int.min_comm b a, Int.max_comm b a]
theorem hasB_self (K : Int) (ts : List (Int × Int)) (a : Int) : hasB K ts a a = false := by
  rw [← Bool.not_eq_true]
  intro h
  simp only [hasB, Bool.and_eq_true] at h
  obtain ⟨_, _, hg⟩ := okB_iff.1 h.1
  obtain ⟨i, hi, ea, eb⟩ := tiedB_iff.1 h.2
  obtain ⟨h1, h2, h3⟩ := (hg i hi).1
  omega
theorem netHas_is (v : Bool) (K : Int) (ao : Option Addr) (cap : Nat) (ts : List (Int × Int)) (a b : Int) (w : World) (hn : ts.length ≤ 1099511627776) (ht : TiesIn w w.heap.size ao ts) (h : hasB K ts a b = v) :
    Calls Try.prog 5 #[.agg #[.int .i64 K, .slice ao ts.length cap], .int .i64 a, .int .i64 b] w fun e w' => e = .returned (.bool v) ∧ Below w.heap.size w w' := by
  rw [← h]; exact netHas_any K ao cap ts a b w hn ht
theorem specHas_is' (v : Bool) (K : Int) (ao : Option Addr) (cap : Nat) (ts : List (Int × Int)) (a b : Int) (w : World) (hn : ts.length ≤ 1099511627776) (ht : TiesIn w w.heap.size ao ts) (h : hasB K ts a b = v) :
    Calls Try.prog 6 #[.agg #[.int .i64 K, .slice ao ts.length cap], .int .i64 a, .int .i64 b] w fun e w' => e = .returned (.bool v) ∧ Below w.heap.size w w' := by
  rw [← h]; exact specHas_any K ao cap ts a b w hn ht

set_option maxHeartbeats 1600000 in
theorem netHas_walk (bo : Option Addr) (n cap : Nat) (w : World) (hb : BytesIn w bo n) (hnil : bo = none → n = 0 ∧ cap = 0) (hc : n ≤ cap) (hm : cap ≤ maxLen) :
    Calls Try.prog 3 #[.slice bo n cap] w fun e w' => e = .returned (.bool true) ∧ Below w.heap.size w w' := by
  by_cases hl : 1048576 < n
  · have hl' : (1048576 : Int) < (n : Int) := by omega
    have hn' : n ≤ 9223372036854775807 := by unfold maxLen at hm; omega
    go_enter Try.func3, Try.ntmps3
    go_wp2
    go_ret
    exact ⟨rfl, Below.refl _ _⟩
  have hl' : decide ((1048576 : Int) < (n : Int)) = false := by simp; omega
  go_enter Try.func3, Try.ntmps3
  go_wp2_with fail
  refine (drawNetHas_any bo n cap _ hb hnil hc hm).mono ?_
  rintro e w1 ⟨K, ao, cap', us, a, b, rfl, D1⟩
  have hn : us.length ≤ 1099511627776 := by have := D1.short; omega
  have t1 : TiesIn w1 w1.heap.size ao us := D1.own.ties (Nat.le_refl _)
  have HB1 := hideP D1.bel
  clear D1
  obtain ⟨v, hv⟩ : ∃ v, hasB K us a b = v := ⟨_, rfl⟩
  have HV := hideP hv
  have HV2 : Hid (hasB K us b a = v) := by rw [hasB_turn]; exact hv
  have HV3 : Hid (hasB K us a a = false) := hasB_self K us a
  clear hv
  cases v
  · go_wp2_with fail
    refine (netHas_is false K ao cap' us a b _ hn ((t1.below (below_one _ _) (Nat.le_refl _)).wide (by simp)) HV.out).mono ?_
    rintro e w2 ⟨rfl, hb2⟩
    have hb2' : Below (w1.heap.size + 1) (w1.alloc (.cells #[.int .i64 K, .slice ao us.length cap'] 25)) w2 := by simpa using hb2
    have hB2 : Below w1.heap.size w1 w2 := (below_one _ _).trans (hb2'.mono (by omega))
    have hz2 : w1.heap.size < w2.heap.size := by have := hb2'.size; simp at this; omega
    have c0 : w2.cell? ⟨w1.heap.size, 0, none⟩ = some (.int .i64 K) := (hb2'.cell (p := ⟨w1.heap.size, 0, none⟩) (by simp)).trans (by simp)
    have c1 : w2.cell? ⟨w1.heap.size, 1, none⟩ = some (.slice ao us.length cap') := (hb2'.cell (p := ⟨w1.heap.size, 1, none⟩) (by simp)).trans (by simp)
    have t2 : TiesIn w2 w1.heap.size ao us := t1.below hB2 (Nat.le_refl _)
    have HB2 := hideP (HB1.out.trans (hB2.mono HB1.out.size))
    clear hb2 hb2' hB2 t1
    go_wp2_with fail
    refine (specHas_is' false K ao cap' us a b _ hn (t2.wide (by omega)) HV.out).mono ?_
    rintro e w3 ⟨rfl, hb3⟩
    have d0 : w3.cell? ⟨w1.heap.size, 0, none⟩ = some (.int .i64 K) := (hb3.cell (p := ⟨w1.heap.size, 0, none⟩) hz2).trans c0
    have d1 : w3.cell? ⟨w1.heap.size, 1, none⟩ = some (.slice ao us.length cap') := (hb3.cell (p := ⟨w1.heap.size, 1, none⟩) hz2).trans c1
    have t3 : TiesIn w3 w1.heap.size ao us := t2.below hb3 (by omega)
    have hz3 : w1.heap.size < w3.heap.size := Nat.lt_of_lt_of_le hz2 hb3.size
    have HB3 := hideP (HB2.out.trans (hb3.mono HB2.out.size))
    clear c0 c1 t2 hb3 HB2
    go_wp2_with fail
    refine (netHas_is false K ao cap' us b a _ hn (t3.wide (by omega)) HV2.out).mono ?_
    rintro e w4 ⟨rfl, hb4⟩
    have c0 : w4.cell? ⟨w1.heap.size, 0, none⟩ = some (.int .i64 K) := (hb4.cell (p := ⟨w1.heap.size, 0, none⟩) hz3).trans d0
    have c1 : w4.cell? ⟨w1.heap.size, 1, none⟩ = some (.slice ao us.length cap') := (hb4.cell (p := ⟨w1.heap.size, 1, none⟩) hz3).trans d1
    have t4 : TiesIn w4 w1.heap.size ao us := t3.below hb4 (by omega)
    have hz4 : w1.heap.size < w4.heap.size := Nat.lt_of_lt_of_le hz3 hb4.size
    have HB4 := hideP (HB3.out.trans (hb4.mono HB3.out.size))
    clear d0 d1 t3 hb4 HB3
    go_wp2_with fail
    refine (netHas_is false K ao cap' us a a _ hn (t4.wide (by omega)) HV3.out).mono ?_
    rintro e w5 ⟨rfl, hb5⟩
    have HB5 := hideP (HB4.out.trans (hb5.mono HB4.out.size))
    clear hb5
    go_wp2
    go_ret
    exact ⟨rfl, HB5.out⟩
  · go_wp2_with fail
    refine (netHas_is true K ao cap' us a b _ hn ((t1.below (below_one _ _) (Nat.le_refl _)).wide (by simp)) HV.out).mono ?_
    rintro e w2 ⟨rfl, hb2⟩
    have hb2' : Below (w1.heap.size + 1) (w1.alloc (.cells #[.int .i64 K, .slice ao us.length cap'] 25)) w2 := by simpa using hb2
    have hB2 : Below w1.heap.size w1 w2 := (below_one _ _).trans (hb2'.mono (by omega))
    have hz2 : w1.heap.size < w2.heap.size := by have := hb2'.size; simp at this; omega
    have c0 : w2.cell? ⟨w1.heap.size, 0, none⟩ = some (.int .i64 K) := (hb2'.cell (p := ⟨w1.heap.size, 0, none⟩) (by simp)).trans (by simp)
    have c1 : w2.cell? ⟨w1.heap.size, 1, none⟩ = some (.slice ao us.length cap') := (hb2'.cell (p := ⟨w1.heap.size, 1, none⟩) (by simp)).trans (by simp)
    have t2 : TiesIn w2 w1.heap.size ao us := t1.below hB2 (Nat.le_refl _)
    have HB2 := hideP (HB1.out.trans (hB2.mono HB1.out.size))
    clear hb2 hb2' hB2 t1
    go_wp2_with fail
    refine (specHas_is' true K ao cap' us a b _ hn (t2.wide (by omega)) HV.out).mono ?_
    rintro e w3 ⟨rfl, hb3⟩
    have d0 : w3.cell? ⟨w1.heap.size, 0, none⟩ = some (.int .i64 K) := (hb3.cell (p := ⟨w1.heap.size, 0, none⟩) hz2).trans c0
    have d1 : w3.cell? ⟨w1.heap.size, 1, none⟩ = some (.slice ao us.length cap') := (hb3.cell (p := ⟨w1.heap.size, 1, none⟩) hz2).trans c1
    have t3 : TiesIn w3 w1.heap.size ao us := t2.below hb3 (by omega)
    have hz3 : w1.heap.size < w3.heap.size := Nat.lt_of_lt_of_le hz2 hb3.size
    have HB3 := hideP (HB2.out.trans (hb3.mono HB2.out.size))
    clear c0 c1 t2 hb3 HB2
    go_wp2_with fail
    refine (netHas_is true K ao cap' us b a _ hn (t3.wide (by omega)) HV2.out).mono ?_
    rintro e w4 ⟨rfl, hb4⟩
    have c0 : w4.cell? ⟨w1.heap.size, 0, none⟩ = some (.int .i64 K) := (hb4.cell (p := ⟨w1.heap.size, 0, none⟩) hz3).trans d0
    have c1 : w4.cell? ⟨w1.heap.size, 1, none⟩ = some (.slice ao us.length cap') := (hb4.cell (p := ⟨w1.heap.size, 1, none⟩) hz3).trans d1
    have t4 : TiesIn w4 w1.heap.size ao us := t3.below hb4 (by omega)
    have hz4 : w1.heap.size < w4.heap.size := Nat.lt_of_lt_of_le hz3 hb4.size
    have HB4 := hideP (HB3.out.trans (hb4.mono HB3.out.size))
    clear d0 d1 t3 hb4 HB3
    go_wp2_with fail
    refine (netHas_is false K ao cap' us a a _ hn (t4.wide (by omega)) HV3.out).mono ?_
    rintro e w5 ⟨rfl, hb5⟩
    have HB5 := hideP (HB4.out.trans (hb5.mono HB4.out.size))
    clear hb5
    go_wp2
    go_ret
    exact ⟨rfl, HB5.out⟩

end Go.Proofs.Ytmmbbhkgfkhipaa
