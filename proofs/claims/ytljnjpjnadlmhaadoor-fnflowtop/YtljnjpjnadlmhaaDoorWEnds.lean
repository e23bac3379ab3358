/- Walks of impl.isFromTo and spec.l13Ends. -/
import Derived.Test.YtljnjpjnadlmhaaDoorWWayOk
import Derived.Test.YtljnjpjnadlmhaaDoorPartWWayOk2
import Derived.Test.YtljnjpjnadlmhaaDoorPartWRows
namespace Go.Proofs.YtljnjpjnadlmhaaDoor
open Go.RowKit
set_option linter.unusedVariables false

/-- a way from one knot to another one -/
def fromB (K : Int) (ts : List (Int × Int)) (a b : Int) (xs : List Int) : Bool := wayB K ts xs && decide (xi xs 0 = a) && decide (xi xs (xs.length - 1) = b)
theorem way_pos {K : Int} {ts : List (Int × Int)} {xs : List Int} (h : wayB K ts xs = true) : 0 < xs.length := by
  cases xs with
  | nil => rw [wayB_nil rfl] at h; cases h
  | cons x xs => simp
set_option maxHeartbeats 1600000 in
theorem isFromTo_any (K : Int) (ao bo : Option Addr) (cap cap2 : Nat) (ts : List (Int × Int)) (xs : List Int) (a b : Int) (w : World) (hn : ts.length ≤ 1099511627776) (ht : TiesIn w w.heap.size ao ts) (hxn : xs.length ≤ 1099511627776) (hcap : xs.length ≤ cap2) (hx : IntsIn w w.heap.size bo xs) :
    Calls Tryd.prog 22 #[.agg #[.int .i64 K, .slice ao ts.length cap], .int .i64 a, .int .i64 b, .slice bo xs.length cap2] w fun e w' => e = .returned (.bool (fromB K ts a b xs)) ∧ Below w.heap.size w w' := by
  have X0 := fun (t : TypeId) => Bx.start w K (.slice ao ts.length cap) t
  have HX0 := hideP X0
  have HTI := hideP ht
  have HXI := hideP hx
  obtain ⟨r, hr⟩ : ∃ r, fromB K ts a b xs = r := ⟨_, rfl⟩
  have HRR := hideP hr
  obtain ⟨v, hv⟩ : ∃ v, wayB K ts xs = v := ⟨_, rfl⟩
  have HV := hideP hv
  obtain ⟨m, hm⟩ : ∃ m, xs.length = m := ⟨_, rfl⟩
  have HM := hideP hm
  rw [hr, hm]
  rw [hm] at hxn hcap
  have CW : Hid (∀ W : World, TiesIn W W.heap.size ao ts → IntsIn W W.heap.size bo xs → Calls Tryd.prog 46 #[.agg #[.int .i64 K, .slice ao ts.length cap], .slice bo m cap2] W fun e w'' => e = .returned (.bool v) ∧ Below W.heap.size W w'') := hideP fun W h1 h2 => by
    have := implWayOk_any K ao bo cap cap2 ts xs W hn h1 (by rw [HM.out]; omega) (by rw [HM.out]; omega) h2
    rw [HM.out, HV.out] at this
    exact this
  clear X0 ht hx hr hv hm
  go_enter Tryd.func22, Tryd.ntmps22
  go_wp2_with fail
  refine (CW.out _ ((HTI.out.below (HX0.out _).B (Nat.le_refl _)).wide (HX0.out _).B.size) ((HXI.out.below (HX0.out _).B (Nat.le_refl _)).wide (HX0.out _).B.size)).mono ?_
  rintro e w1 ⟨rfl, hb1⟩
  have HX := hideP ((HX0.out _).next hb1)
  have I1 := hideP ((HXI.out.below HX.out.B (Nat.le_refl _)).wide HX.out.B.size)
  have HB := hideP HX.out.B
  clear hb1 HX0 HTI HXI CW
  cases v with
  | false =>
    have HR : Hid (r = false) := hideP (by rw [← HRR.out]; unfold fromB; rw [HV.out]; rfl)
    clear I1
    go_wp2
    go_ret
    exact ⟨by rw [HR.out]; rfl, HB.out⟩
  | true =>
    have hpos := way_pos HV.out
    rw [HM.out] at hpos
    obtain ⟨t, rfl⟩ : ∃ t, m = t + 1 := ⟨m - 1, by omega⟩
    obtain ⟨g, off, rfl, hg, e0⟩ := I1.out 0 (by rw [HM.out]; omega)
    obtain ⟨g2, off2, eg, _, e1⟩ := I1.out t (by rw [HM.out]; omega)
    cases eg
    obtain ⟨x, hx⟩ : ∃ x, xi xs 0 = x := ⟨_, rfl⟩
    obtain ⟨y, hy⟩ : ∃ y, xi xs t = y := ⟨_, rfl⟩
    have HXY : Hid (fromB K ts a b xs = (decide (x = a) && decide (y = b))) := hideP (by unfold fromB; rw [HV.out, HM.out, hx, Nat.add_sub_cancel, hy]; rfl)
    rw [hx, Nat.add_zero] at e0
    rw [hy] at e1
    clear hx hy hpos I1
    by_cases h1 : x = a
    · by_cases h2 : y = b
      · have HR : Hid (r = true) := hideP (by rw [← HRR.out, HXY.out, decide_eq_true h1, decide_eq_true h2]; rfl)
        subst h1
        subst h2
        go_wp2
        go_ret
        exact ⟨by rw [HR.out]; rfl, HB.out⟩
      · have HR : Hid (r = false) := hideP (by rw [← HRR.out, HXY.out, decide_eq_false h2]; simp)
        have h2b : (y == b) = false := by simp [h2]
        subst h1
        go_wp2
        go_ret
        exact ⟨by rw [HR.out]; rfl, HB.out⟩
    · have HR : Hid (r = false) := hideP (by rw [← HRR.out, HXY.out, decide_eq_false h1]; rfl)
      have h1b : (x == a) = false := by simp [h1]
      go_wp2
      go_ret
      exact ⟨by rw [HR.out]; rfl, HB.out⟩
set_option maxHeartbeats 1600000 in
theorem ends_any (K : Int) (ao bo : Option Addr) (cap cap2 : Nat) (ts : List (Int × Int)) (xs : List Int) (a b : Int) (w : World) (hn : ts.length ≤ 1099511627776) (ht : TiesIn w w.heap.size ao ts) (hxn : xs.length ≤ 1099511627776) (hcap : xs.length ≤ cap2) (hx : IntsIn w w.heap.size bo xs) :
    Calls Tryd.prog 33 #[.agg #[.int .i64 K, .slice ao ts.length cap], .int .i64 a, .int .i64 b, .slice bo xs.length cap2] w fun e w' => e = .returned (.bool (fromB K ts a b xs)) ∧ Below w.heap.size w w' := by
  have X0 := fun (t : TypeId) => Bx.start w K (.slice ao ts.length cap) t
  have HX0 := hideP X0
  have HTI := hideP ht
  have HXI := hideP hx
  obtain ⟨r, hr⟩ : ∃ r, fromB K ts a b xs = r := ⟨_, rfl⟩
  have HRR := hideP hr
  obtain ⟨v, hv⟩ : ∃ v, wayB K ts xs = v := ⟨_, rfl⟩
  have HV := hideP hv
  obtain ⟨m, hm⟩ : ∃ m, xs.length = m := ⟨_, rfl⟩
  have HM := hideP hm
  rw [hr, hm]
  rw [hm] at hxn hcap
  have CW : Hid (∀ W : World, TiesIn W W.heap.size ao ts → IntsIn W W.heap.size bo xs → Calls Tryd.prog 60 #[.agg #[.int .i64 K, .slice ao ts.length cap], .slice bo m cap2] W fun e w'' => e = .returned (.bool v) ∧ Below W.heap.size W w'') := hideP fun W h1 h2 => by
    have := specWayOk_any K ao bo cap cap2 ts xs W hn h1 (by rw [HM.out]; omega) (by rw [HM.out]; omega) h2
    rw [HM.out, HV.out] at this
    exact this
  clear X0 ht hx hr hv hm
  go_enter Tryd.func33, Tryd.ntmps33
  go_wp2_with fail
  refine (CW.out _ ((HTI.out.below (HX0.out _).B (Nat.le_refl _)).wide (HX0.out _).B.size) ((HXI.out.below (HX0.out _).B (Nat.le_refl _)).wide (HX0.out _).B.size)).mono ?_
  rintro e w1 ⟨rfl, hb1⟩
  have HX := hideP ((HX0.out _).next hb1)
  have I1 := hideP ((HXI.out.below HX.out.B (Nat.le_refl _)).wide HX.out.B.size)
  have HB := hideP HX.out.B
  clear hb1 HX0 HTI HXI CW
  cases v with
  | false =>
    have HR : Hid (r = false) := hideP (by rw [← HRR.out]; unfold fromB; rw [HV.out]; rfl)
    clear I1
    go_wp2
    go_ret
    exact ⟨by rw [HR.out]; rfl, HB.out⟩
  | true =>
    have hpos := way_pos HV.out
    rw [HM.out] at hpos
    obtain ⟨t, rfl⟩ : ∃ t, m = t + 1 := ⟨m - 1, by omega⟩
    obtain ⟨g, off, rfl, hg, e0⟩ := I1.out 0 (by rw [HM.out]; omega)
    obtain ⟨g2, off2, eg, _, e1⟩ := I1.out t (by rw [HM.out]; omega)
    cases eg
    obtain ⟨x, hx⟩ : ∃ x, xi xs 0 = x := ⟨_, rfl⟩
    obtain ⟨y, hy⟩ : ∃ y, xi xs t = y := ⟨_, rfl⟩
    have HXY : Hid (fromB K ts a b xs = (decide (x = a) && decide (y = b))) := hideP (by unfold fromB; rw [HV.out, HM.out, hx, Nat.add_sub_cancel, hy]; rfl)
    rw [hx, Nat.add_zero] at e0
    rw [hy] at e1
    clear hx hy hpos I1
    by_cases h1 : x = a
    · by_cases h2 : y = b
      · have HR : Hid (r = true) := hideP (by rw [← HRR.out, HXY.out, decide_eq_true h1, decide_eq_true h2]; rfl)
        subst h1
        subst h2
        go_wp2
        go_ret
        exact ⟨by rw [HR.out]; rfl, HB.out⟩
      · have HR : Hid (r = false) := hideP (by rw [← HRR.out, HXY.out, decide_eq_false h2]; simp)
        have h2b : (y == b) = false := by simp [h2]
        subst h1
        go_wp2
        go_ret
        exact ⟨by rw [HR.out]; rfl, HB.out⟩
    · have HR : Hid (r = false) := hideP (by rw [← HRR.out, HXY.out, decide_eq_false h1]; rfl)
      have h1b : (x == a) = false := by simp [h1]
      go_wp2
      go_ret
      exact ⟨by rw [HR.out]; rfl, HB.out⟩

end Go.Proofs.YtljnjpjnadlmhaaDoor
