/- Walks of spec.BridgeIs, spec.BridgeList. -/
import Derived.Test.YtloicmngoaccoaaDoorMathE
import Derived.Test.YtloicmngoaccoaaDoorWAlls
import Derived.Test.YtloicmngoaccoaaDoorWTreeS
import Derived.Test.YtloicmngoaccoaaDoorWCount
import Derived.Test.YtloicmngoaccoaaDoorWQuiet
import Derived.Test.YtloicmngoaccoaaDoorWReach3
import Derived.Test.YtloicmngoaccoaaDoorWLo
namespace Go.Proofs.YtloicmngoaccoaaDoor
open Go.RowKit
set_option linter.unusedVariables false

set_option maxHeartbeats 1600000 in
theorem specBridge_any (K : Int) (ao : Option Addr) (cap : Nat) (ts : List (Int × Int)) (a b : Int) (w : World) (hn : ts.length ≤ 1099511627776) (ht : TiesIn w w.heap.size ao ts) :
    Calls Tryd.prog 71 #[.agg #[.int .i64 K, .slice ao ts.length cap], .int .i64 a, .int .i64 b] w fun e w' => e = .returned (.bool (bridgeB K ts a b)) ∧ Below w.heap.size w w' := by
  have X0 := fun (t : TypeId) => Bx.start w K (.slice ao ts.length cap) t
  have HX0 := hideP X0
  have HT := hideP ht
  clear X0 ht
  have HV : Hid (bridgeB K ts a b = (cutB K ts a b && decide (countV K ts < countV (cutK K ts a b) (cutTs K ts a b)))) := by
    show bridgeB K ts a b = _
    unfold bridgeB
    cases h : hasB K ts a b
    · rw [show cutB K ts a b = false from h]; rfl
    · have hc : cutB K ts a b = true := h
      rw [hc, cutK_yes hc]
      unfold countV
      rw [if_pos (has_ok h), if_pos (cutOut hc).ok, Bool.true_and, Bool.true_and]
      by_cases q : cnt ts K.toNat < cnt (cutTs K ts a b) K.toNat
      · rw [decide_eq_true q, decide_eq_true (by omega)]
      · rw [decide_eq_false q, decide_eq_false (by omega)]
  obtain ⟨q, hq⟩ : ∃ x, x = bridgeB K ts a b := ⟨_, rfl⟩
  rw [← hq] at HV ⊢
  clear hq
  go_enter Tryd.func71, Tryd.ntmps71
  go_wp2_with fail
  refine (specCut_all K ao cap ts a b _ hn ((HT.out.below (HX0.out _).B (Nat.le_refl _)).wide (Nat.le_of_lt (HX0.out _).lt))).mono ?_
  rintro e w1 ⟨aoX, capX, rfl, ho1, hb1⟩
  have X1 := hideP ((HX0.out _).next hb1)
  have T1 := hideP (ho1.ties (Nat.le_refl _))
  clear ho1 hb1 HX0
  have hul : (cutTs K ts a b).length ≤ 1099511627776 := by have := cutTs_len K ts a b; omega
  obtain ⟨us, hus⟩ : ∃ us, us = cutTs K ts a b := ⟨_, rfl⟩
  obtain ⟨KX, hKX⟩ : ∃ x, x = cutK K ts a b := ⟨_, rfl⟩
  obtain ⟨r, hr⟩ : ∃ x, x = cutB K ts a b := ⟨_, rfl⟩
  rw [← hus, ← hKX, ← hr] at HV
  rw [← hus] at hul T1
  rw [← hus, ← hKX, ← hr]
  clear hus hKX hr
  have bx := below_one w1 (.cells #[.int .i64 KX, .slice aoX us.length capX] 25)
  have XX := hideP (NetV.new (K := KX) (cap := capX) 25 T1.out)
  have X2 := hideP (X1.out.next bx)
  have NT : Hid (TiesIn (w1.alloc (.cells #[.int .i64 KX, .slice aoX us.length capX] 25)) (w1.alloc (.cells #[.int .i64 KX, .slice aoX us.length capX] 25)).heap.size ao ts) := (HT.out.below X2.out.B (Nat.le_refl _)).wide (Nat.le_of_lt X2.out.lt)
  clear bx X1 T1 HT
  go_wp2
  obtain ⟨ww, hww⟩ : ∃ ww, ww = w1.alloc (.cells #[.int .i64 KX, .slice aoX us.length capX] 25) := ⟨_, rfl⟩
  rw [← hww] at XX X2 NT ⊢
  obtain ⟨X, hX⟩ : ∃ x, x = w1.heap.size := ⟨_, rfl⟩
  rw [← hX] at XX ⊢
  clear hww hX
  have hne : Nonempty (Cls (Below ww.heap.size ww)) := ⟨⟨ww, Below.refl _ _⟩⟩
  have q0 : ∀ u : Cls (Below ww.heap.size ww), u.w.cell? ⟨w.heap.size, 0, none⟩ = some (.int .i64 K) := fun u => (u.ok.cell (p := ⟨w.heap.size, 0, none⟩) X2.out.lt).trans X2.out.c0
  have q1 : ∀ u : Cls (Below ww.heap.size ww), u.w.cell? ⟨w.heap.size, 1, none⟩ = some (.slice ao ts.length cap) := fun u => (u.ok.cell (p := ⟨w.heap.size, 1, none⟩) X2.out.lt).trans X2.out.c1
  have q2 : ∀ u : Cls (Below ww.heap.size ww), u.w.cell? ⟨X, 0, none⟩ = some (.int .i64 KX) := fun u => (u.ok.cell (p := ⟨X, 0, none⟩) XX.out.lt).trans XX.out.c0
  have q3 : ∀ u : Cls (Below ww.heap.size ww), u.w.cell? ⟨X, 1, none⟩ = some (.slice aoX us.length capX) := fun u => (u.ok.cell (p := ⟨X, 1, none⟩) XX.out.lt).trans XX.out.c1
  obtain ⟨CV, hCV⟩ : ∃ f : Int → List (Int × Int) → Int, f = countV := ⟨_, rfl⟩
  have CALLS : Hid (∀ (u : Cls (Below ww.heap.size ww)) (K' : Int) (ao' : Option Addr) (cap2 : Nat) (ts' : List (Int × Int)), ((K' = KX ∧ ao' = aoX ∧ ts' = us) ∨ (K' = K ∧ ao' = ao ∧ ts' = ts)) → Calls Tryd.prog 51 #[.agg #[.int .i64 K', .slice ao' ts'.length cap2]] u.w fun e w'' => e = .returned (.int .i64 (CV K' ts')) ∧ ∃ u2 : Cls (Below ww.heap.size ww), w'' = u2.w) := by
    intro u K' ao' cap2 ts' h
    refine Calls.cls (D := Below ww.heap.size ww) ?_
    rw [hCV]
    rcases h with ⟨rfl, rfl, rfl⟩ | ⟨rfl, rfl, rfl⟩
    · exact (specCount_any K' ao' cap2 ts' _ hul ((XX.out.ties.below (C := ww.heap.size) u.ok (Nat.le_refl _)).wide u.ok.size)).mono fun e w2 ⟨he, hb2⟩ => ⟨he, u.ok.trans (hb2.mono u.ok.size)⟩
    · exact (specCount_any K' ao' cap2 ts' _ hn ((NT.out.below (C := ww.heap.size) u.ok (Nat.le_refl _)).wide u.ok.size)).mono fun e w2 ⟨he, hb2⟩ => ⟨he, u.ok.trans (hb2.mono u.ok.size)⟩
  rw [← hCV] at HV
  clear hCV
  obtain ⟨cn, hcn⟩ : ∃ c, CV K ts = c := ⟨_, rfl⟩
  obtain ⟨cx, hcx⟩ : ∃ c, CV KX us = c := ⟨_, rfl⟩
  rw [hcn, hcx] at HV
  have HB := hideP X2.out.B
  cases r
  · have HQ : Hid (q = false) := by show q = false; have := HV.out; simpa using this
    clear HV
    refine wp_region_cls (Below ww.heap.size ww) (by kernel_rfl) (by kernel_rfl) (Below.refl _ _).drew ?_
    repeat (go_big_quiet_step (first | (go_at_call 51; refine CALLS.out _ _ _ _ _ ?_; first | exact Or.inl ⟨rfl, rfl, rfl⟩ | exact Or.inr ⟨rfl, rfl, rfl⟩)))
    refine wpQuiet_nil ?_
    intro wz hw'
    have hz : Below ww.heap.size ww wz := by obtain ⟨u, e⟩ := hw'; rw [e]; exact u.ok
    clear hw'
    have HBZ := hideP (HB.out.trans (hz.mono HB.out.size))
    clear hz q0 q1 q2 q3 CALLS hne
    go_wp2
    go_ret
    exact ⟨by rw [HQ.out]; rfl, HBZ.out⟩
  · have HQ : Hid (q = decide (cn < cx)) := by show q = decide (cn < cx); have := HV.out; simpa using this
    clear HV
    by_cases hlt : cn < cx
    · refine wp_region_cls (Below ww.heap.size ww) (by kernel_rfl) (by kernel_rfl) (Below.refl _ _).drew ?_
      repeat (go_big_quiet_step (first | (go_at_call 51; refine CALLS.out _ _ _ _ _ ?_; first | exact Or.inl ⟨rfl, rfl, rfl⟩ | exact Or.inr ⟨rfl, rfl, rfl⟩)))
      refine wpQuiet_nil ?_
      intro wz hw'
      have hz : Below ww.heap.size ww wz := by obtain ⟨u, e⟩ := hw'; rw [e]; exact u.ok
      clear hw'
      have HBZ := hideP (HB.out.trans (hz.mono HB.out.size))
      clear hz q0 q1 q2 q3 CALLS hne
      go_wp2
      go_ret
      exact ⟨by rw [HQ.out, decide_eq_true hlt]; rfl, HBZ.out⟩
    · have hd : decide (cn < cx) = false := decide_eq_false hlt
      clear hlt
      refine wp_region_cls (Below ww.heap.size ww) (by kernel_rfl) (by kernel_rfl) (Below.refl _ _).drew ?_
      repeat (go_big_quiet_step (first | (go_at_call 51; refine CALLS.out _ _ _ _ _ ?_; first | exact Or.inl ⟨rfl, rfl, rfl⟩ | exact Or.inr ⟨rfl, rfl, rfl⟩)))
      refine wpQuiet_nil ?_
      intro wz hw'
      have hz : Below ww.heap.size ww wz := by obtain ⟨u, e⟩ := hw'; rw [e]; exact u.ok
      clear hw'
      have HBZ := hideP (HB.out.trans (hz.mono HB.out.size))
      clear hz q0 q1 q2 q3 CALLS hne
      go_wp2
      go_ret
      exact ⟨by rw [HQ.out, decide_eq_false (of_decide_eq_false hd)]; rfl, HBZ.out⟩

end Go.Proofs.YtloicmngoaccoaaDoor
