/- Walks of impl.BridgeList, impl.BridgeIs. -/
import Derived.Test.YtloicmngoaccoaaDoorWBridge
import Derived.Test.YtloicmngoaccoaaDoorPartWForest
import Derived.Test.YtloicmngoaccoaaDoorPartWReach2
namespace Go.Proofs.YtloicmngoaccoaaDoor
open Go.RowKit
set_option linter.unusedVariables false

/-- the net that is gone down through: this one, or, if it is not ok, one without ties -/
def okK (K : Int) (ts : List (Int × Int)) : Int := if okB K ts = true then K else 8
def okTs (K : Int) (ts : List (Int × Int)) : List (Int × Int) := if okB K ts = true then ts else []
theorem okK_no {K : Int} {ts : List (Int × Int)} (h : okB K ts = false) : okK K ts = 8 := if_neg (by simp [h])
theorem okTs_no {K : Int} {ts : List (Int × Int)} (h : okB K ts = false) : okTs K ts = [] := if_neg (by simp [h])
theorem okK_yes {K : Int} {ts : List (Int × Int)} (h : okB K ts = true) : okK K ts = K := if_pos h
theorem okTs_yes {K : Int} {ts : List (Int × Int)} (h : okB K ts = true) : okTs K ts = ts := if_pos h
theorem okTs_ok (K : Int) (ts : List (Int × Int)) : okB (okK K ts) (okTs K ts) = true := by
  cases h : okB K ts
  · rw [okK_no h, okTs_no h]; decide
  · rw [okK_yes h, okTs_yes h]; exact h
theorem okTs_set (K : Int) (ts : List (Int × Int)) : setN (okK K ts) (okTs K ts) = setN K ts := by
  cases h : okB K ts
  · rw [setN_no h, okK_no h, okTs_no h]; decide
  · rw [okK_yes h, okTs_yes h]
theorem okTs_br (K : Int) (ts : List (Int × Int)) : brTs (okK K ts) (okTs K ts) = brTs K ts := by
  cases h : okB K ts
  · rw [show brTs K ts = [] by simp [brTs, h], okK_no h, okTs_no h]; decide
  · rw [okK_yes h, okTs_yes h]
theorem bridgesOf_all (K : Int) (ts : List (Int × Int)) (w : World) :
    Calls Tryd.prog 55 #[.int .u64 ((setN K ts : Nat) : Int)] w fun e w' => e = .returned (.int .u64 ((setN (okK K ts) (brTs K ts) : Nat) : Int)) ∧ Below w.heap.size w w' := by
  have := bridgesOf_any (okK K ts) (okTs K ts) w (okTs_ok K ts)
  rw [okTs_set, okTs_br] at this
  exact this
theorem brTs_okK (K : Int) (ts : List (Int × Int)) : okB (okK K ts) (brTs K ts) = true := by
  rw [← okTs_br]; exact brTs_ok (okTs_ok K ts)
theorem br_has (K : Int) (ts : List (Int × Int)) (a b : Int) : decide (setN (okK K ts) (brTs K ts) &&& pbit a b ≠ 0) = bridgeB K ts a b := by
  rw [has_set _ _ _ _ (brTs_okK K ts)]
  cases h : okB K ts
  · rw [show brTs K ts = [] by simp [brTs, h], show bridgeB K ts a b = false by simp [bridgeB, hasB_no h]]
    rw [okK_no h, hasB_ok (by decide)]; rfl
  · rw [okK_yes h]; exact brTs_has h a b

set_option maxHeartbeats 800000 in
theorem implBridges_any (K : Int) (ao : Option Addr) (cap : Nat) (ts : List (Int × Int)) (w : World) (hn : ts.length ≤ 1099511627776) (ht : TiesIn w w.heap.size ao ts) (hT : Tab w) :
    Calls Tryd.prog 31 #[.agg #[.int .i64 K, .slice ao ts.length cap]] w fun e w' => ∃ ao' cap', e = .returned (.slice ao' (brTs K ts).length cap') ∧ OwnN w' w.heap.size w'.heap.size ao' (brTs K ts).length (tcell (brTs K ts)) ∧ Below w.heap.size w w' := by
  have X0 := fun (t : TypeId) => Bx.start w K (.slice ao ts.length cap) t
  have HX0 := hideP X0
  have HT := hideP ht
  have HTab := hideP hT
  clear X0 ht hT
  go_enter Tryd.func31, Tryd.ntmps31
  go_wp2_with fail
  refine (pairsOf_any K ao cap ts _ hn ((HT.out.below (HX0.out _).B (Nat.le_refl _)).wide (Nat.le_of_lt (HX0.out _).lt))).mono ?_
  rintro e w2 ⟨rfl, hb1⟩
  have X2 := hideP ((HX0.out _).next hb1)
  clear hb1
  have T2 := hideP (HTab.out.below X2.out.B HTab.out.2)
  have HU := hideP (brTs_okK K ts)
  go_wp2_with fail
  refine (bridgesOf_all K ts _).mono ?_
  rintro e w3 ⟨rfl, hb3⟩
  have X3 := hideP (X2.out.next hb3)
  have T3 := hideP (T2.out.below hb3 T2.out.2)
  obtain ⟨us, hus⟩ : ∃ us, us = brTs K ts := ⟨_, rfl⟩
  obtain ⟨K8, hK8⟩ : ∃ k, k = okK K ts := ⟨_, rfl⟩
  have HUS := hideP hus
  rw [← hus, ← hK8] at HU ⊢
  clear hb3 T2 hus hK8
  go_wp2_with fail
  refine (ties_two' K8 us (setN K8 us) _ T3.out (okB_iff.1 HU.out).2.1 (okB_iff.1 HU.out).2.2 (ok_short (okB_iff.1 HU.out)) (set_bits HU.out) (setN_lt K8 us)).mono ?_
  rintro e w4 ⟨ao', cap', rfl, ho, hb4⟩
  have X4 := hideP (X3.out.next hb4)
  have hO : Hid (OwnN w4 w.heap.size w4.heap.size ao' us.length (tcell us)) := by
    rcases ho with h | ⟨g, e, h1, h2, h3⟩
    · exact Or.inl h
    · exact Or.inr ⟨g, e, Nat.le_trans X3.out.B.size h1, h2, h3⟩
  clear ho hb4 T3
  go_wp2
  go_ret
  rw [← HUS.out]
  exact ⟨ao', cap', rfl, hO.out, X4.out.B⟩

set_option maxHeartbeats 800000 in
theorem implBridge_any (K : Int) (ao : Option Addr) (cap : Nat) (ts : List (Int × Int)) (a b : Int) (w : World) (hn : ts.length ≤ 1099511627776) (ht : TiesIn w w.heap.size ao ts) :
    Calls Tryd.prog 16 #[.agg #[.int .i64 K, .slice ao ts.length cap], .int .i64 a, .int .i64 b] w fun e w' => e = .returned (.bool (bridgeB K ts a b)) ∧ Below w.heap.size w w' := by
  have X0 := fun (t : TypeId) => Bx.start w K (.slice ao ts.length cap) t
  have HX0 := hideP X0
  have HT := hideP ht
  have HV := hideP (br_has K ts a b)
  have HL := hideP (setN_lt (okK K ts) (brTs K ts))
  obtain ⟨r, hr⟩ : ∃ r, r = bridgeB K ts a b := ⟨_, rfl⟩
  rw [← hr] at HV ⊢
  clear X0 ht hr
  go_enter Tryd.func16, Tryd.ntmps16
  go_wp2_with fail
  refine (pairsOf_any K ao cap ts _ hn ((HT.out.below (HX0.out _).B (Nat.le_refl _)).wide (Nat.le_of_lt (HX0.out _).lt))).mono ?_
  rintro e w2 ⟨rfl, hb1⟩
  have X2 := hideP ((HX0.out _).next hb1)
  clear hb1
  go_wp2_with fail
  refine (bridgesOf_all K ts _).mono ?_
  rintro e w3 ⟨rfl, hb3⟩
  have X3 := hideP (X2.out.next hb3)
  obtain ⟨mm, hmm⟩ : ∃ m, m = setN (okK K ts) (brTs K ts) := ⟨_, rfl⟩
  rw [← hmm] at HV HL ⊢
  clear hb3 hmm
  go_wp2_with fail
  refine (has_v r mm a b _ HL.out HV.out).mono ?_
  rintro e w4 ⟨rfl, rfl⟩
  go_wp2
  go_ret
  exact ⟨rfl, X3.out.B⟩

end Go.Proofs.YtloicmngoaccoaaDoor
