/- impl.BridgeList again, with the room of what it tells. -/
import Derived.Test.YtloicmngoaccoaaDoorWBridgeI
namespace Go.Proofs.YtloicmngoaccoaaDoor
open Go.RowKit
set_option linter.unusedVariables false

theorem ties_cap (K : Int) (ts : List (Int × Int)) (m : Nat) (w : World) (hT : Tab w) (hK : K ≤ 8) (hg : GoodTo K ts ts.length) (hn : ts.length ≤ 64) (hb : BitsFrom m ts 0) (hm : m < 2 ^ 64) :
    Calls Tryd.prog 58 #[.int .u64 (m : Int)] w fun e w' => ∃ ao cap, e = .returned (.slice ao ts.length cap) ∧ OwnN w' w.heap.size w'.heap.size ao ts.length (tcell ts) ∧ Below w.heap.size w w' ∧ ts.length ≤ cap := by
  refine (ties_any K ts m w hT hK hg hn hb hm).mono ?_
  rintro e w' ⟨v, rfl, ho, hb⟩
  obtain ⟨ao, cap, rfl⟩ := own_slice ho
  refine ⟨ao, cap, rfl, OwnN.of_row ho, hb, ?_⟩
  rcases ho.2 with ⟨q, hz⟩ | ⟨g, c, cur, q, _, _, hc, _⟩
  · omega
  · simp only [Value.slice.injEq] at q
    rw [q.2.2]; exact hc
set_option maxHeartbeats 800000 in
theorem implBridges_cap (K : Int) (ao : Option Addr) (cap : Nat) (ts : List (Int × Int)) (w : World) (hn : ts.length ≤ 1099511627776) (ht : TiesIn w w.heap.size ao ts) (hT : Tab w) :
    Calls Tryd.prog 31 #[.agg #[.int .i64 K, .slice ao ts.length cap]] w fun e w' => ∃ ao' cap', e = .returned (.slice ao' (brTs K ts).length cap') ∧ OwnN w' w.heap.size w'.heap.size ao' (brTs K ts).length (tcell (brTs K ts)) ∧ Below w.heap.size w w' ∧ (brTs K ts).length ≤ cap' := by
  have X0 := fun (t : TypeId) => Bx.start w K (.slice ao ts.length cap) t
  have HX0 := hideP X0
  have HT := hideP ht
  have HTab := hideP hT
  clear X0 ht hT
  go_enter Tryd.func31, Tryd.ntmps31
  go_wp2_with fail
  refine (pairsOf_any K ao cap ts _ hn ((HT.out.below (HX0.out _).B (Nat.le_refl _)).wide (Nat.le_of_lt (HX0.out _).lt))).mono ?_
  rintro e w2 ⟨rfl, hb1⟩
  have X2 := hideP ((HX0.out _).next hb1)
  clear hb1
  have T2 := hideP (HTab.out.below X2.out.B HTab.out.2)
  have HU := hideP (brTs_okK K ts)
  go_wp2_with fail
  refine (bridgesOf_all K ts _).mono ?_
  rintro e w3 ⟨rfl, hb3⟩
  have X3 := hideP (X2.out.next hb3)
  have T3 := hideP (T2.out.below hb3 T2.out.2)
  obtain ⟨us, hus⟩ : ∃ us, us = brTs K ts := ⟨_, rfl⟩
  obtain ⟨K8, hK8⟩ : ∃ k, k = okK K ts := ⟨_, rfl⟩
  have HUS := hideP hus
  rw [← hus, ← hK8] at HU ⊢
  clear hb3 T2 hus hK8
  go_wp2_with fail
  refine (ties_cap K8 us (setN K8 us) _ T3.out (okB_iff.1 HU.out).2.1 (okB_iff.1 HU.out).2.2 (ok_short (okB_iff.1 HU.out)) (set_bits HU.out) (setN_lt K8 us)).mono ?_
  rintro e w4 ⟨ao', cap', rfl, ho, hb4, hcp⟩
  have X4 := hideP (X3.out.next hb4)
  have hO : Hid (OwnN w4 w.heap.size w4.heap.size ao' us.length (tcell us)) := by
    rcases ho with h | ⟨g, e, h1, h2, h3⟩
    · exact Or.inl h
    · exact Or.inr ⟨g, e, Nat.le_trans X3.out.B.size h1, h2, h3⟩
  clear ho hb4 T3
  go_wp2
  go_ret
  rw [← HUS.out]
  exact ⟨ao', cap', rfl, hO.out, X4.out.B, hcp⟩

end Go.Proofs.YtloicmngoaccoaaDoor
