/- Walk of impl.BridgeParts. -/
import Derived.Test.YtmkbeiiifikbgaaDoorPartMathE
import Derived.Test.YtmkbeiiifikbgaaDoorPartWBridge
import Derived.Test.YtmkbeiiifikbgaaDoorPartWTies
import Derived.Test.YtmkbeiiifikbgaaDoorPartWReach2
import Derived.Deep.RegionHeld3
namespace Go.Proofs.YtmkbeiiifikbgaaDoor
open Go.RowKit
set_option linter.unusedVariables false

theorem partN_none : partN 0 [] = 0 := by unfold partN; split <;> rfl
set_option maxHeartbeats 800000 in
theorem implBParts_any (K : Int) (ao : Option Addr) (cap : Nat) (ts : List (Int × Int)) (w : World) (hn : ts.length ≤ 1099511627776) (ht : TiesIn w w.heap.size ao ts) (hT : Tab w) :
    Calls Tryd.prog 14 #[.agg #[.int .i64 K, .slice ao ts.length cap]] w fun e w' => ∃ ao' cap', e = .returned (.slice ao' (partN (nbK K ts) (nbTs K ts)) cap') ∧ OwnR w' w.heap.size w'.heap.size ao' (partN (nbK K ts) (nbTs K ts)) (pcellN (topN (nbTs K ts))) ∧ Below w.heap.size w w' := by
  have X0 := fun (t : TypeId) => Bx.start w K (.slice ao ts.length cap) t
  have HX0 := hideP X0
  have HT := hideP ht
  have HTab := hideP hT
  clear X0 ht hT
  go_enter Tryd.func14, Tryd.ntmps14
  go_wp2_with fail
  refine (pairsOf_any K ao cap ts _ hn ((HT.out.below (HX0.out _).B (Nat.le_refl _)).wide (Nat.le_of_lt (HX0.out _).lt))).mono ?_
  rintro e w2 ⟨rfl, hb1⟩
  have X2 := hideP ((HX0.out _).next hb1)
  clear hb1
  cases hok : okB K ts
  · have HN : Hid (partN (nbK K ts) (nbTs K ts) = 0) := by show partN (nbK K ts) (nbTs K ts) = 0; rw [nbK_no hok, nbTs_no hok]; exact partN_none
    have HB := hideP X2.out.B
    clear hok
    go_wp2
    go_ret
    exact ⟨none, 0, by rw [HN.out]; rfl, by rw [HN.out]; exact Or.inl ⟨rfl, rfl⟩, HB.out⟩
  have HOK := hideP hok
  have T2 := hideP (HTab.out.below X2.out.B HTab.out.2)
  have HNB := hideP (nb_bits hok)
  have HNO := hideP (nbTs_ok hok)
  have hnl := nbTs_len K ts
  have hand := andNot_nat (setN K ts) (setN K (brTs K ts)) (setN_lt _ _) (setN_lt _ _)
  have HKK : Hid (nbK K ts = K) := nbK_yes hok
  obtain ⟨us, hus⟩ : ∃ us, us = nbTs K ts := ⟨_, rfl⟩
  have HUS := hideP hus
  rw [← hus] at HNB HNO hnl
  have hun : us.length ≤ 1099511627776 := by omega
  have BR := hideP (fun w => bridgesOf_any K ts w hok)
  obtain ⟨sA, hsA⟩ : ∃ s, s = setN K ts := ⟨_, rfl⟩
  obtain ⟨sB, hsB⟩ : ∃ s, s = setN K (brTs K ts) := ⟨_, rfl⟩
  have HLT : Hid (strike sA sB < 2 ^ 64) := strike_lt _ _ (by rw [hsA]; exact setN_lt _ _)
  rw [← hsA, ← hsB] at hand HNB BR
  rw [← hsA]
  clear hok hus hsA hsB
  have X2d := hideP (X2.out.next (Below.refl _ _).drew)
  have T2d := hideP (T2.out.below (Below.refl _ _).drew T2.out.2)
  have HBF := hideP (bitsFrom_of HNB.out)
  have hK8 := (okB_iff.1 HOK.out).2.1
  clear X2 T2 HNB
  have c0 := X2d.out.c0
  go_wp2
  go_region_held3 (fun w' => w'.cell? ⟨w.heap.size, 0, none⟩ = some (.int .i64 K)) (first | exact X5.out.c0 | exact X4.out.c0 | exact X3.out.c0 | exact c0) (first | (go_at_call 49; refine (BR.out _).mono ?_; rintro e w3 ⟨rfl, hb3⟩; have X3 := hideP (X2d.out.next hb3); have T3 := hideP (T2d.out.below hb3 T2d.out.2); clear hb3) | (go_at_call 50; refine (ties_two' K us (strike sA sB) _ T3.out hK8 (okB_iff.1 HNO.out).2.2 (ok_short (okB_iff.1 HNO.out)) HBF.out HLT.out).mono ?_; rintro e w4 ⟨aoU, capU, rfl, ho4, hb4⟩; have X4 := hideP (X3.out.next hb4); have T4 := hideP (T3.out.below hb4 T3.out.2); have U4 := hideP (ho4.ties (Nat.le_refl _)); clear hb4 ho4) | (go_at_call 48; refine (implParts_any K aoU capU us _ hun U4.out T4.out).mono ?_; rintro e w5 ⟨aoP, capP, rfl, ho5, hb5⟩; have X5 := hideP (X4.out.next hb5); have O5 := hideP ho5; clear hb5 ho5))
  have HO : Hid (OwnR w5 w.heap.size w5.heap.size aoP (partN K us) (pcellN (topN us))) := by
    rcases O5.out with h | ⟨g, e, h1, h2, h3⟩
    · exact Or.inl h
    · exact Or.inr ⟨g, e, Nat.le_trans X4.out.B.size h1, h2, h3⟩
  clear O5 X3 X4 T3 T4 U4
  go_wp2
  go_ret
  rw [HKK.out, ← HUS.out]
  exact ⟨aoP, capP, rfl, HO.out, X5.out.B⟩

end Go.Proofs.YtmkbeiiifikbgaaDoor
