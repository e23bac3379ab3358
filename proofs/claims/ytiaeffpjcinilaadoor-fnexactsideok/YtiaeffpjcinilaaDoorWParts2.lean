/- Walk of spec.WayParts. -/
import Derived.Test.YtiaeffpjcinilaaDoorWParts
namespace Go.Proofs.YtiaeffpjcinilaaDoor
open Go.RowKit
set_option linter.unusedVariables false

theorem specOk_is (v : Bool) (K : Int) (ao : Option Addr) (cap : Nat) (ts : List (Int × Int)) (w : World) (hn : ts.length ≤ 1099511627776) (ht : TiesIn w w.heap.size ao ts) (h : okB K ts = v) :
    Calls Tryd.prog 21 #[.agg #[.int .i64 K, .slice ao ts.length cap]] w fun e w' => e = .returned (.bool v) ∧ Below w.heap.size w w' := by
  rw [← h]; exact specOk_any K ao cap ts w hn ht
theorem specReach_ok (Kn : Nat) (ao : Option Addr) (cap : Nat) (ts : List (Int × Int)) (x : Nat) (w : World) (hn : ts.length ≤ 1099511627776) (ht : TiesIn w w.heap.size ao ts) (hok : okB (Kn : Int) ts = true) (hx : x < Kn) :
    Calls Tryd.prog 68 #[.agg #[.int .i64 (Kn : Int), .slice ao ts.length cap], .int .i64 (x : Int)] w fun e w' => ∃ g cap', e = .returned (.slice (some ⟨g, 0, none⟩) Kn cap') ∧ OwnI w' g Kn (bcell (reachB ts x)) ∧ Below w.heap.size w w' := by
  refine (specReach_any (Kn : Int) ao cap ts (x : Int) w hn ht).mono ?_
  rintro e w' ⟨ao', cap', rfl, ho, hb⟩
  have hN : reachN (Kn : Int) ts (x : Int) = Kn := by
    have hk : knotB (x : Int) (Kn : Int) = true := by simp [knotB]; omega
    simp [reachN, hok, hk]
  rw [hN] at ho ⊢
  rcases ho with ⟨h0, _⟩ | ⟨g, rfl, _, _, ho⟩
  · omega
  · exact ⟨g, cap', rfl, ho, hb⟩

set_option maxHeartbeats 1600000 in
theorem specParts_any (K : Int) (ao : Option Addr) (cap : Nat) (ts : List (Int × Int)) (w : World) (hn : ts.length ≤ 1099511627776) (ht : TiesIn w w.heap.size ao ts) :
    Calls Tryd.prog 75 #[.agg #[.int .i64 K, .slice ao ts.length cap]] w fun e w' => ∃ g off cap', e = .returned (.slice (some ⟨g, off, none⟩) (partN K ts) cap') ∧ RowS w' w.heap.size g off cap' ((List.range (partN K ts)).map (topN ts)) ∧ Below w.heap.size w w' := by
  obtain ⟨i1, hj, hy0, hy1, hy2⟩ := info_parts Tryd.infoInt
  have HI1 : Hid (Tryd.prog.info? 3 = some i1 ∧ i1.zero = some (.int .i64 0) ∧ i1.size = 1 ∧ i1.bytes = 8) := ⟨hj, hy0, hy1, hy2⟩
  have X0 := fun (t u : TypeId) => (Bx.start w K (.slice ao ts.length cap) t).next (below_one _ (.cells #[] u))
  have R0 : ∀ t u : TypeId, RowS ((w.alloc (.cells #[.int .i64 K, .slice ao ts.length cap] t)).alloc (.cells #[] u)) (w.heap.size + 1) (w.heap.size + 1) 0 0 [] := fun t u => by
    have h := RowS.new (w.alloc (.cells #[.int .i64 K, .slice ao ts.length cap] t)) u
    have e : (w.alloc (.cells #[.int .i64 K, .slice ao ts.length cap] t)).heap.size = w.heap.size + 1 := by simp
    rw [e] at h
    exact h
  have HX0 := hideP X0
  have HR0 := hideP R0
  have HT := hideP ht
  clear X0 R0 ht hj hy0 hy1 hy2
  cases hok : okB K ts
  · have HN : Hid (partN K ts = 0) := by show partN K ts = 0; simp [partN, hok]
    have HOK := hideP hok
    clear hok
    go_enter Tryd.func75, Tryd.ntmps75
    go_wp2_with fail
    refine (specOk_is false K ao cap ts _ hn ((HT.out.below (HX0.out _ _).B (Nat.le_refl _)).wide (Nat.le_of_lt (HX0.out _ _).lt)) HOK.out).mono ?_
    rintro e w1 ⟨rfl, hb1⟩
    have X1 := hideP ((HX0.out _ _).next hb1)
    have R1 := hideP (((HR0.out _ _).next hb1).down (Nat.le_succ _))
    clear hb1
    go_wp2
    go_ret
    exact ⟨w.heap.size + 1, 0, 0, by rw [HN.out]; rfl, by rw [HN.out]; exact R1.out, X1.out.B⟩
  have HN : Hid (partN K ts = K.toNat) := by show partN K ts = _; simp [partN, hok]
  have HOK := hideP hok
  have hnet := okB_iff.1 hok
  obtain ⟨Kn, hKn⟩ : ∃ n : Nat, K = (n : Int) := ⟨K.toNat, by have := hnet.1; omega⟩
  subst hKn
  have hK8 : Kn ≤ 8 := by have := hnet.2.1; omega
  clear hok hnet
  go_enter Tryd.func75, Tryd.ntmps75
  go_wp2_with fail
  refine (specOk_is true _ ao cap ts _ hn ((HT.out.below (HX0.out _ _).B (Nat.le_refl _)).wide (Nat.le_of_lt (HX0.out _ _).lt)) HOK.out).mono ?_
  rintro e w1 ⟨rfl, hb1⟩
  have X1 := hideP ((HX0.out _ _).next hb1)
  have R1 := hideP ((HR0.out _ _).next hb1)
  clear hb1
  go_wp2
  go_loopw [3, 4] (fun v i wr => ∃ k g off cap' : Nat, k ≤ Kn ∧ i = .int .i64 k ∧ v = .slice (some ⟨g, off, none⟩) k cap' ∧ RowS wr (w.heap.size + 1) g off cap' ((List.range k).map (topN ts)) ∧ Bx w wr (Kn : Int) (.slice ao ts.length cap))
    (fun _ i _ => Kn - (intOf i).toNat)
  case atStart => exact ⟨0, w.heap.size + 1, 0, 0, Nat.zero_le _, rfl, rfl, R1.out, X1.out⟩
  case round =>
    obtain ⟨k, g, off, cap', hk, rfl, rfl, hR, hX⟩ := hrel
    have c0 := hX.c0
    have c1 := hX.c1
    by_cases hlt : k < Kn
    · have hk1 : (k : Int) < (Kn : Int) := by omega
      have T1 := hideP ((HT.out.below hX.B (Nat.le_refl _)).wide (Nat.le_of_lt hX.lt))
      have hX' := hideP hX
      have hR' := hideP hR
      clear hX hR
      go_wp2_with fail
      refine (specReach_ok Kn ao cap ts k _ hn T1.out HOK.out hlt).mono ?_
      rintro e w2 ⟨g2, cap2, rfl, hO2, hb2⟩
      have X2 := hideP (hX'.out.next hb2)
      have R2 := hideP (hR'.out.next hb2)
      have O2 := hideP hO2
      clear hb2 c0 c1 hO2
      go_wp2
      go_loopw [6] (fun j wz => ∃ m : Nat, m ≤ topN ts k ∧ j = .int .i64 m ∧ wz = w2)
        (fun j _ => Kn - (intOf j).toNat)
      case atStart => exact ⟨0, Nat.zero_le _, rfl, rfl⟩
      case round =>
        obtain ⟨m, hm, rfl, rfl⟩ := hrel
        have htk := topN_le ts k
        have hm1 : (m : Int) < (Kn : Int) := by omega
        have hm0 : (0 : Int) ≤ (m : Int) := by omega
        have cm : wr.cell? ⟨g2, m, none⟩ = some (.bool (reachB ts k m)) := O2.out.1 m (by omega)
        by_cases hmt : m < topN ts k
        · have HH := hideP htk
          rw [reach_low ts k m hmt] at cm
          go_wp2
          go_roundw
          case rel => exact ⟨m + 1, by omega, by go_num, trivial⟩
          case measure => simp [intOf]; omega
        · obtain rfl : m = topN ts k := by omega
          rw [reach_top ts k] at cm
          obtain ⟨t, ht⟩ : ∃ t, t = topN ts k := ⟨_, rfl⟩
          have HTT := hideP ht
          have HRR : Hid (∀ r : World, RowS r (w.heap.size + 1) g off cap' ((List.range k).map (topN ts)) → True) := fun _ _ => trivial
          rw [← ht] at cm hm0 hm1 ⊢
          have bo := below_one wr (.cells #[.int .i64 (t : Int)] 3)
          have XB := hideP (X2.out.next bo)
          have RB := hideP (R2.out.next bo)
          clear ht hm htk hmt bo HRR
          go_wp2_with (at_builtin; refine wpList_append_rowS _ rfl _ _ 27 rfl (w.heap.size + 1) 3 i1 Tryd.underlying27 HI1.out.1 HI1.out.2.1 HI1.out.2.2.1 HI1.out.2.2.2 g off cap' ((List.range k).map (topN ts)) k (by simp) rfl RB.out wr.heap.size t rfl ?_ ?_ ?_ ?_)
          · rw [World.cell?_alloc_at _ _ _ _ rfl]; rfl
          · simp; omega
          · exact XB.out.lt
          intro g4 off4 cap4 w4 hR4 hg4 ht4
          have X4 := hideP (XB.out.turn ht4 RB.out.lo)
          have R4 : Hid (RowS w4 (w.heap.size + 1) g4 off4 cap4 ((List.range (k + 1)).map (topN ts))) := by
            show RowS w4 (w.heap.size + 1) g4 off4 cap4 ((List.range (k + 1)).map (topN ts))
            rw [List.range_succ, List.map_append]
            rw [HTT.out] at hR4
            exact hR4
          clear hR4 ht4 hg4
          go_wp2
          refine ⟨⟨k + 1, g4, off4, cap4, by omega, by go_num, rfl, R4.out, X4.out⟩, ?_⟩
          simp [intOf]; omega
    · obtain rfl : k = Kn := by omega
      have HR := hideP (hR.down (Nat.le_succ _))
      have HB := hideP hX.B
      clear hR hX
      go_wp2
      go_ret
      refine ⟨g, off, cap', ?_, ?_, HB.out⟩
      · rw [HN.out]; rfl
      · rw [HN.out]; exact HR.out

end Go.Proofs.YtiaeffpjcinilaaDoor
