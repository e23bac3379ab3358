/- Texts put together: WParts2, WCount, Math4, MathL. -/
import Derived.Test.YticoiolpofibdaaDoorPart9
import Derived.Test.YticoiolpofibdaaDoorPart3
import Derived.Test.YticoiolpofibdaaDoorPart2
import Derived.Test.YticoiolpofibdaaDoorPart4
/- Walk of spec.WayParts. -/
namespace Go.Proofs.YticoiolpofibdaaDoor
open Go.RowKit
set_option linter.unusedVariables false

theorem specOk_is (v : Bool) (K : Int) (ao : Option Addr) (cap : Nat) (ts : List (Int × Int)) (w : World) (hn : ts.length ≤ 1099511627776) (ht : TiesIn w w.heap.size ao ts) (h : okB K ts = v) :
    Calls Tryd.prog 32 #[.agg #[.int .i64 K, .slice ao ts.length cap]] w fun e w' => e = .returned (.bool v) ∧ Below w.heap.size w w' := by
  rw [← h]; exact specOk_any K ao cap ts w hn ht
theorem specReach_ok (Kn : Nat) (ao : Option Addr) (cap : Nat) (ts : List (Int × Int)) (x : Nat) (w : World) (hn : ts.length ≤ 1099511627776) (ht : TiesIn w w.heap.size ao ts) (hok : okB (Kn : Int) ts = true) (hx : x < Kn) :
    Calls Tryd.prog 66 #[.agg #[.int .i64 (Kn : Int), .slice ao ts.length cap], .int .i64 (x : Int)] w fun e w' => ∃ g cap', e = .returned (.slice (some ⟨g, 0, none⟩) Kn cap') ∧ OwnI w' g Kn (bcell (reachB ts x)) ∧ Below w.heap.size w w' := by
  refine (specReach_any (Kn : Int) ao cap ts (x : Int) w hn ht).mono ?_
  rintro e w' ⟨ao', cap', rfl, ho, hb⟩
  have hN : reachN (Kn : Int) ts (x : Int) = Kn := by
    have hk : knotB (x : Int) (Kn : Int) = true := by simp [knotB]; omega
    simp [reachN, hok, hk]
  rw [hN] at ho ⊢
  rcases ho with ⟨h0, _⟩ | ⟨g, rfl, _, _, ho⟩
  · omega
  · exact ⟨g, cap', rfl, ho, hb⟩

set_option maxHeartbeats 1600000 in
theorem specParts_any (K : Int) (ao : Option Addr) (cap : Nat) (ts : List (Int × Int)) (w : World) (hn : ts.length ≤ 1099511627776) (ht : TiesIn w w.heap.size ao ts) :
    Calls Tryd.prog 83 #[.agg #[.int .i64 K, .slice ao ts.length cap]] w fun e w' => ∃ g off cap', e = .returned (.slice (some ⟨g, off, none⟩) (partN K ts) cap') ∧ RowS w' w.heap.size g off cap' ((List.range (partN K ts)).map (topN ts)) ∧ Below w.heap.size w w' := by
  obtain ⟨i1, hj, hy0, hy1, hy2⟩ := info_parts Tryd.infoInt
  have HI1 : Hid (Tryd.prog.info? 3 = some i1 ∧ i1.zero = some (.int .i64 0) ∧ i1.size = 1 ∧ i1.bytes = 8) := ⟨hj, hy0, hy1, hy2⟩
  have X0 := fun (t u : TypeId) => (Bx.start w K (.slice ao ts.length cap) t).next (below_one _ (.cells #[] u))
  have R0 : ∀ t u : TypeId, RowS ((w.alloc (.cells #[.int .i64 K, .slice ao ts.length cap] t)).alloc (.cells #[] u)) (w.heap.size + 1) (w.heap.size + 1) 0 0 [] := fun t u => by
    have h := RowS.new (w.alloc (.cells #[.int .i64 K, .slice ao ts.length cap] t)) u
    have e : (w.alloc (.cells #[.int .i64 K, .slice ao ts.length cap] t)).heap.size = w.heap.size + 1 := by simp
    rw [e] at h
    exact h
  have HX0 := hideP X0
  have HR0 := hideP R0
  have HT := hideP ht
  clear X0 R0 ht hj hy0 hy1 hy2
  cases hok : okB K ts
  · have HN : Hid (partN K ts = 0) := by show partN K ts = 0; simp [partN, hok]
    have HOK := hideP hok
    clear hok
    go_enter Tryd.func83, Tryd.ntmps83
    go_wp2_with fail
    refine (specOk_is false K ao cap ts _ hn ((HT.out.below (HX0.out _ _).B (Nat.le_refl _)).wide (Nat.le_of_lt (HX0.out _ _).lt)) HOK.out).mono ?_
    rintro e w1 ⟨rfl, hb1⟩
    have X1 := hideP ((HX0.out _ _).next hb1)
    have R1 := hideP (((HR0.out _ _).next hb1).down (Nat.le_succ _))
    clear hb1
    go_wp2
    go_ret
    exact ⟨w.heap.size + 1, 0, 0, by rw [HN.out]; rfl, by rw [HN.out]; exact R1.out, X1.out.B⟩
  have HN : Hid (partN K ts = K.toNat) := by show partN K ts = _; simp [partN, hok]
  have HOK := hideP hok
  have hnet := okB_iff.1 hok
  obtain ⟨Kn, hKn⟩ : ∃ n : Nat, K = (n : Int) := ⟨K.toNat, by have := hnet.1; omega⟩
  subst hKn
  have hK8 : Kn ≤ 8 := by have := hnet.2.1; omega
  clear hok hnet
  go_enter Tryd.func83, Tryd.ntmps83
  go_wp2_with fail
  refine (specOk_is true _ ao cap ts _ hn ((HT.out.below (HX0.out _ _).B (Nat.le_refl _)).wide (Nat.le_of_lt (HX0.out _ _).lt)) HOK.out).mono ?_
  rintro e w1 ⟨rfl, hb1⟩
  have X1 := hideP ((HX0.out _ _).next hb1)
  have R1 := hideP ((HR0.out _ _).next hb1)
  clear hb1
  go_wp2
  go_loopw [3, 4] (fun v i wr => ∃ k g off cap' : Nat, k ≤ Kn ∧ i = .int .i64 k ∧ v = .slice (some ⟨g, off, none⟩) k cap' ∧ RowS wr (w.heap.size + 1) g off cap' ((List.range k).map (topN ts)) ∧ Bx w wr (Kn : Int) (.slice ao ts.length cap))
    (fun _ i _ => Kn - (intOf i).toNat)
  case atStart => exact ⟨0, w.heap.size + 1, 0, 0, Nat.zero_le _, rfl, rfl, R1.out, X1.out⟩
  case round =>
    obtain ⟨k, g, off, cap', hk, rfl, rfl, hR, hX⟩ := hrel
    have c0 := hX.c0
    have c1 := hX.c1
    by_cases hlt : k < Kn
    · have hk1 : (k : Int) < (Kn : Int) := by omega
      have T1 := hideP ((HT.out.below hX.B (Nat.le_refl _)).wide (Nat.le_of_lt hX.lt))
      have hX' := hideP hX
      have hR' := hideP hR
      clear hX hR
      go_wp2_with fail
      refine (specReach_ok Kn ao cap ts k _ hn T1.out HOK.out hlt).mono ?_
      rintro e w2 ⟨g2, cap2, rfl, hO2, hb2⟩
      have X2 := hideP (hX'.out.next hb2)
      have R2 := hideP (hR'.out.next hb2)
      have O2 := hideP hO2
      clear hb2 c0 c1 hO2
      go_wp2
      go_loopw [6] (fun j wz => ∃ m : Nat, m ≤ topN ts k ∧ j = .int .i64 m ∧ wz = w2)
        (fun j _ => Kn - (intOf j).toNat)
      case atStart => exact ⟨0, Nat.zero_le _, rfl, rfl⟩
      case round =>
        obtain ⟨m, hm, rfl, rfl⟩ := hrel
        have htk := topN_le ts k
        have hm1 : (m : Int) < (Kn : Int) := by omega
        have hm0 : (0 : Int) ≤ (m : Int) := by omega
        have cm : wr.cell? ⟨g2, m, none⟩ = some (.bool (reachB ts k m)) := O2.out.1 m (by omega)
        by_cases hmt : m < topN ts k
        · have HH := hideP htk
          rw [reach_low ts k m hmt] at cm
          go_wp2
          go_roundw
          case rel => exact ⟨m + 1, by omega, by go_num, trivial⟩
          case measure => simp [intOf]; omega
        · obtain rfl : m = topN ts k := by omega
          rw [reach_top ts k] at cm
          obtain ⟨t, ht⟩ : ∃ t, t = topN ts k := ⟨_, rfl⟩
          have HTT := hideP ht
          have HRR : Hid (∀ r : World, RowS r (w.heap.size + 1) g off cap' ((List.range k).map (topN ts)) → True) := fun _ _ => trivial
          rw [← ht] at cm hm0 hm1 ⊢
          have bo := below_one wr (.cells #[.int .i64 (t : Int)] 3)
          have XB := hideP (X2.out.next bo)
          have RB := hideP (R2.out.next bo)
          clear ht hm htk hmt bo HRR
          go_wp2_with (at_builtin; refine wpList_append_rowS _ rfl _ _ 30 rfl (w.heap.size + 1) 3 i1 Tryd.underlying30 HI1.out.1 HI1.out.2.1 HI1.out.2.2.1 HI1.out.2.2.2 g off cap' ((List.range k).map (topN ts)) k (by simp) rfl RB.out wr.heap.size t rfl ?_ ?_ ?_ ?_)
          · rw [World.cell?_alloc_at _ _ _ _ rfl]; rfl
          · simp; omega
          · exact XB.out.lt
          intro g4 off4 cap4 w4 hR4 hg4 ht4
          have X4 := hideP (XB.out.turn ht4 RB.out.lo)
          have R4 : Hid (RowS w4 (w.heap.size + 1) g4 off4 cap4 ((List.range (k + 1)).map (topN ts))) := by
            show RowS w4 (w.heap.size + 1) g4 off4 cap4 ((List.range (k + 1)).map (topN ts))
            rw [List.range_succ, List.map_append]
            rw [HTT.out] at hR4
            exact hR4
          clear hR4 ht4 hg4
          go_wp2
          refine ⟨⟨k + 1, g4, off4, cap4, by omega, by go_num, rfl, R4.out, X4.out⟩, ?_⟩
          simp [intOf]; omega
    · obtain rfl : k = Kn := by omega
      have HR := hideP (hR.down (Nat.le_succ _))
      have HB := hideP hX.B
      clear hR hX
      go_wp2
      go_ret
      refine ⟨g, off, cap', ?_, ?_, HB.out⟩
      · rw [HN.out]; rfl
      · rw [HN.out]; exact HR.out

end Go.Proofs.YticoiolpofibdaaDoor

/- Walks of impl.WayCount, spec.WayCount. -/
namespace Go.Proofs.YticoiolpofibdaaDoor
open Go.RowKit
set_option linter.unusedVariables false

def cnt (ts : List (Int × Int)) : Nat → Nat
  | 0 => 0
  | n + 1 => cnt ts n + if topN ts n = n then 1 else 0
theorem cnt_yes {ts : List (Int × Int)} {n : Nat} (h : topN ts n = n) : cnt ts (n + 1) = cnt ts n + 1 := by simp [cnt, h]
theorem cnt_no {ts : List (Int × Int)} {n : Nat} (h : ¬ topN ts n = n) : cnt ts (n + 1) = cnt ts n := by simp [cnt, h]
theorem cnt_le (ts : List (Int × Int)) : ∀ n, cnt ts n ≤ n := by
  intro n
  induction n with
  | zero => exact Nat.le_refl _
  | succ n ih => simp only [cnt]; split <;> omega
def countV (K : Int) (ts : List (Int × Int)) : Int := if okB K ts = true then (cnt ts K.toNat : Int) else -1
theorem OwnR.at {w : World} {lo hi n : Nat} {ao : Option Addr} {f : Nat → Value} (h : OwnR w lo hi ao n f) {j : Nat} (hj : j < n) : ∃ g, ao = some ⟨g, 0, none⟩ ∧ w.cell? ⟨g, j, none⟩ = some (f j) := by
  rcases h with ⟨h0, _⟩ | ⟨g, e, _, _, ho⟩
  · omega
  · exact ⟨g, e, ho.1 j hj⟩
theorem netOk_v (v : Bool) (K : Int) (ao : Option Addr) (cap : Nat) (ts : List (Int × Int)) (w : World) (hn : ts.length ≤ 1099511627776) (ht : TiesIn w w.heap.size ao ts) (h : okB K ts = v) :
    Calls Tryd.prog 62 #[.agg #[.int .i64 K, .slice ao ts.length cap]] w fun e w' => e = .returned (.bool v) ∧ Below w.heap.size w w' := by
  rw [← h]; exact netOk_any K ao cap ts w hn ht
set_option maxHeartbeats 800000 in
theorem implCount_any (K : Int) (ao : Option Addr) (cap : Nat) (ts : List (Int × Int)) (w : World) (hn : ts.length ≤ 1099511627776) (ht : TiesIn w w.heap.size ao ts) (hT : Tab w) :
    Calls Tryd.prog 20 #[.agg #[.int .i64 K, .slice ao ts.length cap]] w fun e w' => e = .returned (.int .i64 (countV K ts)) ∧ Below w.heap.size w w' := by
  have X0 := fun (t : TypeId) => Bx.start w K (.slice ao ts.length cap) t
  have HX0 := hideP X0
  have HT := hideP ht
  have HTab := hideP hT
  clear X0 ht hT
  cases hok : okB K ts
  · have HV : Hid (countV K ts = -1) := by show countV K ts = -1; simp [countV, hok]
    have HOK := hideP hok
    clear hok
    go_enter Tryd.func20, Tryd.ntmps20
    go_wp2_with fail
    refine (netOk_v false K ao cap ts _ hn ((HT.out.below (HX0.out _).B (Nat.le_refl _)).wide (Nat.le_of_lt (HX0.out _).lt)) HOK.out).mono ?_
    rintro e w1 ⟨rfl, hb1⟩
    have HB := hideP ((HX0.out _).next hb1).B
    clear hb1
    go_wp2
    go_ret
    exact ⟨by rw [HV.out]; rfl, HB.out⟩
  have hnet := okB_iff.1 hok
  have HOK := hideP hok
  have HV : Hid (countV K ts = (cnt ts K.toNat : Int)) := by show countV K ts = _; simp [countV, hok]
  have HPN : Hid (partN K ts = K.toNat) := by show partN K ts = _; simp [partN, hok]
  obtain ⟨Kn, hKn⟩ : ∃ n : Nat, K = (n : Int) := ⟨K.toNat, by have := hnet.1; omega⟩
  subst hKn
  have hK8 : Kn ≤ 8 := by have := hnet.2.1; omega
  clear hok hnet
  go_enter Tryd.func20, Tryd.ntmps20
  go_wp2_with fail
  refine (netOk_v true _ ao cap ts _ hn ((HT.out.below (HX0.out _).B (Nat.le_refl _)).wide (Nat.le_of_lt (HX0.out _).lt)) HOK.out).mono ?_
  rintro e w1 ⟨rfl, hb1⟩
  have X1 := hideP ((HX0.out _).next hb1)
  have T1 := hideP ((HT.out.below X1.out.B (Nat.le_refl _)).wide (Nat.le_of_lt X1.out.lt))
  have TB1 := hideP (HTab.out.below X1.out.B HTab.out.2)
  have c0 := X1.out.c0
  have c1 := X1.out.c1
  clear hb1
  go_wp2_with fail
  refine (implParts_any _ ao cap ts _ hn T1.out TB1.out).mono ?_
  rw [HPN.out]
  simp only [Int.toNat_natCast]
  rintro e w2 ⟨ao2, cap2, rfl, ho2, hb2⟩
  have O2 := hideP ho2
  have B2 := hideP (X1.out.next hb2).B
  clear hb2 ho2 c0 c1
  go_wp2
  go_loopw [3, 12] (fun c i wr => ∃ k : Nat, k ≤ Kn ∧ i = .int .i64 k ∧ c = .int .i64 ((cnt ts k : Nat) : Int) ∧ wr = w2)
    (fun _ i _ => Kn - (intOf i).toNat)
  case atStart => exact ⟨0, Nat.zero_le _, rfl, rfl, rfl⟩
  case round =>
    obtain ⟨k, hk, rfl, rfl, rfl⟩ := hrel
    by_cases hlt : k < Kn
    · obtain ⟨g, rfl, cg⟩ := O2.out.at hlt
      have hcl := cnt_le ts k
      have cg' : wr.cell? ⟨g, k, none⟩ = some (.int .i64 ((topN ts k : Nat) : Int)) := cg
      have hk0 : (0 : Int) ≤ (k : Int) := by omega
      have hk1 : (k : Int) < (Kn : Int) := by omega
      clear cg
      by_cases htk : topN ts k = k
      · have HC := hideP (cnt_yes htk)
        rw [htk] at cg'
        clear htk
        go_wp2
        go_roundw
        case rel => exact ⟨k + 1, by omega, by go_num, by rw [HC.out]; go_num, trivial⟩
        case measure => simp [intOf]; omega
      · have HC := hideP (cnt_no htk)
        obtain ⟨t, ht⟩ : ∃ t, t = topN ts k := ⟨_, rfl⟩
        rw [← ht] at cg' htk
        have hne : ((k : Int) == (t : Int)) = false := by simp; omega
        clear ht htk
        go_wp2
        go_roundw
        case rel => exact ⟨k + 1, by omega, by go_num, by rw [HC.out], trivial⟩
        case measure => simp [intOf]; omega
    · obtain rfl : k = Kn := by omega
      go_wp2
      go_ret
      exact ⟨by rw [HV.out]; rfl, B2.out⟩
set_option maxHeartbeats 800000 in
theorem specCount_any (K : Int) (ao : Option Addr) (cap : Nat) (ts : List (Int × Int)) (w : World) (hn : ts.length ≤ 1099511627776) (ht : TiesIn w w.heap.size ao ts) :
    Calls Tryd.prog 59 #[.agg #[.int .i64 K, .slice ao ts.length cap]] w fun e w' => e = .returned (.int .i64 (countV K ts)) ∧ Below w.heap.size w w' := by
  have X0 := fun (t : TypeId) => Bx.start w K (.slice ao ts.length cap) t
  have HX0 := hideP X0
  have HT := hideP ht
  clear X0 ht
  cases hok : okB K ts
  · have HV : Hid (countV K ts = -1) := by show countV K ts = -1; simp [countV, hok]
    have HOK := hideP hok
    clear hok
    go_enter Tryd.func59, Tryd.ntmps59
    go_wp2_with fail
    refine (specOk_is false K ao cap ts _ hn ((HT.out.below (HX0.out _).B (Nat.le_refl _)).wide (Nat.le_of_lt (HX0.out _).lt)) HOK.out).mono ?_
    rintro e w1 ⟨rfl, hb1⟩
    have HB := hideP ((HX0.out _).next hb1).B
    clear hb1
    go_wp2
    go_ret
    exact ⟨by rw [HV.out]; rfl, HB.out⟩
  have hnet := okB_iff.1 hok
  have HOK := hideP hok
  have HV : Hid (countV K ts = (cnt ts K.toNat : Int)) := by show countV K ts = _; simp [countV, hok]
  have HPN : Hid (partN K ts = K.toNat) := by show partN K ts = _; simp [partN, hok]
  obtain ⟨Kn, hKn⟩ : ∃ n : Nat, K = (n : Int) := ⟨K.toNat, by have := hnet.1; omega⟩
  subst hKn
  have hK8 : Kn ≤ 8 := by have := hnet.2.1; omega
  clear hok hnet
  go_enter Tryd.func59, Tryd.ntmps59
  go_wp2_with fail
  refine (specOk_is true _ ao cap ts _ hn ((HT.out.below (HX0.out _).B (Nat.le_refl _)).wide (Nat.le_of_lt (HX0.out _).lt)) HOK.out).mono ?_
  rintro e w1 ⟨rfl, hb1⟩
  have X1 := hideP ((HX0.out _).next hb1)
  have T1 := hideP ((HT.out.below X1.out.B (Nat.le_refl _)).wide (Nat.le_of_lt X1.out.lt))
  have c0 := X1.out.c0
  have c1 := X1.out.c1
  clear hb1
  go_wp2_with fail
  refine (specParts_any _ ao cap ts _ hn T1.out).mono ?_
  rw [HPN.out]
  simp only [Int.toNat_natCast]
  rintro e w2 ⟨g, off, cap2, rfl, ho2, hb2⟩
  have O2 := hideP ho2
  have B2 := hideP (X1.out.next hb2).B
  clear hb2 ho2 c0 c1
  go_wp2
  go_loopw [4, 5] (fun c i wr => ∃ k : Nat, k ≤ Kn ∧ i = .int .i64 k ∧ c = .int .i64 ((cnt ts k : Nat) : Int) ∧ wr = w2)
    (fun _ i _ => Kn - (intOf i).toNat)
  case atStart => exact ⟨0, Nat.zero_le _, rfl, rfl, rfl⟩
  case round =>
    obtain ⟨k, hk, rfl, rfl, rfl⟩ := hrel
    by_cases hlt : k < Kn
    · have cg' : wr.cell? ⟨g, off + k, none⟩ = some (.int .i64 ((topN ts k : Nat) : Int)) := by
        rw [O2.out.cells k (by simpa using hlt)]
        simp [ncell, hlt]
      have hcl := cnt_le ts k
      have hk0 : (0 : Int) ≤ (k : Int) := by omega
      have hk1 : (k : Int) < (Kn : Int) := by omega
      by_cases htk : topN ts k = k
      · have HC := hideP (cnt_yes htk)
        rw [htk] at cg'
        clear htk
        go_wp2
        go_roundw
        case rel => exact ⟨k + 1, by omega, by go_num, by rw [HC.out]; go_num, trivial⟩
        case measure => simp [intOf]; omega
      · have HC := hideP (cnt_no htk)
        obtain ⟨t, ht⟩ : ∃ t, t = topN ts k := ⟨_, rfl⟩
        rw [← ht] at cg' htk
        have hne : ((t : Int) == (k : Int)) = false := by simp; omega
        clear ht htk
        go_wp2
        go_roundw
        case rel => exact ⟨k + 1, by omega, by go_num, by rw [HC.out], trivial⟩
        case measure => simp [intOf]; omega
    · obtain rfl : k = Kn := by omega
      go_wp2
      go_ret
      exact ⟨by rw [HV.out]; rfl, B2.out⟩
theorem reachB_turn (ts : List (Int × Int)) (a b : Nat) : reachB ts a b = reachB ts b a := by
  unfold reachB
  by_cases h : top (forest ts ts.length) b = top (forest ts ts.length) a
  · rw [decide_eq_true h, decide_eq_true h.symm]
  · rw [decide_eq_false h, decide_eq_false (fun e => h e.symm)]
theorem reachB_self (ts : List (Int × Int)) (a : Nat) : reachB ts a a = true := by simp [reachB]
theorem reachB_tie (ts : List (Int × Int)) (k i : Nat) (hi : i < ts.length) : reachB ts k (tA ts i).toNat = reachB ts k (tB ts i).toNat := by
  have h : top (forest ts ts.length) (tA ts i).toNat = top (forest ts ts.length) (tB ts i).toNat := (forest_cn ts ts.length _ _).2 ((Cn.refl _).fwd ⟨i, hi, rfl, rfl⟩)
  unfold reachB; rw [h]
theorem topN_reach (ts : List (Int × Int)) (i k : Nat) : decide (topN ts i = topN ts k) = reachB ts i k := by
  unfold reachB topN
  by_cases h : top (forest ts ts.length) i = top (forest ts ts.length) k
  · rw [decide_eq_true h, decide_eq_true h.symm]
  · rw [decide_eq_false h, decide_eq_false (fun e => h e.symm)]
theorem topN_top (ts : List (Int × Int)) (k : Nat) : topN ts (topN ts k) = topN ts k := top_top (forest_low ts _) k

def cntF (f : Nat → Nat) : Nat → Nat
  | 0 => 0
  | n + 1 => cntF f n + if top f n = n then 1 else 0
theorem cnt_is (ts : List (Int × Int)) : ∀ n, cnt ts n = cntF (forest ts ts.length) n := by
  intro n
  induction n with
  | zero => rfl
  | succ n ih =>
    show cnt ts n + (if topN ts n = n then 1 else 0) = cntF (forest ts ts.length) n + (if top (forest ts ts.length) n = n then 1 else 0)
    rw [ih]; rfl
theorem cntF_congr {f g : Nat → Nat} : ∀ n, (∀ k, k < n → (top f k = k ↔ top g k = k)) → cntF f n = cntF g n := by
  intro n
  induction n with
  | zero => intro _; rfl
  | succ n ih =>
    intro h
    simp only [cntF]
    rw [ih (fun k hk => h k (by omega))]
    have := h n (by omega)
    by_cases e : top f n = n
    · rw [if_pos e, if_pos (this.1 e)]
    · rw [if_neg e, if_neg (fun e2 => e (this.2 e2))]
theorem cntF_less {f g : Nat → Nat} {m : Nat} (hf : top f m = m) (hg : ¬ top g m = m) (h : ∀ k, k ≠ m → (top f k = k ↔ top g k = k)) : ∀ n, m < n → cntF g n + 1 = cntF f n := by
  intro n
  induction n with
  | zero => intro h; omega
  | succ n ih =>
    intro hm
    simp only [cntF]
    by_cases e : n = m
    · subst e
      rw [if_pos hf, if_neg hg, cntF_congr (f := g) (g := f) n (fun k hk => (h k (by omega)).symm)]
    · have h1 := ih (by omega)
      have h2 := h n e
      by_cases e2 : top f n = n
      · rw [if_pos e2, if_pos (h2.1 e2)]; omega
      · rw [if_neg e2, if_neg (fun e3 => e2 (h2.2 e3))]; omega
theorem join_same {f : Nat → Nat} (hl : Low f) {a b : Nat} (h : top f a = top f b) (n : Nat) : cntF (join f a b) n = cntF f n := by
  refine cntF_congr n (fun k _ => ?_)
  rw [join_top hl]
  by_cases e : top f k = max (top f a) (top f b)
  · rw [if_pos e]
    have e2 : min (top f a) (top f b) = top f k := by omega
    rw [e2]
  · rw [if_neg e]
theorem join_less {f : Nat → Nat} (hl : Low f) {a b : Nat} (h : top f a ≠ top f b) {n : Nat} (ha : a < n) (hb : b < n) : cntF (join f a b) n + 1 = cntF f n := by
  have ra := top_top hl a
  have rb := top_top hl b
  have la := top_le hl a
  have lb := top_le hl b
  have hmx : top f (max (top f a) (top f b)) = max (top f a) (top f b) := by
    by_cases hm : top f a ≤ top f b
    · rw [Nat.max_eq_right hm]; exact rb
    · rw [Nat.max_eq_left (by omega)]; exact ra
  have hmn : top f (min (top f a) (top f b)) = min (top f a) (top f b) := by
    by_cases hm : top f a ≤ top f b
    · rw [Nat.min_eq_left hm]; exact ra
    · rw [Nat.min_eq_right (by omega)]; exact rb
  refine cntF_less hmx ?_ ?_ n (by omega)
  · rw [join_top hl, hmx, if_pos rfl]; omega
  · intro k hk
    rw [join_top hl]
    by_cases e : top f k = max (top f a) (top f b)
    · rw [if_pos e]
      constructor
      · intro e2; omega
      · intro e2
        rw [← e2, hmn] at e
        omega
    · rw [if_neg e]

/-- fewer parts by one a tie at most -/
theorem cnt_low {K : Int} {ts : List (Int × Int)} (h : NetOk K ts) : K.toNat ≤ cnt ts K.toNat + ts.length := by
  rw [cnt_is]
  have key : ∀ m, m ≤ ts.length → K.toNat ≤ cntF (forest ts m) K.toNat + m := by
    intro m
    induction m with
    | zero =>
      intro _
      have : ∀ n, cntF (forest ts 0) n = n := by
        intro n
        induction n with
        | zero => rfl
        | succ n ih => simp only [cntF]; rw [ih, if_pos (top_fix rfl)]
      rw [this]; omega
    | succ m ih =>
      intro hm
      have h1 := ih (by omega)
      obtain ⟨q1, q2, q3⟩ := (h.2.2 m (by omega)).1
      show K.toNat ≤ cntF (join (forest ts m) (tA ts m).toNat (tB ts m).toNat) K.toNat + (m + 1)
      by_cases e : top (forest ts m) (tA ts m).toNat = top (forest ts m) (tB ts m).toNat
      · rw [join_same (forest_low ts m) e]; omega
      · have := join_less (forest_low ts m) e (n := K.toNat) (by omega) (by omega)
        omega
  exact key ts.length (Nat.le_refl _)

/-- what is least in its part, by what hangs together -/
theorem top_self_iff (ts : List (Int × Int)) (m k : Nat) : top (forest ts m) k = k ↔ ∀ j, j < k → ¬ Cn (Tied ts m) j k := by
  constructor
  · intro h j hj hc
    have h1 := (forest_cn ts m j k).2 hc
    have h2 := top_le (forest_low ts m) j
    omega
  · intro h
    apply Decidable.byContradiction
    intro hne
    have h1 := top_le (forest_low ts m) k
    exact h (top (forest ts m) k) (by omega) ((forest_cn ts m _ _).1 (top_top (forest_low ts m) k))
theorem forest_same {ts us : List (Int × Int)} : ∀ m, (∀ i, i < m → tA ts i = tA us i ∧ tB ts i = tB us i) → forest ts m = forest us m := by
  intro m
  induction m with
  | zero => intro _; rfl
  | succ m ih =>
    intro h
    show join (forest ts m) _ _ = join (forest us m) _ _
    rw [ih (fun i hi => h i (by omega)), (h m (by omega)).1, (h m (by omega)).2]
theorem Cn.iff {E E' : Nat → Nat → Prop} (h : ∀ x y, E x y ↔ E' x y) (x y : Nat) : Cn E x y ↔ Cn E' x y := ⟨Cn.mono fun a b => (h a b).1, Cn.mono fun a b => (h a b).2⟩

end Go.Proofs.YticoiolpofibdaaDoor

/- Plain mathematics of nets: striking one tie, and all ties of a knot, from the set of bits. -/
namespace Go.Proofs.YticoiolpofibdaaDoor

def isPair (a b : Int) : Prop := 0 ≤ min a b ∧ min a b < max a b ∧ max a b < 8
theorem pbit_bit (a b : Int) (j : Nat) : (pbit a b).testBit j = true ↔ isPair a b ∧ ix (tieOf a b) = j := by
  by_cases h : isPair a b
  · rw [pbit_yes h.1 h.2.1 h.2.2]
    unfold pb
    rw [Nat.testBit_two_pow, decide_eq_true_eq]
    exact ⟨fun e => ⟨h, e⟩, fun e => e.2⟩
  · rw [pbit_no (by unfold isPair at h; omega)]
    simp [h]
def other (t : Int × Int) (x : Int × Int) : Bool := decide (x ≠ t)
theorem bits_strike {K : Int} (hK : K ≤ 8) {m : Nat} {ts : List (Int × Int)} (hs : ∀ t, t ∈ ts → TieOk K t.1 t.2) (hm : m < 2 ^ 64) (h : BitsOf m ts) (a b : Int) : BitsOf (strike m (pbit a b)) (ts.filter (other (tieOf a b))) := by
  intro j
  rw [strike_bit m _ j hm (pbit_lt a b), Bool.and_eq_true, h j, Bool.not_eq_true', ← Bool.not_eq_true, pbit_bit]
  constructor
  · rintro ⟨⟨x, hx, e⟩, hn⟩
    refine ⟨x, List.mem_filter.2 ⟨hx, ?_⟩, e⟩
    simp only [other, decide_eq_true_eq]
    intro hxe
    apply hn
    obtain ⟨a0, a1, a2⟩ := hs x hx
    rw [hxe] at a0 a1 a2
    unfold tieOf at a0 a1 a2
    simp only at a0 a1 a2
    exact ⟨⟨a0, a1, by omega⟩, by rw [← hxe]; exact e⟩
  · rintro ⟨x, hx, e⟩
    obtain ⟨hx1, hx2⟩ := List.mem_filter.1 hx
    simp only [other, decide_eq_true_eq] at hx2
    refine ⟨⟨x, hx1, e⟩, fun ⟨hp, he⟩ => hx2 ?_⟩
    obtain ⟨a0, a1, a2⟩ := hs x hx1
    have := idx_inj a0 a1 (by omega) hp.1 hp.2.1 hp.2.2 (e.trans he.symm)
    exact Prod.ext this.1 this.2

/-- not tied to k by any of the first i -/
def apartTo (k : Int) (i : Nat) (x : Int × Int) : Bool := (List.range i).all fun o => other (tieOf k (o : Int)) x
theorem apart_succ (k : Int) (i : Nat) (ts : List (Int × Int)) : ts.filter (apartTo k (i + 1)) = (ts.filter (apartTo k i)).filter (other (tieOf k (i : Int))) := by
  rw [List.filter_filter]
  apply List.filter_congr
  intro x _
  simp only [apartTo, List.range_succ, List.all_append, List.all_cons, List.all_nil, Bool.and_true]
  rw [Bool.and_comm]
def notOf (k : Int) (x : Int × Int) : Bool := decide (x.1 ≠ k) && decide (x.2 ≠ k)
theorem apart_all {K : Int} (hK : K ≤ 8) (k : Int) {ts : List (Int × Int)} (hs : ∀ t, t ∈ ts → TieOk K t.1 t.2) : ts.filter (apartTo k 8) = ts.filter (notOf k) := by
  apply List.filter_congr
  intro x hx
  obtain ⟨a0, a1, a2⟩ := hs x hx
  rw [Bool.eq_iff_iff]
  simp only [apartTo, notOf, other, List.all_eq_true, List.mem_range, Bool.and_eq_true, decide_eq_true_eq]
  constructor
  · intro h
    constructor
    · intro e
      apply h x.2.toNat (by omega)
      have : ((x.2.toNat : Nat) : Int) = x.2 := by omega
      rw [this]
      apply Prod.ext
      · show x.1 = min k x.2; omega
      · show x.2 = max k x.2; omega
    · intro e
      apply h x.1.toNat (by omega)
      have : ((x.1.toNat : Nat) : Int) = x.1 := by omega
      rw [this]
      apply Prod.ext
      · show x.1 = min k x.1; omega
      · show x.2 = max k x.1; omega
  · rintro ⟨h1, h2⟩ o _ e
    have e1 : x.1 = min k (o : Int) := congrArg Prod.fst e
    have e2 : x.2 = max k (o : Int) := congrArg Prod.snd e
    omega
theorem filter_len (p : Int × Int → Bool) (ts : List (Int × Int)) : (ts.filter p).length ≤ ts.length := List.length_filter_le p ts

def cutB (K : Int) (ts : List (Int × Int)) (a b : Int) : Bool := hasB K ts a b
def cutK (K : Int) (ts : List (Int × Int)) (a b : Int) : Int := if cutB K ts a b = true then K else 0
def cutTs (K : Int) (ts : List (Int × Int)) (a b : Int) : List (Int × Int) := if cutB K ts a b = true then ts.filter (other (tieOf a b)) else []
theorem has_ok {K : Int} {ts : List (Int × Int)} {a b : Int} (h : hasB K ts a b = true) : okB K ts = true := by
  unfold hasB at h; simp only [Bool.and_eq_true] at h; exact h.1
theorem cutTs_len (K : Int) (ts : List (Int × Int)) (a b : Int) : (cutTs K ts a b).length ≤ 65 := by
  unfold cutTs
  split
  · rename_i h
    have := ok_short (okB_iff.1 (has_ok h))
    have := filter_len (other (tieOf a b)) ts
    omega
  · simp
theorem cut_good {K : Int} {ts : List (Int × Int)} {a b : Int} (h : hasB K ts a b = true) : Srt K (ts.filter (other (tieOf a b))) ∧ K ≤ 8 ∧ BitsOf (strike (setN K ts) (pbit a b)) (ts.filter (other (tieOf a b))) := by
  have hok := has_ok h
  obtain ⟨k0, k8, hs⟩ := ok_parts hok
  refine ⟨srt_filter hs _, k8, bits_strike k8 hs.1 (setN_lt K ts) ?_ a b⟩
  rw [setN_yes hok]; exact mask_bitsOf ts
def outB (K : Int) (ts : List (Int × Int)) (k : Int) : Bool := okB K ts && knotB k K
def outK (K : Int) (ts : List (Int × Int)) (k : Int) : Int := if outB K ts k = true then K else 0
def outTs (K : Int) (ts : List (Int × Int)) (k : Int) : List (Int × Int) := if outB K ts k = true then ts.filter (notOf k) else []
theorem out_ok {K : Int} {ts : List (Int × Int)} {k : Int} (h : outB K ts k = true) : okB K ts = true ∧ knotB k K = true := by
  unfold outB at h; simpa using h
theorem outTs_len (K : Int) (ts : List (Int × Int)) (k : Int) : (outTs K ts k).length ≤ 65 := by
  unfold outTs
  split
  · rename_i h
    have := ok_short (okB_iff.1 (out_ok h).1)
    have := filter_len (notOf k) ts
    omega
  · simp

end Go.Proofs.YticoiolpofibdaaDoor

/- Plain mathematics of nets that are tied and cut: what the laws say of them. No program stands here. -/
namespace Go.Proofs.YticoiolpofibdaaDoor
set_option linter.unusedVariables false

theorem ok_of_srt {K : Int} {ts : List (Int × Int)} (h0 : 0 ≤ K) (h8 : K ≤ 8) (h : Srt K ts) : okB K ts = true := okB_iff.2 (ok_srt.2 ⟨h0, h8, h⟩)
theorem hasB_mem {K : Int} {ts : List (Int × Int)} {a b : Int} (h : okB K ts = true) : hasB K ts a b = true ↔ tieOf a b ∈ ts := by
  rw [hasB_ok h]; exact tied_mem
theorem hasB_not {K : Int} {ts : List (Int × Int)} {a b : Int} (h : okB K ts = true) : hasB K ts a b = false ↔ tieOf a b ∉ ts := by
  rw [← Bool.not_eq_true, hasB_mem h]
theorem tieOf_turn (a b : Int) : tieOf b a = tieOf a b := by unfold tieOf; rw [Int.min_comm b a, Int.max_comm b a]
theorem hasB_turned (K : Int) (ts : List (Int × Int)) (a b : Int) : hasB K ts b a = hasB K ts a b := by
  unfold hasB; rw [Int.min_comm b a, Int.max_comm b a]
theorem mem_at {ts : List (Int × Int)} {i : Nat} (h : i < ts.length) : (tA ts i, tB ts i) ∈ ts := by
  rw [tA_get ts i h, tB_get ts i h]; exact List.getElem_mem h

theorem addTs_yes {K : Int} {ts : List (Int × Int)} {a b : Int} (h : addB K ts a b = true) : addTs K ts a b = ins (tieOf a b) ts := if_pos h
theorem cutTs_yes {K : Int} {ts : List (Int × Int)} {a b : Int} (h : cutB K ts a b = true) : cutTs K ts a b = ts.filter (other (tieOf a b)) := if_pos h
/-- who ties two knots ties these alone -/
structure Added (K : Int) (ts us : List (Int × Int)) (a b : Int) : Prop where
  ok : okB K us = true
  len : us.length = ts.length + 1
  has : hasB K us a b = true
  again : addB K us b a = false
  each : ∀ i, i < us.length → (tA us i = min a b ∧ tB us i = max a b) ∨ tiedB ts (tA us i) (tB us i) = true
theorem added {K : Int} {ts : List (Int × Int)} {a b : Int} (h : addB K ts a b = true) : Added K ts (addTs K ts a b) a b := by
  obtain ⟨hok, _⟩ := addB_yes h
  obtain ⟨h0, h8, _⟩ := ok_parts hok
  have e : addTs K ts a b = ins (tieOf a b) ts := by simp [addTs, h]
  rw [e]
  have ok := ok_of_srt h0 h8 (add_good h).1
  have has : hasB K (ins (tieOf a b) ts) a b = true := (hasB_mem ok).2 ((mem_ins _ _ _).2 (Or.inl rfl))
  refine ⟨ok, ins_length _ _, has, ?_, ?_⟩
  · rw [← Bool.not_eq_true]
    intro h2
    have := (addB_yes h2).2.2.2.2.2.2
    rw [hasB_turned, has] at this; cases this
  · intro i hi
    rcases (mem_ins _ _ _).1 (mem_at hi) with e1 | m1
    · left; unfold tieOf at e1; simp only [Prod.mk.injEq] at e1; exact e1
    · exact Or.inr (tied_mem.2 m1)
theorem addK_yes {K : Int} {ts : List (Int × Int)} {a b : Int} (h : addB K ts a b = true) : addK K ts a b = K := by simp [addK, h]
theorem cutK_yes {K : Int} {ts : List (Int × Int)} {a b : Int} (h : cutB K ts a b = true) : cutK K ts a b = K := by simp [cutK, h]
theorem outK_yes {K : Int} {ts : List (Int × Int)} {k : Int} (h : outB K ts k = true) : outK K ts k = K := by simp [outK, h]

/-- one of a row without another like it taken out -/
theorem filter_one (t : Int × Int) : ∀ ts : List (Int × Int), ts.Pairwise (fun a b => ix a < ix b) → t ∈ ts → (ts.filter (other t)).length + 1 = ts.length := by
  intro ts
  induction ts with
  | nil => intro _ h; cases h
  | cons x xs ih =>
    intro hp hm
    rw [List.pairwise_cons] at hp
    by_cases e : x = t
    · subst e
      have : (xs.filter (other x)) = xs := by
        rw [List.filter_eq_self]
        intro y hy
        have := hp.1 y hy
        simp only [other, decide_eq_true_eq]
        rintro rfl; omega
      rw [List.filter_cons, if_neg (by simp [other]), this]; rfl
    · have hm' : t ∈ xs := by
        rcases List.mem_cons.1 hm with h | h
        · exact absurd h.symm e
        · exact h
      have := ih hp.2 hm'
      have ho : other t x = true := by simp [other, e]
      rw [List.filter_cons, if_pos ho, List.length_cons, List.length_cons]; omega

structure CutOut (K : Int) (ts us : List (Int × Int)) (a b : Int) : Prop where
  ok : okB K us = true
  len : us.length + 1 = ts.length
  has : hasB K us a b = false
  again : cutB K us a b = false
  each : ∀ i, i < us.length → tiedB ts (tA us i) (tB us i) = true
theorem cutOut {K : Int} {ts : List (Int × Int)} {a b : Int} (h : cutB K ts a b = true) : CutOut K ts (cutTs K ts a b) a b := by
  have hok := has_ok (h : hasB K ts a b = true)
  obtain ⟨h0, h8, hs⟩ := ok_parts hok
  have e : cutTs K ts a b = ts.filter (other (tieOf a b)) := by simp [cutTs, h]
  rw [e]
  have ok := ok_of_srt h0 h8 (cut_good (h : hasB K ts a b = true)).1
  have has : hasB K (ts.filter (other (tieOf a b))) a b = false := by
    rw [hasB_not ok, List.mem_filter]
    rintro ⟨_, h2⟩
    simp [other] at h2
  refine ⟨ok, filter_one _ _ hs.2 ((hasB_mem hok).1 h), has, has, ?_⟩
  intro i hi
  exact tied_mem.2 (List.mem_filter.1 (mem_at hi)).1

/-- two rows in order of the same ties are one -/
theorem srt_ext {K : Int} (hK : K ≤ 8) : ∀ xs ys : List (Int × Int), Srt K xs → Srt K ys → (∀ t, t ∈ xs ↔ t ∈ ys) → xs = ys := by
  intro xs
  induction xs with
  | nil =>
    intro ys _ _ h
    cases ys with
    | nil => rfl
    | cons y ys => exact absurd ((h y).2 (List.mem_cons_self ..)) (by simp)
  | cons x xs ih =>
    intro ys hx hy h
    cases ys with
    | nil => exact absurd ((h x).1 (List.mem_cons_self ..)) (by simp)
    | cons y ys =>
      have px := List.pairwise_cons.1 hx.2
      have py := List.pairwise_cons.1 hy.2
      have exy : x = y := by
        rcases List.mem_cons.1 ((h x).1 (List.mem_cons_self ..)) with e | m
        · exact e
        · rcases List.mem_cons.1 ((h y).2 (List.mem_cons_self ..)) with e2 | m2
          · exact e2.symm
          · have a1 := py.1 x m
            have a2 := px.1 y m2
            omega
      subst exy
      have hx' : Srt K xs := ⟨fun t ht => hx.1 t (List.mem_cons_of_mem _ ht), px.2⟩
      have hy' : Srt K ys := ⟨fun t ht => hy.1 t (List.mem_cons_of_mem _ ht), py.2⟩
      have : xs = ys := ih ys hx' hy' (by
        intro t
        constructor
        · intro ht
          rcases List.mem_cons.1 ((h t).1 (List.mem_cons_of_mem _ ht)) with e | m
          · have := px.1 t ht; rw [e] at this; omega
          · exact m
        · intro ht
          rcases List.mem_cons.1 ((h t).2 (List.mem_cons_of_mem _ ht)) with e | m
          · have := py.1 t ht; rw [e] at this; omega
          · exact m)
      rw [this]

/-- cut and tied again -/
theorem cut_add {K : Int} {ts : List (Int × Int)} {a b : Int} (h : cutB K ts a b = true) : addB K (cutTs K ts a b) b a = true ∧ addTs K (cutTs K ts a b) b a = ts := by
  have hok := has_ok (h : hasB K ts a b = true)
  obtain ⟨h0, h8, hs⟩ := ok_parts hok
  have C := cutOut h
  have hm := (hasB_mem hok).1 (h : hasB K ts a b = true)
  have hT := hs.1 _ hm
  unfold tieOf TieOk at hT
  simp only at hT
  have e : cutTs K ts a b = ts.filter (other (tieOf a b)) := by simp [cutTs, h]
  have ha : addB K (cutTs K ts a b) b a = true := by
    have n1 : hasB K (cutTs K ts a b) b a = false := by rw [hasB_turned]; exact C.has
    simp only [addB, knotB, C.ok, n1, Bool.and_eq_true, decide_eq_true_eq, Bool.not_false, and_true, true_and]
    omega
  refine ⟨ha, ?_⟩
  have e2 : addTs K (cutTs K ts a b) b a = ins (tieOf b a) (cutTs K ts a b) := addTs_yes ha
  rw [e2]
  refine srt_ext h8 _ _ (add_good ha).1 hs ?_
  intro t
  rw [mem_ins, e, List.mem_filter, tieOf_turn a b]
  constructor
  · rintro (rfl | h2)
    · exact hm
    · exact h2.1
  · intro h2
    by_cases e3 : t = tieOf a b
    · exact Or.inl e3
    · exact Or.inr ⟨h2, by simp [other, e3]⟩
/-- tied and cut again -/
theorem add_cut {K : Int} {ts : List (Int × Int)} {a b : Int} (h : addB K ts a b = true) : cutB K (addTs K ts a b) b a = true ∧ cutTs K (addTs K ts a b) b a = ts := by
  obtain ⟨hok, _, _, _, _, _, hno⟩ := addB_yes h
  obtain ⟨h0, h8, hs⟩ := ok_parts hok
  have A := added h
  have hc : cutB K (addTs K ts a b) b a = true := by show hasB K _ b a = true; rw [hasB_turned]; exact A.has
  refine ⟨hc, ?_⟩
  have e : addTs K ts a b = ins (tieOf a b) ts := by simp [addTs, h]
  have e2 : cutTs K (addTs K ts a b) b a = (addTs K ts a b).filter (other (tieOf b a)) := cutTs_yes hc
  have g := (cut_good (hc : hasB K _ b a = true)).1
  rw [e2]
  refine srt_ext h8 _ _ g hs ?_
  intro t
  rw [List.mem_filter, e, mem_ins, tieOf_turn a b]
  have hn := (hasB_not hok).1 hno
  constructor
  · rintro ⟨h2 | h2, h3⟩
    · simp [other, h2] at h3
    · exact h2
  · intro h2
    refine ⟨Or.inr h2, ?_⟩
    simp only [other, decide_eq_true_eq]
    rintro rfl; exact hn h2
theorem cut_not_add {K : Int} {ts : List (Int × Int)} {a b : Int} (h : cutB K ts a b = true) : addB K ts a b = false := by
  rw [← Bool.not_eq_true]
  intro h2
  have := (addB_yes h2).2.2.2.2.2.2
  rw [show hasB K ts a b = true from h] at this; cases this
/-- it does not matter which of two is tied first -/
theorem add_turn {K : Int} {ts : List (Int × Int)} {a b c d : Int} (h1 : addB K ts a b = true) (h2 : addB K (addTs K ts a b) c d = true) :
    addB K ts c d = true ∧ addB K (addTs K ts c d) a b = true ∧ addTs K (addTs K ts c d) a b = addTs K (addTs K ts a b) c d := by
  obtain ⟨hok, a0, a1, b0, b1, ab, hno⟩ := addB_yes h1
  obtain ⟨hok2, c0, c1, d0, d1, cd, hno2⟩ := addB_yes h2
  obtain ⟨h0, h8, hs⟩ := ok_parts hok
  have e : addTs K ts a b = ins (tieOf a b) ts := by simp [addTs, h1]
  have n1 := (hasB_not hok).1 hno
  have n2 := (hasB_not hok2).1 hno2
  rw [e, mem_ins] at n2
  have hcd : addB K ts c d = true := by
    have : hasB K ts c d = false := (hasB_not hok).2 (fun h => n2 (Or.inr h))
    simp only [addB, knotB, hok, this, Bool.and_eq_true, decide_eq_true_eq, Bool.not_false, and_true, true_and]
    omega
  have e3 : addTs K ts c d = ins (tieOf c d) ts := by simp [addTs, hcd]
  have A := added hcd
  have hab : addB K (addTs K ts c d) a b = true := by
    have : hasB K (addTs K ts c d) a b = false := by
      rw [hasB_not A.ok, e3, mem_ins]
      rintro (h | h)
      · exact n2 (Or.inl h.symm)
      · exact n1 h
    simp only [addB, knotB, A.ok, this, Bool.and_eq_true, decide_eq_true_eq, Bool.not_false, and_true, true_and]
    omega
  refine ⟨hcd, hab, ?_⟩
  have e4 : addTs K (addTs K ts c d) a b = ins (tieOf a b) (addTs K ts c d) := addTs_yes hab
  have e5 : addTs K (addTs K ts a b) c d = ins (tieOf c d) (addTs K ts a b) := addTs_yes h2
  rw [e4, e5]
  refine srt_ext h8 _ _ (add_good hab).1 (add_good h2).1 ?_
  intro t
  rw [mem_ins, mem_ins, e3, e, mem_ins, mem_ins]
  constructor
  · rintro (h | h | h)
    · exact Or.inr (Or.inl h)
    · exact Or.inl h
    · exact Or.inr (Or.inr h)
  · rintro (h | h | h)
    · exact Or.inr (Or.inl h)
    · exact Or.inl h
    · exact Or.inr (Or.inr h)

structure Without (K : Int) (ts us : List (Int × Int)) (k : Int) : Prop where
  ok : okB K us = true
  len : us.length ≤ ts.length
  each : ∀ i, i < ts.length → tiedB us (tA ts i) (tB ts i) = !(decide (tA ts i = k) || decide (tB ts i = k))
theorem without {K : Int} {ts : List (Int × Int)} {k : Int} (h : outB K ts k = true) : Without K ts (outTs K ts k) k := by
  obtain ⟨hok, _⟩ := out_ok h
  obtain ⟨h0, h8, hs⟩ := ok_parts hok
  have e : outTs K ts k = ts.filter (notOf k) := by simp [outTs, h]
  rw [e]
  refine ⟨ok_of_srt h0 h8 (srt_filter hs _), List.length_filter_le _ _, ?_⟩
  intro i hi
  have hm := mem_at hi
  by_cases hk : tA ts i = k ∨ tB ts i = k
  · have hf : tiedB (ts.filter (notOf k)) (tA ts i) (tB ts i) = false := by
      rw [← Bool.not_eq_true, tied_mem, List.mem_filter]
      rintro ⟨_, h2⟩
      simp [notOf] at h2
      rcases hk with h3 | h3
      · exact h2.1 h3
      · exact h2.2 h3
    rw [hf]
    rcases hk with h3 | h3 <;> simp [h3]
  · have hk1 : tA ts i ≠ k := fun e => hk (Or.inl e)
    have hk2 : tB ts i ≠ k := fun e => hk (Or.inr e)
    have hf : tiedB (ts.filter (notOf k)) (tA ts i) (tB ts i) = true := by
      rw [tied_mem, List.mem_filter]
      exact ⟨hm, by simp [notOf, hk1, hk2]⟩
    rw [hf]; simp [hk1, hk2]

end Go.Proofs.YticoiolpofibdaaDoor
