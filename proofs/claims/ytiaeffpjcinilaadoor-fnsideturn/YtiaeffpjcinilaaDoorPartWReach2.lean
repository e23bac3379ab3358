/- Texts put together: WReach2, WParts, WParts2. -/
import Derived.Test.YtiaeffpjcinilaaDoorPartWReach
/- Walk of impl.WayReach. -/
namespace Go.Proofs.YtiaeffpjcinilaaDoor
open Go.RowKit
set_option linter.unusedVariables false

theorem hasKnot_v (v : Bool) (K : Int) (u : Value) (k : Int) (w : World) (h : knotB k K = v) :
    Calls Tryd.prog 62 #[.agg #[.int .i64 K, u], .int .i64 k] w fun e w' => e = .returned (.bool v) ∧ Below w.heap.size w w' := by
  rw [← h]; exact (hasKnot_any K u k w).mono fun e w' ⟨he, hw⟩ => ⟨he, by rw [hw]; exact below_one _ _⟩
/-- the bits of a net's set are its ties -/
theorem set_bits {K : Int} {ts : List (Int × Int)} (h : okB K ts = true) : BitsFrom (setN K ts) ts 0 := by
  rw [setN_yes h]
  intro j
  rw [mask_bit]
  exact ⟨fun ⟨i, h1, h2⟩ => ⟨i, Nat.zero_le _, h1, h2⟩, fun ⟨i, _, h1, h2⟩ => ⟨i, h1, h2⟩⟩
theorem forestOf_ok (K : Int) (ts : List (Int × Int)) (w : World) (hT : Tab w) (h : okB K ts = true) :
    Calls Tryd.prog 50 #[.int .u64 ((setN K ts : Nat) : Int)] w fun e w' => e = .returned (forestV (forest ts ts.length)) ∧ Below w.heap.size w w' := by
  obtain ⟨_, h8, hg⟩ := okB_iff.1 h
  exact forestOf_any K ts (setN K ts) w hT h8 hg (ok_short (okB_iff.1 h)) (set_bits h) (setN_lt K ts)
def bTo (M : Nat → Bool) (k j : Nat) : Value := .bool (if j < k then M j else false)
theorem bTo_step (M : Nat → Bool) (k j : Nat) : (if j = k then Value.bool (M k) else bTo M k j) = bTo M (k + 1) j := by
  unfold bTo
  by_cases h : j = k
  · subst h; rw [if_pos rfl, if_pos (by omega)]
  · rw [if_neg h]
    by_cases h2 : j < k
    · rw [if_pos h2, if_pos (by omega)]
    · rw [if_neg h2, if_neg (by omega)]


end Go.Proofs.YtiaeffpjcinilaaDoor

/- Walks of impl.WayParts, spec.WayParts. -/
namespace Go.Proofs.YtiaeffpjcinilaaDoor
open Go.RowKit
set_option linter.unusedVariables false

def partN (K : Int) (ts : List (Int × Int)) : Nat := if okB K ts = true then K.toNat else 0
def topN (ts : List (Int × Int)) (j : Nat) : Nat := top (forest ts ts.length) j
def tTo (ts : List (Int × Int)) (k j : Nat) : Value := .int .i64 (if j < k then ((topN ts j : Nat) : Int) else 0)
theorem tTo_step (ts : List (Int × Int)) (k j : Nat) : (if j = k then Value.int .i64 ((topN ts k : Nat) : Int) else tTo ts k j) = tTo ts (k + 1) j := by
  unfold tTo
  by_cases h : j = k
  · subst h; rw [if_pos rfl, if_pos (by omega)]
  · rw [if_neg h]
    by_cases h2 : j < k
    · rw [if_pos h2, if_pos (by omega)]
    · rw [if_neg h2, if_neg (by omega)]
theorem topN_le (ts : List (Int × Int)) (k : Nat) : topN ts k ≤ k := top_le (forest_low ts _) k
theorem reach_top (ts : List (Int × Int)) (k : Nat) : reachB ts k (topN ts k) = true := by
  unfold reachB topN; rw [decide_eq_true_eq]; exact top_top (forest_low ts _) k
theorem reach_low (ts : List (Int × Int)) (k j : Nat) (h : j < topN ts k) : reachB ts k j = false := by
  unfold reachB; rw [decide_eq_false_iff_not]
  intro e
  have h1 := top_le (forest_low ts ts.length) j
  unfold topN at h
  omega

set_option maxHeartbeats 1600000 in
theorem implParts_any (K : Int) (ao : Option Addr) (cap : Nat) (ts : List (Int × Int)) (w : World) (hn : ts.length ≤ 1099511627776) (ht : TiesIn w w.heap.size ao ts) (hT : Tab w) :
    Calls Tryd.prog 18 #[.agg #[.int .i64 K, .slice ao ts.length cap]] w fun e w' => ∃ ao' cap', e = .returned (.slice ao' (partN K ts) cap') ∧ OwnR w' w.heap.size w'.heap.size ao' (partN K ts) (pcellN (topN ts)) ∧ Below w.heap.size w w' := by
  have X0 := fun (t : TypeId) => Bx.start w K (.slice ao ts.length cap) t
  have HX0 := hideP X0
  have HT := hideP ht
  have HTab := hideP hT
  clear X0 ht hT
  go_enter Tryd.func18, Tryd.ntmps18
  go_wp2_with fail
  refine (pairsOf_any K ao cap ts _ hn ((HT.out.below (HX0.out _).B (Nat.le_refl _)).wide (Nat.le_of_lt (HX0.out _).lt))).mono ?_
  rintro e w2 ⟨rfl, hb1⟩
  have X2 := hideP ((HX0.out _).next hb1)
  clear hb1
  cases hok : okB K ts
  · have HN : Hid (partN K ts = 0) := by show partN K ts = 0; simp [partN, hok]
    have HB := hideP X2.out.B
    clear hok
    go_wp2
    go_ret
    exact ⟨none, 0, by rw [HN.out]; rfl, by rw [HN.out]; exact Or.inl ⟨rfl, rfl⟩, HB.out⟩
  have HN : Hid (partN K ts = K.toNat) := by show partN K ts = _; simp [partN, hok]
  have hnet := okB_iff.1 hok
  have HOK := hideP hok
  have T2 := hideP (HTab.out.below X2.out.B HTab.out.2)
  clear hok
  go_wp2_with fail
  refine (forestOf_ok K ts _ T2.out HOK.out).mono ?_
  rintro e w3 ⟨rfl, hb3⟩
  have X3 := hideP (X2.out.next hb3)
  clear hb3
  obtain ⟨f, hf⟩ : ∃ f, f = forest ts ts.length := ⟨_, rfl⟩
  have HF := hideP hf
  have HLow : Hid (Low f) := by show Low f; rw [hf]; exact forest_low ts _
  rw [← hf]
  clear hf
  unfold forestV
  have FO := hideP (fun t => forest_own w3 f t)
  obtain ⟨Kn, hKn⟩ : ∃ n : Nat, K = (n : Int) := ⟨K.toNat, by have := hnet.1; omega⟩
  subst hKn
  have hK8 : Kn ≤ 8 := by have := hnet.2.1; omega
  obtain ⟨i0, hi, hz0, hz1, hz2⟩ := info_parts Tryd.infoInt
  have HI : Hid (i0.bytes * Kn ≤ 281474976710656) := by rw [hz2]; show 8 * Kn ≤ _; omega
  have c0 := X3.out.c0
  have cl := X3.out.lt
  clear hnet
  go_wp2_with (at_make; refine wpList_make_full _ rfl _ _ 27 rfl (w3.heap.size + 1) 3 i0 (.int .i64 0) 1 Tryd.underlying27 hi hz0 hz1 .i64 .i64 _ _ Kn rfl rfl ?_ ?_ HI.out ?_ ?_ ?_)
  · rfl
  · rfl
  · unfold maxLen; omega
  · simp
  intro w4 hown hgrow
  have R4 := hideP ((OwnI.made hown []).congr (f' := tTo ts 0) (fun j _ => by simp [icellTo, tTo]))
  have hb4 := (Below.refl _ _).grown hgrow (Nat.le_refl _) (fun k h => by cases h)
  have F4 := hideP ((FO.out _).below hb4 (by simp))
  have X4 := hideP ((X3.out.next (below_one w3 _)).next hb4)
  clear hown hgrow hb4 hi hz0 hz1 hz2 HI c0
  go_wp2
  go_loopw [22] (fun i wr => ∃ k : Nat, k ≤ Kn ∧ i = .int .i64 k ∧ OwnI wr (w3.heap.size + 1) Kn (tTo ts k) ∧ OwnI wr w3.heap.size 8 (pcellN f) ∧ Below w.heap.size w wr)
    (fun i _ => Kn - (intOf i).toNat)
  case atStart => exact ⟨0, Nat.zero_le _, rfl, R4.out, F4.out, X4.out.B⟩
  case round =>
    obtain ⟨k, hk, rfl, hR, hF, hB⟩ := hrel
    by_cases hlt : k < Kn
    · have LA := hideP (least_any w3.heap.size f k wr hF HLow.out (by omega))
      have d0 := hR.1 k hlt
      have e0 := hR.2.1 k
      have hk0 : (0 : Int) ≤ (k : Int) := by omega
      have hk1 : (k : Int) < (Kn : Int) := by omega
      have HRE : Hid (topN ts k = top f k) := by show topN ts k = _; unfold topN; rw [← HF.out]
      obtain ⟨t1, ht1⟩ : ∃ t, t = top f k := ⟨_, rfl⟩
      rw [← ht1] at LA HRE
      clear ht1
      have HO : Hid (OwnI (wr.setCell ⟨w3.heap.size + 1, k, none⟩ (.int .i64 (t1 : Int))) (w3.heap.size + 1) Kn (tTo ts (k + 1))) := (hR.set hlt _).congr (fun j _ => by rw [← HRE.out]; exact tTo_step _ k j)
      have HFo : Hid (OwnI (wr.setCell ⟨w3.heap.size + 1, k, none⟩ (.int .i64 (t1 : Int))) w3.heap.size 8 (pcellN f)) := hF.other (by show w3.heap.size + 1 ≠ w3.heap.size; omega) _
      have HB : Hid (Below w.heap.size w (wr.setCell ⟨w3.heap.size + 1, k, none⟩ (.int .i64 (t1 : Int)))) := hB.setCell (by show w.heap.size ≤ w3.heap.size + 1; omega) _
      clear hR hF hB
      go_wp2_with fail
      refine LA.out.mono ?_
      rintro e w5 ⟨rfl, rfl⟩
      go_wp2
      go_roundw
      case rel => exact ⟨k + 1, by omega, by go_num, HO.out, HFo.out, HB.out⟩
      case measure => simp [intOf]; omega
    · obtain rfl : k = Kn := by omega
      have HA : Hid (OwnR wr w.heap.size wr.heap.size (some ⟨w3.heap.size + 1, 0, none⟩) k (pcellN (topN ts))) :=
        Or.inr ⟨_, rfl, by omega, hR.2.2, hR.congr (fun j hj => by simp [tTo, pcellN, hj])⟩
      clear hR hF
      go_wp2
      go_ret
      refine ⟨some ⟨w3.heap.size + 1, 0, none⟩, k, ?_, ?_, hB⟩
      · rw [HN.out]; rfl
      · rw [HN.out]; exact HA.out


end Go.Proofs.YtiaeffpjcinilaaDoor

/- Walk of spec.WayParts. -/
namespace Go.Proofs.YtiaeffpjcinilaaDoor
open Go.RowKit
set_option linter.unusedVariables false

theorem specOk_is (v : Bool) (K : Int) (ao : Option Addr) (cap : Nat) (ts : List (Int × Int)) (w : World) (hn : ts.length ≤ 1099511627776) (ht : TiesIn w w.heap.size ao ts) (h : okB K ts = v) :
    Calls Tryd.prog 21 #[.agg #[.int .i64 K, .slice ao ts.length cap]] w fun e w' => e = .returned (.bool v) ∧ Below w.heap.size w w' := by
  rw [← h]; exact specOk_any K ao cap ts w hn ht
theorem specReach_ok (Kn : Nat) (ao : Option Addr) (cap : Nat) (ts : List (Int × Int)) (x : Nat) (w : World) (hn : ts.length ≤ 1099511627776) (ht : TiesIn w w.heap.size ao ts) (hok : okB (Kn : Int) ts = true) (hx : x < Kn) :
    Calls Tryd.prog 68 #[.agg #[.int .i64 (Kn : Int), .slice ao ts.length cap], .int .i64 (x : Int)] w fun e w' => ∃ g cap', e = .returned (.slice (some ⟨g, 0, none⟩) Kn cap') ∧ OwnI w' g Kn (bcell (reachB ts x)) ∧ Below w.heap.size w w' := by
  refine (specReach_any (Kn : Int) ao cap ts (x : Int) w hn ht).mono ?_
  rintro e w' ⟨ao', cap', rfl, ho, hb⟩
  have hN : reachN (Kn : Int) ts (x : Int) = Kn := by
    have hk : knotB (x : Int) (Kn : Int) = true := by simp [knotB]; omega
    simp [reachN, hok, hk]
  rw [hN] at ho ⊢
  rcases ho with ⟨h0, _⟩ | ⟨g, rfl, _, _, ho⟩
  · omega
  · exact ⟨g, cap', rfl, ho, hb⟩

set_option maxHeartbeats 1600000 in
theorem specParts_any (K : Int) (ao : Option Addr) (cap : Nat) (ts : List (Int × Int)) (w : World) (hn : ts.length ≤ 1099511627776) (ht : TiesIn w w.heap.size ao ts) :
    Calls Tryd.prog 75 #[.agg #[.int .i64 K, .slice ao ts.length cap]] w fun e w' => ∃ g off cap', e = .returned (.slice (some ⟨g, off, none⟩) (partN K ts) cap') ∧ RowS w' w.heap.size g off cap' ((List.range (partN K ts)).map (topN ts)) ∧ Below w.heap.size w w' := by
  obtain ⟨i1, hj, hy0, hy1, hy2⟩ := info_parts Tryd.infoInt
  have HI1 : Hid (Tryd.prog.info? 3 = some i1 ∧ i1.zero = some (.int .i64 0) ∧ i1.size = 1 ∧ i1.bytes = 8) := ⟨hj, hy0, hy1, hy2⟩
  have X0 := fun (t u : TypeId) => (Bx.start w K (.slice ao ts.length cap) t).next (below_one _ (.cells #[] u))
  have R0 : ∀ t u : TypeId, RowS ((w.alloc (.cells #[.int .i64 K, .slice ao ts.length cap] t)).alloc (.cells #[] u)) (w.heap.size + 1) (w.heap.size + 1) 0 0 [] := fun t u => by
    have h := RowS.new (w.alloc (.cells #[.int .i64 K, .slice ao ts.length cap] t)) u
    have e : (w.alloc (.cells #[.int .i64 K, .slice ao ts.length cap] t)).heap.size = w.heap.size + 1 := by simp
    rw [e] at h
    exact h
  have HX0 := hideP X0
  have HR0 := hideP R0
  have HT := hideP ht
  clear X0 R0 ht hj hy0 hy1 hy2
  cases hok : okB K ts
  · have HN : Hid (partN K ts = 0) := by show partN K ts = 0; simp [partN, hok]
    have HOK := hideP hok
    clear hok
    go_enter Tryd.func75, Tryd.ntmps75
    go_wp2_with fail
    refine (specOk_is false K ao cap ts _ hn ((HT.out.below (HX0.out _ _).B (Nat.le_refl _)).wide (Nat.le_of_lt (HX0.out _ _).lt)) HOK.out).mono ?_
    rintro e w1 ⟨rfl, hb1⟩
    have X1 := hideP ((HX0.out _ _).next hb1)
    have R1 := hideP (((HR0.out _ _).next hb1).down (Nat.le_succ _))
    clear hb1
    go_wp2
    go_ret
    exact ⟨w.heap.size + 1, 0, 0, by rw [HN.out]; rfl, by rw [HN.out]; exact R1.out, X1.out.B⟩
  have HN : Hid (partN K ts = K.toNat) := by show partN K ts = _; simp [partN, hok]
  have HOK := hideP hok
  have hnet := okB_iff.1 hok
  obtain ⟨Kn, hKn⟩ : ∃ n : Nat, K = (n : Int) := ⟨K.toNat, by have := hnet.1; omega⟩
  subst hKn
  have hK8 : Kn ≤ 8 := by have := hnet.2.1; omega
  clear hok hnet
  go_enter Tryd.func75, Tryd.ntmps75
  go_wp2_with fail
  refine (specOk_is true _ ao cap ts _ hn ((HT.out.below (HX0.out _ _).B (Nat.le_refl _)).wide (Nat.le_of_lt (HX0.out _ _).lt)) HOK.out).mono ?_
  rintro e w1 ⟨rfl, hb1⟩
  have X1 := hideP ((HX0.out _ _).next hb1)
  have R1 := hideP ((HR0.out _ _).next hb1)
  clear hb1
  go_wp2
  go_loopw [3, 4] (fun v i wr => ∃ k g off cap' : Nat, k ≤ Kn ∧ i = .int .i64 k ∧ v = .slice (some ⟨g, off, none⟩) k cap' ∧ RowS wr (w.heap.size + 1) g off cap' ((List.range k).map (topN ts)) ∧ Bx w wr (Kn : Int) (.slice ao ts.length cap))
    (fun _ i _ => Kn - (intOf i).toNat)
  case atStart => exact ⟨0, w.heap.size + 1, 0, 0, Nat.zero_le _, rfl, rfl, R1.out, X1.out⟩
  case round =>
    obtain ⟨k, g, off, cap', hk, rfl, rfl, hR, hX⟩ := hrel
    have c0 := hX.c0
    have c1 := hX.c1
    by_cases hlt : k < Kn
    · have hk1 : (k : Int) < (Kn : Int) := by omega
      have T1 := hideP ((HT.out.below hX.B (Nat.le_refl _)).wide (Nat.le_of_lt hX.lt))
      have hX' := hideP hX
      have hR' := hideP hR
      clear hX hR
      go_wp2_with fail
      refine (specReach_ok Kn ao cap ts k _ hn T1.out HOK.out hlt).mono ?_
      rintro e w2 ⟨g2, cap2, rfl, hO2, hb2⟩
      have X2 := hideP (hX'.out.next hb2)
      have R2 := hideP (hR'.out.next hb2)
      have O2 := hideP hO2
      clear hb2 c0 c1 hO2
      go_wp2
      go_loopw [6] (fun j wz => ∃ m : Nat, m ≤ topN ts k ∧ j = .int .i64 m ∧ wz = w2)
        (fun j _ => Kn - (intOf j).toNat)
      case atStart => exact ⟨0, Nat.zero_le _, rfl, rfl⟩
      case round =>
        obtain ⟨m, hm, rfl, rfl⟩ := hrel
        have htk := topN_le ts k
        have hm1 : (m : Int) < (Kn : Int) := by omega
        have hm0 : (0 : Int) ≤ (m : Int) := by omega
        have cm : wr.cell? ⟨g2, m, none⟩ = some (.bool (reachB ts k m)) := O2.out.1 m (by omega)
        by_cases hmt : m < topN ts k
        · have HH := hideP htk
          rw [reach_low ts k m hmt] at cm
          go_wp2
          go_roundw
          case rel => exact ⟨m + 1, by omega, by go_num, trivial⟩
          case measure => simp [intOf]; omega
        · obtain rfl : m = topN ts k := by omega
          rw [reach_top ts k] at cm
          obtain ⟨t, ht⟩ : ∃ t, t = topN ts k := ⟨_, rfl⟩
          have HTT := hideP ht
          have HRR : Hid (∀ r : World, RowS r (w.heap.size + 1) g off cap' ((List.range k).map (topN ts)) → True) := fun _ _ => trivial
          rw [← ht] at cm hm0 hm1 ⊢
          have bo := below_one wr (.cells #[.int .i64 (t : Int)] 3)
          have XB := hideP (X2.out.next bo)
          have RB := hideP (R2.out.next bo)
          clear ht hm htk hmt bo HRR
          go_wp2_with (at_builtin; refine wpList_append_rowS _ rfl _ _ 27 rfl (w.heap.size + 1) 3 i1 Tryd.underlying27 HI1.out.1 HI1.out.2.1 HI1.out.2.2.1 HI1.out.2.2.2 g off cap' ((List.range k).map (topN ts)) k (by simp) rfl RB.out wr.heap.size t rfl ?_ ?_ ?_ ?_)
          · rw [World.cell?_alloc_at _ _ _ _ rfl]; rfl
          · simp; omega
          · exact XB.out.lt
          intro g4 off4 cap4 w4 hR4 hg4 ht4
          have X4 := hideP (XB.out.turn ht4 RB.out.lo)
          have R4 : Hid (RowS w4 (w.heap.size + 1) g4 off4 cap4 ((List.range (k + 1)).map (topN ts))) := by
            show RowS w4 (w.heap.size + 1) g4 off4 cap4 ((List.range (k + 1)).map (topN ts))
            rw [List.range_succ, List.map_append]
            rw [HTT.out] at hR4
            exact hR4
          clear hR4 ht4 hg4
          go_wp2
          refine ⟨⟨k + 1, g4, off4, cap4, by omega, by go_num, rfl, R4.out, X4.out⟩, ?_⟩
          simp [intOf]; omega
    · obtain rfl : k = Kn := by omega
      have HR := hideP (hR.down (Nat.le_succ _))
      have HB := hideP hX.B
      clear hR hX
      go_wp2
      go_ret
      refine ⟨g, off, cap', ?_, ?_, HB.out⟩
      · rw [HN.out]; rfl
      · rw [HN.out]; exact HR.out

end Go.Proofs.YtiaeffpjcinilaaDoor
