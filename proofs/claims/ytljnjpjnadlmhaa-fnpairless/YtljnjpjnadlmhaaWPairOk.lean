/- Walks of impl.pairs.knots, impl.PairOk. -/
import Derived.Test.YtljnjpjnadlmhaaMathPA
import Derived.Test.YtljnjpjnadlmhaaPartWTies
import Derived.Test.YtljnjpjnadlmhaaWTreeOkS
namespace Go.Proofs.Ytljnjpjnadlmhaa
open Go.RowKit
set_option linter.unusedVariables false

theorem touch_bits {K : Int} (hK : K ≤ 8) {us : List (Int × Int)} (hs : Srt K us) {p m : Nat} (hb : BitsOf p us) {k : Nat} (hm : BitsOf m (us.filter (notOf (k : Int)))) : m = p ↔ touchB us k = false := by
  constructor
  · intro e
    rw [← Bool.not_eq_true, touch_iff]
    rintro ⟨t, ht, h⟩
    have h1 := (hb (ix t)).2 ⟨t, ht, rfl⟩
    rw [← e] at h1
    obtain ⟨u, hu, e2⟩ := (hm (ix t)).1 h1
    rw [List.mem_filter] at hu
    have : u = t := ix_inj hK (hs.1 u hu.1) (hs.1 t ht) e2
    subst this
    have h2 := hu.2
    unfold notOf at h2
    rw [Bool.and_eq_true, decide_eq_true_eq, decide_eq_true_eq] at h2
    rcases h with h | h
    · exact h2.1 h
    · exact h2.2 h
  · intro h
    have e : us.filter (notOf (k : Int)) = us := by
      rw [List.filter_eq_self]
      intro t ht
      rw [← Bool.not_eq_true, touch_iff] at h
      unfold notOf
      rw [Bool.and_eq_true, decide_eq_true_eq, decide_eq_true_eq]
      exact ⟨fun e => h ⟨t, ht, Or.inl e⟩, fun e => h ⟨t, ht, Or.inr e⟩⟩
    rw [e] at hm
    apply Nat.eq_of_testBit_eq
    intro j
    rw [Bool.eq_iff_iff, hm j, hb j]
set_option maxHeartbeats 800000 in
theorem knots_any (K : Int) (hK : K ≤ 8) (us : List (Int × Int)) (hs : Srt K us) (p : Nat) (w : World) (hp : p < 2 ^ 64) (hb : BitsOf p us) :
    Calls Try.prog 39 #[.int .u64 (p : Int)] w fun e w' => ∃ ao cap, e = .returned (.slice ao (8 - unm (touchB us) 8) cap) ∧ Below w.heap.size w w' := by
  obtain ⟨i1, hi1, hz10, hz11, hz12⟩ := info_parts Try.infoInt
  have HI1 : Hid (Try.prog.info? 3 = some i1 ∧ i1.zero = some (.int .i64 0) ∧ i1.size = 1 ∧ i1.bytes = 8) := ⟨hi1, hz10, hz11, hz12⟩
  have HB := hideP hb
  have HS := hideP hs
  clear hi1 hz10 hz11 hz12 hb hs
  go_enter Try.func39, Try.ntmps39
  go_wp2
  go_loopw [3, 5] (fun v i wr => ∃ (k n : Nat) (xs : List Value), k ≤ 8 ∧ i = .int .i64 k ∧ n + unm (touchB us) k = k ∧ wr.ownsRow w.heap.size 3 1 v n xs ∧ Below w.heap.size w wr) (fun _ i _ => 8 - (intOf i).toNat)
  case atStart => exact ⟨0, 0, [], Nat.zero_le _, rfl, rfl, World.ownsRow_nil _ _ _ _, Below.refl _ _⟩
  case round =>
    obtain ⟨k, n, xs, hk, rfl, hn, hO, hB⟩ := hrel
    have HO := hideP hO
    have HBL := hideP hB
    clear hO hB
    by_cases hlt : k < 8
    · go_wp2_with fail
      refine (withoutKnot_any K hK us HS.out p (k : Int) _ hp HB.out).mono ?_
      rintro e w2 ⟨m, rfl, rfl, hm, hbm⟩
      have HQ := hideP (touch_bits hK HS.out HB.out hbm)
      cases hv : touchB us k
      · have HN : Hid (n + unm (touchB us) (k + 1) = k + 1) := by show n + unm (touchB us) (k + 1) = k + 1; simp only [unm]; rw [hv]; simp; omega
        obtain rfl : m = p := HQ.out.2 hv
        clear hv hbm hm HQ
        go_wp2
        go_roundw
        case rel => exact ⟨k + 1, n, xs, by omega, by go_num, HN.out, HO.out, HBL.out⟩
        case measure => simp [intOf]; omega
      · have HN : Hid (n + 1 + unm (touchB us) (k + 1) = k + 1) := by show n + 1 + unm (touchB us) (k + 1) = k + 1; simp only [unm]; rw [hv]; simp; omega
        have hne : m ≠ p := fun e => by have := HQ.out.1 e; rw [hv] at this; cases this
        have hne2 : ((m : Int) == (p : Int)) = false := by simp; omega
        have hne3 : ((m : Int) != (p : Int)) = true := by simp; omega
        clear hv hbm hm HQ hne
        go_wp2_with (at_builtin; refine wpList_append_own _ rfl _ _ 30 rfl w.heap.size 3 i1 _ 1 8 Try.underlying30 HI1.out.1 HI1.out.2.1 HI1.out.2.2.1 HI1.out.2.2.2 rfl (by omega) u3 n xs rfl (HO.out.alloc _) ⟨_, 0, none⟩ 1 1 [.int .i64 (k : Int)] rfl rfl (World.news_of_block (cs := #[.int .i64 (k : Int)]) (t := 3) (fr := (0, 0)) (heap_alloc_new w2 _)) (by simp [Value.oneCell']) (by unfold maxLen; omega) (by omega) (by have := HBL.out.size; simp; omega) ?_)
        intro v' w10 hown' hgr _
        have O10 := hideP hown'
        have hle := HO.out.lt
        have HB10 := hideP (((HBL.out).alloc HBL.out.size _).grown hgr (by have := HBL.out.size; simp; omega) (fun b e => (hle b e).1))
        clear hown' hgr hle HO HBL
        go_wp2
        go_roundw
        case rel => exact ⟨k + 1, n + 1, _, by omega, by go_num, HN.out, O10.out, HB10.out⟩
        case measure => simp [intOf]; omega
    · obtain rfl : k = 8 := by omega
      have hn8 : n = 8 - unm (touchB us) 8 := by omega
      rcases HO.out.2 with ⟨rfl, h0⟩ | ⟨g, cap, cur, rfl, _⟩
      · go_wp2
        go_ret
        exact ⟨none, 0, by rw [show 8 - unm (touchB us) 8 = 0 by omega]; rfl, HBL.out⟩
      · go_wp2
        go_ret
        exact ⟨_, cap, by rw [← hn8]; rfl, HBL.out⟩

set_option maxHeartbeats 1600000 in
theorem implPairOk_any (K : Int) (ao bo : Option Addr) (cap cap2 : Nat) (ts us : List (Int × Int)) (w : World) (hn : ts.length ≤ 1099511627776) (ht : TiesIn w w.heap.size ao ts) (hn2 : us.length ≤ 1099511627776) (hu : TiesIn w w.heap.size bo us) :
    Calls Try.prog 12 #[.agg #[.int .i64 K, .slice ao ts.length cap], .slice bo us.length cap2] w fun e w' => e = .returned (.bool (pairB K ts us)) ∧ Below w.heap.size w w' := by
  have X0 := fun (t : TypeId) => Bx.start w K (.slice ao ts.length cap) t
  have HX0 := hideP X0
  have HT := hideP ht
  have HU := hideP hu
  clear X0 ht hu
  go_enter Try.func12, Try.ntmps12
  go_wp2_with fail
  refine (pairsOf_any K ao cap ts _ hn ((HT.out.below (HX0.out _).B (Nat.le_refl _)).wide (Nat.le_of_lt (HX0.out _).lt))).mono ?_
  rintro e w2 ⟨rfl, hb1⟩
  have X2 := hideP ((HX0.out _).next hb1)
  have d0 := X2.out.c0
  have d1 := X2.out.c1
  clear hb1 HX0
  go_wp2_with fail
  refine (pairsOf_any K bo cap2 us _ hn2 ((HU.out.below X2.out.B (Nat.le_refl _)).wide (Nat.le_of_lt X2.out.lt))).mono ?_
  rintro e w3 ⟨rfl, hb3⟩
  have X3 := hideP (X2.out.next hb3)
  have HB := hideP X3.out.B
  clear d0 d1 hb3 X2
  cases hok : okB K ts
  · have HV : Hid (pairB K ts us = false) := by show pairB K ts us = false; simp [pairB, hok]
    clear hok
    go_wp2
    go_ret
    exact ⟨by rw [HV.out]; rfl, HB.out⟩
  cases hus : okB K us
  · have HV : Hid (pairB K ts us = false) := by show pairB K ts us = false; simp [pairB, hus]
    clear hok hus
    go_wp2
    go_ret
    exact ⟨by rw [HV.out]; rfl, HB.out⟩
  cases hal : decide (strike (setN K us) (setN K ts) = 0)
  · have HV : Hid (pairB K ts us = false) := by
      show pairB K ts us = false
      have : us.all (fun t => tiedB ts t.1 t.2) = false := by
        rw [← Bool.not_eq_true, sub_iff]
        exact fun h => (of_decide_eq_false hal) ((strike_sub hok hus).2 h)
      simp [pairB, this]
    have HAL := hideP hal
    clear hok hus hal
    go_wp2_with fail
    refine (hasAll_v false (setN K ts) (setN K us) _ (setN_lt _ _) (setN_lt _ _) HAL.out).mono ?_
    rintro e w4 ⟨rfl, rfl⟩
    go_wp2
    go_ret
    exact ⟨by rw [HV.out]; rfl, HB.out⟩
  have HAL := hideP hal
  have HV := hideP (pair_eq hok hus ((strike_sub hok hus).1 (of_decide_eq_true hal)))
  have hnet := okB_iff.1 hus
  have hsu := (ok_srt.1 hnet).2.2
  have hK8 := hnet.2.1
  have hbu : BitsOf (setN K us) us := by rw [setN_yes hus]; exact mask_bitsOf us
  have hul := ok_short hnet
  have HSU := hideP hsu
  have HBU := hideP hbu
  clear hok hus hal hnet hsu hbu
  go_wp2_with fail
  refine (hasAll_v true (setN K ts) (setN K us) _ (setN_lt _ _) (setN_lt _ _) HAL.out).mono ?_
  rintro e w4 ⟨rfl, rfl⟩
  go_wp2_with fail
  refine (knots_any K hK8 us HSU.out (setN K us) _ (setN_lt _ _) HBU.out).mono ?_
  rintro e w5 ⟨a5, c5, rfl, hb5⟩
  have HB5 := hideP (HB.out.trans (hb5.mono HB.out.size))
  obtain ⟨q, hq⟩ : ∃ q, q = 8 - unm (touchB us) 8 := ⟨_, rfl⟩
  rw [← hq] at HV ⊢
  obtain ⟨n, hnn⟩ : ∃ n, n = us.length := ⟨_, rfl⟩
  rw [← hnn] at HV hul ⊢
  have HW : Hid (pairB K ts us = ((q : Int) == 2 * (n : Int))) := by
    show pairB K ts us = ((q : Int) == 2 * (n : Int))
    rw [HV.out, Bool.eq_iff_iff, decide_eq_true_eq, beq_iff_eq]; omega
  clear hb5 hq HB hnn HV
  go_wp2
  go_ret
  exact ⟨by rw [HW.out]; rfl, HB5.out⟩

end Go.Proofs.Ytljnjpjnadlmhaa
