/- Walks of impl.treeOf and impl.TreeOf. -/
import Derived.Test.YtiaeffpjcinilaaDoorMathT
import Derived.Test.YtiaeffpjcinilaaDoorWForest2
import Derived.Test.YtiaeffpjcinilaaDoorWTies
import Derived.Test.YtiaeffpjcinilaaDoorWReach2
namespace Go.Proofs.YtiaeffpjcinilaaDoor
open Go.RowKit
set_option linter.unusedVariables false

/-- a forest of the call's own in block A; all that was there is as it was -/
structure Gst (w wr : World) (A : Nat) (c : Nat → Value) : Prop where
  F : OwnI wr A 8 c
  B : Below w.heap.size w wr
  h : w.heap.size ≤ A
theorem Gst.next {w wr w' : World} {A : Nat} {c : Nat → Value} (h : Gst w wr A c) (hb : Below wr.heap.size wr w') : Gst w w' A c :=
  ⟨h.F.below hb h.F.2.2, h.B.trans (hb.mono h.B.size), h.h⟩
theorem Gst.turn {w wr w' : World} {A : Nat} {c c' : Nat → Value} (h : Gst w wr A c) (ht : Turned A (A + 1) wr w') (hF : OwnI w' A 8 c') : Gst w w' A c' :=
  ⟨hF, h.B.trans (ht.under h.h h.B.size), h.h⟩
set_option maxHeartbeats 1600000 in
theorem treeM_any (K : Int) (ts : List (Int × Int)) (w : World) (hT : Tab w) (hok : okB K ts = true) :
    Calls Tryd.prog 47 #[.int .u64 ((setN K ts : Nat) : Int)] w fun e w' => e = .returned (.int .u64 ((treeM ts ts.length : Nat) : Int)) ∧ Below w.heap.size w w' := by
  obtain ⟨_, hK, hg⟩ := okB_iff.1 hok
  have hn := ok_short (okB_iff.1 hok)
  have hb := hideP (set_bits hok)
  have hm := hideP (setN_lt K ts)
  have HOK := hideP hok
  have HTab := hideP hT
  obtain ⟨m, hm'⟩ : ∃ m, m = setN K ts := ⟨_, rfl⟩
  rw [← hm'] at hb hm ⊢
  clear hT hm' hok
  go_enter Tryd.func47, Tryd.ntmps47
  go_wp2_with fail
  refine (alone_any _).mono ?_
  rintro e w1 ⟨rfl, hb1⟩
  have S1 : ∀ t', Hid (Gst w (w1.alloc (.cells #[.int .i64 ((0 : Nat) : Int), .int .i64 ((1 : Nat) : Int), .int .i64 ((2 : Nat) : Int), .int .i64 ((3 : Nat) : Int), .int .i64 ((4 : Nat) : Int), .int .i64 ((5 : Nat) : Int), .int .i64 ((6 : Nat) : Int), .int .i64 ((7 : Nat) : Int)] t')) w1.heap.size (pcellN (forest ts 0))) :=
    fun t' => ⟨forest_own w1 (fun k => k) t', hb1.trans ((below_one w1 _).mono hb1.size), hb1.size⟩
  have T1 := fun o => hideP ((HTab.out.below hb1 HTab.out.2).alloc o)
  have hA : w.heap.size ≤ w1.heap.size := hb1.size
  unfold forestV
  clear hb1 HTab
  go_wp2_with fail
  refine (ties_two' K ts m _ (T1 _).out hK hg hn hb.out hm.out).mono ?_
  rintro e w2 ⟨ao, cap, rfl, ho, hb2⟩
  have S2 := hideP ((S1 _).out.next hb2)
  clear S1 T1
  obtain ⟨A, hAe⟩ : ∃ A, A = w1.heap.size := ⟨_, rfl⟩
  rw [← hAe] at hA S2 ⊢
  obtain ⟨lo, hlo⟩ : ∃ lo, lo = A + 1 := ⟨_, rfl⟩
  have HO := hideP (show OwnN w2 lo w2.heap.size ao ts.length (tcell ts) by rw [hlo, hAe]; simpa using ho)
  have hFlo : A + 1 ≤ lo := by omega
  obtain ⟨hi, hhi⟩ : ∃ hi, hi = w2.heap.size := ⟨_, rfl⟩
  rw [← hhi] at HO
  have hi2 : hi ≤ w2.heap.size := by omega
  clear hb2 ho hlo hhi hAe hb hm
  go_wp2
  go_loopw [3, 11] (fun t i wr => ∃ k : Nat, k ≤ ts.length ∧ t = .int .u64 ((treeM ts k : Nat) : Int) ∧ i = .int .i64 k ∧ Gst w wr A (pcellN (forest ts k)) ∧ OwnN wr lo hi ao ts.length (tcell ts) ∧ hi ≤ wr.heap.size)
    (fun _ i _ => ts.length - (intOf i).toNat)
  case atStart => exact ⟨0, Nat.zero_le _, rfl, rfl, S2.out, HO.out, hi2⟩
  case round =>
    obtain ⟨k, hk, rfl, rfl, hS, hO, hhz⟩ := hrel
    by_cases hlt : k < ts.length
    · obtain ⟨g, off, rfl, hgw, c0, c1⟩ := hO.ties (B := hi) (Nat.le_refl _) k hlt
      have htk := (hg k hlt).1
      obtain ⟨q1, q2, q3⟩ := htk
      obtain ⟨a, ha⟩ : ∃ a : Nat, tA ts k = (a : Int) := ⟨(tA ts k).toNat, by omega⟩
      obtain ⟨b, hb'⟩ : ∃ b : Nat, tB ts k = (b : Int) := ⟨(tB ts k).toNat, by omega⟩
      have HF : Hid (join (forest ts k) a b = forest ts (k + 1)) := by
        show join (forest ts k) a b = join (forest ts k) (tA ts k).toNat (tB ts k).toNat
        rw [ha, hb']; simp
      have HJ : Hid (joinB (forest ts k) a b = takeB ts k) := by
        show _ = joinB (forest ts k) (tA ts k).toNat (tB ts k).toNat
        rw [ha, hb']; simp
      have HY : Hid (takeB ts k = true → treeM ts (k + 1) = treeM ts k ||| pbit (a : Int) (b : Int)) := by
        intro h
        rw [treeM_yes hK h (hg k hlt).1, ha, hb']
      have ha8 : a < 8 := by omega
      have hb8 : b < 8 := by omega
      have HL := hideP (treeM_lt HOK.out (Nat.le_of_lt hlt))
      rw [ha] at c0
      rw [hb'] at c1
      have hk1 : (k : Int) < (ts.length : Int) := by omega
      have hgz : g < wr.heap.size := by omega
      have hAz : A < wr.heap.size := hS.F.2.2
      have bo1 := below_one wr (.cells #[.int .i64 (a : Int), .int .i64 (b : Int)] 39)
      have S3 := hideP (hS.next bo1)
      have O3 := hideP (hO.next bo1)
      clear hS hO bo1 ha hb' q1 q2 q3
      go_wp2_with fail
      refine (join_any A (forest ts k) a b _ S3.out.F (forest_low ts k) ha8 hb8).mono ?_
      rintro e w3 ⟨rfl, hF3, ht3⟩
      rw [HF.out] at hF3
      rw [HJ.out]
      have d0 : w3.cell? ⟨wr.heap.size, 0, none⟩ = some (.int .i64 (a : Int)) := (ht3.cell (p := ⟨wr.heap.size, 0, none⟩) (by simp) (Or.inr (by show A + 1 ≤ wr.heap.size; omega))).trans (by simp)
      have d1 : w3.cell? ⟨wr.heap.size, 1, none⟩ = some (.int .i64 (b : Int)) := (ht3.cell (p := ⟨wr.heap.size, 1, none⟩) (by simp) (Or.inr (by show A + 1 ≤ wr.heap.size; omega))).trans (by simp)
      have S4 := hideP (S3.out.turn ht3 hF3)
      have O4 := hideP (O3.out.aside ht3 (Or.inr hFlo))
      have hz3 : hi ≤ w3.heap.size := by have := ht3.size; simp at this; omega
      clear hF3 ht3 S3 O3
      cases htk : takeB ts k
      · have HN := hideP (treeM_no htk)
        clear htk HY HJ
        go_wp2
        go_roundw
        case rel => exact ⟨k + 1, by omega, by rw [HN.out], by go_num, S4.out, O4.out, hz3⟩
        case measure => simp [intOf]; omega
      · have HN := hideP (HY.out htk)
        clear htk HY HJ
        go_wp2_with fail
        refine (with_any (treeM ts k) a b _ HL.out).mono ?_
        rintro e w4 ⟨rfl, rfl⟩
        rw [← HN.out]
        go_wp2
        go_roundw
        case rel => exact ⟨k + 1, by omega, rfl, by go_num, S4.out, O4.out, hz3⟩
        case measure => simp [intOf]; omega
    · obtain rfl : k = ts.length := by omega
      have HB := hideP hS.B
      clear hS hO
      go_wp2
      go_ret
      exact ⟨rfl, HB.out⟩

set_option maxHeartbeats 800000 in
theorem implTree_any (K : Int) (ao : Option Addr) (cap : Nat) (ts : List (Int × Int)) (w : World) (hn : ts.length ≤ 1099511627776) (ht : TiesIn w w.heap.size ao ts) (hT : Tab w) :
    Calls Tryd.prog 30 #[.agg #[.int .i64 K, .slice ao ts.length cap]] w fun e w' => ∃ ao' cap', e = .returned (.slice ao' (treeTs K ts).length cap') ∧ OwnN w' w.heap.size w'.heap.size ao' (treeTs K ts).length (tcell (treeTs K ts)) ∧ Below w.heap.size w w' := by
  have X0 := fun (t : TypeId) => Bx.start w K (.slice ao ts.length cap) t
  have HX0 := hideP X0
  have HT := hideP ht
  have HTab := hideP hT
  clear X0 ht hT
  go_enter Tryd.func30, Tryd.ntmps30
  go_wp2_with fail
  refine (pairsOf_any K ao cap ts _ hn ((HT.out.below (HX0.out _).B (Nat.le_refl _)).wide (Nat.le_of_lt (HX0.out _).lt))).mono ?_
  rintro e w2 ⟨rfl, hb1⟩
  have X2 := hideP ((HX0.out _).next hb1)
  clear hb1
  cases hok : okB K ts
  · have HN : Hid (treeTs K ts = []) := treeTs_no hok
    have HB := hideP X2.out.B
    clear hok
    go_wp2
    go_ret
    exact ⟨none, 0, by rw [HN.out]; rfl, by rw [HN.out]; exact Or.inl ⟨rfl, rfl⟩, HB.out⟩
  have HN : Hid (treeTs K ts = treeTo ts ts.length) := treeTs_yes hok
  have HOK := hideP hok
  have T2 := hideP (HTab.out.below X2.out.B HTab.out.2)
  have hK8 := (okB_iff.1 hok).2.1
  have HU := hideP (treeTo_ok hok (Nat.le_refl _))
  have HM := hideP (treeM_set hok (Nat.le_refl _))
  clear hok
  go_wp2_with fail
  refine (treeM_any K ts _ T2.out HOK.out).mono ?_
  rintro e w3 ⟨rfl, hb3⟩
  have X3 := hideP (X2.out.next hb3)
  have T3 := hideP (T2.out.below hb3 T2.out.2)
  obtain ⟨us, hus⟩ : ∃ us, us = treeTo ts ts.length := ⟨_, rfl⟩
  rw [HM.out]
  rw [← hus] at HU HN ⊢
  clear hb3 T2 hus HM
  go_wp2_with fail
  refine (ties_two' K us (setN K us) _ T3.out hK8 (okB_iff.1 HU.out).2.2 (ok_short (okB_iff.1 HU.out)) (set_bits HU.out) (setN_lt K us)).mono ?_
  rintro e w4 ⟨ao', cap', rfl, ho, hb4⟩
  have X4 := hideP (X3.out.next hb4)
  have hO : Hid (OwnN w4 w.heap.size w4.heap.size ao' us.length (tcell us)) := by
    rcases ho with h | ⟨g, e, h1, h2, h3⟩
    · exact Or.inl h
    · exact Or.inr ⟨g, e, Nat.le_trans X3.out.B.size h1, h2, h3⟩
  clear ho hb4 T3
  go_wp2
  go_ret
  refine ⟨ao', cap', ?_, ?_, X4.out.B⟩
  · rw [HN.out]; rfl
  · rw [HN.out]; exact hO.out

end Go.Proofs.YtiaeffpjcinilaaDoor
