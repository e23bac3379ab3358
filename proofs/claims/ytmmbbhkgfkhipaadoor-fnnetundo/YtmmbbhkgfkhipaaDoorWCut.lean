/- Walks of without, withoutKnot, impl.NetCut, impl.NetWithout. -/
import Derived.Test.YtmmbbhkgfkhipaaDoorMath4
namespace Go.Proofs.YtmmbbhkgfkhipaaDoor
open Go.RowKit
set_option linter.unusedVariables false

theorem andNot_nat (p q : Nat) (hp : p < 2 ^ 64) (hq : q < 2 ^ 64) : bits .andNot .u64 (p : Int) (q : Int) = ((strike p q : Nat) : Int) := by
  have : (2 : Nat) ^ 64 = 18446744073709551616 := by decide
  exact u64_andNot_nat p q (by omega) (by omega)

set_option maxHeartbeats 400000 in
theorem without_any (p : Nat) (a b : Int) (w : World) (hp : p < 2 ^ 64) :
    Calls Tryd.prog 36 #[.int .u64 (p : Int), .int .i64 a, .int .i64 b] w fun e w' => e = .returned (.int .u64 ((strike p (pbit a b) : Nat) : Int)) ∧ w' = w := by
  have hor := andNot_nat p (pbit a b) hp (pbit_lt a b)
  clear hp
  go_enter Tryd.func36, Tryd.ntmps36
  go_wp2_with fail
  refine (pairBit_any a b _).mono ?_
  rintro e w' ⟨rfl, rfl⟩
  go_wp2
  go_ret
  exact ⟨rfl, rfl⟩

set_option maxHeartbeats 800000 in
theorem withoutKnot_any (K : Int) (hK : K ≤ 8) (ts : List (Int × Int)) (hs : Srt K ts) (p : Nat) (k : Int) (w : World) (hp : p < 2 ^ 64) (hb : BitsOf p ts) :
    Calls Tryd.prog 39 #[.int .u64 (p : Int), .int .i64 k] w fun e w' => ∃ m : Nat, e = .returned (.int .u64 (m : Int)) ∧ w' = w ∧ m < 2 ^ 64 ∧ BitsOf m (ts.filter (notOf k)) := by
  go_enter Tryd.func39, Tryd.ntmps39
  go_wp2
  go_loop [0, 6] (fun q i => ∃ j m : Nat, j ≤ 8 ∧ i = .int .i64 j ∧ q = .int .u64 (m : Int) ∧ m < 2 ^ 64 ∧ BitsOf m (ts.filter (apartTo k j))) (fun _ i => 8 - (intOf i).toNat)
  case atStart => exact ⟨0, p, Nat.zero_le _, rfl, rfl, hp, by
    have e : ts.filter (apartTo k 0) = ts := by
      rw [List.filter_eq_self]; intro x _; simp [apartTo]
    rw [e]; exact hb⟩
  case round =>
    obtain ⟨j, m, hj, rfl, rfl, hm, hbits⟩ := hrel
    clear hp hb
    by_cases hlt : j < 8
    · have hnx : BitsOf (strike m (pbit k (j : Int))) (ts.filter (apartTo k (j + 1))) := by
        rw [apart_succ]
        exact bits_strike hK (fun t ht => hs.1 t (List.mem_filter.1 ht).1) hm hbits k (j : Int)
      have HNX := hideP hnx
      have HM := hideP (strike_lt m (pbit k (j : Int)) hm)
      clear hnx hbits
      go_wp2_with fail
      refine (without_any m k (j : Int) _ hm).mono ?_
      rintro e w' ⟨rfl, rfl⟩
      go_wp2
      go_round
      case rel => exact ⟨j + 1, _, by omega, by go_num, rfl, HM.out, HNX.out⟩
      case measure => simp [intOf]; omega
    · have hj8 : j = 8 := by omega
      subst hj8
      have hfin : BitsOf m (ts.filter (notOf k)) := by rw [← apart_all hK k hs.1]; exact hbits
      have HF := hideP hfin
      clear hfin hbits
      go_wp2
      go_ret
      exact ⟨m, rfl, rfl, hm, HF.out⟩

set_option maxHeartbeats 800000 in
theorem netCut_no (K : Int) (ao : Option Addr) (cap : Nat) (ts : List (Int × Int)) (a b : Int) (w : World) (hn : ts.length ≤ 1099511627776) (ht : TiesIn w w.heap.size ao ts) (hno : hasB K ts a b = false) :
    Calls Tryd.prog 18 #[.agg #[.int .i64 K, .slice ao ts.length cap], .int .i64 a, .int .i64 b] w fun e w' => e = .returned (.tuple #[.agg #[.int .i64 0, .slice none 0 0], .bool false]) ∧ Below w.heap.size w w' := by
  have ht1 := fun o p => (ht.below (below_two w o p) (Nat.le_refl _)).wide (C := w.heap.size + 1 + 1) (by omega)
  go_enter Tryd.func18, Tryd.ntmps18
  go_wp2_with fail
  refine (pairsOf_any K ao cap ts _ hn (by simpa using ht1 _ _)).mono ?_
  rintro e w1 ⟨rfl, hb⟩
  obtain ⟨c0, c1, r0, r1, f0, f1, hz, hbb⟩ := (Boxes.start hb : Boxes w w1 K (.slice ao ts.length cap))
  clear hb ht ht1
  cases hok : okB K ts
  · clear hno
    go_wp2
    refine bodyPost_ret (v := .tuple #[.agg #[.int .i64 0, .slice none 0 0], .bool false]) ?_ rfl ⟨rfl, ?_⟩
    · simp [results, Tryd.results18, go_sem, r0, r1]
    · exact (hbb.setCell (by simp) _).setCell (by simp) _
  · have HOK := hideP hok
    have HNO := hideP hno
    clear hok hno
    go_wp2_with fail
    refine (has_is false K ts a b _ HOK.out HNO.out).mono ?_
    rintro e w2 ⟨rfl, rfl⟩
    go_wp2
    refine bodyPost_ret (v := .tuple #[.agg #[.int .i64 0, .slice none 0 0], .bool false]) ?_ rfl ⟨rfl, ?_⟩
    · simp [results, Tryd.results18, go_sem, r0, r1]
    · exact (hbb.setCell (by simp) _).setCell (by simp) _

set_option maxHeartbeats 800000 in
theorem netCut_yes (K : Int) (ao : Option Addr) (cap : Nat) (ts : List (Int × Int)) (a b : Int) (w : World) (hn : ts.length ≤ 1099511627776) (ht : TiesIn w w.heap.size ao ts) (hT : Tab w) (hhas : hasB K ts a b = true) :
    Calls Tryd.prog 18 #[.agg #[.int .i64 K, .slice ao ts.length cap], .int .i64 a, .int .i64 b] w fun e w' => ∃ ao' cap', e = .returned (.tuple #[.agg #[.int .i64 K, .slice ao' (ts.filter (other (tieOf a b))).length cap'], .bool true]) ∧
      w'.ownsRow w.heap.size 32 2 (.slice ao' (ts.filter (other (tieOf a b))).length cap') (ts.filter (other (tieOf a b))).length (clist (ts.filter (other (tieOf a b))) (ts.filter (other (tieOf a b))).length) ∧ Below w.heap.size w w' := by
  obtain ⟨hsrt, hK8, hbits⟩ := cut_good hhas
  have hok := has_ok hhas
  have hK0 := (ok_parts hok).1
  have HG := hideP (hsrt.good hK8)
  have HL := hideP (ok_short ⟨hK0, hK8, HG.out⟩)
  have HB := hideP (bitsFrom_of hbits)
  have HM := hideP (strike_lt (setN K ts) (pbit a b) (setN_lt K ts))
  have HOK := hideP hok
  have HH := hideP hhas
  clear hsrt hbits hok hhas hK0
  generalize ts.filter (other (tieOf a b)) = us at *
  generalize hsp : strike (setN K ts) (pbit a b) = sp at *
  have HSP := hideP hsp
  clear hsp
  have ht1 := fun o p => (ht.below (below_two w o p) (Nat.le_refl _)).wide (C := w.heap.size + 1 + 1) (by omega)
  go_enter Tryd.func18, Tryd.ntmps18
  go_wp2_with fail
  refine (pairsOf_any K ao cap ts _ hn (by simpa using ht1 _ _)).mono ?_
  rintro e w1 ⟨rfl, hb⟩
  rw [HOK.out]
  have B1 : Boxes w w1 K (.slice ao ts.length cap) := Boxes.start hb
  clear hb ht ht1
  go_wp2_with fail
  refine (has_is true K ts a b _ HOK.out HH.out).mono ?_
  rintro e w4 ⟨rfl, rfl⟩
  have B3d : Boxes w w4.drew K (.slice ao ts.length cap) := B1.next (Below.refl _ _).drew
  have hT4 : Tab w4.drew := hT.below B3d.bel hT.2
  have c0 := B3d.c0
  have HB3 := hideP B1
  clear B1 hT
  go_wp2
  go_region_held3 (fun w' => w'.cell? ⟨w.heap.size, 0, none⟩ = some (.int .i64 K)) (first | exact c0 | exact c05 | (go_keep; done)) (first | (go_at_call 36; refine (without_any (setN K ts) a b _ (setN_lt K ts)).mono ?_; rw [HSP.out]; rintro e w' ⟨rfl, rfl⟩) | (go_at_call 33; refine (ties_two K us sp _ hT4 hK8 HG.out HL.out HB.out HM.out).mono ?_; rintro e w5 ⟨ao', cap', rfl, ho5, hb5⟩; obtain ⟨c05, c15, r05, r15, f05, f15, hz5, hbb5⟩ := B3d.next hb5))
  have hz6 : w.heap.size + 1 < w4.heap.size := HB3.out.hz
  have ho6 : Hid (((w5.setCell ⟨w.heap.size + 1, 0, none⟩ (.int .i64 K)).setCell ⟨w.heap.size + 1, 1, none⟩ (.slice ao' us.length cap')).ownsRow w.heap.size 32 2 (.slice ao' us.length cap') us.length (clist us us.length)) :=
    own_base (ownsRow_setCell_below (ownsRow_setCell_below ho5 (a := ⟨w.heap.size + 1, 0, none⟩) hz6 _) (a := ⟨w.heap.size + 1, 1, none⟩) hz6 _) (by show w.heap.size ≤ w4.heap.size; omega)
  clear ho5 HB3 B3d
  go_wp2
  refine bodyPost_ret (v := .tuple #[.agg #[.int .i64 K, .slice ao' us.length cap'], .bool true]) ?_ rfl ⟨ao', cap', rfl, ?_, ?_⟩
  · simp [results, Tryd.results18, go_sem, r05, r15]
  · exact ho6.out
  · exact (hbb5.setCell (by simp) _).setCell (by simp) _

set_option maxHeartbeats 800000 in
theorem netOut_no (K : Int) (ao : Option Addr) (cap : Nat) (ts : List (Int × Int)) (k : Int) (w : World) (hn : ts.length ≤ 1099511627776) (ht : TiesIn w w.heap.size ao ts) (hno : outB K ts k = false) :
    Calls Tryd.prog 21 #[.agg #[.int .i64 K, .slice ao ts.length cap], .int .i64 k] w fun e w' => e = .returned (.agg #[.int .i64 0, .slice none 0 0]) ∧ Below w.heap.size w w' := by
  have ht1 := fun o p => (ht.below (below_two w o p) (Nat.le_refl _)).wide (C := w.heap.size + 1 + 1) (by omega)
  go_enter Tryd.func21, Tryd.ntmps21
  go_wp2_with fail
  refine (pairsOf_any K ao cap ts _ hn (by simpa using ht1 _ _)).mono ?_
  rintro e w1 ⟨rfl, hb⟩
  have B1 : Boxes w w1 K (.slice ao ts.length cap) := Boxes.start hb
  have B1' := B1
  obtain ⟨c0, c1, r0, r1, f0, f1, hz, hbb⟩ := B1'
  clear hb ht ht1
  cases hok : okB K ts
  · clear hno
    go_wp2
    refine bodyPost_ret (v := .agg #[.int .i64 0, .slice none 0 0]) ?_ rfl ⟨rfl, ?_⟩
    · simp [results, Tryd.results21, go_sem, r0, r1]
    · exact (hbb.setCell (by simp) _).setCell (by simp) _
  · have hk : knotB k K = false := by unfold outB at hno; simpa [hok] using hno
    clear hok hno
    go_wp2_with fail
    refine (hasKnot_b false K _ k _ hk).mono ?_
    rintro e w2 ⟨rfl, hb2⟩
    clear c0 c1 r0 r1 f0 f1 hz hbb
    obtain ⟨c0, c1, r0, r1, f0, f1, hz, hbb⟩ := B1.next hb2
    clear hb2 B1 hk
    go_wp2
    refine bodyPost_ret (v := .agg #[.int .i64 0, .slice none 0 0]) ?_ rfl ⟨rfl, ?_⟩
    · simp [results, Tryd.results21, go_sem, r0, r1]
    · exact (hbb.setCell (by simp) _).setCell (by simp) _

set_option maxHeartbeats 800000 in
theorem netOut_yes (K : Int) (ao : Option Addr) (cap : Nat) (ts : List (Int × Int)) (k : Int) (w : World) (hn : ts.length ≤ 1099511627776) (ht : TiesIn w w.heap.size ao ts) (hT : Tab w) (hout : outB K ts k = true) :
    Calls Tryd.prog 21 #[.agg #[.int .i64 K, .slice ao ts.length cap], .int .i64 k] w fun e w' => ∃ ao' cap', e = .returned (.agg #[.int .i64 K, .slice ao' (ts.filter (notOf k)).length cap']) ∧
      w'.ownsRow w.heap.size 32 2 (.slice ao' (ts.filter (notOf k)).length cap') (ts.filter (notOf k)).length (clist (ts.filter (notOf k)) (ts.filter (notOf k)).length) ∧ Below w.heap.size w w' := by
  obtain ⟨hok, hk⟩ := out_ok hout
  obtain ⟨hK0, hK8, hs⟩ := ok_parts hok
  have hsrt := srt_filter hs (notOf k)
  have HG := hideP (hsrt.good hK8)
  have HL := hideP (ok_short ⟨hK0, hK8, HG.out⟩)
  have HOK := hideP hok
  have hbs : BitsOf (setN K ts) ts := by rw [setN_yes hok]; exact mask_bitsOf ts
  have HW := hideP (fun w => withoutKnot_any K hK8 ts hs (setN K ts) k w (setN_lt K ts) hbs)
  clear hsrt hok hout hK0 hs hbs
  generalize ts.filter (notOf k) = us at *
  have ht1 := fun o p => (ht.below (below_two w o p) (Nat.le_refl _)).wide (C := w.heap.size + 1 + 1) (by omega)
  go_enter Tryd.func21, Tryd.ntmps21
  go_wp2_with fail
  refine (pairsOf_any K ao cap ts _ hn (by simpa using ht1 _ _)).mono ?_
  rintro e w1 ⟨rfl, hb⟩
  rw [HOK.out]
  have B1 : Boxes w w1 K (.slice ao ts.length cap) := Boxes.start hb
  have B1' := B1
  obtain ⟨c0, c1, r0, r1, f0, f1, hz, hbb⟩ := B1'
  clear hb ht ht1
  go_wp2_with fail
  refine (hasKnot_b true K _ k _ hk).mono ?_
  rintro e w4 ⟨rfl, hb4⟩
  clear c0 c1 r0 r1 f0 f1 hz hbb
  have B2 := B1.next hb4
  clear hb4 B1 hk
  have B3d : Boxes w w4.drew K (.slice ao ts.length cap) := B2.next (Below.refl _ _).drew
  have hT4 : Tab w4.drew := hT.below B3d.bel hT.2
  have c0 := B3d.c0
  have HB3 := hideP B2
  clear B2 hT
  go_wp2
  go_region_held3 (fun w' => w'.cell? ⟨w.heap.size, 0, none⟩ = some (.int .i64 K)) (first | exact c0 | exact c05 | (go_keep; done)) (first | (go_at_call 39; refine (HW.out _).mono ?_; rintro e w' ⟨m, rfl, rfl, hm, hbm⟩; have HM := hideP hm; have HBM := hideP (bitsFrom_of hbm); clear hm hbm) | (go_at_call 33; refine (ties_two K us m _ hT4 hK8 HG.out HL.out HBM.out HM.out).mono ?_; rintro e w5 ⟨ao', cap', rfl, ho5, hb5⟩; obtain ⟨c05, c15, r05, r15, f05, f15, hz5, hbb5⟩ := B3d.next hb5))
  have hz6 : w.heap.size + 1 < w4.heap.size := HB3.out.hz
  have ho6 : Hid (((w5.setCell ⟨w.heap.size + 1, 0, none⟩ (.int .i64 K)).setCell ⟨w.heap.size + 1, 1, none⟩ (.slice ao' us.length cap')).ownsRow w.heap.size 32 2 (.slice ao' us.length cap') us.length (clist us us.length)) :=
    own_base (ownsRow_setCell_below (ownsRow_setCell_below ho5 (a := ⟨w.heap.size + 1, 0, none⟩) hz6 _) (a := ⟨w.heap.size + 1, 1, none⟩) hz6 _) (by show w.heap.size ≤ w4.heap.size; omega)
  clear ho5 HB3 B3d
  go_wp2
  refine bodyPost_ret (v := .agg #[.int .i64 K, .slice ao' us.length cap']) ?_ rfl ⟨ao', cap', rfl, ?_, ?_⟩
  · simp [results, Tryd.results21, go_sem, r05, r15]
  · exact ho6.out
  · exact (hbb5.setCell (by simp) _).setCell (by simp) _

end Go.Proofs.YtmmbbhkgfkhipaaDoor
