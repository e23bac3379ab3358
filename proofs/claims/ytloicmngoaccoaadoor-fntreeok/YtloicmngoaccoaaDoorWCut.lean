/- Walks of without, withoutKnot, impl.NetCut, impl.NetWithout. -/
import Derived.Test.YtloicmngoaccoaaDoorMath4
import Derived.Test.YtloicmngoaccoaaDoorWAdd
namespace Go.Proofs.YtloicmngoaccoaaDoor
open Go.RowKit
set_option linter.unusedVariables false

theorem andNot_nat (p q : Nat) (hp : p < 2 ^ 64) (hq : q < 2 ^ 64) : bits .andNot .u64 (p : Int) (q : Int) = ((strike p q : Nat) : Int) := by
  have : (2 : Nat) ^ 64 = 18446744073709551616 := by decide
  exact u64_andNot_nat p q (by omega) (by omega)

set_option maxHeartbeats 400000 in
theorem without_any (p : Nat) (a b : Int) (w : World) (hp : p < 2 ^ 64) :
    Calls Tryd.prog 63 #[.int .u64 (p : Int), .int .i64 a, .int .i64 b] w fun e w' => e = .returned (.int .u64 ((strike p (pbit a b) : Nat) : Int)) ∧ w' = w := by
  have hor := andNot_nat p (pbit a b) hp (pbit_lt a b)
  clear hp
  go_enter Tryd.func63, Tryd.ntmps63
  go_wp2_with fail
  refine (pairBit_any a b _).mono ?_
  rintro e w' ⟨rfl, rfl⟩
  go_wp2
  go_ret
  exact ⟨rfl, rfl⟩

set_option maxHeartbeats 800000 in
theorem netCut_no (K : Int) (ao : Option Addr) (cap : Nat) (ts : List (Int × Int)) (a b : Int) (w : World) (hn : ts.length ≤ 1099511627776) (ht : TiesIn w w.heap.size ao ts) (hno : hasB K ts a b = false) :
    Calls Tryd.prog 22 #[.agg #[.int .i64 K, .slice ao ts.length cap], .int .i64 a, .int .i64 b] w fun e w' => e = .returned (.tuple #[.agg #[.int .i64 0, .slice none 0 0], .bool false]) ∧ Below w.heap.size w w' := by
  have ht1 := fun o p => (ht.below (below_two w o p) (Nat.le_refl _)).wide (C := w.heap.size + 1 + 1) (by omega)
  go_enter Tryd.func22, Tryd.ntmps22
  go_wp2_with fail
  refine (pairsOf_any K ao cap ts _ hn (by simpa using ht1 _ _)).mono ?_
  rintro e w1 ⟨rfl, hb⟩
  obtain ⟨c0, c1, r0, r1, f0, f1, hz, hbb⟩ := (Boxes.start hb : Boxes w w1 K (.slice ao ts.length cap))
  clear hb ht ht1
  cases hok : okB K ts
  · clear hno
    go_wp2
    refine bodyPost_ret (v := .tuple #[.agg #[.int .i64 0, .slice none 0 0], .bool false]) ?_ rfl ⟨rfl, ?_⟩
    · simp [results, Tryd.results22, go_sem, r0, r1]
    · exact (hbb.setCell (by simp) _).setCell (by simp) _
  · have HOK := hideP hok
    have HNO := hideP hno
    clear hok hno
    go_wp2_with fail
    refine (has_is false K ts a b _ HOK.out HNO.out).mono ?_
    rintro e w2 ⟨rfl, rfl⟩
    go_wp2
    refine bodyPost_ret (v := .tuple #[.agg #[.int .i64 0, .slice none 0 0], .bool false]) ?_ rfl ⟨rfl, ?_⟩
    · simp [results, Tryd.results22, go_sem, r0, r1]
    · exact (hbb.setCell (by simp) _).setCell (by simp) _

set_option maxHeartbeats 800000 in
theorem netCut_yes (K : Int) (ao : Option Addr) (cap : Nat) (ts : List (Int × Int)) (a b : Int) (w : World) (hn : ts.length ≤ 1099511627776) (ht : TiesIn w w.heap.size ao ts) (hT : Tab w) (hhas : hasB K ts a b = true) :
    Calls Tryd.prog 22 #[.agg #[.int .i64 K, .slice ao ts.length cap], .int .i64 a, .int .i64 b] w fun e w' => ∃ ao' cap', e = .returned (.tuple #[.agg #[.int .i64 K, .slice ao' (ts.filter (other (tieOf a b))).length cap'], .bool true]) ∧
      w'.ownsRow w.heap.size 35 2 (.slice ao' (ts.filter (other (tieOf a b))).length cap') (ts.filter (other (tieOf a b))).length (clist (ts.filter (other (tieOf a b))) (ts.filter (other (tieOf a b))).length) ∧ Below w.heap.size w w' := by
  obtain ⟨hsrt, hK8, hbits⟩ := cut_good hhas
  have hok := has_ok hhas
  have hK0 := (ok_parts hok).1
  have HG := hideP (hsrt.good hK8)
  have HL := hideP (ok_short ⟨hK0, hK8, HG.out⟩)
  have HB := hideP (bitsFrom_of hbits)
  have HM := hideP (strike_lt (setN K ts) (pbit a b) (setN_lt K ts))
  have HOK := hideP hok
  have HH := hideP hhas
  clear hsrt hbits hok hhas hK0
  generalize ts.filter (other (tieOf a b)) = us at *
  generalize hsp : strike (setN K ts) (pbit a b) = sp at *
  have HSP := hideP hsp
  clear hsp
  have ht1 := fun o p => (ht.below (below_two w o p) (Nat.le_refl _)).wide (C := w.heap.size + 1 + 1) (by omega)
  go_enter Tryd.func22, Tryd.ntmps22
  go_wp2_with fail
  refine (pairsOf_any K ao cap ts _ hn (by simpa using ht1 _ _)).mono ?_
  rintro e w1 ⟨rfl, hb⟩
  rw [HOK.out]
  have B1 : Boxes w w1 K (.slice ao ts.length cap) := Boxes.start hb
  clear hb ht ht1
  go_wp2_with fail
  refine (has_is true K ts a b _ HOK.out HH.out).mono ?_
  rintro e w4 ⟨rfl, rfl⟩
  have B3d : Boxes w w4.drew K (.slice ao ts.length cap) := B1.next (Below.refl _ _).drew
  have hT4 : Tab w4.drew := hT.below B3d.bel hT.2
  have c0 := B3d.c0
  have HB3 := hideP B1
  clear B1 hT
  go_wp2
  go_region_held3 (fun w' => w'.cell? ⟨w.heap.size, 0, none⟩ = some (.int .i64 K)) (first | exact c0 | exact c05 | (go_keep; done)) (first | (go_at_call 63; refine (without_any (setN K ts) a b _ (setN_lt K ts)).mono ?_; rw [HSP.out]; rintro e w' ⟨rfl, rfl⟩) | (go_at_call 58; refine (ties_two K us sp _ hT4 hK8 HG.out HL.out HB.out HM.out).mono ?_; rintro e w5 ⟨ao', cap', rfl, ho5, hb5⟩; obtain ⟨c05, c15, r05, r15, f05, f15, hz5, hbb5⟩ := B3d.next hb5))
  have hz6 : w.heap.size + 1 < w4.heap.size := HB3.out.hz
  have ho6 : Hid (((w5.setCell ⟨w.heap.size + 1, 0, none⟩ (.int .i64 K)).setCell ⟨w.heap.size + 1, 1, none⟩ (.slice ao' us.length cap')).ownsRow w.heap.size 35 2 (.slice ao' us.length cap') us.length (clist us us.length)) :=
    own_base (ownsRow_setCell_below (ownsRow_setCell_below ho5 (a := ⟨w.heap.size + 1, 0, none⟩) hz6 _) (a := ⟨w.heap.size + 1, 1, none⟩) hz6 _) (by show w.heap.size ≤ w4.heap.size; omega)
  clear ho5 HB3 B3d
  go_wp2
  refine bodyPost_ret (v := .tuple #[.agg #[.int .i64 K, .slice ao' us.length cap'], .bool true]) ?_ rfl ⟨ao', cap', rfl, ?_, ?_⟩
  · simp [results, Tryd.results22, go_sem, r05, r15]
  · exact ho6.out
  · exact (hbb5.setCell (by simp) _).setCell (by simp) _

end Go.Proofs.YtloicmngoaccoaaDoor
