/- Walk of laws.FnExactFlowOk: it returns true. -/
import Derived.Test.YtljnjpjnadlmhaaWFlowOkS
namespace Go.Proofs.Ytljnjpjnadlmhaa
open Go.RowKit
set_option linter.unusedVariables false

set_option maxHeartbeats 1600000 in
theorem exactFlowOk_walk (K : Int) (ao : Option Addr) (cap : Nat) (ts : List (Int × Int)) (x y : Int) (bo : Option Addr) (cap2 : Nat) (xs : List (List Int)) (w : World) (hm : ts.length ≤ maxLen) (ht : TiesIn w w.heap.size ao ts) (hxm : xs.length ≤ maxLen) (hx : RowsM w w.heap.size bo xs) :
    Calls Try.prog 5 #[.agg #[.int .i64 K, .slice ao ts.length cap], .int .i64 x, .int .i64 y, .slice bo xs.length cap2] w fun e w' => e = .returned (.bool true) ∧ Below w.heap.size w w' := by
  unfold maxLen at hm
  by_cases hlong : 1048576 < ts.length
  · go_enter Try.func5, Try.ntmps5
    go_wp2_with fail
    refine (szNet_no K ao ts.length cap _ hlong hm).mono ?_
    rintro e w1 ⟨rfl, hb⟩
    go_wp2
    go_ret
    exact ⟨rfl, (below_one _ _).trans (hb.mono (by simp))⟩
  have hn : ts.length ≤ 1048576 := by omega
  have hn' : ts.length ≤ 1099511627776 := by omega
  have h' : ¬ ((1048576 : Int) - (ts.length : Int) < 0) := by omega
  have hM0 := hideP hx
  clear hx
  have HXM := hideP hxm
  clear hxm
  have hl0 : (0 : Int) ≤ 1048576 - (ts.length : Int) := by omega
  have hl1 : (1048576 : Int) - (ts.length : Int) ≤ 1048576 := by omega
  go_enter Try.func5, Try.ntmps5
  go_wp2_with fail
  refine (szNet_yes K ao ts.length cap _ hn).mono ?_
  rintro e w1 ⟨rfl, hb0⟩
  have hB0 := hideP hb0
  have hBB := hideP ((below_one w (.cells #[.int .i64 K, .slice ao ts.length cap] 40)).trans (hb0.mono (by simp)))
  clear hb0
  go_wp2_with fail
  refine (szIntSS_any bo cap2 xs (1048576 - (ts.length : Int)) _ hl0 hl1 HXM.out ((hM0.out.below hBB.out (Nat.le_refl _)).wide hBB.out.size)).mono ?_
  rintro e w2 ⟨z, rfl, hz, hz', hall, hbz⟩
  by_cases hz0 : z < 0
  · have HB := hideP (hBB.out.trans (hbz.mono hBB.out.size))
    clear hbz hall
    go_wp2
    go_ret
    exact ⟨rfl, HB.out⟩
  · obtain ⟨hxs0, hall⟩ := hall (by omega)
    have hxs' : xs.length ≤ 1099511627776 := by omega
    have hx : RowsI w w.heap.size bo xs := hM0.out.small hall
    have hb1 := hB0.out.trans (hbz.mono hB0.out.size)
    clear hbz hall hM0 hB0 hBB HXM
    clear w1
    rename World => w1
    have hb1' : Below (w.heap.size + 1) (w.alloc (.cells #[.int .i64 K, .slice ao ts.length cap] 40)) w1 := by simpa using hb1
    have hz1 : w.heap.size < w1.heap.size := by have := hb1.size; simp at this; omega
    have c0 : w1.cell? ⟨w.heap.size, 0, none⟩ = some (.int .i64 K) := (hb1'.cell (p := ⟨w.heap.size, 0, none⟩) (by simp)).trans (by simp)
    have c1 : w1.cell? ⟨w.heap.size, 1, none⟩ = some (.slice ao ts.length cap) := (hb1'.cell (p := ⟨w.heap.size, 1, none⟩) (by simp)).trans (by simp)
    have hB1 : Below w.heap.size w w1 := (below_one _ _).trans (hb1'.mono (by omega))
    have t1 : TiesIn w1 w.heap.size ao ts := ht.below hB1 (Nat.le_refl _)
    have y1 : RowsI w1 w.heap.size bo xs := hx.below hB1 (Nat.le_refl _)
    clear hb1 hb1'
    go_wp2_with fail
    refine (toNet_any K ao cap ts _ hn' (t1.wide (by omega))).mono ?_
    rintro e w2 ⟨g2, rfl, hg2, ho2, hb2⟩
    have y2 : RowsI w2 w.heap.size bo xs := y1.below hb2 (by omega)
    have hz2 : w.heap.size < w2.heap.size := Nat.lt_of_lt_of_le hz1 hb2.size
    go_wp2_with fail
    refine (toIntSS_any bo cap2 xs _ hxs' (y2.wide (by omega))).mono ?_
    rintro e w3 ⟨rfl, ho3, hb3⟩
    have ho2' : OwnT w3 g2 ts.length (tcell ts) := ho2.below hb3 ho2.2.2
    go_wp2_with fail
    refine (specFlowOk_any K _ _ _ _ ts xs x y _ hn' (ho2'.ties ho2'.2.2) hxs' ho3).mono ?_
    rintro e w4 ⟨rfl, hb4⟩
    have hB4 : Below w1.heap.size w1 w4 := (hb2.trans (hb3.mono hb2.size)).trans (hb4.mono (hb2.trans (hb3.mono hb2.size)).size)
    have d0 : w4.cell? ⟨w.heap.size, 0, none⟩ = some (.int .i64 K) := (hB4.cell (p := ⟨w.heap.size, 0, none⟩) hz1).trans c0
    have d1 : w4.cell? ⟨w.heap.size, 1, none⟩ = some (.slice ao ts.length cap) := (hB4.cell (p := ⟨w.heap.size, 1, none⟩) hz1).trans c1
    have hz4 : w.heap.size < w4.heap.size := Nat.lt_of_lt_of_le hz1 hB4.size
    have t4 : TiesIn w4 w.heap.size ao ts := t1.below hB4 (by omega)
    have y4 : RowsI w4 w.heap.size bo xs := y1.below hB4 (by omega)
    have hBw4 : Below w.heap.size w w4 := hB1.trans (hB4.mono hB1.size)
    clear c0 c1 t1 y1 y2 hb2 hb3 hb4 ho2 ho2' ho3 hg2 hB1 hB4 hz1 hz2
    go_wp2_with fail
    refine (toNet_any K ao cap ts _ hn' (t4.wide (by omega))).mono ?_
    rintro e w5 ⟨g5, rfl, hg5, ho5, hb5⟩
    have e0 : w5.cell? ⟨w.heap.size, 0, none⟩ = some (.int .i64 K) := (hb5.cell (p := ⟨w.heap.size, 0, none⟩) hz4).trans d0
    have e1 : w5.cell? ⟨w.heap.size, 1, none⟩ = some (.slice ao ts.length cap) := (hb5.cell (p := ⟨w.heap.size, 1, none⟩) hz4).trans d1
    have hz5 : w.heap.size < w5.heap.size := Nat.lt_of_lt_of_le hz4 hb5.size
    have t5 : TiesIn w5 w.heap.size ao ts := t4.below hb5 (by omega)
    have y5 : RowsI w5 w.heap.size bo xs := y4.below hb5 (by omega)
    have hBw5 : Below w.heap.size w w5 := hBw4.trans (hb5.mono hBw4.size)
    have tg5 : TiesIn w5 w5.heap.size (some ⟨g5, 0, none⟩) ts := ho5.ties ho5.2.2
    clear d0 d1 t4 y4 hb5 hBw4 hz4 hg5 ho5
    have B6 : ∀ o, Below w5.heap.size w5 (w5.alloc o) := fun o => below_one _ _
    go_wp2_with fail
    refine (toIntSS_any bo cap2 xs _ hxs' ((y5.below (B6 _) (by omega)).wide (by simp; omega))).mono ?_
    rintro e w6 ⟨rfl, ho6, hb6⟩
    have hb6' : Below (w5.heap.size + 1) (w5.alloc (.cells #[.int .i64 K, .slice (some ⟨g5, 0, none⟩) ts.length ts.length] 25)) w6 := by simpa using hb6
    have ho6' : RowsI w6 w6.heap.size (some ⟨w5.heap.size + 1, 0, none⟩) xs := by simpa using ho6
    have hB6 : Below w5.heap.size w5 w6 := (below_one _ _).trans (hb6'.mono (by omega))
    have x0 : w6.cell? ⟨w5.heap.size, 0, none⟩ = some (.int .i64 K) := (hb6'.cell (p := ⟨w5.heap.size, 0, none⟩) (by simp)).trans (by simp)
    have x1 : w6.cell? ⟨w5.heap.size, 1, none⟩ = some (.slice (some ⟨g5, 0, none⟩) ts.length ts.length) := (hb6'.cell (p := ⟨w5.heap.size, 1, none⟩) (by simp)).trans (by simp)
    have f0 : w6.cell? ⟨w.heap.size, 0, none⟩ = some (.int .i64 K) := (hB6.cell (p := ⟨w.heap.size, 0, none⟩) hz5).trans e0
    have f1 : w6.cell? ⟨w.heap.size, 1, none⟩ = some (.slice ao ts.length cap) := (hB6.cell (p := ⟨w.heap.size, 1, none⟩) hz5).trans e1
    have hz6 : w5.heap.size < w6.heap.size := by have := hb6'.size; simp at this; omega
    have t6 : TiesIn w6 w.heap.size ao ts := t5.below hB6 (by omega)
    have y6 : RowsI w6 w.heap.size bo xs := y5.below hB6 (by omega)
    have tg6 : TiesIn w6 w5.heap.size (some ⟨g5, 0, none⟩) ts := tg5.below hB6 (Nat.le_refl _)
    have hBw6 : Below w.heap.size w w6 := hBw5.trans (hB6.mono hBw5.size)
    have xg6 : RowsI w6 w6.heap.size (some ⟨w5.heap.size + 1, 0, none⟩) xs := ho6'
    clear e0 e1 t5 y5 tg5 hBw5 B6 hb6 hb6' ho6 ho6' hB6
    go_wp2_with fail
    refine (implFlowOk_any K _ _ _ _ ts xs x y _ hn' (tg6.wide (by omega)) hxs' xg6).mono ?_
    rintro e w7 ⟨rfl, hb7⟩
    have x0' : w7.cell? ⟨w5.heap.size, 0, none⟩ = some (.int .i64 K) := (hb7.cell (p := ⟨w5.heap.size, 0, none⟩) hz6).trans x0
    have x1' : w7.cell? ⟨w5.heap.size, 1, none⟩ = some (.slice (some ⟨g5, 0, none⟩) ts.length ts.length) := (hb7.cell (p := ⟨w5.heap.size, 1, none⟩) hz6).trans x1
    have y0' : w7.cell? ⟨w.heap.size, 0, none⟩ = some (.int .i64 K) := (hb7.cell (p := ⟨w.heap.size, 0, none⟩) (by show w.heap.size < w6.heap.size; omega)).trans f0
    have y1' : w7.cell? ⟨w.heap.size, 1, none⟩ = some (.slice ao ts.length cap) := (hb7.cell (p := ⟨w.heap.size, 1, none⟩) (by show w.heap.size < w6.heap.size; omega)).trans f1
    have hz7 : w5.heap.size < w7.heap.size := Nat.lt_of_lt_of_le hz6 hb7.size
    have hzw7 : w.heap.size < w7.heap.size := by omega
    have h67 : w6.heap.size ≤ w7.heap.size := hb7.size
    have T7 : Hid (TiesIn w7.drew w7.drew.heap.size ao ts) := (t6.below hb7 (by omega)).wide (by show w.heap.size ≤ w7.heap.size; omega)
    have G7 : Hid (TiesIn w7.drew w7.drew.heap.size (some ⟨g5, 0, none⟩) ts) := (tg6.below hb7 (by omega)).wide (by show w5.heap.size ≤ w7.heap.size; omega)
    have Y7 : Hid (RowsI w7.drew w.heap.size bo xs) := y6.below (C := w6.heap.size) hb7.drew (by omega)
    have XG7 : Hid (RowsI w7.drew w6.heap.size (some ⟨w5.heap.size + 1, 0, none⟩) xs) := xg6.below hb7.drew (Nat.le_refl _)
    have HB7 : Hid (Below w.heap.size w w7.drew) := (hBw6.trans (hb7.mono hBw6.size)).drew
    clear x0 x1 f0 f1 t6 y6 tg6 xg6 hBw6 hb7
    generalize flowB K ts x y xs = v
    have hv : (v != v) = false := by simp
    go_wp2
    go_region_held3 (fun w' => w'.cell? ⟨w5.heap.size, 0, none⟩ = some (.int .i64 K) ∧ w'.cell? ⟨w5.heap.size, 1, none⟩ = some (.slice (some ⟨g5, 0, none⟩) ts.length ts.length) ∧ w'.cell? ⟨w.heap.size, 0, none⟩ = some (.int .i64 K) ∧ w'.cell? ⟨w.heap.size, 1, none⟩ = some (.slice ao ts.length cap)) (first | exact ⟨x0', x1', y0', y1'⟩ | exact ⟨(hb8.cell (p := ⟨w5.heap.size, 0, none⟩) hz7).trans x0', (hb8.cell (p := ⟨w5.heap.size, 1, none⟩) hz7).trans x1', (hb8.cell (p := ⟨w.heap.size, 0, none⟩) hzw7).trans y0', (hb8.cell (p := ⟨w.heap.size, 1, none⟩) hzw7).trans y1'⟩ | exact ⟨(hb89.cell (p := ⟨w5.heap.size, 0, none⟩) hz7).trans x0', (hb89.cell (p := ⟨w5.heap.size, 1, none⟩) hz7).trans x1', (hb89.cell (p := ⟨w.heap.size, 0, none⟩) hzw7).trans y0', (hb89.cell (p := ⟨w.heap.size, 1, none⟩) hzw7).trans y1'⟩) (first | (go_at_call 16; refine (toNet_any K ao cap ts _ hn' T7.out).mono ?_; rintro e w8 ⟨g8, rfl, hg8, ho8, hb8⟩) | (go_at_call 18; refine (eqNet_same K _ _ _ _ ts _ hn' ((G7.out.below hb8 (Nat.le_refl _)).wide hb8.size) (ho8.ties ho8.2.2)).mono ?_; rintro e w9 ⟨rfl, hb9⟩; have hb89 := hb8.trans (hb9.mono hb8.size)))
    have Y9 : Hid (RowsI w9 w9.heap.size bo xs) := (Y7.out.below hb89 (by show w.heap.size ≤ w7.heap.size; omega)).wide (by have := hb89.size; have h2 : w7.drew.heap.size = w7.heap.size := rfl; omega)
    have XG9 : Hid (RowsI w9 w9.heap.size (some ⟨w5.heap.size + 1, 0, none⟩) xs) := (XG7.out.below hb89 h67).wide (by have := hb89.size; have h2 : w7.drew.heap.size = w7.heap.size := rfl; omega)
    have HB9 : Hid (Below w.heap.size w w9) := HB7.out.trans (hb89.mono (by show w.heap.size ≤ w7.heap.size; omega))
    clear hb89 hb8 hb9 ho8 x0' x1' y0' y1'
    go_wp2_with fail
    refine (toIntSS_any bo cap2 xs _ hxs' Y9.out).mono ?_
    rintro e w10 ⟨rfl, ho10, hb10⟩
    have X10 : Hid (RowsI w10 w10.heap.size (some ⟨w5.heap.size + 1, 0, none⟩) xs) := (XG9.out.below hb10 (Nat.le_refl _)).wide hb10.size
    have HB10 : Hid (Below w.heap.size w w10) := HB9.out.trans (hb10.mono HB9.out.size)
    clear hb10
    go_wp2_with fail
    refine (eqRows_same _ _ _ _ xs _ hxs' X10.out ho10).mono ?_
    rintro e w11 ⟨rfl, hb11⟩
    have HB11 : Hid (Below w.heap.size w w11) := HB10.out.trans (hb11.mono HB10.out.size)
    clear hb11 ho10
    go_wp2
    go_ret
    exact ⟨rfl, HB11.out⟩

end Go.Proofs.Ytljnjpjnadlmhaa
