/- Walk of laws.FnExactFlowWeak: it returns true. -/
import Derived.Test.YthchehmmggnmeaaPartWLeaf
import Derived.Test.YthchehmmggnmeaaWFlowC
import Derived.Test.YthchehmmggnmeaaWFlowW
namespace Go.Proofs.Ythchehmmggnmeaa
open Go.RowKit
set_option linter.unusedVariables false

set_option maxHeartbeats 800000 in
theorem exactFlowWeak_walk (K : Int) (ao : Option Addr) (cap : Nat) (ts : List (Int × Int)) (w : World) (hm : ts.length ≤ maxLen) (ht : TiesIn w w.heap.size ao ts) :
    Calls Try.prog 5 #[.agg #[.int .i64 K, .slice ao ts.length cap]] w fun e w' => e = .returned (.bool true) ∧ Below w.heap.size w w' := by
  by_cases hlong : 1048576 < ts.length
  · unfold maxLen at hm
    go_enter Try.func5, Try.ntmps5
    go_wp2_with fail
    refine (szNet_no K ao ts.length cap _ hlong hm).mono ?_
    rintro e w1 ⟨rfl, hb⟩
    go_wp2
    go_ret
    exact ⟨rfl, (below_one _ _).trans (hb.mono (by simp))⟩
  · have hn : ts.length ≤ 1048576 := by omega
    have hn' : ts.length ≤ 1099511627776 := by omega
    have h' : ¬ ((1048576 : Int) - (ts.length : Int) < 0) := by omega
    clear hm hlong
    go_enter Try.func5, Try.ntmps5
    go_wp2_with fail
    refine (szNet_yes K ao ts.length cap _ hn).mono ?_
    rintro e w1 ⟨rfl, hb1⟩
    obtain ⟨W, hW⟩ : ∃ W, W = w.heap.size := ⟨_, rfl⟩
    have hb1' : Below (w.heap.size + 1) (w.alloc (.cells #[.int .i64 K, .slice ao ts.length cap] 24)) w1 := by simpa using hb1
    have hz1 : w.heap.size < w1.heap.size := by have := hb1.size; simp at this; omega
    have c0 : w1.cell? ⟨w.heap.size, 0, none⟩ = some (.int .i64 K) := (hb1'.cell (p := ⟨w.heap.size, 0, none⟩) (by simp)).trans (by simp)
    have c1 : w1.cell? ⟨w.heap.size, 1, none⟩ = some (.slice ao ts.length cap) := (hb1'.cell (p := ⟨w.heap.size, 1, none⟩) (by simp)).trans (by simp)
    have hB1 : Below w.heap.size w w1 := (below_one _ _).trans (hb1'.mono (by omega))
    have t1 : TiesIn w1 w.heap.size ao ts := ht.below hB1 (Nat.le_refl _)
    clear hb1 hb1' W hW
    go_wp2_with fail
    refine (toNet_any K ao cap ts _ hn' (t1.wide (by omega))).mono ?_
    rintro e w2 ⟨g2, rfl, hg2, ho2, hb2⟩
    go_wp2_with fail
    refine (specFlowWeak_any K _ _ ts _ hn' (ho2.ties ho2.2.2)).mono ?_
    rintro e w3 ⟨rfl, hb3⟩
    have hB3 : Below w1.heap.size w1 w3 := hb2.trans (hb3.mono hb2.size)
    have c0' : w3.cell? ⟨w.heap.size, 0, none⟩ = some (.int .i64 K) := (hB3.cell (p := ⟨w.heap.size, 0, none⟩) hz1).trans c0
    have c1' : w3.cell? ⟨w.heap.size, 1, none⟩ = some (.slice ao ts.length cap) := (hB3.cell (p := ⟨w.heap.size, 1, none⟩) hz1).trans c1
    have hz3 : w.heap.size < w3.heap.size := Nat.lt_of_lt_of_le hz1 hB3.size
    have t3 : TiesIn w3 w.heap.size ao ts := t1.below hB3 (by omega)
    have hBw3 : Below w.heap.size w w3 := hB1.trans (hB3.mono hB1.size)
    clear c0 c1 t1 hb2 hb3 ho2 hg2 hB1 hB3 hz1
    go_wp2_with fail
    refine (toNet_any K ao cap ts _ hn' (t3.wide (by omega))).mono ?_
    rintro e w4 ⟨g4, rfl, hg4, ho4, hb4⟩
    have d0 : w4.cell? ⟨w.heap.size, 0, none⟩ = some (.int .i64 K) := (hb4.cell (p := ⟨w.heap.size, 0, none⟩) hz3).trans c0'
    have d1 : w4.cell? ⟨w.heap.size, 1, none⟩ = some (.slice ao ts.length cap) := (hb4.cell (p := ⟨w.heap.size, 1, none⟩) hz3).trans c1'
    have hz4 : w.heap.size < w4.heap.size := Nat.lt_of_lt_of_le hz3 hb4.size
    have t4 : TiesIn w4 w.heap.size ao ts := t3.below hb4 (by omega)
    have hBw4 : Below w.heap.size w w4 := hBw3.trans (hb4.mono hBw3.size)
    clear c0' c1' t3 hb4 hBw3 hz3 hg4
    have tg4 : TiesIn w4 w4.heap.size (some ⟨g4, 0, none⟩) ts := ho4.ties ho4.2.2
    go_wp2_with fail
    refine (implFlowWeak_any K _ _ ts _ hn' ((tg4.below (below_one _ _) (Nat.le_refl _)).wide (by simp))).mono ?_
    rintro e w5 ⟨rfl, hb5⟩
    have hb5' : Below (w4.heap.size + 1) (w4.alloc (.cells #[.int .i64 K, .slice (some ⟨g4, 0, none⟩) ts.length ts.length] 31)) w5 := by simpa using hb5
    have hB5 : Below w4.heap.size w4 w5 := (below_one _ _).trans (hb5'.mono (by omega))
    have x0 : w5.cell? ⟨w4.heap.size, 0, none⟩ = some (.int .i64 K) := (hb5'.cell (p := ⟨w4.heap.size, 0, none⟩) (by simp)).trans (by simp)
    have x1 : w5.cell? ⟨w4.heap.size, 1, none⟩ = some (.slice (some ⟨g4, 0, none⟩) ts.length ts.length) := (hb5'.cell (p := ⟨w4.heap.size, 1, none⟩) (by simp)).trans (by simp)
    have y0 : w5.cell? ⟨w.heap.size, 0, none⟩ = some (.int .i64 K) := (hB5.cell (p := ⟨w.heap.size, 0, none⟩) hz4).trans d0
    have y1 : w5.cell? ⟨w.heap.size, 1, none⟩ = some (.slice ao ts.length cap) := (hB5.cell (p := ⟨w.heap.size, 1, none⟩) hz4).trans d1
    have hz5 : w4.heap.size < w5.heap.size := by have := hb5'.size; simp at this; omega
    have hzw5 : w.heap.size < w5.heap.size := by omega
    have t5 : TiesIn w5 w.heap.size ao ts := t4.below hB5 (by omega)
    have tg5 : TiesIn w5 w4.heap.size (some ⟨g4, 0, none⟩) ts := tg4.below hB5 (Nat.le_refl _)
    have hBw5 : Below w.heap.size w w5 := hBw4.trans (hB5.mono hBw4.size)
    have T5 : Hid (TiesIn w5.drew w5.drew.heap.size ao ts) := t5.wide (by show w.heap.size ≤ w5.heap.size; omega)
    have G5 : Hid (TiesIn w5.drew w5.drew.heap.size (some ⟨g4, 0, none⟩) ts) := tg5.wide (by show w4.heap.size ≤ w5.heap.size; omega)
    have HB5 : Hid (Below w.heap.size w w5.drew) := hBw5.drew
    clear hb5 hb5' hB5 d0 d1 t4 tg4 t5 tg5 hBw4 ho4 hBw5
    generalize weakI K ts = v
    have hv : (v != v) = false := by simp
    go_wp2
    go_region_held3 (fun w' => w'.cell? ⟨w4.heap.size, 0, none⟩ = some (.int .i64 K) ∧ w'.cell? ⟨w4.heap.size, 1, none⟩ = some (.slice (some ⟨g4, 0, none⟩) ts.length ts.length) ∧ w'.cell? ⟨w.heap.size, 0, none⟩ = some (.int .i64 K) ∧ w'.cell? ⟨w.heap.size, 1, none⟩ = some (.slice ao ts.length cap)) (first | exact ⟨x0, x1, y0, y1⟩ | exact ⟨(hb6.cell (p := ⟨w4.heap.size, 0, none⟩) hz5).trans x0, (hb6.cell (p := ⟨w4.heap.size, 1, none⟩) hz5).trans x1, (hb6.cell (p := ⟨w.heap.size, 0, none⟩) hzw5).trans y0, (hb6.cell (p := ⟨w.heap.size, 1, none⟩) hzw5).trans y1⟩ | exact ⟨(hb67.cell (p := ⟨w4.heap.size, 0, none⟩) hz5).trans x0, (hb67.cell (p := ⟨w4.heap.size, 1, none⟩) hz5).trans x1, (hb67.cell (p := ⟨w.heap.size, 0, none⟩) hzw5).trans y0, (hb67.cell (p := ⟨w.heap.size, 1, none⟩) hzw5).trans y1⟩) (first | (go_at_call 9; refine (toNet_any K ao cap ts _ hn' T5.out).mono ?_; rintro e w6 ⟨g6, rfl, hg6, ho6, hb6⟩) | (go_at_call 12; refine (eqNet_same K _ _ _ _ ts _ hn' ((G5.out.below hb6 (Nat.le_refl _)).wide hb6.size) (ho6.ties ho6.2.2)).mono ?_; rintro e w7 ⟨rfl, hb7⟩; have hb67 := hb6.trans (hb7.mono hb6.size)))
    have HB7 : Hid (Below w.heap.size w w7) := HB5.out.trans (hb67.mono (by show w.heap.size ≤ w5.heap.size; omega))
    clear hb67 hb6 hb7
    go_wp2
    go_ret
    exact ⟨rfl, HB7.out⟩

end Go.Proofs.Ythchehmmggnmeaa
