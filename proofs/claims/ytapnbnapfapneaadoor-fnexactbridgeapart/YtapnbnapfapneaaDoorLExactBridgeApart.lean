/- Walk of laws.FnExactBridgeApart: it returns true. -/
import Derived.Test.YtapnbnapfapneaaDoorWCame
import Derived.Test.YtapnbnapfapneaaDoorWApart
import Derived.Test.YtapnbnapfapneaaDoorWApartS
import Derived.BigRegion
namespace Go.Proofs.YtapnbnapfapneaaDoor
open Go.RowKit
set_option linter.unusedVariables false

set_option maxHeartbeats 400000 in
theorem eqTie_same (a b : Int) (w : World) : Calls Tryd.prog 23 #[.agg #[.int .i64 a, .int .i64 b], .agg #[.int .i64 a, .int .i64 b]] w fun e w' => e = .returned (.bool true) ∧ Below w.heap.size w w' := by
  have h1 : (a != a) = false := by simp
  have h2 : (b != b) = false := by simp
  go_enter Tryd.func23, Tryd.ntmps23
  go_wp2
  go_ret
  refine ⟨rfl, ?_⟩
  repeat (first | exact below_two _ _ _ | exact below_one _ _ | exact Below.refl _ _)

set_option maxHeartbeats 1600000 in
theorem exactBridgeApart_walk (K : Int) (ao : Option Addr) (cap : Nat) (ts : List (Int × Int)) (a b : Int) (w : World) (hm : ts.length ≤ maxLen) (ht : TiesIn w w.heap.size ao ts) (hT : Tab w) :
    Calls Tryd.prog 5 #[.agg #[.int .i64 K, .slice ao ts.length cap], .int .i64 a, .int .i64 b] w fun e w' => e = .returned (.bool true) ∧ Below w.heap.size w w' := by
  by_cases hlong : 1048576 < ts.length
  · unfold maxLen at hm
    go_enter Tryd.func5, Tryd.ntmps5
    go_wp2_with fail
    refine (szNet_no K ao ts.length cap _ hlong hm).mono ?_
    rintro e w1 ⟨rfl, hb⟩
    go_wp2
    go_ret
    exact ⟨rfl, (below_one _ _).trans (hb.mono (by simp))⟩
  have hn : ts.length ≤ 1048576 := by omega
  have hn' : ts.length ≤ 1099511627776 := by omega
  have h' : ¬ ((1048576 : Int) - (ts.length : Int) < 0) := by omega
  obtain ⟨T1, T2, V, hV⟩ : ∃ T1 T2 V, apV K ts a b = .tuple #[.agg #[.int .i64 T1, .int .i64 T2], .bool V] := ⟨_, _, _, rfl⟩
  have HV := hideP hV
  have hvv : (V != V) = false := by simp
  clear hm hlong hV
  go_enter Tryd.func5, Tryd.ntmps5
  go_wp2_with fail
  refine (szNet_yes K ao ts.length cap _ hn).mono ?_
  rintro e w1 ⟨rfl, hb1⟩
  have C1 : Came w w1 K ao cap ts := Came.start ht hT hb1
  clear hb1 ht hT
  have c0 := C1.c0
  have c1 := C1.c1
  go_wp2_with fail
  refine (toNet_any K ao cap ts _ hn' (C1.ties.wide (Nat.le_of_lt C1.lt))).mono ?_
  rintro e w2 ⟨g2, rfl, hg2, ho2, hb2⟩
  have C2 := C1.next hb2
  clear c0 c1 C1 hb2 hg2
  go_wp2_with fail
  refine (specApart_any K _ _ ts a b _ hn' (ho2.ties ho2.2.2)).mono ?_
  rw [HV.out]
  rintro e w3 ⟨rfl, hb3⟩
  have bo3 := below_one w3 (.cells #[.int .i64 T1, .int .i64 T2] 41)
  have C3 := (C2.next hb3).next bo3
  have s3 : (w3.alloc (.cells #[.int .i64 T1, .int .i64 T2] 41)).heap.size = w3.heap.size + 1 := by simp
  have p0 : (w3.alloc (.cells #[.int .i64 T1, .int .i64 T2] 41)).cell? ⟨w3.heap.size, 0, none⟩ = some (.int .i64 T1) := by simp
  have p1 : (w3.alloc (.cells #[.int .i64 T1, .int .i64 T2] 41)).cell? ⟨w3.heap.size, 1, none⟩ = some (.int .i64 T2) := by simp
  have ltw : w.heap.size < w3.heap.size := (C2.next hb3).lt
  clear C2 hb3 ho2 bo3
  have c0 := C3.c0
  have c1 := C3.c1
  go_wp2_with fail
  refine (toNet_any K ao cap ts _ hn' (C3.ties.wide (Nat.le_of_lt C3.lt))).mono ?_
  rintro e w4 ⟨g4, rfl, hg4, ho4, hb4⟩
  have C4 := C3.next hb4
  have q0 : w4.cell? ⟨w3.heap.size, 0, none⟩ = some (.int .i64 T1) := (hb4.cell (p := ⟨w3.heap.size, 0, none⟩) (by simp)).trans p0
  have q1 : w4.cell? ⟨w3.heap.size, 1, none⟩ = some (.int .i64 T2) := (hb4.cell (p := ⟨w3.heap.size, 1, none⟩) (by simp)).trans p1
  have s34 : w3.heap.size < w4.heap.size := by have := hb4.size; omega
  clear c0 c1 C3 hb4 p0 p1
  have bo4 := below_one w4 (.cells #[.int .i64 K, .slice (some ⟨g4, 0, none⟩) ts.length ts.length] 29)
  have X4 : VarAt (w4.alloc (.cells #[.int .i64 K, .slice (some ⟨g4, 0, none⟩) ts.length ts.length] 29)) w4.heap.size K (w3.heap.size + 1) w4.heap.size (some ⟨g4, 0, none⟩) ts.length ts.length (tcell ts) := VarAt.made _ (OwnN.of_T ho4 (by simpa using hg4) ho4.2.2)
  have C4' := C4.next bo4
  clear C4 ho4 hg4
  go_wp2_with fail
  refine (implApart_any K _ _ ts a b _ hn' (X4.own.ties (by simp)) C4'.tab).mono ?_
  rw [HV.out]
  rintro e w5 ⟨rfl, hb5⟩
  have hb45 := bo4.trans (hb5.mono (by simp))
  have bo5 := below_one w5 (.cells #[.int .i64 T1, .int .i64 T2] 41)
  have C5 := (C4'.next hb5).next bo5
  have X5 := (X4.next hb5).next bo5
  have r0 : (w5.alloc (.cells #[.int .i64 T1, .int .i64 T2] 41)).cell? ⟨w3.heap.size, 0, none⟩ = some (.int .i64 T1) := (bo5.cell (p := ⟨w3.heap.size, 0, none⟩) (Nat.lt_of_lt_of_le s34 hb45.size)).trans ((hb45.cell (p := ⟨w3.heap.size, 0, none⟩) s34).trans q0)
  have r1 : (w5.alloc (.cells #[.int .i64 T1, .int .i64 T2] 41)).cell? ⟨w3.heap.size, 1, none⟩ = some (.int .i64 T2) := (bo5.cell (p := ⟨w3.heap.size, 1, none⟩) (Nat.lt_of_lt_of_le s34 hb45.size)).trans ((hb45.cell (p := ⟨w3.heap.size, 1, none⟩) s34).trans q1)
  have u0 : (w5.alloc (.cells #[.int .i64 T1, .int .i64 T2] 41)).cell? ⟨w5.heap.size, 0, none⟩ = some (.int .i64 T1) := by simp
  have u1 : (w5.alloc (.cells #[.int .i64 T1, .int .i64 T2] 41)).cell? ⟨w5.heap.size, 1, none⟩ = some (.int .i64 T2) := by simp
  clear C4' X4 hb5 bo4 bo5 q0 q1 hb45
  go_wp2_with fail
  refine (eqTie_same T1 T2 _).mono ?_
  rintro e w6 ⟨rfl, hb6⟩
  have C6 := C5.next hb6
  have X6 := X5.next hb6
  clear C5 X5 hb6 r0 r1 u0 u1
  have x0 := X6.c0
  have x1 := X6.c1
  have y0 := C6.c0
  have y1 := C6.c1
  have hzx := X6.lt
  have hzy := C6.lt
  have T6 : Hid (TiesIn w6.drew w6.drew.heap.size ao ts) := hideP (C6.ties.wide (Nat.le_of_lt hzy))
  have O6 : Hid (TiesIn w6.drew w6.drew.heap.size (some ⟨g4, 0, none⟩) ts) := hideP (X6.own.ties (Nat.le_of_lt hzx))
  have HB6 : Hid (Below w.heap.size w w6.drew) := C6.bel.drew
  clear C6 X6
  go_wp2
  go_region_held3 (fun w' => w'.cell? ⟨w4.heap.size, 0, none⟩ = some (.int .i64 K) ∧ w'.cell? ⟨w4.heap.size, 1, none⟩ = some (.slice (some ⟨g4, 0, none⟩) ts.length ts.length) ∧ w'.cell? ⟨w.heap.size, 0, none⟩ = some (.int .i64 K) ∧ w'.cell? ⟨w.heap.size, 1, none⟩ = some (.slice ao ts.length cap)) (first | exact ⟨x0, x1, y0, y1⟩ | exact ⟨(hb7.cell (p := ⟨w4.heap.size, 0, none⟩) hzx).trans x0, (hb7.cell (p := ⟨w4.heap.size, 1, none⟩) hzx).trans x1, (hb7.cell (p := ⟨w.heap.size, 0, none⟩) hzy).trans y0, (hb7.cell (p := ⟨w.heap.size, 1, none⟩) hzy).trans y1⟩ | exact ⟨(hb78.cell (p := ⟨w4.heap.size, 0, none⟩) hzx).trans x0, (hb78.cell (p := ⟨w4.heap.size, 1, none⟩) hzx).trans x1, (hb78.cell (p := ⟨w.heap.size, 0, none⟩) hzy).trans y0, (hb78.cell (p := ⟨w.heap.size, 1, none⟩) hzy).trans y1⟩) (first | (go_at_call 9; refine (toNet_any K ao cap ts _ hn' T6.out).mono ?_; rintro e w7 ⟨g7, rfl, hg7, ho7, hb7⟩) | (go_at_call 12; refine (eqNet_same K _ _ _ _ ts _ hn' ((O6.out.below hb7 (Nat.le_refl _)).wide hb7.size) (ho7.ties ho7.2.2)).mono ?_; rintro e w8 ⟨rfl, hb8⟩; have hb78 := hb7.trans (hb8.mono hb7.size)))
  have HB8 : Hid (Below w.heap.size w w8) := HB6.out.trans (hb78.mono HB6.out.size)
  clear hb78 hb7 hb8
  go_wp2
  go_ret
  exact ⟨rfl, HB8.out⟩

end Go.Proofs.YtapnbnapfapneaaDoor
