/- Walk of laws.FnExactFlowCut: it returns true. -/
import Derived.Test.YtmkbeiiifikbgaaDoorWCame
import Derived.Test.YtmkbeiiifikbgaaDoorPartMathFX
import Derived.Deep.RegionHeld3
namespace Go.Proofs.YtmkbeiiifikbgaaDoor
open Go.RowKit
set_option linter.unusedVariables false

set_option maxHeartbeats 1600000 in
theorem exactFlowCut_walk (K : Int) (ao : Option Addr) (cap : Nat) (ts : List (Int × Int)) (a b : Int) (w : World) (hm : ts.length ≤ maxLen) (ht : TiesIn w w.heap.size ao ts) (hT : Tab w) :
    Calls Tryd.prog 12 #[.agg #[.int .i64 K, .slice ao ts.length cap], .int .i64 a, .int .i64 b] w fun e w' => e = .returned (.bool true) ∧ Below w.heap.size w w' := by
  by_cases hlong : 1048576 < ts.length
  · unfold maxLen at hm
    go_enter Tryd.func12, Tryd.ntmps12
    go_wp2_with fail
    refine (szNet_no K ao ts.length cap _ hlong hm).mono ?_
    rintro e w1 ⟨rfl, hb⟩
    go_wp2
    go_ret
    exact ⟨rfl, (below_one _ _).trans (hb.mono (by simp))⟩
  have hn : ts.length ≤ 1048576 := by omega
  have hn' : ts.length ≤ 1099511627776 := by omega
  have h' : ¬ ((1048576 : Int) - (ts.length : Int) < 0) := by omega
  have hT0 : 0 < w.heap.size := hT.2
  have hul : (cutI K ts a b).length ≤ ts.length := by
    unfold cutI
    split
    · exact (cutG_list _ _ ts ts).length_le
    · exact Nat.zero_le _
  obtain ⟨V, hV⟩ : ∃ V, V = twoB K ts a b := ⟨_, rfl⟩
  have HVV := hideP hV
  obtain ⟨us, hus⟩ : ∃ us, us = cutI K ts a b := ⟨_, rfl⟩
  have HUS := hideP hus
  rw [← hus] at hul
  have hul' : us.length ≤ 1099511627776 := by omega
  clear hm hlong hus hV
  go_enter Tryd.func12, Tryd.ntmps12
  go_wp2_with fail
  refine (szNet_yes K ao ts.length cap _ hn).mono ?_
  rintro e w1 ⟨rfl, hb1⟩
  have C1 : Came w w1 K ao cap ts := Came.start ht hT hb1
  clear hb1 ht hT
  have c0 := C1.c0
  have c1 := C1.c1
  go_wp2_with fail
  refine (toNet_any K ao cap ts _ hn' (C1.ties.wide (Nat.le_of_lt C1.lt))).mono ?_
  rintro e w2 ⟨g2, rfl, hg2, ho2, hb2⟩
  have C2 := C1.next hb2
  clear c0 c1 C1 hb2
  go_wp2_with fail
  refine (specFlowCut_any _ _ K _ _ ts a b _ hn' (OwnN.of_T ho2 hg2 ho2.2.2) (Nat.le_refl _)).mono ?_
  rw [← HUS.out, ← HVV.out]
  rintro e w3 ⟨aoW, capW, rfl, hoW, hb3⟩
  have C3 := C2.next hb3
  have W3 : OwnN w3 w2.heap.size w3.heap.size aoW us.length (tcell us) := hoW
  have s23 := hb3.size
  have ltw : w.heap.size < w3.heap.size := C3.lt
  clear C2 hb3 ho2 hoW hg2
  have c0 := C3.c0
  have c1 := C3.c1
  go_wp2_with fail
  refine (toNet_any K ao cap ts _ hn' (C3.ties.wide (Nat.le_of_lt C3.lt))).mono ?_
  rintro e w4 ⟨g4, rfl, hg4, ho4, hb4⟩
  have C4 := C3.next hb4
  have W4 := W3.next hb4
  have s34 := hb4.size
  clear c0 c1 C3 W3 hb4
  have bo4 := below_one w4 (.cells #[.int .i64 K, .slice (some ⟨g4, 0, none⟩) ts.length ts.length] 25)
  have X4 : VarAt (w4.alloc (.cells #[.int .i64 K, .slice (some ⟨g4, 0, none⟩) ts.length ts.length] 25)) w4.heap.size K w3.heap.size w4.heap.size (some ⟨g4, 0, none⟩) ts.length ts.length (tcell ts) := VarAt.made _ (OwnN.of_T ho4 hg4 ho4.2.2)
  have C4' := C4.next bo4
  have W4' := W4.next bo4
  clear C4 W4 ho4 hg4 bo4
  go_wp2_with fail
  refine (implFlowCut_any K _ _ ts a b _ hn' (X4.own.ties (by simp)) C4'.tab).mono ?_
  rw [← HUS.out, ← HVV.out]
  rintro e w5 ⟨aoG, capG, rfl, hoG, hb5⟩
  have C5 := C4'.next hb5
  have W5 := W4'.next hb5
  have X5 := X4.next hb5
  have s45 : w4.heap.size + 1 ≤ w5.heap.size := by have := hb5.size; simpa using this
  have G5 : OwnN w5 (w4.heap.size + 1) w5.heap.size aoG us.length (tcell us) := by simpa using hoG
  clear C4' W4' X4 hb5 hoG
  go_wp2_with fail
  refine (eqTieS_same _ _ _ _ us _ hul' (G5.ties (Nat.le_refl _)) (W5.ties (by omega))).mono ?_
  rintro e w6 ⟨rfl, hb6⟩
  have C6 := C5.next hb6
  have W6 := W5.next hb6
  have X6 := X5.next hb6
  have G6 := G5.next hb6
  have s56 := hb6.size
  clear C5 W5 X5 G5 hb6
  have x0 := X6.c0
  have x1 := X6.c1
  have y0 := C6.c0
  have y1 := C6.c1
  have hzx := X6.lt
  have hzy := C6.lt
  have T6 : Hid (TiesIn w6.drew w6.drew.heap.size ao ts) := hideP (C6.ties.wide (Nat.le_of_lt hzy))
  have O6 : Hid (TiesIn w6.drew w6.drew.heap.size (some ⟨g4, 0, none⟩) ts) := hideP (X6.own.ties (Nat.le_of_lt hzx))
  have HC6 := hideP C6
  have HW6 := hideP W6
  have HX6 := hideP X6
  have HG6 := hideP G6
  clear C6 W6 X6 G6
  go_wp2
  go_region_held3 (fun w' => w'.cell? ⟨w4.heap.size, 0, none⟩ = some (.int .i64 K) ∧ w'.cell? ⟨w4.heap.size, 1, none⟩ = some (.slice (some ⟨g4, 0, none⟩) ts.length ts.length) ∧ w'.cell? ⟨w.heap.size, 0, none⟩ = some (.int .i64 K) ∧ w'.cell? ⟨w.heap.size, 1, none⟩ = some (.slice ao ts.length cap)) (first | exact ⟨x0, x1, y0, y1⟩ | exact ⟨(hb7.cell (p := ⟨w4.heap.size, 0, none⟩) hzx).trans x0, (hb7.cell (p := ⟨w4.heap.size, 1, none⟩) hzx).trans x1, (hb7.cell (p := ⟨w.heap.size, 0, none⟩) hzy).trans y0, (hb7.cell (p := ⟨w.heap.size, 1, none⟩) hzy).trans y1⟩ | exact ⟨(hb78.cell (p := ⟨w4.heap.size, 0, none⟩) hzx).trans x0, (hb78.cell (p := ⟨w4.heap.size, 1, none⟩) hzx).trans x1, (hb78.cell (p := ⟨w.heap.size, 0, none⟩) hzy).trans y0, (hb78.cell (p := ⟨w.heap.size, 1, none⟩) hzy).trans y1⟩) (first | (go_at_call 39; refine (toNet_any K ao cap ts _ hn' T6.out).mono ?_; rintro e w7 ⟨g7, rfl, hg7, ho7, hb7⟩) | (go_at_call 41; refine (eqNet_same K _ _ _ _ ts _ hn' ((O6.out.below hb7 (Nat.le_refl _)).wide hb7.size) (ho7.ties ho7.2.2)).mono ?_; rintro e w8 ⟨rfl, hb8⟩; have hb78 := hb7.trans (hb8.mono hb7.size)))
  have hb68 : Below w6.heap.size w6 w8 := ((Below.refl _ _).drew).trans hb78
  have hs68 := hb68.size
  have C8 := HC6.out.next hb68
  have W8 := HW6.out.next hb68
  have X8 := HX6.out.next hb68
  have G8 := HG6.out.next hb68
  clear HC6 HW6 HX6 HG6 hb7 hb8 hb78 hb68 ho7 hg7 T6 O6 x0 x1 y0 y1 hzx hzy
  have x0 := X8.c0
  have x1 := X8.c1
  go_wp2_with fail
  refine (markNet_any _ _ K _ ts.length ts.length (tcell ts) _ hn' X8.own).mono ?_
  rintro e w9 ⟨rfl, ho9, ht9⟩
  have lt8 := C8.lt
  have s89 := ht9.size
  have s68 : w6.heap.size ≤ w8.heap.size := hs68
  have C9 := C8.aside ht9 (by omega) hT0
  have W9 := W8.aside ht9 (Or.inl (Nat.le_refl _))
  have G9 := G8.aside ht9 (Or.inr (by omega))
  clear C8 W8 X8 G8 ho9 ht9 x0 x1 lt8
  have hp : ¬ ((1 : Int) + ((ts.length * 2 : Nat) : Int) < 0) := by omega
  go_wp2_with fail
  refine (eqTieS_same _ _ _ _ us _ hul' (G9.ties (by omega)) (W9.ties (by omega))).mono ?_
  rintro e w10 ⟨rfl, hb10⟩
  have s910 := hb10.size
  have C10 := C9.next hb10
  have W10 := W9.next hb10
  have G10 := G9.next hb10
  clear C9 W9 G9 hb10 hp
  go_wp2_with fail
  refine (markTieS_any _ _ _ us.length capG (tcell us) _ hul' G10).mono ?_
  rintro e w11 ⟨rfl, G11, ht11⟩
  have lt10 := C10.lt
  have s1011 := ht11.size
  have C11 := C10.aside ht11 (by omega) hT0
  have W11 := W10.aside ht11 (Or.inl (by omega))
  clear C10 W10 G10 ht11 lt10
  go_wp2_with fail
  refine (heldTieS_any _ _ _ us.length capG _ hul' G11).mono ?_
  rintro e w12 ⟨rfl, rfl⟩
  have C12 := C11
  have W12 := W11
  have G12 := G11
  clear C11 W11 G11
  have hq : ¬ ((1 : Int) + ((us.length * 2 : Nat) : Int) < 0) := by omega
  have y0 := C12.c0
  have y1 := C12.c1
  go_wp2_with fail
  refine (toNet_any K ao cap ts _ hn' (C12.ties.wide (Nat.le_of_lt C12.lt))).mono ?_
  rintro e w13 ⟨g13, rfl, hg13, ho13, hb13⟩
  have s1213 := hb13.size
  have C13 := C12.next hb13
  have W13 := W12.next hb13
  have G13 := G12.next hb13
  clear C12 W12 G12 hb13 y0 y1 hg13
  go_wp2_with fail
  refine (implFlowCut_any K _ _ ts a b _ hn' (ho13.ties ho13.2.2) C13.tab).mono ?_
  rw [← HUS.out, ← HVV.out]
  rintro e w14 ⟨aoH, capH, rfl, hoH, hb14⟩
  have s1314 := hb14.size
  have C14 := C13.next hb14
  have W14 := W13.next hb14
  have G14 := G13.next hb14
  clear C13 W13 G13 hb14 ho13
  go_wp2_with fail
  refine (eqTieS_same _ _ _ _ us _ hul' (hoH.ties (Nat.le_refl _)) (W14.ties (by omega))).mono ?_
  rintro e w15 ⟨rfl, hb15⟩
  have C15 := C14.next hb15
  have G15 := G14.next hb15
  clear C14 W14 G14 hb15 hoH
  go_wp2_with fail
  refine (heldTieS_any _ _ _ us.length capG _ hul' G15).mono ?_
  rintro e w16 ⟨rfl, rfl⟩
  have C16 := hideP C15.bel
  clear C15 G15
  go_wp2
  go_ret
  exact ⟨rfl, C16.out⟩

end Go.Proofs.YtmkbeiiifikbgaaDoor
