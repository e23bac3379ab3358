/- Walk of laws.FnExactNetWithout: it returns true. -/
import Derived.Test.YtkbcaffhdaoalaaDoorWPair2
namespace Go.Proofs.YtkbcaffhdaoalaaDoor
open Go.RowKit
set_option linter.unusedVariables false

set_option maxHeartbeats 1600000 in
theorem exactNetWithout_walk (K : Int) (ao : Option Addr) (cap : Nat) (ts : List (Int × Int)) (k : Int) (w : World) (hm : ts.length ≤ maxLen) (ht : TiesIn w w.heap.size ao ts) (hT : Tab w) :
    Calls Tryd.prog 10 #[.agg #[.int .i64 K, .slice ao ts.length cap], .int .i64 k] w fun e w' => e = .returned (.bool true) ∧ Below w.heap.size w w' := by
  by_cases hlong : 1048576 < ts.length
  · unfold maxLen at hm
    go_enter Tryd.func10, Tryd.ntmps10
    go_wp2_with fail
    refine (szNet_no K ao ts.length cap _ hlong hm).mono ?_
    rintro e w1 ⟨rfl, hb⟩
    go_wp2
    go_ret
    exact ⟨rfl, (below_one _ _).trans (hb.mono (by simp))⟩
  · have hn : ts.length ≤ 1048576 := by omega
    have hn' : ts.length ≤ 1099511627776 := by omega
    have h' : ¬ ((1048576 : Int) - (ts.length : Int) < 0) := by omega
    have hT0 : 0 < w.heap.size := hT.2
    clear hm hlong
    go_enter Tryd.func10, Tryd.ntmps10
    go_wp2_with fail
    refine (szNet_yes K ao ts.length cap _ hn).mono ?_
    rintro e w1 ⟨rfl, hb1⟩
    have C1 : Came w w1 K ao cap ts := Came.start ht hT hb1
    clear hb1 ht hT
    have c0 := C1.c0
    have c1 := C1.c1
    go_wp2_with fail
    refine (toNet_any K ao cap ts _ hn' (C1.ties.wide (Nat.le_of_lt C1.lt))).mono ?_
    rintro e w2 ⟨g2, rfl, hg2, ho2, hb2⟩
    have C2 := C1.next hb2
    clear c0 c1 C1 hb2 hg2
    go_wp2_with fail
    refine (specOut_all K _ _ ts k _ hn' (ho2.ties ho2.2.2)).mono ?_
    rintro e w3 ⟨aoW, capW, rfl, hoW, hb3⟩
    have C3 := C2.next hb3
    have s23 := hb3.size
    clear C2 hb3 ho2
    have hul := outTs_len K ts k
    obtain ⟨K', hK'⟩ : ∃ K', K' = outK K ts k := ⟨_, rfl⟩
    obtain ⟨us, hus⟩ : ∃ us, us = outTs K ts k := ⟨_, rfl⟩
    have HE : Hid (K' = outK K ts k ∧ us = outTs K ts k) := ⟨hK', hus⟩
    rw [← hus] at hoW hul
    rw [← hK', ← hus]
    clear hK' hus
    have hul' : us.length ≤ 1099511627776 := by omega
    have V3 : VarAt (w3.alloc (.cells #[.int .i64 K', .slice aoW us.length capW] 25)) w3.heap.size K' w2.heap.size w3.heap.size aoW us.length capW (tcell us) := VarAt.made _ hoW
    have C3' := C3.next (below_one w3 (.cells #[.int .i64 K', .slice aoW us.length capW] 25))
    have c0 := C3.c0
    have c1 := C3.c1
    have lt3 := C3.lt
    clear C3 hoW
    go_wp2_with fail
    refine (toNet_any K ao cap ts _ hn' (C3'.ties.wide (Nat.le_of_lt C3'.lt))).mono ?_
    rintro e w4 ⟨g4, rfl, hg4, ho4, hb4⟩
    have C4 := C3'.next hb4
    have V4 := V3.next hb4
    have s34 : w3.heap.size + 1 ≤ w4.heap.size := by have := hb4.size; simpa using this
    have hg4' : w3.heap.size + 1 ≤ g4 := by simpa using hg4
    clear c0 c1 C3' V3 hb4 hg4
    have X4 : VarAt (w4.alloc (.cells #[.int .i64 K, .slice (some ⟨g4, 0, none⟩) ts.length ts.length] 25)) w4.heap.size K (w3.heap.size + 1) w4.heap.size (some ⟨g4, 0, none⟩) ts.length ts.length (tcell ts) := VarAt.made _ (OwnN.of_T ho4 hg4' ho4.2.2)
    have C4' := C4.next (below_one w4 (.cells #[.int .i64 K, .slice (some ⟨g4, 0, none⟩) ts.length ts.length] 25))
    have V4' := V4.next (below_one w4 (.cells #[.int .i64 K, .slice (some ⟨g4, 0, none⟩) ts.length ts.length] 25))
    clear C4 V4 ho4 hg4'
    go_wp2_with fail
    refine (netOut_all K _ _ ts k _ hn' (X4.own.ties (by simp)) C4'.tab).mono ?_
    rw [← HE.out.1, ← HE.out.2]
    rintro e w5 ⟨aoG, capG, rfl, hoG, hb5⟩
    have C5 := C4'.next hb5
    have V5 := V4'.next hb5
    have X5 := X4.next hb5
    have s45 : w4.heap.size + 1 ≤ w5.heap.size := by have := hb5.size; simpa using this
    have hoG' : OwnN w5 (w4.heap.size + 1) w5.heap.size aoG us.length (tcell us) := by simpa using hoG
    clear C4' V4' X4 hb5 hoG
    have G5 : VarAt (w5.alloc (.cells #[.int .i64 K', .slice aoG us.length capG] 25)) w5.heap.size K' (w4.heap.size + 1) w5.heap.size aoG us.length capG (tcell us) := VarAt.made _ hoG'
    have C5' := C5.next (below_one w5 (.cells #[.int .i64 K', .slice aoG us.length capG] 25))
    have V5' := V5.next (below_one w5 (.cells #[.int .i64 K', .slice aoG us.length capG] 25))
    have X5' := X5.next (below_one w5 (.cells #[.int .i64 K', .slice aoG us.length capG] 25))
    have v0 := V5.c0
    have v1 := V5.c1
    have vl := V5.lt
    clear C5 V5 X5 hoG'
    go_wp2_with fail
    refine (eqNet_same K' _ _ _ _ us _ hul' (G5.own.ties (by simp)) (V5'.own.ties (by simp; omega))).mono ?_
    rintro e w6 ⟨rfl, hb6⟩
    have C6 := C5'.next hb6
    have V6 := V5'.next hb6
    have X6 := X5'.next hb6
    have G6 := G5.next hb6
    have s56 : w5.heap.size + 1 ≤ w6.heap.size := by have := hb6.size; simpa using this
    clear C5' V5' X5' G5 hb6 v0 v1 vl
    have x0 := X6.c0
    have x1 := X6.c1
    have y0 := C6.c0
    have y1 := C6.c1
    have hzx := X6.lt
    have hzy := C6.lt
    have T6 : Hid (TiesIn w6.drew w6.drew.heap.size ao ts) := hideP (C6.ties.wide (Nat.le_of_lt hzy))
    have O6 : Hid (TiesIn w6.drew w6.drew.heap.size (some ⟨g4, 0, none⟩) ts) := hideP (X6.own.ties (Nat.le_of_lt hzx))
    have HC6 := hideP C6
    have HV6 := hideP V6
    have HX6 := hideP X6
    have HG6 := hideP G6
    clear C6 V6 X6 G6
    go_wp2
    go_region_held3 (fun w' => w'.cell? ⟨w4.heap.size, 0, none⟩ = some (.int .i64 K) ∧ w'.cell? ⟨w4.heap.size, 1, none⟩ = some (.slice (some ⟨g4, 0, none⟩) ts.length ts.length) ∧ w'.cell? ⟨w.heap.size, 0, none⟩ = some (.int .i64 K) ∧ w'.cell? ⟨w.heap.size, 1, none⟩ = some (.slice ao ts.length cap)) (first | exact ⟨x0, x1, y0, y1⟩ | exact ⟨(hb7.cell (p := ⟨w4.heap.size, 0, none⟩) hzx).trans x0, (hb7.cell (p := ⟨w4.heap.size, 1, none⟩) hzx).trans x1, (hb7.cell (p := ⟨w.heap.size, 0, none⟩) hzy).trans y0, (hb7.cell (p := ⟨w.heap.size, 1, none⟩) hzy).trans y1⟩ | exact ⟨(hb78.cell (p := ⟨w4.heap.size, 0, none⟩) hzx).trans x0, (hb78.cell (p := ⟨w4.heap.size, 1, none⟩) hzx).trans x1, (hb78.cell (p := ⟨w.heap.size, 0, none⟩) hzy).trans y0, (hb78.cell (p := ⟨w.heap.size, 1, none⟩) hzy).trans y1⟩) (first | (go_at_call 27; refine (toNet_any K ao cap ts _ hn' T6.out).mono ?_; rintro e w7 ⟨g7, rfl, hg7, ho7, hb7⟩) | (go_at_call 28; refine (eqNet_same K _ _ _ _ ts _ hn' ((O6.out.below hb7 (Nat.le_refl _)).wide hb7.size) (ho7.ties ho7.2.2)).mono ?_; rintro e w8 ⟨rfl, hb8⟩; have hb78 := hb7.trans (hb8.mono hb7.size)))
    have hb68 : Below w6.heap.size w6 w8 := ((Below.refl _ _).drew).trans hb78
    have C8 := HC6.out.next hb68
    have V8 := HV6.out.next hb68
    have X8 := HX6.out.next hb68
    have G8 := HG6.out.next hb68
    clear HC6 HV6 HX6 HG6 hb7 hb8 hb78 hb68 ho7 hg7 T6 O6 x0 x1 y0 y1 hzx hzy
    have x0 := X8.c0
    have x1 := X8.c1
    go_wp2_with fail
    refine (markNet_any _ _ K _ ts.length ts.length (tcell ts) _ hn' X8.own).mono ?_
    rintro e w9 ⟨rfl, ho9, ht9⟩
    have hC9 := C8.aside ht9 (by omega) hT0
    have V9 := V8.aside ht9 (Or.inl (by omega)) (Or.inl (by omega))
    have G9 := G8.aside ht9 (Or.inr (by omega)) (Or.inr (by omega))
    clear C8 V8 X8 G8 ho9 ht9 x0 x1
    have hp : ¬ ((1 : Int) + ((ts.length * 2 : Nat) : Int) < 0) := by omega
    have v0 := V9.c0
    have v1 := V9.c1
    have k0 := G9.c0
    have k1 := G9.c1
    go_wp2_with fail
    refine (eqNet_same K' _ _ _ _ us _ hul' (G9.own.ties (by have := G9.lt; omega)) (V9.own.ties (by have := V9.lt; omega))).mono ?_
    rintro e w10 ⟨rfl, hb10⟩
    have C10 := hC9.next hb10
    have V10 := V9.next hb10
    have G10 := G9.next hb10
    clear hC9 V9 G9 hb10 v0 v1 k0 k1
    have k0 := G10.c0
    have k1 := G10.c1
    go_wp2_with fail
    refine (markNet_any _ _ K' _ us.length capG (tcell us) _ hul' G10.own).mono ?_
    rintro e w11 ⟨rfl, ho11, ht11⟩
    have C11 := C10.aside ht11 (by omega) hT0
    have V11 := V10.aside ht11 (Or.inl (by omega)) (Or.inl (by omega))
    have G11 := G10.marked ht11 (Or.inr (Nat.le_refl _)) ho11
    clear C10 V10 G10 ho11 ht11 k0 k1
    have k0 := G11.c0
    have k1 := G11.c1
    go_wp2_with fail
    refine (heldNet_any _ _ K' _ us.length capG _ hul' G11.own).mono ?_
    rintro e w12 ⟨rfl, hb12⟩
    have C12 := C11.next hb12
    have V12 := V11.next hb12
    have G12 := G11.next hb12
    clear C11 V11 G11 hb12 k0 k1
    have hq : ¬ ((1 : Int) + ((us.length * 2 : Nat) : Int) < 0) := by omega
    have y0 := C12.c0
    have y1 := C12.c1
    go_wp2_with fail
    refine (toNet_any K ao cap ts _ hn' (C12.ties.wide (Nat.le_of_lt C12.lt))).mono ?_
    rintro e w13 ⟨g13, rfl, hg13, ho13, hb13⟩
    have C13 := C12.next hb13
    have V13 := V12.next hb13
    have G13 := G12.next hb13
    clear C12 V12 G12 hb13 y0 y1 hg13
    go_wp2_with fail
    refine (netOut_all K _ _ ts k _ hn' (ho13.ties ho13.2.2) C13.tab).mono ?_
    rw [← HE.out.1, ← HE.out.2]
    rintro e w14 ⟨aoH, capH, rfl, hoH, hb14⟩
    have C14 := C13.next hb14
    have V14 := V13.next hb14
    have G14 := G13.next hb14
    clear C13 V13 G13 hb14 ho13
    have C14' := C14.next (below_one w14 (.cells #[.int .i64 K', .slice aoH us.length capH] 25))
    have V14' := V14.next (below_one w14 (.cells #[.int .i64 K', .slice aoH us.length capH] 25))
    have G14' := G14.next (below_one w14 (.cells #[.int .i64 K', .slice aoH us.length capH] 25))
    have hoH' := hoH.next (below_one w14 (.cells #[.int .i64 K', .slice aoH us.length capH] 25))
    have v0 := V14.c0
    have v1 := V14.c1
    have vl := V14.lt
    have kl := G14.lt
    clear C14 V14 G14 hoH
    go_wp2_with fail
    refine (eqNet_same K' _ _ _ _ us _ hul' (hoH'.ties (by simp)) (V14'.own.ties (by simp; omega))).mono ?_
    rintro e w15 ⟨rfl, hb15⟩
    have C15 := C14'.next hb15
    have G15 := G14'.next hb15
    clear C14' V14' G14' hb15 v0 v1 vl hoH'
    have k0 := G15.c0
    have k1 := G15.c1
    go_wp2_with fail
    refine (heldNet_any _ _ K' _ us.length capG _ hul' G15.own).mono ?_
    rintro e w16 ⟨rfl, hb16⟩
    have C16 := hideP (C15.next hb16).bel
    clear C15 G15 hb16 k0 k1 kl
    go_wp2
    go_ret
    exact ⟨rfl, C16.out⟩

end Go.Proofs.YtkbcaffhdaoalaaDoor
