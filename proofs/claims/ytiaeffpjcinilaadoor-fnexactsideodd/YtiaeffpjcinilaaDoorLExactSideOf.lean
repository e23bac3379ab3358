/- Walk of laws.FnExactSideOf: it returns true. -/
import Derived.Test.YtiaeffpjcinilaaDoorPartWMark
import Derived.Test.YtiaeffpjcinilaaDoorPartWSideT
namespace Go.Proofs.YtiaeffpjcinilaaDoor
open Go.RowKit
set_option linter.unusedVariables false

theorem sideL_le (K : Int) (ts : List (Int × Int)) : (sideL K ts).length ≤ 8 := by
  unfold sideL
  split
  · rename_i h
    unfold sideV at h
    rw [Bool.and_eq_true] at h
    rw [sdL_len]
    have := (okB_iff.1 h.1).2.1
    omega
  · simp
theorem pn_range (p : List Nat) : (List.range p.length).map (pn p) = p := by
  apply List.ext_getElem
  · simp
  · intro i h1 h2
    simp [pn, h2]
theorem row_seen {w : World} {lo g off cap : Nat} {p : List Nat} (h : RowS w lo g off cap p) : RowW w lo w.heap.size (some ⟨g, off, none⟩) p.length (pcellN (pn p)) := by
  have h' : RowS w lo g off cap ((List.range p.length).map (pn p)) := by rw [pn_range]; exact h
  exact h'.seen
set_option maxHeartbeats 1600000 in
theorem exactSideOf_walk (K : Int) (ao : Option Addr) (cap : Nat) (ts : List (Int × Int)) (w : World) (hm : ts.length ≤ maxLen) (ht : TiesIn w w.heap.size ao ts) (hT : Tab w) :
    Calls Tryd.prog 11 #[.agg #[.int .i64 K, .slice ao ts.length cap]] w fun e w' => e = .returned (.bool true) ∧ Below w.heap.size w w' := by
  by_cases hlong : 1048576 < ts.length
  · unfold maxLen at hm
    go_enter Tryd.func11, Tryd.ntmps11
    go_wp2_with fail
    refine (szNet_no K ao ts.length cap _ hlong hm).mono ?_
    rintro e w1 ⟨rfl, hb⟩
    go_wp2
    go_ret
    exact ⟨rfl, (below_one _ _).trans (hb.mono (by simp))⟩
  have hn : ts.length ≤ 1048576 := by omega
  have hn' : ts.length ≤ 1099511627776 := by omega
  have h' : ¬ ((1048576 : Int) - (ts.length : Int) < 0) := by omega
  have hN8 : (sideL K ts).length ≤ 1000 := by have := sideL_le K ts; omega
  obtain ⟨N, hN⟩ : ∃ N, N = (sideL K ts).length := ⟨_, rfl⟩
  have HNN := hideP hN
  rw [← hN] at hN8
  obtain ⟨f, hf⟩ : ∃ f, f = pcellN (pn (sideL K ts)) := ⟨_, rfl⟩
  have HFF := hideP hf
  obtain ⟨V, hV⟩ : ∃ V, V = sideV K ts := ⟨_, rfl⟩
  have HVV := hideP hV
  have HTab := hideP hT
  clear hm hlong hN hf hV hT
  go_enter Tryd.func11, Tryd.ntmps11
  go_wp2_with fail
  refine (szNet_yes K ao ts.length cap _ hn).mono ?_
  rintro e w1 ⟨rfl, hb1⟩
  have C1 : Camp w w1 K ao cap ts := Camp.start ht hb1
  clear hb1 ht
  have c0 := C1.c0
  have c1 := C1.c1
  go_wp2_with fail
  refine (toNet_any K ao cap ts _ hn' (C1.ties.wide (Nat.le_of_lt C1.lt))).mono ?_
  rintro e w2 ⟨g2, rfl, hg2, ho2, hb2⟩
  have C2 := C1.next hb2
  clear c0 c1 C1 hb2 hg2
  go_wp2_with fail
  refine (specSideOf_any K _ _ ts _ hn' (ho2.ties ho2.2.2)).mono ?_
  rw [← HNN.out, ← HVV.out]
  rintro e w3 ⟨gW, offW, capW, rfl, hoW, hb3⟩
  have C3 := C2.next hb3
  have W3 : RowW w3 w2.heap.size w3.heap.size (some ⟨gW, offW, none⟩) N f := by rw [HFF.out, HNN.out]; exact row_seen hoW
  have s23 := hb3.size
  have ltw : w.heap.size < w3.heap.size := C3.lt
  clear C2 hb3 ho2 hoW
  have c0 := C3.c0
  have c1 := C3.c1
  go_wp2_with fail
  refine (toNet_any K ao cap ts _ hn' (C3.ties.wide (Nat.le_of_lt C3.lt))).mono ?_
  rintro e w4 ⟨g4, rfl, hg4, ho4, hb4⟩
  have C4 := C3.next hb4
  have W4 := W3.next hb4
  have s34 := hb4.size
  clear c0 c1 C3 W3 hb4
  have bo4 := below_one w4 (.cells #[.int .i64 K, .slice (some ⟨g4, 0, none⟩) ts.length ts.length] 25)
  have X4 : VarAt (w4.alloc (.cells #[.int .i64 K, .slice (some ⟨g4, 0, none⟩) ts.length ts.length] 25)) w4.heap.size K w3.heap.size w4.heap.size (some ⟨g4, 0, none⟩) ts.length ts.length (tcell ts) := VarAt.made _ (OwnN.of_T ho4 hg4 ho4.2.2)
  have C4' := C4.next bo4
  have W4' := W4.next bo4
  clear C4 W4 ho4 hg4 bo4
  go_wp2_with fail
  refine (implSideOf_any K _ _ ts _ hn' (X4.own.ties (by simp)) (HTab.out.below C4'.bel HTab.out.2)).mono ?_
  rw [← HNN.out, ← HFF.out, ← HVV.out]
  rintro e w5 ⟨aoG, capG, rfl, hoG, hb5⟩
  have C5 := C4'.next hb5
  have W5 := W4'.next hb5
  have X5 := X4.next hb5
  have s45 : w4.heap.size + 1 ≤ w5.heap.size := by have := hb5.size; simpa using this
  have G5 : OwnR w5 (w4.heap.size + 1) w5.heap.size aoG N f := by simpa using hoG
  clear C4' W4' X4 hb5 hoG
  go_wp2_with fail
  refine (eqIntS_row _ _ _ _ N (pn (sideL K ts)) _ hN8 (HFF.out ▸ G5.inside) (HFF.out ▸ W5.row)).mono ?_
  rintro e w6 ⟨rfl, hb6⟩
  have C6 := C5.next hb6
  have W6 := W5.next hb6
  have X6 := X5.next hb6
  have G6 := G5.next hb6
  have s56 := hb6.size
  clear C5 W5 X5 G5 hb6
  have x0 := X6.c0
  have x1 := X6.c1
  have y0 := C6.c0
  have y1 := C6.c1
  have hzx := X6.lt
  have hzy := C6.lt
  have T6 : Hid (TiesIn w6.drew w6.drew.heap.size ao ts) := hideP (C6.ties.wide (Nat.le_of_lt hzy))
  have O6 : Hid (TiesIn w6.drew w6.drew.heap.size (some ⟨g4, 0, none⟩) ts) := hideP (X6.own.ties (Nat.le_of_lt hzx))
  have HC6 := hideP C6
  have HW6 := hideP W6
  have HX6 := hideP X6
  have HG6 := hideP G6
  clear C6 W6 X6 G6
  go_wp2
  go_region_held3 (fun w' => w'.cell? ⟨w4.heap.size, 0, none⟩ = some (.int .i64 K) ∧ w'.cell? ⟨w4.heap.size, 1, none⟩ = some (.slice (some ⟨g4, 0, none⟩) ts.length ts.length) ∧ w'.cell? ⟨w.heap.size, 0, none⟩ = some (.int .i64 K) ∧ w'.cell? ⟨w.heap.size, 1, none⟩ = some (.slice ao ts.length cap)) (first | exact ⟨x0, x1, y0, y1⟩ | exact ⟨(hb7.cell (p := ⟨w4.heap.size, 0, none⟩) hzx).trans x0, (hb7.cell (p := ⟨w4.heap.size, 1, none⟩) hzx).trans x1, (hb7.cell (p := ⟨w.heap.size, 0, none⟩) hzy).trans y0, (hb7.cell (p := ⟨w.heap.size, 1, none⟩) hzy).trans y1⟩ | exact ⟨(hb78.cell (p := ⟨w4.heap.size, 0, none⟩) hzx).trans x0, (hb78.cell (p := ⟨w4.heap.size, 1, none⟩) hzx).trans x1, (hb78.cell (p := ⟨w.heap.size, 0, none⟩) hzy).trans y0, (hb78.cell (p := ⟨w.heap.size, 1, none⟩) hzy).trans y1⟩) (first | (go_at_call 35; refine (toNet_any K ao cap ts _ hn' T6.out).mono ?_; rintro e w7 ⟨g7, rfl, hg7, ho7, hb7⟩) | (go_at_call 37; refine (eqNet_same K _ _ _ _ ts _ hn' ((O6.out.below hb7 (Nat.le_refl _)).wide hb7.size) (ho7.ties ho7.2.2)).mono ?_; rintro e w8 ⟨rfl, hb8⟩; have hb78 := hb7.trans (hb8.mono hb7.size)))
  have hb68 : Below w6.heap.size w6 w8 := ((Below.refl _ _).drew).trans hb78
  have C8 := HC6.out.next hb68
  have W8 := HW6.out.next hb68
  have X8 := HX6.out.next hb68
  have G8 := HG6.out.next hb68
  clear HC6 HW6 HX6 HG6 hb7 hb8 hb78 hb68 ho7 hg7 T6 O6 x0 x1 y0 y1 hzx hzy
  have x0 := X8.c0
  have x1 := X8.c1
  go_wp2_with fail
  refine (markNet_any _ _ K _ ts.length ts.length (tcell ts) _ hn' X8.own).mono ?_
  rintro e w9 ⟨rfl, ho9, ht9⟩
  have lt8 := C8.lt
  have C9 := C8.aside ht9 (by omega)
  have W9 := W8.aside ht9 (Or.inl (Nat.le_refl _))
  have G9 := G8.aside ht9 (Or.inr (by omega))
  clear C8 W8 X8 G8 ho9 ht9 x0 x1 lt8
  have hp : ¬ ((1 : Int) + ((ts.length * 2 : Nat) : Int) < 0) := by omega
  go_wp2_with fail
  refine (eqIntS_row _ _ _ _ N (pn (sideL K ts)) _ hN8 (HFF.out ▸ G9.inside) (HFF.out ▸ W9.row)).mono ?_
  rintro e w10 ⟨rfl, hb10⟩
  have C10 := C9.next hb10
  have W10 := W9.next hb10
  have G10 := G9.next hb10
  clear C9 W9 G9 hb10 hp
  go_wp2_with fail
  refine (markIntS_any _ _ _ N capG f _ hN8 G10).mono ?_
  rintro e w11 ⟨rfl, G11, ht11⟩
  have lt10 := C10.lt
  have C11 := C10.aside ht11 (by omega)
  have W11 := W10.aside ht11 (Or.inl (by omega))
  clear C10 W10 G10 ht11 lt10
  go_wp2_with fail
  refine (heldIntS_any _ _ _ N capG _ hN8 G11).mono ?_
  rintro e w12 ⟨rfl, hb12⟩
  have C12 := C11.next hb12
  have W12 := W11.next hb12
  have G12 := G11.next hb12
  clear C11 W11 G11 hb12
  have hq : ¬ ((1 : Int) + (N : Int) < 0) := by omega
  have y0 := C12.c0
  have y1 := C12.c1
  go_wp2_with fail
  refine (toNet_any K ao cap ts _ hn' (C12.ties.wide (Nat.le_of_lt C12.lt))).mono ?_
  rintro e w13 ⟨g13, rfl, hg13, ho13, hb13⟩
  have C13 := C12.next hb13
  have W13 := W12.next hb13
  have G13 := G12.next hb13
  clear C12 W12 G12 hb13 y0 y1 hg13
  go_wp2_with fail
  refine (implSideOf_any K _ _ ts _ hn' (ho13.ties ho13.2.2) (HTab.out.below C13.bel HTab.out.2)).mono ?_
  rw [← HNN.out, ← HFF.out, ← HVV.out]
  rintro e w14 ⟨aoH, capH, rfl, hoH, hb14⟩
  have C14 := C13.next hb14
  have W14 := W13.next hb14
  have G14 := G13.next hb14
  clear C13 W13 G13 hb14 ho13
  go_wp2_with fail
  refine (eqIntS_row _ _ _ _ N (pn (sideL K ts)) _ hN8 (HFF.out ▸ hoH.inside) (HFF.out ▸ W14.row)).mono ?_
  rintro e w15 ⟨rfl, hb15⟩
  have C15 := C14.next hb15
  have G15 := G14.next hb15
  clear C14 W14 G14 hb15 hoH
  go_wp2_with fail
  refine (heldIntS_any _ _ _ N capG _ hN8 G15).mono ?_
  rintro e w16 ⟨rfl, hb16⟩
  have C16 := hideP (C15.next hb16).bel
  clear C15 G15 hb16
  go_wp2
  go_ret
  exact ⟨rfl, C16.out⟩

end Go.Proofs.YtiaeffpjcinilaaDoor
