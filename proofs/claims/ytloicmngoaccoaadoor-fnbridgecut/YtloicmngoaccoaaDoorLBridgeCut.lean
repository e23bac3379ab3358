/- Walk of laws.FnBridgeCut: it returns true. -/
import Derived.Test.YtloicmngoaccoaaDoorWDrawT
import Derived.Test.YtloicmngoaccoaaDoorWLo
import Derived.Test.YtloicmngoaccoaaDoorWCapB
import Derived.Test.YtloicmngoaccoaaDoorWAlls
import Derived.Test.YtloicmngoaccoaaDoorWApp
import Derived.Test.YtloicmngoaccoaaDoorWCutV
import Derived.Deep.RegionHeld3
import Derived.Test.YtloicmngoaccoaaDoorWBridgeL
import Derived.Test.YtloicmngoaccoaaDoorMathH
namespace Go.Proofs.YtloicmngoaccoaaDoor
open Go.RowKit
set_option linter.unusedVariables false

theorem loTies_n (a1 a2 : Option Addr) (cap1 cap2 n m : Nat) (ts : List (Int × Int)) (w : World) (hn : ts.length ≤ 1099511627776) (h1 : TiesIn w w.heap.size a1 ts) (h2 : TiesIn w w.heap.size a2 ts) (e1 : ts.length = n) (e2 : ts.length = m) :
    Calls Tryd.prog 29 #[.slice a1 n cap1, .slice a2 m cap2] w fun e w' => e = .returned (.bool true) ∧ Below w.heap.size w w' := by
  subst e1; rw [← e2]; exact loTies_same a1 a2 cap1 cap2 ts w hn h1 h2
set_option maxRecDepth 100000 in
set_option maxHeartbeats 6400000 in
theorem bridgeCut_walk (bo : Option Addr) (n cap : Nat) (co : Option Addr) (n2 cap2 : Nat) (w : World) (hb : BytesIn w bo n) (hnil : bo = none → n = 0 ∧ cap = 0) (hc : n ≤ cap) (hm : cap ≤ maxLen) (hbb : BytesIn w co n2) (hnil2 : co = none → n2 = 0 ∧ cap2 = 0) (hc2 : n2 ≤ cap2) (hm2 : cap2 ≤ maxLen) (hT : Tab w) :
    Calls Tryd.prog 8 #[.slice bo n cap, .slice co n2 cap2] w fun e w' => e = .returned (.bool true) ∧ Below w.heap.size w w' := by
  have hn2' : n2 ≤ 9223372036854775807 := by unfold maxLen at hm2; omega
  have hn1' : n ≤ 9223372036854775807 := by unfold maxLen at hm; omega
  clear hbb hnil2 hc2 hm2
  by_cases hl : 1048576 < n
  · have hl' : (1048576 : Int) < (n : Int) := by omega
    go_enter Tryd.func8, Tryd.ntmps8
    go_wp2
    go_ret
    exact ⟨rfl, Below.refl _ _⟩
  have hl' : decide ((1048576 : Int) < (n : Int)) = false := by simp; omega
  by_cases hl2 : 1048576 < n2
  · have hl2' : (1048576 : Int) < (n2 : Int) := by omega
    go_enter Tryd.func8, Tryd.ntmps8
    go_wp2
    go_ret
    exact ⟨rfl, Below.refl _ _⟩
  have hl2' : decide ((1048576 : Int) < (n2 : Int)) = false := by simp; omega
  go_enter Tryd.func8, Tryd.ntmps8
  go_wp2_with fail
  refine (drawBridgeList_any bo n cap _ hb hnil hc hm).mono ?_
  rintro e w1 ⟨K, ao, cap', ts, rfl, D1⟩
  have hn : ts.length ≤ 1099511627776 := by have := D1.short; omega
  have HB1 := hideP D1.bel
  have T1 := hideP (hT.below D1.bel hT.2)
  have hoN := D1.own
  clear D1 hT
  have T1a := hideP (T1.out.below (below_one w1 (.cells #[.int .i64 K, .slice ao ts.length cap'] 25)) T1.out.2)
  have HB1a := hideP (HB1.out.trans ((below_one w1 (.cells #[.int .i64 K, .slice ao ts.length cap'] 25)).mono HB1.out.size))
  have N1a := hideP (NetV.new (K := K) (cap := cap') 25 (hoN.ties (Nat.le_refl _)))
  clear hoN
  have hul := brTs_len K ts
  have hul' : (brTs K ts).length ≤ 1099511627776 := by omega
  obtain ⟨us, hus⟩ : ∃ us, us = brTs K ts := ⟨_, rfl⟩
  have HUS := hideP hus
  rw [← hus] at hul hul'
  clear hus
  go_wp2_with fail
  refine (implBridges_cap K ao cap' ts _ hn N1a.out.ties T1a.out).mono ?_
  rw [← HUS.out]
  rintro e w2 ⟨aoL, capL, rfl, ho2, hb2, hcpL⟩
  have N2 := hideP (N1a.out.next hb2)
  have T2 := hideP (T1a.out.below hb2 T1a.out.2)
  have HB2 := hideP (HB1a.out.trans (hb2.mono HB1a.out.size))
  have L2 := hideP (ho2.ties (Nat.le_refl _))
  clear hb2 ho2 N1a T1a HB1a
  have n0 := N2.out.c0
  have n1 := N2.out.c1
  go_wp2_with fail
  refine (specBridges_any K ao cap' ts _ hn N2.out.ties).mono ?_
  rw [← HUS.out]
  rintro e w3 ⟨aoS, capS, rfl, ho3, hb3⟩
  have N3 := hideP (N2.out.next hb3)
  have L3 := hideP ((L2.out.below hb3 (Nat.le_refl _)).wide hb3.size)
  have S3 := hideP (ho3.ties (Nat.le_refl _))
  have HB3 := hideP (HB2.out.trans (hb3.mono HB2.out.size))
  have T3 := hideP (T2.out.below hb3 T2.out.2)
  clear hb3 ho3 N2 L2 HB2 T2 n0 n1
  go_wp2_with fail
  refine (loTies_same aoL aoS capL capS us _ hul' L3.out S3.out).mono ?_
  rintro e w4 ⟨rfl, hb4⟩
  have N4 := hideP (N3.out.next hb4)
  have L4 := hideP ((L3.out.below hb4 (Nat.le_refl _)).wide hb4.size)
  have HB4 := hideP (HB3.out.trans (hb4.mono HB3.out.size))
  have T4 := hideP (T3.out.below hb4 T3.out.2)
  clear hb4 N3 L3 S3 HB3 T3
  have n0 := N4.out.c0
  have n1 := N4.out.c1
  by_cases hz : us.length = 0
  · have hnil0 : us = [] := List.length_eq_zero_iff.1 hz
    subst hnil0
    clear hz
    go_wp2_with fail
    refine (specBridges_any K ao cap' ts _ hn N4.out.ties).mono ?_
    rw [← HUS.out]
    rintro e w6 ⟨aoS6, capS6, rfl, ho6, hb6⟩
    have L6 := hideP ((L4.out.below hb6 (Nat.le_refl _)).wide hb6.size)
    have S6 := hideP (ho6.ties (Nat.le_refl _))
    have HB6 := hideP (HB4.out.trans (hb6.mono HB4.out.size))
    clear hb6 ho6 n0 n1
    go_wp2_with fail
    refine (loTies_same aoL aoS6 capL capS6 [] _ hul' L6.out S6.out).mono ?_
    rintro e w7 ⟨rfl, hb7⟩
    have HB7 := hideP (HB6.out.trans (hb7.mono HB6.out.size))
    clear hb7
    go_wp2
    go_ret
    exact ⟨rfl, HB7.out⟩
  have hok : okB K ts = true := by
    cases h : okB K ts
    · exact absurd (by rw [HUS.out, brTs_no h]; rfl) hz
    · rfl
  obtain ⟨i, hi⟩ : ∃ i : Nat, i = n2 % us.length := ⟨_, rfl⟩
  have hil : i < us.length := by rw [hi]; exact Nat.mod_lt _ (by omega)
  have hmod : (n2 : Int) % (us.length : Int) = (i : Int) := by rw [hi]; exact (Int.natCast_emod n2 us.length).symm
  have hmt : Int.tmod (n2 : Int) (us.length : Int) = (i : Int) := by rw [Int.tmod_eq_emod_of_nonneg (show (0 : Int) ≤ (n2 : Int) by omega)]; exact hmod
  have hzi : ((us.length : Int) == 0) = false := by rw [beq_eq_false_iff_ne]; omega
  have hz0 : ¬ ((us.length : Int) = 0) := by omega
  have HROW := hideP (br_cut_row hok (k := i) (by rw [← HUS.out]; exact hil))
  have hh : hasB K ts (tA us i) (tB us i) = true := by
    obtain ⟨x, y, hxy, hy8, hte, hto, hhas⟩ := tie_form hok (show (tA us i, tB us i) ∈ ts from ((mem_brTs hok _).1 (HUS.out ▸ mem_at hil)).1)
    simp only [Prod.mk.injEq] at hte
    rw [hte.1, hte.2]; exact hhas
  have hcut : cutB K ts (tA us i) (tB us i) = true := hh
  rw [← HUS.out] at HROW
  have HCUT : Hid (cutB K ts (tA us i) (tB us i) = true ∧ cutK K ts (tA us i) (tB us i) = K) := ⟨hcut, cutK_yes hcut⟩
  have hcl := cutTs_len K ts (tA us i) (tB us i)
  obtain ⟨gL, offL, rfl, hgL, l0, l1⟩ := L4.out i hil
  obtain ⟨a, ha⟩ : ∃ x, x = tA us i := ⟨_, rfl⟩
  obtain ⟨b, hb'⟩ : ∃ x, x = tB us i := ⟨_, rfl⟩
  rw [← ha, ← hb'] at HCUT HROW hcl
  rw [← ha] at l0
  rw [← hb'] at l1
  obtain ⟨vs, hvs⟩ : ∃ vs, vs = cutTs K ts a b := ⟨_, rfl⟩
  have HVS := hideP hvs
  rw [← hvs] at HROW hcl
  have hvn : vs.length ≤ 1099511627776 := by omega
  have n0 := N4.out.c0
  have n1 := N4.out.c1
  have hi0 : (0 : Int) ≤ (i : Int) := by omega
  have hil' : (i : Int) < (us.length : Int) := by omega
  have N4d := hideP (N4.out.next (Below.refl _ _).drew)
  have T4d := hideP (T4.out.below (Below.refl _ _).drew T4.out.2)
  have L4d := hideP ((L4.out.below (Below.refl _ _).drew (Nat.le_refl _)).wide (Nat.le_refl _))
  have HB4d := hideP HB4.out.drew
  clear hok hh hcut ha hb' hvs N4 T4 L4 HB4 hmod hi
  have nl := N4d.out.lt
  have N4e := hideP (N4d.out.next (below_one w4.drew (.cells #[.int .i64 0, .slice none 0 0] 25)))
  have T4e := hideP (T4d.out.below (below_one w4.drew (.cells #[.int .i64 0, .slice none 0 0] 25)) T4d.out.2)
  have HELD : Hid (∀ W, Below w4.heap.size w4 W → W.cell? ⟨w1.heap.size, 0, none⟩ = some (.int .i64 K) ∧ W.cell? ⟨w1.heap.size, 1, none⟩ = some (.slice ao ts.length cap') ∧ W.cell? ⟨gL, offL + i * 2, none⟩ = some (.int .i64 a) ∧ W.cell? ⟨gL, offL + i * 2 + 1, none⟩ = some (.int .i64 b)) := fun W hb => ⟨(hb.cell (p := ⟨w1.heap.size, 0, none⟩) nl).trans n0, (hb.cell (p := ⟨w1.heap.size, 1, none⟩) nl).trans n1, (hb.cell (p := ⟨gL, offL + i * 2, none⟩) hgL).trans l0, (hb.cell (p := ⟨gL, offL + i * 2 + 1, none⟩) hgL).trans l1⟩
  have B0 : Hid (Below w4.heap.size w4 w4.drew) := (Below.refl _ _).drew
  have B1 : Hid (Below w4.heap.size w4 (w4.drew.alloc (.cells #[.int .i64 0, .slice none 0 0] 25))) := (Below.refl _ _).drew.alloc (Nat.le_refl _) _
  have HXE : Hid ((w4.drew.alloc (.cells #[.int .i64 0, .slice none 0 0] 25)).heap[w4.heap.size]? = some (Obj.cells #[.int .i64 0, .slice none 0 0] 25 (0, 0))) := World.alloc_heap_new w4.drew _
  have hszE : (w4.drew.alloc (.cells #[.int .i64 0, .slice none 0 0] 25)).heap.size = w4.heap.size + 1 := World.size_alloc _ _
  go_wp2
  apply wp_weakC (J := fun XB ao cap W => CutSt w4 W XB K ao cap vs)
  case h =>
    go_region_held3 (fun w' => w'.cell? ⟨w1.heap.size, 0, none⟩ = some (.int .i64 K) ∧ w'.cell? ⟨w1.heap.size, 1, none⟩ = some (.slice ao ts.length cap') ∧ w'.cell? ⟨gL, offL + i * 2, none⟩ = some (.int .i64 a) ∧ w'.cell? ⟨gL, offL + i * 2 + 1, none⟩ = some (.int .i64 b)) (first | exact HELD.out _ bX.out | exact HELD.out _ (bX.out.alloc bX.out.size _) | exact HELD.out _ ((bX.out.setCell (p := ⟨w4.heap.size, 0, none⟩) (Nat.le_refl _) _).setCell (p := ⟨w4.heap.size, 1, none⟩) (Nat.le_refl _) _) | exact HELD.out _ B1.out | exact HELD.out _ B0.out) (first | (go_at_call 22; refine (netCut_all K ao cap' ts a b _ hn N4d.out.ties T4d.out).mono ?_; rw [HCUT.out.1, HCUT.out.2, ← HVS.out]; rintro e w6 ⟨aoX, capX, rfl, ho6, hb6⟩; have bX : Hid (Below w4.heap.size w4 w6) := hideP (B0.out.trans hb6); have O6 : Hid (OwnN w6 w4.heap.size w6.heap.size aoX vs.length (tcell vs)) := hideP ho6; clear hb6 ho6) | (go_at_call 22; refine (netCut_all K ao cap' ts a b _ hn N4e.out.ties T4e.out).mono ?_; rw [HCUT.out.1, HCUT.out.2, ← HVS.out]; rintro e w6 ⟨aoX, capX, rfl, ho6, hb6⟩; rw [hszE] at ho6 hb6; have bX : Hid (Below w4.heap.size w4 w6) := hideP (B1.out.trans (hb6.mono (Nat.le_succ _))); have O6e : Hid (OwnN w6 (w4.heap.size + 1) w6.heap.size aoX vs.length (tcell vs)) := hideP ho6; have HX6 : Hid (w6.heap[w4.heap.size]? = some (Obj.cells #[.int .i64 0, .slice none 0 0] 25 (0, 0))) := hideP ((hb6.block w4.heap.size (Nat.lt_succ_self _)).trans HXE.out); obtain ⟨xc0, xc1, xf⟩ := two_cells HX6.out; clear hb6 ho6))
    all_goals
      first
      | (have JJ := CutSt.put (K := K) (cap := capX) HX6.out O6e.out bX.out
         generalize w4.heap.size = XB at JJ ⊢
         exact ⟨XB, aoX, capX, rfl, JJ⟩)
      | (have JJ : CutSt w4 (w6.alloc (.cells #[.int .i64 K, .slice aoX vs.length capX] 25)) w6.heap.size K aoX capX vs := ⟨NetV.new _ (O6.out.ties (Nat.le_refl _)), bX.out.alloc bX.out.size _⟩
         generalize w6.heap.size = XB at JJ ⊢
         exact ⟨XB, aoX, capX, rfl, JJ⟩)
  intro XB aoX capX W hJ
  obtain ⟨hX, hbW⟩ := hJ
  have XN := hideP hX
  have hbD : Below w4.drew.heap.size w4.drew W := ⟨hbW.os, hbW.tape, hbW.output, hbW.size, hbW.block⟩
  have LW := hideP ((L4d.out.below hbD (Nat.le_refl _)).wide hbD.size)
  have TW := hideP (T4d.out.below hbD T4d.out.2)
  have HBW := hideP (HB4d.out.trans (hbD.mono HB4d.out.size))
  have x0 := hX.c0
  have x1 := hX.c1
  clear hX hbW hbD HELD B0 B1 HXE hszE N4d N4e T4d T4e L4d HB4d n0 n1 l0 l1 nl
  obtain ⟨i0, hi0', hz0', hz1', hz2'⟩ := info_parts Tryd.infoTie
  have HI : Hid (Tryd.prog.info? 35 = some i0 ∧ i0.zero = some (.agg #[.int .i64 0, .int .i64 0]) ∧ i0.size = 2 ∧ i0.bytes = 16) := ⟨hi0', hz0', hz1', hz2'⟩
  clear hi0' hz0' hz1' hz2'
  have HT1 : Hid ((tlist (us.take i)).length = i * 2) := by
    have : (us.take i).length = i := by rw [List.length_take]; omega
    rw [tlist_len, this]; exact hideP rfl
  have HT2 : Hid ((tlist (us.drop (i + 1))).length = (us.length - (i + 1)) * 2) := by
    rw [tlist_len, List.length_drop]; exact hideP rfl
  have PC1 : Hid (∀ W', Below W.heap.size W W' → ∀ j u, (tlist (us.take i))[j]? = some u → W'.cell? ((⟨gL, offL, none⟩ : Addr).add j) = some u) := fun W' hb => by
    have := (LW.out.below hb (Nat.le_refl _)).piece 0 i (by omega)
    simpa using this
  obtain ⟨ad, had, hpc2⟩ : ∃ ad : Addr, (∀ inst : Decidable (capL = i + 1), @ite (Option Addr) (capL = i + 1) inst (some ⟨gL, offL, none⟩) (some ⟨gL, offL + (i + 1) * 2, none⟩) = some ad) ∧ ∀ W', Below W.heap.size W W' → ∀ j u, (tlist (us.drop (i + 1)))[j]? = some u → W'.cell? (ad.add j) = some u := by
    by_cases hcc : capL = i + 1
    · refine ⟨⟨gL, offL, none⟩, fun _ => if_pos hcc, fun W' hb j u hj => ?_⟩
      have h0 : (tlist (us.drop (i + 1))).length = 0 := by rw [HT2.out]; omega
      rw [List.length_eq_zero_iff.1 h0] at hj
      simp at hj
    · refine ⟨⟨gL, offL + (i + 1) * 2, none⟩, fun _ => if_neg hcc, fun W' hb => ?_⟩
      have := (LW.out.below hb (Nat.le_refl _)).piece (i + 1) (us.length - (i + 1)) (by omega)
      rwa [List.take_of_length_le (by simp)] at this
  have PC2 := hideP hpc2
  have HAD := hideP had
  clear hpc2 had
  obtain ⟨zs, hzs⟩ : ∃ zs, zs = brTs K vs := ⟨_, rfl⟩
  have HZS := hideP hzs
  have hzr : zs = us.take i ++ us.drop (i + 1) := hzs.trans HROW.out
  have hzl : zs.length = i + (us.length - (i + 1)) := by rw [hzr]; simp; omega
  have LOT : Hid (∀ (W' : World) (aoB : Option Addr) (capB gB cB : Nat), Below W.heap.size W W' → TiesIn W' W'.heap.size aoB zs → W'.ownsRow W.heap.size 35 2 (.slice (some ⟨gB, 0, none⟩) (i + (us.length - (i + 1))) cB) (i + (us.length - (i + 1))) (tlist [] ++ tlist (us.take i) ++ tlist (us.drop (i + 1))) → Calls Tryd.prog 29 #[.slice aoB zs.length capB, .slice (some ⟨gB, 0, none⟩) (i + (us.length - (i + 1))) cB] W' fun e w' => e = .returned (.bool true) ∧ Below W'.heap.size W' w') := fun W' aoB capB gB cB hb h1 h2 => by
    have e : tlist [] ++ tlist (us.take i) ++ tlist (us.drop (i + 1)) = tlist zs := by rw [hzr, tlist_app]; rfl
    rw [e] at h2
    exact loTies_n aoB _ capB cB _ _ zs W' (by omega) h1 (own_tl h2 hzl) rfl hzl
  have D0 : Hid (Below W.heap.size W W.drew) := (Below.refl _ _).drew
  have D1 : Hid (Below W.heap.size W ((W.alloc (.cells #[] 35)).drew)) := ((Below.refl _ _).alloc (Nat.le_refl _) _).drew
  have E1 : Hid (((W.alloc (.cells #[] 35)).drew).ownsRow W.heap.size 35 2 (.slice (some ⟨W.heap.size, 0, none⟩) 0 0) 0 (tlist [])) := own_empty W 35 W.heap.size (Nat.le_refl _)
  have XD0 := hideP (XN.out.next D0.out).ties
  have TD0 := hideP (TW.out.below D0.out TW.out.2)
  have XD1 := hideP (XN.out.next D1.out).ties
  have TD1 := hideP (TW.out.below D1.out TW.out.2)
  have HSX : Hid (∀ W', Below W.heap.size W W' → W'.cell? ⟨XB, 0, none⟩ = some (.int .i64 K) ∧ W'.cell? ⟨XB, 1, none⟩ = some (.slice aoX vs.length capX)) := fun W' hb => ⟨(XN.out.next hb).c0, (XN.out.next hb).c1⟩
  have hcp1 : (i : Int) ≤ (capL : Int) := by omega
  have hcp2 : (us.length : Int) ≤ (capL : Int) := by omega
  have hcp3 : (i : Int) + 1 ≤ (us.length : Int) := by omega
  have hcp4 : i ≤ capL := by omega
  have hw1 : IntKind.i64.wrap ((i : Int) + 1) = (i : Int) + 1 := by
    have hall : ∀ t : Fin 64, IntKind.i64.wrap ((t.val : Int) + 1) = (t.val : Int) + 1 := by decide
    exact hall ⟨i, by omega⟩
  have hcp6 : (0 : Int) ≤ (i : Int) + 1 := by omega
  have hcp7 : (i : Int) + 1 ≤ (capL : Int) := by omega
  have hcp5 : i + 1 ≤ us.length := by omega
  have hzl9 : zs.length ≤ 64 := by omega
  clear hzs HROW hzr hzl
  have HC0 : Hid (Calls Tryd.prog 31 #[.agg #[.int .i64 K, .slice aoX vs.length capX]] W.drew fun e w' => ∃ ao' cap', e = .returned (.slice ao' zs.length cap') ∧ OwnN w' W.drew.heap.size w'.heap.size ao' zs.length (tcell zs) ∧ Below W.drew.heap.size W.drew w') := by
    have := implBridges_any K aoX capX vs _ hvn XD0.out TD0.out
    rw [← HZS.out] at this; exact this
  have HC1 : Hid (Calls Tryd.prog 31 #[.agg #[.int .i64 K, .slice aoX vs.length capX]] ((W.alloc (.cells #[] 35)).drew) fun e w' => ∃ ao' cap', e = .returned (.slice ao' zs.length cap') ∧ OwnN w' ((W.alloc (.cells #[] 35)).drew).heap.size w'.heap.size ao' zs.length (tcell zs) ∧ Below ((W.alloc (.cells #[] 35)).drew).heap.size ((W.alloc (.cells #[] 35)).drew) w') := by
    have := implBridges_any K aoX capX vs _ hvn XD1.out TD1.out
    rw [← HZS.out] at this; exact this
  go_wp2
  have hXB := XN.out.lt
  go_region_held3 (fun w' => w'.cell? ⟨XB, 0, none⟩ = some (.int .i64 K) ∧ w'.cell? ⟨XB, 1, none⟩ = some (.slice aoX vs.length capX)) (first | exact HSX.out _ b8.out | exact HSX.out _ bB.out | exact HSX.out _ bA.out | exact HSX.out _ b7.out | exact HSX.out _ (b7.out.alloc b7.out.size _) | exact HSX.out _ D1.out | exact HSX.out _ D0.out) (first | (go_at_call 29; refine (LOT.out _ aoB capB gB cB bB.out TB.out OB.out).mono ?_; rintro e w8 ⟨rfl, hb8⟩; have HB8 := hideP (HBW.out.trans ((bB.out.trans (hb8.mono bB.out.size)).mono HBW.out.size)); have b8 : Hid (Below W.heap.size W w8) := hideP (bB.out.trans (hb8.mono bB.out.size)); clear hb8; go_simp) | (refine step_appn (by rfl) _ _ _ (by rfl) W.heap.size 35 i0 _ 2 16 Tryd.underlying23 HI.out.1 HI.out.2.1 HI.out.2.2.1 HI.out.2.2.2 rfl (by decide) (.slice (some ⟨W.heap.size, 0, none⟩) 0 0) 0 (tlist []) (by rfl) (by simp) (E7.out) i ⟨gL, offL, none⟩ i _ (Nat.zero_add _) (tlist (us.take i)) (by rfl) HT1.out (PC1.out _ (b7.out)) (tlist_one _) (by unfold maxLen; omega) (by omega) ((b7.out).size) ?_; intro gA cA wA hownA hgrowA hatA; have TA : Hid (TiesIn wA wA.heap.size aoB zs) := hideP (ties_grown (L7e.out.ties (Nat.le_refl _)) hgrowA (fun b e => by show b.block ≠ W.heap.size; have h1 := (L7e.out.at b e).1; simp at h1; omega)); have NA : Hid (∀ b, aoB = some b → b.block ≠ gA) := hideP (fun b e => by have h1 := L7e.out.at b e; simp [Value.ownBlock] at h1 hatA; omega); have OA := hideP hownA; have bA : Hid (Below W.heap.size W wA) := hideP ((b7.out).grown hgrowA ((b7.out).size) (fun j e => by simp [Value.ownBlock] at e; have := b7.out.size; omega)); clear hownA hgrowA hatA) | (refine step_appn (by rfl) _ _ _ (by rfl) W.heap.size 35 i0 _ 2 16 Tryd.underlying23 HI.out.1 HI.out.2.1 HI.out.2.2.1 HI.out.2.2.2 rfl (by decide) (.slice (some ⟨w7.heap.size, 0, none⟩) 0 0) 0 (tlist []) (by rfl) (by simp) (own_empty w7 35 W.heap.size b7.out.size) i ⟨gL, offL, none⟩ i _ (Nat.zero_add _) (tlist (us.take i)) (by rfl) HT1.out (PC1.out _ (b7.out.alloc b7.out.size (.cells #[] 35))) (tlist_one _) (by unfold maxLen; omega) (by omega) ((b7.out.alloc b7.out.size (.cells #[] 35)).size) ?_; intro gA cA wA hownA hgrowA hatA; have TA : Hid (TiesIn wA wA.heap.size aoB zs) := hideP (ties_grown (((L7.out.ties (Nat.le_refl _)).below (below_one w7 (.cells #[] 35)) (Nat.le_refl _)).wide (by simp)) hgrowA (fun b e => by show b.block ≠ w7.heap.size; have h1 := (L7.out.at b e).2; omega)); have NA : Hid (∀ b, aoB = some b → b.block ≠ gA) := hideP (fun b e => by have h1 := (L7.out.at b e).2; simp [Value.ownBlock] at hatA; omega); have OA := hideP hownA; have bA : Hid (Below W.heap.size W wA) := hideP ((b7.out.alloc b7.out.size (.cells #[] 35)).grown hgrowA ((b7.out.alloc b7.out.size (.cells #[] 35)).size) (fun j e => by simp [Value.ownBlock] at e; have := b7.out.size; omega)); clear hownA hgrowA hatA) | (go_at_call 31; (with_reducible refine HC0.out.mono ?_); rintro e w7 ⟨aoB, capB, rfl, ho7, hb7⟩; have b7 : Hid (Below W.heap.size W w7) := hideP (D0.out.trans hb7); have L7 := hideP ho7; clear hb7 ho7; go_simp) | (go_at_call 31; (with_reducible refine HC1.out.mono ?_); rintro e w7 ⟨aoB, capB, rfl, ho7, hb7⟩; have E7 := hideP (own_still E1.out (fun g hg => hb7.block g hg)); have b7 : Hid (Below W.heap.size W w7) := hideP (D1.out.trans (hb7.mono D1.out.size)); have L7e := hideP ho7; clear hb7 ho7; go_simp) | (refine step_appn (by rfl) _ _ _ (by rfl) W.heap.size 35 i0 _ 2 16 Tryd.underlying23 HI.out.1 HI.out.2.1 HI.out.2.2.1 HI.out.2.2.2 rfl (by decide) (.slice (some ⟨gA, 0, none⟩) i cA) i (tlist [] ++ tlist (us.take i)) (by rfl) (by simp) OA.out (i + (us.length - (i + 1))) ad (us.length - (i + 1)) (capL - (i + 1)) rfl (tlist (us.drop (i + 1))) (by exact congrArg (fun z => Value.slice z (us.length - (i + 1)) (capL - (i + 1))) (HAD.out _)) HT2.out (PC2.out _ bA.out) (tlist_one _) (by unfold maxLen; omega) (by omega) bA.out.size ?_; intro gB cB wB hownB hgrowB _; have TB : Hid (TiesIn wB wB.heap.size aoB zs) := hideP (ties_grown TA.out hgrowB NA.out); have OB := hideP hownB; have bB : Hid (Below W.heap.size W wB) := hideP (bA.out.grown hgrowB bA.out.size (own_ge OA.out)); clear hownB hgrowB) | fail)
  all_goals (go_wp2 <;> (go_ret; exact ⟨rfl, HB8.out⟩))

end Go.Proofs.YtloicmngoaccoaaDoor
