/- Walk of laws.FnSideLess: it returns true. -/
import Derived.Test.YtiaeffpjcinilaaDoorLSideOf
import Derived.Test.YtiaeffpjcinilaaDoorPartWSpecCut
namespace Go.Proofs.YtiaeffpjcinilaaDoor
open Go.RowKit
set_option linter.unusedVariables false

theorem implSideOf_v (V : Bool) (K : Int) (ao : Option Addr) (cap : Nat) (ts : List (Int × Int)) (w : World) (hn : ts.length ≤ 1099511627776) (ht : TiesIn w w.heap.size ao ts) (hT : Tab w) (hV : sideV K ts = V) :
    Calls Tryd.prog 16 #[.agg #[.int .i64 K, .slice ao ts.length cap]] w fun e w' => ∃ ao' n cap', e = .returned (.tuple #[.slice ao' n cap', .bool V]) ∧ Below w.heap.size w w' := by
  rw [← hV]
  refine (implSideOf_any K ao cap ts w hn ht hT).mono ?_
  rintro e w' ⟨ao', cap', rfl, _, hb⟩
  exact ⟨ao', _, cap', rfl, hb⟩
theorem cut_sub {K : Int} {ts : List (Int × Int)} {a b : Int} (h : cutB K ts a b = true) : okB K (cutTs K ts a b) = true ∧ ∀ t, t ∈ cutTs K ts a b → t ∈ ts := by
  refine ⟨(cutOut h).ok, fun t ht => ?_⟩
  rw [cutTs_yes h] at ht
  exact (List.mem_filter.1 ht).1
set_option maxHeartbeats 6400000 in
theorem sideLess_walk (bo : Option Addr) (n cap : Nat) (co : Option Addr) (n2 cap2 : Nat) (w : World) (hb : BytesIn w bo n) (hnil : bo = none → n = 0 ∧ cap = 0) (hc : n ≤ cap) (hm : cap ≤ maxLen) (hbb : BytesIn w co n2) (hnil2 : co = none → n2 = 0 ∧ cap2 = 0) (hc2 : n2 ≤ cap2) (hm2 : cap2 ≤ maxLen) (hT : Tab w) :
    Calls Tryd.prog 8 #[.slice bo n cap, .slice co n2 cap2] w fun e w' => e = .returned (.bool true) ∧ Below w.heap.size w w' := by
  have hn2' : n2 ≤ 9223372036854775807 := by unfold maxLen at hm2; omega
  have hn1' : n ≤ 9223372036854775807 := by unfold maxLen at hm; omega
  clear hbb hnil2 hc2 hm2
  by_cases hl : 1048576 < n
  · have hl' : (1048576 : Int) < (n : Int) := by omega
    go_enter Tryd.func8, Tryd.ntmps8
    go_wp2
    go_ret
    exact ⟨rfl, Below.refl _ _⟩
  have hl' : decide ((1048576 : Int) < (n : Int)) = false := by simp; omega
  by_cases hl2 : 1048576 < n2
  · have hl2' : (1048576 : Int) < (n2 : Int) := by omega
    go_enter Tryd.func8, Tryd.ntmps8
    go_wp2
    go_ret
    exact ⟨rfl, Below.refl _ _⟩
  have hl2' : decide ((1048576 : Int) < (n2 : Int)) = false := by simp; omega
  go_enter Tryd.func8, Tryd.ntmps8
  go_wp2_with fail
  refine (drawSideOf_any bo n cap _ hb hnil hc hm).mono ?_
  rintro e w1 ⟨K, ao, cap', ts, rfl, D1⟩
  have hn : ts.length ≤ 1099511627776 := by have := D1.short; omega
  have HB1 := hideP D1.bel
  have T1 := hideP (hT.below D1.bel hT.2)
  have hoN := D1.own
  clear D1 hT
  have T1a := hideP (T1.out.below (below_one w1 (.cells #[.int .i64 K, .slice ao ts.length cap'] 25)) T1.out.2)
  have HB1a := hideP (HB1.out.trans ((below_one w1 (.cells #[.int .i64 K, .slice ao ts.length cap'] 25)).mono HB1.out.size))
  have N1a := hideP (NetV.new (K := K) (cap := cap') 25 (hoN.ties (Nat.le_refl _)))
  clear hoN
  obtain ⟨V, hV⟩ : ∃ V, V = sideV K ts := ⟨_, rfl⟩
  obtain ⟨L, hL⟩ : ∃ L, L = sideL K ts := ⟨_, rfl⟩
  have hL8 : L.length ≤ 8 := by rw [hL]; exact sideL_le8 K ts
  obtain ⟨m, hm0⟩ : ∃ m, m = L.length := ⟨_, rfl⟩
  have HM := hideP hm0
  have HV := hideP hV
  have HL := hideP hL
  rw [← hm0] at hL8
  clear hV hL hm0
  have n0 := N1a.out.c0
  have n1 := N1a.out.c1
  go_wp2_with fail
  refine (implSideOf_any K ao cap' ts _ hn N1a.out.ties T1a.out).mono ?_
  rw [← HV.out, ← HL.out]
  rintro e w2 ⟨aoI, cI, rfl, hOI, hb2⟩
  rw [← HM.out] at hOI ⊢
  have N2 := hideP (N1a.out.next hb2)
  have T2 := hideP (T1a.out.below hb2 T1a.out.2)
  have HB2 := hideP (HB1a.out.trans (hb2.mono HB1a.out.size))
  have O2 := hideP hOI
  clear hb2 hOI n0 n1 N1a T1a HB1a
  have n0 := N2.out.c0
  have n1 := N2.out.c1
  go_wp2_with fail
  refine (specSideOf_any K ao cap' ts _ hn N2.out.ties).mono ?_
  rw [← HV.out, ← HL.out]
  rintro e w3 ⟨gS, oS, cS, rfl, hRS, hb3⟩
  have S3 := hideP (row_seen' hRS)
  rw [← HM.out] at S3 ⊢
  have N3 := hideP (N2.out.next hb3)
  have T3 := hideP (T2.out.below hb3 T2.out.2)
  have HB3 := hideP (HB2.out.trans (hb3.mono HB2.out.size))
  have O3 := hideP (O2.out.next hb3)
  clear hb3 hRS n0 n1 N2 T2 HB2 O2
  have n0 := N3.out.c0
  have n1 := N3.out.c1
  have hVV : (V != V) = false := by simp
  have hVE : (V == V) = true := by simp
  go_wp2_with fail
  refine (loInts_same _ _ _ _ m (pn L) _ (by omega) O3.out.inside S3.out.row).mono ?_
  rintro e w4 ⟨rfl, hb4⟩
  have N4 := hideP (N3.out.next hb4)
  have T4 := hideP (T3.out.below hb4 T3.out.2)
  have HB4 := hideP (HB3.out.trans (hb4.mono HB3.out.size))
  have S4 := hideP (S3.out.next hb4)
  have O4 := hideP (O3.out.next hb4)
  clear hb4 n0 n1 N3 T3 HB3 S3 O3 hVV
  have n0 := N4.out.c0
  have n1 := N4.out.c1
  cases V with
  | false =>
    clear n0 n1
    go_wp2_with fail
    refine (loInts_same _ _ _ _ m (pn L) _ (by omega) O4.out.inside S4.out.row).mono ?_
    rintro e w5 ⟨rfl, hb5⟩
    have HB5 := hideP (HB4.out.trans (hb5.mono HB4.out.size))
    clear hb5 N4 T4 HB4 S4 O4 HM
    go_wp2
    go_ret
    exact ⟨rfl, HB5.out⟩
  | true =>
    by_cases hz : ts.length = 0
    · have hnil0 : ts = [] := List.length_eq_zero_iff.1 hz
      subst hnil0
      clear hz
      go_wp2_with fail
      refine (loInts_same _ _ _ _ m (pn L) _ (by omega) O4.out.inside S4.out.row).mono ?_
      rintro e w5 ⟨rfl, hb5⟩
      have HB5 := hideP (HB4.out.trans (hb5.mono HB4.out.size))
      clear hb5 N4 T4 HB4 S4 O4 HM n0 n1
      go_wp2
      go_ret
      exact ⟨rfl, HB5.out⟩
    obtain ⟨hok, hsb⟩ := side_sides HV.out.symm
    have HLS := hideP (HL.out.trans (sideL_yes HV.out.symm))
    obtain ⟨i, hi⟩ : ∃ i : Nat, i = n2 % ts.length := ⟨_, rfl⟩
    have hil : i < ts.length := by rw [hi]; exact Nat.mod_lt _ (by omega)
    have hmod : (n2 : Int) % (ts.length : Int) = (i : Int) := by rw [hi]; exact (Int.natCast_emod n2 ts.length).symm
    have hmt : Int.tmod (n2 : Int) (ts.length : Int) = (i : Int) := by rw [Int.tmod_eq_emod_of_nonneg (show (0 : Int) ≤ (n2 : Int) by omega)]; exact hmod
    have hzi : ((ts.length : Int) == 0) = false := by rw [beq_eq_false_iff_ne]; omega
    have hz0 : ¬ ((ts.length : Int) = 0) := by omega
    have hh : hasB K ts (tA ts i) (tB ts i) = true := by
      obtain ⟨x, y, hxy, hy8, hte, hto, hhas⟩ := tie_form hok (mem_at hil)
      simp only [Prod.mk.injEq] at hte
      rw [hte.1, hte.2]; exact hhas
    have hcut : cutB K ts (tA ts i) (tB ts i) = true := hh
    obtain ⟨hok2, hsub⟩ := cut_sub hcut
    have HCUT : Hid (cutB K ts (tA ts i) (tB ts i) = true ∧ cutK K ts (tA ts i) (tB ts i) = K) := ⟨hcut, cutK_yes hcut⟩
    have HSB : Hid (sideB K (cutTs K ts (tA ts i) (tB ts i)) (L.map fun (x : Nat) => (x : Int)) = true) := hideP (side_less (by rw [HLS.out]; exact hsb) hok2 hsub)
    have HSV := hideP (side_v HSB.out)
    have hcl := cutTs_len K ts (tA ts i) (tB ts i)
    obtain ⟨gL, offL, rfl, hgL, l0, l1⟩ := N4.out.ties i hil
    obtain ⟨a, ha⟩ : ∃ x, x = tA ts i := ⟨_, rfl⟩
    obtain ⟨b, hb'⟩ : ∃ x, x = tB ts i := ⟨_, rfl⟩
    rw [← ha, ← hb'] at HCUT hcl HSB HSV
    rw [← ha] at l0
    rw [← hb'] at l1
    obtain ⟨vs, hvs⟩ : ∃ vs, vs = cutTs K ts a b := ⟨_, rfl⟩
    have HVS := hideP hvs
    rw [← hvs] at hcl HSB HSV
    have hvn : vs.length ≤ 1099511627776 := by omega
    have hi0 : (0 : Int) ≤ (i : Int) := by omega
    have hil' : (i : Int) < (ts.length : Int) := by omega
    clear hok hsb hh hcut ha hb' hvs hok2 hsub hmod hi
    have nl := N4.out.lt
    go_wp2_with fail
    have HELD : Hid (∀ W, Below w4.heap.size w4 W → W.cell? ⟨w1.heap.size, 0, none⟩ = some (.int .i64 K) ∧ W.cell? ⟨w1.heap.size, 1, none⟩ = some (.slice (some ⟨gL, offL, none⟩) ts.length cap') ∧ W.cell? ⟨gL, offL + i * 2, none⟩ = some (.int .i64 a) ∧ W.cell? ⟨gL, offL + i * 2 + 1, none⟩ = some (.int .i64 b)) := fun W hb => ⟨(hb.cell (p := ⟨w1.heap.size, 0, none⟩) nl).trans n0, (hb.cell (p := ⟨w1.heap.size, 1, none⟩) nl).trans n1, (hb.cell (p := ⟨gL, offL + i * 2, none⟩) hgL).trans l0, (hb.cell (p := ⟨gL, offL + i * 2 + 1, none⟩) hgL).trans l1⟩
    have B0 : Hid (Below w4.heap.size w4 w4.drew) := (Below.refl _ _).drew
    have B1 : Hid (Below w4.heap.size w4 (w4.drew.alloc (.cells #[.int .i64 0, .int .i64 0] 39))) := (Below.refl _ _).drew.alloc (Nat.le_refl _) _
    go_region_held3 (fun w' => w'.cell? ⟨w1.heap.size, 0, none⟩ = some (.int .i64 K) ∧ w'.cell? ⟨w1.heap.size, 1, none⟩ = some (.slice (some ⟨gL, offL, none⟩) ts.length cap') ∧ w'.cell? ⟨gL, offL + i * 2, none⟩ = some (.int .i64 a) ∧ w'.cell? ⟨gL, offL + i * 2 + 1, none⟩ = some (.int .i64 b)) (first | exact HELD.out _ B0.out | exact HELD.out _ B1.out | exact HELD.out _ ((below_one w4 (.cells #[.int .i64 a, .int .i64 b] 39)).drew)) (fail)
    obtain ⟨w5, hw5⟩ : ∃ w5, w5 = (w4.alloc (.cells #[.int .i64 a, .int .i64 b] 39)).drew := ⟨_, rfl⟩
    have hb45 : Below w4.heap.size w4 w5 := by rw [hw5]; exact (below_one w4 _).drew
    have t0 : w5.cell? ⟨w4.heap.size, 0, none⟩ = some (.int .i64 a) := by rw [hw5]; exact World.cell?_alloc_at _ _ _ _ rfl
    have t1 : w5.cell? ⟨w4.heap.size, 1, none⟩ = some (.int .i64 b) := by rw [hw5]; exact World.cell?_alloc_at _ _ _ _ rfl
    rw [← hw5]
    have N5 := hideP (N4.out.next hb45)
    have T5 := hideP (T4.out.below hb45 T4.out.2)
    have HB5 := hideP (HB4.out.trans (hb45.mono HB4.out.size))
    have O5 := hideP (O4.out.next hb45)
    clear hw5 hb45 HELD B0 B1 n0 n1 l0 l1 N4 T4 HB4 O4 S4 nl hmt hzi hz0
    have n0 := N5.out.c0
    have n1 := N5.out.c1
    go_wp2_with fail
    refine (netCut_all K _ cap' ts a b _ hn N5.out.ties T5.out).mono ?_
    rw [HCUT.out.1, HCUT.out.2, ← HVS.out]
    rintro e w6 ⟨aoX, capX, rfl, ho6, hb6⟩
    have T6 := hideP (T5.out.below hb6 T5.out.2)
    have HB6 := hideP (HB5.out.trans (hb6.mono HB5.out.size))
    have O6 := hideP (O5.out.next hb6)
    have bo6 := below_one w6 (.cells #[.int .i64 K, .slice aoX vs.length capX] 25)
    have X7 := hideP (NetV.new (K := K) (cap := capX) 25 (ho6.ties (Nat.le_refl _)))
    have T7 := hideP (T6.out.below bo6 T6.out.2)
    have HB7 := hideP (HB6.out.trans (bo6.mono HB6.out.size))
    have O7 := hideP (O6.out.next bo6)
    clear hb6 ho6 bo6 T6 HB6 O6 N5 T5 HB5 O5 n0 n1 t0 t1
    have x0 := X7.out.c0
    have x1 := X7.out.c1
    go_wp2_with fail
    refine (implSideOf_v true K aoX capX vs _ hvn X7.out.ties T7.out HSV.out).mono ?_
    rintro e w8 ⟨aoR, nR, cR, rfl, hb8⟩
    have X8 := hideP (X7.out.next hb8)
    have T8 := hideP (T7.out.below hb8 T7.out.2)
    have HB8 := hideP (HB7.out.trans (hb8.mono HB7.out.size))
    have O8 := hideP (O7.out.next hb8)
    clear hb8 X7 T7 HB7 O7 x0 x1
    have x0 := X8.out.c0
    have x1 := X8.out.c1
    go_wp2_with fail
    refine (implSideOk_is true K aoX _ capX m cI vs (L.map fun (x : Nat) => (x : Int)) _ (by rw [List.length_map]; exact HM.out.symm) hvn X8.out.ties (by omega) (rowV_ints O8.out.inside HM.out.symm) T8.out HSB.out).mono ?_
    rintro e w9 ⟨rfl, hb9⟩
    have HB9 := hideP (HB8.out.trans (hb9.mono HB8.out.size))
    clear hb9
    go_wp2
    go_ret
    exact ⟨rfl, HB9.out⟩

end Go.Proofs.YtiaeffpjcinilaaDoor
