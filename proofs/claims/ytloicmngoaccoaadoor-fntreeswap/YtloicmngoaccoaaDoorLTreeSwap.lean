/- Walk of laws.FnTreeSwap: it returns true. -/
import Derived.Test.YtloicmngoaccoaaDoorWDrawT
import Derived.Test.YtloicmngoaccoaaDoorWLo
import Derived.Test.YtloicmngoaccoaaDoorPartWAllU
import Derived.Test.YtloicmngoaccoaaDoorPartWCutV
import Derived.Test.YtloicmngoaccoaaDoorPartMathX
import Derived.Test.YtloicmngoaccoaaDoorWAlls
import Derived.Test.YtloicmngoaccoaaDoorWTreeOk
import Derived.Deep.RegionHeld3
namespace Go.Proofs.YtloicmngoaccoaaDoor
open Go.RowKit
set_option linter.unusedVariables false

theorem implTreeOk_v' (v : Bool) (K : Int) (ao bo : Option Addr) (cap cap2 : Nat) (ts us : List (Int × Int)) (w : World) (hn : ts.length ≤ 1099511627776) (ht : TiesIn w w.heap.size ao ts) (hn2 : us.length ≤ 1099511627776) (hu : TiesIn w w.heap.size bo us) (hT : Tab w) (h : treeOkB K ts us = v) :
    Calls Tryd.prog 11 #[.agg #[.int .i64 K, .slice ao ts.length cap], .slice bo us.length cap2] w fun e w' => e = .returned (.bool v) ∧ Below w.heap.size w w' := by
  rw [← h]; exact implTreeOk_any K ao bo cap cap2 ts us w hn ht hn2 hu hT
set_option maxRecDepth 100000 in
set_option maxHeartbeats 3200000 in
theorem treeSwap_walk (bo : Option Addr) (n cap : Nat) (co : Option Addr) (n2 cap2 : Nat) (w : World) (hb : BytesIn w bo n) (hnil : bo = none → n = 0 ∧ cap = 0) (hc : n ≤ cap) (hm : cap ≤ maxLen) (hbb : BytesIn w co n2) (hnil2 : co = none → n2 = 0 ∧ cap2 = 0) (hc2 : n2 ≤ cap2) (hm2 : cap2 ≤ maxLen) (hT : Tab w) :
    Calls Tryd.prog 4 #[.slice bo n cap, .slice co n2 cap2] w fun e w' => e = .returned (.bool true) ∧ Below w.heap.size w w' := by
  have hn2' : n2 ≤ 9223372036854775807 := by unfold maxLen at hm2; omega
  have hn1' : n ≤ 9223372036854775807 := by unfold maxLen at hm; omega
  clear hbb hnil2 hc2 hm2
  by_cases hl : 1048576 < n
  · have hl' : (1048576 : Int) < (n : Int) := by omega
    go_enter Tryd.func4, Tryd.ntmps4
    go_wp2
    go_ret
    exact ⟨rfl, Below.refl _ _⟩
  have hl' : decide ((1048576 : Int) < (n : Int)) = false := by simp; omega
  by_cases hl2 : 1048576 < n2
  · have hl2' : (1048576 : Int) < (n2 : Int) := by omega
    go_enter Tryd.func4, Tryd.ntmps4
    go_wp2
    go_ret
    exact ⟨rfl, Below.refl _ _⟩
  have hl2' : decide ((1048576 : Int) < (n2 : Int)) = false := by simp; omega
  go_enter Tryd.func4, Tryd.ntmps4
  go_wp2_with fail
  refine (drawTreeRings_any bo n cap _ hb hnil hc hm).mono ?_
  rintro e w1 ⟨K, ao, cap', ts, rfl, D1⟩
  have hn : ts.length ≤ 1099511627776 := by have := D1.short; omega
  have hn2 : ts.length ≤ 1000 := by have := D1.short; omega
  have HB1 := hideP D1.bel
  have T1 := hideP (hT.below D1.bel hT.2)
  have hoN := D1.own
  clear D1 hT
  have T1a := hideP (T1.out.below (below_one w1 (.cells #[.int .i64 K, .slice ao ts.length cap'] 25)) T1.out.2)
  have HB1a := hideP (HB1.out.trans ((below_one w1 (.cells #[.int .i64 K, .slice ao ts.length cap'] 25)).mono HB1.out.size))
  have N1a := hideP (NetV.new (K := K) (cap := cap') 25 (hoN.ties (Nat.le_refl _)))
  clear hoN HB1 T1
  obtain ⟨ps, hps⟩ : ∃ ps, ringsB K ts = ps := ⟨_, rfl⟩
  have HPS := hideP hps
  have hp64 : ps.length ≤ 64 := by rw [← hps, ringsB_len]; exact restTs_len K ts
  have hpsn : ps.length ≤ 20000000 := by omega
  have HLE : Hid (∀ i, i < ps.length → (ps.getD i []).length ≤ 8) := fun i hi => by
    have hm : ps.getD i [] ∈ ringsB K ts := by rw [hps]; simp [hi]
    exact (ringsB_mem hm).2
  have HRG : Hid (okB K ts = true → ∀ k, k < ps.length → ∃ (x y t : Nat) (q : List Nat), q = ps.getD k [] ∧ q.length = t + 1 ∧ Rng K ts x y q) := fun hok k hk => by
    rw [← hps, ringsB_len] at hk
    obtain ⟨x, y, _, R⟩ := rng_of hok hk
    have hl := R.len
    refine ⟨x, y, _, _, ?_, (Nat.sub_add_cancel (Nat.le_trans (by omega) hl)).symm, R⟩
    rw [← hps]
    simp [ringsB, tA, tB, hk]
  clear hps
  go_wp2_with fail
  refine (implRings_u ps K ao cap' ts _ hn N1a.out.ties T1a.out HPS.out).mono ?_
  rintro e w2 ⟨aoL, capL, rfl, ho2, hb2⟩
  have N2 := hideP (N1a.out.next hb2)
  have T2 := hideP (T1a.out.below hb2 T1a.out.2)
  have HB2 := hideP (HB1a.out.trans (hb2.mono HB1a.out.size))
  have L2 := hideP ho2
  clear hb2 ho2 N1a T1a HB1a
  have n0 := N2.out.c0
  have n1 := N2.out.c1
  go_wp2_with fail
  refine (specRings_v ps K ao cap' ts _ hn N2.out.ties HPS.out).mono ?_
  rintro e w3 ⟨aoS, capS, rfl, ho3, hb3⟩
  have N3 := hideP (N2.out.next hb3)
  have L3 := hideP (L2.out.next hb3)
  have S3 := hideP ho3
  have HB3 := hideP (HB2.out.trans (hb3.mono HB2.out.size))
  have T3 := hideP (T2.out.below hb3 T2.out.2)
  clear hb3 ho3 N2 L2 HB2 T2 n0 n1
  go_wp2_with fail
  refine (loRows_same aoL aoS capL capS ps _ hpsn HLE.out L3.out.seen S3.out).mono ?_
  rintro e w4 ⟨rfl, hb4⟩
  have N4 := hideP (N3.out.next hb4)
  have L4 := hideP (L3.out.next hb4)
  have HB4 := hideP (HB3.out.trans (hb4.mono HB3.out.size))
  have T4 := hideP (T3.out.below hb4 T3.out.2)
  clear hb4 N3 L3 S3 HB3 T3
  have n0 := N4.out.c0
  have n1 := N4.out.c1
  by_cases hz : ps.length = 0
  · have hnil0 : ps = [] := List.length_eq_zero_iff.1 hz
    subst hnil0
    clear hz
    go_wp2_with fail
    refine (specRings_v [] K ao cap' ts _ hn N4.out.ties HPS.out).mono ?_
    rintro e w6 ⟨aoS6, capS6, rfl, ho6, hb6⟩
    have L6 := hideP (L4.out.next hb6)
    have S6 := hideP ho6
    have HB6 := hideP (HB4.out.trans (hb6.mono HB4.out.size))
    clear hb6 ho6 N4 L4 HB4 n0 n1
    go_wp2_with fail
    refine (loRows_same aoL aoS6 capL capS6 [] _ (by simp) HLE.out L6.out.seen S6.out).mono ?_
    rintro e w7 ⟨rfl, hb7⟩
    have HB7 := hideP (HB6.out.trans (hb7.mono HB6.out.size))
    clear hb7
    go_wp2
    go_ret
    exact ⟨rfl, HB7.out⟩
  have hok : okB K ts = true := by
    cases h : okB K ts
    · exact absurd (by rw [← HPS.out, ringsB_no h]; rfl) hz
    · rfl
  have HOK := hideP hok
  obtain ⟨i, hi⟩ : ∃ i : Nat, i = n2 % ps.length := ⟨_, rfl⟩
  have hil : i < ps.length := by rw [hi]; exact Nat.mod_lt _ (by omega)
  have hmod : (n2 : Int) % (ps.length : Int) = (i : Int) := by rw [hi]; exact (Int.natCast_emod n2 ps.length).symm
  have hmt : Int.tmod (n2 : Int) (ps.length : Int) = (i : Int) := by rw [Int.tmod_eq_emod_of_nonneg (show (0 : Int) ≤ (n2 : Int) by omega)]; exact hmod
  have hzi : ((ps.length : Int) == 0) = false := by rw [beq_eq_false_iff_ne]; omega
  have hz0 : ¬ ((ps.length : Int) = 0) := by omega
  obtain ⟨x, y, t, q, hq, hqt, R⟩ := HRG.out hok i hil
  obtain ⟨G, off, g, c, rfl, hG, hcell, hrow, hroom⟩ := L4.out.at' i hil
  rw [← hq] at hcell hrow hroom
  have hq3 := R.len
  have hq8 := R.le
  have hi0 : (0 : Int) ≤ (i : Int) := by omega
  have hil' : (i : Int) < (ps.length : Int) := by omega
  rw [hqt] at hcell
  clear hok hmod hi
  have HRW := hideP hrow
  have HR := hideP R
  have HQT := hideP hqt
  have nl := N4.out.lt
  clear hrow R hq hroom
  have B0 : Hid (Below w4.heap.size w4 w4.drew) := (Below.refl _ _).drew
  have B1 : Hid (Below w4.heap.size w4 (w4.drew.alloc (.cells #[.int .i64 0, .slice none 0 0] 25))) := (Below.refl _ _).drew.alloc (Nat.le_refl _) _
  have HELD : Hid (∀ W, Below w4.heap.size w4 W → W.cell? ⟨w1.heap.size, 0, none⟩ = some (.int .i64 K) ∧ W.cell? ⟨w1.heap.size, 1, none⟩ = some (.slice ao ts.length cap')) := fun W hb => ⟨(N4.out.next hb).c0, (N4.out.next hb).c1⟩
  have HXE : Hid ((w4.drew.alloc (.cells #[.int .i64 0, .slice none 0 0] 25)).heap[w4.heap.size]? = some (Obj.cells #[.int .i64 0, .slice none 0 0] 25 (0, 0))) := World.alloc_heap_new w4.drew _
  have hszE : (w4.drew.alloc (.cells #[.int .i64 0, .slice none 0 0] 25)).heap.size = w4.heap.size + 1 := World.size_alloc _ _
  have N4d := hideP (N4.out.next B0.out).ties
  have T4d := hideP (T4.out.below B0.out T4.out.2)
  have N4e := hideP (N4.out.next B1.out).ties
  have T4e := hideP (T4.out.below B1.out T4.out.2)
  have hvl := treeTs_len K ts
  have hvn : (treeTs K ts).length ≤ 1099511627776 := by omega
  obtain ⟨vs, hvs⟩ : ∃ vs, vs = treeTs K ts := ⟨_, rfl⟩
  have HVS := hideP hvs
  rw [← hvs] at hvl hvn
  clear hvs
  go_wp2
  apply wp_weakC (J := fun XB ao cap W => CutSt w4 W XB K ao cap vs)
  case h =>
    go_region_held3 (fun w' => w'.cell? ⟨w1.heap.size, 0, none⟩ = some (.int .i64 K) ∧ w'.cell? ⟨w1.heap.size, 1, none⟩ = some (.slice ao ts.length cap')) (first | exact HELD.out _ bX.out | exact HELD.out _ (bX.out.alloc bX.out.size _) | exact HELD.out _ ((bX.out.setCell (p := ⟨w4.heap.size, 0, none⟩) (Nat.le_refl _) _).setCell (p := ⟨w4.heap.size, 1, none⟩) (Nat.le_refl _) _) | exact HELD.out _ B1.out | exact HELD.out _ B0.out) (first | (go_at_call 21; refine (implTree_any K ao cap' ts _ hn N4d.out T4d.out).mono ?_; rw [← HVS.out]; rintro e w6 ⟨aoX, capX, rfl, ho6, hb6⟩; have bX : Hid (Below w4.heap.size w4 w6) := hideP (B0.out.trans hb6); have O6 : Hid (OwnN w6 w4.heap.size w6.heap.size aoX vs.length (tcell vs)) := hideP ho6; clear hb6 ho6) | (go_at_call 21; refine (implTree_any K ao cap' ts _ hn N4e.out T4e.out).mono ?_; rw [← HVS.out]; rintro e w6 ⟨aoX, capX, rfl, ho6, hb6⟩; rw [hszE] at ho6 hb6; have bX : Hid (Below w4.heap.size w4 w6) := hideP (B1.out.trans (hb6.mono (Nat.le_succ _))); have O6e : Hid (OwnN w6 (w4.heap.size + 1) w6.heap.size aoX vs.length (tcell vs)) := hideP ho6; have HX6 : Hid (w6.heap[w4.heap.size]? = some (Obj.cells #[.int .i64 0, .slice none 0 0] 25 (0, 0))) := hideP ((hb6.block w4.heap.size (Nat.lt_succ_self _)).trans HXE.out); obtain ⟨xc0, xc1, xf⟩ := two_cells HX6.out; clear hb6 ho6))
    all_goals
      first
      | (have JJ := CutSt.put (K := K) (cap := capX) HX6.out O6e.out bX.out
         generalize w4.heap.size = XB at JJ ⊢
         exact ⟨XB, aoX, capX, rfl, JJ⟩)
      | (have JJ : CutSt w4 (w6.alloc (.cells #[.int .i64 K, .slice aoX vs.length capX] 25)) w6.heap.size K aoX capX vs := ⟨NetV.new _ (O6.out.ties (Nat.le_refl _)), bX.out.alloc bX.out.size _⟩
         generalize w6.heap.size = XB at JJ ⊢
         exact ⟨XB, aoX, capX, rfl, JJ⟩)
  intro XT aoT capT W5 hJ
  obtain ⟨hX5, hb5⟩ := hJ
  have X5 := hideP hX5
  have N5 := hideP (N4.out.next hb5)
  have T5 := hideP (T4.out.below hb5 T4.out.2)
  have RW5 := hideP ((HRW.out.next hb5).wide hb5.size)
  have HB5 := hideP (HB4.out.trans (hb5.mono HB4.out.size))
  clear hX5 hb5 HELD B0 B1 HXE hszE N4d N4e T4d T4e N4 T4 L4 HB4 HRW nl n0 n1 hcell hG
  have ht0 : 0 < t := by have := HR.out.len; rw [HQT.out] at this; omega
  obtain ⟨d, hd⟩ : ∃ d : Nat, d = n2 / ps.length := ⟨_, rfl⟩
  obtain ⟨kk, hkk⟩ : ∃ kk : Nat, kk = d % t := ⟨_, rfl⟩
  have hkt : kk < t := by rw [hkk]; exact Nat.mod_lt _ ht0
  have hdn : d ≤ n2 := by rw [hd]; exact Nat.div_le_self _ _
  have hdv : Int.tdiv (n2 : Int) (ps.length : Int) = (d : Int) := by rw [hd]; exact Int.ofNat_tdiv n2 ps.length
  have hmk : Int.tmod (d : Int) (t : Int) = (kk : Int) := by rw [hkk]; exact Int.ofNat_tmod d t
  have hzt : ((t : Int) == 0) = false := by rw [beq_eq_false_iff_ne]; omega
  have hzt0 : ¬ ((t : Int) = 0) := by omega
  have ht8 : t ≤ 7 := by have := HR.out.le; rw [HQT.out] at this; omega
  have hw1 : IntKind.i64.wrap (t : Int) = (t : Int) := by rw [IntKind.wrap_i64]; omega
  have hw2 : IntKind.i64.wrap ((t : Int) + 1 - 1) = (t : Int) := by rw [Int.add_sub_cancel]; exact hw1
  have hw3 : IntKind.i64.wrap ((kk : Int) + 1) = (kk : Int) + 1 := by rw [IntKind.wrap_i64]; omega
  have hwd : IntKind.i64.wrap (d : Int) = (d : Int) := by rw [IntKind.wrap_i64]; omega
  have hkk0 : (0 : Int) ≤ (kk : Int) := by omega
  have hkk1 : (kk : Int) < (t : Int) + 1 := by omega
  have hkk2 : (kk : Int) + 1 < (t : Int) + 1 := by omega
  have hkk3 : (0 : Int) ≤ (kk : Int) + 1 := by omega
  obtain ⟨a, ha⟩ : ∃ a, a = q.getD kk 0 := ⟨_, rfl⟩
  obtain ⟨b, hb'⟩ : ∃ b, b = q.getD (kk + 1) 0 := ⟨_, rfl⟩
  obtain ⟨s1, s2, s3⟩ := HR.out.swap HOK.out (k := kk) (by rw [HQT.out]; omega)
  rw [← ha, ← hb', ← HVS.out] at s1 s2 s3
  have HCUT : Hid (cutB K vs (a : Int) (b : Int) = true ∧ cutK K vs (a : Int) (b : Int) = K) := ⟨s1, cutK_yes s1⟩
  have hcl := cutTs_len K vs (a : Int) (b : Int)
  obtain ⟨xs, hxs⟩ : ∃ xs, xs = cutTs K vs (a : Int) (b : Int) := ⟨_, rfl⟩
  have HXS := hideP hxs
  rw [← hxs] at hcl s2 s3
  have HADD : Hid (addB K xs (y : Int) (x : Int) = true ∧ addK K xs (y : Int) (x : Int) = K) := ⟨s2, addK_yes s2⟩
  have hal := addTs_len K xs (y : Int) (x : Int)
  obtain ⟨ys, hys⟩ : ∃ ys, ys = addTs K xs (y : Int) (x : Int) := ⟨_, rfl⟩
  have HYS := hideP hys
  rw [← hys] at hal s3
  have HTOK := hideP s3
  have hxn : xs.length ≤ 1099511627776 := by omega
  have hyn : ys.length ≤ 1099511627776 := by omega
  clear s1 s2 s3 hxs hys
  obtain ⟨gk, ok, ek, lk, ck⟩ := RW5.out kk (by rw [HQT.out]; omega)
  obtain ⟨gl, ol, el, ll, cl⟩ := RW5.out (kk + 1) (by rw [HQT.out]; omega)
  cases ek
  cases el
  rw [Nat.zero_add] at ck cl
  have hca : W5.cell? ⟨g, kk, none⟩ = some (.int .i64 (a : Int)) := by rw [ck, ha]; rfl
  have hcb : W5.cell? ⟨g, kk + 1, none⟩ = some (.int .i64 (b : Int)) := by rw [cl, hb']; rfl
  clear hd hkk ck cl ha hb'
  have B0 : Hid (Below W5.heap.size W5 W5.drew) := (Below.refl _ _).drew
  have B1 : Hid (Below W5.heap.size W5 (W5.drew.alloc (.cells #[.int .i64 0, .slice none 0 0] 25))) := (Below.refl _ _).drew.alloc (Nat.le_refl _) _
  have HELD : Hid (∀ W, Below W5.heap.size W5 W → W.cell? ⟨XT, 0, none⟩ = some (.int .i64 K) ∧ W.cell? ⟨XT, 1, none⟩ = some (.slice aoT vs.length capT) ∧ W.cell? ⟨g, kk, none⟩ = some (.int .i64 (a : Int)) ∧ W.cell? ⟨g, kk + 1, none⟩ = some (.int .i64 (b : Int))) := fun W hb => ⟨(X5.out.next hb).c0, (X5.out.next hb).c1, (hb.cell (p := ⟨g, kk, none⟩) lk).trans hca, (hb.cell (p := ⟨g, kk + 1, none⟩) lk).trans hcb⟩
  have HXE : Hid ((W5.drew.alloc (.cells #[.int .i64 0, .slice none 0 0] 25)).heap[W5.heap.size]? = some (Obj.cells #[.int .i64 0, .slice none 0 0] 25 (0, 0))) := World.alloc_heap_new W5.drew _
  have hszE : (W5.drew.alloc (.cells #[.int .i64 0, .slice none 0 0] 25)).heap.size = W5.heap.size + 1 := World.size_alloc _ _
  have N5d := hideP (X5.out.next B0.out).ties
  have T5d := hideP (T5.out.below B0.out T5.out.2)
  have N5e := hideP (X5.out.next B1.out).ties
  have T5e := hideP (T5.out.below B1.out T5.out.2)
  have LK := hideP lk
  clear hca hcb lk ll
  go_wp2
  apply wp_weakC (J := fun XB ao cap W => CutSt W5 W XB K ao cap xs)
  case h =>
    go_region_held3 (fun w' => w'.cell? ⟨XT, 0, none⟩ = some (.int .i64 K) ∧ w'.cell? ⟨XT, 1, none⟩ = some (.slice aoT vs.length capT) ∧ w'.cell? ⟨g, kk, none⟩ = some (.int .i64 (a : Int)) ∧ w'.cell? ⟨g, kk + 1, none⟩ = some (.int .i64 (b : Int))) (first | exact HELD.out _ bX.out | exact HELD.out _ (bX.out.alloc bX.out.size _) | exact HELD.out _ ((bX.out.setCell (p := ⟨W5.heap.size, 0, none⟩) (Nat.le_refl _) _).setCell (p := ⟨W5.heap.size, 1, none⟩) (Nat.le_refl _) _) | exact HELD.out _ B1.out | exact HELD.out _ B0.out) (first | (go_at_call 22; refine (netCut_all K aoT capT vs (a : Int) (b : Int) _ hvn N5d.out T5d.out).mono ?_; rw [HCUT.out.1, HCUT.out.2, ← HXS.out]; rintro e w6 ⟨aoX, capX, rfl, ho6, hb6⟩; have bX : Hid (Below W5.heap.size W5 w6) := hideP (B0.out.trans hb6); have O6 : Hid (OwnN w6 W5.heap.size w6.heap.size aoX xs.length (tcell xs)) := hideP ho6; clear hb6 ho6) | (go_at_call 22; refine (netCut_all K aoT capT vs (a : Int) (b : Int) _ hvn N5e.out T5e.out).mono ?_; rw [HCUT.out.1, HCUT.out.2, ← HXS.out]; rintro e w6 ⟨aoX, capX, rfl, ho6, hb6⟩; rw [hszE] at ho6 hb6; have bX : Hid (Below W5.heap.size W5 w6) := hideP (B1.out.trans (hb6.mono (Nat.le_succ _))); have O6e : Hid (OwnN w6 (W5.heap.size + 1) w6.heap.size aoX xs.length (tcell xs)) := hideP ho6; have HX6 : Hid (w6.heap[W5.heap.size]? = some (Obj.cells #[.int .i64 0, .slice none 0 0] 25 (0, 0))) := hideP ((hb6.block W5.heap.size (Nat.lt_succ_self _)).trans HXE.out); obtain ⟨xc0, xc1, xf⟩ := two_cells HX6.out; clear hb6 ho6))
    all_goals
      first
      | (have JJ := CutSt.put (K := K) (cap := capX) HX6.out O6e.out bX.out
         generalize W5.heap.size = XB at JJ ⊢
         exact ⟨XB, aoX, capX, rfl, JJ⟩)
      | (have JJ : CutSt W5 (w6.alloc (.cells #[.int .i64 K, .slice aoX xs.length capX] 25)) w6.heap.size K aoX capX xs := ⟨NetV.new _ (O6.out.ties (Nat.le_refl _)), bX.out.alloc bX.out.size _⟩
         generalize w6.heap.size = XB at JJ ⊢
         exact ⟨XB, aoX, capX, rfl, JJ⟩)
  intro XC aoC capC W6 hJ
  obtain ⟨hX6, hb6⟩ := hJ
  have X6 := hideP hX6
  have N6 := hideP (N5.out.next hb6)
  have T6 := hideP (T5.out.below hb6 T5.out.2)
  have RW6 := hideP ((RW5.out.next hb6).wide hb6.size)
  have HB6 := hideP (HB5.out.trans (hb6.mono HB5.out.size))
  clear hX6 hb6 HELD B0 B1 HXE hszE N5d N5e T5d T5e N5 T5 X5 HB5 RW5 LK
  obtain ⟨gk, ok, ek, lk, ck⟩ := RW6.out 0 (by rw [HQT.out]; omega)
  obtain ⟨gl, ol, el, ll, cl⟩ := RW6.out t (by rw [HQT.out]; omega)
  cases ek
  cases el
  rw [Nat.zero_add] at ck cl
  have hca : W6.cell? ⟨g, 0, none⟩ = some (.int .i64 (y : Int)) := by rw [ck]; show some (Value.int .i64 ((q.getD 0 0 : Nat) : Int)) = _; rw [HR.out.fst]
  have hcb : W6.cell? ⟨g, t, none⟩ = some (.int .i64 (x : Int)) := by
    rw [cl]; show some (Value.int .i64 ((q.getD t 0 : Nat) : Int)) = _
    have := HR.out.lst
    rw [HQT.out, Nat.add_sub_cancel] at this
    rw [this]
  clear ck cl
  have B0 : Hid (Below W6.heap.size W6 W6.drew) := (Below.refl _ _).drew
  have B1 : Hid (Below W6.heap.size W6 (W6.drew.alloc (.cells #[.int .i64 0, .slice none 0 0] 25))) := (Below.refl _ _).drew.alloc (Nat.le_refl _) _
  have HELD : Hid (∀ W, Below W6.heap.size W6 W → W.cell? ⟨XC, 0, none⟩ = some (.int .i64 K) ∧ W.cell? ⟨XC, 1, none⟩ = some (.slice aoC xs.length capC) ∧ W.cell? ⟨g, 0, none⟩ = some (.int .i64 (y : Int)) ∧ W.cell? ⟨g, t, none⟩ = some (.int .i64 (x : Int))) := fun W hb => ⟨(X6.out.next hb).c0, (X6.out.next hb).c1, (hb.cell (p := ⟨g, 0, none⟩) lk).trans hca, (hb.cell (p := ⟨g, t, none⟩) lk).trans hcb⟩
  have HXE : Hid ((W6.drew.alloc (.cells #[.int .i64 0, .slice none 0 0] 25)).heap[W6.heap.size]? = some (Obj.cells #[.int .i64 0, .slice none 0 0] 25 (0, 0))) := World.alloc_heap_new W6.drew _
  have hszE : (W6.drew.alloc (.cells #[.int .i64 0, .slice none 0 0] 25)).heap.size = W6.heap.size + 1 := World.size_alloc _ _
  have N6d := hideP (X6.out.next B0.out).ties
  have T6d := hideP (T6.out.below B0.out T6.out.2)
  have N6e := hideP (X6.out.next B1.out).ties
  have T6e := hideP (T6.out.below B1.out T6.out.2)
  have t0 : (0 : Int) ≤ (t : Int) := by omega
  have t1 : (t : Int) < (t : Int) + 1 := by omega
  have t2 : (0 : Int) < (t : Int) + 1 := by omega
  clear hca hcb lk ll
  go_wp2
  apply wp_weakC (J := fun XB ao cap W => CutSt W6 W XB K ao cap ys)
  case h =>
    go_region_held3 (fun w' => w'.cell? ⟨XC, 0, none⟩ = some (.int .i64 K) ∧ w'.cell? ⟨XC, 1, none⟩ = some (.slice aoC xs.length capC) ∧ w'.cell? ⟨g, 0, none⟩ = some (.int .i64 (y : Int)) ∧ w'.cell? ⟨g, t, none⟩ = some (.int .i64 (x : Int))) (first | exact HELD.out _ bX.out | exact HELD.out _ (bX.out.alloc bX.out.size _) | exact HELD.out _ ((bX.out.setCell (p := ⟨W6.heap.size, 0, none⟩) (Nat.le_refl _) _).setCell (p := ⟨W6.heap.size, 1, none⟩) (Nat.le_refl _) _) | exact HELD.out _ B1.out | exact HELD.out _ B0.out) (first | (go_at_call 23; refine (netAdd_all K aoC capC xs (y : Int) (x : Int) _ hxn N6d.out T6d.out).mono ?_; rw [HADD.out.1, HADD.out.2, ← HYS.out]; rintro e w7 ⟨aoX, capX, rfl, ho7, hb7⟩; have bX : Hid (Below W6.heap.size W6 w7) := hideP (B0.out.trans hb7); have O7 : Hid (OwnN w7 W6.heap.size w7.heap.size aoX ys.length (tcell ys)) := hideP ho7; clear hb7 ho7) | (go_at_call 23; refine (netAdd_all K aoC capC xs (y : Int) (x : Int) _ hxn N6e.out T6e.out).mono ?_; rw [HADD.out.1, HADD.out.2, ← HYS.out]; rintro e w7 ⟨aoX, capX, rfl, ho7, hb7⟩; rw [hszE] at ho7 hb7; have bX : Hid (Below W6.heap.size W6 w7) := hideP (B1.out.trans (hb7.mono (Nat.le_succ _))); have O7e : Hid (OwnN w7 (W6.heap.size + 1) w7.heap.size aoX ys.length (tcell ys)) := hideP ho7; have HX7 : Hid (w7.heap[W6.heap.size]? = some (Obj.cells #[.int .i64 0, .slice none 0 0] 25 (0, 0))) := hideP ((hb7.block W6.heap.size (Nat.lt_succ_self _)).trans HXE.out); obtain ⟨xc0, xc1, xf⟩ := two_cells HX7.out; clear hb7 ho7))
    all_goals
      first
      | (have JJ := CutSt.put (K := K) (cap := capX) HX7.out O7e.out bX.out
         generalize W6.heap.size = XB at JJ ⊢
         exact ⟨XB, aoX, capX, rfl, JJ⟩)
      | (have JJ : CutSt W6 (w7.alloc (.cells #[.int .i64 K, .slice aoX ys.length capX] 25)) w7.heap.size K aoX capX ys := ⟨NetV.new _ (O7.out.ties (Nat.le_refl _)), bX.out.alloc bX.out.size _⟩
         generalize w7.heap.size = XB at JJ ⊢
         exact ⟨XB, aoX, capX, rfl, JJ⟩)
  intro XD aoD capD W7 hJ
  obtain ⟨hX7, hb7⟩ := hJ
  have X7 := hideP hX7
  have N7 := hideP (N6.out.next hb7)
  have T7 := hideP (T6.out.below hb7 T6.out.2)
  have HB7 := hideP (HB6.out.trans (hb7.mono HB6.out.size))
  clear hX7 hb7 HELD B0 B1 HXE hszE N6d N6e T6d T6e N6 T6 X6 HB6 RW6
  have c0 := N7.out.c0
  have c1 := N7.out.c1
  have d0 := X7.out.c0
  have d1 := X7.out.c1
  go_wp2_with fail
  refine (implTreeOk_v' true K ao aoD cap' capD ts ys _ hn N7.out.ties hyn X7.out.ties T7.out HTOK.out).mono ?_
  rintro e w8 ⟨rfl, hb8⟩
  have HB8 := hideP (HB7.out.trans (hb8.mono HB7.out.size))
  clear hb8
  go_wp2
  go_ret
  exact ⟨rfl, HB8.out⟩

end Go.Proofs.YtloicmngoaccoaaDoor
