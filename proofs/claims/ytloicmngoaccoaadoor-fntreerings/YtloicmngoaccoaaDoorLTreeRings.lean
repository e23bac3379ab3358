/- Walk of laws.FnTreeRings: it returns true. -/
import Derived.Test.YtloicmngoaccoaaDoorWDrawT
import Derived.Test.YtloicmngoaccoaaDoorWLo
import Derived.Test.YtloicmngoaccoaaDoorPartWAllU
import Derived.Test.YtloicmngoaccoaaDoorPartWCutV
import Derived.Test.YtloicmngoaccoaaDoorPartMathX
import Derived.Deep.RegionHeld3
namespace Go.Proofs.YtloicmngoaccoaaDoor
open Go.RowKit
set_option linter.unusedVariables false

set_option maxRecDepth 100000 in
set_option maxHeartbeats 3200000 in
theorem treeRings_walk (bo : Option Addr) (n cap : Nat) (w : World) (hb : BytesIn w bo n) (hnil : bo = none → n = 0 ∧ cap = 0) (hc : n ≤ cap) (hm : cap ≤ maxLen) (hT : Tab w) :
    Calls Tryd.prog 5 #[.slice bo n cap] w fun e w' => e = .returned (.bool true) ∧ Below w.heap.size w w' := by
  by_cases hl : 1048576 < n
  · have hl' : (1048576 : Int) < (n : Int) := by omega
    have hn' : n ≤ 9223372036854775807 := by unfold maxLen at hm; omega
    go_enter Tryd.func5, Tryd.ntmps5
    go_wp2
    go_ret
    exact ⟨rfl, Below.refl _ _⟩
  have hl' : decide ((1048576 : Int) < (n : Int)) = false := by simp; omega
  go_enter Tryd.func5, Tryd.ntmps5
  go_wp2_with fail
  refine (drawTreeRings_any bo n cap _ hb hnil hc hm).mono ?_
  rintro e w1 ⟨K, ao, cap', ts, rfl, D1⟩
  have hn : ts.length ≤ 1099511627776 := by have := D1.short; omega
  have hn2 : ts.length ≤ 1000 := by have := D1.short; omega
  have HB1 := hideP D1.bel
  have T1 := hideP (hT.below D1.bel hT.2)
  have hoN := D1.own
  clear D1 hT
  have T1a := hideP (T1.out.below (below_one w1 (.cells #[.int .i64 K, .slice ao ts.length cap'] 25)) T1.out.2)
  have HB1a := hideP (HB1.out.trans ((below_one w1 (.cells #[.int .i64 K, .slice ao ts.length cap'] 25)).mono HB1.out.size))
  have N1a := hideP (NetV.new (K := K) (cap := cap') 25 (hoN.ties (Nat.le_refl _)))
  clear hoN HB1 T1
  obtain ⟨ps, hps⟩ : ∃ ps, ringsB K ts = ps := ⟨_, rfl⟩
  have HPS := hideP hps
  have hp64 : ps.length ≤ 64 := by rw [← hps, ringsB_len]; exact restTs_len K ts
  have hpsn : ps.length ≤ 20000000 := by omega
  have HLE : Hid (∀ i, i < ps.length → (ps.getD i []).length ≤ 8) := fun i hi => by
    have hm : ps.getD i [] ∈ ringsB K ts := by rw [hps]; simp [hi]
    exact (ringsB_mem hm).2
  have HRG : Hid (okB K ts = true → ∀ k, k < ps.length → ∃ (x y t : Nat) (q : List Nat), q = ps.getD k [] ∧ q.length = t + 1 ∧ Rng K ts x y q) := fun hok k hk => by
    rw [← hps, ringsB_len] at hk
    obtain ⟨x, y, _, R⟩ := rng_of hok hk
    have hl := R.len
    refine ⟨x, y, _, _, ?_, (Nat.sub_add_cancel (Nat.le_trans (by omega) hl)).symm, R⟩
    rw [← hps]
    simp [ringsB, tA, tB, hk]
  clear hps
  go_wp2_with fail
  refine (implRings_u ps K ao cap' ts _ hn N1a.out.ties T1a.out HPS.out).mono ?_
  rintro e w2 ⟨aoL, capL, rfl, ho2, hb2⟩
  have N2 := hideP (N1a.out.next hb2)
  have T2 := hideP (T1a.out.below hb2 T1a.out.2)
  have HB2 := hideP (HB1a.out.trans (hb2.mono HB1a.out.size))
  have L2 := hideP ho2
  clear hb2 ho2 N1a T1a HB1a
  have n0 := N2.out.c0
  have n1 := N2.out.c1
  go_wp2_with fail
  refine (specRings_v ps K ao cap' ts _ hn N2.out.ties HPS.out).mono ?_
  rintro e w3 ⟨aoS, capS, rfl, ho3, hb3⟩
  have N3 := hideP (N2.out.next hb3)
  have L3 := hideP (L2.out.next hb3)
  have S3 := hideP ho3
  have HB3 := hideP (HB2.out.trans (hb3.mono HB2.out.size))
  have T3 := hideP (T2.out.below hb3 T2.out.2)
  clear hb3 ho3 N2 L2 HB2 T2 n0 n1
  go_wp2_with fail
  refine (loRows_same aoL aoS capL capS ps _ hpsn HLE.out L3.out.seen S3.out).mono ?_
  rintro e w4 ⟨rfl, hb4⟩
  have N4 := hideP (N3.out.next hb4)
  have L4 := hideP (L3.out.next hb4)
  have HB4 := hideP (HB3.out.trans (hb4.mono HB3.out.size))
  have T4 := hideP (T3.out.below hb4 T3.out.2)
  clear hb4 N3 L3 S3 HB3 T3
  have n0 := N4.out.c0
  have n1 := N4.out.c1
  cases hok : okB K ts
  · have HOK := hideP hok
    clear hok
    go_wp2_with fail
    refine (specOk_is false K ao cap' ts _ hn N4.out.ties HOK.out).mono ?_
    rintro e w5 ⟨rfl, hb5⟩
    have N5 := hideP (N4.out.next hb5)
    have L5 := hideP (L4.out.next hb5)
    have HB5 := hideP (HB4.out.trans (hb5.mono HB4.out.size))
    clear hb5 N4 L4 HB4 T4 n0 n1
    have n0 := N5.out.c0
    have n1 := N5.out.c1
    go_wp2_with fail
    refine (specRings_v ps K ao cap' ts _ hn N5.out.ties HPS.out).mono ?_
    rintro e w6 ⟨aoS6, capS6, rfl, ho6, hb6⟩
    have L6 := hideP (L5.out.next hb6)
    have S6 := hideP ho6
    have HB6 := hideP (HB5.out.trans (hb6.mono HB5.out.size))
    clear hb6 ho6 N5 L5 HB5 n0 n1
    go_wp2_with fail
    refine (loRows_same aoL aoS6 capL capS6 ps _ hpsn HLE.out L6.out.seen S6.out).mono ?_
    rintro e w7 ⟨rfl, hb7⟩
    have HB7 := hideP (HB6.out.trans (hb7.mono HB6.out.size))
    clear hb7
    go_wp2
    go_ret
    exact ⟨rfl, HB7.out⟩
  have HOK := hideP hok
  clear hok
  go_wp2_with fail
  refine (specOk_is true K ao cap' ts _ hn N4.out.ties HOK.out).mono ?_
  rintro e w5 ⟨rfl, hb5⟩
  have N5 := hideP (N4.out.next hb5)
  have L5 := hideP (L4.out.next hb5)
  have HB5 := hideP (HB4.out.trans (hb5.mono HB4.out.size))
  have T5 := hideP (T4.out.below hb5 T4.out.2)
  clear hb5 N4 L4 HB4 T4 n0 n1
  have n0 := N5.out.c0
  have n1 := N5.out.c1
  have hvl := treeTs_len K ts
  have hvl' : (treeTs K ts).length ≤ 1099511627776 := by omega
  obtain ⟨vs, hvs⟩ : ∃ vs, vs = treeTs K ts := ⟨_, rfl⟩
  have HVS := hideP hvs
  rw [← hvs] at hvl hvl'
  clear hvs
  go_wp2_with fail
  refine (implTree_any K ao cap' ts _ hn N5.out.ties T5.out).mono ?_
  rw [← HVS.out]
  rintro e w6 ⟨aoV, capV, rfl, ho6, hb6⟩
  have N6 := hideP (N5.out.next hb6)
  have L6 := hideP (L5.out.next hb6)
  have V6 := hideP (ho6.ties (Nat.le_refl _))
  have HB6 := hideP (HB5.out.trans (hb6.mono HB5.out.size))
  clear hb6 ho6 N5 L5 HB5 T5 n0 n1
  have HRL : Hid (ps.length + vs.length = ts.length) := by
    show ps.length + vs.length = ts.length
    rw [← HPS.out, ringsB_len, HVS.out]
    exact rest_len HOK.out
  go_wp2
  go_loopw [6] (fun i wr => ∃ k : Nat, k ≤ ps.length ∧ i = .int .i64 k ∧ AllU wr aoL ps ∧ NetV wr w1.heap.size K ao cap' ts ∧ TiesIn wr wr.heap.size aoV vs ∧ Below w.heap.size w wr)
    (fun i _ => ps.length - (intOf i).toNat)
  case atStart => exact ⟨0, Nat.zero_le _, rfl, L6.out, N6.out, V6.out, HB6.out⟩
  case round =>
    clear L6 N6 V6 HB6
    obtain ⟨k, hk, rfl, hA, hN, hV, hBel⟩ := hrel
    have HA := hideP hA
    have HN := hideP hN
    have HV := hideP hV
    have HBL := hideP hBel
    clear hA hN hV hBel
    by_cases hlt : k < ps.length
    · obtain ⟨x, y, t, q, hq, hqt, R⟩ := HRG.out HOK.out k hlt
      obtain ⟨G, off, g, c, rfl, hG, hcell, hrow, hroom⟩ := HA.out.at' k hlt
      rw [← hq] at hcell hrow hroom
      have hq3 := R.len
      have hq8 := R.le
      have hk0 : (0 : Int) ≤ (k : Int) := by omega
      have hk1 : (k : Int) < (ps.length : Int) := by omega
      have HROW := hideP hrow
      have HQW := hideP (R.way HOK.out)
      obtain ⟨gz, oz, ez, lz, cz⟩ := hrow 0 (by omega)
      obtain ⟨gt, ot, et, lt', ct⟩ := hrow t (by omega)
      cases ez
      cases et
      rw [Nat.zero_add] at cz ct
      have hcz : wr.cell? ⟨g, 0, none⟩ = some (.int .i64 (y : Int)) := by rw [cz]; show some (Value.int .i64 ((pn q 0 : Nat) : Int)) = _; rw [show pn q 0 = y from R.fst]
      have hct : wr.cell? ⟨g, t, none⟩ = some (.int .i64 (x : Int)) := by
        rw [ct]; show some (Value.int .i64 ((pn q t : Nat) : Int)) = _
        have := R.lst
        rw [hqt, Nat.add_sub_cancel] at this
        rw [show pn q t = x from this]
      have hxy := R.lt
      have htA : tiedB ts (x : Int) (y : Int) = true := tied_mem.2 R.mem
      have htV : tiedB vs (x : Int) (y : Int) = false := by
        rw [HVS.out, ← Bool.not_eq_true, tied_mem]; exact R.out
      have HTA := hideP htA
      have HTV := hideP htV
      have LT : Hid (∀ W, Calls Tryd.prog 25 #[.int .i64 (y : Int), .int .i64 (x : Int)] W fun e w' => e = .returned (.agg #[.int .i64 (x : Int), .int .i64 (y : Int)]) ∧ Below W.heap.size W w') := fun W => by
        have := loTie_any (y : Int) (x : Int) W
        rw [Int.min_eq_right (by omega), Int.max_eq_left (by omega)] at this; exact this
      have B0 : Hid (Below wr.heap.size wr wr.drew) := (Below.refl _ _).drew
      have B1 : Hid (Below wr.heap.size wr ((wr.alloc (.cells #[.int .i64 0, .int .i64 0] 35)).drew)) := ((Below.refl _ _).alloc (Nat.le_refl _) _).drew
      have HXE : Hid (((wr.alloc (.cells #[.int .i64 0, .int .i64 0] 35)).drew).heap[wr.heap.size]? = some (Obj.cells #[.int .i64 0, .int .i64 0] 35 (0, 0))) := World.alloc_heap_new wr _
      have hszE : ((wr.alloc (.cells #[.int .i64 0, .int .i64 0] 35)).drew).heap.size = wr.heap.size + 1 := World.size_alloc wr _
      have L0 := hideP (LT.out wr.drew)
      have L1 := hideP (LT.out ((wr.alloc (.cells #[.int .i64 0, .int .i64 0] 35)).drew))
      rw [hqt] at hcell
      have t0 : (0 : Int) ≤ (t : Int) := by omega
      have t1 : (t : Int) < (t : Int) + 1 := by omega
      have t2 : (0 : Int) < (t : Int) + 1 := by omega
      have t3 : decide ((t : Int) + 1 < 3) = false := by simp; omega
      have hw1 : IntKind.i64.wrap (t : Int) = (t : Int) := by rw [IntKind.wrap_i64]; omega
      have hw2 : IntKind.i64.wrap ((t : Int) + 1 - 1) = (t : Int) := by rw [Int.add_sub_cancel]; exact hw1
      have hw3 : IntKind.i64.wrap ((t : Int) + 1) = (t : Int) + 1 := by rw [IntKind.wrap_i64]; omega
      have HELD : Hid (∀ W, Below wr.heap.size wr W → W.cell? ⟨G, off + k, none⟩ = some (.slice (some ⟨g, 0, none⟩) (t + 1) c) ∧ W.cell? ⟨g, 0, none⟩ = some (.int .i64 (y : Int)) ∧ W.cell? ⟨g, t, none⟩ = some (.int .i64 (x : Int))) := fun W hb => ⟨(hb.cell (p := ⟨G, off + k, none⟩) hG).trans hcell, (hb.cell (p := ⟨g, 0, none⟩) lz).trans hcz, (hb.cell (p := ⟨g, t, none⟩) lz).trans hct⟩
      have HQ8 := hideP hq8
      have HRM := hideP hroom
      have HQT := hideP hqt
      clear hrow cz ct hcell hcz hct hq R htA htV hxy hq3 hq8 hroom hqt lt'
      go_wp2
      apply wp_weakL (J := fun XB W => TieSt wr W XB (x : Int) (y : Int))
      case h =>
        go_region_held3 (fun w' => w'.cell? ⟨G, off + k, none⟩ = some (.slice (some ⟨g, 0, none⟩) (t + 1) c) ∧ w'.cell? ⟨g, 0, none⟩ = some (.int .i64 (y : Int)) ∧ w'.cell? ⟨g, t, none⟩ = some (.int .i64 (x : Int))) (first | exact HELD.out _ bX.out | exact HELD.out _ (bX.out.alloc bX.out.size _) | exact HELD.out _ ((bX.out.setCell (p := ⟨wr.heap.size, 0, none⟩) (Nat.le_refl _) _).setCell (p := ⟨wr.heap.size, 1, none⟩) (Nat.le_refl _) _) | exact HELD.out _ B1.out | exact HELD.out _ B0.out) (first | (go_at_call 25; (with_reducible refine L0.out.mono ?_); rintro e w6 ⟨rfl, hb6⟩; have bX : Hid (Below wr.heap.size wr w6) := hideP (B0.out.trans hb6); clear hb6) | (go_at_call 25; (with_reducible refine L1.out.mono ?_); rintro e w6 ⟨rfl, hb6⟩; rw [hszE] at hb6; have bX : Hid (Below wr.heap.size wr w6) := hideP (B1.out.trans (hb6.mono (Nat.le_succ _))); have HX6 : Hid (w6.heap[wr.heap.size]? = some (Obj.cells #[.int .i64 0, .int .i64 0] 35 (0, 0))) := hideP ((hb6.block wr.heap.size (Nat.lt_succ_self _)).trans HXE.out); obtain ⟨xc0, xc1, xf⟩ := two_cells HX6.out; clear hb6))
        all_goals
          first
          | (have JJ := TieSt.put (a := (x : Int)) (b := (y : Int)) HX6.out bX.out
             generalize wr.heap.size = XB at JJ ⊢
             exact ⟨XB, rfl, JJ⟩)
          | (have JJ : TieSt wr (w6.alloc (.cells #[.int .i64 (x : Int), .int .i64 (y : Int)] 35)) w6.heap.size (x : Int) (y : Int) := TieSt.new _ bX.out
             generalize w6.heap.size = XB at JJ ⊢
             exact ⟨XB, rfl, JJ⟩)
      intro XB W hJ
      obtain ⟨x0, x1, xl, hbW⟩ := hJ
      have HA2 := hideP (HA.out.next hbW)
      have HN2 := hideP (HN.out.next hbW)
      have HV2 := hideP ((HV.out.below hbW (Nat.le_refl _)).wide hbW.size)
      have HBL2 := hideP (HBL.out.trans (hbW.mono HBL.out.size))
      have HROW2 := hideP ((HROW.out.next hbW).wide hbW.size)
      have nl := HN2.out.lt
      have c0 := HN2.out.c0
      have c1 := HN2.out.c1
      have HB' := hideP hbW
      have hne : Nonempty (Cls (Below W.heap.size W)) := ⟨⟨W, Below.refl _ _⟩⟩
      have q0 : ∀ u : Cls (Below W.heap.size W), u.w.cell? ⟨w1.heap.size, 0, none⟩ = some (.int .i64 K) := fun u => (u.ok.cell (p := ⟨w1.heap.size, 0, none⟩) nl).trans c0
      have q1 : ∀ u : Cls (Below W.heap.size W), u.w.cell? ⟨w1.heap.size, 1, none⟩ = some (.slice ao ts.length cap') := fun u => (u.ok.cell (p := ⟨w1.heap.size, 1, none⟩) nl).trans c1
      have q2 : ∀ u : Cls (Below W.heap.size W), u.w.cell? ⟨G, off + k, none⟩ = some (.slice (some ⟨g, 0, none⟩) (t + 1) c) := fun u => (u.ok.cell (p := ⟨G, off + k, none⟩) (Nat.lt_of_lt_of_le hG hbW.size)).trans (HELD.out W hbW).1
      have q3 : ∀ u : Cls (Below W.heap.size W), u.w.cell? ⟨XB, 0, none⟩ = some (.int .i64 (x : Int)) := fun u => (u.ok.cell (p := ⟨XB, 0, none⟩) xl).trans x0
      have q4 : ∀ u : Cls (Below W.heap.size W), u.w.cell? ⟨XB, 1, none⟩ = some (.int .i64 (y : Int)) := fun u => (u.ok.cell (p := ⟨XB, 1, none⟩) xl).trans x1
      have CW : Hid (∀ u : Cls (Below W.heap.size W), Calls Tryd.prog 26 #[.agg #[.int .i64 K, .slice ao ts.length cap'], .slice (some ⟨g, 0, none⟩) (t + 1) c] u.w fun e w'' => e = .returned (.bool true) ∧ ∃ u2 : Cls (Below W.heap.size W), w'' = u2.w) := fun u => by
        have := implWayOk_q K ao _ cap' c ts q u.w hn (HN2.out.next u.ok).ties HQ8.out HRM.out ((HROW2.out.next u.ok).wide u.ok.size) HQW.out
        rw [HQT.out] at this
        exact Calls.cls (D := Below W.heap.size W) (this.mono fun e w2 ⟨he, hb2⟩ => ⟨he, u.ok.trans (hb2.mono u.ok.size)⟩)
      have CA : Hid (∀ u : Cls (Below W.heap.size W), Calls Tryd.prog 27 #[.slice ao ts.length cap', .agg #[.int .i64 (x : Int), .int .i64 (y : Int)]] u.w fun e w'' => e = .returned (.bool true) ∧ ∃ u2 : Cls (Below W.heap.size W), w'' = u2.w) := fun u => by
        have := loHas_any ao cap' ts (x : Int) (y : Int) u.w hn (HN2.out.next u.ok).ties
        rw [HTA.out] at this
        exact Calls.cls (D := Below W.heap.size W) (this.mono fun e w2 ⟨he, hb2⟩ => ⟨he, u.ok.trans (hb2.mono u.ok.size)⟩)
      have CV : Hid (∀ u : Cls (Below W.heap.size W), Calls Tryd.prog 27 #[.slice aoV vs.length capV, .agg #[.int .i64 (x : Int), .int .i64 (y : Int)]] u.w fun e w'' => e = .returned (.bool false) ∧ ∃ u2 : Cls (Below W.heap.size W), w'' = u2.w) := fun u => by
        have := loHas_any aoV capV vs (x : Int) (y : Int) u.w hvl' ((HV2.out.below (C := W.heap.size) u.ok (Nat.le_refl _)).wide u.ok.size)
        rw [HTV.out] at this
        exact Calls.cls (D := Below W.heap.size W) (this.mono fun e w2 ⟨he, hb2⟩ => ⟨he, u.ok.trans (hb2.mono u.ok.size)⟩)
      clear x0 x1 xl hbW HA HN HV HBL HROW nl c0 c1 HELD B0 B1 HXE hszE L0 L1 LT
      go_wp2
      refine wp_region_cls (Below W.heap.size W) (by kernel_rfl) (by kernel_rfl) (Below.refl _ _).drew ?_
      repeat (go_big_quiet_step (first | (go_at_call 26; refine CW.out _) | (go_at_call 27; (with_reducible refine CV.out _)) | (go_at_call 27; (with_reducible refine CA.out _))))
      refine wpQuiet_nil ?_
      intro wq hw'
      have hz : Below W.heap.size W wq := by obtain ⟨u, e⟩ := hw'; rw [e]; exact u.ok
      clear hw' q0 q1 q2 q3 q4 hne CW CA CV
      have A6 := hideP (HA2.out.next hz)
      have N6 := hideP (HN2.out.next hz)
      have V6 := hideP ((HV2.out.below hz (Nat.le_refl _)).wide hz.size)
      have HB6 := hideP (HBL2.out.trans (hz.mono HBL2.out.size))
      clear hz HA2 HN2 HV2 HBL2 HROW2
      go_wp2
      go_roundw
      case measure => (simp [intOf] <;> omega)
      case rel => exact ⟨k + 1, by omega, by go_num, A6.out, N6.out, V6.out, HB6.out⟩
    · obtain rfl : k = ps.length := by omega
      have c1 := HN.out.c1
      have hrl := HRL.out
      have hw9 : IntKind.i64.wrap ((ts.length : Int) - (vs.length : Int)) = (ts.length : Int) - (vs.length : Int) := by rw [IntKind.wrap_i64]; omega
      have heq : ((ps.length : Int) == (ts.length : Int) - (vs.length : Int)) = true := by simp; omega
      clear hlt hrl
      go_wp2
      go_ret
      exact ⟨rfl, HBL.out⟩

end Go.Proofs.YtloicmngoaccoaaDoor
