/- Walk of laws.FnBridgeEnds: it returns true. -/
import Derived.Test.YtncjdbhicpgfkaaDoorWDrawT
import Derived.Test.YtncjdbhicpgfkaaDoorWLo
import Derived.Test.YtncjdbhicpgfkaaDoorWBridgeI
import Derived.Test.YtncjdbhicpgfkaaDoorWBridgeL
import Derived.Test.YtncjdbhicpgfkaaDoorMathF
namespace Go.Proofs.YtncjdbhicpgfkaaDoor
open Go.RowKit
set_option linter.unusedVariables false

/-- a tie in a variable -/
structure TieV (w : World) (A : Nat) (a b : Int) : Prop where
  c0 : w.cell? ⟨A, 0, none⟩ = some (.int .i64 a)
  c1 : w.cell? ⟨A, 1, none⟩ = some (.int .i64 b)
  lt : A < w.heap.size
theorem TieV.next {w w' : World} {A : Nat} {a b : Int} (h : TieV w A a b) (hb : Below w.heap.size w w') : TieV w' A a b :=
  ⟨(hb.cell (p := ⟨A, 0, none⟩) h.lt).trans h.c0, (hb.cell (p := ⟨A, 1, none⟩) h.lt).trans h.c1, Nat.lt_of_lt_of_le h.lt hb.size⟩
set_option maxHeartbeats 1600000 in
theorem bridgeEnds_walk (bo : Option Addr) (n cap : Nat) (co : Option Addr) (n2 cap2 : Nat) (w : World) (hb : BytesIn w bo n) (hnil : bo = none → n = 0 ∧ cap = 0) (hc : n ≤ cap) (hm : cap ≤ maxLen) (hbb : BytesIn w co n2) (hnil2 : co = none → n2 = 0 ∧ cap2 = 0) (hc2 : n2 ≤ cap2) (hm2 : cap2 ≤ maxLen) (hT : Tab w) :
    Calls Tryd.prog 14 #[.slice bo n cap, .slice co n2 cap2] w fun e w' => e = .returned (.bool true) ∧ Below w.heap.size w w' := by
  have hn2' : n2 ≤ 9223372036854775807 := by unfold maxLen at hm2; omega
  have hn1' : n ≤ 9223372036854775807 := by unfold maxLen at hm; omega
  clear hbb hnil2 hc2 hm2
  by_cases hl : 1048576 < n
  · have hl' : (1048576 : Int) < (n : Int) := by omega
    go_enter Tryd.func14, Tryd.ntmps14
    go_wp2
    go_ret
    exact ⟨rfl, Below.refl _ _⟩
  have hl' : decide ((1048576 : Int) < (n : Int)) = false := by simp; omega
  by_cases hl2 : 1048576 < n2
  · have hl2' : (1048576 : Int) < (n2 : Int) := by omega
    go_enter Tryd.func14, Tryd.ntmps14
    go_wp2
    go_ret
    exact ⟨rfl, Below.refl _ _⟩
  have hl2' : decide ((1048576 : Int) < (n2 : Int)) = false := by simp; omega
  go_enter Tryd.func14, Tryd.ntmps14
  go_wp2_with fail
  refine (drawBridgeList_any bo n cap _ hb hnil hc hm).mono ?_
  rintro e w1 ⟨K, ao, cap', ts, rfl, D1⟩
  have hn : ts.length ≤ 1099511627776 := by have := D1.short; omega
  have HB1 := hideP D1.bel
  have T1 := hideP (hT.below D1.bel hT.2)
  have hoN := D1.own
  clear D1 hT
  have T1a := hideP (T1.out.below (below_one w1 (.cells #[.int .i64 K, .slice ao ts.length cap'] 25)) T1.out.2)
  have HB1a := hideP (HB1.out.trans ((below_one w1 (.cells #[.int .i64 K, .slice ao ts.length cap'] 25)).mono HB1.out.size))
  have N1a := hideP (NetV.new (K := K) (cap := cap') 25 (hoN.ties (Nat.le_refl _)))
  clear hoN
  have hul := brTs_len K ts
  have hul' : (brTs K ts).length ≤ 1099511627776 := by omega
  obtain ⟨us, hus⟩ : ∃ us, us = brTs K ts := ⟨_, rfl⟩
  have HUS := hideP hus
  rw [← hus] at hul hul'
  clear hus
  go_wp2_with fail
  refine (implBridges_any K ao cap' ts _ hn N1a.out.ties T1a.out).mono ?_
  rw [← HUS.out]
  rintro e w2 ⟨aoL, capL, rfl, ho2, hb2⟩
  have N2 := hideP (N1a.out.next hb2)
  have T2 := hideP (T1a.out.below hb2 T1a.out.2)
  have HB2 := hideP (HB1a.out.trans (hb2.mono HB1a.out.size))
  have L2 := hideP (ho2.ties (Nat.le_refl _))
  clear hb2 ho2 N1a T1a HB1a
  have n0 := N2.out.c0
  have n1 := N2.out.c1
  go_wp2_with fail
  refine (specBridges_any K ao cap' ts _ hn N2.out.ties).mono ?_
  rw [← HUS.out]
  rintro e w3 ⟨aoS, capS, rfl, ho3, hb3⟩
  have N3 := hideP (N2.out.next hb3)
  have L3 := hideP ((L2.out.below hb3 (Nat.le_refl _)).wide hb3.size)
  have S3 := hideP (ho3.ties (Nat.le_refl _))
  have HB3 := hideP (HB2.out.trans (hb3.mono HB2.out.size))
  have T3 := hideP (T2.out.below hb3 T2.out.2)
  clear hb3 ho3 N2 L2 HB2 T2 n0 n1
  go_wp2_with fail
  refine (loTies_same aoL aoS capL capS us _ hul' L3.out S3.out).mono ?_
  rintro e w4 ⟨rfl, hb4⟩
  have N4 := hideP (N3.out.next hb4)
  have L4 := hideP ((L3.out.below hb4 (Nat.le_refl _)).wide hb4.size)
  have HB4 := hideP (HB3.out.trans (hb4.mono HB3.out.size))
  have T4 := hideP (T3.out.below hb4 T3.out.2)
  clear hb4 N3 L3 S3 HB3 T3
  have n0 := N4.out.c0
  have n1 := N4.out.c1
  by_cases hz : us.length = 0
  · have hnil0 : us = [] := List.length_eq_zero_iff.1 hz
    subst hnil0
    clear hz
    go_wp2_with fail
    refine (specBridges_any K ao cap' ts _ hn N4.out.ties).mono ?_
    rw [← HUS.out]
    rintro e w6 ⟨aoS6, capS6, rfl, ho6, hb6⟩
    have L6 := hideP ((L4.out.below hb6 (Nat.le_refl _)).wide hb6.size)
    have S6 := hideP (ho6.ties (Nat.le_refl _))
    have HB6 := hideP (HB4.out.trans (hb6.mono HB4.out.size))
    clear hb6 ho6 n0 n1
    go_wp2_with fail
    refine (loTies_same aoL aoS6 capL capS6 [] _ hul' L6.out S6.out).mono ?_
    rintro e w7 ⟨rfl, hb7⟩
    have HB7 := hideP (HB6.out.trans (hb7.mono HB6.out.size))
    clear hb7
    go_wp2
    go_ret
    exact ⟨rfl, HB7.out⟩
  have hok : okB K ts = true := by
    cases h : okB K ts
    · exact absurd (by rw [HUS.out, brTs_no h]; rfl) hz
    · rfl
  obtain ⟨i, hi⟩ : ∃ i : Nat, i = n2 % us.length := ⟨_, rfl⟩
  have hil : i < us.length := by rw [hi]; exact Nat.mod_lt _ (by omega)
  have hmod : (n2 : Int) % (us.length : Int) = (i : Int) := by rw [hi]; exact (Int.natCast_emod n2 us.length).symm
  have hmt : Int.tmod (n2 : Int) (us.length : Int) = (i : Int) := by rw [Int.tmod_eq_emod_of_nonneg (show (0 : Int) ≤ (n2 : Int) by omega)]; exact hmod
  have hzi : ((us.length : Int) == 0) = false := by rw [beq_eq_false_iff_ne]; omega
  have hz0 : ¬ ((us.length : Int) = 0) := by omega
  obtain ⟨gL, offL, rfl, hgL, l0, l1⟩ := L4.out i hil
  obtain ⟨x, y, hxy, hy8, hte, hto, hhas⟩ := tie_form hok (show (tA us i, tB us i) ∈ ts from ((mem_brTs hok _).1 (HUS.out ▸ mem_at hil)).1)
  have HMEM : Hid (((x : Int), (y : Int)) ∈ brTs K ts) := by rw [← hte, ← HUS.out]; exact mem_at hil
  simp only [Prod.mk.injEq] at hte
  rw [hte.1] at l0
  rw [hte.2] at l1
  have HOK := hideP hok
  have HHAS := hideP hhas
  clear hte hto hhas hok hi hmod
  have bt := below_one w4 (.cells #[.int .i64 (x : Int), .int .i64 (y : Int)] 35)
  have N5 := hideP (N4.out.next bt)
  have T5 := hideP (T4.out.below bt T4.out.2)
  have HB5 := hideP (HB4.out.trans (bt.mono HB4.out.size))
  have n0 := N4.out.c0
  have n1 := N4.out.c1
  have nl := N4.out.lt
  have hi0 : (0 : Int) ≤ (i : Int) := by omega
  have hil' : (i : Int) < (us.length : Int) := by omega
  clear bt T4 HB4 L4
  go_wp2_with fail
  refine (netCut_all K ao cap' ts (x : Int) (y : Int) _ hn N5.out.ties T5.out).mono ?_
  have hcut : cutB K ts (x : Int) (y : Int) = true := HHAS.out
  rw [hcut, cutK_yes hcut]
  have HCO := hideP (cutOut hcut)
  have HENDS : Hid (∀ k, reachB ts x k = (reachB (cutTs K ts x y) x k || reachB (cutTs K ts x y) y k) ∧ (reachB (cutTs K ts x y) x k && reachB (cutTs K ts x y) y k) = false) := ends HOK.out hxy HMEM.out
  have hcl := cutTs_len K ts (x : Int) (y : Int)
  obtain ⟨vs, hvs⟩ : ∃ vs, vs = cutTs K ts (x : Int) (y : Int) := ⟨_, rfl⟩
  rw [← hvs] at HCO HENDS hcl ⊢
  have hvn : vs.length ≤ 1099511627776 := by omega
  obtain ⟨Kn, hKn⟩ : ∃ m : Nat, K = (m : Int) := ⟨K.toNat, by have := (okB_iff.1 HOK.out).1; omega⟩
  have hxK : x < Kn ∧ y < Kn := by
    obtain ⟨q1, q2, q3⟩ := (ok_parts HOK.out).2.2.1 _ ((mem_brTs HOK.out _).1 HMEM.out).1
    simp at q1 q2 q3; omega
  have hK8 : Kn ≤ 8 := by have := (okB_iff.1 HOK.out).2.1; omega
  subst hKn
  have HOKX := hideP HCO.out.ok
  clear hvs hcut HCO HMEM HHAS
  rintro e w6 ⟨aoX, capX, rfl, ho6, hb6⟩
  have t0 : w6.cell? ⟨w4.heap.size, 0, none⟩ = some (.int .i64 (x : Int)) := (hb6.cell (p := ⟨w4.heap.size, 0, none⟩) (by simp)).trans (by simp)
  have t1 : w6.cell? ⟨w4.heap.size, 1, none⟩ = some (.int .i64 (y : Int)) := (hb6.cell (p := ⟨w4.heap.size, 1, none⟩) (by simp)).trans (by simp)
  have tl : w4.heap.size < w6.heap.size := by have := hb6.size; simp at this; omega
  have bx := below_one w6 (.cells #[.int .i64 (Kn : Int), .slice aoX vs.length capX] 25)
  have N6 := hideP ((N5.out.next hb6).next bx)
  have T6 := hideP ((T5.out.below hb6 T5.out.2).below bx (T5.out.below hb6 T5.out.2).2)
  have HB6' := HB5.out.trans (hb6.mono HB5.out.size)
  have HB6 := hideP (HB6'.trans (bx.mono HB6'.size))
  have X6 := hideP (NetV.new (K := (Kn : Int)) (cap := capX) 25 (ho6.ties (Nat.le_refl _)))
  have n60 := (N5.out.next hb6).c0
  have n61 := (N5.out.next hb6).c1
  have n6l := (N5.out.next hb6).lt
  have V6 := hideP ((TieV.mk t0 t1 tl).next bx)
  clear n0 n1 nl N5 T5 HB5 hb6 ho6 HB6' l0 l1 bx
  obtain ⟨NB, hNB⟩ : ∃ q, q = w1.heap.size := ⟨_, rfl⟩
  obtain ⟨TB, hTB⟩ : ∃ q, q = w4.heap.size := ⟨_, rfl⟩
  rw [← hNB] at N6 n60 n61 n6l
  rw [← hTB] at t0 t1 tl V6
  have HTB := hideP hTB
  have HNB := hideP hNB
  rw [← hNB, ← hTB]
  clear hNB hTB
  go_wp2_with fail
  refine (implReach_ok Kn ao cap' ts x _ hn N6.out.ties T6.out HOK.out hxK.1).mono ?_
  rintro e w7 ⟨gW, capW, rfl, hOW, hb7⟩
  have N7 := hideP (N6.out.next hb7)
  have X7 := hideP (X6.out.next hb7)
  have V7 := hideP (V6.out.next hb7)
  have T7 := hideP (T6.out.below hb7 T6.out.2)
  have HB7 := hideP (HB6.out.trans (hb7.mono HB6.out.size))
  have OW7 := hideP hOW
  clear t0 t1 tl n60 n61 n6l N6 X6 V6 T6 HB6 hOW hb7
  have x0 := X7.out.c0
  have x1 := X7.out.c1
  have v0 := V7.out.c0
  have v1 := V7.out.c1
  go_wp2_with fail
  refine (implReach_ok Kn aoX capX vs x _ hvn X7.out.ties T7.out HOKX.out hxK.1).mono ?_
  rintro e w8 ⟨g1, cap1, rfl, hO1, hb8⟩
  have X8 := hideP (X7.out.next hb8)
  have V8 := hideP (V7.out.next hb8)
  have T8 := hideP (T7.out.below hb8 T7.out.2)
  have HB8 := hideP (HB7.out.trans (hb8.mono HB7.out.size))
  have OW8 := hideP (OW7.out.below hb8 OW7.out.2.2)
  have O18 := hideP hO1
  clear x0 x1 v0 v1 N7 X7 V7 T7 HB7 OW7 hO1 hb8
  have x0 := X8.out.c0
  have x1 := X8.out.c1
  have v0 := V8.out.c0
  have v1 := V8.out.c1
  go_wp2_with fail
  refine (implReach_ok Kn aoX capX vs y _ hvn X8.out.ties T8.out HOKX.out hxK.2).mono ?_
  rintro e w9 ⟨g2, cap2', rfl, hO2, hb9⟩
  have HB9 := hideP (HB8.out.trans (hb9.mono HB8.out.size))
  have OW9 := hideP (OW8.out.below hb9 OW8.out.2.2)
  have O19 := hideP (O18.out.below hb9 O18.out.2.2)
  have O29 := hideP hO2
  clear x0 x1 v0 v1 X8 V8 T8 HB8 OW8 O18 hO2 hb9
  go_wp2
  go_loopw [13] (fun i wr => ∃ k : Nat, k ≤ Kn ∧ i = .int .i64 k ∧ Below w9.heap.size w9 wr)
    (fun i _ => Kn - (intOf i).toNat)
  case atStart => exact ⟨0, Nat.zero_le _, rfl, Below.refl _ _⟩
  case round =>
    obtain ⟨k, hk, rfl, hnx⟩ := hrel
    have HNX := hideP hnx
    by_cases hlt : k < Kn
    · have hk0 : (0 : Int) ≤ (k : Int) := by omega
      have hk1 : (k : Int) < (Kn : Int) := by omega
      obtain ⟨e1, e2⟩ := HENDS.out k
      have d0 : wr.cell? ⟨gW, k, none⟩ = some (.bool (reachB ts x k)) := (hnx.cell (p := ⟨gW, k, none⟩) OW9.out.2.2).trans (OW9.out.1 k hlt)
      have d1 : wr.cell? ⟨g1, k, none⟩ = some (.bool (reachB vs x k)) := (hnx.cell (p := ⟨g1, k, none⟩) O19.out.2.2).trans (O19.out.1 k hlt)
      have d2 : wr.cell? ⟨g2, k, none⟩ = some (.bool (reachB vs y k)) := (hnx.cell (p := ⟨g2, k, none⟩) O29.out.2.2).trans (O29.out.1 k hlt)
      rw [e1] at d0
      obtain ⟨r1, hr1⟩ : ∃ r, r = reachB vs x k := ⟨_, rfl⟩
      obtain ⟨r2, hr2⟩ : ∃ r, r = reachB vs y k := ⟨_, rfl⟩
      rw [← hr1, ← hr2] at d0 e2
      rw [← hr1] at d1
      rw [← hr2] at d2
      have hne : Nonempty (Cls (Below wr.heap.size wr)) := ⟨⟨wr, Below.refl _ _⟩⟩
      have q0 : ∀ u : Cls (Below wr.heap.size wr), u.w.cell? ⟨gW, k, none⟩ = some (.bool (r1 || r2)) := fun u => (u.ok.cell (p := ⟨gW, k, none⟩) (Nat.lt_of_lt_of_le OW9.out.2.2 hnx.size)).trans d0
      have q1 : ∀ u : Cls (Below wr.heap.size wr), u.w.cell? ⟨g1, k, none⟩ = some (.bool r1) := fun u => (u.ok.cell (p := ⟨g1, k, none⟩) (Nat.lt_of_lt_of_le O19.out.2.2 hnx.size)).trans d1
      have q2 : ∀ u : Cls (Below wr.heap.size wr), u.w.cell? ⟨g2, k, none⟩ = some (.bool r2) := fun u => (u.ok.cell (p := ⟨g2, k, none⟩) (Nat.lt_of_lt_of_le O29.out.2.2 hnx.size)).trans d2
      clear d0 d1 d2 e1 hr1 hr2 hnx OW9 O19 O29 HENDS
      cases r1
      · cases r2
        · clear e2
          go_wp2
          refine wp_region_cls (Below wr.heap.size wr) (by kernel_rfl) (by kernel_rfl) (Below.refl _ _).drew ?_
          repeat (go_big_quiet_step (fail))
          refine wpQuiet_nil ?_
          intro wq hw'
          have hq : Below wr.heap.size wr wq := by obtain ⟨u, e⟩ := hw'; rw [e]; exact u.ok
          clear hw' q0 q1 q2 hne
          have HNQ := hideP (HNX.out.trans (hq.mono HNX.out.size))
          clear hq
          go_wp2
          go_roundw
          case rel => exact ⟨k + 1, by omega, by go_num, HNQ.out⟩
          case measure => simp [intOf]; omega
        · clear e2
          go_wp2
          refine wp_region_cls (Below wr.heap.size wr) (by kernel_rfl) (by kernel_rfl) (Below.refl _ _).drew ?_
          repeat (go_big_quiet_step (fail))
          refine wpQuiet_nil ?_
          intro wq hw'
          have hq : Below wr.heap.size wr wq := by obtain ⟨u, e⟩ := hw'; rw [e]; exact u.ok
          clear hw' q0 q1 q2 hne
          have HNQ := hideP (HNX.out.trans (hq.mono HNX.out.size))
          clear hq
          go_wp2
          go_roundw
          case rel => exact ⟨k + 1, by omega, by go_num, HNQ.out⟩
          case measure => simp [intOf]; omega
      · cases r2
        · clear e2
          go_wp2
          refine wp_region_cls (Below wr.heap.size wr) (by kernel_rfl) (by kernel_rfl) (Below.refl _ _).drew ?_
          repeat (go_big_quiet_step (fail))
          refine wpQuiet_nil ?_
          intro wq hw'
          have hq : Below wr.heap.size wr wq := by obtain ⟨u, e⟩ := hw'; rw [e]; exact u.ok
          clear hw' q0 q1 q2 hne
          have HNQ := hideP (HNX.out.trans (hq.mono HNX.out.size))
          clear hq
          go_wp2
          go_roundw
          case rel => exact ⟨k + 1, by omega, by go_num, HNQ.out⟩
          case measure => simp [intOf]; omega
        · simp at e2
    · obtain rfl : k = Kn := by omega
      have HB10 := hideP (HB9.out.trans (hnx.mono HB9.out.size))
      clear hnx HNX
      go_wp2
      go_ret
      exact ⟨rfl, HB10.out⟩

end Go.Proofs.YtncjdbhicpgfkaaDoor
