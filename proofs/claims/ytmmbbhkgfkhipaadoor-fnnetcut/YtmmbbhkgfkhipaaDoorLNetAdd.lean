/- Walk of laws.FnNetAdd: it returns true. -/
import Derived.Test.YtmmbbhkgfkhipaaDoorWDraw
import Derived.Test.YtmmbbhkgfkhipaaDoorWLo
import Derived.Test.YtmmbbhkgfkhipaaDoorWAlls
import Derived.Test.YtmmbbhkgfkhipaaDoorMathL
namespace Go.Proofs.YtmmbbhkgfkhipaaDoor
open Go.RowKit
set_option linter.unusedVariables false

theorem netOk_is (v : Bool) (K : Int) (ao : Option Addr) (cap : Nat) (ts : List (Int × Int)) (w : World) (hn : ts.length ≤ 1099511627776) (ht : TiesIn w w.heap.size ao ts) (h : okB K ts = v) :
    Calls Tryd.prog 14 #[.agg #[.int .i64 K, .slice ao ts.length cap]] w fun e w' => e = .returned (.bool v) ∧ Below w.heap.size w w' := by
  rw [← h]; exact netOk_any K ao cap ts w hn ht
theorem netHas_is (v : Bool) (K : Int) (ao : Option Addr) (cap : Nat) (ts : List (Int × Int)) (a b : Int) (w : World) (hn : ts.length ≤ 1099511627776) (ht : TiesIn w w.heap.size ao ts) (h : hasB K ts a b = v) :
    Calls Tryd.prog 15 #[.agg #[.int .i64 K, .slice ao ts.length cap], .int .i64 a, .int .i64 b] w fun e w' => e = .returned (.bool v) ∧ Below w.heap.size w w' := by
  rw [← h]; exact netHas_any K ao cap ts a b w hn ht
theorem loHas_is (v : Bool) (ao : Option Addr) (cap : Nat) (ts : List (Int × Int)) (a b : Int) (w : World) (hn : ts.length ≤ 1099511627776) (ht : TiesIn w w.heap.size ao ts) (h : tiedB ts a b = v) :
    Calls Tryd.prog 13 #[.slice ao ts.length cap, .agg #[.int .i64 a, .int .i64 b]] w fun e w' => e = .returned (.bool v) ∧ Below w.heap.size w w' := by
  rw [← h]; exact loHas_any ao cap ts a b w hn ht

theorem netAdd_is (v : Bool) (K : Int) (ao : Option Addr) (cap : Nat) (ts : List (Int × Int)) (a b : Int) (w : World) (hn : ts.length ≤ 1099511627776) (ht : TiesIn w w.heap.size ao ts) (hT : Tab w) (h : addB K ts a b = v) :
    Calls Tryd.prog 10 #[.agg #[.int .i64 K, .slice ao ts.length cap], .int .i64 a, .int .i64 b] w fun e w' => ∃ K' ao' m cap', e = .returned (.tuple #[.agg #[.int .i64 K', .slice ao' m cap'], .bool v]) ∧ Below w.heap.size w w' := by
  subst h; exact (netAdd_all K ao cap ts a b w hn ht hT).mono fun e w' ⟨ao', cap', he, _, hb⟩ => ⟨_, ao', _, cap', he, hb⟩

theorem loTie_is (a b mn mx : Int) (w : World) (h1 : mn = min a b) (h2 : mx = max a b) :
    Calls Tryd.prog 12 #[.int .i64 a, .int .i64 b] w fun e w' => e = .returned (.agg #[.int .i64 mn, .int .i64 mx]) ∧ Below w.heap.size w w' := by
  subst h1; subst h2; exact loTie_any a b w

set_option maxHeartbeats 1600000 in
theorem netAdd_walk (bo : Option Addr) (n cap : Nat) (w : World) (hb : BytesIn w bo n) (hnil : bo = none → n = 0 ∧ cap = 0) (hc : n ≤ cap) (hm : cap ≤ maxLen) (hT : Tab w) :
    Calls Tryd.prog 3 #[.slice bo n cap] w fun e w' => e = .returned (.bool true) ∧ Below w.heap.size w w' := by
  by_cases hl : 1048576 < n
  · have hl' : (1048576 : Int) < (n : Int) := by omega
    have hn' : n ≤ 9223372036854775807 := by unfold maxLen at hm; omega
    go_enter Tryd.func3, Tryd.ntmps3
    go_wp2
    go_ret
    exact ⟨rfl, Below.refl _ _⟩
  have hl' : decide ((1048576 : Int) < (n : Int)) = false := by simp; omega
  go_enter Tryd.func3, Tryd.ntmps3
  go_wp2_with fail
  refine (drawNetAdd_any bo n cap _ hb hnil hc hm).mono ?_
  rintro e w1 ⟨K, ao, cap', ts, a, b, rfl, D1⟩
  have hn : ts.length ≤ 1099511627776 := by have := D1.short; omega
  have hts : ts.length ≤ 66 := D1.short
  have N1 := hideP (NetV.new (K := K) (cap := cap') 25 (D1.own.ties (Nat.le_refl _)))
  have HB1 := hideP (D1.bel.trans ((below_one w1 (.cells #[.int .i64 K, .slice ao ts.length cap'] 25)).mono D1.bel.size))
  have T1 := hideP (hT.below HB1.out hT.2)
  clear D1 hT
  go_wp2_with fail
  refine (specAdd_all K ao cap' ts a b _ hn N1.out.ties).mono ?_
  rintro e w2 ⟨aoW, capW, rfl, hoW, hb2⟩
  have N2 := hideP (N1.out.next hb2)
  have T2 := hideP (T1.out.below hb2 T1.out.2)
  have HB2 := hideP (HB1.out.trans (hb2.mono HB1.out.size))
  have hul := addTs_len K ts a b
  obtain ⟨K', hK'⟩ : ∃ K', K' = addK K ts a b := ⟨_, rfl⟩
  obtain ⟨us, hus⟩ : ∃ us, us = addTs K ts a b := ⟨_, rfl⟩
  obtain ⟨v, hv⟩ : ∃ v, v = addB K ts a b := ⟨_, rfl⟩
  have HE : Hid (K' = addK K ts a b ∧ us = addTs K ts a b ∧ v = addB K ts a b) := ⟨hK', hus, hv⟩
  rw [← hus] at hoW hul
  rw [← hK', ← hus, ← hv]
  clear hK' hus hv N1 T1 HB1 hb2
  have hun : us.length ≤ 1099511627776 := by omega
  have V2 := hideP (NetV.new (K := K') (cap := capW) 25 (hoW.ties (Nat.le_refl _)))
  have n0 := N2.out.c0
  have n1 := N2.out.c1
  have nl := N2.out.lt
  have N2a := hideP (N2.out.next (below_one w2 (.cells #[.int .i64 K', .slice aoW us.length capW] 25)))
  have T2a := hideP (T2.out.below (below_one w2 (.cells #[.int .i64 K', .slice aoW us.length capW] 25)) T2.out.2)
  have HB2a := hideP (HB2.out.trans ((below_one w2 (.cells #[.int .i64 K', .slice aoW us.length capW] 25)).mono HB2.out.size))
  clear hoW HB2 T2
  go_wp2_with fail
  refine (netAdd_all K ao cap' ts a b _ hn N2a.out.ties T2a.out).mono ?_
  rw [← HE.out.1, ← HE.out.2.1, ← HE.out.2.2]
  rintro e w3 ⟨aoX, capX, rfl, hoX, hb3⟩
  have N3 := hideP (N2a.out.next hb3)
  have V3 := hideP (V2.out.next hb3)
  have T3 := hideP (T2a.out.below hb3 T2a.out.2)
  have HB3 := hideP (HB2a.out.trans (hb3.mono HB2a.out.size))
  have X3 := hideP (NetV.new (K := K') (cap := capX) 25 (hoX.ties (Nat.le_refl _)))
  clear n0 n1 nl N2 N2a T2a HB2a V2 hb3 hoX
  have n0 := N3.out.c0
  have n1 := N3.out.c1
  have nl := N3.out.lt
  have v0 := V3.out.c0
  have v1 := V3.out.c1
  have vl := V3.out.lt
  have N3a := hideP (N3.out.next (below_one w3 (.cells #[.int .i64 K', .slice aoX us.length capX] 25)))
  have V3a := hideP (V3.out.next (below_one w3 (.cells #[.int .i64 K', .slice aoX us.length capX] 25)))
  have T3a := hideP (T3.out.below (below_one w3 (.cells #[.int .i64 K', .slice aoX us.length capX] 25)) T3.out.2)
  have HB3a := hideP (HB3.out.trans ((below_one w3 (.cells #[.int .i64 K', .slice aoX us.length capX] 25)).mono HB3.out.size))
  clear HB3 T3 N3 V3
  have hvv : (v != v) = false := by simp
  have hvv2 : (v == v) = true := by simp
  go_wp2_with fail
  refine (loNet_same K' _ _ _ _ us _ hun X3.out.ties V3a.out.ties).mono ?_
  rintro e w4 ⟨rfl, hb4⟩
  have N4 := hideP (N3a.out.next hb4)
  have V4 := hideP (V3a.out.next hb4)
  have X4 := hideP (X3.out.next hb4)
  have T4 := hideP (T3a.out.below hb4 T3a.out.2)
  have HB4 := hideP (HB3a.out.trans (hb4.mono HB3a.out.size))
  clear n0 n1 nl v0 v1 vl N3a V3a X3 T3a HB3a hb4 hvv hvv2
  have x0 := X4.out.c0
  have x1 := X4.out.c1
  cases v
  · have v0 := V4.out.c0
    have v1 := V4.out.c1
    go_wp2_with fail
    refine (loNet_same K' _ _ _ _ us _ hun X4.out.ties V4.out.ties).mono ?_
    rintro e w5 ⟨rfl, hb5⟩
    have HB5 := hideP (HB4.out.trans (hb5.mono HB4.out.size))
    clear hb5
    go_wp2
    go_ret
    exact ⟨rfl, HB5.out⟩
  have A := hideP (added HE.out.2.2.symm)
  have HK : K' = K := HE.out.1.trans (addK_yes HE.out.2.2.symm)
  subst HK
  rw [← HE.out.2.1] at A
  go_wp2
  go_loopw [10] (fun i wr => ∃ k : Nat, k ≤ us.length ∧ i = .int .i64 k ∧ Below w4.heap.size w4 wr)
    (fun i _ => us.length - (intOf i).toNat)
  case atStart => exact ⟨0, Nat.zero_le _, rfl, Below.refl _ _⟩
  case round =>
    obtain ⟨k, hk, rfl, hnx⟩ := hrel
    clear x0 x1
    have X5 := hideP (X4.out.next hnx)
    have N5 := hideP (N4.out.next hnx)
    have T5 := hideP (T4.out.below hnx T4.out.2)
    have HB5 := hideP (HB4.out.trans (hnx.mono HB4.out.size))
    have HNX := hideP hnx
    clear hnx
    have x0 := X5.out.c0
    have x1 := X5.out.c1
    by_cases hlt : k < us.length
    · obtain ⟨g, off, rfl, hgw, c0, c1⟩ := X5.out.ties k hlt
      have y1 := N5.out.c1
      have yl := N5.out.lt
      have xl := X5.out.lt
      have hea := A.out.each k hlt
      obtain ⟨x, hx⟩ : ∃ x, x = tA us k := ⟨_, rfl⟩
      obtain ⟨y, hy⟩ : ∃ y, y = tB us k := ⟨_, rfl⟩
      rw [← hx] at c0 hea; rw [← hy] at c1 hea
      obtain ⟨mn, hmn⟩ : ∃ m, m = min a b := ⟨_, rfl⟩
      obtain ⟨mx, hmx⟩ : ∃ m, m = max a b := ⟨_, rfl⟩
      rw [← hmn, ← hmx] at hea
      have HM : Hid (mn = min a b ∧ mx = max a b) := ⟨hmn, hmx⟩
      have hk0 : (0 : Int) ≤ (k : Int) := by omega
      have hk1 : (k : Int) < (us.length : Int) := by omega
      have hne : Nonempty (Cls (Below wr.heap.size wr)) := ⟨⟨wr, Below.refl _ _⟩⟩
      have q1 : ∀ u : Cls (Below wr.heap.size wr), u.w.cell? ⟨w3.heap.size, 1, none⟩ = some (.slice (some ⟨g, off, none⟩) us.length capX) := fun u => (u.ok.cell (p := ⟨w3.heap.size, 1, none⟩) xl).trans x1
      have q2 : ∀ u : Cls (Below wr.heap.size wr), u.w.cell? ⟨w1.heap.size, 1, none⟩ = some (.slice ao ts.length cap') := fun u => (u.ok.cell (p := ⟨w1.heap.size, 1, none⟩) yl).trans y1
      have q3 : ∀ u : Cls (Below wr.heap.size wr), u.w.cell? ⟨g, off + k * 2, none⟩ = some (.int .i64 x) := fun u => (u.ok.cell (p := ⟨g, off + k * 2, none⟩) hgw).trans c0
      have q4 : ∀ u : Cls (Below wr.heap.size wr), u.w.cell? ⟨g, off + k * 2 + 1, none⟩ = some (.int .i64 y) := fun u => (u.ok.cell (p := ⟨g, off + k * 2 + 1, none⟩) hgw).trans c1
      have TC : Hid (∀ u : Cls (Below wr.heap.size wr), TiesIn u.w u.w.heap.size ao ts) := fun u => (N5.out.ties.below (C := wr.heap.size) u.ok (Nat.le_refl _)).wide u.ok.size
      have BC : Hid (∀ (u : Cls (Below wr.heap.size wr)) (w2 : World), Below u.w.heap.size u.w w2 → Below wr.heap.size wr w2) := fun u w2 h => u.ok.trans (h.mono u.ok.size)
      clear hx hy hmn hmx c0 c1
      by_cases hxy : x = mn ∧ y = mx
      · obtain ⟨rfl, rfl⟩ := hxy
        clear hea
        go_wp2
        refine wp_region_cls (Below wr.heap.size wr) (by kernel_rfl) (by kernel_rfl) (Below.refl _ _).drew ?_
        repeat (go_big_quiet_step (first | (go_at_call 12; refine Calls.cls ((loTie_is a b _ _ _ HM.out.1 HM.out.2).mono fun e w2 ⟨he, hb2⟩ => ⟨he, ?_⟩); exact BC.out _ _ hb2)))
        refine wpQuiet_nil ?_
        intro wq hw'
        have hq : Below wr.heap.size wr wq := by obtain ⟨u, e⟩ := hw'; rw [e]; exact u.ok
        clear hw'
        have HNQ := hideP (HNX.out.trans (hq.mono HNX.out.size))
        clear hq
        go_wp2
        go_roundw
        case rel => exact ⟨k + 1, by omega, by go_num, HNQ.out⟩
        case measure => simp [intOf]; omega
      · have HTI : Hid (tiedB ts x y = true) := hea.resolve_left hxy
        have hor : x ≠ mn ∨ y ≠ mx := by
          by_cases hxa : x = mn
          · exact Or.inr (fun e => hxy ⟨hxa, e⟩)
          · exact Or.inl hxa
        clear hea hxy
        rcases hor with hnx | hnx
        · have hne' : (x == mn) = false := by simp [hnx]
          go_wp2
          refine wp_region_cls (Below wr.heap.size wr) (by kernel_rfl) (by kernel_rfl) (Below.refl _ _).drew ?_
          repeat (go_big_quiet_step (first | (go_at_call 12; refine Calls.cls ((loTie_is a b _ _ _ HM.out.1 HM.out.2).mono fun e w2 ⟨he, hb2⟩ => ⟨he, ?_⟩); exact BC.out _ _ hb2) | (go_at_call 13; refine Calls.cls ((loHas_is true _ _ ts x y _ hn ?_ HTI.out).mono fun e w2 ⟨he, hb2⟩ => ⟨he, ?_⟩); exact TC.out _; exact BC.out _ _ hb2)))
          refine wpQuiet_nil ?_
          intro wq hw'
          have hq : Below wr.heap.size wr wq := by obtain ⟨u, e⟩ := hw'; rw [e]; exact u.ok
          clear hw'
          have HNQ := hideP (HNX.out.trans (hq.mono HNX.out.size))
          clear hq
          go_wp2
          go_roundw
          case rel => exact ⟨k + 1, by omega, by go_num, HNQ.out⟩
          case measure => simp [intOf]; omega
        · have hne' : (y == mx) = false := by simp [hnx]
          go_wp2
          refine wp_region_cls (Below wr.heap.size wr) (by kernel_rfl) (by kernel_rfl) (Below.refl _ _).drew ?_
          repeat (go_big_quiet_step (first | (go_at_call 12; refine Calls.cls ((loTie_is a b _ _ _ HM.out.1 HM.out.2).mono fun e w2 ⟨he, hb2⟩ => ⟨he, ?_⟩); exact BC.out _ _ hb2) | (go_at_call 13; refine Calls.cls ((loHas_is true _ _ ts x y _ hn ?_ HTI.out).mono fun e w2 ⟨he, hb2⟩ => ⟨he, ?_⟩); exact TC.out _; exact BC.out _ _ hb2)))
          refine wpQuiet_nil ?_
          intro wq hw'
          have hq : Below wr.heap.size wr wq := by obtain ⟨u, e⟩ := hw'; rw [e]; exact u.ok
          clear hw'
          have HNQ := hideP (HNX.out.trans (hq.mono HNX.out.size))
          clear hq
          go_wp2
          go_roundw
          case rel => exact ⟨k + 1, by omega, by go_num, HNQ.out⟩
          case measure => simp [intOf]; omega
    · have hkn : k = us.length := by omega
      subst hkn
      have hus : us.length ≤ 1099511627776 := hun
      have HL := hideP A.out.len
      have hleq : ((us.length : Int) == (ts.length : Int) + 1) = true := by have := A.out.len; simp; omega
      have HAG := hideP A.out.again
      have HOK := hideP A.out.ok
      have HHAS := hideP A.out.has
      clear A
      go_wp2_with fail
      refine (netAdd_is false K' _ _ us b a _ hun X5.out.ties T5.out HAG.out).mono ?_
      rintro e w6 ⟨K6, ao6, m6, cap6, rfl, hb6⟩
      have X6' := hideP (X5.out.next hb6)
      have X6 := hideP (X6'.out.next (below_one w6 (.cells #[.int .i64 K6, .slice ao6 m6 cap6] 25)))
      have N6 := hideP ((N5.out.next hb6).next (below_one w6 (.cells #[.int .i64 K6, .slice ao6 m6 cap6] 25)))
      have HB6 := hideP ((HB5.out.trans (hb6.mono HB5.out.size)).trans ((below_one w6 (.cells #[.int .i64 K6, .slice ao6 m6 cap6] 25)).mono (HB5.out.trans (hb6.mono HB5.out.size)).size))
      clear x0 x1 hb6
      have x0 := X6'.out.c0
      have x1 := X6'.out.c1
      have xl := X6'.out.lt
      go_wp2_with fail
      refine (netOk_is true K' _ _ us _ hun X6.out.ties HOK.out).mono ?_
      rintro e w7 ⟨rfl, hb7⟩
      have X7 := hideP (X6.out.next hb7)
      have N7 := hideP (N6.out.next hb7)
      have HB7 := hideP (HB6.out.trans (hb7.mono HB6.out.size))
      clear x0 x1 hb7
      have x0 := X7.out.c0
      have x1 := X7.out.c1
      have y1 := N7.out.c1
      go_wp2_with fail
      refine (netHas_is true K' _ _ us a b _ hun X7.out.ties HHAS.out).mono ?_
      rintro e w8 ⟨rfl, hb8⟩
      have HB8 := hideP (HB7.out.trans (hb8.mono HB7.out.size))
      clear hb8
      go_wp2
      go_ret
      exact ⟨rfl, HB8.out⟩

end Go.Proofs.YtmmbbhkgfkhipaaDoor
