/- Walk of laws.FnNetWithout: it returns true. -/
import Derived.Test.YtmmbbhkgfkhipaaDoorLNetTurn
import Derived.Test.YtmmbbhkgfkhipaaDoorWDraw2
namespace Go.Proofs.YtmmbbhkgfkhipaaDoor
open Go.RowKit
set_option linter.unusedVariables false

set_option maxHeartbeats 1600000 in
theorem netWithout_walk (bo : Option Addr) (n cap : Nat) (w : World) (hb : BytesIn w bo n) (hnil : bo = none → n = 0 ∧ cap = 0) (hc : n ≤ cap) (hm : cap ≤ maxLen) (hT : Tab w) :
    Calls Tryd.prog 7 #[.slice bo n cap] w fun e w' => e = .returned (.bool true) ∧ Below w.heap.size w w' := by
  by_cases hl : 1048576 < n
  · have hl' : (1048576 : Int) < (n : Int) := by omega
    have hn' : n ≤ 9223372036854775807 := by unfold maxLen at hm; omega
    go_enter Tryd.func7, Tryd.ntmps7
    go_wp2
    go_ret
    exact ⟨rfl, Below.refl _ _⟩
  have hl' : decide ((1048576 : Int) < (n : Int)) = false := by simp; omega
  go_enter Tryd.func7, Tryd.ntmps7
  go_wp2_with fail
  refine (drawNetWithout_any bo n cap _ hb hnil hc hm).mono ?_
  rintro e w1 ⟨K, ao, cap', ts, k, rfl, k0, k9, D1⟩
  have hn : ts.length ≤ 1099511627776 := by have := D1.short; omega
  have HB1 := hideP D1.bel
  have T1 := hideP (hT.below D1.bel hT.2)
  have hoN := D1.own
  clear D1 hT
  have T1a := hideP (T1.out.below (below_one w1 (.cells #[.int .i64 K, .slice ao ts.length cap'] 25)) T1.out.2)
  have HB1a := hideP (HB1.out.trans ((below_one w1 (.cells #[.int .i64 K, .slice ao ts.length cap'] 25)).mono HB1.out.size))
  have N1a := hideP (NetV.new (K := K) (cap := cap') 25 (hoN.ties (Nat.le_refl _)))
  clear hoN
  go_wp2_with fail
  refine (netOut_all K ao cap' ts k _ hn N1a.out.ties T1a.out).mono ?_
  rintro e w2 ⟨aoX, capX, rfl, hoX, hb2⟩
  have N2 := hideP (N1a.out.next hb2)
  have T2 := hideP (T1a.out.below hb2 T1a.out.2)
  have HB2 := hideP (HB1a.out.trans (hb2.mono HB1a.out.size))
  have hul := outTs_len K ts k
  obtain ⟨KX, hK'⟩ : ∃ x, x = outK K ts k := ⟨_, rfl⟩
  obtain ⟨us, hus⟩ : ∃ x, x = outTs K ts k := ⟨_, rfl⟩
  have HE : Hid (KX = outK K ts k ∧ us = outTs K ts k) := ⟨hK', hus⟩
  rw [← hus] at hoX hul
  rw [← hK', ← hus]
  clear hK' hus
  have hun : us.length ≤ 1099511627776 := by omega
  have N2a := hideP (N2.out.next (below_one w2 (.cells #[.int .i64 KX, .slice aoX us.length capX] 25)))
  have T2a := hideP (T2.out.below (below_one w2 (.cells #[.int .i64 KX, .slice aoX us.length capX] 25)) T2.out.2)
  have HB2a := hideP (HB2.out.trans ((below_one w2 (.cells #[.int .i64 KX, .slice aoX us.length capX] 25)).mono HB2.out.size))
  have X2a := hideP (NetV.new (K := KX) (cap := capX) 25 (hoX.ties (Nat.le_refl _)))
  clear hoX hb2
  have lNc0 := N2.out.c0
  have lNc1 := N2.out.c1
  have lNlt := N2.out.lt
  have dr := (Below.refl (w2.alloc (.cells #[.int .i64 KX, .slice aoX us.length capX] 25)).heap.size (w2.alloc (.cells #[.int .i64 KX, .slice aoX us.length capX] 25))).drew
  have X2d := hideP (X2a.out.next dr)
  have N2d := hideP (N2a.out.next dr)
  have T2d := hideP (T2a.out.below dr T2a.out.2)
  have HB2d := hideP (HB2a.out.trans (dr.mono HB2a.out.size))
  clear dr
  cases hv : outB K ts k
  · have HK0 : KX = 0 := HE.out.1.trans (by simp [outK, hv])
    subst HK0
    clear hv
    go_wp2_with fail
    go_region_held3 (fun w' => w'.cell? ⟨w2.heap.size, 0, none⟩ = some (.int .i64 0) ∧ w'.cell? ⟨w2.heap.size, 1, none⟩ = some (.slice aoX us.length capX) ∧ w'.cell? ⟨w1.heap.size, 0, none⟩ = some (.int .i64 K) ∧ w'.cell? ⟨w1.heap.size, 1, none⟩ = some (.slice ao ts.length cap')) (first | exact ⟨X2d.out.c0, X2d.out.c1, N2d.out.c0, N2d.out.c1⟩ | exact ⟨X3.out.c0, X3.out.c1, N3.out.c0, N3.out.c1⟩ | exact ⟨X4.out.c0, X4.out.c1, N4.out.c0, N4.out.c1⟩) (first | (go_at_call 22; refine (specOut_all K ao cap' ts k _ hn N2d.out.ties).mono ?_; rw [← HE.out.1, ← HE.out.2]; rintro e w3 ⟨aoW, capW, rfl, hoW, hb3⟩; have X3 := hideP (X2d.out.next hb3); have N3 := hideP (N2d.out.next hb3); have HB3 := hideP (HB2d.out.trans (hb3.mono HB2d.out.size)); have T3 := hideP (T2d.out.below hb3 T2d.out.2)) | (go_at_call 11; refine (loNet_same 0 _ _ _ _ us _ hun X3.out.ties (hoW.ties (Nat.le_refl _))).mono ?_; rintro e w4 ⟨rfl, hb4⟩; have X4 := hideP (X3.out.next hb4); have N4 := hideP (N3.out.next hb4); have HB4 := hideP (HB3.out.trans (hb4.mono HB3.out.size)); have T4 := hideP (T3.out.below hb4 T3.out.2)))
    clear hb3 hb4 hoW lNc0 lNc1 lNlt
    have x0 := X4.out.c0
    have x1 := X4.out.c1
    have n0 := N4.out.c0
    have n1 := N4.out.c1
    have dr4 := (Below.refl w4.heap.size w4).drew
    have X4d := hideP (X4.out.next dr4)
    have N4d := hideP (N4.out.next dr4)
    have T4d := hideP (T4.out.below dr4 T4.out.2)
    have HB4d := hideP (HB4.out.trans (dr4.mono HB4.out.size))
    clear dr4
    go_wp2_with fail
    go_region_held3 (fun w' => w'.cell? ⟨w2.heap.size, 0, none⟩ = some (.int .i64 0) ∧ w'.cell? ⟨w2.heap.size, 1, none⟩ = some (.slice aoX us.length capX) ∧ w'.cell? ⟨w1.heap.size, 0, none⟩ = some (.int .i64 K) ∧ w'.cell? ⟨w1.heap.size, 1, none⟩ = some (.slice ao ts.length cap')) (first | exact ⟨X4d.out.c0, X4d.out.c1, N4d.out.c0, N4d.out.c1⟩ | exact ⟨X5.out.c0, X5.out.c1, N5.out.c0, N5.out.c1⟩ | exact ⟨X6.out.c0, X6.out.c1, N6.out.c0, N6.out.c1⟩) (first | (go_at_call 22; refine (specOut_all K ao cap' ts k _ hn N4d.out.ties).mono ?_; rw [← HE.out.1, ← HE.out.2]; rintro e w5 ⟨aoW, capW, rfl, hoW, hb5⟩; have X5 := hideP (X4d.out.next hb5); have N5 := hideP (N4d.out.next hb5); have HB5 := hideP (HB4d.out.trans (hb5.mono HB4d.out.size)); have T5 := hideP (T4d.out.below hb5 T4d.out.2)) | (go_at_call 11; refine (loNet_same 0 _ _ _ _ us _ hun X5.out.ties (hoW.ties (Nat.le_refl _))).mono ?_; rintro e w6 ⟨rfl, hb6⟩; have X6 := hideP (X5.out.next hb6); have N6 := hideP (N5.out.next hb6); have HB6 := hideP (HB5.out.trans (hb6.mono HB5.out.size)); have T6 := hideP (T5.out.below hb6 T5.out.2)))
    clear hb5 hb6 hoW
    go_wp2
    go_ret
    exact ⟨rfl, HB6.out⟩
  · have hv' := out_ok hv
    have HK0 : KX = K := HE.out.1.trans (outK_yes hv)
    subst HK0
    have hK0 : 0 < KX := by have := hv'.2; simp [knotB] at this; omega
    have hKz : (KX == 0) = false := by simp; omega
    have WO := without hv
    rw [← HE.out.2] at WO
    have A := hideP WO
    clear hv hv' WO
    go_wp2_with fail
    go_region_held3 (fun w' => w'.cell? ⟨w2.heap.size, 0, none⟩ = some (.int .i64 KX) ∧ w'.cell? ⟨w2.heap.size, 1, none⟩ = some (.slice aoX us.length capX) ∧ w'.cell? ⟨w1.heap.size, 0, none⟩ = some (.int .i64 KX) ∧ w'.cell? ⟨w1.heap.size, 1, none⟩ = some (.slice ao ts.length cap')) (first | exact ⟨X2d.out.c0, X2d.out.c1, N2d.out.c0, N2d.out.c1⟩ | exact ⟨X3.out.c0, X3.out.c1, N3.out.c0, N3.out.c1⟩ | exact ⟨X4.out.c0, X4.out.c1, N4.out.c0, N4.out.c1⟩) (first | (go_at_call 22; refine (specOut_all KX ao cap' ts k _ hn N2d.out.ties).mono ?_; rw [← HE.out.1, ← HE.out.2]; rintro e w3 ⟨aoW, capW, rfl, hoW, hb3⟩; have X3 := hideP (X2d.out.next hb3); have N3 := hideP (N2d.out.next hb3); have HB3 := hideP (HB2d.out.trans (hb3.mono HB2d.out.size)); have T3 := hideP (T2d.out.below hb3 T2d.out.2)) | (go_at_call 11; refine (loNet_same KX _ _ _ _ us _ hun X3.out.ties (hoW.ties (Nat.le_refl _))).mono ?_; rintro e w4 ⟨rfl, hb4⟩; have X4 := hideP (X3.out.next hb4); have N4 := hideP (N3.out.next hb4); have HB4 := hideP (HB3.out.trans (hb4.mono HB3.out.size)); have T4 := hideP (T3.out.below hb4 T3.out.2)))
    clear hb3 hb4 hoW lNc0 lNc1 lNlt
    have n0 := N4.out.c0
    have n1 := N4.out.c1
    have x0 := X4.out.c0
    have x1 := X4.out.c1
    go_wp2
    go_loopw [6] (fun i wr => ∃ j : Nat, j ≤ ts.length ∧ i = .int .i64 j ∧ Below w4.heap.size w4 wr)
      (fun i _ => ts.length - (intOf i).toNat)
    case atStart => exact ⟨0, Nat.zero_le _, rfl, Below.refl _ _⟩
    case round =>
      obtain ⟨j, hj, rfl, hnx⟩ := hrel
      clear n0 n1 x0 x1
      have X5 := hideP (X4.out.next hnx)
      have N5 := hideP (N4.out.next hnx)
      have HB5 := hideP (HB4.out.trans (hnx.mono HB4.out.size))
      have HNX := hideP hnx
      clear hnx
      have n0 := N5.out.c0
      have n1 := N5.out.c1
      have nl := N5.out.lt
      by_cases hlt : j < ts.length
      · obtain ⟨g, off, rfl, hgw, c0, c1⟩ := N5.out.ties j hlt
        have hea := A.out.each j hlt
        obtain ⟨x, hx⟩ : ∃ x, x = tA ts j := ⟨_, rfl⟩
        obtain ⟨y, hy⟩ : ∃ y, y = tB ts j := ⟨_, rfl⟩
        rw [← hx] at c0 hea; rw [← hy] at c1 hea
        have hk0 : (0 : Int) ≤ (j : Int) := by omega
        have hk1 : (j : Int) < (ts.length : Int) := by omega
        have hne : Nonempty (Cls (Below wr.heap.size wr)) := ⟨⟨wr, Below.refl _ _⟩⟩
        have q2 : ∀ u : Cls (Below wr.heap.size wr), u.w.cell? ⟨w1.heap.size, 1, none⟩ = some (.slice (some ⟨g, off, none⟩) ts.length cap') := fun u => (u.ok.cell (p := ⟨w1.heap.size, 1, none⟩) nl).trans n1
        have q3 : ∀ u : Cls (Below wr.heap.size wr), u.w.cell? ⟨g, off + j * 2, none⟩ = some (.int .i64 x) := fun u => (u.ok.cell (p := ⟨g, off + j * 2, none⟩) hgw).trans c0
        have q4 : ∀ u : Cls (Below wr.heap.size wr), u.w.cell? ⟨g, off + j * 2 + 1, none⟩ = some (.int .i64 y) := fun u => (u.ok.cell (p := ⟨g, off + j * 2 + 1, none⟩) hgw).trans c1
        clear hx hy
        by_cases hxk : x = k
        · have HTI : Hid (tiedB us x y = false) := by show tiedB us x y = false; rw [hea]; simp [hxk]
          clear hea
          subst hxk
          have q1 : ∀ u : Cls (Below wr.heap.size wr), u.w.cell? ⟨w2.heap.size, 1, none⟩ = some (.slice aoX us.length capX) := fun u => (u.ok.cell (p := ⟨w2.heap.size, 1, none⟩) X5.out.lt).trans X5.out.c1
          have TC : Hid (∀ u : Cls (Below wr.heap.size wr), TiesIn u.w u.w.heap.size aoX us) := fun u => (X5.out.ties.below (C := wr.heap.size) u.ok (Nat.le_refl _)).wide u.ok.size
          have BC : Hid (∀ (u : Cls (Below wr.heap.size wr)) (w2 : World), Below u.w.heap.size u.w w2 → Below wr.heap.size wr w2) := fun u w2 h => u.ok.trans (h.mono u.ok.size)
          go_wp2
          refine wp_region_cls (Below wr.heap.size wr) (by kernel_rfl) (by kernel_rfl) (Below.refl _ _).drew ?_
          repeat (go_big_quiet_step (first | (go_at_call 13; refine Calls.cls ((loHas_is false _ _ us x y _ hun ?_ HTI.out).mono fun e w2 ⟨he, hb2⟩ => ⟨he, ?_⟩); exact TC.out _; exact BC.out _ _ hb2)))
          refine wpQuiet_nil ?_
          intro wz hw'
          have hz : Below wr.heap.size wr wz := by obtain ⟨u, e⟩ := hw'; rw [e]; exact u.ok
          clear hw'
          have HNQ := hideP (HNX.out.trans (hz.mono HNX.out.size))
          clear hz
          go_wp2
          go_roundw
          case rel => exact ⟨j + 1, by omega, by go_num, HNQ.out⟩
          case measure => simp [intOf]; omega
        · have hb1 : (x == k) = false := by simp [hxk]
          by_cases hyk : y = k
          · have HTI : Hid (tiedB us x y = false) := by show tiedB us x y = false; rw [hea]; simp [hyk]
            clear hxk hea
            subst hyk
            have q1 : ∀ u : Cls (Below wr.heap.size wr), u.w.cell? ⟨w2.heap.size, 1, none⟩ = some (.slice aoX us.length capX) := fun u => (u.ok.cell (p := ⟨w2.heap.size, 1, none⟩) X5.out.lt).trans X5.out.c1
            have TC : Hid (∀ u : Cls (Below wr.heap.size wr), TiesIn u.w u.w.heap.size aoX us) := fun u => (X5.out.ties.below (C := wr.heap.size) u.ok (Nat.le_refl _)).wide u.ok.size
            have BC : Hid (∀ (u : Cls (Below wr.heap.size wr)) (w2 : World), Below u.w.heap.size u.w w2 → Below wr.heap.size wr w2) := fun u w2 h => u.ok.trans (h.mono u.ok.size)
            go_wp2
            refine wp_region_cls (Below wr.heap.size wr) (by kernel_rfl) (by kernel_rfl) (Below.refl _ _).drew ?_
            repeat (go_big_quiet_step (first | (go_at_call 13; refine Calls.cls ((loHas_is false _ _ us x y _ hun ?_ HTI.out).mono fun e w2 ⟨he, hb2⟩ => ⟨he, ?_⟩); exact TC.out _; exact BC.out _ _ hb2)))
            refine wpQuiet_nil ?_
            intro wz hw'
            have hz : Below wr.heap.size wr wz := by obtain ⟨u, e⟩ := hw'; rw [e]; exact u.ok
            clear hw'
            have HNQ := hideP (HNX.out.trans (hz.mono HNX.out.size))
            clear hz
            go_wp2
            go_roundw
            case rel => exact ⟨j + 1, by omega, by go_num, HNQ.out⟩
            case measure => simp [intOf]; omega
          · have hb2 : (y == k) = false := by simp [hyk]
            have HTI : Hid (tiedB us x y = true) := by show tiedB us x y = true; rw [hea]; simp [hxk, hyk]
            clear hxk hyk hea
            have q1 : ∀ u : Cls (Below wr.heap.size wr), u.w.cell? ⟨w2.heap.size, 1, none⟩ = some (.slice aoX us.length capX) := fun u => (u.ok.cell (p := ⟨w2.heap.size, 1, none⟩) X5.out.lt).trans X5.out.c1
            have TC : Hid (∀ u : Cls (Below wr.heap.size wr), TiesIn u.w u.w.heap.size aoX us) := fun u => (X5.out.ties.below (C := wr.heap.size) u.ok (Nat.le_refl _)).wide u.ok.size
            have BC : Hid (∀ (u : Cls (Below wr.heap.size wr)) (w2 : World), Below u.w.heap.size u.w w2 → Below wr.heap.size wr w2) := fun u w2 h => u.ok.trans (h.mono u.ok.size)
            go_wp2
            refine wp_region_cls (Below wr.heap.size wr) (by kernel_rfl) (by kernel_rfl) (Below.refl _ _).drew ?_
            repeat (go_big_quiet_step (first | (go_at_call 13; refine Calls.cls ((loHas_is true _ _ us x y _ hun ?_ HTI.out).mono fun e w2 ⟨he, hb2⟩ => ⟨he, ?_⟩); exact TC.out _; exact BC.out _ _ hb2)))
            refine wpQuiet_nil ?_
            intro wz hw'
            have hz : Below wr.heap.size wr wz := by obtain ⟨u, e⟩ := hw'; rw [e]; exact u.ok
            clear hw'
            have HNQ := hideP (HNX.out.trans (hz.mono HNX.out.size))
            clear hz
            go_wp2
            go_roundw
            case rel => exact ⟨j + 1, by omega, by go_num, HNQ.out⟩
            case measure => simp [intOf]; omega
      · have hjn : j = ts.length := by omega
        subst hjn
        have HLE : Hid (us.length ≤ ts.length) := A.out.len
        have hle : (us.length : Int) ≤ (ts.length : Int) := by have := A.out.len; omega
        have HOK := hideP A.out.ok
        have x0 := X5.out.c0
        have x1 := X5.out.c1
        clear A
        go_wp2_with fail
        refine (netOk_is true KX _ _ us _ hun X5.out.ties HOK.out).mono ?_
        rintro e w6 ⟨rfl, hb6⟩
        have X6 := hideP (X5.out.next hb6)
        have N6 := hideP (N5.out.next hb6)
        have HB6 := hideP (HB5.out.trans (hb6.mono HB5.out.size))
        clear x0 x1 n0 n1 nl hb6
        have x0 := X6.out.c0
        have x1 := X6.out.c1
        have n0 := N6.out.c0
        have n1 := N6.out.c1
        go_wp2
        go_ret
        exact ⟨rfl, HB6.out⟩

end Go.Proofs.YtmmbbhkgfkhipaaDoor
