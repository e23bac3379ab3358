/- Walk of laws.FnBridgeFew: it returns true. -/
import Derived.Test.YtncjdbhicpgfkaaDoorWDraw
import Derived.Test.YtncjdbhicpgfkaaDoorWLo
import Derived.Test.YtncjdbhicpgfkaaDoorWAlls
import Derived.Test.YtncjdbhicpgfkaaDoorMathF
import Derived.Test.YtncjdbhicpgfkaaDoorWBridgeI
import Derived.Test.YtncjdbhicpgfkaaDoorWBridgeL
import Derived.Test.YtncjdbhicpgfkaaDoorWReach3
namespace Go.Proofs.YtncjdbhicpgfkaaDoor
open Go.RowKit
set_option linter.unusedVariables false

theorem loHas_is (v : Bool) (ao : Option Addr) (cap : Nat) (ts : List (Int × Int)) (a b : Int) (w : World) (hn : ts.length ≤ 1099511627776) (ht : TiesIn w w.heap.size ao ts) (h : tiedB ts a b = v) :
    Calls Tryd.prog 35 #[.slice ao ts.length cap, .agg #[.int .i64 a, .int .i64 b]] w fun e w' => e = .returned (.bool v) ∧ Below w.heap.size w w' := by
  rw [← h]; exact loHas_any ao cap ts a b w hn ht

theorem loTie_is (a b mn mx : Int) (w : World) (h1 : mn = min a b) (h2 : mx = max a b) :
    Calls Tryd.prog 33 #[.int .i64 a, .int .i64 b] w fun e w' => e = .returned (.agg #[.int .i64 mn, .int .i64 mx]) ∧ Below w.heap.size w w' := by
  subst h1; subst h2; exact loTie_any a b w

set_option maxHeartbeats 1600000 in
theorem bridgeFew_walk (bo : Option Addr) (n cap : Nat) (w : World) (hb : BytesIn w bo n) (hnil : bo = none → n = 0 ∧ cap = 0) (hc : n ≤ cap) (hm : cap ≤ maxLen) (hT : Tab w) :
    Calls Tryd.prog 11 #[.slice bo n cap] w fun e w' => e = .returned (.bool true) ∧ Below w.heap.size w w' := by
  by_cases hl : 1048576 < n
  · have hl' : (1048576 : Int) < (n : Int) := by omega
    have hn' : n ≤ 9223372036854775807 := by unfold maxLen at hm; omega
    go_enter Tryd.func11, Tryd.ntmps11
    go_wp2
    go_ret
    exact ⟨rfl, Below.refl _ _⟩
  have hl' : decide ((1048576 : Int) < (n : Int)) = false := by simp; omega
  go_enter Tryd.func11, Tryd.ntmps11
  go_wp2_with fail
  refine (drawNetAdd_any bo n cap _ hb hnil hc hm).mono ?_
  rintro e w1 ⟨K, ao, cap', ts, a, b, rfl, D1⟩
  have hn : ts.length ≤ 1099511627776 := by have := D1.short; omega
  have hts : ts.length ≤ 66 := D1.short
  have N1 := hideP (NetV.new (K := K) (cap := cap') 25 (D1.own.ties (Nat.le_refl _)))
  have HB1 := hideP (D1.bel.trans ((below_one w1 (.cells #[.int .i64 K, .slice ao ts.length cap'] 25)).mono D1.bel.size))
  have T1 := hideP (hT.below HB1.out hT.2)
  clear D1 hT
  have hbl := brTs_len K ts
  have hbl' : (brTs K ts).length ≤ 1099511627776 := by omega
  obtain ⟨bs, hbs⟩ : ∃ bs, bs = brTs K ts := ⟨_, rfl⟩
  have HBS := hideP hbs
  rw [← hbs] at hbl hbl'
  clear hbs
  go_wp2_with fail
  refine (implBridges_any K ao cap' ts _ hn N1.out.ties T1.out).mono ?_
  rw [← HBS.out]
  rintro e w2 ⟨aoL, capL, rfl, ho2, hb2⟩
  have N2 := hideP (N1.out.next hb2)
  have T2 := hideP (T1.out.below hb2 T1.out.2)
  have HB2 := hideP (HB1.out.trans (hb2.mono HB1.out.size))
  have L2 := hideP (ho2.ties (Nat.le_refl _))
  clear hb2 ho2 N1 T1 HB1
  have n0 := N2.out.c0
  have n1 := N2.out.c1
  have hul := addTs_len K ts a b
  obtain ⟨KX, hKX⟩ : ∃ K', K' = addK K ts a b := ⟨_, rfl⟩
  obtain ⟨us, hus⟩ : ∃ us, us = addTs K ts a b := ⟨_, rfl⟩
  obtain ⟨v, hv⟩ : ∃ v, v = addB K ts a b := ⟨_, rfl⟩
  have HE : Hid (KX = addK K ts a b ∧ us = addTs K ts a b ∧ v = addB K ts a b) := ⟨hKX, hus, hv⟩
  rw [← hus] at hul
  clear hKX hus hv
  have hun : us.length ≤ 1099511627776 := by omega
  go_wp2_with fail
  refine (netAdd_all K ao cap' ts a b _ hn N2.out.ties T2.out).mono ?_
  rw [← HE.out.1, ← HE.out.2.1, ← HE.out.2.2]
  rintro e w3 ⟨aoX, capX, rfl, hoX, hb3⟩
  have bx := below_one w3 (.cells #[.int .i64 KX, .slice aoX us.length capX] 25)
  have N3 := hideP ((N2.out.next hb3).next bx)
  have T3 := hideP ((T2.out.below hb3 T2.out.2).below bx (T2.out.below hb3 T2.out.2).2)
  have HB3' := HB2.out.trans (hb3.mono HB2.out.size)
  have HB3 := hideP (HB3'.trans (bx.mono HB3'.size))
  have L3' := (L2.out.below hb3 (Nat.le_refl _)).wide hb3.size
  have L3 := hideP ((L3'.below bx (Nat.le_refl _)).wide bx.size)
  have X3 := hideP (NetV.new (K := KX) (cap := capX) 25 (hoX.ties (Nat.le_refl _)))
  have n0' := (N2.out.next hb3).c0
  have n1' := (N2.out.next hb3).c1
  have nl := (N2.out.next hb3).lt
  clear n0 n1 N2 T2 HB2 L2 hb3 hoX bx HB3' L3'
  go_wp2_with fail
  refine (specBridges_any K ao cap' ts _ hn N3.out.ties).mono ?_
  rw [← HBS.out]
  rintro e w4 ⟨aoS, capS, rfl, ho4, hb4⟩
  have N4 := hideP (N3.out.next hb4)
  have X4 := hideP (X3.out.next hb4)
  have T4 := hideP (T3.out.below hb4 T3.out.2)
  have L4 := hideP ((L3.out.below hb4 (Nat.le_refl _)).wide hb4.size)
  have S4 := hideP (ho4.ties (Nat.le_refl _))
  have HB4 := hideP (HB3.out.trans (hb4.mono HB3.out.size))
  clear n0' n1' nl N3 X3 T3 L3 HB3 hb4 ho4
  go_wp2_with fail
  refine (loTies_same aoL aoS capL capS bs _ hbl' L4.out S4.out).mono ?_
  rintro e w5 ⟨rfl, hb5⟩
  have N5 := hideP (N4.out.next hb5)
  have X5 := hideP (X4.out.next hb5)
  have T5 := hideP (T4.out.below hb5 T4.out.2)
  have L5 := hideP ((L4.out.below hb5 (Nat.le_refl _)).wide hb5.size)
  have HB5 := hideP (HB4.out.trans (hb5.mono HB4.out.size))
  clear N4 X4 T4 L4 S4 HB4 hb5
  have n0 := N5.out.c0
  have n1 := N5.out.c1
  have x0 := X5.out.c0
  have x1 := X5.out.c1
  cases v
  · clear x0 x1
    go_wp2_with fail
    refine (specBridges_any K ao cap' ts _ hn N5.out.ties).mono ?_
    rw [← HBS.out]
    rintro e w6 ⟨aoS6, capS6, rfl, ho6, hb6⟩
    have L6 := hideP ((L5.out.below hb6 (Nat.le_refl _)).wide hb6.size)
    have S6 := hideP (ho6.ties (Nat.le_refl _))
    have HB6 := hideP (HB5.out.trans (hb6.mono HB5.out.size))
    clear n0 n1 hb6 ho6
    go_wp2_with fail
    refine (loTies_same aoL aoS6 capL capS6 bs _ hbl' L6.out S6.out).mono ?_
    rintro e w7 ⟨rfl, hb7⟩
    have HB7 := hideP (HB6.out.trans (hb7.mono HB6.out.size))
    clear hb7
    go_wp2
    go_ret
    exact ⟨rfl, HB7.out⟩
  have hadd : addB K ts a b = true := HE.out.2.2.symm
  have HK : KX = K := HE.out.1.trans (addK_yes hadd)
  subst HK
  have HFEW : Hid (∀ k, k < (brTs KX us).length → (tA (brTs KX us) k = min a b ∧ tB (brTs KX us) k = max a b) ∨ tiedB bs (tA (brTs KX us) k) (tB (brTs KX us) k) = true) := fun k hk => by
    rcases few hadd (t := (tA (brTs KX us) k, tB (brTs KX us) k)) (by rw [← HE.out.2.1]; exact mem_at hk) with e | e
    · left; unfold tieOf at e; simp only [Prod.mk.injEq] at e; exact e
    · right; rw [HBS.out]; exact tied_mem.2 e
  have HNEW : Hid (tiedB (brTs KX us) (min a b) (max a b) = !reachB ts a.toNat b.toNat) := by
    show tiedB (brTs KX us) (min a b) (max a b) = _
    rw [HE.out.2.1]; exact few_new hadd
  have HAB : Hid (okB KX ts = true ∧ 0 ≤ a ∧ a < KX ∧ 0 ≤ b ∧ b < KX) := by
    obtain ⟨q1, q2, q3, q4, q5, _⟩ := addB_yes hadd
    exact ⟨q1, q2, q3, q4, q5⟩
  have hml := brTs_len KX us
  have hml' : (brTs KX us).length ≤ 1099511627776 := by omega
  obtain ⟨ms, hms⟩ : ∃ ms, ms = brTs KX us := ⟨_, rfl⟩
  have HMS := hideP hms
  rw [← hms] at hml hml' HFEW HNEW
  clear hms hadd HE
  go_wp2_with fail
  refine (implBridges_any KX aoX capX us _ hun X5.out.ties T5.out).mono ?_
  rw [← HMS.out]
  rintro e w6 ⟨aoM, capM, rfl, ho6, hb6⟩
  have N6 := hideP (N5.out.next hb6)
  have T6 := hideP (T5.out.below hb6 T5.out.2)
  have L6 := hideP ((L5.out.below hb6 (Nat.le_refl _)).wide hb6.size)
  have M6 := hideP (ho6.ties (Nat.le_refl _))
  have HB6 := hideP (HB5.out.trans (hb6.mono HB5.out.size))
  clear n0 n1 x0 x1 N5 X5 T5 L5 HB5 hb6 ho6
  go_wp2
  obtain ⟨NB, hNB⟩ : ∃ x, x = w1.heap.size := ⟨_, rfl⟩
  rw [← hNB] at N6 ⊢
  clear hNB

  go_loopw [10] (fun i wr => ∃ k : Nat, k ≤ ms.length ∧ i = .int .i64 k ∧ Below w6.heap.size w6 wr)
    (fun i _ => ms.length - (intOf i).toNat)
  case atStart => exact ⟨0, Nat.zero_le _, rfl, Below.refl _ _⟩
  case round =>
    obtain ⟨k, hk, rfl, hnx⟩ := hrel
    have N7 := hideP (N6.out.next hnx)
    have T7 := hideP (T6.out.below hnx T6.out.2)
    have L7 := hideP ((L6.out.below hnx (Nat.le_refl _)).wide hnx.size)
    have M7 := hideP ((M6.out.below hnx (Nat.le_refl _)).wide hnx.size)
    have HB7 := hideP (HB6.out.trans (hnx.mono HB6.out.size))
    have HNX := hideP hnx
    clear hnx
    by_cases hlt : k < ms.length
    · obtain ⟨g, off, rfl, hgw, c0, c1⟩ := M7.out k hlt
      have hea := HFEW.out k hlt
      obtain ⟨x, hx⟩ : ∃ x, x = tA ms k := ⟨_, rfl⟩
      obtain ⟨y, hy⟩ : ∃ y, y = tB ms k := ⟨_, rfl⟩
      rw [← hx] at c0 hea; rw [← hy] at c1 hea
      obtain ⟨mn, hmn⟩ : ∃ m, m = min a b := ⟨_, rfl⟩
      obtain ⟨mx, hmx⟩ : ∃ m, m = max a b := ⟨_, rfl⟩
      rw [← hmn, ← hmx] at hea
      have HM : Hid (mn = min a b ∧ mx = max a b) := ⟨hmn, hmx⟩
      have hk0 : (0 : Int) ≤ (k : Int) := by omega
      have hk1 : (k : Int) < (ms.length : Int) := by omega
      have hne : Nonempty (Cls (Below wr.heap.size wr)) := ⟨⟨wr, Below.refl _ _⟩⟩
      have q3 : ∀ u : Cls (Below wr.heap.size wr), u.w.cell? ⟨g, off + k * 2, none⟩ = some (.int .i64 x) := fun u => (u.ok.cell (p := ⟨g, off + k * 2, none⟩) hgw).trans c0
      have q4 : ∀ u : Cls (Below wr.heap.size wr), u.w.cell? ⟨g, off + k * 2 + 1, none⟩ = some (.int .i64 y) := fun u => (u.ok.cell (p := ⟨g, off + k * 2 + 1, none⟩) hgw).trans c1
      have TC : Hid (∀ u : Cls (Below wr.heap.size wr), TiesIn u.w u.w.heap.size aoL bs) := fun u => (L7.out.below (C := wr.heap.size) u.ok (Nat.le_refl _)).wide u.ok.size
      have BC : Hid (∀ (u : Cls (Below wr.heap.size wr)) (w2 : World), Below u.w.heap.size u.w w2 → Below wr.heap.size wr w2) := fun u w2 h => u.ok.trans (h.mono u.ok.size)
      clear hx hy hmn hmx c0 c1 N7 T7 M7 HFEW HNEW HAB
      by_cases hxy : x = mn ∧ y = mx
      · obtain ⟨rfl, rfl⟩ := hxy
        clear hea
        go_wp2
        refine wp_region_cls (Below wr.heap.size wr) (by kernel_rfl) (by kernel_rfl) (Below.refl _ _).drew ?_
        repeat (go_big_quiet_step (first | (go_at_call 33; refine Calls.cls ((loTie_is a b _ _ _ HM.out.1 HM.out.2).mono fun e w2 ⟨he, hb2⟩ => ⟨he, ?_⟩); exact BC.out _ _ hb2)))
        refine wpQuiet_nil ?_
        intro wq hw'
        have hq : Below wr.heap.size wr wq := by obtain ⟨u, e⟩ := hw'; rw [e]; exact u.ok
        clear hw'
        have HNQ := hideP (HNX.out.trans (hq.mono HNX.out.size))
        clear hq
        go_wp2
        go_roundw
        case rel => exact ⟨k + 1, by omega, by go_num, HNQ.out⟩
        case measure => simp [intOf]; omega
      · have HTI : Hid (tiedB bs x y = true) := hea.resolve_left hxy
        have hor : x ≠ mn ∨ y ≠ mx := by
          by_cases hxa : x = mn
          · exact Or.inr (fun e => hxy ⟨hxa, e⟩)
          · exact Or.inl hxa
        clear hea hxy
        rcases hor with hnx | hnx
        · have hne' : (x == mn) = false := by simp [hnx]
          go_wp2
          refine wp_region_cls (Below wr.heap.size wr) (by kernel_rfl) (by kernel_rfl) (Below.refl _ _).drew ?_
          repeat (go_big_quiet_step (first | (go_at_call 33; refine Calls.cls ((loTie_is a b _ _ _ HM.out.1 HM.out.2).mono fun e w2 ⟨he, hb2⟩ => ⟨he, ?_⟩); exact BC.out _ _ hb2) | (go_at_call 35; refine Calls.cls ((loHas_is true _ _ bs x y _ hbl' ?_ HTI.out).mono fun e w2 ⟨he, hb2⟩ => ⟨he, ?_⟩); exact TC.out _; exact BC.out _ _ hb2)))
          refine wpQuiet_nil ?_
          intro wq hw'
          have hq : Below wr.heap.size wr wq := by obtain ⟨u, e⟩ := hw'; rw [e]; exact u.ok
          clear hw'
          have HNQ := hideP (HNX.out.trans (hq.mono HNX.out.size))
          clear hq
          go_wp2
          go_roundw
          case rel => exact ⟨k + 1, by omega, by go_num, HNQ.out⟩
          case measure => simp [intOf]; omega
        · have hne' : (y == mx) = false := by simp [hnx]
          go_wp2
          refine wp_region_cls (Below wr.heap.size wr) (by kernel_rfl) (by kernel_rfl) (Below.refl _ _).drew ?_
          repeat (go_big_quiet_step (first | (go_at_call 33; refine Calls.cls ((loTie_is a b _ _ _ HM.out.1 HM.out.2).mono fun e w2 ⟨he, hb2⟩ => ⟨he, ?_⟩); exact BC.out _ _ hb2) | (go_at_call 35; refine Calls.cls ((loHas_is true _ _ bs x y _ hbl' ?_ HTI.out).mono fun e w2 ⟨he, hb2⟩ => ⟨he, ?_⟩); exact TC.out _; exact BC.out _ _ hb2)))
          refine wpQuiet_nil ?_
          intro wq hw'
          have hq : Below wr.heap.size wr wq := by obtain ⟨u, e⟩ := hw'; rw [e]; exact u.ok
          clear hw'
          have HNQ := hideP (HNX.out.trans (hq.mono HNX.out.size))
          clear hq
          go_wp2
          go_roundw
          case rel => exact ⟨k + 1, by omega, by go_num, HNQ.out⟩
          case measure => simp [intOf]; omega
    · have hkn : k = ms.length := by omega
      subst hkn
      obtain ⟨Kn, hKn⟩ : ∃ m : Nat, KX = (m : Int) := ⟨KX.toNat, by have := (okB_iff.1 HAB.out.1).1; omega⟩
      obtain ⟨an, han⟩ : ∃ m : Nat, a = (m : Int) := ⟨a.toNat, by have := HAB.out; omega⟩
      obtain ⟨bn, hbn⟩ : ∃ m : Nat, b = (m : Int) := ⟨b.toNat, by have := HAB.out; omega⟩
      subst hKn; subst han; subst hbn
      have haK : an < Kn := by have := HAB.out; omega
      have hbK : bn < Kn := by have := HAB.out; omega
      have HOK := hideP HAB.out.1
      have HNW : Hid (tiedB ms (min (an : Int) (bn : Int)) (max (an : Int) (bn : Int)) = !reachB ts an bn) := by show _ = _; have := HNEW.out; simpa using this
      clear HNEW HAB HFEW L7 HNX
      obtain ⟨r, hr⟩ : ∃ r, r = reachB ts an bn := ⟨_, rfl⟩
      have HRR := hideP hr
      rw [← hr] at HNW
      have N7d := hideP (N7.out.next (Below.refl _ _).drew)
      have M7d := hideP ((M7.out.below (Below.refl _ _).drew (Nat.le_refl _)).wide (Nat.le_refl _))
      have T7d := hideP (T7.out.below (Below.refl _ _).drew T7.out.2)
      have HB7d := hideP HB7.out.drew
      clear hr N7 M7 T7 HB7
      have n0 := N7d.out.c0
      have n1 := N7d.out.c1
      have hb0 : (0 : Int) ≤ (bn : Int) := by omega
      have hbK2 : (bn : Int) < (Kn : Int) := by omega
      have hrr : ((!r) == (!r)) = true := by simp
      go_wp2
      go_region_law (first | (go_simp; go_at_call 33; refine (loTie_any (an : Int) (bn : Int) _).mono ?_; rintro e w8 ⟨rfl, hb8⟩; have N8 := hideP (N7d.out.next hb8); have M8 := hideP ((M7d.out.below hb8 (Nat.le_refl _)).wide hb8.size); have T8 := hideP (T7d.out.below hb8 T7d.out.2); have HB8 := hideP (HB7d.out.trans (hb8.mono HB7d.out.size)); have n80 := N8.out.c0; have n81 := N8.out.c1; clear hb8) | (go_simp; go_at_call 35; refine (loHas_is (!r) _ _ ms _ _ _ hml' M8.out HNW.out).mono ?_; rintro e w9 ⟨rfl, hb9⟩; have N9 := hideP (N8.out.next hb9); have T9 := hideP (T8.out.below hb9 T8.out.2); have HB9 := hideP (HB8.out.trans (hb9.mono HB8.out.size)); have n90 := N9.out.c0; have n91 := N9.out.c1; clear hb9) | (go_simp; go_at_call 46; refine (implReach_ok Kn ao cap' ts an _ hn N9.out.ties T9.out HOK.out haK).mono ?_; rintro e w10 ⟨g10, cap10, rfl, hO10, hb10⟩; have c10 : w10.cell? ⟨g10, bn, none⟩ = some (.bool r) := (hO10.1 bn hbK).trans (HRR.out ▸ rfl); have HB10 := hideP (HB9.out.trans (hb10.mono HB9.out.size)); clear hb10 hO10))
      all_goals
        go_wp2
        go_ret
        exact ⟨rfl, HB10.out⟩

end Go.Proofs.YtncjdbhicpgfkaaDoor
