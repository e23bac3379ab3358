/- Walk of laws.FnWayTie: it returns true. -/
import Derived.Test.YtcmnjohhffalgaaDoorWReach3
import Derived.Test.YtcmnjohhffalgaaDoorWLo2
import Derived.Test.YtcmnjohhffalgaaDoorWDraw3
import Derived.Test.YtcmnjohhffalgaaDoorWLo
import Derived.Test.YtcmnjohhffalgaaDoorWAlls
import Derived.Deep.RegionHeld3
namespace Go.Proofs.YtcmnjohhffalgaaDoor
open Go.RowKit
set_option linter.unusedVariables false

set_option maxHeartbeats 1600000 in
theorem wayTie_walk (bo : Option Addr) (n cap : Nat) (w : World) (hb : BytesIn w bo n) (hnil : bo = none → n = 0 ∧ cap = 0) (hc : n ≤ cap) (hm : cap ≤ maxLen) (hT : Tab w) :
    Calls Tryd.prog 7 #[.slice bo n cap] w fun e w' => e = .returned (.bool true) ∧ Below w.heap.size w w' := by
  by_cases hl : 1048576 < n
  · have hl' : (1048576 : Int) < (n : Int) := by omega
    have hn' : n ≤ 9223372036854775807 := by unfold maxLen at hm; omega
    go_enter Tryd.func7, Tryd.ntmps7
    go_wp2
    go_ret
    exact ⟨rfl, Below.refl _ _⟩
  have hl' : decide ((1048576 : Int) < (n : Int)) = false := by simp; omega
  go_enter Tryd.func7, Tryd.ntmps7
  go_wp2_with fail
  refine (drawNetAdd_any bo n cap _ hb hnil hc hm).mono ?_
  rintro e w1 ⟨K, ao, cap', ts, a, b, rfl, D1⟩
  have hn : ts.length ≤ 1099511627776 := by have := D1.short; omega
  have HB1 := hideP D1.bel
  have T1 := hideP (hT.below D1.bel hT.2)
  have hoN := D1.own
  clear D1 hT
  have T1a := hideP (T1.out.below (below_one w1 (.cells #[.int .i64 K, .slice ao ts.length cap'] 25)) T1.out.2)
  have HB1a := hideP (HB1.out.trans ((below_one w1 (.cells #[.int .i64 K, .slice ao ts.length cap'] 25)).mono HB1.out.size))
  have N1a := hideP (NetV.new (K := K) (cap := cap') 25 (hoN.ties (Nat.le_refl _)))
  clear hoN
  go_wp2_with fail
  refine (netAdd_all K ao cap' ts a b _ hn N1a.out.ties T1a.out).mono ?_
  rintro e w2 ⟨aoX, capX, rfl, hoX, hb2⟩
  have N2 := hideP (N1a.out.next hb2)
  have T2 := hideP (T1a.out.below hb2 T1a.out.2)
  have HB2 := hideP (HB1a.out.trans (hb2.mono HB1a.out.size))
  have hulus := addTs_len K ts a b
  obtain ⟨KX, hK'⟩ : ∃ x, x = addK K ts a b := ⟨_, rfl⟩
  obtain ⟨us, hus⟩ : ∃ x, x = addTs K ts a b := ⟨_, rfl⟩
  obtain ⟨v, hv⟩ : ∃ x, x = addB K ts a b := ⟨_, rfl⟩
  have HEus : Hid (KX = addK K ts a b ∧ us = addTs K ts a b ∧ v = addB K ts a b) := ⟨hK', hus, hv⟩
  rw [← hus] at hoX hulus
  rw [← hK', ← hus, ← hv]
  clear hK' hus hv
  have hunus : us.length ≤ 1099511627776 := by omega
  have N2a := hideP (N2.out.next (below_one w2 (.cells #[.int .i64 KX, .slice aoX us.length capX] 25)))
  have T2a := hideP (T2.out.below (below_one w2 (.cells #[.int .i64 KX, .slice aoX us.length capX] 25)) T2.out.2)
  have HB2a := hideP (HB2.out.trans ((below_one w2 (.cells #[.int .i64 KX, .slice aoX us.length capX] 25)).mono HB2.out.size))
  have X2a := hideP (NetV.new (K := KX) (cap := capX) 25 (hoX.ties (Nat.le_refl _)))
  clear hoX hb2
  have lNc0 := N2.out.c0
  have lNc1 := N2.out.c1
  have lNlt := N2.out.lt
  go_wp2_with fail
  refine (specAdd_all K ao cap' ts a b _ hn N2a.out.ties).mono ?_
  rw [← HEus.out.1, ← HEus.out.2.1, ← HEus.out.2.2]
  rintro e w3 ⟨aoW, capW, rfl, hoW, hb3⟩
  have N3 := hideP (N2a.out.next hb3)
  have X3 := hideP (X2a.out.next hb3)
  have T3 := hideP (T2a.out.below hb3 T2a.out.2)
  have HB3 := hideP (HB2a.out.trans (hb3.mono HB2a.out.size))
  have N3a := hideP (N3.out.next (below_one w3 (.cells #[.int .i64 KX, .slice aoW us.length capW] 25)))
  have X3a := hideP (X3.out.next (below_one w3 (.cells #[.int .i64 KX, .slice aoW us.length capW] 25)))
  have T3a := hideP (T3.out.below (below_one w3 (.cells #[.int .i64 KX, .slice aoW us.length capW] 25)) T3.out.2)
  have HB3a := hideP (HB3.out.trans ((below_one w3 (.cells #[.int .i64 KX, .slice aoW us.length capW] 25)).mono HB3.out.size))
  have W3a := hideP (NetV.new (K := KX) (cap := capW) 25 (hoW.ties (Nat.le_refl _)))
  clear hoW hb3
  clear lNc0 lNc1 lNlt
  have lNc0 := N3.out.c0
  have lNc1 := N3.out.c1
  have lNlt := N3.out.lt
  have lXc0 := X3.out.c0
  have lXc1 := X3.out.c1
  have lXlt := X3.out.lt
  have hvv : (v != v) = false := by simp
  have hvv2 : (v == v) = true := by simp
  go_wp2_with fail
  refine (loNet_same KX _ _ _ _ us _ hunus X3a.out.ties W3a.out.ties).mono ?_
  rintro e w4 ⟨rfl, hb4⟩
  have N4 := hideP (N3a.out.next hb4)
  have X4 := hideP (X3a.out.next hb4)
  have W4 := hideP (W3a.out.next hb4)
  have T4 := hideP (T3a.out.below hb4 T3a.out.2)
  have HB4 := hideP (HB3a.out.trans (hb4.mono HB3a.out.size))
  clear hb4
  clear lNc0 lNc1 lNlt lXc0 lXc1 lXlt
  have lNc0 := N4.out.c0
  have lNc1 := N4.out.c1
  have lNlt := N4.out.lt
  have lXc0 := X4.out.c0
  have lXc1 := X4.out.c1
  have lXlt := X4.out.lt
  have lWc0 := W4.out.c0
  have lWc1 := W4.out.c1
  have lWlt := W4.out.lt
  cases v
  · go_wp2_with fail
    refine (loNet_same KX _ _ _ _ us _ hunus X4.out.ties W4.out.ties).mono ?_
    rintro e w5 ⟨rfl, hb5⟩
    have HB5 := hideP (HB4.out.trans (hb5.mono HB4.out.size))
    clear hb5
    go_wp2
    go_ret
    exact ⟨rfl, HB5.out⟩
  have hadd := HEus.out.2.2.symm
  obtain ⟨hok, a0, a1, b0, b1, _, _⟩ := addB_yes hadd
  have HKX : KX = K := HEus.out.1.trans (addK_yes hadd)
  subst HKX
  have hK8 := (okB_iff.1 hok).2.1
  have HCA := hideP (cnt_add hadd)
  have HOKx := hideP (added hadd).ok
  rw [← HEus.out.2.1] at HCA HOKx
  have HOK := hideP hok
  obtain ⟨Kn, hKn⟩ : ∃ m : Nat, KX = (m : Int) := ⟨KX.toNat, by omega⟩
  subst hKn
  obtain ⟨an, han⟩ : ∃ m : Nat, a = (m : Int) := ⟨a.toNat, by omega⟩
  subst han
  obtain ⟨bn, hbn⟩ : ∃ m : Nat, b = (m : Int) := ⟨b.toNat, by omega⟩
  subst hbn
  have haK : an < Kn := by omega
  have hbK : bn < Kn := by omega
  have HCB : Hid ((reachB ts an bn = true → cnt us Kn = cnt ts Kn) ∧ (reachB ts an bn = false → cnt us Kn + 1 = cnt ts Kn)) := by
    have h := HCA.out
    simp only [Int.toNat_natCast] at h
    exact ⟨fun e => by rw [if_pos e] at h; exact h, fun e => by rw [if_neg (by rw [e]; exact Bool.false_ne_true)] at h; exact h⟩
  clear HCA
  clear hadd hok a0 a1 b0 b1 hvv hvv2
  go_wp2_with fail
  refine (implReach_ok Kn ao cap' ts an _ hn N4.out.ties T4.out HOK.out haK).mono ?_
  rintro e w5 ⟨g5, cap5, rfl, hO5, hb5⟩
  have N5 := hideP (N4.out.next hb5)
  have X5 := hideP (X4.out.next hb5)
  have T5 := hideP (T4.out.below hb5 T4.out.2)
  have HB5 := hideP (HB4.out.trans (hb5.mono HB4.out.size))
  have cR : w5.cell? ⟨g5, bn, none⟩ = some (.bool (reachB ts an bn)) := (OwnR.at (ao := some ⟨g5, 0, none⟩) (Or.inr ⟨g5, rfl, Nat.zero_le _, hO5.2.2, hO5⟩) hbK).elim fun g ⟨e, h⟩ => by cases e; exact h
  have hbK2 : (bn : Int) < (Kn : Int) := by omega
  clear hb5 hO5 N4 X4 T4 HB4
  obtain ⟨r, hr⟩ : ∃ r, r = reachB ts an bn := ⟨_, rfl⟩
  rw [← hr] at cR HCB
  clear hr
  clear lNc0 lNc1 lNlt lXc0 lXc1 lXlt lWc0 lWc1 lWlt
  have HCL : Hid (cnt us Kn ≤ 8 ∧ cnt ts Kn ≤ 8) := ⟨Nat.le_trans (cnt_le us Kn) (by omega), Nat.le_trans (cnt_le ts Kn) (by omega)⟩
  obtain ⟨c, hc⟩ : ∃ c : Int, c = (cnt us Kn : Int) := ⟨_, rfl⟩
  have hc8 : 0 ≤ c ∧ c ≤ 8 := by have := HCL.out; omega
  have hne : Nonempty (Cls (Below w5.heap.size w5)) := ⟨⟨w5, Below.refl _ _⟩⟩
  have q0 : ∀ u : Cls (Below w5.heap.size w5), u.w.cell? ⟨w1.heap.size, 0, none⟩ = some (.int .i64 (Kn : Int)) := fun u => (u.ok.cell (p := ⟨w1.heap.size, 0, none⟩) N5.out.lt).trans N5.out.c0
  have q1 : ∀ u : Cls (Below w5.heap.size w5), u.w.cell? ⟨w1.heap.size, 1, none⟩ = some (.slice ao ts.length cap') := fun u => (u.ok.cell (p := ⟨w1.heap.size, 1, none⟩) N5.out.lt).trans N5.out.c1
  have q2 : ∀ u : Cls (Below w5.heap.size w5), u.w.cell? ⟨w2.heap.size, 0, none⟩ = some (.int .i64 (Kn : Int)) := fun u => (u.ok.cell (p := ⟨w2.heap.size, 0, none⟩) X5.out.lt).trans X5.out.c0
  have q3 : ∀ u : Cls (Below w5.heap.size w5), u.w.cell? ⟨w2.heap.size, 1, none⟩ = some (.slice aoX us.length capX) := fun u => (u.ok.cell (p := ⟨w2.heap.size, 1, none⟩) X5.out.lt).trans X5.out.c1
  have NC : Hid (∀ u : Cls (Below w5.heap.size w5), TiesIn u.w u.w.heap.size ao ts) := fun u => (N5.out.ties.below (C := w5.heap.size) u.ok (Nat.le_refl _)).wide u.ok.size
  have XC : Hid (∀ u : Cls (Below w5.heap.size w5), TiesIn u.w u.w.heap.size aoX us) := fun u => (X5.out.ties.below (C := w5.heap.size) u.ok (Nat.le_refl _)).wide u.ok.size
  have TC : Hid (∀ u : Cls (Below w5.heap.size w5), Tab u.w) := fun u => T5.out.below u.ok T5.out.2
  have BC : Hid (∀ (u : Cls (Below w5.heap.size w5)) (w2 : World), Below u.w.heap.size u.w w2 → Below w5.heap.size w5 w2) := fun u w2 h => u.ok.trans (h.mono u.ok.size)
  obtain ⟨CV, hCV⟩ : ∃ f : List (Int × Int) → Int, f = countV (Kn : Int) := ⟨_, rfl⟩
  have CALLS : Hid (∀ (u : Cls (Below w5.heap.size w5)) (ao' : Option Addr) (cap2 : Nat) (ts' : List (Int × Int)), ((ao' = aoX ∧ ts' = us) ∨ (ao' = ao ∧ ts' = ts)) → Calls Tryd.prog 18 #[.agg #[.int .i64 (Kn : Int), .slice ao' ts'.length cap2]] u.w fun e w'' => e = .returned (.int .i64 (CV ts')) ∧ ∃ u2 : Cls (Below w5.heap.size w5), w'' = u2.w) := by
    intro u ao' cap2 ts' h
    refine Calls.cls (D := Below w5.heap.size w5) ?_
    rcases h with ⟨rfl, rfl⟩ | ⟨rfl, rfl⟩
    · exact (implCount_ok (CV ts') (Kn : Int) ao' cap2 ts' _ hunus (XC.out u) (TC.out u) (by rw [hCV])).mono fun e w2 ⟨he, hb2⟩ => ⟨he, BC.out _ _ hb2⟩
    · exact (implCount_ok (CV ts') (Kn : Int) ao' cap2 ts' _ hn (NC.out u) (TC.out u) (by rw [hCV])).mono fun e w2 ⟨he, hb2⟩ => ⟨he, BC.out _ _ hb2⟩
  cases r
  · have hvx : CV us = c := by show CV us = c; rw [hCV, countV_ok HOKx.out]; have := HCB.out; simp at this ⊢; omega
    have hvn : CV ts = c + 1 := by show CV ts = c + 1; rw [hCV, countV_ok HOK.out]; have := HCB.out; simp at this ⊢; omega
    clear HCB hc hCV
    go_wp2
    refine wp_region_cls (Below w5.heap.size w5) (by kernel_rfl) (by kernel_rfl) (Below.refl _ _).drew ?_
    repeat (go_big_quiet_step (first | (go_at_call 18; refine CALLS.out _ _ _ _ ?_; first | exact Or.inl ⟨rfl, rfl⟩ | exact Or.inr ⟨rfl, rfl⟩)))
    refine wpQuiet_nil ?_
    intro wz hw'
    have hz : Below w5.heap.size w5 wz := by obtain ⟨u, e⟩ := hw'; rw [e]; exact u.ok
    clear hw'
    have HBZ := hideP (HB5.out.trans (hz.mono HB5.out.size))
    clear hz
    go_wp2
    go_ret
    exact ⟨rfl, HBZ.out⟩
  · have hvx : CV us = c := by show CV us = c; rw [hCV, countV_ok HOKx.out]; have := HCB.out; simp at this ⊢; omega
    have hvn : CV ts = c := by show CV ts = c; rw [hCV, countV_ok HOK.out]; have := HCB.out; simp at this ⊢; omega
    clear HCB hc hCV
    go_wp2
    refine wp_region_cls (Below w5.heap.size w5) (by kernel_rfl) (by kernel_rfl) (Below.refl _ _).drew ?_
    repeat (go_big_quiet_step (first | (go_at_call 18; refine CALLS.out _ _ _ _ ?_; first | exact Or.inl ⟨rfl, rfl⟩ | exact Or.inr ⟨rfl, rfl⟩)))
    refine wpQuiet_nil ?_
    intro wz hw'
    have hz : Below w5.heap.size w5 wz := by obtain ⟨u, e⟩ := hw'; rw [e]; exact u.ok
    clear hw'
    have HBZ := hideP (HB5.out.trans (hz.mono HB5.out.size))
    clear hz
    go_wp2
    go_ret
    exact ⟨rfl, HBZ.out⟩


end Go.Proofs.YtcmnjohhffalgaaDoor
