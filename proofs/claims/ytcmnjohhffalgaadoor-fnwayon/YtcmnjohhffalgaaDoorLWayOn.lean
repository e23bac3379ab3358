/- Walk of laws.FnWayOn: it returns true. -/
import Derived.Test.YtcmnjohhffalgaaDoorWReach3
import Derived.Test.YtcmnjohhffalgaaDoorWLo2
import Derived.Test.YtcmnjohhffalgaaDoorWDraw3
import Derived.Test.YtcmnjohhffalgaaDoorWLo
import Derived.Deep.RegionHeld3
import Derived.Deep.RegionWith
import Derived.Test.YtcmnjohhffalgaaDoorWQuiet
namespace Go.Proofs.YtcmnjohhffalgaaDoor
open Go.RowKit
set_option linter.unusedVariables false

set_option maxHeartbeats 1600000 in
theorem wayOn_walk (bo : Option Addr) (n cap : Nat) (w : World) (hb : BytesIn w bo n) (hnil : bo = none → n = 0 ∧ cap = 0) (hc : n ≤ cap) (hm : cap ≤ maxLen) (hT : Tab w) :
    Calls Tryd.prog 4 #[.slice bo n cap] w fun e w' => e = .returned (.bool true) ∧ Below w.heap.size w w' := by
  by_cases hl : 1048576 < n
  · have hl' : (1048576 : Int) < (n : Int) := by omega
    have hn' : n ≤ 9223372036854775807 := by unfold maxLen at hm; omega
    go_enter Tryd.func4, Tryd.ntmps4
    go_wp2
    go_ret
    exact ⟨rfl, Below.refl _ _⟩
  have hl' : decide ((1048576 : Int) < (n : Int)) = false := by simp; omega
  go_enter Tryd.func4, Tryd.ntmps4
  go_wp2_with fail
  refine (drawWayReach_any bo n cap _ hb hnil hc hm).mono ?_
  rintro e w1 ⟨K, ao, cap', ts, k, rfl, k0, k9, D1⟩
  have hn : ts.length ≤ 1099511627776 := by have := D1.short; omega
  have HB1 := hideP D1.bel
  have T1 := hideP (hT.below D1.bel hT.2)
  have hoN := D1.own
  clear D1 hT
  have T1a := hideP (T1.out.below (below_one w1 (.cells #[.int .i64 K, .slice ao ts.length cap'] 25)) T1.out.2)
  have HB1a := hideP (HB1.out.trans ((below_one w1 (.cells #[.int .i64 K, .slice ao ts.length cap'] 25)).mono HB1.out.size))
  have N1a := hideP (NetV.new (K := K) (cap := cap') 25 (hoN.ties (Nat.le_refl _)))
  clear hoN
  go_wp2_with fail
  refine (specReach_any K ao cap' ts k _ hn N1a.out.ties).mono ?_
  rintro e w2 ⟨aoW, capW, rfl, hoW, hb2⟩
  have N2 := hideP (N1a.out.next hb2)
  have T2 := hideP (T1a.out.below hb2 T1a.out.2)
  have HB2 := hideP (HB1a.out.trans (hb2.mono HB1a.out.size))
  have W2 := hideP hoW.seen
  clear hb2 hoW
  have lNc0 := N2.out.c0
  have lNc1 := N2.out.c1
  have lNlt := N2.out.lt
  go_wp2_with fail
  refine (implReach_any K ao cap' ts k _ hn N2.out.ties T2.out).mono ?_
  rintro e w3 ⟨aoR, capR, rfl, hoR, hb3⟩
  have N3 := hideP (N2.out.next hb3)
  have T3 := hideP (T2.out.below hb3 T2.out.2)
  have HB3 := hideP (HB2.out.trans (hb3.mono HB2.out.size))
  have W3 := hideP (W2.out.next hb3)
  have R3 := hideP hoR.seen
  clear hb3 hoR
  have hN8 : reachN K ts k ≤ 1000 := by
    unfold reachN
    split
    · rename_i hh
      simp only [Bool.and_eq_true] at hh
      have := (okB_iff.1 hh.1).2.1
      omega
    · omega
  obtain ⟨M, hMM⟩ : ∃ M, M = reachB ts k.toNat := ⟨_, rfl⟩
  have HM := hideP hMM
  rw [← hMM] at W3 R3
  clear hMM
  obtain ⟨m, hmm⟩ : ∃ m, m = reachN K ts k := ⟨_, rfl⟩
  have HMM := hideP hmm
  rw [← hmm] at hN8 W3 R3 ⊢
  clear hmm
  go_wp2_with fail
  refine (loBools_same _ _ _ _ m M _ hN8 R3.out.row W3.out.row).mono ?_
  rintro e w4 ⟨rfl, hb4⟩
  have N4 := hideP (N3.out.next hb4)
  have T4 := hideP (T3.out.below hb4 T3.out.2)
  have HB4 := hideP (HB3.out.trans (hb4.mono HB3.out.size))
  have W4 := hideP (W3.out.next hb4)
  have R4 := hideP (R3.out.next hb4)
  clear hb4
  by_cases hm0 : m = 0
  · subst hm0
    go_wp2_with fail
    refine (loBools_same _ _ _ _ 0 M _ (by omega) R4.out.row W4.out.row).mono ?_
    rintro e w5 ⟨rfl, hb5⟩
    have HB5 := hideP (HB4.out.trans (hb5.mono HB4.out.size))
    clear hb5
    go_wp2
    go_ret
    exact ⟨rfl, HB5.out⟩
  have hokk : (okB K ts && knotB k K) = true := by
    apply Decidable.byContradiction
    intro hc
    exact hm0 (HMM.out.trans (by unfold reachN; rw [if_neg hc]))
  simp only [Bool.and_eq_true] at hokk
  have hnet := okB_iff.1 hokk.1
  have HNT := hideP hnet
  have HOK := hideP hokk.1
  have hkk : 0 ≤ k ∧ k < K := by have := hokk.2; simp only [knotB, Bool.and_eq_true, decide_eq_true_eq] at this; exact this
  have hmK : m = K.toNat := HMM.out.trans (by unfold reachN; rw [if_pos (by simp [hokk.1, hokk.2])])
  obtain ⟨Kn, hKn⟩ : ∃ x : Nat, K = (x : Int) := ⟨K.toNat, by omega⟩
  subst hKn
  obtain ⟨kn, hkn⟩ : ∃ x : Nat, k = (x : Int) := ⟨k.toNat, by omega⟩
  subst hkn
  obtain rfl : m = Kn := by simpa using hmK
  have hK8 : m ≤ 8 := by have := hnet.2.1; omega
  have hkK : kn < m := by omega
  have HM' : Hid (M = reachB ts kn) := by show M = reachB ts kn; rw [HM.out]; simp
  have hm1 : ((m : Int) == 0) = false := by simp; omega
  clear hokk hkk hmK hnet
  have n0 := N4.out.c0
  have n1 := N4.out.c1
  go_wp2
  go_loopw [7] (fun i wr => ∃ j : Nat, j ≤ ts.length ∧ i = .int .i64 j ∧ Below w4.heap.size w4 wr)
    (fun i _ => ts.length - (intOf i).toNat)
  case atStart => exact ⟨0, Nat.zero_le _, rfl, Below.refl _ _⟩
  case round =>
    obtain ⟨j, hj, rfl, hnx⟩ := hrel
    clear n0 n1 lNc0 lNc1 lNlt
    have N5 := hideP (N4.out.next hnx)
    have R5 := hideP (R4.out.next hnx)
    have HB5 := hideP (HB4.out.trans (hnx.mono HB4.out.size))
    have HNX := hideP hnx
    clear hnx
    have n0 := N5.out.c0
    have n1 := N5.out.c1
    have nl := N5.out.lt
    by_cases hlt : j < ts.length
    · obtain ⟨g, off, rfl, hgw, c0, c1⟩ := N5.out.ties j hlt
      have htie := HNT.out.2.2 j hlt
      have ht0 : 0 ≤ tA ts j ∧ tA ts j < tB ts j ∧ tB ts j < (m : Int) := htie.1
      have hrt := reachB_tie ts kn j hlt
      obtain ⟨x, hx⟩ : ∃ x : Nat, tA ts j = (x : Int) := ⟨(tA ts j).toNat, by omega⟩
      obtain ⟨y, hy⟩ : ∃ y : Nat, tB ts j = (y : Int) := ⟨(tB ts j).toNat, by omega⟩
      rw [hx] at c0 ht0 hrt; rw [hy] at c1 ht0 hrt
      simp only [Int.toNat_natCast] at hrt
      obtain ⟨gR, offR, rfl, _, _, hgR, cR⟩ := R5.out x (by omega)
      obtain ⟨gR2, offR2, e2, _, _, hgR2, cR2⟩ := R5.out y (by omega)
      cases e2
      obtain ⟨r, hr⟩ : ∃ r, r = reachB ts kn x := ⟨_, rfl⟩
      have cR' : wr.cell? ⟨gR, offR + x, none⟩ = some (.bool r) := by rw [cR, HM'.out, hr]; rfl
      have cR2' : wr.cell? ⟨gR, offR + y, none⟩ = some (.bool r) := by rw [cR2, HM'.out, hr, hrt]; rfl
      have hrr : (r != r) = false := by simp
      have hk0 : (0 : Int) ≤ (j : Int) := by omega
      have hk1 : (j : Int) < (ts.length : Int) := by omega
      have hx1 : (x : Int) < (m : Int) := by omega
      have hy1 : (y : Int) < (m : Int) := by omega
      clear cR cR2 hr hx hy htie ht0 hrt
      have hne : Nonempty (Cls (Below wr.heap.size wr)) := ⟨⟨wr, Below.refl _ _⟩⟩
      have q1 : ∀ u : Cls (Below wr.heap.size wr), u.w.cell? ⟨w1.heap.size, 1, none⟩ = some (.slice (some ⟨g, off, none⟩) ts.length cap') := fun u => (u.ok.cell (p := ⟨w1.heap.size, 1, none⟩) nl).trans n1
      have q2 : ∀ u : Cls (Below wr.heap.size wr), u.w.cell? ⟨g, off + j * 2, none⟩ = some (.int .i64 (x : Int)) := fun u => (u.ok.cell (p := ⟨g, off + j * 2, none⟩) hgw).trans c0
      have q3 : ∀ u : Cls (Below wr.heap.size wr), u.w.cell? ⟨g, off + j * 2 + 1, none⟩ = some (.int .i64 (y : Int)) := fun u => (u.ok.cell (p := ⟨g, off + j * 2 + 1, none⟩) hgw).trans c1
      have q4 : ∀ u : Cls (Below wr.heap.size wr), u.w.cell? ⟨gR, offR + x, none⟩ = some (.bool r) := fun u => (u.ok.cell (p := ⟨gR, offR + x, none⟩) hgR).trans cR'
      have q5 : ∀ u : Cls (Below wr.heap.size wr), u.w.cell? ⟨gR, offR + y, none⟩ = some (.bool r) := fun u => (u.ok.cell (p := ⟨gR, offR + y, none⟩) hgR).trans cR2'
      go_wp2
      refine wp_region_cls (Below wr.heap.size wr) (by kernel_rfl) (by kernel_rfl) (Below.refl _ _).drew ?_
      repeat (go_big_quiet_step (fail))
      refine wpQuiet_nil ?_
      intro wz hw'
      have hz : Below wr.heap.size wr wz := by obtain ⟨u, e⟩ := hw'; rw [e]; exact u.ok
      clear hw'
      have HNQ := hideP (HNX.out.trans (hz.mono HNX.out.size))
      clear hz
      go_wp2
      go_roundw
      case rel => exact ⟨j + 1, by omega, by go_num, HNQ.out⟩
      case measure => simp [intOf]; omega
    · obtain rfl : j = ts.length := by omega
      go_wp2
      go_ret
      exact ⟨rfl, HB5.out⟩

end Go.Proofs.YtcmnjohhffalgaaDoor
