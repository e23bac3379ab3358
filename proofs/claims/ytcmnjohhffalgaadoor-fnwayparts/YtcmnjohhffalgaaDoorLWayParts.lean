/- Walk of laws.FnWayParts: it returns true. -/
import Derived.Test.YtcmnjohhffalgaaDoorWReach3
import Derived.Test.YtcmnjohhffalgaaDoorWLo2
import Derived.Test.YtcmnjohhffalgaaDoorWDraw3
import Derived.Test.YtcmnjohhffalgaaDoorWLo
import Derived.Deep.RegionHeld3
import Derived.Deep.RegionWith
import Derived.Test.YtcmnjohhffalgaaDoorWQuiet
namespace Go.Proofs.YtcmnjohhffalgaaDoor
open Go.RowKit
set_option linter.unusedVariables false

set_option maxHeartbeats 1600000 in
theorem wayParts_walk (bo : Option Addr) (n cap : Nat) (w : World) (hb : BytesIn w bo n) (hnil : bo = none → n = 0 ∧ cap = 0) (hc : n ≤ cap) (hm : cap ≤ maxLen) (hT : Tab w) :
    Calls Tryd.prog 5 #[.slice bo n cap] w fun e w' => e = .returned (.bool true) ∧ Below w.heap.size w w' := by
  by_cases hl : 1048576 < n
  · have hl' : (1048576 : Int) < (n : Int) := by omega
    have hn' : n ≤ 9223372036854775807 := by unfold maxLen at hm; omega
    go_enter Tryd.func5, Tryd.ntmps5
    go_wp2
    go_ret
    exact ⟨rfl, Below.refl _ _⟩
  have hl' : decide ((1048576 : Int) < (n : Int)) = false := by simp; omega
  go_enter Tryd.func5, Tryd.ntmps5
  go_wp2_with fail
  refine (drawWayParts_any bo n cap _ hb hnil hc hm).mono ?_
  rintro e w1 ⟨K, ao, cap', ts, rfl, D1⟩
  have hn : ts.length ≤ 1099511627776 := by have := D1.short; omega
  have HB1 := hideP D1.bel
  have T1 := hideP (hT.below D1.bel hT.2)
  have hoN := D1.own
  clear D1 hT
  have T1a := hideP (T1.out.below (below_one w1 (.cells #[.int .i64 K, .slice ao ts.length cap'] 25)) T1.out.2)
  have HB1a := hideP (HB1.out.trans ((below_one w1 (.cells #[.int .i64 K, .slice ao ts.length cap'] 25)).mono HB1.out.size))
  have N1a := hideP (NetV.new (K := K) (cap := cap') 25 (hoN.ties (Nat.le_refl _)))
  clear hoN
  go_wp2_with fail
  refine (specParts_any K ao cap' ts _ hn N1a.out.ties).mono ?_
  rintro e w2 ⟨gW, offW, capW, rfl, hoW, hb2⟩
  have N2 := hideP (N1a.out.next hb2)
  have T2 := hideP (T1a.out.below hb2 T1a.out.2)
  have HB2 := hideP (HB1a.out.trans (hb2.mono HB1a.out.size))
  have W2 := hideP hoW.seen
  clear hb2 hoW
  have lNc0 := N2.out.c0
  have lNc1 := N2.out.c1
  have lNlt := N2.out.lt
  go_wp2_with fail
  refine (implParts_any K ao cap' ts _ hn N2.out.ties T2.out).mono ?_
  rintro e w3 ⟨aoR, capR, rfl, hoR, hb3⟩
  have N3 := hideP (N2.out.next hb3)
  have T3 := hideP (T2.out.below hb3 T2.out.2)
  have HB3 := hideP (HB2.out.trans (hb3.mono HB2.out.size))
  have W3 := hideP (W2.out.next hb3)
  have R3 := hideP hoR.seen
  clear hb3 hoR
  have hN8 : partN K ts ≤ 1000 := by
    unfold partN
    split
    · rename_i hh
      have := (okB_iff.1 hh).2.1
      omega
    · omega
  obtain ⟨m, hmm⟩ : ∃ m, m = partN K ts := ⟨_, rfl⟩
  have HMM := hideP hmm
  rw [← hmm] at hN8 W3 R3 ⊢
  clear hmm
  go_wp2_with fail
  refine (loInts_same _ _ _ _ m (topN ts) _ hN8 R3.out.row W3.out.row).mono ?_
  rintro e w4 ⟨rfl, hb4⟩
  have N4 := hideP (N3.out.next hb4)
  have T4 := hideP (T3.out.below hb4 T3.out.2)
  have HB4 := hideP (HB3.out.trans (hb4.mono HB3.out.size))
  have R4 := hideP (R3.out.next hb4)
  clear hb4 W3 R3
  clear lNc0 lNc1 lNlt
  go_wp2
  go_loopw [6] (fun i wr => ∃ j : Nat, j ≤ m ∧ i = .int .i64 j ∧ Below w4.heap.size w4 wr)
    (fun i _ => m - (intOf i).toNat)
  case atStart => exact ⟨0, Nat.zero_le _, rfl, Below.refl _ _⟩
  case round =>
    obtain ⟨j, hj, rfl, hnx⟩ := hrel
    have N5 := hideP (N4.out.next hnx)
    have R5 := hideP (R4.out.next hnx)
    have T5 := hideP (T4.out.below hnx T4.out.2)
    have HB5 := hideP (HB4.out.trans (hnx.mono HB4.out.size))
    have HNX := hideP hnx
    clear hnx
    by_cases hlt : j < m
    · have hokk : okB K ts = true := by
        apply Decidable.byContradiction
        intro hc
        have h0 : m = 0 := HMM.out.trans (by unfold partN; rw [if_neg hc])
        omega
      have hmK : m = K.toNat := HMM.out.trans (by unfold partN; rw [if_pos hokk])
      have HOK := hideP hokk
      obtain ⟨Kn, hKn⟩ : ∃ x : Nat, K = (x : Int) := ⟨K.toNat, by have := (okB_iff.1 hokk).1; omega⟩
      subst hKn
      obtain rfl : m = Kn := by simpa using hmK
      clear hokk hmK
      have n0 := N5.out.c0
      have n1 := N5.out.c1
      have nl := N5.out.lt
      have hk0 : (0 : Int) ≤ (j : Int) := by omega
      have hk1 : (j : Int) < (m : Int) := by omega
      go_wp2_with fail
      refine (implReach_ok m ao cap' ts j _ hn N5.out.ties T5.out HOK.out hlt).mono ?_
      rintro e w6 ⟨g6, cap6, rfl, hO6, hb6⟩
      have R6 := hideP (R5.out.next hb6)
      have O6 := hideP hO6
      have HNX6 := hideP (HNX.out.trans (hb6.mono HNX.out.size))
      clear hb6 hO6 n0 n1 nl
      go_wp2
      go_loopw [8] (fun k wq => ∃ q : Nat, q ≤ m ∧ k = .int .i64 q ∧ Below w6.heap.size w6 wq)
        (fun k _ => m - (intOf k).toNat)
      case atStart => exact ⟨0, Nat.zero_le _, rfl, Below.refl _ _⟩
      case round =>
        obtain ⟨q, hq, rfl, hnq⟩ := hrel
        have R7 := hideP (R6.out.next hnq)
        have O7 := hideP (O6.out.below hnq O6.out.2.2)
        have HNX7 := hideP (HNX6.out.trans (hnq.mono HNX6.out.size))
        have HNQ := hideP hnq
        clear hnq
        have hne : Nonempty (Cls (Below wr.heap.size wr)) := ⟨⟨wr, Below.refl _ _⟩⟩
        by_cases hql : q < m
        · obtain ⟨gR, off, rfl, _, _, hgR, cj⟩ := R7.out j hlt
          obtain ⟨gR2, off2, e2, _, _, _, cq⟩ := R7.out q hql
          cases e2
          have c6 : wr.cell? ⟨g6, q, none⟩ = some (.bool (reachB ts j q)) := O7.out.1 q hql
          have hg6 : g6 < wr.heap.size := O7.out.2.2
          rw [← topN_reach ts j q] at c6
          have cj' : wr.cell? ⟨gR, off + j, none⟩ = some (.int .i64 ((topN ts j : Nat) : Int)) := cj
          have cq' : wr.cell? ⟨gR, off + q, none⟩ = some (.int .i64 ((topN ts q : Nat) : Int)) := cq
          obtain ⟨x, hx⟩ : ∃ x, x = topN ts j := ⟨_, rfl⟩
          obtain ⟨y, hy⟩ : ∃ y, y = topN ts q := ⟨_, rfl⟩
          rw [← hx, ← hy] at c6
          rw [← hx] at cj'
          rw [← hy] at cq'
          have hq0 : (0 : Int) ≤ (q : Int) := by omega
          have hq1 : (q : Int) < (m : Int) := by omega
          clear cj cq hx hy
          have q1 : ∀ u : Cls (Below wr.heap.size wr), u.w.cell? ⟨gR, off + j, none⟩ = some (.int .i64 (x : Int)) := fun u => (u.ok.cell (p := ⟨gR, off + j, none⟩) hgR).trans cj'
          have q2 : ∀ u : Cls (Below wr.heap.size wr), u.w.cell? ⟨gR, off + q, none⟩ = some (.int .i64 (y : Int)) := fun u => (u.ok.cell (p := ⟨gR, off + q, none⟩) hgR).trans cq'
          by_cases hxy : x = y
          · subst hxy
            have q3 : ∀ u : Cls (Below wr.heap.size wr), u.w.cell? ⟨g6, q, none⟩ = some (.bool true) := fun u => (u.ok.cell (p := ⟨g6, q, none⟩) hg6).trans (by rw [c6]; simp)
            clear c6
            go_wp2
            refine wp_region_cls (Below wr.heap.size wr) (by kernel_rfl) (by kernel_rfl) (Below.refl _ _).drew ?_
            repeat (go_big_quiet_step (fail))
            refine wpQuiet_nil ?_
            intro wz hw'
            have hz : Below wr.heap.size wr wz := by obtain ⟨u, e⟩ := hw'; rw [e]; exact u.ok
            clear hw'
            have HNZ := hideP (HNQ.out.trans (hz.mono HNQ.out.size))
            clear hz
            go_wp2
            go_roundw
            case rel => exact ⟨q + 1, by omega, by go_num, HNZ.out⟩
            case measure => simp [intOf]; omega
          · have q3 : ∀ u : Cls (Below wr.heap.size wr), u.w.cell? ⟨g6, q, none⟩ = some (.bool false) := fun u => (u.ok.cell (p := ⟨g6, q, none⟩) hg6).trans (by rw [c6]; simp [hxy])
            have hb : ((x : Int) == (y : Int)) = false := by simp; omega
            clear c6 hxy
            go_wp2
            refine wp_region_cls (Below wr.heap.size wr) (by kernel_rfl) (by kernel_rfl) (Below.refl _ _).drew ?_
            repeat (go_big_quiet_step (fail))
            refine wpQuiet_nil ?_
            intro wz hw'
            have hz : Below wr.heap.size wr wz := by obtain ⟨u, e⟩ := hw'; rw [e]; exact u.ok
            clear hw'
            have HNZ := hideP (HNQ.out.trans (hz.mono HNQ.out.size))
            clear hz
            go_wp2
            go_roundw
            case rel => exact ⟨q + 1, by omega, by go_num, HNZ.out⟩
            case measure => simp [intOf]; omega
        · obtain rfl : q = m := by omega
          have htl : topN ts j ≤ j := topN_le ts j
          have htt := topN_top ts j
          obtain ⟨x, hx⟩ : ∃ x, x = topN ts j := ⟨_, rfl⟩
          obtain ⟨gR, off, rfl, _, _, hgR, cj⟩ := R7.out j hlt
          obtain ⟨gR2, off2, e2, _, _, _, cx⟩ := R7.out x (by omega)
          cases e2
          have cj' : wr.cell? ⟨gR, off + j, none⟩ = some (.int .i64 ((topN ts j : Nat) : Int)) := cj
          have cx' : wr.cell? ⟨gR, off + x, none⟩ = some (.int .i64 ((topN ts x : Nat) : Int)) := cx
          rw [← hx] at htl htt cj'
          rw [htt] at cx'
          clear cj cx htt hx
          have hx1 : (x : Int) < (q : Int) := by omega
          have hx2 : (x : Int) ≤ (j : Int) := by omega
          have hx3 : decide ((j : Int) < (x : Int)) = false := by simp; omega
          have hx4 : decide (j < x) = false := by simp; omega
          have hxx : ((x : Int) != (x : Int)) = false := by simp
          have q1 : ∀ u : Cls (Below wr.heap.size wr), u.w.cell? ⟨gR, off + j, none⟩ = some (.int .i64 (x : Int)) := fun u => (u.ok.cell (p := ⟨gR, off + j, none⟩) hgR).trans cj'
          have q2 : ∀ u : Cls (Below wr.heap.size wr), u.w.cell? ⟨gR, off + x, none⟩ = some (.int .i64 (x : Int)) := fun u => (u.ok.cell (p := ⟨gR, off + x, none⟩) hgR).trans cx'
          go_wp2
          refine wp_region_cls (Below wr.heap.size wr) (by kernel_rfl) (by kernel_rfl) (Below.refl _ _).drew ?_
          repeat (go_big_quiet_step (fail))
          refine wpQuiet_nil ?_
          intro wz hw'
          have hz : Below wr.heap.size wr wz := by obtain ⟨u, e⟩ := hw'; rw [e]; exact u.ok
          clear hw'
          have HNZ := hideP (HNX7.out.trans (hz.mono HNX7.out.size))
          clear hz
          go_wp2
          go_roundw
          case rel => exact ⟨j + 1, by omega, by go_num, HNZ.out⟩
          case measure => simp [intOf]; omega
    · obtain rfl : j = m := by omega
      go_wp2
      go_ret
      exact ⟨rfl, HB5.out⟩

end Go.Proofs.YtcmnjohhffalgaaDoor
