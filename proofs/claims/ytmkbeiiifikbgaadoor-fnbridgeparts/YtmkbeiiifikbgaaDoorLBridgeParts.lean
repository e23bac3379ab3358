/- Walk of laws.FnBridgeParts: it returns true. DRAFT: the slots of the loops (parts, i, k) are to be looked up in a seat with that law. -/
import Derived.Test.YtmkbeiiifikbgaaDoorWDrawT
import Derived.Test.YtmkbeiiifikbgaaDoorPartWLo
import Derived.Test.YtmkbeiiifikbgaaDoorWBridgeP
import Derived.Test.YtmkbeiiifikbgaaDoorWBridgeQ
import Derived.Test.YtmkbeiiifikbgaaDoorPartWMost
import Derived.Test.YtmkbeiiifikbgaaDoorMathFT
import Derived.Deep.RegionHeld3
namespace Go.Proofs.YtmkbeiiifikbgaaDoor
open Go.RowKit
set_option linter.unusedVariables false

theorem implFlow_b (v : Int) (K : Int) (ao : Option Addr) (cap : Nat) (ts : List (Int × Int)) (a b : Int) (w : World) (hn : ts.length ≤ 1099511627776) (ht : TiesIn w w.heap.size ao ts) (h : countI K ts a b = v) :
    Calls Tryd.prog 17 #[.agg #[.int .i64 K, .slice ao ts.length cap], .int .i64 a, .int .i64 b] w fun e w' => e = .returned (.int .i64 v) ∧ Below w.heap.size w w' := by
  rw [← h]; exact implFlowCount_any K ao cap ts a b w hn ht
/-- of one part without bridges just if two ways have no tie twice -/
theorem parts_two {Kn : Nat} {ts : List (Int × Int)} (hok : okB (Kn : Int) ts = true) {i k : Nat} (hi : i < Kn) (hk : k < i) : ((topN (nbTs (Kn : Int) ts) i : Int) == (topN (nbTs (Kn : Int) ts) k : Int)) = decide (2 ≤ countI (Kn : Int) ts (i : Int) (k : Int)) := by
  have hK8 : Kn ≤ 8 := by have := (okB_iff.1 hok).2.1; omega
  rw [countI_two hok hi (by omega) (by omega)]
  have h := nb_two hok (a := i) (b := k) (by omega) (by omega) (by omega)
  have e : reachB (nbTs (Kn : Int) ts) i k = decide (topN (nbTs (Kn : Int) ts) k = topN (nbTs (Kn : Int) ts) i) := rfl
  rw [e, decide_eq_true_eq] at h
  by_cases q : topN (nbTs (Kn : Int) ts) k = topN (nbTs (Kn : Int) ts) i
  · rw [decide_eq_true (h.1 q), q]; simp
  · rw [decide_eq_false (fun r => q (h.2 r)), beq_eq_false_iff_ne]; omega
set_option maxHeartbeats 1600000 in
theorem bridgeParts_walk (bo : Option Addr) (n cap : Nat) (w : World) (hb : BytesIn w bo n) (hnil : bo = none → n = 0 ∧ cap = 0) (hc : n ≤ cap) (hm : cap ≤ maxLen) (hT : Tab w) :
    Calls Tryd.prog 3 #[.slice bo n cap] w fun e w' => e = .returned (.bool true) ∧ Below w.heap.size w w' := by
  by_cases hl : 1048576 < n
  · have hl' : (1048576 : Int) < (n : Int) := by omega
    have hn' : n ≤ 9223372036854775807 := by unfold maxLen at hm; omega
    go_enter Tryd.func3, Tryd.ntmps3
    go_wp2
    go_ret
    exact ⟨rfl, Below.refl _ _⟩
  have hl' : decide ((1048576 : Int) < (n : Int)) = false := by simp; omega
  go_enter Tryd.func3, Tryd.ntmps3
  go_wp2_with fail
  refine (drawBridgeParts_any bo n cap _ hb hnil hc hm).mono ?_
  rintro e w1 ⟨K, ao, cap', ts, rfl, D1⟩
  have hn : ts.length ≤ 1099511627776 := by have := D1.short; omega
  have HB1 := hideP D1.bel
  have T1 := hideP (hT.below D1.bel hT.2)
  have hoN := D1.own
  clear D1 hT
  have bx := below_one w1 (.cells #[.int .i64 K, .slice ao ts.length cap'] 25)
  have T1a := hideP (T1.out.below bx T1.out.2)
  have HB1a := hideP (HB1.out.trans (bx.mono HB1.out.size))
  have N1a := hideP (NetV.new (K := K) (cap := cap') 25 (hoN.ties (Nat.le_refl _)))
  have O1a := hideP (hoN.next bx)
  have hsz : w1.heap.size ≤ (w1.alloc (.cells #[.int .i64 K, .slice ao ts.length cap'] 25)).heap.size := bx.size
  obtain ⟨H1, hH1⟩ : ∃ h, h = w1.heap.size := ⟨_, rfl⟩
  have HH1 := hideP hH1
  clear hoN bx hH1
  have hN8 : (partN (nbK K ts) (nbTs K ts)) ≤ 1000 := by
    unfold partN
    split
    · rename_i h; have := (okB_iff.1 h).2.1; omega
    · omega
  obtain ⟨zs, hzs⟩ : ∃ zs, zs = nbTs K ts := ⟨_, rfl⟩
  obtain ⟨m, hmm⟩ : ∃ m, m = partN (nbK K ts) zs := ⟨_, rfl⟩
  have HZS := hideP hzs
  have HMM := hideP hmm
  rw [← hzs, ← hmm] at hN8
  clear hzs hmm
  go_wp2_with fail
  refine (implBParts_any K ao cap' ts _ hn N1a.out.ties T1a.out).mono ?_
  rw [← HZS.out, ← HMM.out]
  rintro e w2 ⟨aoR, capR, rfl, hoR, hb2⟩
  have N2 := hideP (N1a.out.next hb2)
  have O2 := hideP (O1a.out.next hb2)
  have z2 : w1.heap.size ≤ w2.heap.size := Nat.le_trans hsz hb2.size
  have T2 := hideP (T1a.out.below hb2 T1a.out.2)
  have HB2 := hideP (HB1a.out.trans (hb2.mono HB1a.out.size))
  have R2 := hideP hoR.seen
  clear hb2 hoR N1a O1a T1a HB1a hsz
  have n0 := N2.out.c0
  have n1 := N2.out.c1
  go_wp2_with fail
  refine (specBParts_any _ w1.heap.size K ao cap' ts _ hn O2.out z2).mono ?_
  rw [← HZS.out, ← HMM.out]
  rintro e w3 ⟨gW, offW, capW, rfl, hoW, hb3⟩
  have N3 := hideP (N2.out.next hb3)
  have O3 := hideP (O2.out.next hb3)
  have z3 : w1.heap.size ≤ w3.heap.size := Nat.le_trans z2 hb3.size
  have T3 := hideP (T2.out.below hb3 T2.out.2)
  have HB3 := hideP (HB2.out.trans (hb3.mono HB2.out.size))
  have R3 := hideP (R2.out.next hb3)
  have W3 := hideP hoW.seen
  clear hb3 hoW N2 O2 T2 HB2 R2 n0 n1
  go_wp2_with fail
  refine (loInts_same _ _ _ _ m (topN zs) _ hN8 R3.out.row W3.out.row).mono ?_
  rintro e w4 ⟨rfl, hb4⟩
  have N4 := hideP (N3.out.next hb4)
  have O4 := hideP (O3.out.next hb4)
  have z4 : w1.heap.size ≤ w4.heap.size := Nat.le_trans z3 hb4.size
  have T4 := hideP (T3.out.below hb4 T3.out.2)
  have HB4 := hideP (HB3.out.trans (hb4.mono HB3.out.size))
  have R4 := hideP (R3.out.next hb4)
  clear hb4 W3 R3 N3 O3 T3 HB3
  have n0 := N4.out.c0
  have n1 := N4.out.c1
  have hKm : ∃ Kn : Nat, m = Kn ∧ (0 < Kn → okB (Kn : Int) ts = true ∧ K = (Kn : Int)) := by
    refine ⟨m, rfl, fun hp => ?_⟩
    cases hok : okB K ts with
    | false => rw [HMM.out, nbK_no hok, HZS.out, nbTs_no hok] at hp; simp [partN] at hp
    | true =>
      have hnet := okB_iff.1 hok
      have e : m = K.toNat := by rw [HMM.out, nbK_yes hok, HZS.out]; unfold partN; rw [if_pos (nbTs_ok hok)]
      have e2 : K = (m : Int) := by omega
      rw [← e2]; exact ⟨hok, rfl⟩
  have RR := hideP (show ∃ lo hi, RowW w4 lo hi aoR m (pcellN (topN zs)) from ⟨_, _, R4.out⟩)
  clear R4 O4 T4 n0 n1
  go_wp2
  go_loopw [5] (fun iv wr => ∃ i : Nat, i ≤ m ∧ iv = .int .i64 (i : Int) ∧ (∃ lo hi, RowW wr lo hi aoR m (pcellN (topN zs))) ∧ NetV wr w1.heap.size K ao cap' ts ∧ Below w.heap.size w wr)
    (fun iv _ => m - (intOf iv).toNat)
  case atStart => exact ⟨0, Nat.zero_le _, rfl, RR.out, N4.out, HB4.out⟩
  case round =>
    clear RR N4 HB4
    obtain ⟨i, hi, rfl, hR, hN, hB⟩ := hrel
    have HR := hideP hR
    have HN := hideP hN
    have HB := hideP hB
    clear hR hN hB
    by_cases hlt : i < m
    · have hli : (i : Int) < (m : Int) := by omega
      obtain ⟨Kn, hKm1, hKm2⟩ := hKm
      subst hKm1
      obtain ⟨hok, hKe⟩ := hKm2 (by omega)
      have HOK := hideP hok
      subst hKe
      clear hok hKm2
      go_wp2
      go_loopw [6] (fun kv wr => ∃ k : Nat, k ≤ i ∧ kv = .int .i64 (k : Int) ∧ (∃ lo hi, RowW wr lo hi aoR m (pcellN (topN zs))) ∧ NetV wr w1.heap.size (m : Int) ao cap' ts ∧ Below w.heap.size w wr)
        (fun kv _ => i - (intOf kv).toNat)
      case atStart => exact ⟨0, Nat.zero_le _, rfl, HR.out, HN.out, HB.out⟩
      case round =>
        clear HR HN HB
        obtain ⟨k, hk, rfl, hR, hN, hB⟩ := hrel
        have HR := hideP hR
        have HN := hideP hN
        have HB := hideP hB
        clear hR hN hB
        by_cases hlk : k < i
        · have hlk' : (k : Int) < (i : Int) := by omega
          have i0 : (0 : Int) ≤ (i : Int) := by omega
          have k0 : (0 : Int) ≤ (k : Int) := by omega
          have k1 : (k : Int) < (m : Int) := by omega
          obtain ⟨lo, hi2, hRW⟩ := HR.out
          obtain ⟨g, off, hao, hg, ci⟩ := hRW.row i hlt
          obtain ⟨g', off', hao', _, ck⟩ := hRW.row k (by omega)
          obtain ⟨q1, q2⟩ : g = g' ∧ off = off' := by
            have e := hao.symm.trans hao'
            cases e
            exact ⟨rfl, rfl⟩
          subst q1 q2
          clear hao'
          have hpt := parts_two HOK.out (i := i) (k := k) (by omega) hlk
          rw [← HZS.out] at hpt
          obtain ⟨V, hV⟩ : ∃ V, countI (m : Int) ts (i : Int) (k : Int) = V := ⟨_, rfl⟩
          have HV := hideP hV
          rw [hV] at hpt
          obtain ⟨ti, hti⟩ : ∃ t, t = topN zs i := ⟨_, rfl⟩
          obtain ⟨tk, htk⟩ : ∃ t, t = topN zs k := ⟨_, rfl⟩
          rw [← hti, ← htk] at hpt
          have ci' : wr.cell? ⟨g, off + i, none⟩ = some (.int .i64 (ti : Int)) := by rw [hti]; exact ci
          have ck' : wr.cell? ⟨g, off + k, none⟩ = some (.int .i64 (tk : Int)) := by rw [htk]; exact ck
          have CE : Hid (∀ W, Below wr.heap.size wr W → W.cell? ⟨w1.heap.size, 0, none⟩ = some (.int .i64 (m : Int)) ∧ W.cell? ⟨w1.heap.size, 1, none⟩ = some (.slice ao ts.length cap') ∧ W.cell? ⟨g, off + i, none⟩ = some (.int .i64 (ti : Int)) ∧ W.cell? ⟨g, off + k, none⟩ = some (.int .i64 (tk : Int))) := hideP (fun W hb => ⟨(HN.out.next hb).c0, (HN.out.next hb).c1, (hb.cell (p := ⟨g, off + i, none⟩) hg).trans ci', (hb.cell (p := ⟨g, off + k, none⟩) hg).trans ck'⟩)
          have b0 : Hid (Below wr.heap.size wr wr.drew) := hideP (Below.refl _ _).drew
          clear hV hti htk ci ck ci' ck'
          subst hao
          by_cases h2 : 2 ≤ V
          · have e1 : ((ti : Int) == (tk : Int)) = true := by rw [hpt]; exact decide_eq_true h2
            clear hpt
            go_wp2
            go_region_held3 (fun w' => w'.cell? ⟨w1.heap.size, 0, none⟩ = some (.int .i64 (m : Int)) ∧ w'.cell? ⟨w1.heap.size, 1, none⟩ = some (.slice ao ts.length cap') ∧ w'.cell? ⟨g, off + i, none⟩ = some (.int .i64 (ti : Int)) ∧ w'.cell? ⟨g, off + k, none⟩ = some (.int .i64 (tk : Int))) (first | exact CE.out _ b5.out | exact CE.out _ b0.out) (first | (go_at_call 17; refine (implFlow_b V (m : Int) ao cap' ts (i : Int) (k : Int) _ hn (HN.out.next b0.out).ties HV.out).mono ?_; rintro e w5 ⟨rfl, hb5⟩; have b5 : Hid (Below wr.heap.size wr w5) := hideP (b0.out.trans hb5); clear hb5))
            all_goals
              have R5 := hideP (show ∃ lo hi, RowW w5 lo hi (some ⟨g, off, none⟩) m (pcellN (topN zs)) from by obtain ⟨lo, hi2, h⟩ := HR.out; exact ⟨lo, hi2, h.next b5.out⟩)
              have N5 := hideP (HN.out.next b5.out)
              have B5 := hideP (HB.out.trans (b5.out.mono HB.out.size))
              go_wp2
              go_roundw
              case rel => exact ⟨k + 1, by omega, by go_num, R5.out, N5.out, B5.out⟩
              case measure => simp [intOf]; omega
          · have e1 : ((ti : Int) == (tk : Int)) = false := by rw [hpt]; exact decide_eq_false h2
            clear hpt
            go_wp2
            go_region_held3 (fun w' => w'.cell? ⟨w1.heap.size, 0, none⟩ = some (.int .i64 (m : Int)) ∧ w'.cell? ⟨w1.heap.size, 1, none⟩ = some (.slice ao ts.length cap') ∧ w'.cell? ⟨g, off + i, none⟩ = some (.int .i64 (ti : Int)) ∧ w'.cell? ⟨g, off + k, none⟩ = some (.int .i64 (tk : Int))) (first | exact CE.out _ b5.out | exact CE.out _ b0.out) (first | (go_at_call 17; refine (implFlow_b V (m : Int) ao cap' ts (i : Int) (k : Int) _ hn (HN.out.next b0.out).ties HV.out).mono ?_; rintro e w5 ⟨rfl, hb5⟩; have b5 : Hid (Below wr.heap.size wr w5) := hideP (b0.out.trans hb5); clear hb5))
            all_goals
              have R5 := hideP (show ∃ lo hi, RowW w5 lo hi (some ⟨g, off, none⟩) m (pcellN (topN zs)) from by obtain ⟨lo, hi2, h⟩ := HR.out; exact ⟨lo, hi2, h.next b5.out⟩)
              have N5 := hideP (HN.out.next b5.out)
              have B5 := hideP (HB.out.trans (b5.out.mono HB.out.size))
              go_wp2
              go_roundw
              case rel => exact ⟨k + 1, by omega, by go_num, R5.out, N5.out, B5.out⟩
              case measure => simp [intOf]; omega
        · obtain rfl : k = i := by omega
          go_wp2
          go_roundw
          case rel => exact ⟨k + 1, by omega, by go_num, HR.out, HN.out, HB.out⟩
          case measure => simp [intOf]; omega
    · go_wp2
      go_ret
      exact ⟨rfl, HB.out⟩

end Go.Proofs.YtmkbeiiifikbgaaDoor
