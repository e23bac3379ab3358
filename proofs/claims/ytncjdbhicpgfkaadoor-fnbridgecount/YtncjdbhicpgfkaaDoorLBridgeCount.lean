/- Walk of laws.FnBridgeCount: it returns true. -/
import Derived.Test.YtncjdbhicpgfkaaDoorWDrawT
import Derived.Test.YtncjdbhicpgfkaaDoorWLo2
import Derived.Test.YtncjdbhicpgfkaaDoorWLo
import Derived.Test.YtncjdbhicpgfkaaDoorWBridgeP
import Derived.Test.YtncjdbhicpgfkaaDoorWBridgeQ
import Derived.Test.YtncjdbhicpgfkaaDoorWReach3
namespace Go.Proofs.YtncjdbhicpgfkaaDoor
open Go.RowKit
set_option linter.unusedVariables false

theorem implCount_is (v : Int) (K : Int) (ao : Option Addr) (cap : Nat) (ts : List (Int × Int)) (w : World) (hn : ts.length ≤ 1099511627776) (ht : TiesIn w w.heap.size ao ts) (hT : Tab w) (h : countV K ts = v) :
    Calls Tryd.prog 20 #[.agg #[.int .i64 K, .slice ao ts.length cap]] w fun e w' => e = .returned (.int .i64 v) ∧ Below w.heap.size w w' := by
  rw [← h]; exact implCount_any K ao cap ts w hn ht hT
set_option maxHeartbeats 1600000 in
theorem bridgeCount_walk (bo : Option Addr) (n cap : Nat) (w : World) (hb : BytesIn w bo n) (hnil : bo = none → n = 0 ∧ cap = 0) (hc : n ≤ cap) (hm : cap ≤ maxLen) (hT : Tab w) :
    Calls Tryd.prog 12 #[.slice bo n cap] w fun e w' => e = .returned (.bool true) ∧ Below w.heap.size w w' := by
  by_cases hl : 1048576 < n
  · have hl' : (1048576 : Int) < (n : Int) := by omega
    have hn' : n ≤ 9223372036854775807 := by unfold maxLen at hm; omega
    go_enter Tryd.func12, Tryd.ntmps12
    go_wp2
    go_ret
    exact ⟨rfl, Below.refl _ _⟩
  have hl' : decide ((1048576 : Int) < (n : Int)) = false := by simp; omega
  go_enter Tryd.func12, Tryd.ntmps12
  go_wp2_with fail
  refine (drawBridgeParts_any bo n cap _ hb hnil hc hm).mono ?_
  rintro e w1 ⟨K, ao, cap', ts, rfl, D1⟩
  have hn : ts.length ≤ 1099511627776 := by have := D1.short; omega
  have HB1 := hideP D1.bel
  have T1 := hideP (hT.below D1.bel hT.2)
  have hoN := D1.own
  clear D1 hT
  have bx := below_one w1 (.cells #[.int .i64 K, .slice ao ts.length cap'] 25)
  have T1a := hideP (T1.out.below bx T1.out.2)
  have HB1a := hideP (HB1.out.trans (bx.mono HB1.out.size))
  have N1a := hideP (NetV.new (K := K) (cap := cap') 25 (hoN.ties (Nat.le_refl _)))
  have O1a := hideP (hoN.next bx)
  have hsz : w1.heap.size ≤ (w1.alloc (.cells #[.int .i64 K, .slice ao ts.length cap'] 25)).heap.size := bx.size
  obtain ⟨H1, hH1⟩ : ∃ h, h = w1.heap.size := ⟨_, rfl⟩
  have HH1 := hideP hH1
  clear hoN bx hH1
  have hN8 : (partN (nbK K ts) (nbTs K ts)) ≤ 1000 := by
    unfold partN
    split
    · rename_i h; have := (okB_iff.1 h).2.1; omega
    · omega
  obtain ⟨zs, hzs⟩ : ∃ zs, zs = nbTs K ts := ⟨_, rfl⟩
  obtain ⟨m, hmm⟩ : ∃ m, m = partN (nbK K ts) zs := ⟨_, rfl⟩
  have HZS := hideP hzs
  have HMM := hideP hmm
  rw [← hzs, ← hmm] at hN8
  clear hzs hmm
  go_wp2_with fail
  refine (implBParts_any K ao cap' ts _ hn N1a.out.ties T1a.out).mono ?_
  rw [← HZS.out, ← HMM.out]
  rintro e w2 ⟨aoR, capR, rfl, hoR, hb2⟩
  have N2 := hideP (N1a.out.next hb2)
  have O2 := hideP (O1a.out.next hb2)
  have z2 : w1.heap.size ≤ w2.heap.size := Nat.le_trans hsz hb2.size
  have T2 := hideP (T1a.out.below hb2 T1a.out.2)
  have HB2 := hideP (HB1a.out.trans (hb2.mono HB1a.out.size))
  have R2 := hideP hoR.seen
  clear hb2 hoR N1a O1a T1a HB1a hsz
  have n0 := N2.out.c0
  have n1 := N2.out.c1
  go_wp2_with fail
  refine (specBParts_any _ w1.heap.size K ao cap' ts _ hn O2.out z2).mono ?_
  rw [← HZS.out, ← HMM.out]
  rintro e w3 ⟨gW, offW, capW, rfl, hoW, hb3⟩
  have N3 := hideP (N2.out.next hb3)
  have O3 := hideP (O2.out.next hb3)
  have z3 : w1.heap.size ≤ w3.heap.size := Nat.le_trans z2 hb3.size
  have T3 := hideP (T2.out.below hb3 T2.out.2)
  have HB3 := hideP (HB2.out.trans (hb3.mono HB2.out.size))
  have R3 := hideP (R2.out.next hb3)
  have W3 := hideP hoW.seen
  clear hb3 hoW N2 O2 T2 HB2 R2 n0 n1
  go_wp2_with fail
  refine (loInts_same _ _ _ _ m (topN zs) _ hN8 R3.out.row W3.out.row).mono ?_
  rintro e w4 ⟨rfl, hb4⟩
  have N4 := hideP (N3.out.next hb4)
  have O4 := hideP (O3.out.next hb4)
  have z4 : w1.heap.size ≤ w4.heap.size := Nat.le_trans z3 hb4.size
  have T4 := hideP (T3.out.below hb4 T3.out.2)
  have HB4 := hideP (HB3.out.trans (hb4.mono HB3.out.size))
  have R4 := hideP (R3.out.next hb4)
  clear hb4 W3 R3 N3 O3 T3 HB3
  have n0 := N4.out.c0
  have n1 := N4.out.c1
  cases hok : okB K ts
  · have HOK := hideP hok
    clear hok
    go_wp2_with fail
    refine (specOk_is false K ao cap' ts _ hn N4.out.ties HOK.out).mono ?_
    rintro e w5 ⟨rfl, hb5⟩
    have N5 := hideP (N4.out.next hb5)
    have O5 := hideP (O4.out.next hb5)
    have z5 : w1.heap.size ≤ w5.heap.size := Nat.le_trans z4 hb5.size
    have R5 := hideP (R4.out.next hb5)
    have HB5 := hideP (HB4.out.trans (hb5.mono HB4.out.size))
    clear hb5 N4 O4 R4 HB4 T4 n0 n1
    have n0 := N5.out.c0
    have n1 := N5.out.c1
    go_wp2_with fail
    refine (specBParts_any _ w1.heap.size K ao cap' ts _ hn O5.out z5).mono ?_
    rw [← HZS.out, ← HMM.out]
    rintro e w6 ⟨gW6, offW6, capW6, rfl, hoW6, hb6⟩
    have R6 := hideP (R5.out.next hb6)
    have W6 := hideP hoW6.seen
    have HB6 := hideP (HB5.out.trans (hb6.mono HB5.out.size))
    clear hb6 hoW6 n0 n1
    go_wp2_with fail
    refine (loInts_same _ _ _ _ m (topN zs) _ hN8 R6.out.row W6.out.row).mono ?_
    rintro e w7 ⟨rfl, hb7⟩
    have HB7 := hideP (HB6.out.trans (hb7.mono HB6.out.size))
    clear hb7
    go_wp2
    go_ret
    exact ⟨rfl, HB7.out⟩
  have HOK := hideP hok
  have hnet := okB_iff.1 hok
  obtain ⟨Kn, hKn⟩ : ∃ x : Nat, K = (x : Int) := ⟨K.toNat, by have := hnet.1; omega⟩
  subst hKn
  have hK8 : Kn ≤ 8 := by have := hnet.2.1; omega
  have hmK : m = Kn := by rw [HMM.out, nbK_yes hok, HZS.out]; unfold partN; rw [if_pos (nbTs_ok hok)]; simp
  have HCNT : Hid (cnt zs Kn = cnt ts Kn + (brTs (Kn : Int) ts).length) := by show cnt zs Kn = _; rw [HZS.out]; have := nb_cnt hok; simpa using this
  have HCV : Hid (countV (Kn : Int) ts = ((cnt ts Kn : Nat) : Int)) := by show countV (Kn : Int) ts = _; simp [countV, hok]
  have hbl := brTs_len (Kn : Int) ts
  have hcle := cnt_le ts Kn
  obtain ⟨cN, hcN⟩ : ∃ c, c = cnt ts Kn := ⟨_, rfl⟩
  rw [← hcN] at HCNT HCV hcle
  obtain ⟨bs, hbs⟩ : ∃ bs, bs = brTs (Kn : Int) ts := ⟨_, rfl⟩
  have HBS := hideP hbs
  rw [← hbs] at HCNT hbl
  subst hmK
  clear hok hnet hcN hbs
  go_wp2_with fail
  refine (specOk_is true (m : Int) ao cap' ts _ hn N4.out.ties HOK.out).mono ?_
  rintro e w5 ⟨rfl, hb5⟩
  have N5 := hideP (N4.out.next hb5)
  have T5 := hideP (T4.out.below hb5 T4.out.2)
  have R5 := hideP (R4.out.next hb5)
  have HB5 := hideP (HB4.out.trans (hb5.mono HB4.out.size))
  clear hb5 N4 O4 R4 HB4 T4 n0 n1
  go_wp2
  go_loopw [5, 6] (fun c i wr => ∃ k : Nat, k ≤ m ∧ i = .int .i64 k ∧ c = .int .i64 ((cnt zs k : Nat) : Int) ∧ wr = w5)
    (fun _ i _ => m - (intOf i).toNat)
  case atStart => exact ⟨0, Nat.zero_le _, rfl, rfl, rfl⟩
  case round =>
    obtain ⟨k, hk, rfl, rfl, rfl⟩ := hrel
    by_cases hlt : k < m
    · have hcl := cnt_le zs k
      have hk0 : (0 : Int) ≤ (k : Int) := by omega
      have hk1 : (k : Int) < (m : Int) := by omega
      obtain ⟨g, off, rfl, _, cg⟩ := R5.out.row k hlt
      have cg' : wr.cell? ⟨g, off + k, none⟩ = some (.int .i64 ((topN zs k : Nat) : Int)) := cg
      clear cg
      by_cases htk : topN zs k = k
      · have HC := hideP (cnt_yes htk)
        rw [htk] at cg'
        clear htk
        go_wp2
        go_roundw
        case rel => exact ⟨k + 1, by omega, by go_num, by rw [HC.out]; go_num, trivial⟩
        case measure => simp [intOf]; omega
      · have HC := hideP (cnt_no htk)
        obtain ⟨t, ht⟩ : ∃ t, t = topN zs k := ⟨_, rfl⟩
        rw [← ht] at cg' htk
        have hne : ((t : Int) == (k : Int)) = false := by simp; omega
        clear ht htk
        go_wp2
        go_roundw
        case rel => exact ⟨k + 1, by omega, by go_num, by rw [HC.out], trivial⟩
        case measure => simp [intOf]; omega
    · obtain rfl : k = m := by omega
      have n0 := N5.out.c0
      have n1 := N5.out.c1
      have HBS2 := hideP HBS.out
      have hq : ((cnt zs k : Nat) : Int) = (cN : Int) + (bs.length : Int) := by have := HCNT.out; omega
      rw [hq]
      have N5d := hideP (N5.out.next (Below.refl _ _).drew)
      have T5d := hideP (T5.out.below (Below.refl _ _).drew T5.out.2)
      have HB5d := hideP HB5.out.drew
      have hcc : ((cN : Int) + (bs.length : Int) == (cN : Int) + (bs.length : Int)) = true := by simp
      have hwr : IntKind.i64.wrap ((cN : Int) + (bs.length : Int)) = (cN : Int) + (bs.length : Int) := by rw [IntKind.wrap_i64]; omega
      clear hq
      go_wp2
      go_region_held3 (fun w' => w'.cell? ⟨w1.heap.size, 0, none⟩ = some (.int .i64 (k : Int)) ∧ w'.cell? ⟨w1.heap.size, 1, none⟩ = some (.slice ao ts.length cap')) (first | exact ⟨N7.out.c0, N7.out.c1⟩ | exact ⟨N6.out.c0, N6.out.c1⟩ | exact ⟨n0, n1⟩) (first | (go_at_call 20; refine (implCount_is (cN : Int) (k : Int) ao cap' ts _ hn N5d.out.ties T5d.out HCV.out).mono ?_; rintro e w6 ⟨rfl, hb6⟩; have N6 := hideP (N5d.out.next hb6); have T6 := hideP (T5d.out.below hb6 T5d.out.2); have HB6 := hideP (HB5d.out.trans (hb6.mono HB5d.out.size)); clear hb6) | (go_at_call 37; refine (implBridges_any (k : Int) ao cap' ts _ hn N6.out.ties T6.out).mono ?_; rw [← HBS2.out]; rintro e w7 ⟨aoL, capL, rfl, ho7, hb7⟩; have N7 := hideP (N6.out.next hb7); have HB7 := hideP (HB6.out.trans (hb7.mono HB6.out.size)); clear hb7 ho7))
      go_wp2
      go_ret
      exact ⟨rfl, HB7.out⟩

end Go.Proofs.YtncjdbhicpgfkaaDoor
