/- Walk of laws.FnBridgeList: it returns true. -/
import Derived.Test.YtncjdbhicpgfkaaDoorWDrawT
import Derived.Test.YtncjdbhicpgfkaaDoorWLo
import Derived.Test.YtncjdbhicpgfkaaDoorWBridgeI
import Derived.Test.YtncjdbhicpgfkaaDoorWBridgeL
namespace Go.Proofs.YtncjdbhicpgfkaaDoor
open Go.RowKit
set_option linter.unusedVariables false

theorem brTo_split (K : Int) (ts : List (Int × Int)) (k : Nat) : brTo K ts ts.length = brTo K ts k ++ (ts.drop k).filter (fun t => bridgeB K ts t.1 t.2) := by
  unfold brTo
  rw [List.take_length, ← List.filter_append, List.take_append_drop]
theorem brTo_at {K : Int} {ts : List (Int × Int)} {k : Nat} (hk : k < ts.length) (h : bridgeB K ts (tA ts k) (tB ts k) = true) : (brTo K ts k).length < (brTo K ts ts.length).length ∧ tA (brTo K ts ts.length) (brTo K ts k).length = tA ts k ∧ tB (brTo K ts ts.length) (brTo K ts k).length = tB ts k := by
  have e : brTo K ts ts.length = brTo K ts k ++ [(tA ts k, tB ts k)] ++ (ts.drop (k + 1)).filter (fun t => bridgeB K ts t.1 t.2) := by rw [← brTo_yes hk h]; exact brTo_split K ts (k + 1)
  rw [e]
  refine ⟨by simp, ?_, ?_⟩
  · simp [tA]
  · simp [tB]

set_option maxHeartbeats 1600000 in
theorem bridgeList_walk (bo : Option Addr) (n cap : Nat) (w : World) (hb : BytesIn w bo n) (hnil : bo = none → n = 0 ∧ cap = 0) (hc : n ≤ cap) (hm : cap ≤ maxLen) (hT : Tab w) :
    Calls Tryd.prog 9 #[.slice bo n cap] w fun e w' => e = .returned (.bool true) ∧ Below w.heap.size w w' := by
  by_cases hl : 1048576 < n
  · have hl' : (1048576 : Int) < (n : Int) := by omega
    have hn' : n ≤ 9223372036854775807 := by unfold maxLen at hm; omega
    go_enter Tryd.func9, Tryd.ntmps9
    go_wp2
    go_ret
    exact ⟨rfl, Below.refl _ _⟩
  have hl' : decide ((1048576 : Int) < (n : Int)) = false := by simp; omega
  go_enter Tryd.func9, Tryd.ntmps9
  go_wp2_with fail
  refine (drawBridgeList_any bo n cap _ hb hnil hc hm).mono ?_
  rintro e w1 ⟨K, ao, cap', ts, rfl, D1⟩
  have hn : ts.length ≤ 1099511627776 := by have := D1.short; omega
  have HB1 := hideP D1.bel
  have T1 := hideP (hT.below D1.bel hT.2)
  have hoN := D1.own
  clear D1 hT
  have T1a := hideP (T1.out.below (below_one w1 (.cells #[.int .i64 K, .slice ao ts.length cap'] 25)) T1.out.2)
  have HB1a := hideP (HB1.out.trans ((below_one w1 (.cells #[.int .i64 K, .slice ao ts.length cap'] 25)).mono HB1.out.size))
  have N1a := hideP (NetV.new (K := K) (cap := cap') 25 (hoN.ties (Nat.le_refl _)))
  clear hoN
  have hul := brTs_len K ts
  have hul' : (brTs K ts).length ≤ 1099511627776 := by omega
  obtain ⟨us, hus⟩ : ∃ us, us = brTs K ts := ⟨_, rfl⟩
  have HUS := hideP hus
  rw [← hus] at hul hul'
  clear hus
  go_wp2_with fail
  refine (implBridges_any K ao cap' ts _ hn N1a.out.ties T1a.out).mono ?_
  rw [← HUS.out]
  rintro e w2 ⟨aoL, capL, rfl, ho2, hb2⟩
  have N2 := hideP (N1a.out.next hb2)
  have T2 := hideP (T1a.out.below hb2 T1a.out.2)
  have HB2 := hideP (HB1a.out.trans (hb2.mono HB1a.out.size))
  have L2 := hideP (ho2.ties (Nat.le_refl _))
  clear hb2 ho2 N1a T1a HB1a
  have n0 := N2.out.c0
  have n1 := N2.out.c1
  go_wp2_with fail
  refine (specBridges_any K ao cap' ts _ hn N2.out.ties).mono ?_
  rw [← HUS.out]
  rintro e w3 ⟨aoS, capS, rfl, ho3, hb3⟩
  have N3 := hideP (N2.out.next hb3)
  have L3 := hideP ((L2.out.below hb3 (Nat.le_refl _)).wide hb3.size)
  have S3 := hideP (ho3.ties (Nat.le_refl _))
  have HB3 := hideP (HB2.out.trans (hb3.mono HB2.out.size))
  have T3 := hideP (T2.out.below hb3 T2.out.2)
  clear hb3 ho3 N2 L2 HB2 T2 n0 n1
  go_wp2_with fail
  refine (loTies_same aoL aoS capL capS us _ hul' L3.out S3.out).mono ?_
  rintro e w4 ⟨rfl, hb4⟩
  have N4 := hideP (N3.out.next hb4)
  have L4 := hideP ((L3.out.below hb4 (Nat.le_refl _)).wide hb4.size)
  have HB4 := hideP (HB3.out.trans (hb4.mono HB3.out.size))
  have T4 := hideP (T3.out.below hb4 T3.out.2)
  clear hb4 N3 L3 S3 HB3 T3
  have n0 := N4.out.c0
  have n1 := N4.out.c1
  cases hok : okB K ts
  · have HOK := hideP hok
    clear hok
    go_wp2_with fail
    refine (specOk_is false K ao cap' ts _ hn N4.out.ties HOK.out).mono ?_
    rintro e w5 ⟨rfl, hb5⟩
    have N5 := hideP (N4.out.next hb5)
    have L5 := hideP ((L4.out.below hb5 (Nat.le_refl _)).wide hb5.size)
    have HB5 := hideP (HB4.out.trans (hb5.mono HB4.out.size))
    clear hb5 N4 L4 HB4 T4 n0 n1
    have n0 := N5.out.c0
    have n1 := N5.out.c1
    go_wp2_with fail
    refine (specBridges_any K ao cap' ts _ hn N5.out.ties).mono ?_
    rw [← HUS.out]
    rintro e w6 ⟨aoS6, capS6, rfl, ho6, hb6⟩
    have L6 := hideP ((L5.out.below hb6 (Nat.le_refl _)).wide hb6.size)
    have S6 := hideP (ho6.ties (Nat.le_refl _))
    have HB6 := hideP (HB5.out.trans (hb6.mono HB5.out.size))
    clear hb6 ho6 N5 L5 HB5 n0 n1
    go_wp2_with fail
    refine (loTies_same aoL aoS6 capL capS6 us _ hul' L6.out S6.out).mono ?_
    rintro e w7 ⟨rfl, hb7⟩
    have HB7 := hideP (HB6.out.trans (hb7.mono HB6.out.size))
    clear hb7
    go_wp2
    go_ret
    exact ⟨rfl, HB7.out⟩
  have HOK := hideP hok
  have HBR : Hid (us = brTo K ts ts.length) := by show us = brTo K ts ts.length; rw [HUS.out]; exact brTs_yes hok
  have hl64 := ok_short (okB_iff.1 hok)
  clear hok
  go_wp2_with fail
  refine (specOk_is true K ao cap' ts _ hn N4.out.ties HOK.out).mono ?_
  rintro e w5 ⟨rfl, hb5⟩
  have N5 := hideP (N4.out.next hb5)
  have L5 := hideP ((L4.out.below hb5 (Nat.le_refl _)).wide hb5.size)
  have HB5 := hideP (HB4.out.trans (hb5.mono HB4.out.size))
  clear hb5 N4 L4 HB4 T4 n0 n1
  go_wp2
  obtain ⟨NB, hNB⟩ : ∃ x, x = w1.heap.size := ⟨_, rfl⟩
  rw [← hNB] at N5 ⊢
  clear hNB
  go_loopw [5, 6] (fun at_ i wr => ∃ k : Nat, k ≤ ts.length ∧ at_ = .int .i64 ((brTo K ts k).length : Int) ∧ i = .int .i64 k ∧ Below w5.heap.size w5 wr)
    (fun _ i _ => ts.length - (intOf i).toNat)
  case atStart => exact ⟨0, Nat.zero_le _, by simp [brTo], rfl, Below.refl _ _⟩
  case round =>
    obtain ⟨k, hk, rfl, rfl, hb⟩ := hrel
    have N6 := hideP (N5.out.next hb)
    have L6 := hideP ((L5.out.below hb (Nat.le_refl _)).wide hb.size)
    have HB6 := hideP (HB5.out.trans (hb.mono HB5.out.size))
    have HBB := hideP hb
    clear hb
    have c0 := N6.out.c0
    have c1 := N6.out.c1
    have hxl := N6.out.lt
    by_cases hlt : k < ts.length
    · have hk1 : (k : Int) < (ts.length : Int) := by omega
      have hk0 : (0 : Int) ≤ (k : Int) := by omega
      obtain ⟨gg, off, rfl, hgw, e0, e1⟩ := N6.out.ties k hlt
      obtain ⟨a, ha⟩ : ∃ a : Int, a = tA ts k := ⟨_, rfl⟩
      obtain ⟨b, hb'⟩ : ∃ b : Int, b = tB ts k := ⟨_, rfl⟩
      rw [← ha] at e0
      rw [← hb'] at e1
      have HYES : Hid (bridgeB K ts a b = true → (brTo K ts (k + 1)).length = (brTo K ts k).length + 1 ∧ (brTo K ts k).length < us.length ∧ tA us (brTo K ts k).length = a ∧ tB us (brTo K ts k).length = b) := fun h => by
        rw [ha, hb'] at h
        obtain ⟨q1, q2, q3⟩ := brTo_at hlt h
        rw [← HBR.out] at q1 q2 q3
        exact ⟨by rw [brTo_yes hlt h]; simp, q1, by rw [q2, ha], by rw [q3, hb']⟩
      have HNO : Hid (bridgeB K ts a b = false → brTo K ts (k + 1) = brTo K ts k) := fun h => brTo_no hlt (by rw [← ha, ← hb']; exact h)
      have hle := brTo_len K ts k
      obtain ⟨m, hm⟩ : ∃ m, m = (brTo K ts k).length := ⟨_, rfl⟩
      have HM : Hid ((brTo K ts k).length = m) := hm.symm
      rw [← hm] at HYES hle ⊢
      clear ha hb' hm
      have hne : Nonempty (Cls (Below wr.heap.size wr)) := ⟨⟨wr, Below.refl _ _⟩⟩
      have p0 : ∀ u : Cls (Below wr.heap.size wr), u.w.cell? ⟨NB, 0, none⟩ = some (.int .i64 K) := fun u => (u.ok.cell (p := ⟨NB, 0, none⟩) hxl).trans c0
      have p1 : ∀ u : Cls (Below wr.heap.size wr), u.w.cell? ⟨NB, 1, none⟩ = some (.slice (some ⟨gg, off, none⟩) ts.length cap') := fun u => (u.ok.cell (p := ⟨NB, 1, none⟩) hxl).trans c1
      have p2 : ∀ u : Cls (Below wr.heap.size wr), u.w.cell? ⟨gg, off + k * 2, none⟩ = some (.int .i64 a) := fun u => (u.ok.cell (p := ⟨gg, off + k * 2, none⟩) hgw).trans e0
      have p3 : ∀ u : Cls (Below wr.heap.size wr), u.w.cell? ⟨gg, off + k * 2 + 1, none⟩ = some (.int .i64 b) := fun u => (u.ok.cell (p := ⟨gg, off + k * 2 + 1, none⟩) hgw).trans e1
      obtain ⟨r, hr⟩ : ∃ r, r = bridgeB K ts a b := ⟨_, rfl⟩
      have CH : Hid (∀ u : Cls (Below wr.heap.size wr), Calls Tryd.prog 21 #[.agg #[.int .i64 K, .slice (some ⟨gg, off, none⟩) ts.length cap'], .int .i64 a, .int .i64 b] u.w fun e w'' => e = .returned (.bool r) ∧ ∃ u2 : Cls (Below wr.heap.size wr), w'' = u2.w) := fun u => by
        refine Calls.cls (D := Below wr.heap.size wr) ?_
        rw [hr]
        exact (implBridge_any K _ cap' ts a b u.w hn ((N6.out.ties.below (C := wr.heap.size) u.ok (Nat.le_refl _)).wide u.ok.size)).mono fun e w2 ⟨he, hb2⟩ => ⟨he, u.ok.trans (hb2.mono u.ok.size)⟩
      rw [← hr] at HYES HNO
      clear hr
      go_wp2
      refine wp_region_cls (Below wr.heap.size wr) (by kernel_rfl) (by kernel_rfl) (Below.refl _ _).drew ?_
      repeat (go_big_quiet_step (first | (go_at_call 21; refine CH.out _)))
      refine wpQuiet_nil ?_
      intro w2 hw'
      have hb2 : Below wr.heap.size wr w2 := by obtain ⟨u, e⟩ := hw'; rw [e]; exact u.ok
      clear hw' p0 p1 p2 p3 CH hne
      have hgz2 : Hid (wr.heap.size ≤ w2.heap.size ∧ True) := ⟨hb2.size, trivial⟩
      have BB : Hid (Below w5.heap.size w5 w2) := HBB.out.trans (hb2.mono HBB.out.size)
      have c0' := (hb2.cell (p := ⟨NB, 0, none⟩) hxl).trans c0
      have c1' := (hb2.cell (p := ⟨NB, 1, none⟩) hxl).trans c1
      have e0' := (hb2.cell (p := ⟨gg, off + k * 2, none⟩) hgw).trans e0
      have e1' := (hb2.cell (p := ⟨gg, off + k * 2 + 1, none⟩) hgw).trans e1
      have L7 := hideP ((L6.out.below hb2 (Nat.le_refl _)).wide hb2.size)
      clear hb2 c0 c1 e0 e1 L6 N6 HBB HB6
      cases r
      · have HN := hideP (HNO.out rfl)
        clear HYES HNO
        go_wp2
        go_roundw
        case rel => exact ⟨k + 1, by omega, by rw [HN.out, HM.out], by go_num, BB.out⟩
        case measure => simp [intOf]; omega
      · obtain ⟨y1, y2, y3, y4⟩ := HYES.out rfl
        obtain ⟨gl, offl, rfl, hgl, f0, f1⟩ := L7.out m y2
        rw [y3] at f0
        rw [y4] at f1
        have HY := hideP y1
        have y2' : (m : Int) < (us.length : Int) := by omega
        have m0 : (0 : Int) ≤ (m : Int) := by omega
        clear HYES HNO L7 y1 y3 y4
        have hd : decide ((us.length : Int) ≤ (m : Int)) = false := decide_eq_false (by omega)
        have hd2 : decide (us.length ≤ m) = false := decide_eq_false (by omega)
        have hne : Nonempty (Cls (Below w2.heap.size w2)) := ⟨⟨w2, Below.refl _ _⟩⟩
        have hxl2 : NB < w2.heap.size := Nat.lt_of_lt_of_le hxl (by have := BB.out.size; exact hgz2.out.1)
        have hgw2 : gg < w2.heap.size := Nat.lt_of_lt_of_le hgw hgz2.out.1
        have p1 : ∀ u : Cls (Below w2.heap.size w2), u.w.cell? ⟨NB, 1, none⟩ = some (.slice (some ⟨gg, off, none⟩) ts.length cap') := fun u => (u.ok.cell (p := ⟨NB, 1, none⟩) hxl2).trans c1'
        have p2 : ∀ u : Cls (Below w2.heap.size w2), u.w.cell? ⟨gg, off + k * 2, none⟩ = some (.int .i64 a) := fun u => (u.ok.cell (p := ⟨gg, off + k * 2, none⟩) hgw2).trans e0'
        have p3 : ∀ u : Cls (Below w2.heap.size w2), u.w.cell? ⟨gg, off + k * 2 + 1, none⟩ = some (.int .i64 b) := fun u => (u.ok.cell (p := ⟨gg, off + k * 2 + 1, none⟩) hgw2).trans e1'
        have p4 : ∀ u : Cls (Below w2.heap.size w2), u.w.cell? ⟨gl, offl + m * 2, none⟩ = some (.int .i64 a) := fun u => (u.ok.cell (p := ⟨gl, offl + m * 2, none⟩) hgl).trans f0
        have p5 : ∀ u : Cls (Below w2.heap.size w2), u.w.cell? ⟨gl, offl + m * 2 + 1, none⟩ = some (.int .i64 b) := fun u => (u.ok.cell (p := ⟨gl, offl + m * 2 + 1, none⟩) hgl).trans f1
        go_wp2
        refine wp_region_cls (Below w2.heap.size w2) (by kernel_rfl) (by kernel_rfl) (Below.refl _ _).drew ?_
        repeat (go_big_quiet_step (fail))
        refine wpQuiet_nil ?_
        intro w3' hw'
        have hb3 : Below w2.heap.size w2 w3' := by obtain ⟨u, e⟩ := hw'; rw [e]; exact u.ok
        have BB3 : Hid (Below w5.heap.size w5 w3') := BB.out.trans (hb3.mono BB.out.size)
        clear hw' p1 p2 p3 p4 p5 hne hb3 BB
        go_wp2
        go_roundw
        case rel => exact ⟨k + 1, by omega, by rw [HY.out]; go_num, by go_num, BB3.out⟩
        case measure => simp [intOf]; omega
    · obtain rfl : k = ts.length := by omega
      have hlen : (brTo K ts ts.length).length = us.length := by rw [HBR.out]
      rw [hlen]
      clear N6 L6 HBB hlen
      go_wp2
      go_ret
      exact ⟨rfl, HB6.out⟩

end Go.Proofs.YtncjdbhicpgfkaaDoor
