/- Texts put together: WBridgeS, WBridgeL. -/
import Derived.Test.YtmkbeiiifikbgaaDoorPartMathE
import Derived.Test.YtmkbeiiifikbgaaDoorPartWSpecCut
import Derived.Test.YtmkbeiiifikbgaaDoorPartWTree
import Derived.Test.YtmkbeiiifikbgaaDoorPartWCount
import Derived.Test.YtmkbeiiifikbgaaDoorPartWReach
import Derived.Test.YtmkbeiiifikbgaaDoorWReach3
import Derived.Test.YtmkbeiiifikbgaaDoorPartMathTf
/- Walks of spec.BridgeIs, spec.BridgeList. -/
namespace Go.Proofs.YtmkbeiiifikbgaaDoor
open Go.RowKit
set_option linter.unusedVariables false

set_option maxHeartbeats 1600000 in
theorem specBridge_any (K : Int) (ao : Option Addr) (cap : Nat) (ts : List (Int × Int)) (a b : Int) (w : World) (hn : ts.length ≤ 1099511627776) (ht : TiesIn w w.heap.size ao ts) :
    Calls Tryd.prog 96 #[.agg #[.int .i64 K, .slice ao ts.length cap], .int .i64 a, .int .i64 b] w fun e w' => e = .returned (.bool (bridgeB K ts a b)) ∧ Below w.heap.size w w' := by
  have X0 := fun (t : TypeId) => Bx.start w K (.slice ao ts.length cap) t
  have HX0 := hideP X0
  have HT := hideP ht
  clear X0 ht
  have HV : Hid (bridgeB K ts a b = (cutB K ts a b && decide (countV K ts < countV (cutK K ts a b) (cutTs K ts a b)))) := by
    show bridgeB K ts a b = _
    unfold bridgeB
    cases h : hasB K ts a b
    · rw [show cutB K ts a b = false from h]; rfl
    · have hc : cutB K ts a b = true := h
      rw [hc, cutK_yes hc]
      unfold countV
      rw [if_pos (has_ok h), if_pos (cutOut hc).ok, Bool.true_and, Bool.true_and]
      by_cases q : cnt ts K.toNat < cnt (cutTs K ts a b) K.toNat
      · rw [decide_eq_true q, decide_eq_true (by omega)]
      · rw [decide_eq_false q, decide_eq_false (by omega)]
  obtain ⟨q, hq⟩ : ∃ x, x = bridgeB K ts a b := ⟨_, rfl⟩
  rw [← hq] at HV ⊢
  clear hq
  go_enter Tryd.func96, Tryd.ntmps96
  go_wp2_with fail
  refine (specCut_all K ao cap ts a b _ hn ((HT.out.below (HX0.out _).B (Nat.le_refl _)).wide (Nat.le_of_lt (HX0.out _).lt))).mono ?_
  rintro e w1 ⟨aoX, capX, rfl, ho1, hb1⟩
  have X1 := hideP ((HX0.out _).next hb1)
  have T1 := hideP (ho1.ties (Nat.le_refl _))
  clear ho1 hb1 HX0
  have hul : (cutTs K ts a b).length ≤ 1099511627776 := by have := cutTs_len K ts a b; omega
  obtain ⟨us, hus⟩ : ∃ us, us = cutTs K ts a b := ⟨_, rfl⟩
  obtain ⟨KX, hKX⟩ : ∃ x, x = cutK K ts a b := ⟨_, rfl⟩
  obtain ⟨r, hr⟩ : ∃ x, x = cutB K ts a b := ⟨_, rfl⟩
  rw [← hus, ← hKX, ← hr] at HV
  rw [← hus] at hul T1
  rw [← hus, ← hKX, ← hr]
  clear hus hKX hr
  have bx := below_one w1 (.cells #[.int .i64 KX, .slice aoX us.length capX] 25)
  have XX := hideP (NetV.new (K := KX) (cap := capX) 25 T1.out)
  have X2 := hideP (X1.out.next bx)
  have NT : Hid (TiesIn (w1.alloc (.cells #[.int .i64 KX, .slice aoX us.length capX] 25)) (w1.alloc (.cells #[.int .i64 KX, .slice aoX us.length capX] 25)).heap.size ao ts) := (HT.out.below X2.out.B (Nat.le_refl _)).wide (Nat.le_of_lt X2.out.lt)
  clear bx X1 T1 HT
  go_wp2
  obtain ⟨ww, hww⟩ : ∃ ww, ww = w1.alloc (.cells #[.int .i64 KX, .slice aoX us.length capX] 25) := ⟨_, rfl⟩
  rw [← hww] at XX X2 NT ⊢
  obtain ⟨X, hX⟩ : ∃ x, x = w1.heap.size := ⟨_, rfl⟩
  rw [← hX] at XX ⊢
  clear hww hX
  have hne : Nonempty (Cls (Below ww.heap.size ww)) := ⟨⟨ww, Below.refl _ _⟩⟩
  have q0 : ∀ u : Cls (Below ww.heap.size ww), u.w.cell? ⟨w.heap.size, 0, none⟩ = some (.int .i64 K) := fun u => (u.ok.cell (p := ⟨w.heap.size, 0, none⟩) X2.out.lt).trans X2.out.c0
  have q1 : ∀ u : Cls (Below ww.heap.size ww), u.w.cell? ⟨w.heap.size, 1, none⟩ = some (.slice ao ts.length cap) := fun u => (u.ok.cell (p := ⟨w.heap.size, 1, none⟩) X2.out.lt).trans X2.out.c1
  have q2 : ∀ u : Cls (Below ww.heap.size ww), u.w.cell? ⟨X, 0, none⟩ = some (.int .i64 KX) := fun u => (u.ok.cell (p := ⟨X, 0, none⟩) XX.out.lt).trans XX.out.c0
  have q3 : ∀ u : Cls (Below ww.heap.size ww), u.w.cell? ⟨X, 1, none⟩ = some (.slice aoX us.length capX) := fun u => (u.ok.cell (p := ⟨X, 1, none⟩) XX.out.lt).trans XX.out.c1
  obtain ⟨CV, hCV⟩ : ∃ f : Int → List (Int × Int) → Int, f = countV := ⟨_, rfl⟩
  have CALLS : Hid (∀ (u : Cls (Below ww.heap.size ww)) (K' : Int) (ao' : Option Addr) (cap2 : Nat) (ts' : List (Int × Int)), ((K' = KX ∧ ao' = aoX ∧ ts' = us) ∨ (K' = K ∧ ao' = ao ∧ ts' = ts)) → Calls Tryd.prog 129 #[.agg #[.int .i64 K', .slice ao' ts'.length cap2]] u.w fun e w'' => e = .returned (.int .i64 (CV K' ts')) ∧ ∃ u2 : Cls (Below ww.heap.size ww), w'' = u2.w) := by
    intro u K' ao' cap2 ts' h
    refine Calls.cls (D := Below ww.heap.size ww) ?_
    rw [hCV]
    rcases h with ⟨rfl, rfl, rfl⟩ | ⟨rfl, rfl, rfl⟩
    · exact (specCount_any K' ao' cap2 ts' _ hul ((XX.out.ties.below (C := ww.heap.size) u.ok (Nat.le_refl _)).wide u.ok.size)).mono fun e w2 ⟨he, hb2⟩ => ⟨he, u.ok.trans (hb2.mono u.ok.size)⟩
    · exact (specCount_any K' ao' cap2 ts' _ hn ((NT.out.below (C := ww.heap.size) u.ok (Nat.le_refl _)).wide u.ok.size)).mono fun e w2 ⟨he, hb2⟩ => ⟨he, u.ok.trans (hb2.mono u.ok.size)⟩
  rw [← hCV] at HV
  clear hCV
  obtain ⟨cn, hcn⟩ : ∃ c, CV K ts = c := ⟨_, rfl⟩
  obtain ⟨cx, hcx⟩ : ∃ c, CV KX us = c := ⟨_, rfl⟩
  rw [hcn, hcx] at HV
  have HB := hideP X2.out.B
  cases r
  · have HQ : Hid (q = false) := by show q = false; have := HV.out; simpa using this
    clear HV
    refine wp_region_cls (Below ww.heap.size ww) (by kernel_rfl) (by kernel_rfl) (Below.refl _ _).drew ?_
    repeat (go_big_quiet_step (first | (go_at_call 129; refine CALLS.out _ _ _ _ _ ?_; first | exact Or.inl ⟨rfl, rfl, rfl⟩ | exact Or.inr ⟨rfl, rfl, rfl⟩)))
    refine wpQuiet_nil ?_
    intro wz hw'
    have hz : Below ww.heap.size ww wz := by obtain ⟨u, e⟩ := hw'; rw [e]; exact u.ok
    clear hw'
    have HBZ := hideP (HB.out.trans (hz.mono HB.out.size))
    clear hz q0 q1 q2 q3 CALLS hne
    go_wp2
    go_ret
    exact ⟨by rw [HQ.out]; rfl, HBZ.out⟩
  · have HQ : Hid (q = decide (cn < cx)) := by show q = decide (cn < cx); have := HV.out; simpa using this
    clear HV
    by_cases hlt : cn < cx
    · refine wp_region_cls (Below ww.heap.size ww) (by kernel_rfl) (by kernel_rfl) (Below.refl _ _).drew ?_
      repeat (go_big_quiet_step (first | (go_at_call 129; refine CALLS.out _ _ _ _ _ ?_; first | exact Or.inl ⟨rfl, rfl, rfl⟩ | exact Or.inr ⟨rfl, rfl, rfl⟩)))
      refine wpQuiet_nil ?_
      intro wz hw'
      have hz : Below ww.heap.size ww wz := by obtain ⟨u, e⟩ := hw'; rw [e]; exact u.ok
      clear hw'
      have HBZ := hideP (HB.out.trans (hz.mono HB.out.size))
      clear hz q0 q1 q2 q3 CALLS hne
      go_wp2
      go_ret
      exact ⟨by rw [HQ.out, decide_eq_true hlt]; rfl, HBZ.out⟩
    · have hd : decide (cn < cx) = false := decide_eq_false hlt
      clear hlt
      refine wp_region_cls (Below ww.heap.size ww) (by kernel_rfl) (by kernel_rfl) (Below.refl _ _).drew ?_
      repeat (go_big_quiet_step (first | (go_at_call 129; refine CALLS.out _ _ _ _ _ ?_; first | exact Or.inl ⟨rfl, rfl, rfl⟩ | exact Or.inr ⟨rfl, rfl, rfl⟩)))
      refine wpQuiet_nil ?_
      intro wz hw'
      have hz : Below ww.heap.size ww wz := by obtain ⟨u, e⟩ := hw'; rw [e]; exact u.ok
      clear hw'
      have HBZ := hideP (HB.out.trans (hz.mono HB.out.size))
      clear hz q0 q1 q2 q3 CALLS hne
      go_wp2
      go_ret
      exact ⟨by rw [HQ.out, decide_eq_false (of_decide_eq_false hd)]; rfl, HBZ.out⟩

end Go.Proofs.YtmkbeiiifikbgaaDoor

/- Walk of spec.BridgeList. -/
namespace Go.Proofs.YtmkbeiiifikbgaaDoor
open Go.RowKit
set_option linter.unusedVariables false

def brTo (K : Int) (ts : List (Int × Int)) (k : Nat) : List (Int × Int) := (ts.take k).filter (fun t => bridgeB K ts t.1 t.2)
theorem brTs_no {K : Int} {ts : List (Int × Int)} (h : okB K ts = false) : brTs K ts = [] := by simp [brTs, h]
theorem brTs_yes {K : Int} {ts : List (Int × Int)} (h : okB K ts = true) : brTs K ts = brTo K ts ts.length := by unfold brTs brTo; rw [if_pos h, List.take_length]
theorem brTo_len (K : Int) (ts : List (Int × Int)) (k : Nat) : (brTo K ts k).length ≤ k := Nat.le_trans (List.length_filter_le _ _) (by simp; omega)
theorem brTo_no {K : Int} {ts : List (Int × Int)} {k : Nat} (hk : k < ts.length) (h : bridgeB K ts (tA ts k) (tB ts k) = false) : brTo K ts (k + 1) = brTo K ts k := by
  rw [tA_get ts k hk, tB_get ts k hk] at h
  unfold brTo
  rw [filter_succ _ _ _ hk, if_neg (by simp [h]), List.append_nil]
theorem brTo_yes {K : Int} {ts : List (Int × Int)} {k : Nat} (hk : k < ts.length) (h : bridgeB K ts (tA ts k) (tB ts k) = true) : brTo K ts (k + 1) = brTo K ts k ++ [(tA ts k, tB ts k)] := by
  rw [tA_get ts k hk, tB_get ts k hk] at h ⊢
  unfold brTo
  rw [filter_succ _ _ _ hk, if_pos h]

set_option maxHeartbeats 1600000 in
theorem specBridges_row (K : Int) (ao : Option Addr) (cap : Nat) (ts : List (Int × Int)) (w : World) (hn : ts.length ≤ 1099511627776) (ht : TiesIn w w.heap.size ao ts) :
    Calls Tryd.prog 53 #[.agg #[.int .i64 K, .slice ao ts.length cap]] w fun e w' => ∃ ao' cap', e = .returned (.slice ao' (brTs K ts).length cap') ∧ w'.ownsRow w.heap.size 35 2 (.slice ao' (brTs K ts).length cap') (brTs K ts).length (clist (brTs K ts) (brTs K ts).length) ∧ Below w.heap.size w w' := by
  obtain ⟨i1, hj, hy0, hy1, hy2⟩ := info_parts Tryd.infoTie
  have HI1 : Hid (Tryd.prog.info? 35 = some i1 ∧ i1.zero = some (.agg #[.int .i64 0, .int .i64 0]) ∧ i1.size = 2 ∧ i1.bytes = 16) := ⟨hj, hy0, hy1, hy2⟩
  have X0 := fun (t u : TypeId) => (Bx.start w K (.slice ao ts.length cap) t).next (below_one _ (.cells #[] u))
  have R0 : ∀ t : TypeId, ((w.alloc (.cells #[.int .i64 K, .slice ao ts.length cap] t)).alloc (.cells #[] 35)).ownsRow (w.heap.size + 1) 35 2 (.slice (some ⟨w.heap.size + 1, 0, none⟩) 0 0) 0 (clist ([] : List (Int × Int)) 0) := fun t => by
    have h := World.ownsRow_lit (w.alloc (.cells #[.int .i64 K, .slice ao ts.length cap] t)) #[] 0 (base := w.heap.size + 1) (e := 35) (size := 2) (by simp) (by unfold maxLen; omega) (by simp)
    have e : (w.alloc (.cells #[.int .i64 K, .slice ao ts.length cap] t)).heap.size = w.heap.size + 1 := by simp
    rw [e] at h
    exact h
  have HX0 := hideP X0
  have HR0 := hideP R0
  have HT := hideP ht
  clear X0 R0 ht hj hy0 hy1 hy2
  cases hok : okB K ts
  · have HN : Hid (brTs K ts = []) := brTs_no hok
    have HOK := hideP hok
    clear hok
    go_enter Tryd.func53, Tryd.ntmps53
    go_wp2_with fail
    refine (specOk_is false K ao cap ts _ hn ((HT.out.below (HX0.out _ _).B (Nat.le_refl _)).wide (Nat.le_of_lt (HX0.out _ _).lt)) HOK.out).mono ?_
    rintro e w1 ⟨rfl, hb1⟩
    have X1 := hideP ((HX0.out _ _).next hb1)
    have R1 := hideP (own_base (own_next (HR0.out _) hb1) (Nat.le_succ _))
    clear hb1
    go_wp2
    go_ret
    refine ⟨_, 0, by rw [HN.out]; rfl, ?_, X1.out.B⟩
    rw [HN.out]
    exact R1.out
  have HN : Hid (brTs K ts = brTo K ts ts.length) := brTs_yes hok
  have HOK := hideP hok
  have hlen := ok_short (okB_iff.1 hok)
  clear hok
  go_enter Tryd.func53, Tryd.ntmps53
  go_wp2_with fail
  refine (specOk_is true _ ao cap ts _ hn ((HT.out.below (HX0.out _ _).B (Nat.le_refl _)).wide (Nat.le_of_lt (HX0.out _ _).lt)) HOK.out).mono ?_
  rintro e w1 ⟨rfl, hb1⟩
  have X1 := hideP ((HX0.out _ _).next hb1)
  have R1 := hideP (own_next (HR0.out _) hb1)
  clear hb1 HX0 HR0
  go_wp2
  go_loopw [3, 4] (fun v i wr => ∃ k : Nat, k ≤ ts.length ∧ i = .int .i64 k ∧ wr.ownsRow (w.heap.size + 1) 35 2 v (brTo K ts k).length (clist (brTo K ts k) (brTo K ts k).length) ∧ Bx w wr K (.slice ao ts.length cap))
    (fun _ i _ => ts.length - (intOf i).toNat)
  case atStart => exact ⟨0, Nat.zero_le _, rfl, R1.out, X1.out⟩
  case round =>
    obtain ⟨k, hk, rfl, hR, hX⟩ := hrel
    have c0 := hX.c0
    have c1 := hX.c1
    by_cases hlt : k < ts.length
    · obtain ⟨bo, co, rfl⟩ := own_slice hR
      have hk1 : (k : Int) < (ts.length : Int) := by omega
      have hk0 : (0 : Int) ≤ (k : Int) := by omega
      have NT : Hid (TiesIn wr wr.heap.size ao ts) := (HT.out.below hX.B (Nat.le_refl _)).wide (Nat.le_of_lt hX.lt)
      obtain ⟨gg, off, rfl, hgw, e0, e1⟩ := (HT.out.below hX.B (Nat.le_refl _)) k hlt
      obtain ⟨a, ha⟩ : ∃ a : Int, a = tA ts k := ⟨_, rfl⟩
      obtain ⟨b, hb'⟩ : ∃ b : Int, b = tB ts k := ⟨_, rfl⟩
      have HS : Hid (tA ts k = a ∧ tB ts k = b) := ⟨ha.symm, hb'.symm⟩
      rw [← ha] at e0
      rw [← hb'] at e1
      obtain ⟨us, hus⟩ : ∃ us, us = brTo K ts k := ⟨_, rfl⟩
      have HUS := hideP hus
      have hul : us.length ≤ 64 := by rw [hus]; have := brTo_len K ts k; omega
      rw [← hus] at hR ⊢
      have hxl := hX.lt
      have hgwr : gg < wr.heap.size := Nat.lt_of_lt_of_le hgw hX.B.size
      have hX' := hideP hX
      have hR' := hideP hR
      clear hX hR ha hb' hus
      have hne : Nonempty (Cls (Below wr.heap.size wr)) := ⟨⟨wr, Below.refl _ _⟩⟩
      have p0 : ∀ u : Cls (Below wr.heap.size wr), u.w.cell? ⟨w.heap.size, 0, none⟩ = some (.int .i64 K) := fun u => (u.ok.cell (p := ⟨w.heap.size, 0, none⟩) hxl).trans c0
      have p1 : ∀ u : Cls (Below wr.heap.size wr), u.w.cell? ⟨w.heap.size, 1, none⟩ = some (.slice (some ⟨gg, off, none⟩) ts.length cap) := fun u => (u.ok.cell (p := ⟨w.heap.size, 1, none⟩) hxl).trans c1
      have p2 : ∀ u : Cls (Below wr.heap.size wr), u.w.cell? ⟨gg, off + k * 2, none⟩ = some (.int .i64 a) := fun u => (u.ok.cell (p := ⟨gg, off + k * 2, none⟩) hgwr).trans e0
      have p3 : ∀ u : Cls (Below wr.heap.size wr), u.w.cell? ⟨gg, off + k * 2 + 1, none⟩ = some (.int .i64 b) := fun u => (u.ok.cell (p := ⟨gg, off + k * 2 + 1, none⟩) hgwr).trans e1
      obtain ⟨r, hr⟩ : ∃ r, r = bridgeB K ts a b := ⟨_, rfl⟩
      have HR := hideP hr
      have CH : Hid (∀ u : Cls (Below wr.heap.size wr), Calls Tryd.prog 96 #[.agg #[.int .i64 K, .slice (some ⟨gg, off, none⟩) ts.length cap], .int .i64 a, .int .i64 b] u.w fun e w'' => e = .returned (.bool r) ∧ ∃ u2 : Cls (Below wr.heap.size wr), w'' = u2.w) := fun u => by
        refine Calls.cls (D := Below wr.heap.size wr) ?_
        rw [hr]
        exact (specBridge_any K _ cap ts a b u.w hn ((NT.out.below (C := wr.heap.size) u.ok (Nat.le_refl _)).wide u.ok.size)).mono fun e w2 ⟨he, hb2⟩ => ⟨he, u.ok.trans (hb2.mono u.ok.size)⟩
      clear hr
      go_wp2
      refine wp_region_cls (Below wr.heap.size wr) (by kernel_rfl) (by kernel_rfl) (Below.refl _ _).drew ?_
      repeat (go_big_quiet_step (first | (go_at_call 96; refine CH.out _)))
      refine wpQuiet_nil ?_
      intro w2 hw'
      have hb2 : Below wr.heap.size wr w2 := by obtain ⟨u, e⟩ := hw'; rw [e]; exact u.ok
      clear hw' p0 p1 p2 p3 CH hne NT
      have X2 := hideP (hX'.out.next hb2)
      have R2 := hideP (own_next hR'.out hb2)
      have e0' := (hb2.cell (p := ⟨gg, off + k * 2, none⟩) hgwr).trans e0
      have e1' := (hb2.cell (p := ⟨gg, off + k * 2 + 1, none⟩) hgwr).trans e1
      have c0' := X2.out.c0
      have c1' := X2.out.c1
      have hg2 : gg < w2.heap.size := Nat.lt_of_lt_of_le hgwr hb2.size
      clear hb2 c0 c1 e0 e1 hX' hR'
      cases r
      · have HNO : Hid (brTo K ts (k + 1) = brTo K ts k) := brTo_no hlt (by rw [HS.out.1, HS.out.2]; exact HR.out.symm)
        clear HR
        go_wp2
        go_roundw
        case rel => exact ⟨k + 1, by omega, by go_num, by rw [HNO.out, ← HUS.out]; exact R2.out, X2.out⟩
        case measure => simp [intOf]; omega
      · have HYES : Hid (brTo K ts (k + 1) = us ++ [(a, b)]) := by
          show brTo K ts (k + 1) = us ++ [(a, b)]
          rw [brTo_yes hlt (by rw [HS.out.1, HS.out.2]; exact HR.out.symm), HS.out.1, HS.out.2, HUS.out]
        clear HR
        have bo2 := below_one w2 (.cells #[.int .i64 a, .int .i64 b] 35)
        have XB := hideP (X2.out.next bo2)
        have RB := hideP (own_next R2.out bo2)
        have hx2 := X2.out.lt
        clear bo2
        go_wp2_with (at_builtin; refine wpList_append_own _ rfl _ _ 23 rfl (w.heap.size + 1) 35 i1 (.agg #[.int .i64 0, .int .i64 0]) 2 16 Tryd.underlying23 HI1.out.1 HI1.out.2.1 HI1.out.2.2.1 HI1.out.2.2.2 rfl (by decide) _ _ _ rfl RB.out ⟨_, 0, none⟩ 1 1 [.int .i64 a, .int .i64 b] rfl rfl ?c1 ?c2 ?c3 ?c4 ?c5 ?_)
        case c1 =>
          intro j u hj
          match j, hj with
          | 0, hj => simp at hj; subst hj; simp [Addr.add]
          | 1, hj => simp at hj; subst hj; simp [Addr.add]
        case c2 => intro u hu; simp at hu; rcases hu with rfl | rfl <;> rfl
        case c3 => unfold maxLen; omega
        case c4 => omega
        case c5 => simp; omega
        intro v' w4 hown hgrow _
        have R4 : Hid (w4.ownsRow (w.heap.size + 1) 35 2 v' (brTo K ts (k + 1)).length (clist (brTo K ts (k + 1)) (brTo K ts (k + 1)).length)) := by
          show w4.ownsRow _ _ _ _ _ _
          rw [HYES.out, List.length_append, List.length_singleton, clist_app]
          exact hown
        have X4 : Hid (Bx w w4 K (.slice (some ⟨gg, off, none⟩) ts.length cap)) := by
          have hlo := own_ge RB.out
          have hne : ∀ k : Nat, k ≤ w.heap.size → (Value.ownBlock (.slice bo us.length co)) ≠ some k := fun k hk e => by have := hlo k e; omega
          have hB : Below (w.heap.size + 1) (w2.alloc (.cells #[.int .i64 a, .int .i64 b] 35)) w4 :=
            ⟨hgrow.os, hgrow.tape, hgrow.output, hgrow.size, fun k hk => hgrow.block k (by simp; omega) (fun e => hne k (by omega) e.symm)⟩
          exact ⟨(hB.cell (p := ⟨w.heap.size, 0, none⟩) (Nat.lt_succ_self _)).trans XB.out.c0, (hB.cell (p := ⟨w.heap.size, 1, none⟩) (Nat.lt_succ_self _)).trans XB.out.c1, Nat.lt_of_lt_of_le XB.out.lt hB.size, XB.out.B.trans (hB.mono (Nat.le_succ _))⟩
        clear hown hgrow
        go_wp2
        refine ⟨⟨k + 1, by omega, by go_num, R4.out, X4.out⟩, ?_⟩
        simp [intOf]; omega
    · obtain rfl : k = ts.length := by omega
      have HR := hideP (own_base hR (Nat.le_succ _))
      have HB := hideP hX.B
      obtain ⟨bo, co, rfl⟩ := own_slice hR
      clear hR hX
      go_wp2
      go_ret
      refine ⟨bo, co, ?_, ?_, HB.out⟩
      · rw [HN.out]; rfl
      · rw [HN.out]; exact HR.out

theorem specBridges_any (K : Int) (ao : Option Addr) (cap : Nat) (ts : List (Int × Int)) (w : World) (hn : ts.length ≤ 1099511627776) (ht : TiesIn w w.heap.size ao ts) :
    Calls Tryd.prog 53 #[.agg #[.int .i64 K, .slice ao ts.length cap]] w fun e w' => ∃ ao' cap', e = .returned (.slice ao' (brTs K ts).length cap') ∧ OwnN w' w.heap.size w'.heap.size ao' (brTs K ts).length (tcell (brTs K ts)) ∧ Below w.heap.size w w' :=
  (specBridges_row K ao cap ts w hn ht).mono fun e w' ⟨ao', cap', he, ho, hb⟩ => ⟨ao', cap', he, OwnN.of_row ho, hb⟩

end Go.Proofs.YtmkbeiiifikbgaaDoor
