/- Walk of spec.WayOk. -/
import Derived.Test.YtljnjpjnadlmhaaPartWPath
import Derived.Test.YtljnjpjnadlmhaaPartWSpecOk
import Derived.Test.YtljnjpjnadlmhaaPartWReach
namespace Go.Proofs.Ytljnjpjnadlmhaa
open Go.RowKit
set_option linter.unusedVariables false

theorem l2Has_is (v : Bool) (ao : Option Addr) (n cap : Nat) (xs : List Int) (k : Int) (w : World) (hn : n ≤ 1099511627776) (hl : xs.length = n) (hx : IntsIn w w.heap.size ao xs) (h : inI xs k = v) :
    Calls Try.prog 50 #[.slice ao n cap, .int .i64 k] w fun e w' => e = .returned (.bool v) ∧ Below w.heap.size w w' := by
  rw [← h]; subst hl; exact l2Has_any ao cap xs k w hn hx
theorem specHas_is (v : Bool) (K : Int) (ao : Option Addr) (cap : Nat) (ts : List (Int × Int)) (a b : Int) (w : World) (hn : ts.length ≤ 1099511627776) (ht : TiesIn w w.heap.size ao ts) (h : hasB K ts a b = v) :
    Calls Try.prog 67 #[.agg #[.int .i64 K, .slice ao ts.length cap], .int .i64 a, .int .i64 b] w fun e w' => e = .returned (.bool v) ∧ Below w.heap.size w w' := by
  rw [← h]; exact specHas_any K ao cap ts a b w hn ht

set_option maxHeartbeats 1600000 in
theorem specWayOk_any (K : Int) (ao bo : Option Addr) (cap cap2 : Nat) (ts : List (Int × Int)) (xs : List Int) (w : World) (hn : ts.length ≤ 1099511627776) (ht : TiesIn w w.heap.size ao ts) (hxn : xs.length ≤ 1099511627776) (hcap : xs.length ≤ cap2) (hx : IntsIn w w.heap.size bo xs) :
    Calls Try.prog 56 #[.agg #[.int .i64 K, .slice ao ts.length cap], .slice bo xs.length cap2] w fun e w' => e = .returned (.bool (wayB K ts xs)) ∧ Below w.heap.size w w' := by
  have ht1 : TiesIn (w.alloc (.cells #[.int .i64 K, .slice ao ts.length cap] 25)) (w.heap.size + 1) ao ts := (ht.below (below_one _ _) (Nat.le_refl _)).wide (by omega)
  obtain ⟨n, hnn⟩ : ∃ n, n = xs.length := ⟨_, rfl⟩
  have HN : Hid (n = xs.length) := hnn
  rw [← hnn] at hxn hcap ⊢
  clear hnn
  go_enter Try.func56, Try.ntmps56
  go_wp2_with fail
  refine (specOk_any K ao cap ts _ hn (by simpa using ht1)).mono ?_
  rintro e w1 ⟨rfl, hb⟩
  have hb' : Below (w.heap.size + 1) (w.alloc (.cells #[.int .i64 K, .slice ao ts.length cap] 25)) w1 := by simpa using hb
  have hbb : Below w.heap.size w w1 := (below_one _ _).trans (hb'.mono (by omega))
  have c0 : w1.cell? ⟨w.heap.size, 0, none⟩ = some (.int .i64 K) := (hb'.cell (p := ⟨w.heap.size, 0, none⟩) (by simp)).trans (by simp)
  have c1 : w1.cell? ⟨w.heap.size, 1, none⟩ = some (.slice ao ts.length cap) := (hb'.cell (p := ⟨w.heap.size, 1, none⟩) (by simp)).trans (by simp)
  have hz1 : w.heap.size < w1.heap.size := by have := hb'.size; simp at this; omega
  have T1 : Hid (TiesIn w1 w.heap.size ao ts) := ht.below hbb (Nat.le_refl _)
  have X1 : Hid (IntsIn w1 w.heap.size bo xs) := hx.below hbb (Nat.le_refl _)
  clear hb hb' ht1 ht hx
  cases hok : okB K ts
  · have HH : Hid (wayB K ts xs = false) := wayB_nok hok
    clear hok
    go_wp2
    go_ret
    exact ⟨by rw [HH.out]; rfl, hbb⟩
  by_cases hn0 : n = 0
  · have HH : Hid (wayB K ts xs = false) := wayB_nil (by rw [← HN.out]; exact hn0)
    subst hn0
    clear hok
    go_wp2
    go_ret
    exact ⟨by rw [HH.out]; rfl, hbb⟩
  have HO : Hid (okB K ts = true) := hok
  have hn1 : ¬ ((n : Int) < 1) := by omega
  clear hok
  go_wp2
  go_loopw [5] (fun i wr => ∃ k : Nat, k ≤ n ∧ i = .int .i64 k ∧ StepsTo K ts xs k ∧ Below w1.heap.size w1 wr)
    (fun i _ => n - (intOf i).toNat)
  case atStart => exact ⟨0, Nat.zero_le _, rfl, fun i hi => absurd hi (by omega), Below.refl _ _⟩
  case round =>
    obtain ⟨k, hk, rfl, hst, hnx⟩ := hrel
    by_cases hlt : k < n
    · have hkl : k < xs.length := by rw [← HN.out]; exact hlt
      obtain ⟨b, off, rfl, hbw, e0⟩ := X1.out k hkl
      have d0 : wr.cell? ⟨w.heap.size, 0, none⟩ = some (.int .i64 K) := (hnx.cell (p := ⟨w.heap.size, 0, none⟩) hz1).trans c0
      have d1 : wr.cell? ⟨w.heap.size, 1, none⟩ = some (.slice ao ts.length cap) := (hnx.cell (p := ⟨w.heap.size, 1, none⟩) hz1).trans c1
      have e0' : wr.cell? ⟨b, off + k, none⟩ = some (.int .i64 (xi xs k)) := (hnx.cell (p := ⟨b, off + k, none⟩) (by show b < w1.heap.size; omega)).trans e0
      have hzw : w1.heap.size ≤ wr.heap.size := hnx.size
      have hwz : w.heap.size < wr.heap.size := by omega
      have hbz : b < wr.heap.size := by omega
      obtain ⟨x, hxx⟩ : ∃ x, x = xi xs k := ⟨_, rfl⟩
      rw [← hxx] at e0'
      have HX : Hid (x = xi xs k) := hxx
      have TR : Hid (TiesIn wr wr.heap.size ao ts) := (T1.out.below hnx (by omega)).wide (by show w.heap.size ≤ wr.heap.size; omega)
      have XR : Hid (IntsIn wr wr.heap.size (some ⟨b, off, none⟩) (xs.take k)) := ((X1.out.below hnx (by omega)).wide (by show w.heap.size ≤ wr.heap.size; omega)).take k
      have HB : Hid (Below w.heap.size w wr) := hbb.trans (hnx.mono hbb.size)
      have HB1 : Hid (Below w1.heap.size w1 wr) := hnx
      have hk0 : (0 : Int) ≤ (k : Int) := by omega
      have hk1 : (k : Int) < (n : Int) := by omega
      have hk2 : (k : Int) ≤ (cap2 : Int) := by omega
      clear e0 hxx
      have hne : Nonempty (Cls (Below wr.heap.size wr)) := ⟨⟨wr, Below.refl _ _⟩⟩
      have q0 : ∀ u : Cls (Below wr.heap.size wr), u.w.cell? ⟨w.heap.size, 0, none⟩ = some (.int .i64 K) := fun u => (u.ok.cell (p := ⟨w.heap.size, 0, none⟩) hwz).trans d0
      have q1 : ∀ u : Cls (Below wr.heap.size wr), u.w.cell? ⟨w.heap.size, 1, none⟩ = some (.slice ao ts.length cap) := fun u => (u.ok.cell (p := ⟨w.heap.size, 1, none⟩) hwz).trans d1
      have q2 : ∀ u : Cls (Below wr.heap.size wr), u.w.cell? ⟨b, off + k, none⟩ = some (.int .i64 x) := fun u => (u.ok.cell (p := ⟨b, off + k, none⟩) hbz).trans e0'
      have TC : Hid (∀ u : Cls (Below wr.heap.size wr), TiesIn u.w u.w.heap.size ao ts) := fun u => (TR.out.below (C := wr.heap.size) u.ok (Nat.le_refl _)).wide u.ok.size
      have XC : Hid (∀ u : Cls (Below wr.heap.size wr), IntsIn u.w u.w.heap.size (some ⟨b, off, none⟩) (xs.take k)) := fun u => (XR.out.below (C := wr.heap.size) u.ok (Nat.le_refl _)).wide u.ok.size
      have BC : Hid (∀ (u : Cls (Below wr.heap.size wr)) (w2 : World), Below u.w.heap.size u.w w2 → Below wr.heap.size wr w2) := fun u w2 h => u.ok.trans (h.mono u.ok.size)
      cases hkn : (okB K ts && knotB x K)
      · have HK : Hid ((okB K ts && knotB x K) = false) := hkn
        have HH : Hid (wayB K ts xs = false) := wayB_bad hkl (by rw [HO.out, Bool.true_and, HX.out] at hkn; simp [stepB, hkn])
        clear hkn hst c0 c1 hnx
        go_wp2
        refine wp_region_cls (Below wr.heap.size wr) (by kernel_rfl) (by kernel_rfl) (Below.refl _ _).drew ?_
        repeat (go_big_quiet_step (first | (go_at_call 32; refine Calls.cls ((l1Knot_v false K ao cap ts x _ hn ?_ HK.out).mono fun e w2 ⟨he, hb2⟩ => ⟨he, ?_⟩); exact TC.out _; exact BC.out _ _ hb2)))
        refine wpQuiet_nil ?_
        intro wq hw'
        have hq : Below wr.heap.size wr wq := by obtain ⟨u, e⟩ := hw'; rw [e]; exact u.ok
        clear hw'
        have HB2 : Hid (Below w.heap.size w wq) := HB.out.trans (hq.mono (by show w.heap.size ≤ wr.heap.size; omega))
        clear hq
        go_wp2
        go_ret
        exact ⟨by rw [HH.out]; rfl, HB2.out⟩
      · have HK : Hid ((okB K ts && knotB x K) = true) := hkn
        have hkx : knotB (xi xs k) K = true := by rw [HO.out, Bool.true_and, HX.out] at hkn; exact hkn
        have hkm : k ≤ 1099511627776 := by omega
        have HL : Hid ((xs.take k).length = k) := len_take (Nat.le_of_lt hkl)
        clear hkn
        cases hin : inI (xs.take k) x
        · have HI : Hid (inI (xs.take k) x = false) := hin
          rw [HX.out] at hin
          by_cases hk00 : k = 0
          · have HS : Hid (StepsTo K ts xs (k + 1)) := steps_snoc hst (by rw [stepB, hkx, hin, hk00]; simp)
            have dk : decide ((0 : Int) < (k : Int)) = false := by simp; omega
            have dk2 : decide (0 < k) = false := by simp; omega
            clear hst c0 c1 hnx hkx hin hk00
            go_wp2
            refine wp_region_cls (Below wr.heap.size wr) (by kernel_rfl) (by kernel_rfl) (Below.refl _ _).drew ?_
            repeat (go_big_quiet_step (first | (go_at_call 32; refine Calls.cls ((l1Knot_v true K ao cap ts x _ hn ?_ HK.out).mono fun e w2 ⟨he, hb2⟩ => ⟨he, ?_⟩); exact TC.out _; exact BC.out _ _ hb2) | (go_at_call 50; refine Calls.cls ((l2Has_is false _ k cap2 (xs.take k) x _ hkm HL.out ?_ HI.out).mono fun e w2 ⟨he, hb2⟩ => ⟨he, ?_⟩); exact XC.out _; exact BC.out _ _ hb2)))
            refine wpQuiet_nil ?_
            intro wq hw'
            have hq : Below wr.heap.size wr wq := by obtain ⟨u, e⟩ := hw'; rw [e]; exact u.ok
            clear hw'
            have HB2 : Hid (Below w1.heap.size w1 wq) := HB1.out.trans (hq.mono (by show w1.heap.size ≤ wr.heap.size; omega))
            clear hq
            go_wp2
            go_roundw
            case rel => exact ⟨k + 1, by omega, by go_num, HS.out, HB2.out⟩
            case measure => simp [intOf]; omega
          · obtain ⟨j, rfl⟩ : ∃ j, k = j + 1 := ⟨k - 1, by omega⟩
            obtain ⟨b', off', hbo, hbw', p0⟩ := X1.out j (by omega)
            simp only [Option.some.injEq, Addr.mk.injEq, and_true] at hbo
            obtain ⟨rfl, rfl⟩ := hbo
            have p0' : wr.cell? ⟨b, off + j, none⟩ = some (.int .i64 (xi xs j)) := (hnx.cell (p := ⟨b, off + j, none⟩) (by show b < w1.heap.size; omega)).trans p0
            obtain ⟨px, hpx⟩ : ∃ px, px = xi xs j := ⟨_, rfl⟩
            rw [← hpx] at p0'
            have HP : Hid (px = xi xs j) := hpx
            have q3 : ∀ u : Cls (Below wr.heap.size wr), u.w.cell? ⟨b, off + j, none⟩ = some (.int .i64 px) := fun u => (u.ok.cell (p := ⟨b, off + j, none⟩) hbz).trans p0'
            have dk : decide ((0 : Int) < (j : Int) + 1) = true := decide_eq_true (by omega)
            have hkp : (0 : Int) < (j : Int) + 1 := by omega
            have ek : IntKind.i64.wrap ((j : Int) + 1 - 1) = (j : Int) := by rw [IntKind.wrap_i64]; omega
            have eb2 : (j : Int) < (n : Int) := by omega
            have eb3 : j < n := by omega
            clear p0 hpx
            cases hha : hasB K ts px x
            · have HT : Hid (hasB K ts px x = false) := hha
              have HH : Hid (wayB K ts xs = false) := wayB_bad hkl (by rw [HX.out, HP.out] at hha; simp [stepB, hha])
              clear hst c0 c1 hnx hkx hin hha hk00
              go_wp2
              refine wp_region_cls (Below wr.heap.size wr) (by kernel_rfl) (by kernel_rfl) (Below.refl _ _).drew ?_
              repeat (go_big_quiet_step (first | (go_at_call 32; refine Calls.cls ((l1Knot_v true K ao cap ts x _ hn ?_ HK.out).mono fun e w2 ⟨he, hb2⟩ => ⟨he, ?_⟩); exact TC.out _; exact BC.out _ _ hb2) | (go_at_call 50; refine Calls.cls ((l2Has_is false _ (j + 1) cap2 (xs.take (j + 1)) x _ hkm HL.out ?_ HI.out).mono fun e w2 ⟨he, hb2⟩ => ⟨he, ?_⟩); exact XC.out _; exact BC.out _ _ hb2) | (go_at_call 67; refine Calls.cls ((specHas_is false K ao cap ts px x _ hn ?_ HT.out).mono fun e w2 ⟨he, hb2⟩ => ⟨he, ?_⟩); exact TC.out _; exact BC.out _ _ hb2)))
              refine wpQuiet_nil ?_
              intro wq hw'
              have hq : Below wr.heap.size wr wq := by obtain ⟨u, e⟩ := hw'; rw [e]; exact u.ok
              clear hw'
              have HB2 : Hid (Below w.heap.size w wq) := HB.out.trans (hq.mono (by show w.heap.size ≤ wr.heap.size; omega))
              clear hq
              go_wp2
              go_ret
              exact ⟨by rw [HH.out]; rfl, HB2.out⟩
            · have HT : Hid (hasB K ts px x = true) := hha
              have HS : Hid (StepsTo K ts xs (j + 1 + 1)) := steps_snoc hst (by rw [HX.out, HP.out] at hha; simp [stepB, hha, hkx, hin])
              clear hst c0 c1 hnx hkx hin hha hk00
              go_wp2
              refine wp_region_cls (Below wr.heap.size wr) (by kernel_rfl) (by kernel_rfl) (Below.refl _ _).drew ?_
              repeat (go_big_quiet_step (first | (go_at_call 32; refine Calls.cls ((l1Knot_v true K ao cap ts x _ hn ?_ HK.out).mono fun e w2 ⟨he, hb2⟩ => ⟨he, ?_⟩); exact TC.out _; exact BC.out _ _ hb2) | (go_at_call 50; refine Calls.cls ((l2Has_is false _ (j + 1) cap2 (xs.take (j + 1)) x _ hkm HL.out ?_ HI.out).mono fun e w2 ⟨he, hb2⟩ => ⟨he, ?_⟩); exact XC.out _; exact BC.out _ _ hb2) | (go_at_call 67; refine Calls.cls ((specHas_is true K ao cap ts px x _ hn ?_ HT.out).mono fun e w2 ⟨he, hb2⟩ => ⟨he, ?_⟩); exact TC.out _; exact BC.out _ _ hb2)))
              refine wpQuiet_nil ?_
              intro wq hw'
              have hq : Below wr.heap.size wr wq := by obtain ⟨u, e⟩ := hw'; rw [e]; exact u.ok
              clear hw'
              have HB2 : Hid (Below w1.heap.size w1 wq) := HB1.out.trans (hq.mono (by show w1.heap.size ≤ wr.heap.size; omega))
              clear hq
              go_wp2
              go_roundw
              case rel => exact ⟨j + 1 + 1, by omega, by go_num, HS.out, HB2.out⟩
              case measure => simp [intOf]; omega
        · have HI : Hid (inI (xs.take k) x = true) := hin
          have HH : Hid (wayB K ts xs = false) := wayB_bad hkl (by rw [HX.out] at hin; simp [stepB, hin])
          clear hst c0 c1 hnx hkx hin
          go_wp2
          refine wp_region_cls (Below wr.heap.size wr) (by kernel_rfl) (by kernel_rfl) (Below.refl _ _).drew ?_
          repeat (go_big_quiet_step (first | (go_at_call 32; refine Calls.cls ((l1Knot_v true K ao cap ts x _ hn ?_ HK.out).mono fun e w2 ⟨he, hb2⟩ => ⟨he, ?_⟩); exact TC.out _; exact BC.out _ _ hb2) | (go_at_call 50; refine Calls.cls ((l2Has_is true _ k cap2 (xs.take k) x _ hkm HL.out ?_ HI.out).mono fun e w2 ⟨he, hb2⟩ => ⟨he, ?_⟩); exact XC.out _; exact BC.out _ _ hb2)))
          refine wpQuiet_nil ?_
          intro wq hw'
          have hq : Below wr.heap.size wr wq := by obtain ⟨u, e⟩ := hw'; rw [e]; exact u.ok
          clear hw'
          have HB2 : Hid (Below w.heap.size w wq) := HB.out.trans (hq.mono (by show w.heap.size ≤ wr.heap.size; omega))
          clear hq
          go_wp2
          go_ret
          exact ⟨by rw [HH.out]; rfl, HB2.out⟩
    · have hkn : k = n := by omega
      subst hkn
      have HH : Hid (wayB K ts xs = true) := wayB_all HO.out (by rw [← HN.out]; omega) (by rw [← HN.out]; exact hst)
      have HB : Hid (Below w.heap.size w wr) := hbb.trans (hnx.mono hbb.size)
      clear hst c0 c1
      go_wp2
      go_ret
      exact ⟨by rw [HH.out]; rfl, HB.out⟩

end Go.Proofs.Ytljnjpjnadlmhaa
