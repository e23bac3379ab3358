/- Walk of laws.FnWayOk: it returns true. -/
import Derived.Test.YtccjiampgpgaoaaWDrawW
import Derived.Test.YtccjiampgpgaoaaWBack
import Derived.Test.YtccjiampgpgaoaaWWayOk2
import Derived.Test.YtccjiampgpgaoaaMathR
import Derived.Test.YtccjiampgpgaoaaWBase
import Derived.Test.YtccjiampgpgaoaaWQuiet
import Derived.Deep.RegionWith
import Derived.Deep.RegionHeld3
namespace Go.Proofs.Ytccjiampgpgaoaa
open Go.RowKit
set_option linter.unusedVariables false

/-- a net in a variable, and a row of numbers -/
structure NetW (w : World) (A : Nat) (K : Int) (ao : Option Addr) (cap : Nat) (ts : List (Int × Int)) (g off : Nat) (xs : List Int) : Prop where
  c0 : w.cell? ⟨A, 0, none⟩ = some (.int .i64 K)
  c1 : w.cell? ⟨A, 1, none⟩ = some (.slice ao ts.length cap)
  lt : A < w.heap.size
  ties : TiesIn w w.heap.size ao ts
  ints : IntsIn w w.heap.size (some ⟨g, off, none⟩) xs
theorem NetW.next {w w' : World} {A : Nat} {K : Int} {ao : Option Addr} {cap : Nat} {ts : List (Int × Int)} {g off : Nat} {xs : List Int} (h : NetW w A K ao cap ts g off xs) (hb : Below w.heap.size w w') : NetW w' A K ao cap ts g off xs :=
  ⟨(hb.cell (p := ⟨A, 0, none⟩) h.lt).trans h.c0, (hb.cell (p := ⟨A, 1, none⟩) h.lt).trans h.c1, Nat.lt_of_lt_of_le h.lt hb.size, (h.ties.below hb (Nat.le_refl _)).wide hb.size, (h.ints.below hb (Nat.le_refl _)).wide hb.size⟩
theorem NetW.new {w : World} {K : Int} {ao : Option Addr} {cap : Nat} {ts : List (Int × Int)} {g off : Nat} {xs : List Int} (t : TypeId) (h : TiesIn w w.heap.size ao ts) (k : IntsIn w w.heap.size (some ⟨g, off, none⟩) xs) : NetW (w.alloc (.cells #[.int .i64 K, .slice ao ts.length cap] t)) w.heap.size K ao cap ts g off xs :=
  ⟨by simp, by simp, by simp, (h.below (below_one _ _) (Nat.le_refl _)).wide (by simp), (k.below (below_one _ _) (Nat.le_refl _)).wide (by simp)⟩
theorem implWayOk_v (v : Bool) (K : Int) (ao bo : Option Addr) (cap cap2 n : Nat) (ts : List (Int × Int)) (xs : List Int) (w : World) (hn : ts.length ≤ 1099511627776) (ht : TiesIn w w.heap.size ao ts) (hl : xs.length = n) (hxn : n ≤ 1099511627776) (hcap : n ≤ cap2) (hx : IntsIn w w.heap.size bo xs) (h : wayB K ts xs = v) :
    Calls Try.prog 5 #[.agg #[.int .i64 K, .slice ao ts.length cap], .slice bo n cap2] w fun e w' => e = .returned (.bool v) ∧ Below w.heap.size w w' := by
  subst hl; rw [← h]; exact implWayOk_any K ao bo cap cap2 ts xs w hn ht hxn hcap hx
theorem specWayOk_v (v : Bool) (K : Int) (ao bo : Option Addr) (cap cap2 n : Nat) (ts : List (Int × Int)) (xs : List Int) (w : World) (hn : ts.length ≤ 1099511627776) (ht : TiesIn w w.heap.size ao ts) (hl : xs.length = n) (hxn : n ≤ 1099511627776) (hcap : n ≤ cap2) (hx : IntsIn w w.heap.size bo xs) (h : wayB K ts xs = v) :
    Calls Try.prog 6 #[.agg #[.int .i64 K, .slice ao ts.length cap], .slice bo n cap2] w fun e w' => e = .returned (.bool v) ∧ Below w.heap.size w w' := by
  subst hl; rw [← h]; exact specWayOk_any K ao bo cap cap2 ts xs w hn ht hxn hcap hx

theorem loBack_v (ao : Option Addr) (cap n : Nat) (xs : List Int) (w : World) (hl : xs.length = n) (hn : n ≤ 900) (hx : IntsIn w w.heap.size ao xs) :
    Calls Try.prog 7 #[.slice ao n cap] w fun e w' => ∃ g off cap', e = .returned (.slice (some ⟨g, off, none⟩) n cap') ∧ RowZ w' w.heap.size g off cap' xs.reverse ∧ n ≤ cap' ∧ IntsIn w' w'.heap.size (some ⟨g, off, none⟩) xs.reverse ∧ Below w.heap.size w w' := by
  subst hl
  refine (loBack_any ao cap xs w hn hx).mono ?_
  rintro e w' ⟨g, off, cap', rfl, hr, hb⟩
  exact ⟨g, off, cap', rfl, hr, by have := hr.len; simpa using this, hr.ints hr.lt, hb⟩

theorem ints_drop {w : World} {B g off k : Nat} {xs : List Int} (h : IntsIn w B (some ⟨g, off, none⟩) xs) : IntsIn w B (some ⟨g, off + k, none⟩) (xs.drop k) := by
  intro j hj
  rw [List.length_drop] at hj
  obtain ⟨b, o, e, hb, c⟩ := h (k + j) (by omega)
  cases e
  exact ⟨g, off + k, rfl, hb, by rw [xi_drop, show off + k + j = off + (k + j) by omega]; exact c⟩
theorem ints_take {w : World} {B g off k : Nat} {xs : List Int} (h : IntsIn w B (some ⟨g, off, none⟩) xs) : IntsIn w B (some ⟨g, off, none⟩) (xs.take k) := by
  intro j hj
  rw [List.length_take] at hj
  obtain ⟨b, o, e, hb, c⟩ := h j (by omega)
  cases e
  exact ⟨g, off, rfl, hb, by rw [xi_take (by omega)]; exact c⟩

set_option maxHeartbeats 1600000 in
theorem wayOk_walk (bo0 : Option Addr) (n0 cap0 : Nat) (bo1 : Option Addr) (n1 cap1 : Nat) (w : World) (hb : BytesIn w bo0 n0) (hnil : bo0 = none → n0 = 0 ∧ cap0 = 0) (hc : n0 ≤ cap0) (hm : cap0 ≤ maxLen) (hb' : BytesIn w bo1 n1) (hnil' : bo1 = none → n1 = 0 ∧ cap1 = 0) (hc' : n1 ≤ cap1) (hm' : cap1 ≤ maxLen) :
    Calls Try.prog 3 #[.slice bo0 n0 cap0, .slice bo1 n1 cap1] w fun e w' => e = .returned (.bool true) ∧ Below w.heap.size w w' := by
  have hn0' : n0 ≤ 9223372036854775807 := by unfold maxLen at hm; omega
  have hn1' : n1 ≤ 9223372036854775807 := by unfold maxLen at hm'; omega
  by_cases hl : 1048576 < n0
  · have hl' : (1048576 : Int) < (n0 : Int) := by omega
    have hl2 : decide (1048576 < (n0 : Int)) = true := by simp; omega
    go_enter Try.func3, Try.ntmps3
    go_wp2
    go_ret
    exact ⟨rfl, Below.refl _ _⟩
  have hl' : decide ((1048576 : Int) < (n0 : Int)) = false := by simp; omega
  by_cases hk : 1048576 < n1
  · have hk' : (1048576 : Int) < (n1 : Int) := by omega
    have hk2 : decide (1048576 < (n1 : Int)) = true := by simp; omega
    go_enter Try.func3, Try.ntmps3
    go_wp2
    go_ret
    exact ⟨rfl, Below.refl _ _⟩
  have hk' : decide ((1048576 : Int) < (n1 : Int)) = false := by simp; omega
  go_enter Try.func3, Try.ntmps3
  go_wp2_with fail
  refine (drawWayOk_any bo0 n0 cap0 _ hb hnil hc hm).mono ?_
  rintro e w1 ⟨K, ao, cap', ts, g, off, cap2, xs, rfl, D1⟩
  have hn : ts.length ≤ 1099511627776 := by have := D1.short; omega
  have hxl := D1.few
  have HB1 := hideP D1.bel
  have hcp := D1.row.len
  have bo1 := below_one w1 (.cells #[.int .i64 K, .slice ao ts.length cap'] 25)
  have N1 := hideP (NetW.new (w := w1) (K := K) (cap := cap') 25 (D1.own.ties (Nat.le_refl _)) (D1.row.ints D1.row.lt))
  have HB1a := hideP (HB1.out.trans (bo1.mono HB1.out.size))
  clear D1 bo1
  obtain ⟨v, hv⟩ : ∃ v, wayB K ts xs = v := ⟨_, rfl⟩
  have HV := hideP hv
  obtain ⟨m, hm⟩ : ∃ m, xs.length = m := ⟨_, rfl⟩
  have HM := hideP hm
  rw [hm] at hxl hcp ⊢
  clear hv hm
  go_wp2_with fail
  refine (implWayOk_v v K ao _ cap' cap2 m ts xs _ hn N1.out.ties HM.out (by omega) hcp N1.out.ints HV.out).mono ?_
  rintro e w2 ⟨rfl, hb2⟩
  have N2 := hideP (N1.out.next hb2)
  have HB2 := hideP (HB1a.out.trans (hb2.mono HB1a.out.size))
  clear hb2
  have HMr : Hid (xs.reverse.length = m) := by show xs.reverse.length = m; rw [List.length_reverse]; exact HM.out
  have HVr : Hid (wayB K ts xs.reverse = v) := (wayB_rev K ts xs).trans HV.out
  have hm9 : m ≤ 1099511627776 := by omega
  have hm8 : m ≤ 900 := by omega
  have TD : Hid (TiesIn w2.drew w2.drew.heap.size ao ts) := N2.out.ties
  have XD : Hid (IntsIn w2.drew w2.drew.heap.size (some ⟨g, off, none⟩) xs) := N2.out.ints
  have TI : Hid (∀ w', Below w2.drew.heap.size w2.drew w' → TiesIn w' w'.heap.size ao ts) := fun w' h => (N2.out.next ((Below.refl _ _).drew.trans h)).ties
  have XI : Hid (∀ w', Below w2.drew.heap.size w2.drew w' → IntsIn w' w'.heap.size (some ⟨g, off, none⟩) xs) := fun w' h => (N2.out.next ((Below.refl _ _).drew.trans h)).ints
  have n0 := N2.out.c0
  have n1 := N2.out.c1
  have nl := N2.out.lt
  cases v
  · go_wp2_with fail
    go_region_held3 (fun w' => w'.cell? ⟨w1.heap.size, 0, none⟩ = some (.int .i64 K) ∧ w'.cell? ⟨w1.heap.size, 1, none⟩ = some (.slice ao ts.length cap')) (first | exact ⟨n0, n1⟩ | exact ⟨(hb3.cell (p := ⟨w1.heap.size, 0, none⟩) nl).trans n0, (hb3.cell (p := ⟨w1.heap.size, 1, none⟩) nl).trans n1⟩ | exact ⟨(hb34.cell (p := ⟨w1.heap.size, 0, none⟩) nl).trans n0, (hb34.cell (p := ⟨w1.heap.size, 1, none⟩) nl).trans n1⟩ | exact ⟨(hb345.cell (p := ⟨w1.heap.size, 0, none⟩) nl).trans n0, (hb345.cell (p := ⟨w1.heap.size, 1, none⟩) nl).trans n1⟩) (first | (go_at_call 6; refine (specWayOk_v false K ao _ cap' cap2 m ts xs _ hn TD.out HM.out hm9 hcp XD.out HV.out).mono ?_; rintro e w3 ⟨rfl, hb3⟩) | (go_at_call 7; refine (loBack_v _ cap2 m xs _ HM.out hm8 (XI.out w3 hb3)).mono ?_; rintro e w4 ⟨g4, off4, cap4, rfl, hR4, hc4, hi4, hb4⟩; have hb34 := hb3.trans (hb4.mono hb3.size)) | (go_at_call 5; refine (implWayOk_v false K ao _ cap' cap4 m ts xs.reverse _ hn (TI.out w4 hb34) HMr.out hm9 hc4 hi4 HVr.out).mono ?_; rintro e w5 ⟨rfl, hb5⟩; have hb345 := hb34.trans (hb5.mono hb34.size)))
    have N5 := hideP (N2.out.next ((Below.refl _ _).drew.trans hb345))
    have HB5 := hideP (HB2.out.trans (((Below.refl w2.heap.size w2).drew.trans hb345).mono HB2.out.size))
    clear hb345 hb34 hb3 hb4 hb5 hR4 hc4 hi4 TD XD TI XI n0 n1 nl
    have TD : Hid (TiesIn w5.drew w5.drew.heap.size ao ts) := N5.out.ties
    have XD : Hid (IntsIn w5.drew w5.drew.heap.size (some ⟨g, off, none⟩) xs) := N5.out.ints
    have TI : Hid (∀ w', Below w5.drew.heap.size w5.drew w' → TiesIn w' w'.heap.size ao ts) := fun w' h => (N5.out.next ((Below.refl _ _).drew.trans h)).ties
    have XI : Hid (∀ w', Below w5.drew.heap.size w5.drew w' → IntsIn w' w'.heap.size (some ⟨g, off, none⟩) xs) := fun w' h => (N5.out.next ((Below.refl _ _).drew.trans h)).ints
    have n0 := N5.out.c0
    have n1 := N5.out.c1
    have nl := N5.out.lt
    have HBn : Hid (∀ w', Below w5.drew.heap.size w5.drew w' → Below w.heap.size w w') := fun w' h => HB5.out.trans (((Below.refl _ _).drew.trans h).mono HB5.out.size)
    go_wp2_with fail
    go_region_held3 (fun w' => w'.cell? ⟨w1.heap.size, 0, none⟩ = some (.int .i64 K) ∧ w'.cell? ⟨w1.heap.size, 1, none⟩ = some (.slice ao ts.length cap')) (first | exact ⟨n0, n1⟩ | exact ⟨(hb3.cell (p := ⟨w1.heap.size, 0, none⟩) nl).trans n0, (hb3.cell (p := ⟨w1.heap.size, 1, none⟩) nl).trans n1⟩ | exact ⟨(hb34.cell (p := ⟨w1.heap.size, 0, none⟩) nl).trans n0, (hb34.cell (p := ⟨w1.heap.size, 1, none⟩) nl).trans n1⟩ | exact ⟨(hb345.cell (p := ⟨w1.heap.size, 0, none⟩) nl).trans n0, (hb345.cell (p := ⟨w1.heap.size, 1, none⟩) nl).trans n1⟩) (first | (go_at_call 6; refine (specWayOk_v false K ao _ cap' cap2 m ts xs _ hn TD.out HM.out hm9 hcp XD.out HV.out).mono ?_; rintro e w3 ⟨rfl, hb3⟩) | (go_at_call 7; refine (loBack_v _ cap2 m xs _ HM.out hm8 (XI.out w3 hb3)).mono ?_; rintro e w4 ⟨g4, off4, cap4, rfl, hR4, hc4, hi4, hb4⟩; have hb34 := hb3.trans (hb4.mono hb3.size)) | (go_at_call 5; refine (implWayOk_v false K ao _ cap' cap4 m ts xs.reverse _ hn (TI.out w4 hb34) HMr.out hm9 hc4 hi4 HVr.out).mono ?_; rintro e w5 ⟨rfl, hb5⟩; have hb345 := hb34.trans (hb5.mono hb34.size)))
    have HB6 := hideP (HBn.out _ hb345)
    clear hb345 hb34 hb3 hb4 hb5 hR4 hc4 hi4
    go_wp2
    go_ret
    exact ⟨rfl, HB6.out⟩
  go_wp2_with fail
  go_region_held3 (fun w' => w'.cell? ⟨w1.heap.size, 0, none⟩ = some (.int .i64 K) ∧ w'.cell? ⟨w1.heap.size, 1, none⟩ = some (.slice ao ts.length cap')) (first | exact ⟨n0, n1⟩ | exact ⟨(hb3.cell (p := ⟨w1.heap.size, 0, none⟩) nl).trans n0, (hb3.cell (p := ⟨w1.heap.size, 1, none⟩) nl).trans n1⟩ | exact ⟨(hb34.cell (p := ⟨w1.heap.size, 0, none⟩) nl).trans n0, (hb34.cell (p := ⟨w1.heap.size, 1, none⟩) nl).trans n1⟩ | exact ⟨(hb345.cell (p := ⟨w1.heap.size, 0, none⟩) nl).trans n0, (hb345.cell (p := ⟨w1.heap.size, 1, none⟩) nl).trans n1⟩) (first | (go_at_call 6; refine (specWayOk_v true K ao _ cap' cap2 m ts xs _ hn TD.out HM.out hm9 hcp XD.out HV.out).mono ?_; rintro e w3 ⟨rfl, hb3⟩) | (go_at_call 7; refine (loBack_v _ cap2 m xs _ HM.out hm8 (XI.out w3 hb3)).mono ?_; rintro e w4 ⟨g4, off4, cap4, rfl, hR4, hc4, hi4, hb4⟩; have hb34 := hb3.trans (hb4.mono hb3.size)) | (go_at_call 5; refine (implWayOk_v true K ao _ cap' cap4 m ts xs.reverse _ hn (TI.out w4 hb34) HMr.out hm9 hc4 hi4 HVr.out).mono ?_; rintro e w5 ⟨rfl, hb5⟩; have hb345 := hb34.trans (hb5.mono hb34.size)))
  have N5 := hideP (N2.out.next ((Below.refl _ _).drew.trans hb345))
  have HB5 := hideP (HB2.out.trans (((Below.refl w2.heap.size w2).drew.trans hb345).mono HB2.out.size))
  clear hb345 hb34 hb3 hb4 hb5 hR4 hc4 hi4 TD XD TI XI n0 n1 nl
  have hm0 : ¬ m = 0 := by have := (wayB_iff.1 HV.out).pos; rw [HM.out] at this; omega
  obtain ⟨kk, hkk⟩ : ∃ kk : Nat, (n1 : Int) % (m : Int) = (kk : Int) := ⟨n1 % m, by simp⟩
  have hkm : kk < m := by have h1 := Int.emod_lt_of_pos (n1 : Int) (show (0 : Int) < (m : Int) by omega); omega
  have n0 := N5.out.c0
  have n1 := N5.out.c1
  have nl := N5.out.lt
  have HBn : Hid (∀ w', Below w5.drew.heap.size w5.drew w' → Below w.heap.size w w') := fun w' h => HB5.out.trans (((Below.refl _ _).drew.trans h).mono HB5.out.size)
  have CALL : Hid (∀ (u : Cls (Below w5.heap.size w5)) (off' n' c' : Nat), ((off' = off + kk ∧ n' = m - kk ∧ c' = cap2 - kk) ∨ (off' = off ∧ n' = kk + 1 ∧ c' = cap2)) → Calls Try.prog 5 #[.agg #[.int .i64 K, .slice ao ts.length cap'], .slice (some ⟨g, off', none⟩) n' c'] u.w fun e w'' => e = .returned (.bool true) ∧ ∃ u2 : Cls (Below w5.heap.size w5), w'' = u2.w) := by
    intro u off' n' c' hh
    have N6 := N5.out.next u.ok
    refine Calls.cls (D := Below w5.heap.size w5) ?_
    rcases hh with ⟨rfl, rfl, rfl⟩ | ⟨rfl, rfl, rfl⟩
    · exact (implWayOk_v true K ao _ cap' (cap2 - kk) (m - kk) ts (xs.drop kk) _ hn N6.ties (by rw [List.length_drop, HM.out]) (by omega) (by omega) (ints_drop N6.ints) (wayB_drop HV.out (by rw [HM.out]; exact hkm))).mono fun e w2 ⟨he, hb2⟩ => ⟨he, u.ok.trans (hb2.mono u.ok.size)⟩
    · exact (implWayOk_v true K ao _ cap' c' (kk + 1) ts (xs.take (kk + 1)) _ hn N6.ties (by rw [List.length_take, HM.out]; omega) (by omega) (by omega) (ints_take N6.ints) (wayB_take HV.out (by rw [HM.out]; exact hkm))).mono fun e w2 ⟨he, hb2⟩ => ⟨he, u.ok.trans (hb2.mono u.ok.size)⟩
  have hne : Nonempty (Cls (Below w5.heap.size w5)) := ⟨⟨w5, Below.refl _ _⟩⟩
  have q0 : ∀ u : Cls (Below w5.heap.size w5), u.w.cell? ⟨w1.heap.size, 0, none⟩ = some (.int .i64 K) := fun u => (u.ok.cell (p := ⟨w1.heap.size, 0, none⟩) nl).trans n0
  have q1 : ∀ u : Cls (Below w5.heap.size w5), u.w.cell? ⟨w1.heap.size, 1, none⟩ = some (.slice ao ts.length cap') := fun u => (u.ok.cell (p := ⟨w1.heap.size, 1, none⟩) nl).trans n1
  have hk1 : (kk : Int) ≤ (m : Int) := by omega
  have hk2 : (kk : Int) + 1 ≤ (cap2 : Int) := by omega
  have hk3 : (m : Int) ≤ (cap2 : Int) := by omega
  have hk4 : (kk : Int) ≤ (cap2 : Int) := by omega
  go_wp2_with fail
  simp only [hkk]
  clear hkk
  refine wp_region_cls (Below w5.heap.size w5) (by kernel_rfl) (by kernel_rfl) (Below.refl _ _).drew ?_
  repeat (go_big_quiet_step (first | (go_at_call 5; refine CALL.out _ _ _ _ ?_; first | exact Or.inl ⟨rfl, rfl, rfl⟩ | exact Or.inr ⟨rfl, rfl, rfl⟩)))
  refine wpQuiet_nil ?_
  intro wz hw'
  have hz : Below w5.heap.size w5 wz := by obtain ⟨u, e⟩ := hw'; rw [e]; exact u.ok
  clear hw'
  have HB7 := hideP (HB5.out.trans (hz.mono HB5.out.size))
  clear hz
  go_wp2
  go_ret
  exact ⟨rfl, HB7.out⟩

end Go.Proofs.Ytccjiampgpgaoaa
