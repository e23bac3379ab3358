/- Texts put together: WWayOk2, WRowZ. -/
import Derived.Test.YtljnjpjnadlmhaaPartWPath
import Derived.Test.YtljnjpjnadlmhaaPartWReach
import Derived.Test.YtljnjpjnadlmhaaPartWInts
import Derived.Test.YtljnjpjnadlmhaaPartWRows
import Derived.ArgAppend
import Derived.OwnWalk
/- Walk of impl.WayOk. -/
namespace Go.Proofs.Ytljnjpjnadlmhaa
open Go.RowKit
set_option linter.unusedVariables false

theorem pcell_lt {l : List Int} {j : Nat} (h : j < 8) : pcell l j = .int .i64 (xi l j) := if_pos h
theorem pcell_8 {l : List Int} : pcell l 8 = .int .i64 (l.length : Int) := rfl
theorem hasKnot_is (v : Bool) (K : Int) (u : Value) (k : Int) (w : World) (h : knotB k K = v) :
    Calls Try.prog 51 #[.agg #[.int .i64 K, u], .int .i64 k] w fun e w' => e = .returned (.bool v) ∧ Below w.heap.size w w' := by
  rw [← h]; exact (hasKnot_any K u k w).mono fun e w' ⟨he, hw⟩ => ⟨he, by rw [hw]; exact below_one _ _⟩
theorem with_to (l l2 : List Int) (k : Int) (w : World) (h : l.length < 8) (h2 : l2 = l ++ [k]) : Calls Try.prog 65 #[.agg #[.int .i64 (xi l 0), .int .i64 (xi l 1), .int .i64 (xi l 2), .int .i64 (xi l 3), .int .i64 (xi l 4), .int .i64 (xi l 5), .int .i64 (xi l 6), .int .i64 (xi l 7), .int .i64 (l.length : Int)], .int .i64 k] w fun x w' => x = .returned (.agg #[.int .i64 (xi l2 0), .int .i64 (xi l2 1), .int .i64 (xi l2 2), .int .i64 (xi l2 3), .int .i64 (xi l2 4), .int .i64 (xi l2 5), .int .i64 (xi l2 6), .int .i64 (xi l2 7), .int .i64 (l2.length : Int)]) ∧ Below w.heap.size w w' := by
  subst h2; exact with_path l k w h
theorem canGo_is (v : Bool) (l : List Int) (S : Nat) (k : Int) (w : World) (h0 : 0 < l.length) (h : l.length ≤ 8) (hS : S < 2 ^ 64) (hv : canB S l k = v) : Calls Try.prog 66 #[.agg #[.int .i64 (xi l 0), .int .i64 (xi l 1), .int .i64 (xi l 2), .int .i64 (xi l 3), .int .i64 (xi l 4), .int .i64 (xi l 5), .int .i64 (xi l 6), .int .i64 (xi l 7), .int .i64 (l.length : Int)], .int .u64 (S : Int), .int .i64 k] w fun x w' => x = .returned (.bool v) ∧ Below w.heap.size w w' := by
  subst hv; exact canGo_any l S k w h0 h hS

theorem own_path (w : World) (l : List Int) (t : TypeId) : OwnI (w.alloc (.cells #[.int .i64 (xi l 0), .int .i64 (xi l 1), .int .i64 (xi l 2), .int .i64 (xi l 3), .int .i64 (xi l 4), .int .i64 (xi l 5), .int .i64 (xi l 6), .int .i64 (xi l 7), .int .i64 (l.length : Int)] t)) w.heap.size 9 (pcell l) :=
  ⟨fun j hj => (World.cell?_alloc_at _ _ _ _ rfl).trans (pathV_cells l j hj), fun j => World.frozen?_alloc_at _ _ _ _ rfl, by simp⟩
/-- a way laid anew, cell by cell -/
def putPath (w : World) (P : Nat) (l : List Int) : World :=
  (((((((((w.setCell ⟨P, 0, none⟩ (.int .i64 (xi l 0))).setCell ⟨P, 1, none⟩ (.int .i64 (xi l 1))).setCell ⟨P, 2, none⟩ (.int .i64 (xi l 2))).setCell ⟨P, 3, none⟩ (.int .i64 (xi l 3))).setCell ⟨P, 4, none⟩ (.int .i64 (xi l 4))).setCell ⟨P, 5, none⟩ (.int .i64 (xi l 5))).setCell ⟨P, 6, none⟩ (.int .i64 (xi l 6))).setCell ⟨P, 7, none⟩ (.int .i64 (xi l 7))).setCell ⟨P, 8, none⟩ (.int .i64 (l.length : Int)))
theorem putPath_own {w : World} {P : Nat} {l l2 : List Int} (h : OwnI w P 9 (pcell l)) : OwnI (putPath w P l2) P 9 (pcell l2) := by
  unfold putPath
  refine ((((((((((h.set (i := 0) (by omega) (.int .i64 (xi l2 0))).set (i := 1) (by omega) (.int .i64 (xi l2 1))).set (i := 2) (by omega) (.int .i64 (xi l2 2))).set (i := 3) (by omega) (.int .i64 (xi l2 3))).set (i := 4) (by omega) (.int .i64 (xi l2 4))).set (i := 5) (by omega) (.int .i64 (xi l2 5))).set (i := 6) (by omega) (.int .i64 (xi l2 6))).set (i := 7) (by omega) (.int .i64 (xi l2 7))).set (i := 8) (by omega) (.int .i64 (l2.length : Int)))).congr ?_
  intro j hj
  have : j = 0 ∨ j = 1 ∨ j = 2 ∨ j = 3 ∨ j = 4 ∨ j = 5 ∨ j = 6 ∨ j = 7 ∨ j = 8 := by omega
  rcases this with rfl | rfl | rfl | rfl | rfl | rfl | rfl | rfl | rfl <;> rfl
theorem putPath_below {w w' : World} {B P : Nat} {l : List Int} (h : Below B w w') (hB : B ≤ P) : Below B w (putPath w' P l) := by
  unfold putPath
  exact (((((((((h.setCell (p := ⟨P, 0, none⟩) hB _).setCell (p := ⟨P, 1, none⟩) hB _).setCell (p := ⟨P, 2, none⟩) hB _).setCell (p := ⟨P, 3, none⟩) hB _).setCell (p := ⟨P, 4, none⟩) hB _).setCell (p := ⟨P, 5, none⟩) hB _).setCell (p := ⟨P, 6, none⟩) hB _).setCell (p := ⟨P, 7, none⟩) hB _).setCell (p := ⟨P, 8, none⟩) hB _)

set_option maxHeartbeats 1600000 in
theorem implWayOk_any (K : Int) (ao bo : Option Addr) (cap cap2 : Nat) (ts : List (Int × Int)) (xs : List Int) (w : World) (hn : ts.length ≤ 1099511627776) (ht : TiesIn w w.heap.size ao ts) (hxn : xs.length ≤ 1099511627776) (hcap : xs.length ≤ cap2) (hx : IntsIn w w.heap.size bo xs) :
    Calls Try.prog 52 #[.agg #[.int .i64 K, .slice ao ts.length cap], .slice bo xs.length cap2] w fun e w' => e = .returned (.bool (wayB K ts xs)) ∧ Below w.heap.size w w' := by
  have ht1 : TiesIn (w.alloc (.cells #[.int .i64 K, .slice ao ts.length cap] 25)) (w.heap.size + 1) ao ts := (ht.below (below_one _ _) (Nat.le_refl _)).wide (by omega)
  obtain ⟨n, hnn⟩ : ∃ n, n = xs.length := ⟨_, rfl⟩
  have HN : Hid (n = xs.length) := hnn
  rw [← hnn] at hxn hcap ⊢
  clear hnn
  go_enter Try.func52, Try.ntmps52
  go_wp2_with fail
  refine (pairsOf_any K ao cap ts _ hn (by simpa using ht1)).mono ?_
  rintro e w1 ⟨rfl, hb⟩
  have hb' : Below (w.heap.size + 1) (w.alloc (.cells #[.int .i64 K, .slice ao ts.length cap] 25)) w1 := by simpa using hb
  have hbb : Below w.heap.size w w1 := (below_one _ _).trans (hb'.mono (by omega))
  have c0 : w1.cell? ⟨w.heap.size, 0, none⟩ = some (.int .i64 K) := (hb'.cell (p := ⟨w.heap.size, 0, none⟩) (by simp)).trans (by simp)
  have c1 : w1.cell? ⟨w.heap.size, 1, none⟩ = some (.slice ao ts.length cap) := (hb'.cell (p := ⟨w.heap.size, 1, none⟩) (by simp)).trans (by simp)
  have hz1 : w.heap.size < w1.heap.size := by have := hb'.size; simp at this; omega
  have X1 : Hid (IntsIn w1 w.heap.size bo xs) := hx.below hbb (Nat.le_refl _)
  have hne : Nonempty (Cls (Below w1.heap.size w1)) := ⟨⟨w1, Below.refl _ _⟩⟩
  have q0 : ∀ u : Cls (Below w1.heap.size w1), u.w.cell? ⟨w.heap.size, 0, none⟩ = some (.int .i64 K) := fun u => (u.ok.cell (p := ⟨w.heap.size, 0, none⟩) hz1).trans c0
  have q1 : ∀ u : Cls (Below w1.heap.size w1), u.w.cell? ⟨w.heap.size, 1, none⟩ = some (.slice ao ts.length cap) := fun u => (u.ok.cell (p := ⟨w.heap.size, 1, none⟩) hz1).trans c1
  have BC : Hid (∀ (u : Cls (Below w1.heap.size w1)) (w2 : World), Below u.w.heap.size u.w w2 → Below w1.heap.size w1 w2) := fun u w2 h => u.ok.trans (h.mono u.ok.size)
  have hS := setN_lt K ts
  obtain ⟨S, hSS⟩ : ∃ S, S = setN K ts := ⟨_, rfl⟩
  have HS : Hid (S = setN K ts) := hSS
  rw [← hSS] at hS ⊢
  clear hb hb' ht1 ht hx hSS
  cases hok : okB K ts
  · have HH : Hid (wayB K ts xs = false) := wayB_nok hok
    clear hok
    go_wp2
    refine wp_region_cls (Below w1.heap.size w1) (by kernel_rfl) (by kernel_rfl) (Below.refl _ _).drew ?_
    repeat (go_big_quiet_step (fail))
    refine wpQuiet_nil ?_
    intro wq hw'
    have hq : Below w1.heap.size w1 wq := by obtain ⟨u, e⟩ := hw'; rw [e]; exact u.ok
    clear hw'
    have HB2 : Hid (Below w.heap.size w wq) := hbb.trans (hq.mono hbb.size)
    clear hq
    go_wp2
    go_ret
    exact ⟨by rw [HH.out]; rfl, HB2.out⟩
  by_cases hn0 : n = 0
  · have HH : Hid (wayB K ts xs = false) := wayB_nil (by rw [← HN.out]; exact hn0)
    subst hn0
    clear hok
    go_wp2
    refine wp_region_cls (Below w1.heap.size w1) (by kernel_rfl) (by kernel_rfl) (Below.refl _ _).drew ?_
    repeat (go_big_quiet_step (fail))
    refine wpQuiet_nil ?_
    intro wq hw'
    have hq : Below w1.heap.size w1 wq := by obtain ⟨u, e⟩ := hw'; rw [e]; exact u.ok
    clear hw'
    have HB2 : Hid (Below w.heap.size w wq) := hbb.trans (hq.mono hbb.size)
    clear hq
    go_wp2
    go_ret
    exact ⟨by rw [HH.out]; rfl, HB2.out⟩
  have HO : Hid (okB K ts = true) := hok
  have hn1 : (((n : Nat) : Int) == 0) = false := by simp; omega
  have hn2 : (0 : Int) < (n : Int) := by omega
  obtain ⟨b, off, rfl, hbw, e0⟩ := X1.out 0 (by rw [← HN.out]; omega)
  have e0' : w1.cell? ⟨b, off, none⟩ = some (.int .i64 (xi xs 0)) := by simpa using e0
  obtain ⟨x0, hx0⟩ : ∃ x, x = xi xs 0 := ⟨_, rfl⟩
  rw [← hx0] at e0'
  have HX0 : Hid (x0 = xi xs 0) := hx0
  have hbz1 : b < w1.heap.size := by omega
  have q2 : ∀ u : Cls (Below w1.heap.size w1), u.w.cell? ⟨b, off, none⟩ = some (.int .i64 x0) := fun u => (u.ok.cell (p := ⟨b, off, none⟩) hbz1).trans e0'
  clear hok e0 hx0
  cases hkn : knotB x0 K
  · have HK : Hid (knotB x0 K = false) := hkn
    have HH : Hid (wayB K ts xs = false) := wayB_bad (i := 0) (by rw [← HN.out]; omega) (by rw [step_zero, ← HX0.out]; exact hkn)
    clear hkn
    go_wp2
    refine wp_region_cls (Below w1.heap.size w1) (by kernel_rfl) (by kernel_rfl) (Below.refl _ _).drew ?_
    repeat (go_big_quiet_step (first | (go_at_call 51; refine Calls.cls ((hasKnot_is false K _ x0 _ HK.out).mono fun e w2 ⟨he, hb2⟩ => ⟨he, ?_⟩); exact BC.out _ _ hb2)))
    refine wpQuiet_nil ?_
    intro wq hw'
    have hq : Below w1.heap.size w1 wq := by obtain ⟨u, e⟩ := hw'; rw [e]; exact u.ok
    clear hw'
    have HB2 : Hid (Below w.heap.size w wq) := hbb.trans (hq.mono hbb.size)
    clear hq
    go_wp2
    go_ret
    exact ⟨by rw [HH.out]; rfl, HB2.out⟩
  have HK : Hid (knotB x0 K = true) := hkn
  have HS1 : Hid (StepsTo K ts xs 1) := by
    intro i hi
    obtain rfl : i = 0 := by omega
    rw [step_zero, ← HX0.out]; exact hkn
  clear hkn
  go_wp2
  refine wp_region_cls (Below w1.heap.size w1) (by kernel_rfl) (by kernel_rfl) (Below.refl _ _).drew ?_
  repeat (go_big_quiet_step (first | (go_at_call 51; refine Calls.cls ((hasKnot_is true K _ x0 _ HK.out).mono fun e w2 ⟨he, hb2⟩ => ⟨he, ?_⟩); exact BC.out _ _ hb2)))
  refine wpQuiet_nil ?_
  intro wq hw'
  have hq : Below w1.heap.size w1 wq := by obtain ⟨u, e⟩ := hw'; rw [e]; exact u.ok
  clear hw'
  have HB2 : Hid (Below w.heap.size w wq) := hbb.trans (hq.mono hbb.size)
  have r0 : wq.cell? ⟨b, off, none⟩ = some (.int .i64 x0) := (hq.cell (p := ⟨b, off, none⟩) hbz1).trans e0'
  have X2 : Hid (IntsIn wq w.heap.size (some ⟨b, off, none⟩) xs) := X1.out.below hq (by omega)
  have hzq : w.heap.size < wq.heap.size := Nat.lt_of_lt_of_le hz1 hq.size
  clear hq q0 q1 q2 c0 c1 e0' hne BC X1 hbb
  obtain ⟨l1, hl1⟩ : ∃ l1, l1 = [] ++ [x0] := ⟨_, rfl⟩
  go_wp2_with fail
  refine (with_to [] l1 x0 _ (by simp) hl1).mono ?_
  rintro e w3 ⟨rfl, hb3⟩
  have HL1 : Hid (l1 = xs.take 1) := by rw [hl1, HX0.out, ← take_snoc (by rw [← HN.out]; omega)]; rfl
  have HB3 : Hid (Below w.heap.size w w3) := HB2.out.trans (hb3.mono (by omega))
  have X3 : Hid (IntsIn w3 w.heap.size (some ⟨b, off, none⟩) xs) := X2.out.below hb3 (by omega)
  have hz3 : w.heap.size < w3.heap.size := Nat.lt_of_lt_of_le hzq hb3.size
  clear hb3 r0 X2 HB2 hl1
  obtain ⟨m, rfl⟩ : ∃ m, n = m + 1 := ⟨n - 1, by omega⟩
  obtain ⟨c, rfl⟩ : ∃ c, cap2 = c + 1 := ⟨cap2 - 1, by omega⟩
  have hmc : m ≤ c := by omega
  have hmc' : (m : Int) ≤ (c : Int) := by omega
  clear hcap hn0 hn1 hn2
  by_cases hm0 : m = 0
  · subst hm0
    have HH : Hid (wayB K ts xs = true) := wayB_all HO.out (by rw [← HN.out]; omega) (by rw [← HN.out]; exact HS1.out)
    go_wp2
    all_goals
      go_loopw [38] (fun i wr => i = .int .i64 0 ∧ Below w3.heap.size w3 wr) (fun _ _ => 0)
      case atStart => exact ⟨rfl, below_one _ _⟩
      case round =>
        obtain ⟨rfl, hnx⟩ := hrel
        have HB : Hid (Below w.heap.size w wr) := HB3.out.trans (hnx.mono (by omega))
        go_wp2
        go_ret
        exact ⟨by rw [HH.out]; rfl, HB.out⟩
  · have hc0 : ¬ c = 0 := by omega
    have OW : Hid (∀ t, OwnI (w3.alloc (.cells #[.int .i64 (xi l1 0), .int .i64 (xi l1 1), .int .i64 (xi l1 2), .int .i64 (xi l1 3), .int .i64 (xi l1 4), .int .i64 (xi l1 5), .int .i64 (xi l1 6), .int .i64 (xi l1 7), .int .i64 (l1.length : Int)] t)) w3.heap.size 9 (pcell l1)) := fun t => own_path w3 l1 t
    go_wp2
    go_loopw [38] (fun i wr => ∃ k : Nat, k ≤ m ∧ i = .int .i64 k ∧ StepsTo K ts xs (k + 1) ∧ OwnI wr w3.heap.size 9 (pcell (xs.take (k + 1))) ∧ Below w3.heap.size w3 wr)
      (fun i _ => m - (intOf i).toNat)
    case atStart => exact ⟨0, Nat.zero_le _, rfl, HS1.out, by rw [← HL1.out]; exact OW.out _, below_one _ _⟩
    case round =>
      obtain ⟨k, hk, rfl, hst, hown, hnx⟩ := hrel
      have HB : Hid (Below w.heap.size w wr) := HB3.out.trans (hnx.mono (by omega))
      by_cases hlt : k < m
      · have hkl : k + 1 < xs.length := by rw [← HN.out]; omega
        obtain ⟨b', off', hbo, hbw', p0⟩ := X3.out (k + 1) hkl
        simp only [Option.some.injEq, Addr.mk.injEq, and_true] at hbo
        obtain ⟨rfl, rfl⟩ := hbo
        have p0' : wr.cell? ⟨b, off + 1 + k, none⟩ = some (.int .i64 (xi xs (k + 1))) := by
          rw [show off + 1 + k = off + (k + 1) by omega]
          exact (hnx.cell (p := ⟨b, off + (k + 1), none⟩) (by show b < w3.heap.size; omega)).trans p0
        obtain ⟨x, hx⟩ : ∃ x, x = xi xs (k + 1) := ⟨_, rfl⟩
        rw [← hx] at p0'
        have HX : Hid (x = xi xs (k + 1)) := hx
        obtain ⟨l, hl⟩ : ∃ l, l = xs.take (k + 1) := ⟨_, rfl⟩
        rw [← hl] at hown
        have HL : Hid (l = xs.take (k + 1)) := hl
        have hPz : w3.heap.size < wr.heap.size := hown.2.2
        have d0 : wr.cell? ⟨w3.heap.size, 0, none⟩ = some (.int .i64 (xi l 0)) := hown.1 0 (by omega)
        have d1 : wr.cell? ⟨w3.heap.size, 1, none⟩ = some (.int .i64 (xi l 1)) := hown.1 1 (by omega)
        have d2 : wr.cell? ⟨w3.heap.size, 2, none⟩ = some (.int .i64 (xi l 2)) := hown.1 2 (by omega)
        have d3 : wr.cell? ⟨w3.heap.size, 3, none⟩ = some (.int .i64 (xi l 3)) := hown.1 3 (by omega)
        have d4 : wr.cell? ⟨w3.heap.size, 4, none⟩ = some (.int .i64 (xi l 4)) := hown.1 4 (by omega)
        have d5 : wr.cell? ⟨w3.heap.size, 5, none⟩ = some (.int .i64 (xi l 5)) := hown.1 5 (by omega)
        have d6 : wr.cell? ⟨w3.heap.size, 6, none⟩ = some (.int .i64 (xi l 6)) := hown.1 6 (by omega)
        have d7 : wr.cell? ⟨w3.heap.size, 7, none⟩ = some (.int .i64 (xi l 7)) := hown.1 7 (by omega)
        have d8 : wr.cell? ⟨w3.heap.size, 8, none⟩ = some (.int .i64 (l.length : Int)) := hown.1 8 (by omega)
        have hl0 : 0 < l.length := by rw [hl, len_take (by omega)]; omega
        obtain ⟨_, hK8, _⟩ := okB_iff.1 HO.out
        have hl8 : l.length ≤ 8 := by rw [hl, len_take (by omega)]; exact steps_short hK8 (by omega) hst
        have hcs : canB S l x = stepB K ts xs (k + 1) := by rw [HS.out, hl, hx]; exact can_step HO.out (by omega) hkl
        have hkm : (k : Int) < (m : Int) := by omega
        clear p0 hx hl hbw' hK8
        cases hcan : stepB K ts xs (k + 1)
        · have HC : Hid (canB S l x = false) := by rw [hcs]; exact hcan
          have HH : Hid (wayB K ts xs = false) := wayB_bad hkl hcan
          clear hcs hcan hst hown hnx
          go_wp2_with fail
          refine (canGo_is false l S x _ hl0 hl8 hS HC.out).mono ?_
          rintro e w4 ⟨rfl, hb4⟩
          have HB4 : Hid (Below w.heap.size w w4) := HB.out.trans (hb4.mono HB.out.size)
          clear hb4
          go_wp2
          go_ret
          exact ⟨by rw [HH.out]; rfl, HB4.out⟩
        · have HC : Hid (canB S l x = true) := by rw [hcs]; exact hcan
          have HS2 : Hid (StepsTo K ts xs (k + 1 + 1)) := steps_snoc hst hcan
          have hl7 : l.length < 8 := by
            have h9 := steps_short (okB_iff.1 HO.out).2.1 (by omega) HS2.out
            have h10 : l.length = k + 1 := by rw [HL.out]; exact len_take (by omega)
            omega
          obtain ⟨l2, hl2⟩ : ∃ l2, l2 = l ++ [x] := ⟨_, rfl⟩
          have HL2 : Hid (l2 = xs.take (k + 1 + 1)) := by rw [hl2, HL.out, HX.out]; exact take_snoc hkl
          have HW : Hid (l2 = l ++ [x]) := hl2
          have HOW : Hid (OwnI wr w3.heap.size 9 (pcell l)) := hown
          have HNX : Hid (Below w3.heap.size w3 wr) := hnx
          clear hcs hcan hst hown hnx hl2
          go_wp2_with fail
          refine (canGo_is true l S x _ hl0 hl8 hS HC.out).mono ?_
          rintro e w4 ⟨rfl, hb4⟩
          have HOW4 : Hid (OwnI w4 w3.heap.size 9 (pcell l)) := HOW.out.below hb4 hPz
          have HNX4 : Hid (Below w3.heap.size w3 w4) := HNX.out.trans (hb4.mono HNX.out.size)
          have hPz4 : w3.heap.size < w4.heap.size := HOW4.out.2.2
          clear d0 d1 d2 d3 d4 d5 d6 d7 d8 hb4 p0'
          have e0 : w4.cell? ⟨w3.heap.size, 0, none⟩ = some (.int .i64 (xi l 0)) := HOW4.out.1 0 (by omega)
          have e1 : w4.cell? ⟨w3.heap.size, 1, none⟩ = some (.int .i64 (xi l 1)) := HOW4.out.1 1 (by omega)
          have e2 : w4.cell? ⟨w3.heap.size, 2, none⟩ = some (.int .i64 (xi l 2)) := HOW4.out.1 2 (by omega)
          have e3 : w4.cell? ⟨w3.heap.size, 3, none⟩ = some (.int .i64 (xi l 3)) := HOW4.out.1 3 (by omega)
          have e4 : w4.cell? ⟨w3.heap.size, 4, none⟩ = some (.int .i64 (xi l 4)) := HOW4.out.1 4 (by omega)
          have e5 : w4.cell? ⟨w3.heap.size, 5, none⟩ = some (.int .i64 (xi l 5)) := HOW4.out.1 5 (by omega)
          have e6 : w4.cell? ⟨w3.heap.size, 6, none⟩ = some (.int .i64 (xi l 6)) := HOW4.out.1 6 (by omega)
          have e7 : w4.cell? ⟨w3.heap.size, 7, none⟩ = some (.int .i64 (xi l 7)) := HOW4.out.1 7 (by omega)
          have e8 : w4.cell? ⟨w3.heap.size, 8, none⟩ = some (.int .i64 (l.length : Int)) := HOW4.out.1 8 (by omega)
          go_wp2_with fail
          refine (with_to l l2 x _ hl7 HW.out).mono ?_
          rintro e w5 ⟨rfl, hb5⟩
          have HOW5 : Hid (OwnI w5 w3.heap.size 9 (pcell l)) := HOW4.out.below hb5 hPz4
          have HNX5 : Hid (Below w3.heap.size w3 w5) := HNX4.out.trans (hb5.mono HNX4.out.size)
          clear e0 e1 e2 e3 e4 e5 e6 e7 e8 hb5
          have g0 : w5.cell? ⟨w3.heap.size, 0, none⟩ = some (.int .i64 (xi l 0)) := HOW5.out.1 0 (by omega)
          have g1 : w5.cell? ⟨w3.heap.size, 1, none⟩ = some (.int .i64 (xi l 1)) := HOW5.out.1 1 (by omega)
          have g2 : w5.cell? ⟨w3.heap.size, 2, none⟩ = some (.int .i64 (xi l 2)) := HOW5.out.1 2 (by omega)
          have g3 : w5.cell? ⟨w3.heap.size, 3, none⟩ = some (.int .i64 (xi l 3)) := HOW5.out.1 3 (by omega)
          have g4 : w5.cell? ⟨w3.heap.size, 4, none⟩ = some (.int .i64 (xi l 4)) := HOW5.out.1 4 (by omega)
          have g5 : w5.cell? ⟨w3.heap.size, 5, none⟩ = some (.int .i64 (xi l 5)) := HOW5.out.1 5 (by omega)
          have g6 : w5.cell? ⟨w3.heap.size, 6, none⟩ = some (.int .i64 (xi l 6)) := HOW5.out.1 6 (by omega)
          have g7 : w5.cell? ⟨w3.heap.size, 7, none⟩ = some (.int .i64 (xi l 7)) := HOW5.out.1 7 (by omega)
          have g8 : w5.cell? ⟨w3.heap.size, 8, none⟩ = some (.int .i64 (l.length : Int)) := HOW5.out.1 8 (by omega)
          have f0 := HOW5.out.2.1 0
          have f1 := HOW5.out.2.1 1
          have f2 := HOW5.out.2.1 2
          have f3 := HOW5.out.2.1 3
          have f4 := HOW5.out.2.1 4
          have f5 := HOW5.out.2.1 5
          have f6 := HOW5.out.2.1 6
          have f7 := HOW5.out.2.1 7
          have f8 := HOW5.out.2.1 8
          have HO6 : Hid (OwnI (putPath w5 w3.heap.size l2) w3.heap.size 9 (pcell l2)) := putPath_own HOW5.out
          have HB6 : Hid (Below w3.heap.size w3 (putPath w5 w3.heap.size l2)) := putPath_below HNX5.out (Nat.le_refl _)
          go_wp2
          go_roundw
          case rel => exact ⟨k + 1, by omega, by go_num, HS2.out, by rw [← HL2.out]; exact HO6.out, HB6.out⟩
          case measure => simp [intOf]; omega
      · have hkm : k = m := by omega
        subst hkm
        have HH : Hid (wayB K ts xs = true) := wayB_all HO.out (by rw [← HN.out]; omega) (by rw [← HN.out]; exact hst)
        clear hst hown hnx
        go_wp2
        go_ret
        exact ⟨by rw [HH.out]; rfl, HB.out⟩

end Go.Proofs.Ytljnjpjnadlmhaa

/- Rows of ints of the call's own that begin anywhere in a block: appended to (WRows, with ints). -/
namespace Go.Proofs.Ytljnjpjnadlmhaa
open Go.RowKit
set_option linter.unusedVariables false

def zvc (x : Int) : Value := .int .i64 x
structure RowZ (w : World) (lo g off cap : Nat) (xs : List Int) : Prop where
  len : xs.length ≤ cap
  cells : ∀ i, i < xs.length → w.cell? ⟨g, off + i, none⟩ = some (zvc (xs.getD i 0))
  room : ∀ i, i < cap → (w.cell? ⟨g, off + i, none⟩).isSome = true
  fr : ∀ i, w.frozen? ⟨g, i, none⟩ = false
  lo : lo ≤ g
  lt : g < w.heap.size
theorem RowZ.same {w w' : World} {lo g off cap : Nat} {xs : List Int} (h : RowZ w lo g off cap xs) (e : w'.heap[g]? = w.heap[g]?) (hs : w.heap.size ≤ w'.heap.size) : RowZ w' lo g off cap xs :=
  ⟨h.len, fun i hi => (World.cell?_of_block (a := ⟨g, off + i, none⟩) e).trans (h.cells i hi), fun i hi => by rw [World.cell?_of_block (a := ⟨g, off + i, none⟩) e]; exact h.room i hi, fun i => (World.frozen?_of_block (a := ⟨g, i, none⟩) e).trans (h.fr i), h.lo, Nat.lt_of_lt_of_le h.lt hs⟩
theorem RowZ.next {w w' : World} {lo g off cap : Nat} {xs : List Int} (h : RowZ w lo g off cap xs) (hb : Below w.heap.size w w') : RowZ w' lo g off cap xs := h.same (hb.block g h.lt) hb.size
theorem RowZ.turn {w w' : World} {lo g off cap a b : Nat} {xs : List Int} (h : RowZ w lo g off cap xs) (ht : Turned a b w w') (hg : g < a ∨ b ≤ g) : RowZ w' lo g off cap xs := h.same (ht.block g h.lt hg) ht.size
theorem RowZ.down {w : World} {lo lo' g off cap : Nat} {xs : List Int} (h : RowZ w lo g off cap xs) (hl : lo' ≤ lo) : RowZ w lo' g off cap xs := ⟨h.len, h.cells, h.room, h.fr, Nat.le_trans hl h.lo, h.lt⟩
theorem RowZ.void {w : World} {lo g off cap : Nat} {xs : List Int} (h : RowZ w lo g off cap xs) (off' : Nat) : RowZ w lo g off' 0 [] :=
  ⟨by simp, fun i hi => absurd hi (by simp), fun i hi => absurd hi (by omega), h.fr, h.lo, h.lt⟩
theorem RowZ.push {w : World} {lo g off cap : Nat} {xs : List Int} (h : RowZ w lo g off cap xs) (y : Int) (hl : xs.length < cap) : RowZ (w.setCell ⟨g, off + xs.length, none⟩ (zvc y)) lo g off cap (xs ++ [y]) := by
  obtain ⟨u, hu⟩ := Option.isSome_iff_exists.1 (h.room xs.length hl)
  refine ⟨by simp; omega, fun i hi => ?_, fun i hi => ?_, fun i => by rw [World.frozen?_setCell]; exact h.fr i, h.lo, by simpa using h.lt⟩
  · simp at hi
    by_cases e : i = xs.length
    · subst e
      rw [World.cell?_setCell_same w ⟨g, off + xs.length, none⟩ _ hu]
      simp
    · rw [World.cell?_setCell_other _ _ _ _ (by simp; try omega), h.cells i (by omega)]
      simp [List.getElem?_append_left (show i < xs.length by omega)]
  · by_cases e : i = xs.length
    · subst e; rw [World.cell?_setCell_same w ⟨g, off + xs.length, none⟩ _ hu]; rfl
    · rw [World.cell?_setCell_other _ _ _ _ (by simp; try omega)]; exact h.room i hi
theorem RowZ.ofOwn {w : World} {base n cap : Nat} {e : TypeId} {v : Value} {xs : List Int} (h : w.ownsRow base e 1 v n (xs.map zvc)) (hn : 0 < n) : ∃ g cap, v = .slice (some ⟨g, 0, none⟩) n cap ∧ RowZ w base g 0 cap xs := by
  have hlen : xs.length = n := by have := h.1; simpa using this
  rcases h.2 with ⟨_, e0⟩ | ⟨g, cap', cur, rfl, hg, hh, hc1, hc2, hc3, hc4⟩
  · omega
  · have hlt : g < w.heap.size := (Array.getElem?_eq_some_iff.1 hh).1
    refine ⟨g, cap', rfl, by omega, fun i hi => ?_, fun i hi => ?_, fun i => h.frozenAt i, hg, hlt⟩
    · rw [show 0 + i = i by omega, h.cellAt i (by omega)]
      simp [hi]
    · rw [show 0 + i = i by omega]
      have : i < cur.size := by rw [hc3]; omega
      simp [World.cell?, hh, this]

theorem wpList_append_rowZ {P : Program} (w : World) {ops : Array Oper} {rest : List Oper} {o : Oper} {a : Act} {Q : Exit → Act → World → Prop} (hgd : o.guard = none) (s x : Operand) (t : TypeId)
    (ho : o.op = .call { callee := .builtin .append, args := #[s, x], argTypes := #[t, t] })
    (lo : Nat) (e : TypeId) (i : TypeInfo) (ht : P.underlying t = some (.slice e)) (hi : P.info? e = some i) (hz : i.zero = some (.int .i64 0)) (hsize : i.size = 1) (hby : i.bytes = 8)
    (g off cap : Nat) (xs : List Int) (n : Nat) (hn : xs.length = n) (hs : a.eval s = .slice (some ⟨g, off, none⟩) n cap) (hr : RowZ w lo g off cap xs)
    (q : Nat) (y : Int) (hx : a.eval x = .slice (some ⟨q, 0, none⟩) 1 1) (hq : w.cell? ⟨q, 0, none⟩ = some (zvc y)) (hshort : xs.length ≤ 1000) (hlo : lo ≤ w.heap.size)
    (h : ∀ g' off' cap' w', RowZ w' lo g' off' cap' (xs ++ [y]) → (g' = g ∨ w.heap.size ≤ g') → Turned g (g + 1) w w' → wpList P ops Q rest (a.put o.dst (.slice (some ⟨g', off', none⟩) (n + 1) cap')) w') : wpList P ops Q (o :: rest) a w := by
  subst hn
  refine wpList_plain hgd fun K hK => ?_
  have hnews : ∀ j u, [zvc y][j]? = some u → w.cell? ((⟨q, 0, none⟩ : Addr).add j) = some u := by
    intro j u hj
    cases j with
    | zero => simp at hj; subst hj; simpa [Addr.add] using hq
    | succ j => simp at hj
  by_cases hroom : xs.length < cap
  · have hrun := run_append_room_cells (P := P) w t o.type e i ht hi g off xs.length cap ⟨q, 0, none⟩ 1 1 [zvc y] (by simp [hsize]) hnews (by intro u hu; simp at hu; subst hu; rfl) (by omega)
      (by intro j hj; simp at hj; subst hj; rw [hsize]; simpa using hr.room xs.length hroom) (by intro j hj; exact hr.fr _)
    have hset : w.setCells g (off + xs.length * i.size) [zvc y] = w.setCell ⟨g, off + xs.length, none⟩ (zvc y) := by
      rw [hsize]; simp [World.setCells]
    rw [hset] at hrun
    unfold Oper.wp execOp
    simp only [ho, resolve, invoke, builtin, Sem.run_bind, Sem.run_pure, Result.andThen_ok, List.map_toArray, List.map_cons, List.map_nil, hs, hx, hrun]
    exact hK _ _ (h g off cap _ (hr.push y hroom) (Or.inl rfl) ⟨rfl, rfl, rfl, by simp [World.setCell], fun k _ hk => Below.heap_setCell _ _ _ _ (by show k ≠ g; omega)⟩)
  · have holds : ∀ j u, (xs.map zvc)[j]? = some u → w.cell? ((⟨g, off, none⟩ : Addr).add j) = some u := by
      intro j u hj
      have hj' : j < xs.length := by have := (List.getElem?_eq_some_iff.1 hj).1; simpa using this
      have hc := hr.cells j hj'
      have ha : (⟨g, off, none⟩ : Addr).add j = ⟨g, off + j, none⟩ := by unfold Addr.add; split <;> simp_all
      rw [ha, hc]
      simp [hj'] at hj ⊢
      exact hj
    obtain ⟨v', w', hrun, hown, hgr⟩ := run_append_arg_grows (P := P) w t o.type e i (.int .i64 0) 1 8 ht hi hz hsize hby rfl (by omega) ⟨g, off, none⟩ xs.length cap (xs.map zvc) (by simp) holds ⟨q, 0, none⟩ 1 1 [zvc y] (by simp) hnews (by omega) (by unfold maxLen; omega) (by omega)
    have hown' : w'.ownsRow w.heap.size e 1 v' (xs.length + 1) ((xs ++ [y]).map zvc) := by simpa using hown
    obtain ⟨g', cap', rfl, hrow⟩ := RowZ.ofOwn (cap := 0) hown' (by omega)
    unfold Oper.wp execOp
    simp only [ho, resolve, invoke, builtin, Sem.run_bind, Sem.run_pure, Result.andThen_ok, List.map_toArray, List.map_cons, List.map_nil, hs, hx, hrun]
    exact hK _ _ (h g' 0 cap' w' (hrow.down hlo) (Or.inr hrow.lo) ⟨hgr.os, hgr.tape, hgr.output, hgr.size, fun k hk _ => hgr.block k hk (by simp)⟩)

theorem RowZ.new (w : World) (t : TypeId) : RowZ (w.alloc (.cells #[] t)) w.heap.size w.heap.size 0 0 [] :=
  ⟨by simp, fun i hi => absurd hi (by simp), fun i hi => absurd hi (by omega), fun i => World.frozen?_alloc_at _ _ _ _ rfl, Nat.le_refl _, by simp⟩
theorem RowZ.one (w : World) (x : Int) (t : TypeId) : RowZ (w.alloc (.cells #[.int .i64 x] t)) w.heap.size w.heap.size 0 1 [x] := by
  refine ⟨by simp, fun i hi => ?_, fun i hi => ?_, fun i => World.frozen?_alloc_at _ _ _ _ rfl, Nat.le_refl _, by simp⟩
  · simp at hi; subst hi; rw [World.cell?_alloc_at _ _ _ _ rfl]; rfl
  · have : i = 0 := by omega
    subst this; rw [World.cell?_alloc_at _ _ _ _ rfl]; rfl
theorem RowZ.ints {w : World} {lo g off cap : Nat} {xs : List Int} (h : RowZ w lo g off cap xs) {B : Nat} (hB : g < B) : IntsIn w B (some ⟨g, off, none⟩) xs := by
  intro j hj
  exact ⟨g, off, rfl, hB, (h.cells j hj).trans rfl⟩
theorem RowZ.set {w : World} {lo g off cap : Nat} {xs : List Int} (h : RowZ w lo g off cap xs) {i : Nat} (hi : i < xs.length) (y : Int) : RowZ (w.setCell ⟨g, off + i, none⟩ (zvc y)) lo g off cap (xs.set i y) := by
  have hlen := h.len
  refine ⟨by simpa using h.len, fun j hj => ?_, fun j hj => ?_, fun j => by rw [World.frozen?_setCell]; exact h.fr j, h.lo, by simpa using h.lt⟩
  · have hj' : j < xs.length := by simpa using hj
    by_cases e : j = i
    · subst e
      rw [World.cell?_setCell_same w ⟨g, off + j, none⟩ _ (h.cells j hj')]
      simp [hj']
    · rw [World.cell?_setCell_other _ _ _ _ (by simp; try omega), h.cells j hj']
      simp [List.getElem?_set_ne (Ne.symm e)]
  · by_cases e : j = i
    · subst e; rw [World.cell?_setCell_same w ⟨g, off + j, none⟩ _ (h.cells j hi)]; rfl
    · rw [World.cell?_setCell_other _ _ _ _ (by simp; try omega)]; exact h.room j hj

end Go.Proofs.Ytljnjpjnadlmhaa
