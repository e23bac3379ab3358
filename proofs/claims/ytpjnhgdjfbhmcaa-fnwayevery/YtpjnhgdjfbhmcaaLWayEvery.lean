/- Walk of laws.FnWayEvery: it returns true. -/
import Derived.Test.YtpjnhgdjfbhmcaaWAllV
import Derived.Test.YtpjnhgdjfbhmcaaWDrawW
import Derived.Test.YtpjnhgdjfbhmcaaWBase
import Derived.Test.YtpjnhgdjfbhmcaaWWayOk
import Derived.Deep.RegionHeld3
namespace Go.Proofs.Ytpjnhgdjfbhmcaa
open Go.RowKit
set_option linter.unusedVariables false

/-- a net in a variable, and a row of numbers -/
structure NetW (w : World) (A : Nat) (K : Int) (ao : Option Addr) (cap : Nat) (ts : List (Int × Int)) (g off : Nat) (xs : List Int) : Prop where
  c0 : w.cell? ⟨A, 0, none⟩ = some (.int .i64 K)
  c1 : w.cell? ⟨A, 1, none⟩ = some (.slice ao ts.length cap)
  lt : A < w.heap.size
  ties : TiesIn w w.heap.size ao ts
  ints : IntsIn w w.heap.size (some ⟨g, off, none⟩) xs
theorem NetW.next {w w' : World} {A : Nat} {K : Int} {ao : Option Addr} {cap : Nat} {ts : List (Int × Int)} {g off : Nat} {xs : List Int} (h : NetW w A K ao cap ts g off xs) (hb : Below w.heap.size w w') : NetW w' A K ao cap ts g off xs :=
  ⟨(hb.cell (p := ⟨A, 0, none⟩) h.lt).trans h.c0, (hb.cell (p := ⟨A, 1, none⟩) h.lt).trans h.c1, Nat.lt_of_lt_of_le h.lt hb.size, (h.ties.below hb (Nat.le_refl _)).wide hb.size, (h.ints.below hb (Nat.le_refl _)).wide hb.size⟩
theorem NetW.new {w : World} {K : Int} {ao : Option Addr} {cap : Nat} {ts : List (Int × Int)} {g off : Nat} {xs : List Int} (t : TypeId) (h : TiesIn w w.heap.size ao ts) (k : IntsIn w w.heap.size (some ⟨g, off, none⟩) xs) : NetW (w.alloc (.cells #[.int .i64 K, .slice ao ts.length cap] t)) w.heap.size K ao cap ts g off xs :=
  ⟨by simp, by simp, by simp, (h.below (below_one _ _) (Nat.le_refl _)).wide (by simp), (k.below (below_one _ _) (Nat.le_refl _)).wide (by simp)⟩
theorem implWayOk_v (v : Bool) (K : Int) (ao bo : Option Addr) (cap cap2 n : Nat) (ts : List (Int × Int)) (xs : List Int) (w : World) (hn : ts.length ≤ 1099511627776) (ht : TiesIn w w.heap.size ao ts) (hl : xs.length = n) (hxn : n ≤ 1099511627776) (hcap : n ≤ cap2) (hx : IntsIn w w.heap.size bo xs) (h : wayB K ts xs = v) :
    Calls Try.prog 5 #[.agg #[.int .i64 K, .slice ao ts.length cap], .slice bo n cap2] w fun e w' => e = .returned (.bool v) ∧ Below w.heap.size w w' := by
  subst hl; rw [← h]; exact implWayOk_any K ao bo cap cap2 ts xs w hn ht hxn hcap hx
theorem specWayOk_v (v : Bool) (K : Int) (ao bo : Option Addr) (cap cap2 n : Nat) (ts : List (Int × Int)) (xs : List Int) (w : World) (hn : ts.length ≤ 1099511627776) (ht : TiesIn w w.heap.size ao ts) (hl : xs.length = n) (hxn : n ≤ 1099511627776) (hcap : n ≤ cap2) (hx : IntsIn w w.heap.size bo xs) (h : wayB K ts xs = v) :
    Calls Try.prog 6 #[.agg #[.int .i64 K, .slice ao ts.length cap], .slice bo n cap2] w fun e w' => e = .returned (.bool v) ∧ Below w.heap.size w w' := by
  subst hl; rw [← h]; exact specWayOk_any K ao bo cap cap2 ts xs w hn ht hxn hcap hx
theorem wrap_small {t : Nat} (h : t ≤ 8) : IntKind.i64.wrap (t : Int) = (t : Int) := by
  have : t = 0 ∨ t = 1 ∨ t = 2 ∨ t = 3 ∨ t = 4 ∨ t = 5 ∨ t = 6 ∨ t = 7 ∨ t = 8 := by omega
  rcases this with rfl | rfl | rfl | rfl | rfl | rfl | rfl | rfl | rfl <;> rfl
theorem wrap_small1 {t : Nat} (h : t ≤ 8) : IntKind.i64.wrap ((t : Int) + 1) = (t : Int) + 1 := by
  have : t = 0 ∨ t = 1 ∨ t = 2 ∨ t = 3 ∨ t = 4 ∨ t = 5 ∨ t = 6 ∨ t = 7 ∨ t = 8 := by omega
  rcases this with rfl | rfl | rfl | rfl | rfl | rfl | rfl | rfl | rfl <;> rfl
theorem ints_row {w : World} {B : Nat} {ao : Option Addr} {q : List Nat} (h : IntsIn w B ao (q.map fun (x : Nat) => (x : Int))) : RowV w B ao q.length (pcellN (pn q)) := by
  intro j hj
  obtain ⟨b, off, e, h1, h2⟩ := h j (by simpa using hj)
  exact ⟨b, off, e, h1, by rw [h2, xi_nat]; rfl⟩

set_option maxHeartbeats 1600000 in
theorem wayEvery_walk (bo0 : Option Addr) (n0 cap0 : Nat) (w : World) (hb : BytesIn w bo0 n0) (hnil : bo0 = none → n0 = 0 ∧ cap0 = 0) (hc : n0 ≤ cap0) (hm : cap0 ≤ maxLen) :
    Calls Try.prog 3 #[.slice bo0 n0 cap0] w fun e w' => e = .returned (.bool true) ∧ Below w.heap.size w w' := by
  by_cases hl : 1048576 < n0
  · have hl' : (1048576 : Int) < (n0 : Int) := by omega
    have hn' : n0 ≤ 9223372036854775807 := by unfold maxLen at hm; omega
    go_enter Try.func3, Try.ntmps3
    go_wp2
    go_ret
    exact ⟨rfl, Below.refl _ _⟩
  have hl' : decide ((1048576 : Int) < (n0 : Int)) = false := by simp; omega
  go_enter Try.func3, Try.ntmps3
  go_wp2_with fail
  refine (drawWayOk_any bo0 n0 cap0 _ hb hnil hc hm).mono ?_
  rintro e w1 ⟨K, ao, cap', ts, g, off, cap2, xs, rfl, D1⟩
  have hn : ts.length ≤ 1099511627776 := by have := D1.short; omega
  have hxl := D1.few
  have HB1 := hideP D1.bel
  have hcp := D1.row.len
  have bo1 := below_one w1 (.cells #[.int .i64 K, .slice ao ts.length cap'] 25)
  have N1 := hideP (NetW.new (w := w1) (K := K) (cap := cap') 25 (D1.own.ties (Nat.le_refl _)) (D1.row.ints D1.row.lt))
  have HB1a := hideP (HB1.out.trans (bo1.mono HB1.out.size))
  clear D1 bo1
  obtain ⟨v, hv⟩ : ∃ v, wayB K ts xs = v := ⟨_, rfl⟩
  have HV := hideP hv
  obtain ⟨m, hm⟩ : ∃ m, xs.length = m := ⟨_, rfl⟩
  have HM := hideP hm
  rw [hm] at hxl hcp ⊢
  clear hv hm
  go_wp2_with fail
  refine (implWayOk_v v K ao _ cap' cap2 m ts xs _ hn N1.out.ties HM.out (by omega) hcp N1.out.ints HV.out).mono ?_
  rintro e w2 ⟨rfl, hb2⟩
  have N2 := hideP (N1.out.next hb2)
  have HB2 := hideP (HB1a.out.trans (hb2.mono HB1a.out.size))
  clear hb2 N1 HB1 HB1a
  have n0' := N2.out.c0
  have n1' := N2.out.c1
  go_wp2_with fail
  refine (specWayOk_v v K ao _ cap' cap2 m ts xs _ hn N2.out.ties HM.out (by omega) hcp N2.out.ints HV.out).mono ?_
  rintro e w3 ⟨rfl, hb3⟩
  have N3 := hideP (N2.out.next hb3)
  have HB3 := hideP (HB2.out.trans (hb3.mono HB2.out.size))
  clear hb3 N2 HB2 n0' n1'
  have n0' := N3.out.c0
  have n1' := N3.out.c1
  cases v
  · go_wp2_with fail
    refine (specWayOk_v false K ao _ cap' cap2 m ts xs _ hn N3.out.ties HM.out (by omega) hcp N3.out.ints HV.out).mono ?_
    rintro e w4 ⟨rfl, hb4⟩
    have HB4 := hideP (HB3.out.trans (hb4.mono HB3.out.size))
    clear hb4
    go_wp2
    go_ret
    exact ⟨rfl, HB4.out⟩
  obtain ⟨q, hq, hq0, hq8, hqm⟩ := every_way HV.out
  rw [HM.out] at hqm
  have hml : m = q.length := by rw [← HM.out, hq]; simp
  obtain ⟨ps, hps⟩ : ∃ ps, waysB K ts (xi xs 0) (xi xs (m - 1)) = ps := ⟨_, rfl⟩
  have HPS := hideP hps
  rw [hps] at hqm
  have HQM := hideP hqm
  have hpsn : ps.length ≤ 20000000 := by rw [← hps]; exact waysB_few K ts _ _
  have HLE : Hid (∀ i, i < ps.length → (ps.getD i []).length ≤ 8) := fun i hi => by
    have hmm : ps.getD i [] ∈ waysB K ts (xi xs 0) (xi xs (m - 1)) := by rw [hps]; simp [hi]
    exact (waysB_len hmm).2
  have R3 : Hid (RowV w3 w3.heap.size (some ⟨g, off, none⟩) m (pcellN (pn q))) := by
    have := N3.out.ints
    rw [hq] at this
    rw [hml]; exact hideP (ints_row this)
  obtain ⟨b0, o0, e0, l0, k0⟩ := N3.out.ints 0 (by rw [HM.out]; omega)
  obtain ⟨b1, o1, e1, l1, k1⟩ := N3.out.ints (m - 1) (by rw [HM.out]; omega)
  cases e0
  cases e1
  rw [Nat.add_zero] at k0
  obtain ⟨x, hx⟩ : ∃ x, x = xi xs 0 := ⟨_, rfl⟩
  obtain ⟨y, hy⟩ : ∃ y, y = xi xs (m - 1) := ⟨_, rfl⟩
  rw [← hx] at k0 HPS
  rw [← hy] at k1 HPS
  have nl := N3.out.lt
  have T3 := hideP (N3.out.next (Below.refl _ _).drew).ties
  have HMQ := hideP hml
  have hm0 : 0 < m := by omega
  clear hps hqm hq hx hy HV HM hml
  obtain ⟨t, rfl⟩ : ∃ t, m = t + 1 := ⟨m - 1, by omega⟩
  rw [Nat.add_sub_cancel] at k1
  have t0 : (0 : Int) ≤ (t : Int) := by omega
  have t1 : (t : Int) < (t : Int) + 1 := by omega
  have t2 : (0 : Int) < (t : Int) + 1 := by omega
  have ht9 : t ≤ 8 := by omega
  have hw1 : IntKind.i64.wrap (t : Int) = (t : Int) := wrap_small ht9
  have hw2 : IntKind.i64.wrap ((t : Int) + 1 - 1) = (t : Int) := by rw [Int.add_sub_cancel]; exact hw1
  have hw3 : IntKind.i64.wrap ((t : Int) + 1) = (t : Int) + 1 := wrap_small1 ht9
  go_wp2_with fail
  go_region_held3 (fun w' => w'.cell? ⟨w1.heap.size, 0, none⟩ = some (.int .i64 K) ∧ w'.cell? ⟨w1.heap.size, 1, none⟩ = some (.slice ao ts.length cap') ∧ w'.cell? ⟨g, off, none⟩ = some (.int .i64 x) ∧ w'.cell? ⟨g, off + t, none⟩ = some (.int .i64 y)) (first | exact ⟨n0', n1', k0, k1⟩ | exact ⟨(hb5.cell (p := ⟨w1.heap.size, 0, none⟩) nl).trans n0', (hb5.cell (p := ⟨w1.heap.size, 1, none⟩) nl).trans n1', (hb5.cell (p := ⟨g, off, none⟩) l0).trans k0, (hb5.cell (p := ⟨g, off + t, none⟩) l0).trans k1⟩) (first | (go_at_call 7; refine (implAll_v ps K ao cap' ts x y _ hn T3.out HPS.out).mono ?_; rintro e w5 ⟨aoA, capA, rfl, hA, hb5⟩))
  have hb35 : Below w3.heap.size w3 w5 := ((Below.refl _ _).drew).trans hb5
  have HB5 := hideP (HB3.out.trans (hb35.mono HB3.out.size))
  have R5 := hideP ((R3.out.next hb35).wide hb35.size)
  have A5 := hideP hA
  clear hb5 hb35 hA n0' n1' k0 k1 N3 HB3 R3 T3
  go_wp2
  go_loopw [7] (fun i wr => ∃ k : Nat, k ≤ ps.length ∧ i = .int .i64 k ∧ (∀ j, j < k → ps.getD j [] ≠ q) ∧ AllV wr aoA ps ∧ RowV wr wr.heap.size (some ⟨g, off, none⟩) (t + 1) (pcellN (pn q)) ∧ Below w.heap.size w wr)
    (fun i _ => ps.length - (intOf i).toNat)
  case atStart => exact ⟨0, Nat.zero_le _, rfl, fun j hj => absurd hj (by omega), A5.out, R5.out, HB5.out⟩
  case round =>
    clear A5 R5 HB5
    obtain ⟨k, hk, rfl, hno, hA, hR, hBel⟩ := hrel
    have HA := hideP hA
    have HR := hideP hR
    have HBL := hideP hBel
    have HNO := hideP hno
    clear hA hR hBel hno
    by_cases hlt : k < ps.length
    · obtain ⟨G, off', g', c, rfl, hG, hcell, hrow⟩ := HA.out.at' k hlt
      obtain ⟨z, hz⟩ : ∃ z, z = ps.getD k [] := ⟨_, rfl⟩
      rw [← hz] at hcell hrow
      have hk0 : (0 : Int) ≤ (k : Int) := by omega
      have hk1 : (k : Int) < (ps.length : Int) := by omega
      have HROW := hideP hrow
      have HZ8 : Hid (z.length ≤ 8) := by rw [hz]; exact hideP (HLE.out k hlt)
      have HZ := hideP hz
      have HLO : Hid (∀ (v : Bool) (w' : World), RowV w' w'.heap.size (some ⟨g', 0, none⟩) z.length (pcellN (pn z)) → RowV w' w'.heap.size (some ⟨g, off, none⟩) (t + 1) (pcellN (pn q)) → decide (z = q) = v → Calls Try.prog 8 #[.slice (some ⟨g', 0, none⟩) z.length c, .slice (some ⟨g, off, none⟩) (t + 1) cap2] w' fun e w'' => e = .returned (.bool v) ∧ Below w'.heap.size w' w'') := fun v w' h1 h2 h3 => by
        rw [HMQ.out] at h2 ⊢
        exact loInts_any v _ _ _ _ z q w' (by have := HZ8.out; omega) (by omega) h1 h2 h3
      clear hrow hz
      cases hd : decide (z = q)
      · have HD := hideP hd
        clear hd
        go_wp2_with fail
        refine (HLO.out false _ HROW.out HR.out HD.out).mono ?_
        rintro e w6 ⟨rfl, hb6⟩
        have A6 := hideP (HA.out.next hb6)
        have R6 := hideP ((HR.out.next hb6).wide hb6.size)
        have HB6 := hideP (HBL.out.trans (hb6.mono HBL.out.size))
        have NO6 : Hid (∀ j, j < k + 1 → ps.getD j [] ≠ q) := fun j hj => by
          by_cases e : j = k
          · subst e; rw [← HZ.out]; simpa using HD.out
          · exact HNO.out j (by omega)
        clear hb6 HA HR HBL hcell HROW HNO
        go_wp2
        go_roundw
        case rel => exact ⟨k + 1, by omega, by go_num, NO6.out, A6.out, R6.out, HB6.out⟩
        case measure => simp [intOf]; omega
      · have HD := hideP hd
        clear hd
        go_wp2_with fail
        refine (HLO.out true _ HROW.out HR.out HD.out).mono ?_
        rintro e w6 ⟨rfl, hb6⟩
        have HB6 := hideP (HBL.out.trans (hb6.mono HBL.out.size))
        clear hb6 HA HR HBL hcell HROW HNO
        go_wp2
        go_ret
        exact ⟨rfl, HB6.out⟩
    · exfalso
      obtain ⟨i, hi, e⟩ := List.mem_iff_getElem.1 HQM.out
      exact HNO.out i (by omega) (by simp [hi, e])

end Go.Proofs.Ytpjnhgdjfbhmcaa
