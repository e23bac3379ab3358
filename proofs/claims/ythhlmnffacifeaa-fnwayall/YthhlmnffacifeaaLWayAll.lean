/- Walk of laws.FnWayAll: it returns true. -/
import Derived.Test.YthhlmnffacifeaaWFound
import Derived.Test.YthhlmnffacifeaaWAllT
import Derived.Test.YthhlmnffacifeaaWAllS
import Derived.Test.YthhlmnffacifeaaWWayOk2
import Derived.Test.YthhlmnffacifeaaWQuiet
namespace Go.Proofs.Ythhlmnffacifeaa
open Go.RowKit
set_option linter.unusedVariables false

/-- all ways behind an address, read, with the room that they have -/
structure AllU (W : World) (ao : Option Addr) (ps : List (List Nat)) : Prop where
  at' : ∀ i, i < ps.length → ∃ G off g c, ao = some ⟨G, off, none⟩ ∧ G < W.heap.size ∧ W.cell? ⟨G, off + i, none⟩ = some (.slice (some ⟨g, 0, none⟩) (ps.getD i []).length c) ∧ RowV W W.heap.size (some ⟨g, 0, none⟩) (ps.getD i []).length (pcellN (pn (ps.getD i []))) ∧ (ps.getD i []).length ≤ c
theorem AllU.next {W W' : World} {ao : Option Addr} {ps : List (List Nat)} (h : AllU W ao ps) (hb : Below W.heap.size W W') : AllU W' ao ps := ⟨fun i hi => by
  obtain ⟨G, off, g, c, h1, h2, h3, h4, h5⟩ := h.at' i hi
  exact ⟨G, off, g, c, h1, Nat.lt_of_lt_of_le h2 hb.size, (hb.cell (p := ⟨G, off + i, none⟩) h2).trans h3, (h4.next hb).wide hb.size, h5⟩⟩
theorem AllU.seen {W : World} {ao : Option Addr} {ps : List (List Nat)} (h : AllU W ao ps) : AllV W ao ps := ⟨fun i hi => by
  obtain ⟨G, off, g, c, h1, h2, h3, h4, h5⟩ := h.at' i hi
  exact ⟨G, off, g, c, h1, h2, h3, h4⟩⟩
theorem row_room {w : World} {lo g n c : Nat} {xs : List Value} {e : TypeId} (h : w.ownsRow lo e 1 (.slice (some ⟨g, 0, none⟩) n c) n xs) : n ≤ c := by
  rcases h.2 with ⟨h1, _⟩ | ⟨g', c', cur, h1, _, _, h4, _⟩
  · simp at h1
  · simp only [Value.slice.injEq, true_and] at h1
    omega
theorem AllR.room {W : World} {lo : Nat} {ao : Option Addr} {ps : List (List Nat)} (h : AllR W lo ao ps) (hp : ∀ q, q ∈ ps → 0 < q.length ∧ q.length ≤ 8) : AllU W ao ps := ⟨fun i hi => by
  rcases h with ⟨h1, _⟩ | ⟨G, gs, cs, h1, h2, h3, h4, h5⟩
  · rw [h1] at hi; simp at hi
  have hm : ps.getD i [] ∈ ps := by simp [hi]
  have hc : wayAt ps i = ps.getD i [] := clip_is (hp _ hm).1 (hp _ hm).2
  have hr := h4.row i hi
  unfold rowV at hr
  rw [hc] at hr
  obtain ⟨ow, _, hlt⟩ := row_own hr rfl (hp _ hm).1
  refine ⟨G, 0, gs i, cs i, h1, h3.2.2, ?_, fun j hj => ⟨gs i, 0, rfl, hlt, by rw [Nat.zero_add]; exact ow.1 j hj⟩, row_room hr⟩
  rw [Nat.zero_add, h3.1 i hi]
  unfold rowV
  rw [hc]⟩
theorem Acc.seen {W : World} {lo G C : Nat} {ps : List (List Nat)} {gs cs : Nat → Nat} (h : Acc W lo G C ps gs cs) (hp : ∀ q, q ∈ ps → 0 < q.length ∧ q.length ≤ 8) : AllV W (some ⟨G, 0, none⟩) ps := ⟨fun i hi => by
  have hm : ps.getD i [] ∈ ps := by simp [hi]
  have hc : wayAt ps i = ps.getD i [] := clip_is (hp _ hm).1 (hp _ hm).2
  have hr := h.row.row i hi
  have hcell := h.out.cellAt i (by omega)
  unfold rowV at hr
  rw [hc] at hr
  obtain ⟨ow, _, hlt⟩ := row_own hr rfl (hp _ hm).1
  refine ⟨G, 0, gs i, cs i, rfl, h.lt.2, ?_, fun j hj => ⟨gs i, 0, rfl, hlt, by rw [Nat.zero_add]; exact ow.1 j hj⟩⟩
  rw [Nat.zero_add, hcell]
  unfold rowVs
  rw [List.getElem?_map, List.getElem?_range hi]
  unfold rowV
  simp only [Option.map_some]
  rw [hc]⟩
theorem implAll_u (ps : List (List Nat)) (K : Int) (ao : Option Addr) (cap : Nat) (ts : List (Int × Int)) (a b : Int) (w : World) (hn : ts.length ≤ 1099511627776) (ht : TiesIn w w.heap.size ao ts) (hp : waysB K ts a b = ps) :
    Calls Try.prog 13 #[.agg #[.int .i64 K, .slice ao ts.length cap], .int .i64 a, .int .i64 b] w fun e w' => ∃ ao' cap', e = .returned (.slice ao' ps.length cap') ∧ AllU w' ao' ps ∧ Below w.heap.size w w' := by
  subst hp
  refine (implAll_any K ao cap ts a b w hn ht (waysB_few K ts a b)).mono ?_
  rintro e w' ⟨ao', cap', rfl, h, hb⟩
  exact ⟨ao', cap', rfl, h.room (fun q hq => waysB_len hq), hb⟩
theorem specAll_v (ps : List (List Nat)) (K : Int) (ao : Option Addr) (cap : Nat) (ts : List (Int × Int)) (a b : Int) (w : World) (hn : ts.length ≤ 1099511627776) (ht : TiesIn w w.heap.size ao ts) (hp : waysB K ts a b = ps) :
    Calls Try.prog 16 #[.agg #[.int .i64 K, .slice ao ts.length cap], .int .i64 a, .int .i64 b] w fun e w' => ∃ ao' cap', e = .returned (.slice ao' ps.length cap') ∧ AllV w' ao' ps ∧ Below w.heap.size w w' := by
  subst hp
  refine (specAll_any K ao cap ts a b w hn ht).mono ?_
  rintro e w' ⟨G, C, gs, cs, rfl, h, hb⟩
  exact ⟨_, _, rfl, h.seen (fun q hq => waysB_len hq), hb⟩
theorem implWayOk_q (K : Int) (ao bo : Option Addr) (cap cap2 : Nat) (ts : List (Int × Int)) (q : List Nat) (w : World) (hn : ts.length ≤ 1099511627776) (ht : TiesIn w w.heap.size ao ts) (h8 : q.length ≤ 8) (hcap : q.length ≤ cap2) (hx : RowV w w.heap.size bo q.length (pcellN (pn q))) (h : wayB K ts (q.map fun (x : Nat) => (x : Int)) = true) :
    Calls Try.prog 18 #[.agg #[.int .i64 K, .slice ao ts.length cap], .slice bo q.length cap2] w fun e w' => e = .returned (.bool true) ∧ Below w.heap.size w w' := by
  have hl : (q.map fun (x : Nat) => (x : Int)).length = q.length := by simp
  have := implWayOk_any K ao bo cap cap2 ts (q.map fun (x : Nat) => (x : Int)) w hn ht (by omega) (by omega) (fun j hj => by
    obtain ⟨b, off, e, h1, h2⟩ := hx j (by omega)
    exact ⟨b, off, e, h1, by rw [h2, xi_nat]; rfl⟩)
  rw [hl, h] at this
  exact this

set_option maxHeartbeats 1600000 in
theorem wayAll_walk (bo0 : Option Addr) (n0 cap0 : Nat) (w : World) (hb : BytesIn w bo0 n0) (hnil : bo0 = none → n0 = 0 ∧ cap0 = 0) (hc : n0 ≤ cap0) (hm : cap0 ≤ maxLen) :
    Calls Try.prog 4 #[.slice bo0 n0 cap0] w fun e w' => e = .returned (.bool true) ∧ Below w.heap.size w w' := by
  by_cases hl : 1048576 < n0
  · have hl' : (1048576 : Int) < (n0 : Int) := by omega
    have hn' : n0 ≤ 9223372036854775807 := by unfold maxLen at hm; omega
    go_enter Try.func4, Try.ntmps4
    go_wp2
    go_ret
    exact ⟨rfl, Below.refl _ _⟩
  have hl' : decide ((1048576 : Int) < (n0 : Int)) = false := by simp; omega
  go_enter Try.func4, Try.ntmps4
  go_wp2_with fail
  refine (drawWayAll_any bo0 n0 cap0 _ hb hnil hc hm).mono ?_
  rintro e w1 ⟨K, ao, cap', ts, a, b, rfl, D1⟩
  have hn : ts.length ≤ 1099511627776 := by have := D1.short; omega
  have HB1 := hideP (D1.bel.trans ((below_one w1 (.cells #[.int .i64 K, .slice ao ts.length cap'] 25)).mono D1.bel.size))
  have N1 := hideP (NetV.new (K := K) (cap := cap') 25 (D1.own.ties (Nat.le_refl _)))
  clear D1
  obtain ⟨ps, hps⟩ : ∃ ps, waysB K ts a b = ps := ⟨_, rfl⟩
  have HPS := hideP hps
  have HLE : Hid (∀ i, i < ps.length → (ps.getD i []).length ≤ 8) := fun i hi => by
    have hm : ps.getD i [] ∈ waysB K ts a b := by rw [hps]; simp [hi]
    exact (waysB_len hm).2
  have HWY : Hid (∀ i, i < ps.length → ∃ (q : List Nat) (t : Nat), q = ps.getD i [] ∧ q.length = t + 1 ∧ t ≤ 7 ∧ wayB K ts (q.map fun (x : Nat) => (x : Int)) = true ∧ ((pn q 0 : Nat) : Int) = a ∧ ((pn q t : Nat) : Int) = b) := fun i hi => by
    have hm : ps.getD i [] ∈ waysB K ts a b := by rw [hps]; simp [hi]
    have h8 := (waysB_len hm).2
    obtain ⟨h1, h2, h3, h4, h5, h6⟩ := ways_way hm
    refine ⟨ps.getD i [], (ps.getD i []).length - 1, rfl, by omega, by omega, Pw.way h5 h1 h4 (by rw [h3]; exact h6), h3, ?_⟩
    have hla := last_take' (q := ps.getD i []) h4 (Nat.le_refl _)
    rw [List.take_length] at hla
    rw [← h2, hla]; rfl
  have HAH : Hid (∀ i, i + 1 < ps.length → aheadB (ps.getD i []) (ps.getD (i + 1) []) = true) := fun i hi => by
    rw [← hps] at hi ⊢; exact ways_ahead K ts a b hi
  have hpsn : ps.length ≤ 20000000 := by rw [← hps]; exact waysB_few K ts a b
  clear hps
  go_wp2_with fail
  refine (specAll_v ps K ao cap' ts a b _ hn N1.out.ties HPS.out).mono ?_
  rintro e w2 ⟨aoS, capS, rfl, hS, hb2⟩
  have N2 := hideP (N1.out.next hb2)
  have HB2 := hideP (HB1.out.trans (hb2.mono HB1.out.size))
  have S2 := hideP hS
  clear hb2 N1 HB1 hS
  have c0 := N2.out.c0
  have c1 := N2.out.c1
  go_wp2_with fail
  refine (implAll_u ps K ao cap' ts a b _ hn N2.out.ties HPS.out).mono ?_
  rintro e w3 ⟨aoA, capA, rfl, hA, hb3⟩
  have N3 := hideP (N2.out.next hb3)
  have HB3 := hideP (HB2.out.trans (hb3.mono HB2.out.size))
  have S3 := hideP (S2.out.next hb3)
  have A3 := hideP hA
  clear hb3 N2 HB2 S2 hA c0 c1 HPS
  go_wp2_with fail
  refine (loRows_same _ _ _ _ ps _ hpsn HLE.out A3.out.seen S3.out).mono ?_
  rintro e w4 ⟨rfl, hb4⟩
  have HB4 := hideP (HB3.out.trans (hb4.mono HB3.out.size))
  have N4 := hideP (N3.out.next hb4)
  have A4 := hideP (A3.out.next hb4)
  clear hb4 N3 HB3 A3 S3
  go_wp2
  go_loopw [8] (fun i wr => ∃ k : Nat, k ≤ ps.length ∧ i = .int .i64 k ∧ AllU wr aoA ps ∧ NetV wr w1.heap.size K ao cap' ts ∧ Below w.heap.size w wr)
    (fun i _ => ps.length - (intOf i).toNat)
  case atStart => exact ⟨0, Nat.zero_le _, rfl, A4.out, N4.out, HB4.out⟩
  case round =>
    clear A4 N4 HB4
    obtain ⟨k, hk, rfl, hA, hN, hBel⟩ := hrel
    have HA := hideP hA
    have HN := hideP hN
    have HBL := hideP hBel
    clear hA hN hBel
    by_cases hlt : k < ps.length
    · obtain ⟨q, t, hq, hqt, ht7, hqw, hqa, hqb⟩ := HWY.out k hlt
      obtain ⟨G, off, g, c, rfl, hG, hcell, hrow, hroom⟩ := HA.out.at' k hlt
      rw [← hq] at hcell hrow hroom
      have hk0 : (0 : Int) ≤ (k : Int) := by omega
      have hk1 : (k : Int) < (ps.length : Int) := by omega
      have c0 := HN.out.c0
      have c1 := HN.out.c1
      have HROW := hideP hrow
      have HQW := hideP hqw
      obtain ⟨gz, oz, ez, lz, cz⟩ := hrow 0 (by omega)
      obtain ⟨gt, ot, et, lt', ct⟩ := hrow t (by omega)
      cases ez
      cases et
      rw [Nat.zero_add] at cz ct
      have hcz : wr.cell? ⟨g, 0, none⟩ = some (.int .i64 a) := by rw [cz]; show some (Value.int .i64 ((pn q 0 : Nat) : Int)) = _; rw [hqa]
      have hct : wr.cell? ⟨g, t, none⟩ = some (.int .i64 b) := by rw [ct]; show some (Value.int .i64 ((pn q t : Nat) : Int)) = _; rw [hqb]
      have hq8 : q.length ≤ 8 := by omega
      have HQ := hideP hq
      have CALL : Hid (∀ u : Cls (Below wr.heap.size wr), Calls Try.prog 18 #[.agg #[.int .i64 K, .slice ao ts.length cap'], .slice (some ⟨g, 0, none⟩) (t + 1) c] u.w fun e w'' => e = .returned (.bool true) ∧ ∃ u2 : Cls (Below wr.heap.size wr), w'' = u2.w) := fun u => by
        have := implWayOk_q K ao _ cap' c ts q u.w hn (HN.out.next u.ok).ties hq8 hroom ((HROW.out.next u.ok).wide u.ok.size) HQW.out
        rw [hqt] at this
        exact Calls.cls (D := Below wr.heap.size wr) (this.mono fun e w2 ⟨he, hb2⟩ => ⟨he, u.ok.trans (hb2.mono u.ok.size)⟩)
      rw [hqt] at hcell
      have nl := HN.out.lt
      have hne : Nonempty (Cls (Below wr.heap.size wr)) := ⟨⟨wr, Below.refl _ _⟩⟩
      have q0 : ∀ u : Cls (Below wr.heap.size wr), u.w.cell? ⟨w1.heap.size, 0, none⟩ = some (.int .i64 K) := fun u => (u.ok.cell (p := ⟨w1.heap.size, 0, none⟩) nl).trans c0
      have q1 : ∀ u : Cls (Below wr.heap.size wr), u.w.cell? ⟨w1.heap.size, 1, none⟩ = some (.slice ao ts.length cap') := fun u => (u.ok.cell (p := ⟨w1.heap.size, 1, none⟩) nl).trans c1
      have q3 : ∀ u : Cls (Below wr.heap.size wr), u.w.cell? ⟨g, 0, none⟩ = some (.int .i64 a) := fun u => (u.ok.cell (p := ⟨g, 0, none⟩) lz).trans hcz
      have q4 : ∀ u : Cls (Below wr.heap.size wr), u.w.cell? ⟨g, t, none⟩ = some (.int .i64 b) := fun u => (u.ok.cell (p := ⟨g, t, none⟩) lz).trans hct
      have t0 : (0 : Int) ≤ (t : Int) := by omega
      have t1 : (t : Int) < (t : Int) + 1 := by omega
      have t2 : (0 : Int) < (t : Int) + 1 := by omega
      have hw1 : IntKind.i64.wrap (t : Int) = (t : Int) := by rw [IntKind.wrap_i64]; omega
      have hw2 : IntKind.i64.wrap ((t : Int) + 1 - 1) = (t : Int) := by rw [Int.add_sub_cancel]; exact hw1
      have hw3 : IntKind.i64.wrap ((t : Int) + 1) = (t : Int) + 1 := by rw [IntKind.wrap_i64]; omega
      cases k with
      | zero =>
        have q2 : ∀ u : Cls (Below wr.heap.size wr), u.w.cell? ⟨G, off, none⟩ = some (.slice (some ⟨g, 0, none⟩) (t + 1) c) := fun u => (u.ok.cell (p := ⟨G, off, none⟩) hG).trans hcell
        have hp0 : 0 < ps.length := hlt
        have hp1 : (0 : Int) < (ps.length : Int) := by omega
        clear hrow hqw cz ct hqa hqb hq hcell hcz hct c0 c1 hk0 hk1 hk hlt HROW HQW HQ
        go_wp2_with fail
        refine wp_region_cls (Below wr.heap.size wr) (by kernel_rfl) (by kernel_rfl) (Below.refl _ _).drew ?_
        repeat (go_big_quiet_step (first | (go_at_call 18; refine CALL.out _)))
        refine wpQuiet_nil ?_
        intro wq hw'
        have hz : Below wr.heap.size wr wq := by obtain ⟨u, e⟩ := hw'; rw [e]; exact u.ok
        clear hw' q0 q1 q2 q3 q4 hne CALL
        have A6 := hideP (HA.out.next hz)
        have N6 := hideP (HN.out.next hz)
        have HB6 := hideP (HBL.out.trans (hz.mono HBL.out.size))
        clear hz HA HN HBL
        go_wp2
        go_roundw
        case rel => exact ⟨1, by omega, by go_num, A6.out, N6.out, HB6.out⟩
        case measure => simp [intOf]; omega
      | succ j =>
        obtain ⟨q', t', hq', hqt', ht7', _, _, _⟩ := HWY.out j (by omega)
        obtain ⟨G', off', g', c', eG, _, hcell', hrow', _⟩ := HA.out.at' j (by omega)
        cases eG
        rw [← hq'] at hcell' hrow'
        have hah := HAH.out j (by omega)
        rw [← hq', ← HQ.out] at hah
        have CALL2 : Hid (∀ u : Cls (Below wr.heap.size wr), Calls Try.prog 14 #[.slice (some ⟨g', 0, none⟩) (t' + 1) c', .slice (some ⟨g, 0, none⟩) (t + 1) c] u.w fun e w'' => e = .returned (.bool true) ∧ ∃ u2 : Cls (Below wr.heap.size wr), w'' = u2.w) := fun u => by
          have := loAhead_yes _ _ c' c q' q u.w (by omega) (by omega) ((hrow'.next u.ok).wide u.ok.size) ((HROW.out.next u.ok).wide u.ok.size) hah
          rw [hqt, hqt'] at this
          exact Calls.cls (D := Below wr.heap.size wr) (this.mono fun e w2 ⟨he, hb2⟩ => ⟨he, u.ok.trans (hb2.mono u.ok.size)⟩)
        rw [hqt'] at hcell'
        have q2 : ∀ u : Cls (Below wr.heap.size wr), u.w.cell? ⟨G, off + (j + 1), none⟩ = some (.slice (some ⟨g, 0, none⟩) (t + 1) c) := fun u => (u.ok.cell (p := ⟨G, off + (j + 1), none⟩) hG).trans hcell
        have q5 : ∀ u : Cls (Below wr.heap.size wr), u.w.cell? ⟨G, off + j, none⟩ = some (.slice (some ⟨g', 0, none⟩) (t' + 1) c') := fun u => (u.ok.cell (p := ⟨G, off + j, none⟩) hG).trans hcell'
        have j0 : (0 : Int) ≤ (j : Int) := by omega
        have j1 : (j : Int) + 1 < (ps.length : Int) := by omega
        have j2 : (j : Int) < (ps.length : Int) := by omega
        have j3 : (0 : Int) < (j : Int) + 1 := by omega
        have j4 : (0 : Int) ≤ (j : Int) + 1 := by omega
        have jw1 : IntKind.i64.wrap (j : Int) = (j : Int) := by rw [IntKind.wrap_i64]; omega
        have jw2 : IntKind.i64.wrap ((j : Int) + 1 - 1) = (j : Int) := by rw [Int.add_sub_cancel]; exact jw1
        have jw3 : IntKind.i64.wrap ((j : Int) + 1) = (j : Int) + 1 := by rw [IntKind.wrap_i64]; omega
        clear hrow hqw cz ct hqa hqb hq hcell hcz hct c0 c1 hk0 hk1 HROW HQW HQ hah hrow' hcell' hq'
        go_wp2_with fail
        refine wp_region_cls (Below wr.heap.size wr) (by kernel_rfl) (by kernel_rfl) (Below.refl _ _).drew ?_
        repeat (go_big_quiet_step (first | (go_at_call 18; refine CALL.out _) | (go_at_call 14; refine CALL2.out _)))
        refine wpQuiet_nil ?_
        intro wq hw'
        have hz : Below wr.heap.size wr wq := by obtain ⟨u, e⟩ := hw'; rw [e]; exact u.ok
        clear hw' q0 q1 q2 q3 q4 q5 hne CALL CALL2
        have A6 := hideP (HA.out.next hz)
        have N6 := hideP (HN.out.next hz)
        have HB6 := hideP (HBL.out.trans (hz.mono HBL.out.size))
        clear hz HA HN HBL
        go_wp2
        go_roundw
        case rel => exact ⟨j + 2, by omega, by go_num, A6.out, N6.out, HB6.out⟩
        case measure => simp [intOf]; omega
    · obtain rfl : k = ps.length := by omega
      clear hlt
      go_wp2
      go_ret
      exact ⟨rfl, HBL.out⟩

end Go.Proofs.Ythhlmnffacifeaa
