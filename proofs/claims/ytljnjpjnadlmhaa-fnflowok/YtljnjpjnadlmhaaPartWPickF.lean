/- Texts put together: WPickF, WWalk. -/
import Derived.Test.YtljnjpjnadlmhaaPartWPick
import Derived.Test.YtljnjpjnadlmhaaPartWWayOk2
import Derived.Test.YtljnjpjnadlmhaaPartWRows
import Derived.Test.YtljnjpjnadlmhaaPartWSpecOk
import Derived.Test.YtljnjpjnadlmhaaPartWReach
import Derived.Test.YtljnjpjnadlmhaaWWayOk
import Derived.Deep.RegionWith
import Derived.Deep.RegionHeld3
/- The reader's pick, its answer told ahead of the call. -/
namespace Go.Proofs.Ytljnjpjnadlmhaa
open Go.RowKit
set_option linter.unusedVariables false

set_option maxHeartbeats 1600000 in
theorem pick_fix (R : Nat) (bo : Option Addr) (bn bcap p : Nat) (n : Int) (w0 : World) (h0 : Rdr w0 R bo bn bcap p) (hp : p ≤ 1000000) :
    ∃ z : Int, 0 ≤ z ∧ (1 ≤ n → z < n) ∧ ∀ w, Rdr w R bo bn bcap p → (∀ k, k < R → w.heap[k]? = w0.heap[k]?) → Calls Try.prog 26 #[.pointer (some ⟨R, 0, none⟩), .int .i64 n] w fun e w' => e = .returned (.int .i64 z) ∧ Rdr w' R bo bn bcap (p + 1) ∧ Turned R (R + 1) w w' := by
  have hp0 : (0 : Int) ≤ (p : Int) := by omega
  have hp1 : (p : Int) ≤ 1000000 := by omega
  by_cases hn : n < 1
  · refine ⟨0, by omega, by omega, ?_⟩
    intro w h hs
    have hc := hideP h.count
    have ht := hideP (Turned.count w R (.int .i64 ((p : Int) + 1)))
    have c0 := h.c0
    have c1 := h.c1
    have f1 := h.f1
    have hlt := h.lt
    clear h
    go_enter Try.func26, Try.ntmps26
    go_wp2
    go_ret
    exact ⟨rfl, hc.out, ht.out⟩
  · have hn1 : 1 ≤ n := by omega
    have hdn : decide (n < 1) = false := by simp; omega
    clear hn
    by_cases hb0 : bn = 0
    · have he : ((bn : Int) == 0) = true := by simp [hb0]
      refine ⟨0, by omega, by omega, ?_⟩
      intro w h hs
      have hc := hideP h.count
      have ht := hideP (Turned.count w R (.int .i64 ((p : Int) + 1)))
      have c0 := h.c0
      have c1 := h.c1
      have f1 := h.f1
      have hlt := h.lt
      clear h
      go_enter Try.func26, Try.ntmps26
      go_wp2
      go_ret
      exact ⟨rfl, hc.out, ht.out⟩
    · have he : ((bn : Int) == 0) = false := by simp [hb0]
      by_cases hk : p < bn
      · obtain ⟨b, off, v, rfl, h2, h3, h4, h5⟩ := h0.bytes p hk
        have h1 : b ≠ R := by omega
        have hk' : (p : Int) < (bn : Int) := by omega
        have hm := mod_in (x := v) hn1
        have hne : ¬ n = 0 := by omega
        have hnb : (n == 0) = false := by simp [hne]
        refine ⟨v % n, hm.1, fun _ => hm.2, ?_⟩
        intro w h hs
        have hc := hideP h.count
        have ht := hideP (Turned.count w R (.int .i64 ((p : Int) + 1)))
        have c0 := h.c0
        have c1 := h.c1
        have f1 := h.f1
        have hlt := h.lt
        have h3' := (World.cell?_of_block (a := ⟨b, off + p, none⟩) (hs b h2)).trans h3
        clear h h0 h3 hs
        go_enter Try.func26, Try.ntmps26
        go_wp2
        go_ret
        exact ⟨rfl, hc.out, ht.out⟩
      · have hbp : 0 < bn := by omega
        have l1 : p % bn < bn := Nat.mod_lt _ hbp
        have l2 : (p * 7 + 3) % bn < bn := Nat.mod_lt _ hbp
        obtain ⟨i1, hi1⟩ : ∃ i1, i1 = p % bn := ⟨_, rfl⟩
        obtain ⟨i2, hi2⟩ : ∃ i2, i2 = (p * 7 + 3) % bn := ⟨_, rfl⟩
        rw [← hi1] at l1
        rw [← hi2] at l2
        obtain ⟨b, off, v, rfl, h2, h3, h4, h5⟩ := h0.bytes i1 l1
        obtain ⟨b', off', v', hbo, h2', h3', h4', h5'⟩ := h0.bytes i2 l2
        have h1 : b ≠ R := by omega
        simp only [Option.some.injEq, Addr.mk.injEq, and_true] at hbo
        obtain ⟨rfl, rfl⟩ := hbo
        have e1 : (p : Int).tmod (bn : Int) = (i1 : Int) := by rw [hi1]; simp [Int.tmod]
        have e2 : ((p : Int) * 7 + 3).tmod (bn : Int) = (i2 : Int) := by
          rw [hi2, show ((p : Int) * 7 + 3) = ((p * 7 + 3 : Nat) : Int) by omega]; simp [Int.tmod]
        have hnb : (n == 0) = false := by simp; omega
        have hk' : ¬ ((p : Int) < (bn : Int)) := by omega
        have l1' : (i1 : Int) < (bn : Int) := by omega
        have l2' : (i2 : Int) < (bn : Int) := by omega
        have wr1 : IntKind.i64.wrap ((p : Int) * 7) = (p : Int) * 7 := by rw [IntKind.wrap_i64]; omega
        have wr2 : IntKind.i64.wrap ((p : Int) * 7 + 3) = (p : Int) * 7 + 3 := by rw [IntKind.wrap_i64]; omega
        obtain ⟨q, hq⟩ : ∃ q : Int, q = (p : Int) / (bn : Int) := ⟨_, rfl⟩
        have hq0 : 0 ≤ (p : Int) / (bn : Int) := Int.ediv_nonneg (by omega) (by omega)
        have hq1 : (p : Int) / (bn : Int) ≤ 1000000 := Int.le_trans (Int.ediv_le_self _ (by omega)) hp1
        obtain ⟨x, hx⟩ : ∃ x : Int, x = v * 131 + v' * 1117 + (p : Int) * 29 + (p : Int) / (bn : Int) * 53 := ⟨_, rfl⟩
        have hx0 : 0 ≤ x := by rw [hx]; omega
        have hx1 : x < 1000000000 := by rw [hx]; omega
        have hX := xor_in x hx0 hx1
        have HX := hideP hx
        have hm := hideP (mod_in (x := bits .xor .i64 x (x / 64)) hn1)
        refine ⟨bits .xor .i64 x (x / 64) % n, hm.out.1, fun _ => hm.out.2, ?_⟩
        intro w h hs
        have hc := hideP h.count
        have ht := hideP (Turned.count w R (.int .i64 ((p : Int) + 1)))
        have c0 := h.c0
        have c1 := h.c1
        have f1 := h.f1
        have hlt := h.lt
        have h3w := (World.cell?_of_block (a := ⟨b, off + i1, none⟩) (hs b h2)).trans h3
        have h3w' := (World.cell?_of_block (a := ⟨b, off + i2, none⟩) (hs b h2)).trans h3'
        clear h h0 hi1 hi2 hq hx h3 h3' hs
        go_enter Try.func26, Try.ntmps26
        go_wp2
        go_quiet (fail)
        rw [← HX.out]
        go_wp2
        go_ret
        exact ⟨rfl, hc.out.next (below_drewN (Below.refl _ _) nq), ht.out.drewN nq⟩

end Go.Proofs.Ytljnjpjnadlmhaa

/- Walk of spec.l71Walk: what may be a way: numbers in memory of their own. -/
namespace Go.Proofs.Ytljnjpjnadlmhaa
open Go.RowKit
set_option linter.unusedVariables false

/-- what stands while a way is drawn: the net's box, the reader, the row -/
structure Wst (w wr : World) (R : Nat) (bo : Option Addr) (bn bcap p : Nat) (K : Int) (v : Value) (g off cap : Nat) (xs : List Int) : Prop where
  c0 : wr.cell? ⟨w.heap.size, 0, none⟩ = some (.int .i64 K)
  c1 : wr.cell? ⟨w.heap.size, 1, none⟩ = some v
  lt : w.heap.size < wr.heap.size
  rd : Rdr wr R bo bn bcap p
  row : RowZ wr (w.heap.size + 1) g off cap xs
  T : Turned R (R + 1) w wr
  hR : R < w.heap.size
theorem turned_below {lo hi : Nat} {a b : World} (h : Below a.heap.size a b) : Turned lo hi a b := ⟨h.os, h.tape, h.output, h.size, fun k hk _ => h.block k hk⟩
theorem Rdr.same {w w' : World} {R : Nat} {bo : Option Addr} {bn bcap p : Nat} (h : Rdr w R bo bn bcap p) (e : ∀ k, k ≤ R → w'.heap[k]? = w.heap[k]?) (hs : w.heap.size ≤ w'.heap.size) : Rdr w' R bo bn bcap p :=
  ⟨(World.cell?_of_block (a := ⟨R, 0, none⟩) (e R (Nat.le_refl _))).trans h.c0, (World.cell?_of_block (a := ⟨R, 1, none⟩) (e R (Nat.le_refl _))).trans h.c1, (World.frozen?_of_block (a := ⟨R, 1, none⟩) (e R (Nat.le_refl _))).trans h.f1, Nat.lt_of_lt_of_le h.lt hs, h.short, fun i hi => by
    obtain ⟨b, off, v, e1, h1, h3, h4⟩ := h.bytes i hi
    exact ⟨b, off, v, e1, h1, (World.cell?_of_block (a := ⟨b, off + i, none⟩) (e b (Nat.le_of_lt h1))).trans h3, h4⟩⟩
theorem Wst.next {w wr w' : World} {R : Nat} {bo : Option Addr} {bn bcap p : Nat} {K : Int} {v : Value} {g off cap : Nat} {xs : List Int} (h : Wst w wr R bo bn bcap p K v g off cap xs) (hb : Below wr.heap.size wr w') : Wst w w' R bo bn bcap p K v g off cap xs :=
  ⟨(hb.cell (p := ⟨w.heap.size, 0, none⟩) h.lt).trans h.c0, (hb.cell (p := ⟨w.heap.size, 1, none⟩) h.lt).trans h.c1, Nat.lt_of_lt_of_le h.lt hb.size, h.rd.next hb, h.row.next hb, turned_trans h.T (turned_below hb), h.hR⟩
theorem Wst.pick {w wr w' : World} {R : Nat} {bo : Option Addr} {bn bcap p p' : Nat} {K : Int} {v : Value} {g off cap : Nat} {xs : List Int} (h : Wst w wr R bo bn bcap p K v g off cap xs) (ht : Turned R (R + 1) wr w') (hr : Rdr w' R bo bn bcap p') : Wst w w' R bo bn bcap p' K v g off cap xs :=
  have hR := h.hR
  have hg := h.row.lo
  ⟨(ht.cell (p := ⟨w.heap.size, 0, none⟩) h.lt (Or.inr hR)).trans h.c0, (ht.cell (p := ⟨w.heap.size, 1, none⟩) h.lt (Or.inr hR)).trans h.c1, Nat.lt_of_lt_of_le h.lt ht.size, hr, h.row.turn ht (Or.inr (by omega)), turned_trans h.T ht, h.hR⟩
theorem turned_far {R g : Nat} {a b c : World} (h : Turned R (R + 1) a b) (k : Turned g (g + 1) b c) (hg : a.heap.size ≤ g) : Turned R (R + 1) a c :=
  ⟨k.os.trans h.os, k.tape.trans h.tape, k.output.trans h.output, Nat.le_trans h.size k.size, fun i hi ho => (k.block i (Nat.lt_of_lt_of_le hi h.size) (Or.inl (by omega))).trans (h.block i hi ho)⟩
theorem Wst.app {w wr w' : World} {R : Nat} {bo : Option Addr} {bn bcap p : Nat} {K : Int} {v : Value} {g off cap g' off' cap' : Nat} {xs xs' : List Int} (h : Wst w wr R bo bn bcap p K v g off cap xs) (ht : Turned g (g + 1) wr w') (hr : RowZ w' (w.heap.size + 1) g' off' cap' xs') : Wst w w' R bo bn bcap p K v g' off' cap' xs' := by
  have hR := h.hR
  have hg := h.row.lo
  have hl := h.lt
  exact ⟨(ht.cell (p := ⟨w.heap.size, 0, none⟩) h.lt (Or.inl (by show w.heap.size < g; omega))).trans h.c0, (ht.cell (p := ⟨w.heap.size, 1, none⟩) h.lt (Or.inl (by show w.heap.size < g; omega))).trans h.c1, Nat.lt_of_lt_of_le h.lt ht.size, h.rd.same (fun k hk => ht.block k (by omega) (Or.inl (by omega))) ht.size, hr, turned_far h.T ht (by omega), h.hR⟩
theorem Wst.fin {w wr : World} {R : Nat} {bo : Option Addr} {bn bcap p : Nat} {K : Int} {v : Value} {g off cap : Nat} {xs : List Int} (h : Wst w wr R bo bn bcap p K v g off cap xs) : RowZ wr w.heap.size g off cap xs ∧ Turned R (R + 1) w wr := ⟨h.row.down (Nat.le_succ _), h.T⟩
theorem Wst.store {w wr : World} {R : Nat} {bo : Option Addr} {bn bcap p : Nat} {K : Int} {v : Value} {g off cap : Nat} {xs : List Int} (h : Wst w wr R bo bn bcap p K v g off cap xs) {i : Nat} (hi : i < xs.length) (y : Int) :
    RowZ (wr.setCell ⟨g, off + i, none⟩ (.int .i64 y)) w.heap.size g off cap (xs.set i y) ∧ Turned R (R + 1) w (wr.setCell ⟨g, off + i, none⟩ (.int .i64 y)) := by
  have hg := h.row.lo
  exact ⟨(h.row.set hi y).down (Nat.le_succ _), turned_far (g := g) h.T ⟨rfl, rfl, rfl, by simp [World.setCell], fun k _ hk => Below.heap_setCell _ _ _ _ (by show k ≠ g; omega)⟩ (by omega)⟩
theorem Wst.bare {w wr : World} {R : Nat} {bo : Option Addr} {bn bcap p : Nat} {K : Int} {v : Value} {g off cap : Nat} {xs : List Int} (h : Wst w wr R bo bn bcap p K v g off cap xs) (t : TypeId) :
    RowZ (wr.alloc (.cells #[] t)) w.heap.size wr.heap.size 0 0 [] ∧ Turned R (R + 1) w (wr.alloc (.cells #[] t)) :=
  ⟨(RowZ.new wr t).down (Nat.le_of_lt h.lt), turned_trans h.T (turned_below (below_one _ _))⟩
theorem Wst.start {w w1 : World} {R : Nat} {bo : Option Addr} {bn bcap p : Nat} {K : Int} {v : Value} {t : TypeId} (x : Int) (t' : TypeId) (hR : R < w.heap.size) (hr : Rdr w1 R bo bn bcap p) (ht : Turned R (R + 1) (w.alloc (.cells #[.int .i64 K, v] t)) w1) :
    Wst w (w1.alloc (.cells #[.int .i64 x] t')) R bo bn bcap p K v w1.heap.size 0 1 [x] := by
  have hs : w.heap.size < w1.heap.size := by have := ht.size; simp at this; omega
  have hb := below_one w1 (.cells #[.int .i64 x] t')
  refine ⟨(hb.cell (p := ⟨w.heap.size, 0, none⟩) hs).trans ((ht.cell (p := ⟨w.heap.size, 0, none⟩) (by simp) (Or.inr hR)).trans (by simp)), (hb.cell (p := ⟨w.heap.size, 1, none⟩) hs).trans ((ht.cell (p := ⟨w.heap.size, 1, none⟩) (by simp) (Or.inr hR)).trans (by simp)), by simp; omega, hr.next hb, (RowZ.one w1 x t').down (by omega), ?_, hR⟩
  exact turned_trans (turned_trans (turned_below (below_one w _)) ht) (turned_below hb)
theorem TiesIn.turned {w wr : World} {R : Nat} {ao : Option Addr} {ts : List (Int × Int)} (h : TiesIn w w.heap.size ao ts) (hR : ∀ j, j < ts.length → ∀ b off, ao = some ⟨b, off, none⟩ → b ≠ R) (ht : Turned R (R + 1) w wr) : TiesIn wr wr.heap.size ao ts := by
  intro i hi
  obtain ⟨b, off, e, hlt, q0, q1⟩ := h i hi
  have hb := hR i hi b off e
  exact ⟨b, off, e, Nat.lt_of_lt_of_le hlt ht.size, (ht.cell (p := ⟨b, off + i * 2, none⟩) hlt (by show b < R ∨ R + 1 ≤ b; omega)).trans q0, (ht.cell (p := ⟨b, off + i * 2 + 1, none⟩) hlt (by show b < R ∨ R + 1 ≤ b; omega)).trans q1⟩

set_option maxHeartbeats 1600000 in
theorem l71Walk_any (R : Nat) (bo : Option Addr) (bn bcap p : Nat) (K : Int) (ao : Option Addr) (cap : Nat) (ts : List (Int × Int)) (w : World) (h : Rdr w R bo bn bcap p) (hp : p ≤ 998000) (hK : -1 ≤ K ∧ K ≤ 9) (hn : ts.length ≤ 1099511627776) (ht : TiesIn w w.heap.size ao ts) (htR : ∀ j, j < ts.length → ∀ b off, ao = some ⟨b, off, none⟩ → b ≠ R) :
    Calls Try.prog 27 #[.pointer (some ⟨R, 0, none⟩), .agg #[.int .i64 K, .slice ao ts.length cap]] w fun e w' => ∃ g off cap' xs, e = .returned (.slice (some ⟨g, off, none⟩) xs.length cap') ∧ RowZ w' w.heap.size g off cap' xs ∧ xs.length ≤ 8 ∧ Turned R (R + 1) w w' := by
  obtain ⟨i0, hi, hz0, hz1, hz2⟩ := info_parts Try.infoInt
  have HI : Hid (Try.prog.info? 3 = some i0 ∧ i0.zero = some (.int .i64 0) ∧ i0.size = 1 ∧ i0.bytes = 8) := ⟨hi, hz0, hz1, hz2⟩
  have hR := h.lt
  have RD0 : Hid (∀ t : TypeId, Rdr (w.alloc (.cells #[.int .i64 K, .slice ao ts.length cap] t)) R bo bn bcap p) := fun t => h.next (below_one _ _)
  have HT : Hid (∀ wr, Turned R (R + 1) w wr → TiesIn wr wr.heap.size ao ts) := fun wr hh => ht.turned htR hh
  clear hi hz0 hz1 hz2 h ht htR
  go_enter Try.func27, Try.ntmps27
  go_wp2_with fail
  refine (l71Knot_any R bo bn bcap p K _ _ (RD0.out _) (by omega) hK).mono ?_
  rintro e w1 ⟨v, rfl, v0, v9, ⟨p1, hp1, hr1⟩, ht1⟩
  have S1 := hideP (Wst.start v 3 hR hr1 ht1)
  clear hr1 ht1 RD0
  go_wp2_with fail
  refine (pick_any R bo bn bcap p1 7 _ S1.out.rd (by omega)).mono ?_
  rintro e w2 ⟨i, rfl, iz, i7, hr2, ht2⟩
  have S2 := hideP (S1.out.pick ht2 hr2)
  have i7' := i7 (by omega)
  obtain ⟨m, hm⟩ : ∃ m : Nat, i = (m : Int) := ⟨i.toNat, by omega⟩
  subst hm
  clear hr2 ht2 S1 i7
  go_wp2
  go_loopw [5, 6] (fun o i wr => ∃ (j g off cap' q : Nat) (xs : List Int), i = .int .i64 j ∧ j ≤ 6 ∧ o = .slice (some ⟨g, off, none⟩) xs.length cap' ∧ 0 < xs.length ∧ xs.length + j ≤ 8 ∧ q + 2 * j ≤ p + 30 ∧ Wst w wr R bo bn bcap q K (.slice ao ts.length cap) g off cap' xs)
    (fun _ i _ => (intOf i).toNat)
  case atStart => exact ⟨m, w1.heap.size, 0, 1, p1 + 1, [v], rfl, by omega, rfl, by simp, by simp; omega, by omega, S2.out⟩
  case round =>
    obtain ⟨j, g, off, cap', q, xs, rfl, hj, rfl, hx0, hx8, hq, hS⟩ := hrel
    have S3 := hideP hS
    clear hS
    by_cases hj0 : j = 0
    · subst hj0
      go_wp2_with fail
      refine (pick_any R bo bn bcap q 16 _ S3.out.rd (by omega)).mono ?_
      rintro e wt ⟨y, rfl, y0, y16, hrt, htt⟩
      have St := hideP (S3.out.pick htt hrt)
      clear hrt htt
      have y16' := y16 (by omega)
      by_cases hy0 : y = 0
      · subst hy0
        have hxl1 : (1 : Int) ≤ (xs.length : Int) := by omega
        go_wp2_with fail
        refine (pick_any R bo bn bcap _ (xs.length : Int) _ St.out.rd (by omega)).mono ?_
        rintro e wu ⟨z, rfl, z0, zn, hru, htu⟩
        have Su := hideP (St.out.pick htu hru)
        clear hru htu
        have zn' := zn hxl1
        obtain ⟨zz, hzz⟩ : ∃ m : Nat, z = (m : Int) := ⟨z.toNat, by omega⟩
        subst hzz
        go_wp2_with fail
        refine (pick_any R bo bn bcap _ 9 _ Su.out.rd (by omega)).mono ?_
        rintro e wv ⟨c, rfl, c0, c9, hrv, htv⟩
        have Sv := hideP (Su.out.pick htv hrv)
        clear hrv htv
        have hzl : zz < xs.length := by omega
        have cz : wv.cell? ⟨g, off + zz, none⟩ = some (zvc (xs.getD zz 0)) := Sv.out.row.cells zz hzl
        have fz : wv.frozen? ⟨g, off + zz, none⟩ = false := Sv.out.row.fr _
        have FIN := hideP (Sv.out.store hzl c)
        go_wp2
        go_ret
        exact ⟨g, off, cap', xs.set zz c, by simp, FIN.out.1, by simp; omega, FIN.out.2⟩
      · by_cases hy1 : y = 1
        · subst hy1
          have FIN := hideP (fun t => St.out.bare t)
          go_wp2
          go_ret
          exact ⟨_, 0, 0, [], rfl, (FIN.out _).1, by simp, (FIN.out _).2⟩
        · have b0 : (y == 0) = false := by simp [hy0]
          have b1 : (y == 1) = false := by simp [hy1]
          have FIN := hideP St.out.fin
          clear hy0 hy1
          go_wp2
          go_ret
          exact ⟨g, off, cap', xs, rfl, FIN.out.1, by omega, FIN.out.2⟩
    have hj1 : (0 : Int) < (j : Int) := by omega
    have S4 := hideP (S3.out.next (below_one wr (.cells #[] 3)))
    obtain ⟨l, hl⟩ : ∃ l : Nat, xs.length = l + 1 := ⟨xs.length - 1, by omega⟩
    have HL := hideP hl
    rw [hl] at hx8
    have hxs : (.slice (some ⟨g, off, none⟩) xs.length cap' : Value) = .slice (some ⟨g, off, none⟩) (l + 1) cap' := by rw [hl]
    simp only [hxs]
    clear hl hxs hx0 S3
    go_wp2
    obtain ⟨w3, hw3⟩ : ∃ w3, w3 = wr.alloc (.cells #[] 3) := ⟨_, rfl⟩
    rw [← hw3] at S4 ⊢
    have hg3 : w3.heap.size = wr.heap.size + 1 := by rw [hw3]; simp
    clear hw3
    obtain ⟨x, hx⟩ : ∃ x, x = xi xs l := ⟨_, rfl⟩
    have cx : w3.cell? ⟨g, off + l, none⟩ = some (.int .i64 x) := by rw [hx]; exact S4.out.row.cells l (by rw [HL.out]; omega)
    clear hx
    have e0 := S4.out.c0
    have e1 := S4.out.c1
    have hgl := S4.out.row.lt
    have hwl := S4.out.lt
    have TD : Hid (TiesIn w3.drew w3.drew.heap.size ao ts) := HT.out _ (turned_drew S4.out.T)
    have hl0 : (0 : Int) ≤ (l : Int) := by omega
    have hl9 : (l : Int) ≤ 9 := by omega
    have hl1 : (l : Int) < (l : Int) + 1 := by omega
    have hl2 : l < l + 1 := by omega
    have hww : IntKind.i64.wrap (l : Int) = (l : Int) := by rw [IntKind.wrap_i64]; omega
    have hcap : (l : Int) + 1 ≤ (cap' : Int) := by have := S4.out.row.len; rw [HL.out] at this; omega
    cases hk : (okB K ts && knotB x K)
    · have HK : Hid ((okB K ts && knotB x K) = false) := hk
      clear hk
      go_region_held3 (fun w' => w'.cell? ⟨w.heap.size, 0, none⟩ = some (.int .i64 K) ∧ w'.cell? ⟨w.heap.size, 1, none⟩ = some (.slice ao ts.length cap) ∧ w'.cell? ⟨g, off + l, none⟩ = some (.int .i64 x)) (first | exact ⟨e0, e1, cx⟩ | exact ⟨(hb6.cell (p := ⟨w.heap.size, 0, none⟩) hwl).trans e0, (hb6.cell (p := ⟨w.heap.size, 1, none⟩) hwl).trans e1, (hb6.cell (p := ⟨g, off + l, none⟩) hgl).trans cx⟩) (first | (go_at_call 32; refine (l1Knot_v false K ao cap ts x _ hn TD.out HK.out).mono ?_; rintro e w6 ⟨rfl, hb6⟩))
      have S5 := hideP (S4.out.next ((Below.refl w3.heap.size w3).drew.trans hb6))
      clear hb6 e0 e1 cx hgl hwl TD
      go_wp2_with fail
      refine (pick_any R bo bn bcap q 16 _ S5.out.rd (by omega)).mono ?_
      rintro e wt ⟨y, rfl, y0, y16, hrt, htt⟩
      have St := hideP (S5.out.pick htt hrt)
      clear hrt htt
      have y16' := y16 (by omega)
      by_cases hy0 : y = 0
      · subst hy0
        have hxl1 : (1 : Int) ≤ ((l : Int) + 1) := by omega
        go_wp2_with fail
        refine (pick_any R bo bn bcap _ ((l : Int) + 1) _ St.out.rd (by omega)).mono ?_
        rintro e wu ⟨z, rfl, z0, zn, hru, htu⟩
        have Su := hideP (St.out.pick htu hru)
        clear hru htu
        have zn' := zn hxl1
        obtain ⟨zz, hzz⟩ : ∃ m : Nat, z = (m : Int) := ⟨z.toNat, by omega⟩
        subst hzz
        go_wp2_with fail
        refine (pick_any R bo bn bcap _ 9 _ Su.out.rd (by omega)).mono ?_
        rintro e wv ⟨c, rfl, c0, c9, hrv, htv⟩
        have Sv := hideP (Su.out.pick htv hrv)
        clear hrv htv
        have hzl : zz < xs.length := by rw [HL.out]; omega
        have cz : wv.cell? ⟨g, off + zz, none⟩ = some (zvc (xs.getD zz 0)) := Sv.out.row.cells zz hzl
        have fz : wv.frozen? ⟨g, off + zz, none⟩ = false := Sv.out.row.fr _
        have FIN := hideP (Sv.out.store hzl c)
        go_wp2
        go_ret
        exact ⟨g, off, cap', xs.set zz c, by simp [HL.out], FIN.out.1, by simp [HL.out]; omega, FIN.out.2⟩
      · by_cases hy1 : y = 1
        · subst hy1
          have FIN := hideP (fun t => St.out.bare t)
          go_wp2
          go_ret
          exact ⟨_, 0, 0, [], rfl, (FIN.out _).1, by simp, (FIN.out _).2⟩
        · have b0 : (y == 0) = false := by simp [hy0]
          have b1 : (y == 1) = false := by simp [hy1]
          have FIN := hideP St.out.fin
          clear hy0 hy1
          go_wp2
          go_ret
          exact ⟨g, off, cap', xs, by simp [HL.out], FIN.out.1, by rw [HL.out]; omega, FIN.out.2⟩
    have HK : Hid ((okB K ts && knotB x K) = true) := hk
    go_region_held3 (fun w' => w'.cell? ⟨w.heap.size, 0, none⟩ = some (.int .i64 K) ∧ w'.cell? ⟨w.heap.size, 1, none⟩ = some (.slice ao ts.length cap) ∧ w'.cell? ⟨g, off + l, none⟩ = some (.int .i64 x)) (first | exact ⟨e0, e1, cx⟩ | exact ⟨(hb6.cell (p := ⟨w.heap.size, 0, none⟩) hwl).trans e0, (hb6.cell (p := ⟨w.heap.size, 1, none⟩) hwl).trans e1, (hb6.cell (p := ⟨g, off + l, none⟩) hgl).trans cx⟩) (first | (go_at_call 32; refine (l1Knot_v true K ao cap ts x _ hn TD.out HK.out).mono ?_; rintro e w6 ⟨rfl, hb6⟩))
    have S5 := hideP (S4.out.next ((Below.refl w3.heap.size w3).drew.trans hb6))
    have CX := hideP cx
    clear hb6 e0 e1 cx hgl hwl TD
    simp only [Bool.and_eq_true] at hk
    have hnet := okB_iff.1 hk.1
    have hkx : 0 ≤ x ∧ x < K := by have := hk.2; simp only [knotB, Bool.and_eq_true, decide_eq_true_eq] at this; exact this
    obtain ⟨Kn, hKn⟩ : ∃ n : Nat, K = (n : Int) := ⟨K.toNat, by omega⟩
    subst hKn
    obtain ⟨xn, hxn⟩ : ∃ n : Nat, x = (n : Int) := ⟨x.toNat, by omega⟩
    subst hxn
    have hK8 : Kn ≤ 8 := by have := hnet.2.1; omega
    clear hk hnet HK
    have e0 := S5.out.c0
    have e1 := S5.out.c1
    have hgl := S5.out.row.lt
    have hwl := S5.out.lt
    have cx : w6.cell? ⟨g, off + l, none⟩ = some (.int .i64 (xn : Int)) := by
      have h1 := S5.out.row.cells l (by rw [HL.out]; omega)
      have h2 := S4.out.row.cells l (by rw [HL.out]; omega)
      rw [h1, ← h2]; exact CX.out
    have TD : Hid (TiesIn w6.drew w6.drew.heap.size ao ts) := HT.out _ (turned_drew S5.out.T)
    go_wp2
    go_region_held3 (fun w' => w'.cell? ⟨w.heap.size, 0, none⟩ = some (.int .i64 (Kn : Int)) ∧ w'.cell? ⟨w.heap.size, 1, none⟩ = some (.slice ao ts.length cap) ∧ w'.cell? ⟨g, off + l, none⟩ = some (.int .i64 (xn : Int))) (first | exact ⟨e0, e1, cx⟩ | exact ⟨(hb7.cell (p := ⟨w.heap.size, 0, none⟩) hwl).trans e0, (hb7.cell (p := ⟨w.heap.size, 1, none⟩) hwl).trans e1, (hb7.cell (p := ⟨g, off + l, none⟩) hgl).trans cx⟩) (first | (go_at_call 49; refine (l2Next_any Kn ao cap ts xn _ hn TD.out hK8).mono ?_; rintro e w7 ⟨g7, off7, cap7, rfl, hR7, hb7⟩))
    have S7 := hideP (S5.out.next ((Below.refl w6.heap.size w6).drew.trans hb7))
    have L7 := hideP hR7
    have hLl := nbrs_len ts xn Kn
    have hw6 : w.heap.size < w6.heap.size := hwl
    clear hb7 hR7 e0 e1 cx hgl hwl TD S4 S5 CX
    obtain ⟨L, hL⟩ : ∃ L, L = nbrs ts xn Kn := ⟨_, rfl⟩
    rw [← hL] at L7 hLl ⊢
    clear hL
    obtain ⟨ll, hll⟩ : ∃ ll, ll = L.length := ⟨_, rfl⟩
    have HLL := hideP hll
    rw [← hll] at hLl ⊢
    clear hll
    by_cases hl0' : ll = 0
    · subst hl0'
      go_wp2_with fail
      refine (pick_any R bo bn bcap q 16 _ S7.out.rd (by omega)).mono ?_
      rintro e wt ⟨y, rfl, y0, y16, hrt, htt⟩
      have St := hideP (S7.out.pick htt hrt)
      clear hrt htt
      have y16' := y16 (by omega)
      by_cases hy0 : y = 0
      · subst hy0
        have hxl1 : (1 : Int) ≤ ((l : Int) + 1) := by omega
        go_wp2_with fail
        refine (pick_any R bo bn bcap _ ((l : Int) + 1) _ St.out.rd (by omega)).mono ?_
        rintro e wu ⟨z, rfl, z0, zn, hru, htu⟩
        have Su := hideP (St.out.pick htu hru)
        clear hru htu
        have zn' := zn hxl1
        obtain ⟨zz, hzz⟩ : ∃ m : Nat, z = (m : Int) := ⟨z.toNat, by omega⟩
        subst hzz
        go_wp2_with fail
        refine (pick_any R bo bn bcap _ 9 _ Su.out.rd (by omega)).mono ?_
        rintro e wv ⟨c, rfl, c0, c9, hrv, htv⟩
        have Sv := hideP (Su.out.pick htv hrv)
        clear hrv htv
        have hzl : zz < xs.length := by rw [HL.out]; omega
        have cz : wv.cell? ⟨g, off + zz, none⟩ = some (zvc (xs.getD zz 0)) := Sv.out.row.cells zz hzl
        have fz : wv.frozen? ⟨g, off + zz, none⟩ = false := Sv.out.row.fr _
        have FIN := hideP (Sv.out.store hzl c)
        go_wp2
        go_ret
        exact ⟨g, off, cap', xs.set zz c, by simp [HL.out], FIN.out.1, by simp [HL.out]; omega, FIN.out.2⟩
      · by_cases hy1 : y = 1
        · subst hy1
          have FIN := hideP (fun t => St.out.bare t)
          go_wp2
          go_ret
          exact ⟨_, 0, 0, [], rfl, (FIN.out _).1, by simp, (FIN.out _).2⟩
        · have b0 : (y == 0) = false := by simp [hy0]
          have b1 : (y == 1) = false := by simp [hy1]
          have FIN := hideP St.out.fin
          clear hy0 hy1
          go_wp2
          go_ret
          exact ⟨g, off, cap', xs, by simp [HL.out], FIN.out.1, by rw [HL.out]; omega, FIN.out.2⟩
    have hlb : ((ll : Int) == 0) = false := by simp; omega
    have hlb2 : (ll == 0) = false := by simp; omega
    go_wp2_with fail
    refine (pick_any R bo bn bcap q (ll : Int) _ S7.out.rd (by omega)).mono ?_
    rintro e w8 ⟨z, rfl, z0, zn, hr8, ht8⟩
    have zn' := zn (by omega)
    obtain ⟨zz, hzz⟩ : ∃ m : Nat, z = (m : Int) := ⟨z.toNat, by omega⟩
    subst hzz
    have S8 := hideP (S7.out.pick ht8 hr8)
    obtain ⟨kk, hkk⟩ : ∃ kk, kk = L.getD zz 0 := ⟨_, rfl⟩
    have ck : w8.cell? ⟨g7, off7 + zz, none⟩ = some (.int .i64 (kk : Int)) := by
      have h1 := L7.out.cells zz (by rw [← HLL.out]; omega)
      have hg7 := L7.out.lo
      have hRw := S7.out.hR
      have hlw := S7.out.lt
      rw [hkk]
      exact (ht8.cell (p := ⟨g7, off7 + zz, none⟩) L7.out.lt (Or.inr (by show R + 1 ≤ g7; have : w6.drew.heap.size = w6.heap.size := rfl; omega))).trans h1
    have hz0 : (0 : Int) ≤ (zz : Int) := by omega
    clear hr8 ht8 S7 L7 hkk zn
    cases hin : inI xs (kk : Int)
    · have HI2 : Hid (inI xs (kk : Int) = false) := hin
      clear hin
      have X8 := hideP (S8.out.row.ints S8.out.row.lt)
      go_wp2_with fail
      refine (l2Has_is false _ (l + 1) cap' xs (kk : Int) _ (by omega) HL.out X8.out HI2.out).mono ?_
      rintro e w9 ⟨rfl, hb9⟩
      have S9 := hideP (S8.out.next hb9)
      clear hb9 ck S8 X8
      have bo1 := below_one w9 (.cells #[.int .i64 (kk : Int)] 3)
      have R1 := hideP (S9.out.row.next bo1)
      have Q1 := hideP (S9.out.next bo1)
      clear bo1
      go_wp2_with (at_builtin; refine wpList_append_rowZ _ rfl _ _ 30 rfl (w.heap.size + 1) 3 i0 Try.underlying30 HI.out.1 HI.out.2.1 HI.out.2.2.1 HI.out.2.2.2 g off cap' xs (l + 1) HL.out rfl R1.out w9.heap.size (kk : Int) rfl ?c1 ?c2 ?c3 ?c4)
      · rw [World.cell?_alloc_at _ _ _ _ rfl]; rfl
      · rw [HL.out]; omega
      · exact Q1.out.lt
      intro g' off' cap'' wa hRa hga hta
      have Sa := hideP (Q1.out.app hta hRa)
      clear hRa hga hta
      go_wp2
      go_roundw
      case rel => exact ⟨j - 1, g', off', cap'', q + 1, xs ++ [(kk : Int)], by congr 1; omega, by omega, by simp [HL.out], by simp, by simp [HL.out]; omega, by omega, Sa.out⟩
      case measure => simp [intOf]; omega
    have HI2 : Hid (inI xs (kk : Int) = true) := hin
    clear hin
    have X8 := hideP (S8.out.row.ints S8.out.row.lt)
    go_wp2_with fail
    refine (l2Has_is true _ (l + 1) cap' xs (kk : Int) _ (by omega) HL.out X8.out HI2.out).mono ?_
    rintro e w9 ⟨rfl, hb9⟩
    have S9 := hideP (S8.out.next hb9)
    clear hb9 ck S8 X8
    go_wp2_with fail
    refine (pick_any R bo bn bcap (q + 1) 6 _ S9.out.rd (by omega)).mono ?_
    rintro e wp ⟨y, rfl, y0, y6, hrp, htp⟩
    have Sp := hideP (S9.out.pick htp hrp)
    clear hrp htp S9
    by_cases hy : y = 0
    · subst hy
      have bo1 := below_one wp (.cells #[.int .i64 (kk : Int)] 3)
      have R1 := hideP (Sp.out.row.next bo1)
      have Q1 := hideP (Sp.out.next bo1)
      clear bo1
      go_wp2_with (at_builtin; refine wpList_append_rowZ _ rfl _ _ 30 rfl (w.heap.size + 1) 3 i0 Try.underlying30 HI.out.1 HI.out.2.1 HI.out.2.2.1 HI.out.2.2.2 g off cap' xs (l + 1) HL.out rfl R1.out wp.heap.size (kk : Int) rfl ?d1 ?d2 ?d3 ?d4)
      · rw [World.cell?_alloc_at _ _ _ _ rfl]; rfl
      · rw [HL.out]; omega
      · exact Q1.out.lt
      intro g' off' cap'' wa hRa hga hta
      have Sa := hideP (Q1.out.app hta hRa)
      clear hRa hga hta
      go_wp2
      go_roundw
      case rel => exact ⟨j - 1, g', off', cap'', q + 1 + 1, xs ++ [(kk : Int)], by congr 1; omega, by omega, by simp [HL.out], by simp, by simp [HL.out]; omega, by omega, Sa.out⟩
      case measure => simp [intOf]; omega
    · have hy1 : (0 : Int) < y := by omega
      go_wp2
      go_roundw
      case rel => exact ⟨j - 1, g, off, cap', q + 1 + 1, xs, by congr 1; omega, by omega, by simp [HL.out], by rw [HL.out]; omega, by rw [HL.out]; omega, by omega, Sp.out⟩
      case measure => simp [intOf]; omega

end Go.Proofs.Ytljnjpjnadlmhaa
