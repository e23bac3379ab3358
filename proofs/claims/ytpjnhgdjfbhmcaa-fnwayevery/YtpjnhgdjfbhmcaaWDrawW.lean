/- What laws.FnWayOk draws: some net and what may be a way, of memory of their own. -/
import Derived.Test.YtpjnhgdjfbhmcaaWAny
import Derived.Test.YtpjnhgdjfbhmcaaWWalk
import Derived.Deep.RegionWith
namespace Go.Proofs.Ytpjnhgdjfbhmcaa
open Go.RowKit
set_option linter.unusedVariables false

theorem Turned.toBelowW {lo hi B : Nat} {w w' : World} (h : Turned lo hi w w') (hB : B ≤ lo) (hl : lo ≤ w.heap.size) : Below B w w' :=
  ⟨h.os, h.tape, h.output, h.size, fun k hk => h.block k (by omega) (Or.inl (by omega))⟩
theorem Cel.belowW {w w' : World} {A B : Nat} {K : Int} {v : Value} (h : Cel w A K v) (hb : Below B w w') (hA : A < B) : Cel w' A K v :=
  ⟨(hb.cell (p := ⟨A, 0, none⟩) hA).trans h.c0, (hb.cell (p := ⟨A, 1, none⟩) hA).trans h.c1, (hb.frozen (p := ⟨A, 0, none⟩) hA).trans h.f0, (hb.frozen (p := ⟨A, 1, none⟩) hA).trans h.f1, Nat.lt_of_lt_of_le h.lt hb.size⟩
theorem Cel.turnW {w w' : World} {A R : Nat} {K : Int} {v : Value} (h : Cel w A K v) (ht : Turned R (R + 1) w w') (hA : A < R) : Cel w' A K v :=
  ⟨(ht.cell (p := ⟨A, 0, none⟩) h.lt (Or.inl hA)).trans h.c0, (ht.cell (p := ⟨A, 1, none⟩) h.lt (Or.inl hA)).trans h.c1, (ht.frozen (p := ⟨A, 0, none⟩) h.lt (Or.inl hA)).trans h.f0, (ht.frozen (p := ⟨A, 1, none⟩) h.lt (Or.inl hA)).trans h.f1, Nat.lt_of_lt_of_le h.lt ht.size⟩
/-- a net and a row of numbers were drawn since w, and nothing that was there has turned -/
structure DealtW (w w' : World) (K : Int) (ao : Option Addr) (us : List (Int × Int)) (g off cap : Nat) (xs : List Int) : Prop where
  own : OwnN w' w.heap.size w'.heap.size ao us.length (tcell us)
  lo : -1 ≤ K
  hi : K ≤ 9
  short : us.length ≤ 66
  row : RowZ w' w.heap.size g off cap xs
  few : xs.length ≤ 8
  bel : Below w.heap.size w w'

theorem DealtW.fin {w w1 w2 W w4 : World} {R : Nat} {K : Int} {ao : Option Addr} {us : List (Int × Int)} {g off cap : Nat} {xs : List Int} (hB : Below w.heap.size w w1) (hR : R < w1.heap.size) (hwR : w.heap.size < R) (ht : Turned R (R + 1) w1 w2) (ho : OwnN w2 w1.heap.size w2.heap.size ao us.length (tcell us))
    (hk : -1 ≤ K ∧ K ≤ 9 ∧ us.length ≤ 66) (hb : Below w2.heap.size w2 W) (ht4 : Turned R (R + 1) W w4) (hrow : RowZ w4 W.heap.size g off cap xs) (hf : xs.length ≤ 8) (u0 u1 : Value) :
    DealtW w ((w4.setCell ⟨w.heap.size, 0, none⟩ u0).setCell ⟨w.heap.size, 1, none⟩ u1) K ao us g off cap xs := by
  have hsz : ((w4.setCell ⟨w.heap.size, 0, none⟩ u0).setCell ⟨w.heap.size, 1, none⟩ u1).heap.size = w4.heap.size := by simp [World.setCell]
  have s12 := ht.size
  have s23 := hb.size
  have s34 := ht4.size
  have o2 : OwnN W w1.heap.size W.heap.size ao us.length (tcell us) := (ho.aside (turned_below (lo := 0) (hi := 0) hb) (Or.inr (Nat.zero_le _))).up s23
  have o4 : OwnN w4 w1.heap.size w4.heap.size ao us.length (tcell us) := (o2.aside ht4 (Or.inr (by omega))).up s34
  have bel : Below w.heap.size w w4 := ((hB.trans (ht.toBelowW (Nat.le_of_lt hwR) (Nat.le_of_lt hR))).trans (hb.mono (by omega))).trans (ht4.toBelowW (Nat.le_of_lt hwR) (by omega))
  have hg := hrow.lo
  refine ⟨?_, hk.1, hk.2.1, hk.2.2, (hrow.down (by omega)).same ?_ (by rw [hsz]; exact Nat.le_refl _), hf, (bel.setCell (Nat.le_refl _) _).setCell (Nat.le_refl _) _⟩
  · rw [hsz]
    exact ((o4.far (Or.inl (by show w.heap.size < w1.heap.size; omega)) _).far (Or.inl (by show w.heap.size < w1.heap.size; omega)) _).down (by omega)
  · exact (Below.heap_setCell _ _ _ _ (by show g ≠ w.heap.size; omega)).trans (Below.heap_setCell _ _ _ _ (by show g ≠ w.heap.size; omega))

set_option maxHeartbeats 400000 in
theorem drawWayOk_any (bo : Option Addr) (n cap : Nat) (w : World) (hb : BytesIn w bo n) (hnil : bo = none → n = 0 ∧ cap = 0) (hc : n ≤ cap) (hm : cap ≤ maxLen) :
    Calls Try.prog 4 #[.slice bo n cap] w fun e w' => ∃ K ao cap' us g off cap2 xs, e = .returned (.tuple #[.agg #[.int .i64 K, .slice ao us.length cap'], .slice (some ⟨g, off, none⟩) xs.length cap2]) ∧ DealtW w w' K ao us g off cap2 xs := by
  go_enter Try.func4, Try.ntmps4
  go_wp2_with fail
  refine (l6Open_any bo n cap _ (fun i hi => by obtain ⟨b, off, v, e, h1, h2, h3⟩ := hb i hi; exact ⟨b, off, v, e, Nat.lt_of_lt_of_le h1 (by simp), by rw [World.cell?_alloc_past _ _ _ h1]; exact h2, h3⟩) hnil hc hm).mono ?_
  rintro e w1 ⟨rfl, ⟨bn, bcap, rd⟩, hb1⟩
  have hb1' : Below (w.heap.size + 1) (w.alloc (.cells #[.int .i64 0, .slice none 0 0] 25)) w1 := by simpa using hb1
  have C1 := hideP ((Cel.new w 0 (.slice none 0 0) 25).belowW hb1' (Nat.lt_succ_self _))
  have hB1 := hideP ((below_one w (.cells #[.int .i64 0, .slice none 0 0] 25)).trans (hb1'.mono (Nat.le_succ _)))
  have rd' : Rdr w1 (w.heap.size + 1) bo bn bcap 0 := by simpa using rd
  have hR := rd'.lt
  clear hb1 hb1' rd
  go_wp2_with fail
  refine (l71Any_any (w.heap.size + 1) bo bn bcap 0 _ rd' (by omega)).mono ?_
  rintro e w2 ⟨K, ao, cap', us, rfl, A2⟩
  obtain ⟨⟨p2, hp2, rd2⟩, ht2, ho2, k0, k9, l66⟩ := A2
  have C2 := hideP (C1.out.turnW ht2 (by omega))
  have bo3 := below_one w2 (.cells #[.int .i64 K, .slice ao us.length cap'] 25)
  have C3 := hideP (C2.out.belowW bo3 C2.out.lt)
  have N3 := hideP (Cel.new w2 K (.slice ao us.length cap') 25)
  have RD : Hid (Rdr (w2.alloc (.cells #[.int .i64 K, .slice ao us.length cap'] 25)).drew (w.heap.size + 1) bo bn bcap p2) := rd2.next bo3.drew
  have TI : Hid (TiesIn (w2.alloc (.cells #[.int .i64 K, .slice ao us.length cap'] 25)).drew (w2.alloc (.cells #[.int .i64 K, .slice ao us.length cap'] 25)).drew.heap.size ao us) := ((ho2.ties (Nat.le_refl _)).below bo3.drew (Nat.le_refl _)).wide bo3.drew.size
  have TR : Hid (∀ j, j < us.length → ∀ b off, ao = some ⟨b, off, none⟩ → b ≠ w.heap.size + 1) := by
    intro j hj b off e
    rcases ho2 with ⟨h0, _⟩ | ⟨g, e', h1, h2, h3⟩
    · omega
    · rw [e'] at e; cases e; omega
  have F : Hid (∀ (w4 : World) (g off cap2 : Nat) (xs : List Int), Turned (w.heap.size + 1) (w.heap.size + 1 + 1) (w2.alloc (.cells #[.int .i64 K, .slice ao us.length cap'] 25)).drew w4 → RowZ w4 (w2.alloc (.cells #[.int .i64 K, .slice ao us.length cap'] 25)).drew.heap.size g off cap2 xs → xs.length ≤ 8 → ∀ u0 u1, DealtW w ((w4.setCell ⟨w.heap.size, 0, none⟩ u0).setCell ⟨w.heap.size, 1, none⟩ u1) K ao us g off cap2 xs) :=
    fun w4 g off cap2 xs t4 r4 f4 u0 u1 => DealtW.fin hB1.out hR (Nat.lt_succ_self _) ht2 ho2 ⟨k0, k9, l66⟩ bo3.drew t4 r4 f4 u0 u1
  have hs2 : w.heap.size + 1 < w2.heap.size := Nat.lt_of_lt_of_le hR ht2.size
  have G : Hid (∀ w4 : World, Turned (w.heap.size + 1) (w.heap.size + 1 + 1) (w2.alloc (.cells #[.int .i64 K, .slice ao us.length cap'] 25)).drew w4 → w4.cell? ⟨w2.heap.size, 0, none⟩ = some (.int .i64 K) ∧ w4.cell? ⟨w2.heap.size, 1, none⟩ = some (.slice ao us.length cap') ∧ w4.cell? ⟨w.heap.size, 0, none⟩ = some (.int .i64 0) ∧ w4.cell? ⟨w.heap.size, 1, none⟩ = some (.slice none 0 0) ∧ w4.frozen? ⟨w.heap.size, 0, none⟩ = false ∧ w4.frozen? ⟨w.heap.size, 1, none⟩ = false) := by
    intro w4 t4
    have t4' : Turned (w.heap.size + 1) (w.heap.size + 1 + 1) (w2.alloc (.cells #[.int .i64 K, .slice ao us.length cap'] 25)) w4 := ⟨t4.os, t4.tape, t4.output, t4.size, t4.block⟩
    have C4 := C3.out.turnW t4' (Nat.lt_succ_self _)
    have N4 := N3.out.turn t4' hs2
    exact ⟨N4.c0, N4.c1, C4.c0, C4.c1, C4.f0, C4.f1⟩
  clear ht2 ho2 rd2 bo3 C1 C2 rd' hB1
  have n0 := N3.out.c0
  have n1 := N3.out.c1
  have hKK : -1 ≤ K ∧ K ≤ 9 := ⟨k0, k9⟩
  have hul : us.length ≤ 1099511627776 := by omega
  have hp' : p2 ≤ 998000 := by omega
  clear C3 N3 k0 k9 l66 hp2
  go_wp2_with fail
  go_region_with (go_at_call 11; refine (l71Walk_any (w.heap.size + 1) bo bn bcap p2 K ao cap' us _ RD.out hp' hKK hul TI.out TR.out).mono ?_; rintro e w4 ⟨g, off, cap2, xs, rfl, hr4, hf4, ht4⟩; obtain ⟨m0, m1, r0, r1, g0, g1⟩ := G.out w4 ht4; have FF := hideP (F.out w4 g off cap2 xs ht4 hr4 hf4); clear ht4 hr4 hf4)
  all_goals
    go_wp2
    refine bodyPost_ret (v := .tuple #[.agg #[.int .i64 K, .slice ao us.length cap'], .slice (some ⟨g, off, none⟩) xs.length cap2]) ?_ rfl ⟨K, ao, cap', us, g, off, cap2, xs, rfl, FF.out _ _⟩
    simp [results, Try.results4, go_sem, r0, r1]

end Go.Proofs.Ytpjnhgdjfbhmcaa
