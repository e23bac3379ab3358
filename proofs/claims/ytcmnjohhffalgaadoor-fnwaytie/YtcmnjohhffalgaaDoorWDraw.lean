/- What a law draws: some net of memory of its own, and numbers. -/
import Derived.Deep.RegionHeld3
import Derived.Test.YtcmnjohhffalgaaDoorWTied2
namespace Go.Proofs.YtcmnjohhffalgaaDoor
open Go.RowKit
set_option linter.unusedVariables false

theorem Turned.toBelow {lo hi B : Nat} {w w' : World} (h : Turned lo hi w w') (hB : B ≤ lo) (hl : lo ≤ w.heap.size) : Below B w w' :=
  ⟨h.os, h.tape, h.output, h.size, fun k hk => h.block k (by omega) (Or.inl (by omega))⟩
/-- a net was drawn since w, and nothing that was there has turned -/
structure Dealt (w w' : World) (K : Int) (ao : Option Addr) (us : List (Int × Int)) : Prop where
  own : OwnN w' w.heap.size w'.heap.size ao us.length (tcell us)
  lo : -1 ≤ K
  hi : K ≤ 9
  short : us.length ≤ 66
  bel : Below w.heap.size w w'
theorem Dealt.end {w w1 w2 : World} {R : Nat} {bo : Option Addr} {bn bcap p q : Nat} {K : Int} {ao : Option Addr} {us : List (Int × Int)} (h : AnyNet w1 w2 R bo bn bcap p q K ao us) (hb : Below w.heap.size w w1) (hR : w.heap.size ≤ R) (hl : R < w1.heap.size) (h0 : w.heap.size < w1.heap.size) (u0 u1 : Value) :
    Dealt w ((w2.setCell ⟨w.heap.size, 0, none⟩ u0).setCell ⟨w.heap.size, 1, none⟩ u1) K ao us := by
  obtain ⟨_, ht, ho, k0, k9, l66⟩ := h
  have hsz : ((w2.setCell ⟨w.heap.size, 0, none⟩ u0).setCell ⟨w.heap.size, 1, none⟩ u1).heap.size = w2.heap.size := by simp [World.setCell]
  refine ⟨?_, k0, k9, l66, ((hb.trans (ht.toBelow hR (Nat.le_of_lt hl))).setCell (Nat.le_refl _) _).setCell (Nat.le_refl _) _⟩
  rw [hsz]
  exact ((ho.far (Or.inl h0) _).far (Or.inl h0) _).down (Nat.le_of_lt h0)
theorem Cel.below {w w' : World} {A B : Nat} {K : Int} {v : Value} (h : Cel w A K v) (hb : Below B w w') (hA : A < B) : Cel w' A K v :=
  ⟨(hb.cell (p := ⟨A, 0, none⟩) hA).trans h.c0, (hb.cell (p := ⟨A, 1, none⟩) hA).trans h.c1, (hb.frozen (p := ⟨A, 0, none⟩) hA).trans h.f0, (hb.frozen (p := ⟨A, 1, none⟩) hA).trans h.f1, Nat.lt_of_lt_of_le h.lt hb.size⟩
theorem Cel.turn' {w w' : World} {A R : Nat} {K : Int} {v : Value} (h : Cel w A K v) (ht : Turned R (R + 1) w w') (hA : A < R) : Cel w' A K v :=
  ⟨(ht.cell (p := ⟨A, 0, none⟩) h.lt (Or.inl hA)).trans h.c0, (ht.cell (p := ⟨A, 1, none⟩) h.lt (Or.inl hA)).trans h.c1, (ht.frozen (p := ⟨A, 0, none⟩) h.lt (Or.inl hA)).trans h.f0, (ht.frozen (p := ⟨A, 1, none⟩) h.lt (Or.inl hA)).trans h.f1, Nat.lt_of_lt_of_le h.lt ht.size⟩


set_option maxHeartbeats 400000 in
theorem drawNetCut_any (bo : Option Addr) (n cap : Nat) (w : World) (hb : BytesIn w bo n) (hnil : bo = none → n = 0 ∧ cap = 0) (hc : n ≤ cap) (hm : cap ≤ maxLen) :
    Calls Tryd.prog 24 #[.slice bo n cap] w fun e w' => ∃ K ao cap' us a b, e = .returned (.tuple #[.agg #[.int .i64 K, .slice ao us.length cap'], .int .i64 a, .int .i64 b]) ∧ Dealt w w' K ao us := by
  go_enter Tryd.func24, Tryd.ntmps24
  go_wp2_with fail
  refine (l6Open_any bo n cap _ (fun i hi => by obtain ⟨b, off, v, e, h1, h2, h3⟩ := hb i hi; exact ⟨b, off, v, e, Nat.lt_of_lt_of_le h1 (by simp), by rw [World.cell?_alloc_past _ _ _ h1]; exact h2, h3⟩) hnil hc hm).mono ?_
  rintro e w1 ⟨rfl, ⟨bn, bcap, rd⟩, hb1⟩
  have hb1' : Below (w.heap.size + 1) (w.alloc (.cells #[.int .i64 0, .slice none 0 0] 25)) w1 := by simpa using hb1
  have C1 := hideP ((Cel.new w 0 (.slice none 0 0) 25).below hb1' (Nat.lt_succ_self _))
  have hB1 := hideP ((below_one w (.cells #[.int .i64 0, .slice none 0 0] 25)).trans (hb1'.mono (Nat.le_succ _)))
  have rd' : Rdr w1 (w.heap.size + 1) bo bn bcap 0 := by simpa using rd
  have hR := rd'.lt
  clear hb1 hb1' rd
  go_wp2_with fail
  refine (l71Tied_any (w.heap.size + 1) bo bn bcap 0 _ rd' (by omega)).mono ?_
  rintro e w2 ⟨K, ao, cap', us, a, b, rfl, A2⟩
  have C2 := hideP (C1.out.turn' A2.2.1 (by omega))
  have r0 := C2.out.c0
  have r1 := C2.out.c1
  have g0 := C2.out.f0
  have g1 := C2.out.f1
  have F := hideP (fun u0 u1 => Dealt.end A2 hB1.out (Nat.le_succ _) hR (by omega) u0 u1)
  clear A2
  go_wp2
  refine bodyPost_ret (v := .tuple #[.agg #[.int .i64 K, .slice ao us.length cap'], .int .i64 a, .int .i64 b]) ?_ rfl ⟨K, ao, cap', us, a, b, rfl, F.out _ _⟩
  simp [results, Tryd.results24, go_sem, r0, r1]

set_option maxHeartbeats 400000 in
theorem drawNetAdd_any (bo : Option Addr) (n cap : Nat) (w : World) (hb : BytesIn w bo n) (hnil : bo = none → n = 0 ∧ cap = 0) (hc : n ≤ cap) (hm : cap ≤ maxLen) :
    Calls Tryd.prog 20 #[.slice bo n cap] w fun e w' => ∃ K ao cap' us a b, e = .returned (.tuple #[.agg #[.int .i64 K, .slice ao us.length cap'], .int .i64 a, .int .i64 b]) ∧ Dealt w w' K ao us := by
  go_enter Tryd.func20, Tryd.ntmps20
  go_wp2_with fail
  refine (l6Open_any bo n cap _ (fun i hi => by obtain ⟨b, off, v, e, h1, h2, h3⟩ := hb i hi; exact ⟨b, off, v, e, Nat.lt_of_lt_of_le h1 (by simp), by rw [World.cell?_alloc_past _ _ _ h1]; exact h2, h3⟩) hnil hc hm).mono ?_
  rintro e w1 ⟨rfl, ⟨bn, bcap, rd⟩, hb1⟩
  have hb1' : Below (w.heap.size + 1) (w.alloc (.cells #[.int .i64 0, .slice none 0 0] 25)) w1 := by simpa using hb1
  have C1 := hideP ((Cel.new w 0 (.slice none 0 0) 25).below hb1' (Nat.lt_succ_self _))
  have hB1 := hideP ((below_one w (.cells #[.int .i64 0, .slice none 0 0] 25)).trans (hb1'.mono (Nat.le_succ _)))
  have rd' : Rdr w1 (w.heap.size + 1) bo bn bcap 0 := by simpa using rd
  have hR := rd'.lt
  clear hb1 hb1' rd
  go_wp2_with fail
  refine (l71Pair_any (w.heap.size + 1) bo bn bcap 0 _ rd' (by omega)).mono ?_
  rintro e w2 ⟨K, ao, cap', us, a, b, rfl, _, _, _, _, A2⟩
  have C2 := hideP (C1.out.turn' A2.2.1 (by omega))
  have r0 := C2.out.c0
  have r1 := C2.out.c1
  have g0 := C2.out.f0
  have g1 := C2.out.f1
  have F := hideP (fun u0 u1 => Dealt.end A2 hB1.out (Nat.le_succ _) hR (by omega) u0 u1)
  clear A2
  go_wp2
  refine bodyPost_ret (v := .tuple #[.agg #[.int .i64 K, .slice ao us.length cap'], .int .i64 a, .int .i64 b]) ?_ rfl ⟨K, ao, cap', us, a, b, rfl, F.out _ _⟩
  simp [results, Tryd.results20, go_sem, r0, r1]
set_option maxHeartbeats 400000 in
theorem drawNetWithout_any (bo : Option Addr) (n cap : Nat) (w : World) (hb : BytesIn w bo n) (hnil : bo = none → n = 0 ∧ cap = 0) (hc : n ≤ cap) (hm : cap ≤ maxLen) :
    Calls Tryd.prog 27 #[.slice bo n cap] w fun e w' => ∃ K ao cap' us k, e = .returned (.tuple #[.agg #[.int .i64 K, .slice ao us.length cap'], .int .i64 k]) ∧ -1 ≤ k ∧ k ≤ 9 ∧ Dealt w w' K ao us := by
  go_enter Tryd.func27, Tryd.ntmps27
  go_wp2_with fail
  refine (l6Open_any bo n cap _ (fun i hi => by obtain ⟨b, off, v, e, h1, h2, h3⟩ := hb i hi; exact ⟨b, off, v, e, Nat.lt_of_lt_of_le h1 (by simp), by rw [World.cell?_alloc_past _ _ _ h1]; exact h2, h3⟩) hnil hc hm).mono ?_
  rintro e w1 ⟨rfl, ⟨bn, bcap, rd⟩, hb1⟩
  have hb1' : Below (w.heap.size + 1) (w.alloc (.cells #[.int .i64 0, .slice none 0 0] 25)) w1 := by simpa using hb1
  have C1 := hideP ((Cel.new w 0 (.slice none 0 0) 25).below hb1' (Nat.lt_succ_self _))
  have hB1 := hideP ((below_one w (.cells #[.int .i64 0, .slice none 0 0] 25)).trans (hb1'.mono (Nat.le_succ _)))
  have rd' : Rdr w1 (w.heap.size + 1) bo bn bcap 0 := by simpa using rd
  have hR := rd'.lt
  clear hb1 hb1' rd
  go_wp2_with fail
  refine (l71Any_any (w.heap.size + 1) bo bn bcap 0 _ rd' (by omega)).mono ?_
  rintro e w2 ⟨K, ao, cap', us, rfl, A2⟩
  obtain ⟨p2, hp2, rd2⟩ := A2.1
  have hK := A2.2.2.2
  have hw12 := A2.2.1.size
  have C2 := hideP ((C1.out.turn' A2.2.1 (by omega)).turn' (turned_one w2 (.cells #[.int .i64 K, .slice ao us.length cap'] 25)) (Nat.lt_succ_self _))
  have N2 := hideP (Cel.new w2 K (.slice ao us.length cap') 25)
  have B2 := hideP (A2.next hR (below_one w2 (.cells #[.int .i64 K, .slice ao us.length cap'] 25)))
  have R2 := hideP (rd2.next (below_one w2 (.cells #[.int .i64 K, .slice ao us.length cap'] 25)))
  clear A2 rd2 C1 rd'
  have R2d := hideP (R2.out.next (Below.refl _ _).drew)
  have hRA : w.heap.size + 1 < w2.heap.size := Nat.lt_of_lt_of_le hR hw12
  go_wp2_with fail
  go_region_held3 (fun w' => w'.cell? ⟨w2.heap.size, 0, none⟩ = some (.int .i64 K) ∧ w'.cell? ⟨w2.heap.size, 1, none⟩ = some (.slice ao us.length cap')) (first | exact ⟨N2.out.c0, N2.out.c1⟩ | exact ⟨N3.out.c0, N3.out.c1⟩ | exact ⟨((N3.out.set (by show w2.heap.size ≠ w.heap.size; omega) _).set (by show w2.heap.size ≠ w.heap.size; omega) _).c0, ((N3.out.set (by show w2.heap.size ≠ w.heap.size; omega) _).set (by show w2.heap.size ≠ w.heap.size; omega) _).c1⟩) (first | (go_at_call 48; refine (l71Knot_any (w.heap.size + 1) bo bn bcap p2 K _ _ R2d.out (by omega) ⟨hK.1, hK.2.1⟩).mono ?_; rintro e w3 ⟨k, rfl, k0, k9, st3, tr3⟩; have N3 := hideP (N2.out.drew.turn tr3 hRA); have C3 := hideP (C2.out.drew.turn' tr3 (Nat.lt_succ_self _)); have r0 := C3.out.c0; have r1 := C3.out.c1; have g0 := C3.out.f0; have g1 := C3.out.f1; obtain ⟨p3, hp3, rd3⟩ := st3; have A3 := hideP ((B2.out.next hR (Below.refl _ _).drew).turn (q' := 80) hR ⟨p3, by omega, rd3⟩ tr3); clear rd3 tr3))
  have F := hideP (fun u0 u1 => Dealt.end A3.out hB1.out (Nat.le_succ _) hR (by omega) u0 u1)
  go_wp2
  refine bodyPost_ret (v := .tuple #[.agg #[.int .i64 K, .slice ao us.length cap'], .int .i64 k]) ?_ rfl ⟨K, ao, cap', us, k, rfl, k0, k9, F.out _ _⟩
  simp [results, Tryd.results27, go_sem, r0, r1]

end Go.Proofs.YtcmnjohhffalgaaDoor
