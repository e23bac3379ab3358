/- Walk of spec.DrawSideOdd. -/
import Derived.Test.YtiaeffpjcinilaaDoorWHalf
import Derived.Test.YtiaeffpjcinilaaDoorPartWSideOdd
namespace Go.Proofs.YtiaeffpjcinilaaDoor
open Go.RowKit
set_option linter.unusedVariables false

theorem specSideOdd_v (K : Int) (ao : Option Addr) (cap : Nat) (ts : List (Int × Int)) (w : World) (hn : ts.length ≤ 1099511627776) (ht : TiesIn w w.heap.size ao ts) :
    Calls Tryd.prog 23 #[.agg #[.int .i64 K, .slice ao ts.length cap]] w fun e w' => ∃ (v : Value) (b : Bool), e = .returned (.tuple #[v, .bool b]) ∧ Below w.heap.size w w' := by
  refine (specSideOdd_any K ao cap ts w hn ht).mono ?_
  rintro e w' ⟨g, off, cap', rfl, _, hb⟩
  exact ⟨_, _, rfl, hb⟩
/-- what stands while nets are drawn -/
structure Dso (w w1 wr : World) (R A : Nat) (bo : Option Addr) (bn bcap q : Nat) (K : Int) (ao : Option Addr) (cap : Nat) (us : List (Int × Int)) : Prop where
  a : AnyNet w1 wr R bo bn bcap 0 q K ao us
  C : Cel wr w.heap.size 0 (.slice none 0 0)
  N : Cel wr A K (.slice ao us.length cap)
  hA : w1.heap.size ≤ A
  hR : R < w1.heap.size
  hw : w.heap.size < R
theorem Dso.turn {w w1 wr w' : World} {R A : Nat} {bo : Option Addr} {bn bcap q q' : Nat} {K : Int} {ao : Option Addr} {cap : Nat} {us : List (Int × Int)} (h : Dso w w1 wr R A bo bn bcap q K ao cap us) (ht : Turned R (R + 1) wr w') (hs : Stepped w' R bo bn bcap 0 q') : Dso w w1 w' R A bo bn bcap q' K ao cap us := by
  have h1 := h.hA
  have h2 := h.hR
  exact ⟨h.a.turn h.hR hs ht, h.C.turn' ht h.hw, h.N.turn ht (by omega), h.hA, h.hR, h.hw⟩
theorem Dso.next {w w1 wr w' : World} {R A : Nat} {bo : Option Addr} {bn bcap q : Nat} {K : Int} {ao : Option Addr} {cap : Nat} {us : List (Int × Int)} (h : Dso w w1 wr R A bo bn bcap q K ao cap us) (hb : Below wr.heap.size wr w') : Dso w w1 w' R A bo bn bcap q K ao cap us :=
  ⟨h.a.next h.hR hb, h.C.below hb h.C.lt, h.N.below hb h.N.lt, h.hA, h.hR, h.hw⟩
theorem Dso.ties {w w1 wr : World} {R A : Nat} {bo : Option Addr} {bn bcap q : Nat} {K : Int} {ao : Option Addr} {cap : Nat} {us : List (Int × Int)} (h : Dso w w1 wr R A bo bn bcap q K ao cap us) : TiesIn wr wr.heap.size ao us := h.a.2.2.1.ties (Nat.le_refl _)
theorem Cel.other {w : World} {A : Nat} {K : Int} {v : Value} (h : Cel w A K v) {p : Addr} (hp : A ≠ p.block) (u : Value) : Cel (w.setCell p u) A K v := by
  have e : (w.setCell p u).heap[A]? = w.heap[A]? := Below.heap_setCell _ _ _ _ hp
  exact ⟨(World.cell?_of_block (a := ⟨A, 0, none⟩) e).trans h.c0, (World.cell?_of_block (a := ⟨A, 1, none⟩) e).trans h.c1, (World.frozen?_of_block (a := ⟨A, 0, none⟩) e).trans h.f0, (World.frozen?_of_block (a := ⟨A, 1, none⟩) e).trans h.f1, by simpa [World.setCell] using h.lt⟩
theorem Cel.put {w : World} {A : Nat} {K : Int} {v : Value} (h : Cel w A K v) (K' : Int) (v' : Value) : Cel ((w.setCell ⟨A, 0, none⟩ (.int .i64 K')).setCell ⟨A, 1, none⟩ v') A K' v' := by
  refine ⟨?_, ?_, ?_, ?_, by simpa [World.setCell] using h.lt⟩
  · rw [World.cell?_setCell_other _ _ _ _ (by simp)]; exact World.cell?_setCell_same w ⟨A, 0, none⟩ _ h.c0
  · exact World.cell?_setCell_same _ ⟨A, 1, none⟩ _ ((World.cell?_setCell_other _ _ _ _ (by simp)).trans h.c1)
  · rw [World.frozen?_setCell, World.frozen?_setCell]; exact h.f0
  · rw [World.frozen?_setCell, World.frozen?_setCell]; exact h.f1
/-- another net is stored -/
theorem Dso.put {w w1 wr w' : World} {R A : Nat} {bo : Option Addr} {bn bcap q q' p2 : Nat} {K K' : Int} {ao ao' : Option Addr} {cap : Nat} (cap' : Nat) {us us' : List (Int × Int)} (h : Dso w w1 wr R A bo bn bcap q K ao cap us) (n : AnyNet wr w' R bo bn bcap p2 60 K' ao' us') (hq : p2 + 60 ≤ q') :
    Dso w w1 ((w'.setCell ⟨A, 0, none⟩ (.int .i64 K')).setCell ⟨A, 1, none⟩ (.slice ao' us'.length cap')) R A bo bn bcap q' K' ao' cap' us' := by
  obtain ⟨⟨p', hp', hr⟩, ht, ho, k0, k9, l66⟩ := n
  have h1 := h.hA
  have h2 := h.hR
  have h3 := h.hw
  have h4 := h.N.lt
  have h5 := h.a.2.1.size
  have h6 := ht.size
  have hsz : ((w'.setCell ⟨A, 0, none⟩ (.int .i64 K')).setCell ⟨A, 1, none⟩ (.slice ao' us'.length cap')).heap.size = w'.heap.size := by simp [World.setCell]
  refine ⟨⟨⟨p', by omega, (hr.far (by show R < A; omega) _).far (by show R < A; omega) _⟩, ((h.a.2.1.trans ht).set (by show w1.heap.size ≤ A; omega) _).set (by show w1.heap.size ≤ A; omega) _, ?_, k0, k9, l66⟩, ?_, (h.N.turn ht (by omega)).put K' _, h.hA, h.hR, h.hw⟩
  · rw [hsz]
    exact ((ho.far (Or.inl (by show A < wr.heap.size; omega)) _).far (Or.inl (by show A < wr.heap.size; omega)) _).down (by omega)
  · exact ((h.C.turn' ht h.hw).other (by show w.heap.size ≠ A; omega) _).other (by show w.heap.size ≠ A; omega) _
set_option maxHeartbeats 1600000 in
theorem drawSideOdd_any (bo : Option Addr) (n cap : Nat) (w : World) (hb : BytesIn w bo n) (hnil : bo = none → n = 0 ∧ cap = 0) (hc : n ≤ cap) (hm : cap ≤ maxLen) :
    Calls Tryd.prog 22 #[.slice bo n cap] w fun e w' => ∃ K ao cap' us, e = .returned (.agg #[.int .i64 K, .slice ao us.length cap']) ∧ Dealt w w' K ao us := by
  go_enter Tryd.func22, Tryd.ntmps22
  go_wp2_with fail
  refine (l6Open_any bo n cap _ (fun i hi => by obtain ⟨b, off, v, e, h1, h2, h3⟩ := hb i hi; exact ⟨b, off, v, e, Nat.lt_of_lt_of_le h1 (by simp), by rw [World.cell?_alloc_past _ _ _ h1]; exact h2, h3⟩) hnil hc hm).mono ?_
  rintro e w1 ⟨rfl, ⟨bn, bcap, rd⟩, hb1⟩
  have hb1' : Below (w.heap.size + 1) (w.alloc (.cells #[.int .i64 0, .slice none 0 0] 25)) w1 := by simpa using hb1
  have C1 := hideP ((Cel.new w 0 (.slice none 0 0) 25).below hb1' (Nat.lt_succ_self _))
  have hB1 := hideP ((below_one w (.cells #[.int .i64 0, .slice none 0 0] 25)).trans (hb1'.mono (Nat.le_succ _)))
  have rd' : Rdr w1 (w.heap.size + 1) bo bn bcap 0 := by simpa using rd
  have hR := rd'.lt
  clear hb1 hb1' rd
  go_wp2_with fail
  refine (l71Half_any (w.heap.size + 1) bo bn bcap 0 _ rd' (by omega)).mono ?_
  rintro e w2 ⟨K, ao, cap', us, rfl, A2⟩
  have D2 := hideP (show Dso w w1 (w2.alloc (.cells #[.int .i64 K, .slice ao us.length cap'] 25)) (w.heap.size + 1) w2.heap.size bo bn bcap 70 K ao cap' us from ⟨A2.next hR (below_one _ _), (C1.out.turn' A2.2.1 (by omega)).below (below_one _ _) (Nat.lt_of_lt_of_le C1.out.lt A2.2.1.size), Cel.new w2 K _ _, A2.2.1.size, hR, by omega⟩)
  obtain ⟨A, hAA⟩ : ∃ A, A = w2.heap.size := ⟨_, rfl⟩
  rw [← hAA] at D2
  have FIN : Hid (∀ (wr : World) (q : Nat) (K : Int) (ao : Option Addr) (cap : Nat) (us : List (Int × Int)), Dso w w1 wr (w.heap.size + 1) A bo bn bcap q K ao cap us → ∀ u0 u1, Dealt w ((wr.setCell ⟨w.heap.size, 0, none⟩ u0).setCell ⟨w.heap.size, 1, none⟩ u1) K ao us) := hideP (fun wr q K ao cap us h u0 u1 => Dealt.end h.a hB1.out (Nat.le_of_lt h.hw) h.hR (by have := h.hw; have := h.hR; omega) u0 u1)
  clear A2
  have HAA := hideP hAA
  clear C1 hR rd' hB1 hAA
  go_wp2
  rw [← HAA.out]
  go_loopw [5] (fun iv wr => ∃ (i q : Nat) (K : Int) (ao : Option Addr) (cap' : Nat) (us : List (Int × Int)), i ≤ 8 ∧ iv = .int .i64 (i : Int) ∧ q ≤ 70 + 61 * i ∧ Dso w w1 wr (w.heap.size + 1) A bo bn bcap q K ao cap' us) (fun iv _ => 8 - (intOf iv).toNat)
  case atStart => exact ⟨0, 70, _, _, _, _, by omega, rfl, by omega, D2.out⟩
  case round =>
    clear D2
    obtain ⟨i, q, K, ao, cap', us, hi, rfl, hq, hD⟩ := hrel
    have D := hideP hD
    clear hD
    by_cases hlt : i < 8
    · have hi1 : (i : Int) < 8 := by omega
      obtain ⟨p', hp', hr⟩ := D.out.a.1
      go_wp2_with fail
      refine (pick_any (w.heap.size + 1) bo bn bcap p' 6 _ hr (by omega)).mono ?_
      rintro e w5 ⟨z, rfl, z0, z1, rd5, tr5⟩
      have D5 := hideP (D.out.turn (q' := q + 1) tr5 ⟨p' + 1, by omega, rd5⟩)
      clear D hr tr5 z1
      by_cases hz : z = 0
      · subst hz
        have n0 := D5.out.N.c0
        have n1 := D5.out.N.c1
        have r0 := D5.out.C.c0
        have r1 := D5.out.C.c1
        have g0 := D5.out.C.f0
        have g1 := D5.out.C.f1
        have F := hideP (fun u0 u1 => FIN.out _ _ _ _ _ _ D5.out u0 u1)
        clear D5
        go_wp2
        refine bodyPost_ret (v := .agg #[.int .i64 K, .slice ao us.length cap']) ?_ rfl ⟨K, ao, cap', us, rfl, F.out _ _⟩
        simp [results, Tryd.results22, go_sem, r0, r1]
      · have hzp : (0 : Int) < z := by omega
        go_wp2_with fail
        refine (l71Any_any (w.heap.size + 1) bo bn bcap (p' + 1) _ rd5 (by omega)).mono ?_
        rintro e w6 ⟨K6, ao6, cap6, us6, rfl, A6⟩
        have n0 := (D5.out.N.turn A6.2.1 (by have := D5.out.hA; have := D5.out.hR; omega)).c0
        have n1 := (D5.out.N.turn A6.2.1 (by have := D5.out.hA; have := D5.out.hR; omega)).c1
        have f0 := (D5.out.N.turn A6.2.1 (by have := D5.out.hA; have := D5.out.hR; omega)).f0
        have f1 := (D5.out.N.turn A6.2.1 (by have := D5.out.hA; have := D5.out.hR; omega)).f1
        have l66 := A6.2.2.2.2.2
        have D7 := hideP (D5.out.put cap6 (q' := q + 61) A6 (by omega))
        clear D5 A6 rd5
        go_wp2_with fail
        refine (specSideOdd_v K6 ao6 cap6 us6 _ (by omega) D7.out.ties).mono ?_
        rintro e w8 ⟨v8, b8, rfl, hb8⟩
        have D8 := hideP (D7.out.next hb8)
        clear D7 hb8 n0 n1 f0 f1
        cases b8 with
        | true =>
          have n0 := D8.out.N.c0
          have n1 := D8.out.N.c1
          have r0 := D8.out.C.c0
          have r1 := D8.out.C.c1
          have g0 := D8.out.C.f0
          have g1 := D8.out.C.f1
          have F := hideP (fun u0 u1 => FIN.out _ _ _ _ _ _ D8.out u0 u1)
          clear D8
          go_wp2
          refine bodyPost_ret (v := .agg #[.int .i64 K6, .slice ao6 us6.length cap6]) ?_ rfl ⟨K6, ao6, cap6, us6, rfl, F.out _ _⟩
          simp [results, Tryd.results22, go_sem, r0, r1]
        | false =>
          go_wp2
          exact ⟨⟨i + 1, q + 61, K6, ao6, cap6, us6, by omega, by go_num, by omega, D8.out⟩, by simp [intOf]; omega⟩
    · obtain rfl : i = 8 := by omega
      have n0 := D.out.N.c0
      have n1 := D.out.N.c1
      have r0 := D.out.C.c0
      have r1 := D.out.C.c1
      have g0 := D.out.C.f0
      have g1 := D.out.C.f1
      have F := hideP (fun u0 u1 => FIN.out _ _ _ _ _ _ D.out u0 u1)
      clear D
      go_wp2
      refine bodyPost_ret (v := .agg #[.int .i64 K, .slice ao us.length cap']) ?_ rfl ⟨K, ao, cap', us, rfl, F.out _ _⟩
      simp [results, Tryd.results22, go_sem, r0, r1]

end Go.Proofs.YtiaeffpjcinilaaDoor
