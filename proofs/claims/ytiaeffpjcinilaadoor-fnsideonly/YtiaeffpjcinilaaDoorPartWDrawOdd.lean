/- Texts put together: WDrawOdd, WDrawSk. -/
import Derived.Test.YtiaeffpjcinilaaDoorWHalf
import Derived.Test.YtiaeffpjcinilaaDoorPartWSideOdd
import Derived.Test.YtiaeffpjcinilaaDoorPartWWayOk2
/- Walk of spec.DrawSideOdd. -/
namespace Go.Proofs.YtiaeffpjcinilaaDoor
open Go.RowKit
set_option linter.unusedVariables false

theorem specSideOdd_v (K : Int) (ao : Option Addr) (cap : Nat) (ts : List (Int × Int)) (w : World) (hn : ts.length ≤ 1099511627776) (ht : TiesIn w w.heap.size ao ts) :
    Calls Tryd.prog 23 #[.agg #[.int .i64 K, .slice ao ts.length cap]] w fun e w' => ∃ (v : Value) (b : Bool), e = .returned (.tuple #[v, .bool b]) ∧ Below w.heap.size w w' := by
  refine (specSideOdd_any K ao cap ts w hn ht).mono ?_
  rintro e w' ⟨g, off, cap', rfl, _, hb⟩
  exact ⟨_, _, rfl, hb⟩
/-- what stands while nets are drawn -/
structure Dso (w w1 wr : World) (R A : Nat) (bo : Option Addr) (bn bcap q : Nat) (K : Int) (ao : Option Addr) (cap : Nat) (us : List (Int × Int)) : Prop where
  a : AnyNet w1 wr R bo bn bcap 0 q K ao us
  C : Cel wr w.heap.size 0 (.slice none 0 0)
  N : Cel wr A K (.slice ao us.length cap)
  hA : w1.heap.size ≤ A
  hR : R < w1.heap.size
  hw : w.heap.size < R
theorem Dso.turn {w w1 wr w' : World} {R A : Nat} {bo : Option Addr} {bn bcap q q' : Nat} {K : Int} {ao : Option Addr} {cap : Nat} {us : List (Int × Int)} (h : Dso w w1 wr R A bo bn bcap q K ao cap us) (ht : Turned R (R + 1) wr w') (hs : Stepped w' R bo bn bcap 0 q') : Dso w w1 w' R A bo bn bcap q' K ao cap us := by
  have h1 := h.hA
  have h2 := h.hR
  exact ⟨h.a.turn h.hR hs ht, h.C.turn' ht h.hw, h.N.turn ht (by omega), h.hA, h.hR, h.hw⟩
theorem Dso.next {w w1 wr w' : World} {R A : Nat} {bo : Option Addr} {bn bcap q : Nat} {K : Int} {ao : Option Addr} {cap : Nat} {us : List (Int × Int)} (h : Dso w w1 wr R A bo bn bcap q K ao cap us) (hb : Below wr.heap.size wr w') : Dso w w1 w' R A bo bn bcap q K ao cap us :=
  ⟨h.a.next h.hR hb, h.C.below hb h.C.lt, h.N.below hb h.N.lt, h.hA, h.hR, h.hw⟩
theorem Dso.ties {w w1 wr : World} {R A : Nat} {bo : Option Addr} {bn bcap q : Nat} {K : Int} {ao : Option Addr} {cap : Nat} {us : List (Int × Int)} (h : Dso w w1 wr R A bo bn bcap q K ao cap us) : TiesIn wr wr.heap.size ao us := h.a.2.2.1.ties (Nat.le_refl _)
theorem Cel.other {w : World} {A : Nat} {K : Int} {v : Value} (h : Cel w A K v) {p : Addr} (hp : A ≠ p.block) (u : Value) : Cel (w.setCell p u) A K v := by
  have e : (w.setCell p u).heap[A]? = w.heap[A]? := Below.heap_setCell _ _ _ _ hp
  exact ⟨(World.cell?_of_block (a := ⟨A, 0, none⟩) e).trans h.c0, (World.cell?_of_block (a := ⟨A, 1, none⟩) e).trans h.c1, (World.frozen?_of_block (a := ⟨A, 0, none⟩) e).trans h.f0, (World.frozen?_of_block (a := ⟨A, 1, none⟩) e).trans h.f1, by simpa [World.setCell] using h.lt⟩
theorem Cel.put {w : World} {A : Nat} {K : Int} {v : Value} (h : Cel w A K v) (K' : Int) (v' : Value) : Cel ((w.setCell ⟨A, 0, none⟩ (.int .i64 K')).setCell ⟨A, 1, none⟩ v') A K' v' := by
  refine ⟨?_, ?_, ?_, ?_, by simpa [World.setCell] using h.lt⟩
  · rw [World.cell?_setCell_other _ _ _ _ (by simp)]; exact World.cell?_setCell_same w ⟨A, 0, none⟩ _ h.c0
  · exact World.cell?_setCell_same _ ⟨A, 1, none⟩ _ ((World.cell?_setCell_other _ _ _ _ (by simp)).trans h.c1)
  · rw [World.frozen?_setCell, World.frozen?_setCell]; exact h.f0
  · rw [World.frozen?_setCell, World.frozen?_setCell]; exact h.f1
/-- another net is stored -/
theorem Dso.put {w w1 wr w' : World} {R A : Nat} {bo : Option Addr} {bn bcap q q' p2 : Nat} {K K' : Int} {ao ao' : Option Addr} {cap : Nat} (cap' : Nat) {us us' : List (Int × Int)} (h : Dso w w1 wr R A bo bn bcap q K ao cap us) (n : AnyNet wr w' R bo bn bcap p2 60 K' ao' us') (hq : p2 + 60 ≤ q') :
    Dso w w1 ((w'.setCell ⟨A, 0, none⟩ (.int .i64 K')).setCell ⟨A, 1, none⟩ (.slice ao' us'.length cap')) R A bo bn bcap q' K' ao' cap' us' := by
  obtain ⟨⟨p', hp', hr⟩, ht, ho, k0, k9, l66⟩ := n
  have h1 := h.hA
  have h2 := h.hR
  have h3 := h.hw
  have h4 := h.N.lt
  have h5 := h.a.2.1.size
  have h6 := ht.size
  have hsz : ((w'.setCell ⟨A, 0, none⟩ (.int .i64 K')).setCell ⟨A, 1, none⟩ (.slice ao' us'.length cap')).heap.size = w'.heap.size := by simp [World.setCell]
  refine ⟨⟨⟨p', by omega, (hr.far (by show R < A; omega) _).far (by show R < A; omega) _⟩, ((h.a.2.1.trans ht).set (by show w1.heap.size ≤ A; omega) _).set (by show w1.heap.size ≤ A; omega) _, ?_, k0, k9, l66⟩, ?_, (h.N.turn ht (by omega)).put K' _, h.hA, h.hR, h.hw⟩
  · rw [hsz]
    exact ((ho.far (Or.inl (by show A < wr.heap.size; omega)) _).far (Or.inl (by show A < wr.heap.size; omega)) _).down (by omega)
  · exact ((h.C.turn' ht h.hw).other (by show w.heap.size ≠ A; omega) _).other (by show w.heap.size ≠ A; omega) _
set_option maxHeartbeats 1600000 in
theorem drawSideOdd_any (bo : Option Addr) (n cap : Nat) (w : World) (hb : BytesIn w bo n) (hnil : bo = none → n = 0 ∧ cap = 0) (hc : n ≤ cap) (hm : cap ≤ maxLen) :
    Calls Tryd.prog 22 #[.slice bo n cap] w fun e w' => ∃ K ao cap' us, e = .returned (.agg #[.int .i64 K, .slice ao us.length cap']) ∧ Dealt w w' K ao us := by
  go_enter Tryd.func22, Tryd.ntmps22
  go_wp2_with fail
  refine (l6Open_any bo n cap _ (fun i hi => by obtain ⟨b, off, v, e, h1, h2, h3⟩ := hb i hi; exact ⟨b, off, v, e, Nat.lt_of_lt_of_le h1 (by simp), by rw [World.cell?_alloc_past _ _ _ h1]; exact h2, h3⟩) hnil hc hm).mono ?_
  rintro e w1 ⟨rfl, ⟨bn, bcap, rd⟩, hb1⟩
  have hb1' : Below (w.heap.size + 1) (w.alloc (.cells #[.int .i64 0, .slice none 0 0] 25)) w1 := by simpa using hb1
  have C1 := hideP ((Cel.new w 0 (.slice none 0 0) 25).below hb1' (Nat.lt_succ_self _))
  have hB1 := hideP ((below_one w (.cells #[.int .i64 0, .slice none 0 0] 25)).trans (hb1'.mono (Nat.le_succ _)))
  have rd' : Rdr w1 (w.heap.size + 1) bo bn bcap 0 := by simpa using rd
  have hR := rd'.lt
  clear hb1 hb1' rd
  go_wp2_with fail
  refine (l71Half_any (w.heap.size + 1) bo bn bcap 0 _ rd' (by omega)).mono ?_
  rintro e w2 ⟨K, ao, cap', us, rfl, A2⟩
  have D2 := hideP (show Dso w w1 (w2.alloc (.cells #[.int .i64 K, .slice ao us.length cap'] 25)) (w.heap.size + 1) w2.heap.size bo bn bcap 70 K ao cap' us from ⟨A2.next hR (below_one _ _), (C1.out.turn' A2.2.1 (by omega)).below (below_one _ _) (Nat.lt_of_lt_of_le C1.out.lt A2.2.1.size), Cel.new w2 K _ _, A2.2.1.size, hR, by omega⟩)
  obtain ⟨A, hAA⟩ : ∃ A, A = w2.heap.size := ⟨_, rfl⟩
  rw [← hAA] at D2
  have FIN : Hid (∀ (wr : World) (q : Nat) (K : Int) (ao : Option Addr) (cap : Nat) (us : List (Int × Int)), Dso w w1 wr (w.heap.size + 1) A bo bn bcap q K ao cap us → ∀ u0 u1, Dealt w ((wr.setCell ⟨w.heap.size, 0, none⟩ u0).setCell ⟨w.heap.size, 1, none⟩ u1) K ao us) := hideP (fun wr q K ao cap us h u0 u1 => Dealt.end h.a hB1.out (Nat.le_of_lt h.hw) h.hR (by have := h.hw; have := h.hR; omega) u0 u1)
  clear A2
  have HAA := hideP hAA
  clear C1 hR rd' hB1 hAA
  go_wp2
  rw [← HAA.out]
  go_loopw [5] (fun iv wr => ∃ (i q : Nat) (K : Int) (ao : Option Addr) (cap' : Nat) (us : List (Int × Int)), i ≤ 8 ∧ iv = .int .i64 (i : Int) ∧ q ≤ 70 + 61 * i ∧ Dso w w1 wr (w.heap.size + 1) A bo bn bcap q K ao cap' us) (fun iv _ => 8 - (intOf iv).toNat)
  case atStart => exact ⟨0, 70, _, _, _, _, by omega, rfl, by omega, D2.out⟩
  case round =>
    clear D2
    obtain ⟨i, q, K, ao, cap', us, hi, rfl, hq, hD⟩ := hrel
    have D := hideP hD
    clear hD
    by_cases hlt : i < 8
    · have hi1 : (i : Int) < 8 := by omega
      obtain ⟨p', hp', hr⟩ := D.out.a.1
      go_wp2_with fail
      refine (pick_any (w.heap.size + 1) bo bn bcap p' 6 _ hr (by omega)).mono ?_
      rintro e w5 ⟨z, rfl, z0, z1, rd5, tr5⟩
      have D5 := hideP (D.out.turn (q' := q + 1) tr5 ⟨p' + 1, by omega, rd5⟩)
      clear D hr tr5 z1
      by_cases hz : z = 0
      · subst hz
        have n0 := D5.out.N.c0
        have n1 := D5.out.N.c1
        have r0 := D5.out.C.c0
        have r1 := D5.out.C.c1
        have g0 := D5.out.C.f0
        have g1 := D5.out.C.f1
        have F := hideP (fun u0 u1 => FIN.out _ _ _ _ _ _ D5.out u0 u1)
        clear D5
        go_wp2
        refine bodyPost_ret (v := .agg #[.int .i64 K, .slice ao us.length cap']) ?_ rfl ⟨K, ao, cap', us, rfl, F.out _ _⟩
        simp [results, Tryd.results22, go_sem, r0, r1]
      · have hzp : (0 : Int) < z := by omega
        go_wp2_with fail
        refine (l71Any_any (w.heap.size + 1) bo bn bcap (p' + 1) _ rd5 (by omega)).mono ?_
        rintro e w6 ⟨K6, ao6, cap6, us6, rfl, A6⟩
        have n0 := (D5.out.N.turn A6.2.1 (by have := D5.out.hA; have := D5.out.hR; omega)).c0
        have n1 := (D5.out.N.turn A6.2.1 (by have := D5.out.hA; have := D5.out.hR; omega)).c1
        have f0 := (D5.out.N.turn A6.2.1 (by have := D5.out.hA; have := D5.out.hR; omega)).f0
        have f1 := (D5.out.N.turn A6.2.1 (by have := D5.out.hA; have := D5.out.hR; omega)).f1
        have l66 := A6.2.2.2.2.2
        have D7 := hideP (D5.out.put cap6 (q' := q + 61) A6 (by omega))
        clear D5 A6 rd5
        go_wp2_with fail
        refine (specSideOdd_v K6 ao6 cap6 us6 _ (by omega) D7.out.ties).mono ?_
        rintro e w8 ⟨v8, b8, rfl, hb8⟩
        have D8 := hideP (D7.out.next hb8)
        clear D7 hb8 n0 n1 f0 f1
        cases b8 with
        | true =>
          have n0 := D8.out.N.c0
          have n1 := D8.out.N.c1
          have r0 := D8.out.C.c0
          have r1 := D8.out.C.c1
          have g0 := D8.out.C.f0
          have g1 := D8.out.C.f1
          have F := hideP (fun u0 u1 => FIN.out _ _ _ _ _ _ D8.out u0 u1)
          clear D8
          go_wp2
          refine bodyPost_ret (v := .agg #[.int .i64 K6, .slice ao6 us6.length cap6]) ?_ rfl ⟨K6, ao6, cap6, us6, rfl, F.out _ _⟩
          simp [results, Tryd.results22, go_sem, r0, r1]
        | false =>
          go_wp2
          exact ⟨⟨i + 1, q + 61, K6, ao6, cap6, us6, by omega, by go_num, by omega, D8.out⟩, by simp [intOf]; omega⟩
    · obtain rfl : i = 8 := by omega
      have n0 := D.out.N.c0
      have n1 := D.out.N.c1
      have r0 := D.out.C.c0
      have r1 := D.out.C.c1
      have g0 := D.out.C.f0
      have g1 := D.out.C.f1
      have F := hideP (fun u0 u1 => FIN.out _ _ _ _ _ _ D.out u0 u1)
      clear D
      go_wp2
      refine bodyPost_ret (v := .agg #[.int .i64 K, .slice ao us.length cap']) ?_ rfl ⟨K, ao, cap', us, rfl, F.out _ _⟩
      simp [results, Tryd.results22, go_sem, r0, r1]

end Go.Proofs.YtiaeffpjcinilaaDoor

/- Walk of spec.DrawSideOk. -/
namespace Go.Proofs.YtiaeffpjcinilaaDoor
open Go.RowKit
set_option linter.unusedVariables false

theorem Rdr.grow {w w' : World} {R : Nat} {bo : Option Addr} {bn bcap p : Nat} {row : Option Nat} (h : Rdr w R bo bn bcap p) (g : w.grownBy w' row) (hr : ∀ j, row = some j → R < j) : Rdr w' R bo bn bcap p := by
  have ea : ∀ k, k ≤ R → w'.heap[k]? = w.heap[k]? := fun k hk => g.block k (Nat.lt_of_le_of_lt hk h.lt) (fun e => by have := hr k e.symm; omega)
  refine ⟨(World.cell?_of_block (a := ⟨R, 0, none⟩) (ea _ (Nat.le_refl _))).trans h.c0, (World.cell?_of_block (a := ⟨R, 1, none⟩) (ea _ (Nat.le_refl _))).trans h.c1, (World.frozen?_of_block (a := ⟨R, 1, none⟩) (ea _ (Nat.le_refl _))).trans h.f1, Nat.lt_of_lt_of_le h.lt g.size, h.short, fun i hi => ?_⟩
  obtain ⟨b, off, v, e, q1, q3, q4⟩ := h.bytes i hi
  exact ⟨b, off, v, e, q1, (World.cell?_of_block (a := ⟨b, off + i, none⟩) (ea b (by omega))).trans q3, q4⟩
/-- a row of numbers somewhere from lo on -/
def SdRow (w : World) (lo : Nat) (ao : Option Addr) (xs : List Int) : Prop := ∀ j, j < xs.length → ∃ b off, ao = some ⟨b, off, none⟩ ∧ lo ≤ b ∧ b < w.heap.size ∧ w.cell? ⟨b, off + j, none⟩ = some (.int .i64 (xi xs j))
theorem SdRow.next {w w' : World} {lo : Nat} {ao : Option Addr} {xs : List Int} (h : SdRow w lo ao xs) (hb : Below w.heap.size w w') : SdRow w' lo ao xs := by
  intro j hj
  obtain ⟨b, off, e, h1, h2, h3⟩ := h j hj
  exact ⟨b, off, e, h1, Nat.lt_of_lt_of_le h2 hb.size, (hb.cell (p := ⟨b, off + j, none⟩) h2).trans h3⟩
theorem SdRow.turn {w w' : World} {lo R : Nat} {ao : Option Addr} {xs : List Int} (h : SdRow w lo ao xs) (ht : Turned R (R + 1) w w') (hR : R < lo) : SdRow w' lo ao xs := by
  intro j hj
  obtain ⟨b, off, e, h1, h2, h3⟩ := h j hj
  exact ⟨b, off, e, h1, Nat.lt_of_lt_of_le h2 ht.size, (ht.cell (p := ⟨b, off + j, none⟩) h2 (Or.inr (by show R + 1 ≤ b; omega))).trans h3⟩
theorem SdRow.fin {w : World} {lo A : Nat} {ao : Option Addr} {xs : List Int} (h : SdRow w lo ao xs) (hA : A < lo) (u0 u1 : Value) : IntsIn ((w.setCell ⟨A, 0, none⟩ u0).setCell ⟨A, 1, none⟩ u1) ((w.setCell ⟨A, 0, none⟩ u0).setCell ⟨A, 1, none⟩ u1).heap.size ao xs := by
  intro j hj
  obtain ⟨b, off, e, h1, h2, h3⟩ := h j hj
  refine ⟨b, off, e, by simpa [World.setCell] using h2, ?_⟩
  have hb : b ≠ A := by omega
  have e1 : ((w.setCell ⟨A, 0, none⟩ u0).setCell ⟨A, 1, none⟩ u1).heap[b]? = w.heap[b]? := (Below.heap_setCell _ _ _ _ hb).trans (Below.heap_setCell _ _ _ _ hb)
  exact (World.cell?_of_block (a := ⟨b, off + j, none⟩) e1).trans h3
theorem SdRow.low {w : World} {lo lo' : Nat} {ao : Option Addr} {xs : List Int} (h : SdRow w lo ao xs) (hl : lo' ≤ lo) : SdRow w lo' ao xs := by
  intro j hj
  obtain ⟨b, off, e, h1, h2, h3⟩ := h j hj
  exact ⟨b, off, e, Nat.le_trans hl h1, h2, h3⟩
theorem SdRow.ofS {w : World} {lo g off cap : Nat} {p : List Nat} (h : RowS w lo g off cap p) : SdRow w lo (some ⟨g, off, none⟩) (p.map fun (x : Nat) => (x : Int)) := by
  intro j hj
  obtain ⟨b, o, e, h1, h2⟩ := row_ints h j hj
  cases e
  exact ⟨g, off, rfl, h.lo, h1, h2⟩
theorem SdRow.ofOwn {w : World} {lo n : Nat} {v : Value} {xs : List Int} (h : w.ownsRow lo 3 1 v n (xs.map zvc)) (hn : xs.length = n) : ∃ ao cap, v = .slice ao n cap ∧ SdRow w lo ao xs := by
  rcases Nat.eq_zero_or_pos n with h0 | h0
  · subst h0
    rcases h.2 with ⟨e, _⟩ | ⟨g, cap', cur, e, hg, hh, rest⟩
    · exact ⟨none, 0, e, fun j hj => absurd hj (by omega)⟩
    · exact ⟨some ⟨g, 0, none⟩, cap', e, fun j hj => absurd hj (by omega)⟩
  · obtain ⟨g, cap, e, hR⟩ := RowZ.ofOwn (cap := 0) h h0
    refine ⟨_, cap, e, fun j hj => ⟨g, 0, rfl, hR.lo, hR.lt, ?_⟩⟩
    rw [hR.cells j hj]; rfl
theorem own_turn {w w' : World} {base R : Nat} {e : TypeId} {size : Nat} {v : Value} {n : Nat} {xs : List Value} (h : w.ownsRow base e size v n xs) (ht : Turned R (R + 1) w w') (hR : R < base) : w'.ownsRow base e size v n xs := by
  refine ⟨h.1, ?_⟩
  rcases h.2 with h1 | ⟨g, cap, cur, h1, h2, h3, h4⟩
  · exact Or.inl h1
  · exact Or.inr ⟨g, cap, cur, h1, h2, (ht.block g (Array.getElem?_eq_some_iff.1 h3).1 (Or.inr (by omega))).trans h3, h4⟩
set_option maxHeartbeats 1600000 in
theorem drawSideOk_any (bo : Option Addr) (n cap : Nat) (w : World) (hb : BytesIn w bo n) (hnil : bo = none → n = 0 ∧ cap = 0) (hc : n ≤ cap) (hm : cap ≤ maxLen) :
    Calls Tryd.prog 26 #[.slice bo n cap] w fun e w' => ∃ K ao cap' us ao2 cap2 xs, e = .returned (.tuple #[.agg #[.int .i64 K, .slice ao us.length cap'], .slice ao2 xs.length cap2]) ∧ Dealt w w' K ao us ∧ IntsIn w' w'.heap.size ao2 xs ∧ xs.length ≤ 10 := by
  obtain ⟨i1, hj, hy0, hy1, hy2⟩ := info_parts Tryd.infoInt
  have HI1 : Hid (Tryd.prog.info? 3 = some i1 ∧ i1.zero = some (.int .i64 0) ∧ i1.size = 1 ∧ i1.bytes = 8) := ⟨hj, hy0, hy1, hy2⟩
  clear hj hy0 hy1 hy2
  go_enter Tryd.func26, Tryd.ntmps26
  go_wp2_with fail
  refine (l6Open_any bo n cap _ (fun i hi => by obtain ⟨b, off, v, e, h1, h2, h3⟩ := hb i hi; exact ⟨b, off, v, e, Nat.lt_of_lt_of_le h1 (by simp), by rw [World.cell?_alloc_past _ _ _ h1]; exact h2, h3⟩) hnil hc hm).mono ?_
  rintro e w1 ⟨rfl, ⟨bn, bcap, rd⟩, hb1⟩
  have hb1' : Below (w.heap.size + 1) (w.alloc (.cells #[.int .i64 0, .slice none 0 0] 25)) w1 := by simpa using hb1
  have C1 := hideP ((Cel.new w 0 (.slice none 0 0) 25).below hb1' (Nat.lt_succ_self _))
  have hB1 := hideP ((below_one w (.cells #[.int .i64 0, .slice none 0 0] 25)).trans (hb1'.mono (Nat.le_succ _)))
  have rd' : Rdr w1 (w.heap.size + 1) bo bn bcap 0 := by simpa using rd
  have hR := rd'.lt
  clear hb1 hb1' rd
  go_wp2_with fail
  refine (l71Half_any (w.heap.size + 1) bo bn bcap 0 _ rd' (by omega)).mono ?_
  rintro e w2 ⟨K, ao, cap', us, rfl, A2⟩
  have D2 := hideP (show Dso w w1 (w2.alloc (.cells #[.int .i64 K, .slice ao us.length cap'] 25)) (w.heap.size + 1) w2.heap.size bo bn bcap 70 K ao cap' us from ⟨A2.next hR (below_one _ _), (C1.out.turn' A2.2.1 (by omega)).below (below_one _ _) (Nat.lt_of_lt_of_le C1.out.lt A2.2.1.size), Cel.new w2 K _ _, A2.2.1.size, hR, by omega⟩)
  obtain ⟨A, hAA⟩ : ∃ A, A = w2.heap.size := ⟨_, rfl⟩
  rw [← hAA] at D2
  have FIN : Hid (∀ (wr : World) (q : Nat) (K : Int) (ao : Option Addr) (cap : Nat) (us : List (Int × Int)), Dso w w1 wr (w.heap.size + 1) A bo bn bcap q K ao cap us → ∀ u0 u1, Dealt w ((wr.setCell ⟨w.heap.size, 0, none⟩ u0).setCell ⟨w.heap.size, 1, none⟩ u1) K ao us) := hideP (fun wr q K ao cap us h u0 u1 => Dealt.end h.a hB1.out (Nat.le_of_lt h.hw) h.hR (by have := h.hw; have := h.hR; omega) u0 u1)
  have l66 := A2.2.2.2.2.2
  have hAge := A2.2.1.size
  clear A2
  have HAA := hideP hAA
  clear C1 hR rd' hB1 hAA
  have n0 := D2.out.N.c0
  have n1 := D2.out.N.c1
  go_wp2_with fail
  rw [← HAA.out]
  refine (specSideOf_any K ao cap' us _ (by omega) D2.out.ties).mono ?_
  rintro e w3 ⟨gS, oS, cS, rfl, hRS, hb3⟩
  have D3 := hideP (D2.out.next hb3)
  have S3 := hideP ((SdRow.ofS hRS).low D2.out.a.2.1.size)
  have hL8 : (sideL K us).length ≤ 8 := by
    unfold sideL
    split
    · rename_i h
      unfold sideV at h
      rw [Bool.and_eq_true] at h
      have := (okB_iff.1 h.1).2.1
      rw [sdL_len]; omega
    · simp
  obtain ⟨V, hV⟩ : ∃ V, sideV K us = V := ⟨_, rfl⟩
  obtain ⟨L, hL⟩ : ∃ L, sideL K us = L := ⟨_, rfl⟩
  rw [hL] at S3 hL8
  rw [hV, hL]
  obtain ⟨m, hm0⟩ : ∃ m, L.length = m := ⟨_, rfl⟩
  have HM := hideP hm0
  rw [hm0] at hL8 ⊢
  have HLW : Hid (w.heap.size + 1 < w1.heap.size) := hideP D3.out.hR
  have hK9 := D3.out.a.2.2.2.2.1
  have hK0 := D3.out.a.2.2.2.1
  clear hb3 hRS D2 n0 n1 hV hL hm0
  cases V with
  | true =>
    obtain ⟨p', hp', hr⟩ := D3.out.a.1
    go_wp2_with fail
    refine (pick_any (w.heap.size + 1) bo bn bcap p' 4 _ hr (by omega)).mono ?_
    rintro e w4 ⟨z, rfl, z0, z1, rd4, tr4⟩
    have D4 := hideP (D3.out.turn (q' := 71) tr4 ⟨p' + 1, by omega, rd4⟩)
    have S4 := hideP (S3.out.turn tr4 HLW.out)
    clear D3 S3 hr rd4 tr4 z1
    by_cases hz : z = 0
    · subst hz
      obtain ⟨W, hW⟩ : ∃ W, W = w4 := ⟨_, rfl⟩
      rw [← hW] at D4 ⊢
      clear hW S4
      have D := D4
      clear D4
      obtain ⟨q5, hq5, hr5⟩ := D.out.a.1
      have HLO : Hid (w.heap.size < W.heap.size ∧ w.heap.size + 1 < W.heap.size ∧ A < W.heap.size) := ⟨D.out.C.lt, by have h1 := D.out.hR; have h2 := D.out.a.2.1.size; omega, D.out.N.lt⟩
      go_wp2
      go_loopw [6, 8] (fun sv iv wr => ∃ (k q : Nat) (xs : List Int), k ≤ 10 ∧ iv = .int .i64 (k : Int) ∧ xs.length = k ∧ q ≤ 100 + 3 * k ∧ Turned (w.heap.size + 1) (w.heap.size + 1 + 1) W wr ∧ Stepped wr (w.heap.size + 1) bo bn bcap 0 q ∧ wr.ownsRow W.heap.size 3 1 sv k (xs.map zvc)) (fun _ iv _ => 10 - (intOf iv).toNat)
      case atStart => exact ⟨0, 100, [], by omega, rfl, rfl, by omega, Turned.refl _ _ _, ⟨q5, by omega, hr5⟩, World.ownsRow_nil _ _ _ _⟩
      case round =>
        clear hr5
        obtain ⟨k, q, xs, hk, rfl, hxl, hq, hT, ⟨q6, hq6, hr6⟩, hO⟩ := hrel
        have Dr := hideP (D.out.turn (q' := q) hT ⟨q6, hq6, hr6⟩)
        have HO := hideP hO
        have HT6 := hideP hT
        have HR6 := hideP hr6
        have n0 := Dr.out.N.c0
        have n1 := Dr.out.N.c1
        clear hT hr6 hO
        have DRd := hideP (Dr.out.next (Below.refl _ _).drew)
        have HOd : Hid (wr.drew.ownsRow W.heap.size 3 1 u6 k (xs.map zvc)) := HO.out
        have HTd : Hid (Turned (w.heap.size + 1) (w.heap.size + 1 + 1) W wr.drew) := hideP (HT6.out.trans (Turned.of_below (Below.refl _ _).drew))
        have HRd : Hid (Rdr wr.drew (w.heap.size + 1) bo bn bcap q6) := hideP (HR6.out.next (Below.refl _ _).drew)
        go_wp2
        go_region_held3 (fun w' => w'.cell? ⟨A, 0, none⟩ = some (.int .i64 K)) (first | exact n0 | exact D7.out.N.c0) (first | (go_at_call 59; refine (pick_any (w.heap.size + 1) bo bn bcap q6 8 _ HRd.out (by omega)).mono ?_; rintro e w7 ⟨z8, rfl, z80, z81, rd7, tr7⟩; have D7 := hideP (DRd.out.turn (q' := q + 1) tr7 ⟨q6 + 1, by omega, rd7⟩)))
        have hd : IntKind.i64.wrap (z8.tdiv 7) = z8 / 7 := by rw [Int.tdiv_eq_ediv_of_nonneg z80, IntKind.wrap_i64]; omega
        have hd2 : 0 ≤ z8 / 7 ∧ z8 / 7 ≤ 1 := by omega
        rw [hd]
        clear hd
        generalize z8 / 7 = d at *
        have hwd : IntKind.i64.wrap (K + d) = K + d := by rw [IntKind.wrap_i64]; omega
        rw [hwd]
        have O7 := hideP (own_turn HOd.out tr7 HLO.out.2.1)
        have HT7 := hideP (HTd.out.trans tr7)
        have HR7 := hideP rd7
        have D9 := D7
        clear HOd HTd HRd DRd Dr HO HT6 HR6 rd7 tr7 D7 n0 n1 z81
        by_cases hc : (k : Int) < K + d
        · have hk9 : k < 10 := by omega
          clear D9
          go_wp2_with fail
          refine (pick_any (w.heap.size + 1) bo bn bcap (q6 + 1) 2 _ HR7.out (by omega)).mono ?_
          rintro e w8 ⟨y2, rfl, y20, y21, rd8, tr8⟩
          have O8 := hideP (own_turn O7.out tr8 HLO.out.2.1)
          have HT8 := hideP (HT7.out.trans tr8)
          have y2l := y21 (by omega)
          clear tr8 O7 HT7 HR7 y21
          go_wp2_with fail
          refine (pick_any (w.heap.size + 1) bo bn bcap (q6 + 1 + 1) 40 _ rd8 (by omega)).mono ?_
          rintro e w9 ⟨y4, rfl, y40, y41, rd9, tr9⟩
          have O9 := hideP (own_turn O8.out tr9 HLO.out.2.1)
          have HT9 := hideP (HT8.out.trans tr9)
          have HR9 := hideP rd9
          have y4l := y41 (by omega)
          clear tr9 O8 HT8 rd8 rd9 y41
          obtain ⟨t9, ht9⟩ : ∃ t, IntKind.i64.wrap (y4.tdiv 39) = t := ⟨_, rfl⟩
          obtain ⟨y, hy⟩ : ∃ y, IntKind.i64.wrap (y2 + t9) = y := ⟨_, rfl⟩
          have HKX := hideP hxl
          clear y20 y40 y2l y4l hxl
          go_wp2_with (at_builtin; refine wpList_append_own _ rfl _ _ 27 rfl W.heap.size 3 i1 _ 1 8 Tryd.underlying27 HI1.out.1 HI1.out.2.1 HI1.out.2.2.1 HI1.out.2.2.2 rfl (by omega) u6 k (xs.map zvc) rfl (O9.out.alloc _) ⟨_, 0, none⟩ 1 1 [zvc y] rfl rfl (World.news_of_block (cs := #[zvc y]) (t := 3) (fr := (0, 0)) (heap_alloc_new w9 _)) (by simp [Value.oneCell', zvc]) (by unfold maxLen; omega) (by omega) (by have := HT9.out.size; simp; omega) ?_)
          intro v' w10 hown' hgr _
          have O10 : Hid (w10.ownsRow W.heap.size 3 1 v' (k + 1) ((xs ++ [y]).map zvc)) := hideP (by rw [List.map_append]; exact hown')
          have hle := O9.out.lt
          have HG := grown_on (Below.refl _ _) hgr
          have HT10 : Hid (Turned (w.heap.size + 1) (w.heap.size + 1 + 1) W w10) := hideP ⟨HG.os.trans HT9.out.os, HG.tape.trans HT9.out.tape, HG.output.trans HT9.out.output, Nat.le_trans HT9.out.size HG.size, fun j hj ho => (HG.block j (Nat.lt_of_lt_of_le hj HT9.out.size) (fun e => by have := (hle j e.symm).1; omega)).trans (HT9.out.block j hj ho)⟩
          have HR10 : Hid (Rdr w10 (w.heap.size + 1) bo bn bcap (q6 + 1 + 1 + 1)) := hideP (HR9.out.grow HG (fun j e => by have h1 := (hle j e).1; have h2 := HLO.out.2.1; omega))
          clear hown' hgr hle O9 HT9 HR9 HG
          go_wp2
          go_roundw
          case rel => exact ⟨k + 1, q + 3, xs ++ [y], by omega, by go_num, by rw [List.length_append, HKX.out]; rfl, by omega, HT10.out, ⟨q6 + 1 + 1 + 1, by omega, HR10.out⟩, O10.out⟩
          case measure => (simp [intOf] <;> omega)
        · have hcb : decide ((k : Int) < K + d) = false := by simp; omega
          have n0 := D9.out.N.c0
          have n1 := D9.out.N.c1
          have r0 := D9.out.C.c0
          have r1 := D9.out.C.c1
          have g0 := D9.out.C.f0
          have g1 := D9.out.C.f1
          obtain ⟨aoR, capR, rfl, hRow⟩ := SdRow.ofOwn O7.out hxl
          have F := hideP (fun u0 u1 => FIN.out _ _ _ _ _ _ D9.out u0 u1)
          have F2 := hideP (fun u0 u1 => hRow.fin (A := w.heap.size) HLO.out.1 u0 u1)
          have HXL := hideP hxl
          clear D9 hRow O7 hxl
          go_wp2
          refine bodyPost_ret (v := .tuple #[.agg #[.int .i64 K, .slice ao us.length cap'], .slice aoR k capR]) ?_ rfl ⟨K, ao, cap', us, aoR, capR, xs, by rw [HXL.out], F.out _ _, F2.out _ _, by rw [HXL.out]; omega⟩
          simp [results, Tryd.results26, go_sem, r0, r1]
    · have hzb : (z == 0) = false := by simp [hz]
      have n0 := D4.out.N.c0
      have n1 := D4.out.N.c1
      have r0 := D4.out.C.c0
      have r1 := D4.out.C.c1
      have g0 := D4.out.C.f0
      have g1 := D4.out.C.f1
      have F := hideP (fun u0 u1 => FIN.out _ _ _ _ _ _ D4.out u0 u1)
      have F2 := hideP (fun u0 u1 => S4.out.fin (A := w.heap.size) (Nat.lt_of_succ_lt HLW.out) u0 u1)
      clear D4 S4
      go_wp2
      refine bodyPost_ret (v := .tuple #[.agg #[.int .i64 K, .slice ao us.length cap'], .slice (some ⟨gS, oS, none⟩) m cS]) ?_ rfl ⟨K, ao, cap', us, some ⟨gS, oS, none⟩, cS, (L.map fun (x : Nat) => (x : Int)), by rw [List.length_map, HM.out], F.out _ _, F2.out _ _, by rw [List.length_map, HM.out]; omega⟩
      simp [results, Tryd.results26, go_sem, r0, r1]
  | false =>
    obtain ⟨W, hW⟩ : ∃ W, W = w3 := ⟨_, rfl⟩
    rw [← hW] at D3 ⊢
    clear hW S3
    have D := D3
    clear D3
    obtain ⟨q5, hq5, hr5⟩ := D.out.a.1
    have HLO : Hid (w.heap.size < W.heap.size ∧ w.heap.size + 1 < W.heap.size ∧ A < W.heap.size) := ⟨D.out.C.lt, by have h1 := D.out.hR; have h2 := D.out.a.2.1.size; omega, D.out.N.lt⟩
    go_wp2
    go_loopw [6, 8] (fun sv iv wr => ∃ (k q : Nat) (xs : List Int), k ≤ 10 ∧ iv = .int .i64 (k : Int) ∧ xs.length = k ∧ q ≤ 100 + 3 * k ∧ Turned (w.heap.size + 1) (w.heap.size + 1 + 1) W wr ∧ Stepped wr (w.heap.size + 1) bo bn bcap 0 q ∧ wr.ownsRow W.heap.size 3 1 sv k (xs.map zvc)) (fun _ iv _ => 10 - (intOf iv).toNat)
    case atStart => exact ⟨0, 100, [], by omega, rfl, rfl, by omega, Turned.refl _ _ _, ⟨q5, by omega, hr5⟩, World.ownsRow_nil _ _ _ _⟩
    case round =>
      clear hr5
      obtain ⟨k, q, xs, hk, rfl, hxl, hq, hT, ⟨q6, hq6, hr6⟩, hO⟩ := hrel
      have Dr := hideP (D.out.turn (q' := q) hT ⟨q6, hq6, hr6⟩)
      have HO := hideP hO
      have HT6 := hideP hT
      have HR6 := hideP hr6
      have n0 := Dr.out.N.c0
      have n1 := Dr.out.N.c1
      clear hT hr6 hO
      have DRd := hideP (Dr.out.next (Below.refl _ _).drew)
      have HOd : Hid (wr.drew.ownsRow W.heap.size 3 1 u6 k (xs.map zvc)) := HO.out
      have HTd : Hid (Turned (w.heap.size + 1) (w.heap.size + 1 + 1) W wr.drew) := hideP (HT6.out.trans (Turned.of_below (Below.refl _ _).drew))
      have HRd : Hid (Rdr wr.drew (w.heap.size + 1) bo bn bcap q6) := hideP (HR6.out.next (Below.refl _ _).drew)
      go_wp2
      go_region_held3 (fun w' => w'.cell? ⟨A, 0, none⟩ = some (.int .i64 K)) (first | exact n0 | exact D7.out.N.c0) (first | (go_at_call 59; refine (pick_any (w.heap.size + 1) bo bn bcap q6 8 _ HRd.out (by omega)).mono ?_; rintro e w7 ⟨z8, rfl, z80, z81, rd7, tr7⟩; have D7 := hideP (DRd.out.turn (q' := q + 1) tr7 ⟨q6 + 1, by omega, rd7⟩)))
      have hd : IntKind.i64.wrap (z8.tdiv 7) = z8 / 7 := by rw [Int.tdiv_eq_ediv_of_nonneg z80, IntKind.wrap_i64]; omega
      have hd2 : 0 ≤ z8 / 7 ∧ z8 / 7 ≤ 1 := by omega
      rw [hd]
      clear hd
      generalize z8 / 7 = d at *
      have hwd : IntKind.i64.wrap (K + d) = K + d := by rw [IntKind.wrap_i64]; omega
      rw [hwd]
      have O7 := hideP (own_turn HOd.out tr7 HLO.out.2.1)
      have HT7 := hideP (HTd.out.trans tr7)
      have HR7 := hideP rd7
      have D9 := D7
      clear HOd HTd HRd DRd Dr HO HT6 HR6 rd7 tr7 D7 n0 n1 z81
      by_cases hc : (k : Int) < K + d
      · have hk9 : k < 10 := by omega
        clear D9
        go_wp2_with fail
        refine (pick_any (w.heap.size + 1) bo bn bcap (q6 + 1) 2 _ HR7.out (by omega)).mono ?_
        rintro e w8 ⟨y2, rfl, y20, y21, rd8, tr8⟩
        have O8 := hideP (own_turn O7.out tr8 HLO.out.2.1)
        have HT8 := hideP (HT7.out.trans tr8)
        have y2l := y21 (by omega)
        clear tr8 O7 HT7 HR7 y21
        go_wp2_with fail
        refine (pick_any (w.heap.size + 1) bo bn bcap (q6 + 1 + 1) 40 _ rd8 (by omega)).mono ?_
        rintro e w9 ⟨y4, rfl, y40, y41, rd9, tr9⟩
        have O9 := hideP (own_turn O8.out tr9 HLO.out.2.1)
        have HT9 := hideP (HT8.out.trans tr9)
        have HR9 := hideP rd9
        have y4l := y41 (by omega)
        clear tr9 O8 HT8 rd8 rd9 y41
        obtain ⟨t9, ht9⟩ : ∃ t, IntKind.i64.wrap (y4.tdiv 39) = t := ⟨_, rfl⟩
        obtain ⟨y, hy⟩ : ∃ y, IntKind.i64.wrap (y2 + t9) = y := ⟨_, rfl⟩
        have HKX := hideP hxl
        clear y20 y40 y2l y4l hxl
        go_wp2_with (at_builtin; refine wpList_append_own _ rfl _ _ 27 rfl W.heap.size 3 i1 _ 1 8 Tryd.underlying27 HI1.out.1 HI1.out.2.1 HI1.out.2.2.1 HI1.out.2.2.2 rfl (by omega) u6 k (xs.map zvc) rfl (O9.out.alloc _) ⟨_, 0, none⟩ 1 1 [zvc y] rfl rfl (World.news_of_block (cs := #[zvc y]) (t := 3) (fr := (0, 0)) (heap_alloc_new w9 _)) (by simp [Value.oneCell', zvc]) (by unfold maxLen; omega) (by omega) (by have := HT9.out.size; simp; omega) ?_)
        intro v' w10 hown' hgr _
        have O10 : Hid (w10.ownsRow W.heap.size 3 1 v' (k + 1) ((xs ++ [y]).map zvc)) := hideP (by rw [List.map_append]; exact hown')
        have hle := O9.out.lt
        have HG := grown_on (Below.refl _ _) hgr
        have HT10 : Hid (Turned (w.heap.size + 1) (w.heap.size + 1 + 1) W w10) := hideP ⟨HG.os.trans HT9.out.os, HG.tape.trans HT9.out.tape, HG.output.trans HT9.out.output, Nat.le_trans HT9.out.size HG.size, fun j hj ho => (HG.block j (Nat.lt_of_lt_of_le hj HT9.out.size) (fun e => by have := (hle j e.symm).1; omega)).trans (HT9.out.block j hj ho)⟩
        have HR10 : Hid (Rdr w10 (w.heap.size + 1) bo bn bcap (q6 + 1 + 1 + 1)) := hideP (HR9.out.grow HG (fun j e => by have h1 := (hle j e).1; have h2 := HLO.out.2.1; omega))
        clear hown' hgr hle O9 HT9 HR9 HG
        go_wp2
        go_roundw
        case rel => exact ⟨k + 1, q + 3, xs ++ [y], by omega, by go_num, by rw [List.length_append, HKX.out]; rfl, by omega, HT10.out, ⟨q6 + 1 + 1 + 1, by omega, HR10.out⟩, O10.out⟩
        case measure => (simp [intOf] <;> omega)
      · have hcb : decide ((k : Int) < K + d) = false := by simp; omega
        have n0 := D9.out.N.c0
        have n1 := D9.out.N.c1
        have r0 := D9.out.C.c0
        have r1 := D9.out.C.c1
        have g0 := D9.out.C.f0
        have g1 := D9.out.C.f1
        obtain ⟨aoR, capR, rfl, hRow⟩ := SdRow.ofOwn O7.out hxl
        have F := hideP (fun u0 u1 => FIN.out _ _ _ _ _ _ D9.out u0 u1)
        have F2 := hideP (fun u0 u1 => hRow.fin (A := w.heap.size) HLO.out.1 u0 u1)
        have HXL := hideP hxl
        clear D9 hRow O7 hxl
        go_wp2
        refine bodyPost_ret (v := .tuple #[.agg #[.int .i64 K, .slice ao us.length cap'], .slice aoR k capR]) ?_ rfl ⟨K, ao, cap', us, aoR, capR, xs, by rw [HXL.out], F.out _ _, F2.out _ _, by rw [HXL.out]; omega⟩
        simp [results, Tryd.results26, go_sem, r0, r1]

end Go.Proofs.YtiaeffpjcinilaaDoor
