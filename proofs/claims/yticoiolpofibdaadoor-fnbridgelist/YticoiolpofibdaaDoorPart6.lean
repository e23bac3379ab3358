/- Texts put together: WDrawT, WQuiet, WLo, Math5. -/
import Derived.Test.YticoiolpofibdaaDoorPart5
import Derived.Test.YticoiolpofibdaaDoorPart1
import Derived.BigRegion
import Derived.Test.YticoiolpofibdaaDoorPart2
/- What the laws of trees draw. -/
namespace Go.Proofs.YticoiolpofibdaaDoor
open Go.RowKit
set_option linter.unusedVariables false

set_option maxHeartbeats 400000 in
theorem drawTreeOf_any (bo : Option Addr) (n cap : Nat) (w : World) (hb : BytesIn w bo n) (hnil : bo = none → n = 0 ∧ cap = 0) (hc : n ≤ cap) (hm : cap ≤ maxLen) :
    Calls Tryd.prog 36 #[.slice bo n cap] w fun e w' => ∃ K ao cap' us, e = .returned (.agg #[.int .i64 K, .slice ao us.length cap']) ∧ Dealt w w' K ao us := by
  go_enter Tryd.func36, Tryd.ntmps36
  go_wp2_with fail
  refine (l6Open_any bo n cap _ (fun i hi => by obtain ⟨b, off, v, e, h1, h2, h3⟩ := hb i hi; exact ⟨b, off, v, e, Nat.lt_of_lt_of_le h1 (by simp), by rw [World.cell?_alloc_past _ _ _ h1]; exact h2, h3⟩) hnil hc hm).mono ?_
  rintro e w1 ⟨rfl, ⟨bn, bcap, rd⟩, hb1⟩
  have hb1' : Below (w.heap.size + 1) (w.alloc (.cells #[.int .i64 0, .slice none 0 0] 25)) w1 := by simpa using hb1
  have C1 := hideP ((Cel.new w 0 (.slice none 0 0) 25).below hb1' (Nat.lt_succ_self _))
  have hB1 := hideP ((below_one w (.cells #[.int .i64 0, .slice none 0 0] 25)).trans (hb1'.mono (Nat.le_succ _)))
  have rd' : Rdr w1 (w.heap.size + 1) bo bn bcap 0 := by simpa using rd
  have hR := rd'.lt
  clear hb1 hb1' rd
  go_wp2_with fail
  refine (l71Any_any (w.heap.size + 1) bo bn bcap 0 _ rd' (by omega)).mono ?_
  rintro e w2 ⟨K, ao, cap', us, rfl, A2⟩
  have C2 := hideP (C1.out.turn' A2.2.1 (by omega))
  have r0 := C2.out.c0
  have r1 := C2.out.c1
  have g0 := C2.out.f0
  have g1 := C2.out.f1
  have F := hideP (fun u0 u1 => Dealt.end A2 hB1.out (Nat.le_succ _) hR (by omega) u0 u1)
  clear A2
  go_wp2
  refine bodyPost_ret (v := .agg #[.int .i64 K, .slice ao us.length cap']) ?_ rfl ⟨K, ao, cap', us, rfl, F.out _ _⟩
  simp [results, Tryd.results36, go_sem, r0, r1]

set_option maxHeartbeats 400000 in
theorem drawTreeRings_any (bo : Option Addr) (n cap : Nat) (w : World) (hb : BytesIn w bo n) (hnil : bo = none → n = 0 ∧ cap = 0) (hc : n ≤ cap) (hm : cap ≤ maxLen) :
    Calls Tryd.prog 26 #[.slice bo n cap] w fun e w' => ∃ K ao cap' us, e = .returned (.agg #[.int .i64 K, .slice ao us.length cap']) ∧ Dealt w w' K ao us := by
  go_enter Tryd.func26, Tryd.ntmps26
  go_wp2_with fail
  refine (l6Open_any bo n cap _ (fun i hi => by obtain ⟨b, off, v, e, h1, h2, h3⟩ := hb i hi; exact ⟨b, off, v, e, Nat.lt_of_lt_of_le h1 (by simp), by rw [World.cell?_alloc_past _ _ _ h1]; exact h2, h3⟩) hnil hc hm).mono ?_
  rintro e w1 ⟨rfl, ⟨bn, bcap, rd⟩, hb1⟩
  have hb1' : Below (w.heap.size + 1) (w.alloc (.cells #[.int .i64 0, .slice none 0 0] 25)) w1 := by simpa using hb1
  have C1 := hideP ((Cel.new w 0 (.slice none 0 0) 25).below hb1' (Nat.lt_succ_self _))
  have hB1 := hideP ((below_one w (.cells #[.int .i64 0, .slice none 0 0] 25)).trans (hb1'.mono (Nat.le_succ _)))
  have rd' : Rdr w1 (w.heap.size + 1) bo bn bcap 0 := by simpa using rd
  have hR := rd'.lt
  clear hb1 hb1' rd
  go_wp2_with fail
  refine (l71Any_any (w.heap.size + 1) bo bn bcap 0 _ rd' (by omega)).mono ?_
  rintro e w2 ⟨K, ao, cap', us, rfl, A2⟩
  have C2 := hideP (C1.out.turn' A2.2.1 (by omega))
  have r0 := C2.out.c0
  have r1 := C2.out.c1
  have g0 := C2.out.f0
  have g1 := C2.out.f1
  have F := hideP (fun u0 u1 => Dealt.end A2 hB1.out (Nat.le_succ _) hR (by omega) u0 u1)
  clear A2
  go_wp2
  refine bodyPost_ret (v := .agg #[.int .i64 K, .slice ao us.length cap']) ?_ rfl ⟨K, ao, cap', us, rfl, F.out _ _⟩
  simp [results, Tryd.results26, go_sem, r0, r1]

set_option maxHeartbeats 400000 in
theorem drawBridgeList_any (bo : Option Addr) (n cap : Nat) (w : World) (hb : BytesIn w bo n) (hnil : bo = none → n = 0 ∧ cap = 0) (hc : n ≤ cap) (hm : cap ≤ maxLen) :
    Calls Tryd.prog 43 #[.slice bo n cap] w fun e w' => ∃ K ao cap' us, e = .returned (.agg #[.int .i64 K, .slice ao us.length cap']) ∧ Dealt w w' K ao us := by
  go_enter Tryd.func43, Tryd.ntmps43
  go_wp2_with fail
  refine (l6Open_any bo n cap _ (fun i hi => by obtain ⟨b, off, v, e, h1, h2, h3⟩ := hb i hi; exact ⟨b, off, v, e, Nat.lt_of_lt_of_le h1 (by simp), by rw [World.cell?_alloc_past _ _ _ h1]; exact h2, h3⟩) hnil hc hm).mono ?_
  rintro e w1 ⟨rfl, ⟨bn, bcap, rd⟩, hb1⟩
  have hb1' : Below (w.heap.size + 1) (w.alloc (.cells #[.int .i64 0, .slice none 0 0] 25)) w1 := by simpa using hb1
  have C1 := hideP ((Cel.new w 0 (.slice none 0 0) 25).below hb1' (Nat.lt_succ_self _))
  have hB1 := hideP ((below_one w (.cells #[.int .i64 0, .slice none 0 0] 25)).trans (hb1'.mono (Nat.le_succ _)))
  have rd' : Rdr w1 (w.heap.size + 1) bo bn bcap 0 := by simpa using rd
  have hR := rd'.lt
  clear hb1 hb1' rd
  go_wp2_with fail
  refine (l71Any_any (w.heap.size + 1) bo bn bcap 0 _ rd' (by omega)).mono ?_
  rintro e w2 ⟨K, ao, cap', us, rfl, A2⟩
  have C2 := hideP (C1.out.turn' A2.2.1 (by omega))
  have r0 := C2.out.c0
  have r1 := C2.out.c1
  have g0 := C2.out.f0
  have g1 := C2.out.f1
  have F := hideP (fun u0 u1 => Dealt.end A2 hB1.out (Nat.le_succ _) hR (by omega) u0 u1)
  clear A2
  go_wp2
  refine bodyPost_ret (v := .agg #[.int .i64 K, .slice ao us.length cap']) ?_ rfl ⟨K, ao, cap', us, rfl, F.out _ _⟩
  simp [results, Tryd.results43, go_sem, r0, r1]

set_option maxHeartbeats 400000 in
theorem drawBridgeParts_any (bo : Option Addr) (n cap : Nat) (w : World) (hb : BytesIn w bo n) (hnil : bo = none → n = 0 ∧ cap = 0) (hc : n ≤ cap) (hm : cap ≤ maxLen) :
    Calls Tryd.prog 47 #[.slice bo n cap] w fun e w' => ∃ K ao cap' us, e = .returned (.agg #[.int .i64 K, .slice ao us.length cap']) ∧ Dealt w w' K ao us := by
  go_enter Tryd.func47, Tryd.ntmps47
  go_wp2_with fail
  refine (l6Open_any bo n cap _ (fun i hi => by obtain ⟨b, off, v, e, h1, h2, h3⟩ := hb i hi; exact ⟨b, off, v, e, Nat.lt_of_lt_of_le h1 (by simp), by rw [World.cell?_alloc_past _ _ _ h1]; exact h2, h3⟩) hnil hc hm).mono ?_
  rintro e w1 ⟨rfl, ⟨bn, bcap, rd⟩, hb1⟩
  have hb1' : Below (w.heap.size + 1) (w.alloc (.cells #[.int .i64 0, .slice none 0 0] 25)) w1 := by simpa using hb1
  have C1 := hideP ((Cel.new w 0 (.slice none 0 0) 25).below hb1' (Nat.lt_succ_self _))
  have hB1 := hideP ((below_one w (.cells #[.int .i64 0, .slice none 0 0] 25)).trans (hb1'.mono (Nat.le_succ _)))
  have rd' : Rdr w1 (w.heap.size + 1) bo bn bcap 0 := by simpa using rd
  have hR := rd'.lt
  clear hb1 hb1' rd
  go_wp2_with fail
  refine (l71Any_any (w.heap.size + 1) bo bn bcap 0 _ rd' (by omega)).mono ?_
  rintro e w2 ⟨K, ao, cap', us, rfl, A2⟩
  have C2 := hideP (C1.out.turn' A2.2.1 (by omega))
  have r0 := C2.out.c0
  have r1 := C2.out.c1
  have g0 := C2.out.f0
  have g1 := C2.out.f1
  have F := hideP (fun u0 u1 => Dealt.end A2 hB1.out (Nat.le_succ _) hR (by omega) u0 u1)
  clear A2
  go_wp2
  refine bodyPost_ret (v := .agg #[.int .i64 K, .slice ao us.length cap']) ?_ rfl ⟨K, ao, cap', us, rfl, F.out _ _⟩
  simp [results, Tryd.results47, go_sem, r0, r1]

end Go.Proofs.YticoiolpofibdaaDoor

/- A region that draws its order and whose callees make memory of their own but answer alike in every world of a class: one walk in the order of the text. -/
namespace Go.Proofs.YticoiolpofibdaaDoor
open Go.RowKit
set_option linter.unusedVariables false

/-- a world of the class -/
structure Cls (D : World → Prop) where
  w : World
  ok : D w

theorem wp_region_cls (D : World → Prop) {P : Program} {id : Nat} {Q : Exit → Act → World → Prop} {a : Act} {w : World} {l : List Oper} (hm : P.follows .mixedOrders = true) (hB : Region.lexB .any l.toArray = true) (h0 : D w.drew)
    (h : wpQuiet P l.toArray (fun w' => ∃ u : Cls D, w' = u.w) (fun a' => ∀ w', (∃ u : Cls D, w' = u.w) → Q .normal a' w') l a) : (Code.region id l.toArray true).wp P Q a w :=
  wp_region_quiet (C := fun w' => ∃ u : Cls D, w' = u.w) hm hB ⟨⟨w.drew, h0⟩, rfl⟩ (by simpa using h)
theorem Calls.cls {D : World → Prop} {P : Program} {f : FuncId} {args : Array Value} {w : World} {v : Value}
    (h : Calls P f args w fun e w' => e = .returned v ∧ D w') : Calls P f args w fun e w'' => e = .returned v ∧ ∃ u : Cls D, w'' = u.w :=
  h.mono fun _ w' ⟨he, hm⟩ => ⟨he, ⟨w', hm⟩, rfl⟩

end Go.Proofs.YticoiolpofibdaaDoor

/- Nets in variables of a law; walks of laws.loTies, loNet, loHas, loTie. -/
namespace Go.Proofs.YticoiolpofibdaaDoor
open Go.RowKit
set_option linter.unusedVariables false

/-- a net in a variable: its two cells, its ties -/
structure NetV (w : World) (A : Nat) (K : Int) (ao : Option Addr) (cap : Nat) (ts : List (Int × Int)) : Prop where
  c0 : w.cell? ⟨A, 0, none⟩ = some (.int .i64 K)
  c1 : w.cell? ⟨A, 1, none⟩ = some (.slice ao ts.length cap)
  lt : A < w.heap.size
  ties : TiesIn w w.heap.size ao ts
theorem NetV.next {w w' : World} {A : Nat} {K : Int} {ao : Option Addr} {cap : Nat} {ts : List (Int × Int)} (h : NetV w A K ao cap ts) (hb : Below w.heap.size w w') : NetV w' A K ao cap ts :=
  ⟨(hb.cell (p := ⟨A, 0, none⟩) h.lt).trans h.c0, (hb.cell (p := ⟨A, 1, none⟩) h.lt).trans h.c1, Nat.lt_of_lt_of_le h.lt hb.size, (h.ties.below hb (Nat.le_refl _)).wide hb.size⟩
theorem NetV.new {w : World} {K : Int} {ao : Option Addr} {cap : Nat} {ts : List (Int × Int)} (t : TypeId) (h : TiesIn w w.heap.size ao ts) : NetV (w.alloc (.cells #[.int .i64 K, .slice ao ts.length cap] t)) w.heap.size K ao cap ts :=
  ⟨by simp, by simp, by simp, (h.below (below_one _ _) (Nat.le_refl _)).wide (by simp)⟩

set_option maxHeartbeats 400000 in
theorem loTies_same (a1 a2 : Option Addr) (cap1 cap2 : Nat) (ts : List (Int × Int)) (w : World) (hn : ts.length ≤ 1099511627776) (h1 : TiesIn w w.heap.size a1 ts) (h2 : TiesIn w w.heap.size a2 ts) :
    Calls Tryd.prog 23 #[.slice a1 ts.length cap1, .slice a2 ts.length cap2] w fun e w' => e = .returned (.bool true) ∧ Below w.heap.size w w' := by
  obtain ⟨n, hnn⟩ : ∃ n, n = ts.length := ⟨_, rfl⟩
  have HN : Hid (n = ts.length) := hnn
  rw [← hnn] at hn ⊢
  clear hnn
  go_enter Tryd.func23, Tryd.ntmps23
  go_wp2
  go_loopw [5] (fun i wr => ∃ k : Nat, k ≤ n ∧ i = .int .i64 k ∧ Below w.heap.size w wr)
    (fun i _ => n - (intOf i).toNat)
  case atStart => exact ⟨0, Nat.zero_le _, rfl, Below.refl _ _⟩
  case round =>
    obtain ⟨k, hk, rfl, hbel⟩ := hrel
    by_cases hlt : k < n
    · obtain ⟨b, off, rfl, hbw, c0, c1⟩ := h1 k (by rw [← HN.out]; exact hlt)
      obtain ⟨b2, off2, rfl, hbw2, e0, e1⟩ := h2 k (by rw [← HN.out]; exact hlt)
      have c0' : wr.cell? ⟨b, off + k * 2, none⟩ = some (.int .i64 (tA ts k)) := (hbel.cell (p := ⟨b, off + k * 2, none⟩) hbw).trans c0
      have c1' : wr.cell? ⟨b, off + k * 2 + 1, none⟩ = some (.int .i64 (tB ts k)) := (hbel.cell (p := ⟨b, off + k * 2 + 1, none⟩) hbw).trans c1
      have e0' : wr.cell? ⟨b2, off2 + k * 2, none⟩ = some (.int .i64 (tA ts k)) := (hbel.cell (p := ⟨b2, off2 + k * 2, none⟩) hbw2).trans e0
      have e1' : wr.cell? ⟨b2, off2 + k * 2 + 1, none⟩ = some (.int .i64 (tB ts k)) := (hbel.cell (p := ⟨b2, off2 + k * 2 + 1, none⟩) hbw2).trans e1
      obtain ⟨x, hx⟩ : ∃ x, x = tA ts k := ⟨_, rfl⟩
      obtain ⟨y, hy⟩ : ∃ y, y = tB ts k := ⟨_, rfl⟩
      rw [← hx] at c0' e0'; rw [← hy] at c1' e1'
      have hk0 : (0 : Int) ≤ (k : Int) := by omega
      have hk1 : (k : Int) < (n : Int) := by omega
      clear c0 c1 e0 e1 hx hy h1 h2
      go_wp2
      go_region
      go_wp2
      go_roundw
      case rel => exact ⟨k + 1, by omega, by go_num, hbel.drew⟩
      case measure => simp [intOf]; omega
    · have hkn : k = n := by omega
      subst hkn
      go_wp2
      go_ret
      exact ⟨rfl, hbel⟩


set_option maxHeartbeats 400000 in
theorem loHas_any (ao : Option Addr) (cap : Nat) (ts : List (Int × Int)) (a b : Int) (w : World) (hn : ts.length ≤ 1099511627776) (ht : TiesIn w w.heap.size ao ts) :
    Calls Tryd.prog 35 #[.slice ao ts.length cap, .agg #[.int .i64 a, .int .i64 b]] w fun e w' => e = .returned (.bool (tiedB ts a b)) ∧ Below w.heap.size w w' := by
  obtain ⟨n, hnn⟩ : ∃ n, n = ts.length := ⟨_, rfl⟩
  have HN : Hid (n = ts.length) := hnn
  rw [← hnn] at hn ⊢
  clear hnn
  go_enter Tryd.func35, Tryd.ntmps35
  go_wp2
  go_loopw [5] (fun i wr => ∃ k : Nat, k ≤ n ∧ i = .int .i64 k ∧ (∀ i, i < k → ¬ (tA ts i = a ∧ tB ts i = b)) ∧ Below (w.heap.size + 1) (w.alloc (.cells #[.int .i64 a, .int .i64 b] 35)) wr)
    (fun i _ => n - (intOf i).toNat)
  case atStart => exact ⟨0, Nat.zero_le _, rfl, fun i hi => absurd hi (by omega), Below.refl _ _⟩
  case round =>
    obtain ⟨k, hk, rfl, hno, hnx⟩ := hrel
    have HB : Hid (Below w.heap.size w wr) := (below_one _ _).trans (hnx.mono (by omega))
    by_cases hlt : k < n
    · have hkl : k < ts.length := by rw [← HN.out]; exact hlt
      obtain ⟨bb, off, rfl, hbw, c0, c1⟩ := ht k hkl
      have c0' : wr.cell? ⟨bb, off + k * 2, none⟩ = some (.int .i64 (tA ts k)) := (hnx.cell (p := ⟨bb, off + k * 2, none⟩) (by simp; omega)).trans ((World.cell?_alloc_past _ _ _ hbw).trans c0)
      have c1' : wr.cell? ⟨bb, off + k * 2 + 1, none⟩ = some (.int .i64 (tB ts k)) := (hnx.cell (p := ⟨bb, off + k * 2 + 1, none⟩) (by simp; omega)).trans ((World.cell?_alloc_past _ _ _ hbw).trans c1)
      have d0 : wr.cell? ⟨w.heap.size, 0, none⟩ = some (.int .i64 a) := (hnx.cell (p := ⟨w.heap.size, 0, none⟩) (by simp)).trans (by simp)
      have d1 : wr.cell? ⟨w.heap.size, 1, none⟩ = some (.int .i64 b) := (hnx.cell (p := ⟨w.heap.size, 1, none⟩) (by simp)).trans (by simp)
      obtain ⟨x, hx⟩ : ∃ x, x = tA ts k := ⟨_, rfl⟩
      obtain ⟨y, hy⟩ : ∃ y, y = tB ts k := ⟨_, rfl⟩
      rw [← hx] at c0'; rw [← hy] at c1'
      have HX : Hid (x = tA ts k ∧ y = tB ts k) := ⟨hx, hy⟩
      have hk0 : (0 : Int) ≤ (k : Int) := by omega
      have hk1 : (k : Int) < (n : Int) := by omega
      have HNX : Hid (Below (w.heap.size + 1) (w.alloc (.cells #[.int .i64 a, .int .i64 b] 35)) wr) := hnx
      clear c0 c1 hx hy ht hnx
      by_cases hxy : x = a ∧ y = b
      · obtain ⟨rfl, rfl⟩ := hxy
        have HR : Hid (tiedB ts x y = true) := tiedB_iff.2 ⟨k, hkl, HX.out.1.symm, HX.out.2.symm⟩
        clear hno
        go_wp2
        go_region
        go_wp2
        go_ret
        exact ⟨by rw [HR.out]; rfl, HB.out.drew⟩
      · have HR : Hid (∀ i, i < k + 1 → ¬ (tA ts i = a ∧ tB ts i = b)) := by
          intro i hi
          by_cases hik : i = k
          · subst hik; rw [← HX.out.1, ← HX.out.2]; exact hxy
          · exact hno i (by omega)
        have hor : x ≠ a ∨ y ≠ b := by
          by_cases hxa : x = a
          · exact Or.inr (fun e => hxy ⟨hxa, e⟩)
          · exact Or.inl hxa
        clear hno hxy
        rcases hor with hne | hne
        · have hne' : (x == a) = false := by simp [hne]
          go_wp2
          go_region
          go_wp2
          go_roundw
          case rel => exact ⟨k + 1, by omega, by go_num, HR.out, HNX.out.drew⟩
          case measure => simp [intOf]; omega
        · have hne' : (y == b) = false := by simp [hne]
          go_wp2
          go_region
          go_wp2
          go_roundw
          case rel => exact ⟨k + 1, by omega, by go_num, HR.out, HNX.out.drew⟩
          case measure => simp [intOf]; omega
    · have hkn : k = n := by omega
      subst hkn
      have HR : Hid (tiedB ts a b = false) := by
        rw [← Bool.not_eq_true, tiedB_iff]
        rintro ⟨i, hi, h⟩
        exact hno i (by rw [HN.out]; exact hi) h
      clear hno
      go_wp2
      go_ret
      exact ⟨by rw [HR.out]; rfl, HB.out⟩
set_option maxHeartbeats 400000 in
theorem loTie_any (a b : Int) (w : World) :
    Calls Tryd.prog 33 #[.int .i64 a, .int .i64 b] w fun e w' => e = .returned (.agg #[.int .i64 (min a b), .int .i64 (max a b)]) ∧ Below w.heap.size w w' := by
  by_cases h : a < b
  · have e1 : min a b = a := by omega
    have e2 : max a b = b := by omega
    rw [e1, e2]
    clear e1 e2
    go_enter Tryd.func33, Tryd.ntmps33
    go_wp2
    refine bodyPost_ret (v := .agg #[.int .i64 a, .int .i64 b]) (by simp [results, Tryd.results33, go_sem]) rfl ⟨rfl, ?_⟩
    first | exact below_one _ _ | exact below_two _ _ _ | exact below_three _ _ _ _
  · have e1 : min a b = b := by omega
    have e2 : max a b = a := by omega
    rw [e1, e2]
    clear e1 e2
    go_enter Tryd.func33, Tryd.ntmps33
    go_wp2
    refine bodyPost_ret (v := .agg #[.int .i64 b, .int .i64 a]) (by simp [results, Tryd.results33, go_sem]) rfl ⟨rfl, ?_⟩
    first | exact below_one _ _ | exact below_two _ _ _ | exact below_three _ _ _ _

end Go.Proofs.YticoiolpofibdaaDoor

/- Plain mathematics of parts: a forest of parents, its tops, and what hangs together. No program stands here. -/
namespace Go.Proofs.YticoiolpofibdaaDoor

/-- the top above k, by at most n steps -/
def topF (f : Nat → Nat) : Nat → Nat → Nat
  | 0, k => k
  | n + 1, k => if f k = k then k else topF f n (f k)
def top (f : Nat → Nat) (k : Nat) : Nat := topF f k k
def Low (f : Nat → Nat) : Prop := ∀ k, f k ≤ k

theorem topF_enough {f : Nat → Nat} (h : Low f) : ∀ n m k, k ≤ n → k ≤ m → topF f n k = topF f m k := by
  intro n
  induction n with
  | zero =>
    intro m k hn hm
    obtain rfl : k = 0 := by omega
    have h0 : f 0 = 0 := by have := h 0; omega
    cases m with
    | zero => rfl
    | succ m => simp [topF, h0]
  | succ n ih =>
    intro m k hn hm
    cases m with
    | zero =>
      obtain rfl : k = 0 := by omega
      have h0 : f 0 = 0 := by have := h 0; omega
      simp [topF, h0]
    | succ m =>
      simp only [topF]
      by_cases hk : f k = k
      · rw [if_pos hk, if_pos hk]
      · rw [if_neg hk, if_neg hk]
        have := h k
        exact ih m (f k) (by omega) (by omega)
theorem top_fix {f : Nat → Nat} {k : Nat} (hk : f k = k) : top f k = k := by
  unfold top
  cases k with
  | zero => rfl
  | succ k => simp [topF, hk]
theorem top_step {f : Nat → Nat} (h : Low f) {k : Nat} : top f k = top f (f k) := by
  by_cases hk : f k = k
  · rw [hk]
  · have h1 := h k
    obtain ⟨j, rfl⟩ : ∃ j, k = j + 1 := ⟨k - 1, by omega⟩
    unfold top
    rw [topF, if_neg hk]
    exact topF_enough h _ _ _ (by omega) (Nat.le_refl _)
theorem top_le {f : Nat → Nat} (h : Low f) : ∀ k, top f k ≤ k := by
  intro k
  induction k using Nat.strongRecOn with
  | ind k ih =>
    by_cases hk : f k = k
    · rw [top_fix hk]; exact Nat.le_refl _
    · have h1 := h k
      have := ih (f k) (by omega)
      rw [top_step h]; omega
theorem top_is {f : Nat → Nat} (h : Low f) : ∀ k, f (top f k) = top f k := by
  intro k
  induction k using Nat.strongRecOn with
  | ind k ih =>
    by_cases hk : f k = k
    · rw [top_fix hk]; exact hk
    · have h1 := h k
      rw [top_step h]; exact ih (f k) (by omega)
theorem top_top {f : Nat → Nat} (h : Low f) (k : Nat) : top f (top f k) = top f k := top_fix (top_is h k)

/-- two tops are made one -/
def join (f : Nat → Nat) (a b : Nat) : Nat → Nat := fun k => if k = max (top f a) (top f b) then min (top f a) (top f b) else f k
theorem join_low {f : Nat → Nat} (h : Low f) (a b : Nat) : Low (join f a b) := by
  intro k
  unfold join
  by_cases e : k = max (top f a) (top f b)
  · rw [if_pos e]; omega
  · rw [if_neg e]; exact h k
theorem join_top {f : Nat → Nat} (h : Low f) (a b : Nat) : ∀ k, top (join f a b) k = if top f k = max (top f a) (top f b) then min (top f a) (top f b) else top f k := by
  have ha := top_is h a
  have hb := top_is h b
  have hJ := join_low h a b
  intro k
  induction k using Nat.strongRecOn with
  | ind k ih =>
    by_cases e : k = max (top f a) (top f b)
    · have ej : join f a b k = min (top f a) (top f b) := by unfold join; rw [if_pos e]
      have fk : f k = k := by
        by_cases hm : top f a ≤ top f b
        · rw [Nat.max_eq_right hm] at e; rw [e]; exact hb
        · rw [Nat.max_eq_left (by omega)] at e; rw [e]; exact ha
      have tk : top f k = k := top_fix fk
      rw [tk, if_pos e, top_step hJ, ej]
      have fm : join f a b (min (top f a) (top f b)) = min (top f a) (top f b) := by
        unfold join
        by_cases e2 : min (top f a) (top f b) = max (top f a) (top f b)
        · rw [if_pos e2]
        · rw [if_neg e2]
          by_cases hm : top f a ≤ top f b
          · rw [Nat.min_eq_left hm]; exact ha
          · rw [Nat.min_eq_right (by omega)]; exact hb
      exact top_fix fm
    · have ej : join f a b k = f k := by unfold join; rw [if_neg e]
      by_cases fk : f k = k
      · rw [top_fix (ej.trans fk), top_fix fk, if_neg e]
      · have h1 := h k
        rw [top_step hJ, ej, ih (f k) (by omega), ← top_step h]

/-- hangs together by what is tied -/
inductive Cn (E : Nat → Nat → Prop) : Nat → Nat → Prop
  | refl (x : Nat) : Cn E x x
  | fwd {x y z : Nat} : Cn E x y → E y z → Cn E x z
  | bwd {x y z : Nat} : Cn E x y → E z y → Cn E x z
theorem Cn.trans {E : Nat → Nat → Prop} {x y z : Nat} (h : Cn E x y) (k : Cn E y z) : Cn E x z := by
  induction k with
  | refl => exact h
  | fwd _ e ih => exact ih.fwd e
  | bwd _ e ih => exact ih.bwd e
theorem Cn.symm {E : Nat → Nat → Prop} {x y : Nat} (h : Cn E x y) : Cn E y x := by
  induction h with
  | refl => exact Cn.refl _
  | fwd _ e ih => exact ((Cn.refl _).bwd e).trans ih
  | bwd _ e ih => exact ((Cn.refl _).fwd e).trans ih
theorem Cn.mono {E E' : Nat → Nat → Prop} (hE : ∀ x y, E x y → E' x y) {x y : Nat} (h : Cn E x y) : Cn E' x y := by
  induction h with
  | refl => exact Cn.refl _
  | fwd _ e ih => exact ih.fwd (hE _ _ e)
  | bwd _ e ih => exact ih.bwd (hE _ _ e)

/-- tied by one of the first m ties -/
def Tied (ts : List (Int × Int)) (m : Nat) (x y : Nat) : Prop := ∃ i, i < m ∧ (tA ts i).toNat = x ∧ (tB ts i).toNat = y
/-- the forest behind the first m ties -/
def forest (ts : List (Int × Int)) : Nat → Nat → Nat
  | 0 => fun k => k
  | m + 1 => join (forest ts m) (tA ts m).toNat (tB ts m).toNat
theorem forest_low (ts : List (Int × Int)) : ∀ m, Low (forest ts m) := by
  intro m
  induction m with
  | zero => intro k; exact Nat.le_refl _
  | succ m ih => exact join_low ih _ _
theorem forest_cn (ts : List (Int × Int)) : ∀ m x y, top (forest ts m) x = top (forest ts m) y ↔ Cn (Tied ts m) x y := by
  intro m
  induction m with
  | zero =>
    intro x y
    have e : ∀ k, top (forest ts 0) k = k := fun k => top_fix rfl
    rw [e, e]
    constructor
    · rintro rfl; exact Cn.refl _
    · intro h
      cases h with
      | refl => rfl
      | fwd _ e => obtain ⟨i, hi, _⟩ := e; omega
      | bwd _ e => obtain ⟨i, hi, _⟩ := e; omega
  | succ m ih =>
    intro x y
    have hl := forest_low ts m
    have hE : ∀ x y, Tied ts m x y → Tied ts (m + 1) x y := fun x y ⟨i, hi, e⟩ => ⟨i, by omega, e⟩
    have ec : ∀ k, Cn (Tied ts (m + 1)) k (top (forest ts m) k) := fun k => ((ih k _).1 (top_top hl k).symm).mono hE
    have eab : Cn (Tied ts (m + 1)) (top (forest ts m) (tA ts m).toNat) (top (forest ts m) (tB ts m).toNat) :=
      ((ec _).symm.fwd ⟨m, by omega, rfl, rfl⟩).trans (ec _)
    show top (join (forest ts m) (tA ts m).toNat (tB ts m).toNat) x = top (join (forest ts m) (tA ts m).toNat (tB ts m).toNat) y ↔ _
    rw [join_top hl, join_top hl]
    obtain ⟨a, ha⟩ : ∃ a, a = (tA ts m).toNat := ⟨_, rfl⟩
    obtain ⟨b, hb⟩ : ∃ b, b = (tB ts m).toNat := ⟨_, rfl⟩
    rw [← ha, ← hb] at eab ⊢
    constructor
    · intro h
      have emm : Cn (Tied ts (m + 1)) (max (top (forest ts m) a) (top (forest ts m) b)) (min (top (forest ts m) a) (top (forest ts m) b)) := by
        by_cases hm : top (forest ts m) a ≤ top (forest ts m) b
        · rw [Nat.max_eq_right hm, Nat.min_eq_left hm]; exact eab.symm
        · rw [Nat.max_eq_left (by omega), Nat.min_eq_right (by omega)]; exact eab
      have key : ∀ k, Cn (Tied ts (m + 1)) k (if top (forest ts m) k = max (top (forest ts m) a) (top (forest ts m) b) then min (top (forest ts m) a) (top (forest ts m) b) else top (forest ts m) k) := by
        intro k
        by_cases e : top (forest ts m) k = max (top (forest ts m) a) (top (forest ts m) b)
        · rw [if_pos e]; have := ec k; rw [e] at this; exact this.trans emm
        · rw [if_neg e]; exact ec k
      exact (key x).trans (h ▸ (key y).symm)
    · intro h
      have one : ∀ x y, Tied ts (m + 1) x y → (if top (forest ts m) x = max (top (forest ts m) a) (top (forest ts m) b) then min (top (forest ts m) a) (top (forest ts m) b) else top (forest ts m) x) = (if top (forest ts m) y = max (top (forest ts m) a) (top (forest ts m) b) then min (top (forest ts m) a) (top (forest ts m) b) else top (forest ts m) y) := by
        rintro x y ⟨i, hi, ex, ey⟩
        by_cases him : i = m
        · subst him
          rw [← ha] at ex
          rw [← hb] at ey
          subst ex
          subst ey
          by_cases hm : top (forest ts i) a ≤ top (forest ts i) b
          · rw [Nat.max_eq_right hm, Nat.min_eq_left hm, if_pos rfl]
            by_cases e : top (forest ts i) a = top (forest ts i) b
            · rw [if_pos e]
            · rw [if_neg e]
          · rw [Nat.max_eq_left (by omega), Nat.min_eq_right (by omega), if_pos rfl]
            by_cases e : top (forest ts i) b = top (forest ts i) a
            · rw [if_pos e]
            · rw [if_neg e]
        · have : top (forest ts m) x = top (forest ts m) y := (ih x y).2 ((Cn.refl x).fwd ⟨i, by omega, ex, ey⟩)
          rw [this]
      induction h with
      | refl => rfl
      | fwd _ e ih2 => exact ih2.trans (one _ _ e)
      | bwd _ e ih2 => exact ih2.trans (one _ _ e).symm

end Go.Proofs.YticoiolpofibdaaDoor
