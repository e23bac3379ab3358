/- Walk of impl.parents.way: up from one knot till it meets the way up from the other one, and down that. -/
import Derived.Test.YtloicmngoaccoaaDoorWClimb
import Derived.Test.YtloicmngoaccoaaDoorWIndex
import Derived.Test.YtloicmngoaccoaaDoorMathAA
import Derived.Deep.RegionHeld3
namespace Go.Proofs.YtloicmngoaccoaaDoor
open Go.RowKit
set_option linter.unusedVariables false

/-- what stands while one goes up -/
structure Upd (us : List (Int × Int)) (w wr : World) (A P O : Nat) (l r : List Nat) : Prop where
  R : OwnI wr w.heap.size 9 (fun _ => .int .i64 0)
  U : OwnI wr A 8 (pcellN (parN 8 us))
  p : OwnI wr P 9 (pcell (cI l))
  o : OwnI wr O 9 (pcell (cI r))
  B : Below w.heap.size w wr
  h : w.heap.size < P
  k : w.heap.size < O
  d : P ≠ O
  a : A < w.heap.size
theorem Upd.stored {us : List (Int × Int)} {w wr w6 : World} {A P O : Nat} {l r : List Nat} {y : Nat} {l2 : List Int} (h : Upd us w wr A P O l r) (hb : Below wr.heap.size wr w6) (hl : l2 = cI (l ++ [y])) : Upd us w (putPath w6 P l2) A P O (l ++ [y]) r := by
  have hh := h.h
  have ha := h.a
  have hd := h.d
  refine ⟨putPath_other (h.R.below hb h.R.2.2) (by omega), putPath_other (h.U.below hb h.U.2.2) (by omega), by rw [← hl]; exact putPath_own (h.p.below hb h.p.2.2), putPath_other (h.o.below hb h.o.2.2) hd, putPath_below (h.B.trans (hb.mono h.B.size)) (by omega), hh, h.k, hd, ha⟩
theorem Upd.held {us : List (Int × Int)} {w wr : World} {A P O : Nat} {l r : List Nat} (h : Upd us w wr A P O l r) (W : World) (hb : Below wr.heap.size wr W) : W.cell? ⟨P, 0, none⟩ = some (.int .i64 (xi (cI l) 0)) ∧ W.cell? ⟨P, 1, none⟩ = some (.int .i64 (xi (cI l) 1)) ∧ W.cell? ⟨P, 2, none⟩ = some (.int .i64 (xi (cI l) 2)) ∧ W.cell? ⟨P, 3, none⟩ = some (.int .i64 (xi (cI l) 3)) ∧ W.cell? ⟨P, 4, none⟩ = some (.int .i64 (xi (cI l) 4)) ∧ W.cell? ⟨P, 5, none⟩ = some (.int .i64 (xi (cI l) 5)) ∧ W.cell? ⟨P, 6, none⟩ = some (.int .i64 (xi (cI l) 6)) ∧ W.cell? ⟨P, 7, none⟩ = some (.int .i64 (xi (cI l) 7)) ∧ W.cell? ⟨P, 8, none⟩ = some (.int .i64 ((cI l).length : Int)) ∧ W.cell? ⟨O, 0, none⟩ = some (.int .i64 (xi (cI r) 0)) ∧ W.cell? ⟨O, 1, none⟩ = some (.int .i64 (xi (cI r) 1)) ∧ W.cell? ⟨O, 2, none⟩ = some (.int .i64 (xi (cI r) 2)) ∧ W.cell? ⟨O, 3, none⟩ = some (.int .i64 (xi (cI r) 3)) ∧ W.cell? ⟨O, 4, none⟩ = some (.int .i64 (xi (cI r) 4)) ∧ W.cell? ⟨O, 5, none⟩ = some (.int .i64 (xi (cI r) 5)) ∧ W.cell? ⟨O, 6, none⟩ = some (.int .i64 (xi (cI r) 6)) ∧ W.cell? ⟨O, 7, none⟩ = some (.int .i64 (xi (cI r) 7)) ∧ W.cell? ⟨O, 8, none⟩ = some (.int .i64 ((cI r).length : Int)) := ⟨(hb.cell (p := ⟨P, 0, none⟩) h.p.2.2).trans (h.p.1 0 (by omega)), (hb.cell (p := ⟨P, 1, none⟩) h.p.2.2).trans (h.p.1 1 (by omega)), (hb.cell (p := ⟨P, 2, none⟩) h.p.2.2).trans (h.p.1 2 (by omega)), (hb.cell (p := ⟨P, 3, none⟩) h.p.2.2).trans (h.p.1 3 (by omega)), (hb.cell (p := ⟨P, 4, none⟩) h.p.2.2).trans (h.p.1 4 (by omega)), (hb.cell (p := ⟨P, 5, none⟩) h.p.2.2).trans (h.p.1 5 (by omega)), (hb.cell (p := ⟨P, 6, none⟩) h.p.2.2).trans (h.p.1 6 (by omega)), (hb.cell (p := ⟨P, 7, none⟩) h.p.2.2).trans (h.p.1 7 (by omega)), (hb.cell (p := ⟨P, 8, none⟩) h.p.2.2).trans (h.p.1 8 (by omega)), (hb.cell (p := ⟨O, 0, none⟩) h.o.2.2).trans (h.o.1 0 (by omega)), (hb.cell (p := ⟨O, 1, none⟩) h.o.2.2).trans (h.o.1 1 (by omega)), (hb.cell (p := ⟨O, 2, none⟩) h.o.2.2).trans (h.o.1 2 (by omega)), (hb.cell (p := ⟨O, 3, none⟩) h.o.2.2).trans (h.o.1 3 (by omega)), (hb.cell (p := ⟨O, 4, none⟩) h.o.2.2).trans (h.o.1 4 (by omega)), (hb.cell (p := ⟨O, 5, none⟩) h.o.2.2).trans (h.o.1 5 (by omega)), (hb.cell (p := ⟨O, 6, none⟩) h.o.2.2).trans (h.o.1 6 (by omega)), (hb.cell (p := ⟨O, 7, none⟩) h.o.2.2).trans (h.o.1 7 (by omega)), (hb.cell (p := ⟨O, 8, none⟩) h.o.2.2).trans (h.o.1 8 (by omega))⟩
theorem own_ints {w : World} {O : Nat} {l : List Int} (h : OwnI w O 9 (pcell l)) (h8 : l.length ≤ 8) : IntsIn w w.heap.size (some ⟨O, 0, none⟩) l := by
  intro i hi
  refine ⟨O, 0, rfl, h.2.2, ?_⟩
  rw [Nat.zero_add, h.1 i (by omega), pcell, if_pos (by omega)]
theorem wrap_pred : ∀ j : Nat, j < 8 → IntKind.i64.wrap ((j : Int) - 1) = (j : Int) - 1 := by
  intro j hj
  have hall : ∀ t : Fin 8, IntKind.i64.wrap ((t.val : Int) - 1) = (t.val : Int) - 1 := by decide
  exact hall ⟨j, hj⟩
theorem xi_cI' (p : List Nat) (j : Nat) : xi (cI p) j = ((p.getD j 0 : Nat) : Int) := by
  unfold xi cI
  rw [List.getD_eq_getElem?_getD, List.getD_eq_getElem?_getD, List.getElem?_map]
  cases p[j]? <;> simp
set_option maxHeartbeats 12800000 in
theorem wayUp_any (us : List (Int × Int)) (t : Trn 8 us 8) (A a b : Nat) (w : World) (hU : OwnI w A 8 (pcellN (parN 8 us))) (ha : a < 8) (hb : b < 8) (hab : topN us a = topN us b) :
    Calls Tryd.prog 59 #[.pointer (some ⟨A, 0, none⟩), .int .i64 (a : Int), .int .i64 (b : Int)] w fun e w' => e = .returned (pathV (cI (findB 8 us (a : Int) (b : Int)))) ∧ Below w.heap.size w w' := by
  have HT := hideP t
  have HU := hideP hU
  clear t hU
  have HLB : Hid ((rtP 8 us b).length ≤ 8) := by have := dep_lt HT.out hb; unfold depN at this; show (rtP 8 us b).length ≤ 8; omega
  have HLA : Hid ((rtP 8 us a).length ≤ 8) := by have := dep_lt HT.out ha; unfold depN at this; show (rtP 8 us a).length ≤ 8; omega
  have HP0 := hideP (HT.out.rt ha)
  have HPB := hideP (HT.out.rt hb)
  have HCL : Hid (∀ W, OwnI W A 8 (pcellN (parN 8 us)) → Calls Tryd.prog 90 #[.pointer (some ⟨A, 0, none⟩), .int .i64 (b : Int)] W fun e w' => e = .returned (pathV (cI (rtP 8 us b))) ∧ Below W.heap.size W w') := fun W h => climb_any us HT.out A b W h hb
  have HPA : Hid (∀ i, i < (rtP 8 us a).length → (rtP 8 us a).getD i 0 < 8 ∧ (i + 1 < (rtP 8 us a).length → parN 8 us ((rtP 8 us a).getD i 0) = (rtP 8 us a).getD (i + 1) 0)) := fun i hi => ⟨(HT.out.nth ha i hi).1, fun h => (HT.out.parAt ha hi).1 h⟩
  have HMO : Hid (∀ i, i < (rtP 8 us a).length → (rtP 8 us a).getD i 0 ∉ rtP 8 us b → i + 1 < (rtP 8 us a).length) := fun i hi hn => HT.out.more ha hb hab hi hn
  have HUD : Hid (∀ i m, i < (rtP 8 us a).length → m < (rtP 8 us b).length → (rtP 8 us a).getD i 0 = (rtP 8 us b).getD m 0 → (∀ j, j < i → (rtP 8 us a).getD j 0 ∉ rtP 8 us b) → upDown (rtP 8 us a) (rtP 8 us b) i m = findB 8 us (a : Int) (b : Int) ∧ i + 1 + m ≤ 8) := fun i m hi hm he hn => HT.out.upDown ha hb hab hi hm he hn
  have HNW : Hid (∀ i j, i < j → j < (rtP 8 us b).length → (rtP 8 us b).getD i 0 ≠ (rtP 8 us b).getD j 0) := HPB.out.pw.new
  have HB8 : Hid (∀ i, i < (rtP 8 us b).length → (rtP 8 us b).getD i 0 < 8) := fun i hi => (HT.out.nth hb i hi).1
  have H1 : Hid ([a] = (rtP 8 us a).take 1) := by
    have := take_last (q := rtP 8 us a) (i := 0) HP0.out.pos
    rw [this, HP0.out.fst]; exact hideP rfl
  have HP1 := HP0.out.pos
  have HP2 := HPB.out.pos
  obtain ⟨F, hF⟩ : ∃ F, F = findB 8 us (a : Int) (b : Int) := ⟨_, rfl⟩
  rw [← hF] at HUD ⊢
  obtain ⟨q, hq⟩ : ∃ q, q = rtP 8 us a := ⟨_, rfl⟩
  rw [← hq] at HLA HPA H1 HP1 HMO HUD
  obtain ⟨r, hr⟩ : ∃ r, r = rtP 8 us b := ⟨_, rfl⟩
  rw [← hr] at HLB HMO HUD HNW HB8 HP2 HCL
  clear hF hq hr HP0 HPB
  go_enter Tryd.func59, Tryd.ntmps59
  go_wp2_with fail
  refine (with_path [] (a : Int) _ (by simp)).mono ?_
  rintro e w1 ⟨rfl, hb1⟩
  have hA := HU.out.2.2
  have hz1 : w.heap.size + 1 ≤ w1.heap.size := by have := hb1.size; simp at this; omega
  have hb1' : Below w.heap.size w w1 := (below_one w _).trans (hb1.mono (by simp))
  have z1 : OwnI w1 w.heap.size 9 (fun _ => .int .i64 0) := by
    have z : OwnI (w.alloc (.cells #[.int .i64 0, .int .i64 0, .int .i64 0, .int .i64 0, .int .i64 0, .int .i64 0, .int .i64 0, .int .i64 0, .int .i64 0] 77)) w.heap.size 9 (fun _ => .int .i64 0) := by
      refine ⟨fun j hj => (World.cell?_alloc_at _ _ _ _ rfl).trans ?_, fun j => World.frozen?_alloc_at _ _ _ _ rfl, by simp⟩
      have : j = 0 ∨ j = 1 ∨ j = 2 ∨ j = 3 ∨ j = 4 ∨ j = 5 ∨ j = 6 ∨ j = 7 ∨ j = 8 := by omega
      rcases this with rfl | rfl | rfl | rfl | rfl | rfl | rfl | rfl | rfl <;> rfl
    exact z.below hb1 (by simp)
  have Z1 := hideP z1
  have U1 := hideP (HU.out.below hb1' hA)
  clear hb1 z1
  unfold pathV
  go_wp2_with fail
  refine (HCL.out _ U1.out).mono ?_
  rintro e w2 ⟨rfl, hb2⟩
  have hz2 := hb2.size
  have C1 : ∀ t1 t2, Hid (Upd us w ((w2.alloc (.cells #[.int .i64 (xi (cI [a]) 0), .int .i64 (xi (cI [a]) 1), .int .i64 (xi (cI [a]) 2), .int .i64 (xi (cI [a]) 3), .int .i64 (xi (cI [a]) 4), .int .i64 (xi (cI [a]) 5), .int .i64 (xi (cI [a]) 6), .int .i64 (xi (cI [a]) 7), .int .i64 ((cI [a]).length : Int)] t1)).alloc (.cells #[.int .i64 (xi (cI r) 0), .int .i64 (xi (cI r) 1), .int .i64 (xi (cI r) 2), .int .i64 (xi (cI r) 3), .int .i64 (xi (cI r) 4), .int .i64 (xi (cI r) 5), .int .i64 (xi (cI r) 6), .int .i64 (xi (cI r) 7), .int .i64 ((cI r).length : Int)] t2)) A w2.heap.size (w2.heap.size + 1) [a] r) := fun t1 t2 => by
    have o1 := below_one w2 (.cells #[.int .i64 (xi (cI [a]) 0), .int .i64 (xi (cI [a]) 1), .int .i64 (xi (cI [a]) 2), .int .i64 (xi (cI [a]) 3), .int .i64 (xi (cI [a]) 4), .int .i64 (xi (cI [a]) 5), .int .i64 (xi (cI [a]) 6), .int .i64 (xi (cI [a]) 7), .int .i64 ((cI [a]).length : Int)] t1)
    have o2 := below_one (w2.alloc (.cells #[.int .i64 (xi (cI [a]) 0), .int .i64 (xi (cI [a]) 1), .int .i64 (xi (cI [a]) 2), .int .i64 (xi (cI [a]) 3), .int .i64 (xi (cI [a]) 4), .int .i64 (xi (cI [a]) 5), .int .i64 (xi (cI [a]) 6), .int .i64 (xi (cI [a]) 7), .int .i64 ((cI [a]).length : Int)] t1)) (.cells #[.int .i64 (xi (cI r) 0), .int .i64 (xi (cI r) 1), .int .i64 (xi (cI r) 2), .int .i64 (xi (cI r) 3), .int .i64 (xi (cI r) 4), .int .i64 (xi (cI r) 5), .int .i64 (xi (cI r) 6), .int .i64 (xi (cI r) 7), .int .i64 ((cI r).length : Int)] t2)
    have hs : (w2.alloc (.cells #[.int .i64 (xi (cI [a]) 0), .int .i64 (xi (cI [a]) 1), .int .i64 (xi (cI [a]) 2), .int .i64 (xi (cI [a]) 3), .int .i64 (xi (cI [a]) 4), .int .i64 (xi (cI [a]) 5), .int .i64 (xi (cI [a]) 6), .int .i64 (xi (cI [a]) 7), .int .i64 ((cI [a]).length : Int)] t1)).heap.size = w2.heap.size + 1 := by simp
    have o12 := o1.trans (o2.mono (by omega))
    refine ⟨(Z1.out.below hb2 Z1.out.2.2).below o12 (by omega), (U1.out.below hb2 U1.out.2.2).below o12 (by omega), (own_path w2 (cI [a]) t1).below o2 (by omega), ?_, (hb1'.trans (hb2.mono hb1'.size)).trans (o12.mono (by omega)), by omega, by omega, by omega, hA⟩
    have := own_path (w2.alloc (.cells #[.int .i64 (xi (cI [a]) 0), .int .i64 (xi (cI [a]) 1), .int .i64 (xi (cI [a]) 2), .int .i64 (xi (cI [a]) 3), .int .i64 (xi (cI [a]) 4), .int .i64 (xi (cI [a]) 5), .int .i64 (xi (cI [a]) 6), .int .i64 (xi (cI [a]) 7), .int .i64 ((cI [a]).length : Int)] t1)) (cI r) t2
    rwa [hs] at this
  obtain ⟨P, hPe⟩ : ∃ P, P = w2.heap.size := ⟨_, rfl⟩
  obtain ⟨O, hOe⟩ : ∃ O, O = w2.heap.size + 1 := ⟨_, rfl⟩
  rw [← hOe, ← hPe] at C1
  clear hb2 hb1' U1 Z1 hz1 hz2 HCL
  unfold pathV
  go_wp2
  rw [← hOe, ← hPe]
  clear hPe hOe
  go_loopg [] (q.length - 1) (fun gk wr => ∃ i, i + 1 + gk = q.length ∧ (∀ j, j < i → q.getD j 0 ∉ r) ∧ Upd us w wr A P O (q.take (i + 1)) r)
  case atStart =>
    refine ⟨0, by omega, fun j hj => by omega, ?_⟩
    show Upd us w _ A P O (q.take 1) r
    rw [← H1.out]
    exact (C1 _ _).out
  case round =>
    clear C1 H1
    obtain ⟨i, hi, hno, hC⟩ := hrel
    obtain ⟨hx8, hnx⟩ := HPA.out i (by omega)
    have hmo := HMO.out i (by omega)
    have hud := HUD.out i
    obtain ⟨x, hx⟩ : ∃ x, x = q.getD i 0 := ⟨_, rfl⟩
    rw [← hx] at hx8 hnx hmo hud
    obtain ⟨l, hl⟩ : ∃ l, l = q.take (i + 1) := ⟨_, rfl⟩
    have hll : l.length = i + 1 := by rw [hl, List.length_take]; omega
    have hlast : lastI (cI l) = (x : Int) := by
      rw [cI_last (by omega), hl, take_last (by omega), lastN_snoc, hx]
    rw [← hl] at hC
    have hx9 : (x : Int) < 8 := by omega
    have hx0 : (0 : Int) ≤ (x : Int) := by omega
    have HNO := hideP hno
    have HC := hideP hC
    clear hC hno
    have HELD : Hid (∀ W, Below wr.heap.size wr W → W.cell? ⟨P, 0, none⟩ = some (.int .i64 (xi (cI l) 0)) ∧ W.cell? ⟨P, 1, none⟩ = some (.int .i64 (xi (cI l) 1)) ∧ W.cell? ⟨P, 2, none⟩ = some (.int .i64 (xi (cI l) 2)) ∧ W.cell? ⟨P, 3, none⟩ = some (.int .i64 (xi (cI l) 3)) ∧ W.cell? ⟨P, 4, none⟩ = some (.int .i64 (xi (cI l) 4)) ∧ W.cell? ⟨P, 5, none⟩ = some (.int .i64 (xi (cI l) 5)) ∧ W.cell? ⟨P, 6, none⟩ = some (.int .i64 (xi (cI l) 6)) ∧ W.cell? ⟨P, 7, none⟩ = some (.int .i64 (xi (cI l) 7)) ∧ W.cell? ⟨P, 8, none⟩ = some (.int .i64 ((cI l).length : Int)) ∧ W.cell? ⟨O, 0, none⟩ = some (.int .i64 (xi (cI r) 0)) ∧ W.cell? ⟨O, 1, none⟩ = some (.int .i64 (xi (cI r) 1)) ∧ W.cell? ⟨O, 2, none⟩ = some (.int .i64 (xi (cI r) 2)) ∧ W.cell? ⟨O, 3, none⟩ = some (.int .i64 (xi (cI r) 3)) ∧ W.cell? ⟨O, 4, none⟩ = some (.int .i64 (xi (cI r) 4)) ∧ W.cell? ⟨O, 5, none⟩ = some (.int .i64 (xi (cI r) 5)) ∧ W.cell? ⟨O, 6, none⟩ = some (.int .i64 (xi (cI r) 6)) ∧ W.cell? ⟨O, 7, none⟩ = some (.int .i64 (xi (cI r) 7)) ∧ W.cell? ⟨O, 8, none⟩ = some (.int .i64 ((cI r).length : Int))) := hideP HC.out.held
    have D0 : Hid (Below wr.heap.size wr wr.drew) := (Below.refl _ _).drew
    have hc8 : (cI l).length ≤ 8 := by rw [cI_len, hll]; have := HLA.out; omega
    have hc0 : 0 < (cI l).length := by rw [cI_len, hll]; omega
    have hr8 : (cI r).length ≤ 8 := by rw [cI_len]; exact HLB.out
    have ENX : Hid (∀ W, Calls Tryd.prog 92 #[.agg #[.int .i64 (xi (cI l) 0), .int .i64 (xi (cI l) 1), .int .i64 (xi (cI l) 2), .int .i64 (xi (cI l) 3), .int .i64 (xi (cI l) 4), .int .i64 (xi (cI l) 5), .int .i64 (xi (cI l) 6), .int .i64 (xi (cI l) 7), .int .i64 ((cI l).length : Int)]] W fun e w' => e = .returned (.int .i64 (x : Int)) ∧ Below W.heap.size W w') := fun W => end_path9 (cI l) (x : Int) W hc0 hc8 hlast
    have EN0 := hideP (ENX.out wr.drew)
    have HASX : Hid (∀ W, Calls Tryd.prog 91 #[.agg #[.int .i64 (xi (cI r) 0), .int .i64 (xi (cI r) 1), .int .i64 (xi (cI r) 2), .int .i64 (xi (cI r) 3), .int .i64 (xi (cI r) 4), .int .i64 (xi (cI r) 5), .int .i64 (xi (cI r) 6), .int .i64 (xi (cI r) 7), .int .i64 ((cI r).length : Int)], .int .i64 (x : Int)] W fun e w' => e = .returned (.bool (inI (cI r) (x : Int))) ∧ Below W.heap.size W w') := fun W => has_path (cI r) (x : Int) W hr8
    by_cases hin : x ∈ r
    · have HIN : Hid (inI (cI r) (x : Int) = true) := by rw [cI_in]; exact hideP (by simpa using hin)
      rw [HIN.out] at HASX
      obtain ⟨m, hm1, hm2⟩ : ∃ m, m < r.length ∧ r.getD m 0 = x := by
        obtain ⟨m, hm, e⟩ := List.mem_iff_getElem.1 hin
        exact ⟨m, hm, by rw [List.getD_eq_getElem?_getD, List.getElem?_eq_getElem hm]; exact e⟩
      obtain ⟨hF, hF8⟩ := hud m (by omega) hm1 hm2.symm HNO.out
      have HF := hideP hF
      have HUL := hideP (upDown_len (q := q) (r := r) (i := i) (m := m) (by omega) hm1)
      have HUH : Hid (∀ j, i < j → j < i + 1 + m → (upDown q r i m).getD j 0 = r.getD (m - (j - i)) 0) := fun j h1 h2 => upDown_hi (by omega) hm1 h1 h2
      have HU0 : Hid ((upDown q r i m).take (i + 1 + 0) = l) := by
        unfold upDown
        rw [hl, List.take_append_of_le_length (by simp; omega), List.take_take]
        congr 1
        omega
      rw [hF] at HUL HUH HU0
      have HIX : Hid (∀ W, Below wr.heap.size wr W → Calls Tryd.prog 93 #[.slice (some ⟨O, 0, none⟩) (cI r).length 8, .int .i64 (x : Int)] W fun e w' => e = .returned (.int .i64 (m : Int)) ∧ Below W.heap.size W w') := fun W hb => by
        refine index_at _ _ (cI r) (x : Int) W m (by omega) (own_ints (HC.out.o.below hb HC.out.o.2.2) hr8) (by rw [cI_len]; exact hm1) ?_ (fun i hi => ?_)
        · rw [xi_cI']; rw [hm2]
        · rw [xi_cI', ← hm2]
          exact fun e => HNW.out i m hi hm1 (by omega)
      clear hnx hmo hud hx hlast hll hi hl hin hm2 HMO HUD HPA hF HNO
      have hrl : ((cI r).length : Int) ≤ 8 := by omega
      have hrl0 : (0 : Int) ≤ ((cI r).length : Int) := by omega
      go_wp2
      go_region_held3 (fun w' => w'.cell? ⟨P, 0, none⟩ = some (.int .i64 (xi (cI l) 0)) ∧ w'.cell? ⟨P, 1, none⟩ = some (.int .i64 (xi (cI l) 1)) ∧ w'.cell? ⟨P, 2, none⟩ = some (.int .i64 (xi (cI l) 2)) ∧ w'.cell? ⟨P, 3, none⟩ = some (.int .i64 (xi (cI l) 3)) ∧ w'.cell? ⟨P, 4, none⟩ = some (.int .i64 (xi (cI l) 4)) ∧ w'.cell? ⟨P, 5, none⟩ = some (.int .i64 (xi (cI l) 5)) ∧ w'.cell? ⟨P, 6, none⟩ = some (.int .i64 (xi (cI l) 6)) ∧ w'.cell? ⟨P, 7, none⟩ = some (.int .i64 (xi (cI l) 7)) ∧ w'.cell? ⟨P, 8, none⟩ = some (.int .i64 ((cI l).length : Int)) ∧ w'.cell? ⟨O, 0, none⟩ = some (.int .i64 (xi (cI r) 0)) ∧ w'.cell? ⟨O, 1, none⟩ = some (.int .i64 (xi (cI r) 1)) ∧ w'.cell? ⟨O, 2, none⟩ = some (.int .i64 (xi (cI r) 2)) ∧ w'.cell? ⟨O, 3, none⟩ = some (.int .i64 (xi (cI r) 3)) ∧ w'.cell? ⟨O, 4, none⟩ = some (.int .i64 (xi (cI r) 4)) ∧ w'.cell? ⟨O, 5, none⟩ = some (.int .i64 (xi (cI r) 5)) ∧ w'.cell? ⟨O, 6, none⟩ = some (.int .i64 (xi (cI r) 6)) ∧ w'.cell? ⟨O, 7, none⟩ = some (.int .i64 (xi (cI r) 7)) ∧ w'.cell? ⟨O, 8, none⟩ = some (.int .i64 ((cI r).length : Int))) (first | exact HELD.out _ b5.out | exact HELD.out _ b4.out | exact HELD.out _ b3.out | exact HELD.out _ D0.out) (first | (go_at_call 91; refine (HASX.out w3).mono ?_; rintro e w4 ⟨rfl, hb4⟩; have b4 : Hid (Below wr.heap.size wr w4) := hideP (b3.out.trans (hb4.mono b3.out.size)); clear hb4) | (go_at_call 92; (with_reducible refine EN0.out.mono ?_); rintro e w3 ⟨rfl, hb3⟩; have b3 : Hid (Below wr.heap.size wr w3) := hideP (D0.out.trans hb3); clear hb3))
      have B4d : Hid (Below wr.heap.size wr w4.drew) := b4.out.drew
      have EN4 := hideP (ENX.out w4.drew)
      clear b3 EN0 D0 HASX
      go_wp2
      go_region_held3 (fun w' => w'.cell? ⟨P, 0, none⟩ = some (.int .i64 (xi (cI l) 0)) ∧ w'.cell? ⟨P, 1, none⟩ = some (.int .i64 (xi (cI l) 1)) ∧ w'.cell? ⟨P, 2, none⟩ = some (.int .i64 (xi (cI l) 2)) ∧ w'.cell? ⟨P, 3, none⟩ = some (.int .i64 (xi (cI l) 3)) ∧ w'.cell? ⟨P, 4, none⟩ = some (.int .i64 (xi (cI l) 4)) ∧ w'.cell? ⟨P, 5, none⟩ = some (.int .i64 (xi (cI l) 5)) ∧ w'.cell? ⟨P, 6, none⟩ = some (.int .i64 (xi (cI l) 6)) ∧ w'.cell? ⟨P, 7, none⟩ = some (.int .i64 (xi (cI l) 7)) ∧ w'.cell? ⟨P, 8, none⟩ = some (.int .i64 ((cI l).length : Int)) ∧ w'.cell? ⟨O, 0, none⟩ = some (.int .i64 (xi (cI r) 0)) ∧ w'.cell? ⟨O, 1, none⟩ = some (.int .i64 (xi (cI r) 1)) ∧ w'.cell? ⟨O, 2, none⟩ = some (.int .i64 (xi (cI r) 2)) ∧ w'.cell? ⟨O, 3, none⟩ = some (.int .i64 (xi (cI r) 3)) ∧ w'.cell? ⟨O, 4, none⟩ = some (.int .i64 (xi (cI r) 4)) ∧ w'.cell? ⟨O, 5, none⟩ = some (.int .i64 (xi (cI r) 5)) ∧ w'.cell? ⟨O, 6, none⟩ = some (.int .i64 (xi (cI r) 6)) ∧ w'.cell? ⟨O, 7, none⟩ = some (.int .i64 (xi (cI r) 7)) ∧ w'.cell? ⟨O, 8, none⟩ = some (.int .i64 ((cI r).length : Int))) (first | exact HELD.out _ b6.out | exact HELD.out _ b5.out | exact HELD.out _ B4d.out) (first | (go_at_call 93; refine (HIX.out w5 b5.out).mono ?_; rintro e w6 ⟨rfl, hb6⟩; have b6 : Hid (Below wr.heap.size wr w6) := hideP (b5.out.trans (hb6.mono b5.out.size)); clear hb6) | (go_at_call 92; (with_reducible refine EN4.out.mono ?_); rintro e w5 ⟨rfl, hb5⟩; have b5 : Hid (Below wr.heap.size wr w5) := hideP (B4d.out.trans (hb5.mono B4d.out.size)); clear hb5))
      have C6 : Hid (Upd us w w6 A P O l r) := ⟨HC.out.R.below b6.out HC.out.R.2.2, HC.out.U.below b6.out HC.out.U.2.2, HC.out.p.below b6.out HC.out.p.2.2, HC.out.o.below b6.out HC.out.o.2.2, HC.out.B.trans (b6.out.mono HC.out.B.size), HC.out.h, HC.out.k, HC.out.d, HC.out.a⟩
      have hwm := wrap_pred m (by have := HLB.out; omega)
      clear EN4 B4d b4 b5 b6 HELD HIX HC ENX hrl hrl0 hc8 hc0 hx9 hx0 hx8
      go_wp2
      clear hwm
      go_loopw [10] (fun at1 wv => ∃ t : Nat, t ≤ m ∧ at1 = .int .i64 ((t : Int) - 1) ∧ Upd us w wv A P O (F.take (i + 1 + (m - t))) r)
        (fun at1 _ => (intOf at1 + 1).toNat)
      case atStart => exact ⟨m, Nat.le_refl _, rfl, by rw [Nat.sub_self, HU0.out]; exact C6.out⟩
      case round =>
        clear C6
        obtain ⟨t, ht, rfl, hC⟩ := hrel
        have HC := hideP hC
        clear hC
        cases t with
        | zero =>
          have hFl : F.take (i + 1 + (m - 0)) = F := by rw [Nat.sub_zero, List.take_of_length_le (by rw [HUL.out]; exact Nat.le_refl _)]
          rw [hFl] at HC
          have hz : ((0 : Nat) : Int) - 1 = -1 := rfl
          rw [hz]
          obtain ⟨d0, d1, d2, d3, d4, d5, d6, d7, d8, _⟩ := HC.out.held _ (Below.refl _ _)
          have r0 : wr.cell? ⟨w.heap.size, 0, none⟩ = some (.int .i64 0) := HC.out.R.1 0 (by omega)
          have r1 : wr.cell? ⟨w.heap.size, 1, none⟩ = some (.int .i64 0) := HC.out.R.1 1 (by omega)
          have r2 : wr.cell? ⟨w.heap.size, 2, none⟩ = some (.int .i64 0) := HC.out.R.1 2 (by omega)
          have r3 : wr.cell? ⟨w.heap.size, 3, none⟩ = some (.int .i64 0) := HC.out.R.1 3 (by omega)
          have r4 : wr.cell? ⟨w.heap.size, 4, none⟩ = some (.int .i64 0) := HC.out.R.1 4 (by omega)
          have r5 : wr.cell? ⟨w.heap.size, 5, none⟩ = some (.int .i64 0) := HC.out.R.1 5 (by omega)
          have r6 : wr.cell? ⟨w.heap.size, 6, none⟩ = some (.int .i64 0) := HC.out.R.1 6 (by omega)
          have r7 : wr.cell? ⟨w.heap.size, 7, none⟩ = some (.int .i64 0) := HC.out.R.1 7 (by omega)
          have r8 : wr.cell? ⟨w.heap.size, 8, none⟩ = some (.int .i64 0) := HC.out.R.1 8 (by omega)
          have gz := HC.out.R.2.1
          have HB9 := hideP HC.out.B
          have HPV : Hid (pathV (cI F) = .agg #[.int .i64 (xi (cI F) 0), .int .i64 (xi (cI F) 1), .int .i64 (xi (cI F) 2), .int .i64 (xi (cI F) 3), .int .i64 (xi (cI F) 4), .int .i64 (xi (cI F) 5), .int .i64 (xi (cI F) 6), .int .i64 (xi (cI F) 7), .int .i64 ((cI F).length : Int)]) := hideP rfl
          clear HC HU0 HUL HUH HF HLA HLB HU HT HNW HB8 HIN
          go_wp2
          refine bodyPost_ret (v := .agg #[.int .i64 (xi (cI F) 0), .int .i64 (xi (cI F) 1), .int .i64 (xi (cI F) 2), .int .i64 (xi (cI F) 3), .int .i64 (xi (cI F) 4), .int .i64 (xi (cI F) 5), .int .i64 (xi (cI F) 6), .int .i64 (xi (cI F) 7), .int .i64 ((cI F).length : Int)]) ?_ rfl ⟨by rw [HPV.out], ?_⟩
          · simp [results, Tryd.results59, go_sem, r0, r1, r2, r3, r4, r5, r6, r7, r8]
          · exact (((((((((HB9.out.setCell (p := ⟨w.heap.size, 0, none⟩) (Nat.le_refl _) _).setCell (p := ⟨w.heap.size, 1, none⟩) (Nat.le_refl _) _).setCell (p := ⟨w.heap.size, 2, none⟩) (Nat.le_refl _) _).setCell (p := ⟨w.heap.size, 3, none⟩) (Nat.le_refl _) _).setCell (p := ⟨w.heap.size, 4, none⟩) (Nat.le_refl _) _).setCell (p := ⟨w.heap.size, 5, none⟩) (Nat.le_refl _) _).setCell (p := ⟨w.heap.size, 6, none⟩) (Nat.le_refl _) _).setCell (p := ⟨w.heap.size, 7, none⟩) (Nat.le_refl _) _).setCell (p := ⟨w.heap.size, 8, none⟩) (Nat.le_refl _) _)
        | succ j =>
          have e1 : ((j + 1 : Nat) : Int) - 1 = (j : Int) := by omega
          rw [e1]
          have hjr : j < r.length := by omega
          have hj8' : j < 8 := by have := HLB.out; omega
          have hj8 : (j : Int) < 8 := by omega
          have hj0 : (0 : Int) ≤ (j : Int) := by omega
          obtain ⟨y, hy⟩ : ∃ y, y = r.getD j 0 := ⟨_, rfl⟩
          have hFy : F.getD (i + 1 + (m - (j + 1))) 0 = y := by
            rw [HUH.out _ (by omega) (by omega), hy]; congr 1; omega
          obtain ⟨l3, hl3⟩ : ∃ l3, l3 = F.take (i + 1 + (m - (j + 1))) := ⟨_, rfl⟩
          have HL2 : Hid (F.take (i + 1 + (m - j)) = l3 ++ [y]) := by
            rw [show i + 1 + (m - j) = i + 1 + (m - (j + 1)) + 1 by omega, take_last (by rw [HUL.out]; omega), ← hl3, hFy]; exact hideP rfl
          have hl3l : l3.length = i + 1 + (m - (j + 1)) := by rw [hl3, List.length_take, HUL.out]; omega
          rw [← hl3] at HC
          have hc7 : (cI l3).length < 8 := by rw [cI_len, hl3l]; omega
          have WTH : Hid (∀ W, Calls Tryd.prog 68 #[.agg #[.int .i64 (xi (cI l3) 0), .int .i64 (xi (cI l3) 1), .int .i64 (xi (cI l3) 2), .int .i64 (xi (cI l3) 3), .int .i64 (xi (cI l3) 4), .int .i64 (xi (cI l3) 5), .int .i64 (xi (cI l3) 6), .int .i64 (xi (cI l3) 7), .int .i64 ((cI l3).length : Int)], .int .i64 (y : Int)] W fun e w' => e = .returned (.agg #[.int .i64 (xi (cI (l3 ++ [y])) 0), .int .i64 (xi (cI (l3 ++ [y])) 1), .int .i64 (xi (cI (l3 ++ [y])) 2), .int .i64 (xi (cI (l3 ++ [y])) 3), .int .i64 (xi (cI (l3 ++ [y])) 4), .int .i64 (xi (cI (l3 ++ [y])) 5), .int .i64 (xi (cI (l3 ++ [y])) 6), .int .i64 (xi (cI (l3 ++ [y])) 7), .int .i64 ((cI (l3 ++ [y])).length : Int)]) ∧ Below W.heap.size W w') := fun W => with_to (cI l3) (cI (l3 ++ [y])) (y : Int) W hc7 (cI_snoc l3 y)
          have HELD : Hid (∀ W, Below wr.heap.size wr W → W.cell? ⟨P, 0, none⟩ = some (.int .i64 (xi (cI l3) 0)) ∧ W.cell? ⟨P, 1, none⟩ = some (.int .i64 (xi (cI l3) 1)) ∧ W.cell? ⟨P, 2, none⟩ = some (.int .i64 (xi (cI l3) 2)) ∧ W.cell? ⟨P, 3, none⟩ = some (.int .i64 (xi (cI l3) 3)) ∧ W.cell? ⟨P, 4, none⟩ = some (.int .i64 (xi (cI l3) 4)) ∧ W.cell? ⟨P, 5, none⟩ = some (.int .i64 (xi (cI l3) 5)) ∧ W.cell? ⟨P, 6, none⟩ = some (.int .i64 (xi (cI l3) 6)) ∧ W.cell? ⟨P, 7, none⟩ = some (.int .i64 (xi (cI l3) 7)) ∧ W.cell? ⟨P, 8, none⟩ = some (.int .i64 ((cI l3).length : Int)) ∧ W.cell? ⟨O, 0, none⟩ = some (.int .i64 (xi (cI r) 0)) ∧ W.cell? ⟨O, 1, none⟩ = some (.int .i64 (xi (cI r) 1)) ∧ W.cell? ⟨O, 2, none⟩ = some (.int .i64 (xi (cI r) 2)) ∧ W.cell? ⟨O, 3, none⟩ = some (.int .i64 (xi (cI r) 3)) ∧ W.cell? ⟨O, 4, none⟩ = some (.int .i64 (xi (cI r) 4)) ∧ W.cell? ⟨O, 5, none⟩ = some (.int .i64 (xi (cI r) 5)) ∧ W.cell? ⟨O, 6, none⟩ = some (.int .i64 (xi (cI r) 6)) ∧ W.cell? ⟨O, 7, none⟩ = some (.int .i64 (xi (cI r) 7)) ∧ W.cell? ⟨O, 8, none⟩ = some (.int .i64 ((cI r).length : Int))) := hideP HC.out.held
          have hox : ∀ W, Below wr.heap.size wr W → W.cell? ⟨O, j, none⟩ = some (.int .i64 (y : Int)) := fun W hb => (hb.cell (p := ⟨O, j, none⟩) HC.out.o.2.2).trans ((HC.out.o.1 j (by omega)).trans (by rw [pcell, if_pos hj8', xi_cI', hy]))
          have HOX := hideP hox
          obtain ⟨l2, hl2⟩ : ∃ l2, l2 = cI (l3 ++ [y]) := ⟨_, rfl⟩
          rw [← hl2] at WTH
          have HL3 := hideP hl2
          have D0 : Hid (Below wr.heap.size wr wr.drew) := (Below.refl _ _).drew
          have WT0 := hideP (WTH.out wr.drew)
          have hw1 := wrap_pred j hj8'
          obtain ⟨e0, e1', e2, e3, e4, e5, e6, e7, e8, _⟩ := HELD.out wr (Below.refl _ _)
          have eo := hox wr (Below.refl _ _)
          clear hl2 hl3 hFy hy hox e1 HUL HUH HU0 HF hl3l
          go_wp2
          apply wp_weak1 (J := fun W => Upd us w W A P O (l3 ++ [y]) r)
          case h =>
            go_region_law (first | (go_simp; go_at_call 68; (with_reducible refine WT0.out.mono ?_); rintro e w6 ⟨rfl, hb6⟩; have b6 : Hid (Below wr.heap.size wr w6) := hideP (D0.out.trans hb6); have hf6 : ∀ j, w6.frozen? ⟨P, j, none⟩ = false := (HC.out.p.below b6.out HC.out.p.2.2).2.1; have J6 := hideP (HC.out.stored b6.out HL3.out); obtain ⟨p0, p1, p2, p3, p4, p5, p6, p7, p8, _⟩ := HELD.out _ b6.out; have po := HOX.out _ b6.out; clear hb6))
            all_goals exact ⟨rfl, J6.out⟩
          intro W hJ
          have G := hideP hJ
          clear hJ HELD WTH WT0 HC D0 HOX e0 e1' e2 e3 e4 e5 e6 e7 e8 eo
          go_wp2
          go_roundw
          case measure => (simp [intOf] <;> omega)
          case rel => exact ⟨j, by omega, rfl, by rw [HL2.out]; exact G.out⟩
    · have HIN : Hid (inI (cI r) (x : Int) = false) := by rw [cI_in]; exact hideP (by simpa using hin)
      rw [HIN.out] at HASX
      have hi2 := hmo hin
      obtain ⟨y, hy⟩ : ∃ y, y = parN 8 us x := ⟨_, rfl⟩
      have hyq : y = q.getD (i + 1) 0 := by rw [hy]; exact hnx hi2
      have HNO2 : Hid (∀ j, j < i + 1 → q.getD j 0 ∉ r) := fun j hj => by
        by_cases h : j = i
        · subst h; rw [← hx]; exact hin
        · exact HNO.out j (by omega)
      have HL2 : Hid (q.take (i + 1 + 1) = l ++ [y]) := by rw [take_last (by omega), ← hl, ← hyq]; exact hideP rfl
      have hc7 : (cI l).length < 8 := by rw [cI_len, hll]; have := HLA.out; omega
      have WTH : Hid (∀ W, Calls Tryd.prog 68 #[.agg #[.int .i64 (xi (cI l) 0), .int .i64 (xi (cI l) 1), .int .i64 (xi (cI l) 2), .int .i64 (xi (cI l) 3), .int .i64 (xi (cI l) 4), .int .i64 (xi (cI l) 5), .int .i64 (xi (cI l) 6), .int .i64 (xi (cI l) 7), .int .i64 ((cI l).length : Int)], .int .i64 (y : Int)] W fun e w' => e = .returned (.agg #[.int .i64 (xi (cI (l ++ [y])) 0), .int .i64 (xi (cI (l ++ [y])) 1), .int .i64 (xi (cI (l ++ [y])) 2), .int .i64 (xi (cI (l ++ [y])) 3), .int .i64 (xi (cI (l ++ [y])) 4), .int .i64 (xi (cI (l ++ [y])) 5), .int .i64 (xi (cI (l ++ [y])) 6), .int .i64 (xi (cI (l ++ [y])) 7), .int .i64 ((cI (l ++ [y])).length : Int)]) ∧ Below W.heap.size W w') := fun W => with_to (cI l) (cI (l ++ [y])) (y : Int) W hc7 (cI_snoc l y)
      have HUX : Hid (∀ W, Below wr.heap.size wr W → W.cell? ⟨A, x, none⟩ = some (.int .i64 (y : Int))) := fun W hb => (hb.cell (p := ⟨A, x, none⟩) HC.out.U.2.2).trans (by rw [HC.out.U.1 x hx8, hy]; rfl)
      have hgk : 0 < gk := by omega
      have HI1 : Hid (i + 1 + 1 + (gk - 1) = q.length) := by show i + 1 + 1 + (gk - 1) = q.length; omega
      obtain ⟨l2, hl2⟩ : ∃ l2, l2 = cI (l ++ [y]) := ⟨_, rfl⟩
      rw [← hl2] at WTH
      have HL3 := hideP hl2
      clear hnx hmo hud hx hl hy hlast hyq hll hi hl2 hin HNO HMO HUD HPA hi2
      go_wp2
      go_region_held3 (fun w' => w'.cell? ⟨P, 0, none⟩ = some (.int .i64 (xi (cI l) 0)) ∧ w'.cell? ⟨P, 1, none⟩ = some (.int .i64 (xi (cI l) 1)) ∧ w'.cell? ⟨P, 2, none⟩ = some (.int .i64 (xi (cI l) 2)) ∧ w'.cell? ⟨P, 3, none⟩ = some (.int .i64 (xi (cI l) 3)) ∧ w'.cell? ⟨P, 4, none⟩ = some (.int .i64 (xi (cI l) 4)) ∧ w'.cell? ⟨P, 5, none⟩ = some (.int .i64 (xi (cI l) 5)) ∧ w'.cell? ⟨P, 6, none⟩ = some (.int .i64 (xi (cI l) 6)) ∧ w'.cell? ⟨P, 7, none⟩ = some (.int .i64 (xi (cI l) 7)) ∧ w'.cell? ⟨P, 8, none⟩ = some (.int .i64 ((cI l).length : Int)) ∧ w'.cell? ⟨O, 0, none⟩ = some (.int .i64 (xi (cI r) 0)) ∧ w'.cell? ⟨O, 1, none⟩ = some (.int .i64 (xi (cI r) 1)) ∧ w'.cell? ⟨O, 2, none⟩ = some (.int .i64 (xi (cI r) 2)) ∧ w'.cell? ⟨O, 3, none⟩ = some (.int .i64 (xi (cI r) 3)) ∧ w'.cell? ⟨O, 4, none⟩ = some (.int .i64 (xi (cI r) 4)) ∧ w'.cell? ⟨O, 5, none⟩ = some (.int .i64 (xi (cI r) 5)) ∧ w'.cell? ⟨O, 6, none⟩ = some (.int .i64 (xi (cI r) 6)) ∧ w'.cell? ⟨O, 7, none⟩ = some (.int .i64 (xi (cI r) 7)) ∧ w'.cell? ⟨O, 8, none⟩ = some (.int .i64 ((cI r).length : Int))) (first | exact HELD.out _ b4.out | exact HELD.out _ b3.out | exact HELD.out _ D0.out) (first | (go_at_call 91; refine (HASX.out w3).mono ?_; rintro e w4 ⟨rfl, hb4⟩; have b4 : Hid (Below wr.heap.size wr w4) := hideP (b3.out.trans (hb4.mono b3.out.size)); clear hb4) | (go_at_call 92; (with_reducible refine EN0.out.mono ?_); rintro e w3 ⟨rfl, hb3⟩; have b3 : Hid (Below wr.heap.size wr w3) := hideP (D0.out.trans hb3); clear hb3))
      have B4d : Hid (Below wr.heap.size wr w4.drew) := b4.out.drew
      have EN4 := hideP (ENX.out w4.drew)
      clear b3 EN0 D0 HASX
      obtain ⟨e0, e1, e2, e3, e4, e5, e6, e7, e8, _⟩ := HELD.out _ b4.out
      have eu := HUX.out _ b4.out
      go_wp2
      apply wp_weak1 (J := fun W => Upd us w W A P O (l ++ [y]) r)
      case h =>
        go_region_law (first | (go_simp; go_at_call 68; refine (WTH.out w5).mono ?_; rintro e w6 ⟨rfl, hb6⟩; have b6 : Hid (Below wr.heap.size wr w6) := hideP (b5.out.trans (hb6.mono b5.out.size)); have hf6 : ∀ j, w6.frozen? ⟨P, j, none⟩ = false := (HC.out.p.below b6.out HC.out.p.2.2).2.1; have J6 := hideP (HC.out.stored b6.out HL3.out); obtain ⟨p0, p1, p2, p3, p4, p5, p6, p7, p8, _⟩ := HELD.out _ b6.out; have pu := HUX.out _ b6.out; clear hb6) | (go_simp; go_at_call 92; (with_reducible refine EN4.out.mono ?_); rintro e w5 ⟨rfl, hb5⟩; have b5 : Hid (Below wr.heap.size wr w5) := hideP (B4d.out.trans (hb5.mono B4d.out.size)); obtain ⟨m0, m1, m2, m3, m4, m5, m6, m7, m8, _⟩ := HELD.out _ b5.out; have mu := HUX.out _ b5.out; clear hb5))
        all_goals exact ⟨rfl, J6.out⟩
      intro W hJ
      have G := hideP hJ
      clear hJ HELD ENX EN4 WTH HC B4d b4 HUX
      go_wp2
      go_roundg (gk - 1)
      case measure => omega
      case rel => exact ⟨i + 1, HI1.out, HNO2.out, by rw [HL2.out]; exact G.out⟩

end Go.Proofs.YtloicmngoaccoaaDoor
