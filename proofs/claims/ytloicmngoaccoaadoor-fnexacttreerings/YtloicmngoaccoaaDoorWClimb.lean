/- Walk of impl.parents.climb: the way up. -/
import Derived.Test.YtloicmngoaccoaaDoorWParents
import Derived.Test.YtloicmngoaccoaaDoorWWayOk2
import Derived.Test.YtloicmngoaccoaaDoorPartWTell
import Derived.Deep.RegionHeld3
namespace Go.Proofs.YtloicmngoaccoaaDoor
open Go.RowKit
set_option linter.unusedVariables false

theorem Trn.nth {K : Int} {us : List (Int × Int)} {Kn : Nat} (t : Trn K us Kn) {k : Nat} (hk : k < Kn) : ∀ i, i < (rtP K us k).length → (rtP K us k).getD i 0 < Kn ∧ rtP K us ((rtP K us k).getD i 0) = (rtP K us k).drop i := by
  intro i
  induction i with
  | zero => intro _; rw [(t.rt hk).fst]; exact ⟨hk, rfl⟩
  | succ i ih =>
    intro hi
    obtain ⟨h1, h2⟩ := ih (by omega)
    have hd : (rtP K us k).drop i = (rtP K us k).getD i 0 :: (rtP K us k).getD (i + 1) 0 :: (rtP K us k).drop (i + 2) := by
      rw [List.drop_eq_getElem_cons (by omega), List.drop_eq_getElem_cons hi]
      congr 1
      · rw [List.getD_eq_getElem?_getD, List.getElem?_eq_getElem (by omega)]; rfl
      · congr 1
        rw [List.getD_eq_getElem?_getD, List.getElem?_eq_getElem hi]; rfl
    rw [hd] at h2
    obtain ⟨q1, _, _, q4⟩ := t.step h1 h2
    refine ⟨q1, ?_⟩
    rw [q4, List.drop_eq_getElem_cons hi]
    congr 1
    rw [List.getD_eq_getElem?_getD, List.getElem?_eq_getElem hi]; rfl
theorem Trn.parAt {K : Int} {us : List (Int × Int)} {Kn : Nat} (t : Trn K us Kn) {k : Nat} (hk : k < Kn) {i : Nat} (hi : i < (rtP K us k).length) : (i + 1 < (rtP K us k).length → parN K us ((rtP K us k).getD i 0) = (rtP K us k).getD (i + 1) 0) ∧ (i + 1 = (rtP K us k).length → parN K us ((rtP K us k).getD i 0) = (rtP K us k).getD i 0) := by
  obtain ⟨h1, h2⟩ := t.nth hk i hi
  unfold parN
  rw [h2]
  constructor
  · intro h
    have e : (rtP K us k).getD (i + 1) 0 = (rtP K us k)[i + 1] := by rw [List.getD_eq_getElem?_getD, List.getElem?_eq_getElem h]; rfl
    rw [e, List.getD_eq_getElem?_getD, List.getElem?_drop, List.getElem?_eq_getElem h]; rfl
  · intro h
    rw [List.getD_eq_getElem?_getD, List.getElem?_drop, List.getElem?_eq_none (by omega)]; rfl
theorem take_last {q : List Nat} {i : Nat} (h : i < q.length) : q.take (i + 1) = q.take i ++ [q.getD i 0] := by
  rw [List.take_add_one, List.getElem?_eq_getElem h, List.getD_eq_getElem?_getD, List.getElem?_eq_getElem h]; rfl
/-- what stands while one climbs -/
structure Clm (us : List (Int × Int)) (w wr : World) (A P : Nat) (l : List Nat) : Prop where
  R : OwnI wr w.heap.size 9 (fun _ => .int .i64 0)
  U : OwnI wr A 8 (pcellN (parN 8 us))
  p : OwnI wr P 9 (pcell (cI l))
  B : Below w.heap.size w wr
  h : w.heap.size < P
  a : A < w.heap.size
def postW (Q : Exit → Act → World → Prop) (aa : Act) (J : World → Prop) : Exit → Act → World → Prop
  | .normal, a, w => a = aa ∧ J w
  | e, a, w => Q e a w
theorem wp_weak1 {P : Program} {c : Code} {Q : Exit → Act → World → Prop} {a : Act} {w : World} {aa : Act} (J : World → Prop) (h : c.wp P (postW Q aa J) a w) (hk : ∀ w', J w' → Q .normal aa w') : c.wp P Q a w :=
  Code.wp_mono (fun e a' w' h => by
    cases e with
    | normal => obtain ⟨rfl, hj⟩ := h; exact hk _ hj
    | _ => exact h) h
theorem putPath_other {w : World} {P g n : Nat} {l : List Int} {f : Nat → Value} (h : OwnI w g n f) (hne : P ≠ g) : OwnI (putPath w P l) g n f := by
  unfold putPath
  exact (((((((((h.other (by exact hne) _).other (by exact hne) _).other (by exact hne) _).other (by exact hne) _).other (by exact hne) _).other (by exact hne) _).other (by exact hne) _).other (by exact hne) _).other (by exact hne) _)
theorem Clm.stored {us : List (Int × Int)} {w wr w6 : World} {A P : Nat} {l : List Nat} {y : Nat} {l2 : List Int} (h : Clm us w wr A P l) (hb : Below wr.heap.size wr w6) (hl : l2 = cI (l ++ [y])) : Clm us w (putPath w6 P l2) A P (l ++ [y]) := by
  have hh := h.h
  have ha := h.a
  refine ⟨putPath_other (h.R.below hb h.R.2.2) (by omega), putPath_other (h.U.below hb h.U.2.2) (by omega), by rw [← hl]; exact putPath_own (h.p.below hb h.p.2.2), putPath_below (h.B.trans (hb.mono h.B.size)) (by omega), hh, ha⟩
set_option maxHeartbeats 6400000 in
theorem climb_any (us : List (Int × Int)) (t : Trn 8 us 8) (A k : Nat) (w : World) (hU : OwnI w A 8 (pcellN (parN 8 us))) (hk : k < 8) :
    Calls Tryd.prog 90 #[.pointer (some ⟨A, 0, none⟩), .int .i64 (k : Int)] w fun e w' => e = .returned (pathV (cI (rtP 8 us k))) ∧ Below w.heap.size w w' := by
  have HT := hideP t
  have HU := hideP hU
  clear t hU
  have HL8 : Hid ((rtP 8 us k).length ≤ 8) := by have := dep_lt HT.out hk; unfold depN at this; show (rtP 8 us k).length ≤ 8; omega
  have HP0 := hideP (HT.out.rt hk)
  have HPA : Hid (∀ i, i < (rtP 8 us k).length → (rtP 8 us k).getD i 0 < 8 ∧ (i + 1 < (rtP 8 us k).length → parN 8 us ((rtP 8 us k).getD i 0) = (rtP 8 us k).getD (i + 1) 0 ∧ (rtP 8 us k).getD (i + 1) 0 ≠ (rtP 8 us k).getD i 0) ∧ (i + 1 = (rtP 8 us k).length → parN 8 us ((rtP 8 us k).getD i 0) = (rtP 8 us k).getD i 0)) := fun i hi => ⟨(HT.out.nth hk i hi).1, fun h => ⟨(HT.out.parAt hk hi).1 h, fun e => HP0.out.pw.new i (i + 1) (by omega) h e.symm⟩, (HT.out.parAt hk hi).2⟩
  have H1 : Hid ([k] = (rtP 8 us k).take 1) := by
    have := take_last (q := rtP 8 us k) (i := 0) HP0.out.pos
    rw [this, HP0.out.fst]; exact hideP rfl
  have HP1 := HP0.out.pos
  obtain ⟨q, hq⟩ : ∃ q, q = rtP 8 us k := ⟨_, rfl⟩
  rw [← hq] at HL8 HPA H1 HP1 ⊢
  clear hq HP0
  go_enter Tryd.func90, Tryd.ntmps90
  go_wp2_with fail
  refine (with_path [] (k : Int) _ (by simp)).mono ?_
  rintro e w1 ⟨rfl, hb1⟩
  have hA := HU.out.2.2
  have C1 : ∀ t', Hid (Clm us w (w1.alloc (.cells #[.int .i64 (xi (cI [k]) 0), .int .i64 (xi (cI [k]) 1), .int .i64 (xi (cI [k]) 2), .int .i64 (xi (cI [k]) 3), .int .i64 (xi (cI [k]) 4), .int .i64 (xi (cI [k]) 5), .int .i64 (xi (cI [k]) 6), .int .i64 (xi (cI [k]) 7), .int .i64 ((cI [k]).length : Int)] t')) A w1.heap.size [k]) := fun t' => by
    have hz := hb1.size
    simp at hz
    have z : OwnI (w.alloc (.cells #[.int .i64 0, .int .i64 0, .int .i64 0, .int .i64 0, .int .i64 0, .int .i64 0, .int .i64 0, .int .i64 0, .int .i64 0] 77)) w.heap.size 9 (fun _ => .int .i64 0) := by
      refine ⟨fun j hj => (World.cell?_alloc_at _ _ _ _ rfl).trans ?_, fun j => World.frozen?_alloc_at _ _ _ _ rfl, by simp⟩
      have : j = 0 ∨ j = 1 ∨ j = 2 ∨ j = 3 ∨ j = 4 ∨ j = 5 ∨ j = 6 ∨ j = 7 ∨ j = 8 := by omega
      rcases this with rfl | rfl | rfl | rfl | rfl | rfl | rfl | rfl | rfl <;> rfl
    have u1 := HU.out.below (below_one w (.cells #[.int .i64 0, .int .i64 0, .int .i64 0, .int .i64 0, .int .i64 0, .int .i64 0, .int .i64 0, .int .i64 0, .int .i64 0] 77)) hA
    have o := below_one w1 (.cells #[.int .i64 (xi (cI [k]) 0), .int .i64 (xi (cI [k]) 1), .int .i64 (xi (cI [k]) 2), .int .i64 (xi (cI [k]) 3), .int .i64 (xi (cI [k]) 4), .int .i64 (xi (cI [k]) 5), .int .i64 (xi (cI [k]) 6), .int .i64 (xi (cI [k]) 7), .int .i64 ((cI [k]).length : Int)] t')
    exact ⟨(z.below hb1 (by simp)).below o (by omega), (u1.below hb1 (by simp; omega)).below o (by omega), own_path w1 (cI [k]) t', ((below_one w _).trans (hb1.mono (by simp))).trans (o.mono (by omega)), by omega, hA⟩
  have hP : w.heap.size < w1.heap.size := by have := hb1.size; simp at this; omega
  obtain ⟨P, hPe⟩ : ∃ P, P = w1.heap.size := ⟨_, rfl⟩
  rw [← hPe] at C1 hP
  unfold pathV
  clear hb1
  go_wp2
  rw [← hPe]
  clear hPe
  go_loopg [] (q.length - 1) (fun gk wr => ∃ i, i + 1 + gk = q.length ∧ Clm us w wr A P (q.take (i + 1)))
  case atStart =>
    refine ⟨0, by omega, ?_⟩
    show Clm us w _ A P (q.take 1)
    rw [← H1.out]
    exact (C1 _).out
  case round =>
    clear C1 H1
    obtain ⟨i, hi, hC⟩ := hrel
    obtain ⟨hx8, hnx, hrt⟩ := HPA.out i (by omega)
    obtain ⟨x, hx⟩ : ∃ x, x = q.getD i 0 := ⟨_, rfl⟩
    rw [← hx] at hx8 hnx hrt
    obtain ⟨l, hl⟩ : ∃ l, l = q.take (i + 1) := ⟨_, rfl⟩
    have hll : l.length = i + 1 := by rw [hl, List.length_take]; omega
    have hlast : lastI (cI l) = (x : Int) := by
      rw [cI_last (by omega), hl, take_last (by omega), lastN_snoc, hx]
    rw [← hl] at hC
    obtain ⟨y, hy⟩ : ∃ y, y = parN 8 us x := ⟨_, rfl⟩
    have hx9 : (x : Int) < 8 := by omega
    have hx0 : (0 : Int) ≤ (x : Int) := by omega
    have HELD : Hid (∀ W, Below wr.heap.size wr W → W.cell? ⟨P, 0, none⟩ = some (.int .i64 (xi (cI l) 0)) ∧ W.cell? ⟨P, 1, none⟩ = some (.int .i64 (xi (cI l) 1)) ∧ W.cell? ⟨P, 2, none⟩ = some (.int .i64 (xi (cI l) 2)) ∧ W.cell? ⟨P, 3, none⟩ = some (.int .i64 (xi (cI l) 3)) ∧ W.cell? ⟨P, 4, none⟩ = some (.int .i64 (xi (cI l) 4)) ∧ W.cell? ⟨P, 5, none⟩ = some (.int .i64 (xi (cI l) 5)) ∧ W.cell? ⟨P, 6, none⟩ = some (.int .i64 (xi (cI l) 6)) ∧ W.cell? ⟨P, 7, none⟩ = some (.int .i64 (xi (cI l) 7)) ∧ W.cell? ⟨P, 8, none⟩ = some (.int .i64 ((cI l).length : Int)) ∧ W.cell? ⟨A, x, none⟩ = some (.int .i64 (y : Int))) := fun W hb => ⟨(hb.cell (p := ⟨P, 0, none⟩) hC.p.2.2).trans (hC.p.1 0 (by omega)), (hb.cell (p := ⟨P, 1, none⟩) hC.p.2.2).trans (hC.p.1 1 (by omega)), (hb.cell (p := ⟨P, 2, none⟩) hC.p.2.2).trans (hC.p.1 2 (by omega)), (hb.cell (p := ⟨P, 3, none⟩) hC.p.2.2).trans (hC.p.1 3 (by omega)), (hb.cell (p := ⟨P, 4, none⟩) hC.p.2.2).trans (hC.p.1 4 (by omega)), (hb.cell (p := ⟨P, 5, none⟩) hC.p.2.2).trans (hC.p.1 5 (by omega)), (hb.cell (p := ⟨P, 6, none⟩) hC.p.2.2).trans (hC.p.1 6 (by omega)), (hb.cell (p := ⟨P, 7, none⟩) hC.p.2.2).trans (hC.p.1 7 (by omega)), (hb.cell (p := ⟨P, 8, none⟩) hC.p.2.2).trans (hC.p.1 8 (by omega)), (hb.cell (p := ⟨A, x, none⟩) hC.U.2.2).trans (by rw [hC.U.1 x hx8, hy]; rfl)⟩
    have D0 : Hid (Below wr.heap.size wr wr.drew) := (Below.refl _ _).drew
    have hc8 : (cI l).length ≤ 8 := by rw [cI_len, hll]; have := HL8.out; omega
    have hc0 : 0 < (cI l).length := by rw [cI_len, hll]; omega
    have ENX : Hid (∀ W, Calls Tryd.prog 92 #[.agg #[.int .i64 (xi (cI l) 0), .int .i64 (xi (cI l) 1), .int .i64 (xi (cI l) 2), .int .i64 (xi (cI l) 3), .int .i64 (xi (cI l) 4), .int .i64 (xi (cI l) 5), .int .i64 (xi (cI l) 6), .int .i64 (xi (cI l) 7), .int .i64 ((cI l).length : Int)]] W fun e w' => e = .returned (.int .i64 (x : Int)) ∧ Below W.heap.size W w') := fun W => end_path9 (cI l) (x : Int) W hc0 hc8 hlast
    have EN0 := hideP (ENX.out wr.drew)
    have HC := hideP hC
    clear hC
    by_cases hend : i + 1 = q.length
    · have hyx : y = x := by rw [hy, hrt hend]
      subst hyx
      have hlq : l = q := by rw [hl, hend, List.take_length]
      have HLQ := hideP hlq
      obtain ⟨m, hm⟩ : ∃ m, m = (cI l).length := ⟨_, rfl⟩
      clear hnx hrt hx hl hy hlast hlq hll hi hend
      go_wp2
      go_region_held3 (fun w' => w'.cell? ⟨P, 0, none⟩ = some (.int .i64 (xi (cI l) 0)) ∧ w'.cell? ⟨P, 1, none⟩ = some (.int .i64 (xi (cI l) 1)) ∧ w'.cell? ⟨P, 2, none⟩ = some (.int .i64 (xi (cI l) 2)) ∧ w'.cell? ⟨P, 3, none⟩ = some (.int .i64 (xi (cI l) 3)) ∧ w'.cell? ⟨P, 4, none⟩ = some (.int .i64 (xi (cI l) 4)) ∧ w'.cell? ⟨P, 5, none⟩ = some (.int .i64 (xi (cI l) 5)) ∧ w'.cell? ⟨P, 6, none⟩ = some (.int .i64 (xi (cI l) 6)) ∧ w'.cell? ⟨P, 7, none⟩ = some (.int .i64 (xi (cI l) 7)) ∧ w'.cell? ⟨P, 8, none⟩ = some (.int .i64 ((cI l).length : Int)) ∧ w'.cell? ⟨A, y, none⟩ = some (.int .i64 (y : Int))) (first | exact HELD.out _ b4.out | exact HELD.out _ b3.out | exact HELD.out _ D0.out) (first | (go_at_call 92; refine (ENX.out w3).mono ?_; rintro e w4 ⟨rfl, hb4⟩; have b4 : Hid (Below wr.heap.size wr w4) := hideP (b3.out.trans (hb4.mono b3.out.size)); clear hb4) | (go_at_call 92; (with_reducible refine EN0.out.mono ?_); rintro e w3 ⟨rfl, hb3⟩; have b3 : Hid (Below wr.heap.size wr w3) := hideP (D0.out.trans hb3); clear hb3))
      obtain ⟨d0, d1, d2, d3, d4, d5, d6, d7, d8, _⟩ := HELD.out _ b4.out
      have R4 := HC.out.R.below b4.out HC.out.R.2.2
      have r0 : w4.cell? ⟨w.heap.size, 0, none⟩ = some (.int .i64 0) := R4.1 0 (by omega)
      have r1 : w4.cell? ⟨w.heap.size, 1, none⟩ = some (.int .i64 0) := R4.1 1 (by omega)
      have r2 : w4.cell? ⟨w.heap.size, 2, none⟩ = some (.int .i64 0) := R4.1 2 (by omega)
      have r3 : w4.cell? ⟨w.heap.size, 3, none⟩ = some (.int .i64 0) := R4.1 3 (by omega)
      have r4 : w4.cell? ⟨w.heap.size, 4, none⟩ = some (.int .i64 0) := R4.1 4 (by omega)
      have r5 : w4.cell? ⟨w.heap.size, 5, none⟩ = some (.int .i64 0) := R4.1 5 (by omega)
      have r6 : w4.cell? ⟨w.heap.size, 6, none⟩ = some (.int .i64 0) := R4.1 6 (by omega)
      have r7 : w4.cell? ⟨w.heap.size, 7, none⟩ = some (.int .i64 0) := R4.1 7 (by omega)
      have r8 : w4.cell? ⟨w.heap.size, 8, none⟩ = some (.int .i64 0) := R4.1 8 (by omega)
      have gz := R4.2.1
      have HB9 := hideP (HC.out.B.trans (b4.out.mono HC.out.B.size))
      have HPV : Hid (pathV (cI q) = .agg #[.int .i64 (xi (cI l) 0), .int .i64 (xi (cI l) 1), .int .i64 (xi (cI l) 2), .int .i64 (xi (cI l) 3), .int .i64 (xi (cI l) 4), .int .i64 (xi (cI l) 5), .int .i64 (xi (cI l) 6), .int .i64 (xi (cI l) 7), .int .i64 ((cI l).length : Int)]) := by rw [← HLQ.out]; exact hideP rfl
      clear HELD ENX EN0 HC R4 b3 b4 HPA HL8 HU HT
      go_wp2
      refine bodyPost_ret (v := .agg #[.int .i64 (xi (cI l) 0), .int .i64 (xi (cI l) 1), .int .i64 (xi (cI l) 2), .int .i64 (xi (cI l) 3), .int .i64 (xi (cI l) 4), .int .i64 (xi (cI l) 5), .int .i64 (xi (cI l) 6), .int .i64 (xi (cI l) 7), .int .i64 ((cI l).length : Int)]) ?_ rfl ⟨by rw [HPV.out], ?_⟩
      · simp [results, Tryd.results90, go_sem, r0, r1, r2, r3, r4, r5, r6, r7, r8]
      · exact (((((((((HB9.out.setCell (p := ⟨w.heap.size, 0, none⟩) (Nat.le_refl _) _).setCell (p := ⟨w.heap.size, 1, none⟩) (Nat.le_refl _) _).setCell (p := ⟨w.heap.size, 2, none⟩) (Nat.le_refl _) _).setCell (p := ⟨w.heap.size, 3, none⟩) (Nat.le_refl _) _).setCell (p := ⟨w.heap.size, 4, none⟩) (Nat.le_refl _) _).setCell (p := ⟨w.heap.size, 5, none⟩) (Nat.le_refl _) _).setCell (p := ⟨w.heap.size, 6, none⟩) (Nat.le_refl _) _).setCell (p := ⟨w.heap.size, 7, none⟩) (Nat.le_refl _) _).setCell (p := ⟨w.heap.size, 8, none⟩) (Nat.le_refl _) _)
    · obtain ⟨hyq, hyx⟩ := hnx (by omega)
      rw [← hy] at hyq
      rw [← hyq] at hyx
      have hne : ((y : Int) != (x : Int)) = true := by rw [bne_iff_ne]; omega
      have HL2 : Hid (q.take (i + 1 + 1) = l ++ [y]) := by rw [take_last (by omega), ← hl, ← hyq]; exact hideP rfl
      have hc7 : (cI l).length < 8 := by rw [cI_len, hll]; have := HL8.out; omega
      have WTH : Hid (∀ W, Calls Tryd.prog 68 #[.agg #[.int .i64 (xi (cI l) 0), .int .i64 (xi (cI l) 1), .int .i64 (xi (cI l) 2), .int .i64 (xi (cI l) 3), .int .i64 (xi (cI l) 4), .int .i64 (xi (cI l) 5), .int .i64 (xi (cI l) 6), .int .i64 (xi (cI l) 7), .int .i64 ((cI l).length : Int)], .int .i64 (y : Int)] W fun e w' => e = .returned (.agg #[.int .i64 (xi (cI (l ++ [y])) 0), .int .i64 (xi (cI (l ++ [y])) 1), .int .i64 (xi (cI (l ++ [y])) 2), .int .i64 (xi (cI (l ++ [y])) 3), .int .i64 (xi (cI (l ++ [y])) 4), .int .i64 (xi (cI (l ++ [y])) 5), .int .i64 (xi (cI (l ++ [y])) 6), .int .i64 (xi (cI (l ++ [y])) 7), .int .i64 ((cI (l ++ [y])).length : Int)]) ∧ Below W.heap.size W w') := fun W => with_to (cI l) (cI (l ++ [y])) (y : Int) W hc7 (cI_snoc l y)
      have hgk : 0 < gk := by omega
      have HI1 : Hid (i + 1 + 1 + (gk - 1) = q.length) := by show i + 1 + 1 + (gk - 1) = q.length; omega
      obtain ⟨l2, hl2⟩ : ∃ l2, l2 = cI (l ++ [y]) := ⟨_, rfl⟩
      rw [← hl2] at WTH
      have HL3 := hideP hl2
      clear hnx hrt hx hl hy hlast hyq hll hi hend hl2 hyx
      go_wp2
      go_region_held3 (fun w' => w'.cell? ⟨P, 0, none⟩ = some (.int .i64 (xi (cI l) 0)) ∧ w'.cell? ⟨P, 1, none⟩ = some (.int .i64 (xi (cI l) 1)) ∧ w'.cell? ⟨P, 2, none⟩ = some (.int .i64 (xi (cI l) 2)) ∧ w'.cell? ⟨P, 3, none⟩ = some (.int .i64 (xi (cI l) 3)) ∧ w'.cell? ⟨P, 4, none⟩ = some (.int .i64 (xi (cI l) 4)) ∧ w'.cell? ⟨P, 5, none⟩ = some (.int .i64 (xi (cI l) 5)) ∧ w'.cell? ⟨P, 6, none⟩ = some (.int .i64 (xi (cI l) 6)) ∧ w'.cell? ⟨P, 7, none⟩ = some (.int .i64 (xi (cI l) 7)) ∧ w'.cell? ⟨P, 8, none⟩ = some (.int .i64 ((cI l).length : Int)) ∧ w'.cell? ⟨A, x, none⟩ = some (.int .i64 (y : Int))) (first | exact HELD.out _ b4.out | exact HELD.out _ b3.out | exact HELD.out _ D0.out) (first | (go_at_call 92; refine (ENX.out w3).mono ?_; rintro e w4 ⟨rfl, hb4⟩; have b4 : Hid (Below wr.heap.size wr w4) := hideP (b3.out.trans (hb4.mono b3.out.size)); clear hb4) | (go_at_call 92; (with_reducible refine EN0.out.mono ?_); rintro e w3 ⟨rfl, hb3⟩; have b3 : Hid (Below wr.heap.size wr w3) := hideP (D0.out.trans hb3); clear hb3))
      have B4d : Hid (Below wr.heap.size wr w4.drew) := b4.out.drew
      have EN4 := hideP (ENX.out w4.drew)
      clear b3 EN0 D0
      obtain ⟨e0, e1, e2, e3, e4, e5, e6, e7, e8, eu⟩ := HELD.out _ b4.out
      go_wp2
      apply wp_weak1 (J := fun W => Clm us w W A P (l ++ [y]))
      case h =>
        go_region_law (first | (go_simp; go_at_call 68; refine (WTH.out w5).mono ?_; rintro e w6 ⟨rfl, hb6⟩; have b6 : Hid (Below wr.heap.size wr w6) := hideP (b5.out.trans (hb6.mono b5.out.size)); have hf6 : ∀ j, w6.frozen? ⟨P, j, none⟩ = false := (HC.out.p.below b6.out HC.out.p.2.2).2.1; have J6 := hideP (HC.out.stored b6.out HL3.out); obtain ⟨p0, p1, p2, p3, p4, p5, p6, p7, p8, pu⟩ := HELD.out _ b6.out; clear hb6) | (go_simp; go_at_call 92; (with_reducible refine EN4.out.mono ?_); rintro e w5 ⟨rfl, hb5⟩; have b5 : Hid (Below wr.heap.size wr w5) := hideP (B4d.out.trans (hb5.mono B4d.out.size)); obtain ⟨m0, m1, m2, m3, m4, m5, m6, m7, m8, mu⟩ := HELD.out _ b5.out; clear hb5))
        all_goals exact ⟨rfl, J6.out⟩
      intro W hJ
      have F := hideP hJ
      clear hJ HELD ENX EN4 WTH HC B4d b4
      go_wp2
      go_roundg (gk - 1)
      case measure => omega
      case rel => exact ⟨i + 1, HI1.out, by rw [HL2.out]; exact F.out⟩

end Go.Proofs.YtloicmngoaccoaaDoor
